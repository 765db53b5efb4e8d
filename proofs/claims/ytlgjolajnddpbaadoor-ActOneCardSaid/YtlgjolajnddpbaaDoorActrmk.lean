/-
  The reference's Make.
-/
import Derived.Test.YtlgjolajnddpbaaDoorHrefop2
import Derived.Test.YtlgjolajnddpbaaDoorActst
import Derived.Test.YtlgjolajnddpbaaDoorHclone

namespace Go.Proofs.YtlgjolajnddpbaaDoor
open Go Go.RowKit
attribute [local go_sem ↓] Go.wp_at_zero Go.wp_at_succ

theorem info_blk : (Tryd.prog.info? 79).map (fun i => (i.zero, i.size, i.bytes)) = some (some (.agg #[.slice none 0 0, .string ⟨#[]⟩, .bool false]), 3, 48) := by kernel_rfl
theorem blk_news (w : World) (a : Value) (s : ByteArray) (h : Bool) (t : TypeId) : ∀ j u, [a, Value.string s, .bool h][j]? = some u → (w.alloc (.cells #[a, .string s, .bool h] t)).cell? ((⟨w.heap.size, 0, none⟩ : Addr).add j) = some u :=
  World.news_of_block (cs := #[a, .string s, .bool h]) (World.alloc_heap_new w _)
theorem blk_one (a : Option Addr) (n c : Nat) (s : ByteArray) (h : Bool) : ∀ u ∈ [Value.slice a n c, .string s, .bool h], u.oneCell' = true := by
  intro u hu
  simp only [List.mem_cons, List.not_mem_nil, or_false] at hu
  rcases hu with rfl | rfl | rfl <;> rfl

section
variable {W X Y : World} {B p : Nat} {D : HpD} {f : Nat → Prop} {v : Value} {g cp : Nat → Nat}
theorem RfAt.plt (h : RfAt W B p D f v g cp) : p < W.heap.size := heap_at_lt h.own

/-- A block is put behind the others. -/
theorem RfAt.grown (h : RfAt W B p D f v g cp) {l q n cap r cap' : Nat} {s : ByteArray} (hll : D.L.length = l) (hn : n ≤ 256) (hm : l < 1000000) (hX : Below W.heap.size W X) (hq : W.heap.size ≤ q)
    (hl : Lot X 32 1 (.slice (some ⟨q, 0, none⟩) n cap) n ((List.replicate n (0 : Int)).map uval))
    (hL : Lot Y 79 3 (.slice (some ⟨r, 0, none⟩) (l + 1) cap') (l + 1) (flatB g cp 0 D.L ++ [.slice (some ⟨q, 0, none⟩) n cap, .string s, .bool false]))
    (hg : X.grownBy Y v.ownBlock) (hat : v.ownBlock = some r ∨ r = X.heap.size) :
    RfR B p f W (.int .u64 ((l : Int) + 1)) (D.add ⟨List.replicate n 0, s, false⟩) (.returned (.int .u64 ((l : Int) + 1))) (Y.setCell ⟨p, 0, none⟩ (.slice (some ⟨r, 0, none⟩) (l + 1) cap')) := by
  subst hll
  have hp := h.plt
  have hsX := hX.size
  have hold : ∀ k, k < W.heap.size → v.ownBlock ≠ some k → Y.heap[k]? = W.heap[k]? := fun k hk hne => (hg.block k (by omega) (fun e => hne e.symm)).trans (hX.block k hk)
  have hvp : v.ownBlock ≠ some p := fun e => h.vp e rfl
  have hp1 := (hold p hp hvp).trans h.own
  have hqX : q < X.heap.size := hl.lt q rfl
  have hqv : v.ownBlock ≠ some q := fun e => by have := h.lt q (h.fv e); omega
  have hl2 : Lot Y 32 1 (.slice (some ⟨q, 0, none⟩) n cap) n ((List.replicate n (0 : Int)).map uval) := hl.stays (fun k hk => by
    obtain rfl : q = k := by simpa [Value.ownBlock] using hk
    exact hg.block _ hqX (fun e => hqv e.symm))
  have hrp : r ≠ p := fun e => by
    obtain ⟨cur, h1⟩ := hL.tag (k := r) rfl
    rw [e, hp1] at h1
    exact absurd (Obj.cells.inj (Option.some.inj h1)).2.1 (by decide)
  have hrq : r ≠ q := fun e => by
    obtain ⟨cur, h1⟩ := hL.tag (k := r) rfl
    obtain ⟨cur2, h2⟩ := hl2.tag (k := q) rfl
    rw [e, h2] at h1
    exact absurd (Obj.cells.inj (Option.some.inj h1)).2.1 (by decide)
  have hset : ∀ k, k ≠ p → (Y.setCell ⟨p, 0, none⟩ (.slice (some ⟨r, 0, none⟩) (D.L.length + 1) cap')).heap[k]? = Y.heap[k]? := fun k hk => Below.heap_setCell _ _ _ _ hk
  have hrow : ∀ j b, (D.L ++ [(⟨List.replicate n 0, s, false⟩ : BlkD)])[j]? = some b → (j < D.L.length ∧ D.L[j]? = some b) ∨ (j = D.L.length ∧ b = ⟨List.replicate n 0, s, false⟩) := fun j b hj => by
    rcases Nat.lt_trichotomy j D.L.length with hlt | he | hgt
    · rw [List.getElem?_append_left hlt] at hj; exact .inl ⟨hlt, hj⟩
    · subst he
      rw [List.getElem?_append_right (Nat.le_refl _), Nat.sub_self] at hj
      simp at hj
      exact .inr ⟨rfl, hj.symm⟩
    · rw [List.getElem?_eq_none (by simp; omega)] at hj; cases hj
  have hfoot : ∀ k, (k = p ∨ (Value.slice (some ⟨r, 0, none⟩) (D.L.length + 1) cap').ownBlock = some k ∨ ∃ j b, (D.L ++ [(⟨List.replicate n 0, s, false⟩ : BlkD)])[j]? = some b ∧ (if j = D.L.length then q else g j) = k) → f k ∨ W.heap.size ≤ k := by
    rintro k (rfl | hk | ⟨j, b, hj, hk⟩)
    · exact .inl h.self
    · obtain rfl : r = k := by simpa [Value.ownBlock] using hk
      rcases hat with h0 | h0
      · exact .inl (h.fv h0)
      · exact .inr (by omega)
    · rcases hrow j b hj with ⟨hlt, hj⟩ | ⟨he, _⟩
      · rw [if_neg (by omega)] at hk
        rw [← hk]; exact .inl (h.fg hj)
      · rw [if_pos he] at hk
        exact .inr (by omega)
  have hB : B ≤ W.heap.size := Nat.le_trans (h.base p h.self) (Nat.le_of_lt hp)
  have s3 := Step.setCell (f := fun k => k = p) (A := Y) (r := p) (o := 0) (.slice (some ⟨r, 0, none⟩) (D.L.length + 1) cap') rfl
  refine ⟨_, rfl, ⟨.slice (some ⟨r, 0, none⟩) (D.L.length + 1) cap', fun j => if j = D.L.length then q else g j, fun j => if j = D.L.length then cap else cp j, ?_⟩,
    s3.os.trans (hg.os.trans hX.os), s3.tape.trans (hg.tape.trans hX.tape), s3.output.trans (hg.output.trans hX.output), Nat.le_trans hsX (Nat.le_trans hg.size s3.size),
    fun k hk hn => (hset k (fun e => hn (by rw [e]; exact h.self))).trans (hold k hk (fun e => hn (h.fv e))), hfoot⟩
  refine ⟨(heap_setAt hp1).trans rfl, ?_, fun j b hj => ?_, fun j k b c hj hk he => ?_, rfl, fun k hk => ?_, ⟨?_, h.many.2⟩, fun j b hj => ?_⟩
  · have e1 : (D.add ⟨List.replicate n 0, s, false⟩).L = D.L ++ [⟨List.replicate n 0, s, false⟩] := rfl
    rw [e1, List.length_append, List.length_singleton, flatB_snoc]
    rw [flatB_same (g' := g) (cp' := cp) 0 D.L (fun j hj => by simp only [Nat.zero_add]; rw [if_neg (by omega), if_neg (by omega)]; exact ⟨rfl, rfl⟩)]
    have e2 : rowB (fun j => if j = D.L.length then q else g j) (fun j => if j = D.L.length then cap else cp j) (0 + D.L.length) ⟨List.replicate n 0, s, false⟩ = [.slice (some ⟨q, 0, none⟩) n cap, .string s, .bool false] := by
      simp [rowB]
    rw [e2]
    exact hL.stays (fun k hk => by
      obtain rfl : r = k := by simpa [Value.ownBlock] using hk
      exact hset _ hrp)
  · rcases hrow j b hj with ⟨hlt, hj⟩ | ⟨he, hb⟩
    · rw [if_neg (by omega), if_neg (by omega)]
      refine (h.lie j b hj).stays (fun k hk => ?_)
      obtain rfl : g j = k := by simpa [Value.ownBlock] using hk
      exact (hset _ (h.gp hj)).trans (hold _ (h.lt _ (h.fg hj)) (fun e => h.gv hj e rfl))
    · rw [if_pos he, if_pos he, hb]
      simp only [List.length_replicate]
      exact hl2.stays (fun k hk => by
        obtain rfl : q = k := by simpa [Value.ownBlock] using hk
        exact hset _ (by omega))
  · rcases hrow j b hj with ⟨hlt, hj⟩ | ⟨hj', _⟩ <;> rcases hrow k c hk with ⟨hlk, hk⟩ | ⟨hk', _⟩
    · rw [if_neg (by omega), if_neg (by omega)] at he
      exact h.apart j k b c hj hk he
    · rw [if_neg (by omega), if_pos hk'] at he
      have := h.lt _ (h.fg hj); omega
    · rw [if_pos hj', if_neg (by omega)] at he
      have := h.lt _ (h.fg hk); omega
    · omega
  · rcases hfoot k hk with h0 | h0
    · exact h.base k h0
    · omega
  · show (D.L ++ [_]).length ≤ 1000000
    simp; omega
  · rcases hrow j b hj with ⟨hlt, hj⟩ | ⟨he, hb⟩
    · exact h.fits j b hj
    · rw [hb]; simpa using hn

theorem RfAt.grown_at (h : RfAt W B p D f v g cp) (hX : Below W.heap.size W X) (hg : X.grownBy Y v.ownBlock) : Y.cell? ⟨p, 0, none⟩ = some v ∧ Y.frozen? ⟨p, 0, none⟩ = false := by
  have hp := h.plt
  have hsX := hX.size
  have hp1 := ((hg.block p (by omega) (fun e => h.vp e.symm rfl)).trans (hX.block p hp)).trans h.own
  exact ⟨(cell_of hp1).trans rfl, by simp [World.frozen?, hp1]⟩

/-- The row of zeros that Make lays. -/
structure ZRow (W : World) (q cap k : Nat) (X : World) : Prop where
  lot : Lot X 32 1 (.slice (some ⟨q, 0, none⟩) k cap) k ((List.replicate k (0 : Int)).map uval)
  base : W.heap.size ≤ q
  low : Below W.heap.size W X
theorem ZRow.start (W : World) : ZRow W W.heap.size 0 0 (W.alloc (.cells #[] 32)) := ⟨Lot.none' W _ 1, Nat.le_refl _, below_alloc W _⟩
theorem ZRow.below {q cap k : Nat} (h : ZRow W q cap k X) (hb : Below X.heap.size X Y) : ZRow W q cap k Y := ⟨h.lot.below hb, h.base, h.low.trans (hb.mono h.low.size)⟩
theorem ZRow.grow {q cap k q' cap' : Nat} (h : ZRow W q cap k X) (hL : Lot Y 32 1 (.slice (some ⟨q', 0, none⟩) (k + 1) cap') (k + 1) ((List.replicate k (0 : Int)).map uval ++ [.int .u64 0])) (hg : X.grownBy Y (Value.slice (some ⟨q, 0, none⟩) k cap).ownBlock) (hat : (Value.slice (some ⟨q, 0, none⟩) k cap).ownBlock = some q' ∨ q' = X.heap.size) : ZRow W q' cap' (k + 1) Y := by
  refine ⟨?_, ?_, h.low.grown hg h.low.size (fun j hj => ?_)⟩
  · rw [List.replicate_succ', List.map_append]; exact hL
  · rcases hat with h0 | h0
    · obtain rfl : q = q' := by simpa [Value.ownBlock] using h0
      exact h.base
    · have := h.low.size; omega
  · obtain rfl : q = j := by simpa [Value.ownBlock] using hj
    exact h.base
end

section
variable {B p : Nat} {D : HpD} {f : Nat → Prop}
theorem rmake_bad (W : World) (c : Int) (s : ByteArray) (hc : okay c = false) :
    Calls Tryd.prog 41 #[.pointer (some ⟨p, 0, none⟩), .int .i64 c, .string s] W fun e W' => e = .returned (.int .u64 0) ∧ W = W' := by
  have hor : c < 0 ∨ (0 ≤ c ∧ 256 < c) := by unfold okay at hc; have := of_decide_eq_false hc; omega
  clear hc
  rcases hor with hc | ⟨hc0, hc⟩
  all_goals
    go_enter Tryd.func41, Tryd.ntmps41
    go_wp2_with fail
    go_ret
    exact ⟨rfl, rfl⟩

set_option maxRecDepth 100000 in
set_option maxHeartbeats 2000000 in
theorem rmake_good (W : World) (h : Rf W B p D f) (hm : D.L.length < 1000000) (n : Nat) (hn : n ≤ 256) (s : ByteArray) :
    Calls Tryd.prog 41 #[.pointer (some ⟨p, 0, none⟩), .int .i64 (n : Int), .string s] W (RfR B p f W (.int .u64 ((D.L.length + 1 : Nat) : Int)) (D.add ⟨List.replicate n 0, s, false⟩)) := by
  obtain ⟨v, g, cp, h⟩ := h
  obtain ⟨l, hl⟩ : ∃ l, D.L.length = l := ⟨_, rfl⟩
  rw [show ((D.L.length + 1 : Nat) : Int) = (l : Int) + 1 from by rw [hl]; rfl]
  obtain ⟨i0, gi, gz0, gz1, gz2⟩ := info_parts info_u64
  obtain ⟨i1, gj, gy0, gy1, gy2⟩ := info_parts info_blk
  rw [hl] at hm
  have hl0 : (0 : Int) ≤ (l : Int) := by omega
  have hl1 : (l : Int) ≤ 1000000 := by omega
  have hn1 : (n : Int) ≤ 256 := by omega
  have hn0 : (0 : Int) ≤ (n : Int) := by omega
  obtain ⟨a, vc, hv⟩ := h.row.form
  rw [hl] at hv
  have HV := Lib.hid hv
  have HC := Lib.hid (fun X (hX : Below W.heap.size W X) => by have := (h.below hX).cells; rw [hv] at this; exact this)
  have HR := Lib.hid (fun X (hX : Below W.heap.size W X) => by have := h.row.below hX; rw [hl, hv] at this; exact this)
  have HG := Lib.hid (fun X Y q cap r cap' hX hq hz hL hg hat => h.grown (X := X) (Y := Y) (q := q) (cap := cap) (r := r) (cap' := cap') (s := s) hl hn hm hX hq hz hL hg hat)
  have HGA := Lib.hid (fun X Y hX hg => h.grown_at (X := X) (Y := Y) hX hg)
  have HP := Lib.hid h.plt
  clear h hv hm hn hl
  go_enter Tryd.func41, Tryd.ntmps41
  go_wp2_with fail
  have H0 := Lib.hid (ZRow.start W)
  go_loopw [7, 8] (fun lv i wr => ∃ (k q cap : Nat), lv = .slice (some ⟨q, 0, none⟩) k cap ∧ i = .int .i64 k ∧ k ≤ n ∧ Hid (ZRow W q cap k wr)) (fun _ i _ => n - (intOf i).toNat)
  case atStart => exact ⟨0, _, 0, rfl, rfl, Nat.zero_le _, H0⟩
  case round =>
    clear H0
    obtain ⟨k, q, cap, rfl, rfl, hkn, HZ⟩ := hrel
    have hk0 : (0 : Int) ≤ (k : Int) := by omega
    by_cases hlt : k < n
    · have hk1 : (k : Int) < (n : Int) := by omega
      have hE1 : k + 1 ≤ maxLen := by unfold maxLen; omega
      have hE2 : (k + 1) * 8 ≤ 140737488355328 := by omega
      have HZ2 := Lib.hid (HZ.out.below (below_alloc wr (.cells #[.int .u64 0] 32)))
      go_wp2_with (at_builtin; refine wpList_append_lot _ rfl _ _ 43 rfl 32 i0 _ 1 8 Tryd.underlying43 gi gz0 gz1 gz2 rfl (.slice (some ⟨q, 0, none⟩) k cap) k _ rfl HZ2.out.lot ⟨wr.heap.size, 0, none⟩ 1 1 [.int .u64 0] rfl rfl (cell_one_new _ _ _) (by simp [Value.oneCell']) (by omega) hE1 hE2 _ rfl ?_; intro g4 cap4 w4 hL4 hg4 hat4; have HZ4 := Lib.hid (HZ2.out.grow hL4 hg4 hat4); clear hL4 hg4 hat4)
      go_roundw
      case rel => exact ⟨k + 1, g4, cap4, rfl, by go_num, by omega, HZ4⟩
      case measure => simp [intOf]; omega
    · obtain rfl : n = k := by omega
      clear hlt hkn
      have HZ2 := Lib.hid (HZ.out.below (below_alloc wr (.cells #[.slice (some ⟨q, 0, none⟩) n cap, .string s, .bool false] 79)))
      have hE1 : l + 1 ≤ maxLen := by unfold maxLen; omega
      have hE2 : (l + 1) * 48 ≤ 140737488355328 := by omega
      obtain ⟨c1, c2, c3, c4, c5, c6⟩ := HC.out _ HZ.out.low
      clear c2 c3 c5 c6
      have HR2 := Lib.hid (HR.out _ HZ2.out.low)
      go_wp2_with (at_builtin; refine wpList_append_lot _ rfl _ _ 28 rfl 79 i1 _ 3 48 Tryd.underlying28 gj gy0 gy1 gy2 rfl (.slice a l vc) l _ rfl HR2.out ⟨wr.heap.size, 0, none⟩ 1 1 [.slice (some ⟨q, 0, none⟩) n cap, .string s, .bool false] rfl rfl (blk_news _ _ _ _ _) (blk_one _ _ _ _ _) (by omega) hE1 hE2 _ rfl ?_; intro r cap4 w4 hL4 hg4 hat4; have HF := Lib.hid (HG.out _ _ q cap r cap4 HZ2.out.low HZ2.out.base HZ2.out.lot hL4 (by rw [HV.out]; exact hg4) (by rw [HV.out]; exact hat4)); obtain ⟨k0, k1⟩ := HGA.out _ _ HZ2.out.low (by rw [HV.out]; exact hg4); rw [HV.out] at k0; clear hL4 hg4 hat4)
      go_ret
      exact HF.out
end
theorem rmake_all {B p : Nat} {D : HpD} {f : Nat → Prop} (W : World) (h : Rf W B p D f) (hm : D.L.length < 1000000) (c : Int) (s : ByteArray) :
    Calls Tryd.prog 41 #[.pointer (some ⟨p, 0, none⟩), .int .i64 c, .string s] W (RfR B p f W (.int .u64 (makeV D c)) (makeD D c s)) := by
  cases hc : okay c with
  | true =>
    obtain ⟨n, rfl, hn⟩ := okay_nat hc
    have := rmake_good W h hm n hn s
    unfold makeV makeD
    rw [if_pos hc, if_pos hc]
    exact this
  | false =>
    refine (rmake_bad (p := p) W c s hc).mono fun e W' he => ?_
    obtain ⟨rfl, rfl⟩ := he
    unfold makeV makeD
    rw [if_neg (by rw [hc]; decide), if_neg (by rw [hc]; decide)]
    exact ⟨f, rfl, h, Step.refl _ _⟩

end Go.Proofs.YtlgjolajnddpbaaDoor
