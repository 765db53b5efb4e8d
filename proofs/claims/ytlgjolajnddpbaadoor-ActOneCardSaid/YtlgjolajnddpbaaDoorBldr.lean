/-
  A Builder whose bytes lie behind a place: WriteByte and String.
-/
import Derived.Test.YtlgjolajnddpbaaDoorShelf18
import Derived.Test.YtlgjolajnddpbaaDoorFoot
namespace Go.Proofs.YtlgjolajnddpbaaDoor
open Go Go.Shelf Go.RowKit

theorem bld_size : (Tryd.prog.info? 98).map (·.size) = some 2 := by kernel_rfl
theorem byte_info : (Tryd.prog.info? 5).map (fun i => (i.zero, i.size, i.bytes)) = some (some (.int .u8 0), 1, 1) := by kernel_rfl

set_option maxRecDepth 100000 in
set_option maxHeartbeats 1000000 in
theorem chk_used (b : Nat) (w : World) (h0 : w.cell? ⟨b, 0, none⟩ = some (.pointer (some ⟨b, 0, none⟩))) :
    Calls Tryd.prog 75 #[.pointer (some ⟨b, 0, none⟩)] w fun e w' => e = .returned (.tuple #[]) ∧ w' = w := by
  obtain ⟨j, hj, _⟩ := Option.map_eq_some_iff.1 bld_size
  go_enter Tryd.func75, Tryd.ntmps75
  go_wp2
  rw [Lib.run_neq_ptr_same w _ Tryd.underlying96 hj]
  go_wp2
  go_end0
  exact ⟨rfl, rfl⟩
set_option maxRecDepth 100000 in
set_option maxHeartbeats 1000000 in
theorem chk_fresh (b : Nat) (w : World) (h0 : w.cell? ⟨b, 0, none⟩ = some (.pointer none)) (hsh : w.shape? b = some (98, 2)) (hfz : w.frozen? ⟨b, 0, none⟩ = false) :
    Calls Tryd.prog 75 #[.pointer (some ⟨b, 0, none⟩)] w fun e w' => e = .returned (.tuple #[]) ∧ w' = w.setCell ⟨b, 0, none⟩ (.pointer (some ⟨b, 0, none⟩)) := by
  obtain ⟨j, hj, hjs⟩ := Option.map_eq_some_iff.1 bld_size
  go_enter Tryd.func75, Tryd.ntmps75
  go_wp2
  rw [Lib.run_to_unsafe w ⟨b, 0, none⟩ Tryd.underlying96 Tryd.underlying130 hj (by rw [hjs]; decide) hsh (Nat.zero_lt_succ 1)]
  simp only [Result.andThen]
  rw [Oper.upon_value]
  go_wp2
  rw [run_callFunc_extern Tryd.func93 (by kernel_rfl) (by kernel_rfl) (by kernel_rfl) (e := Extern.AbiNoEscape.same) (by kernel_rfl)]
  rw [Lib.run_noEscape]
  simp only [Result.andThen]
  rw [Oper.upon_value]
  go_wp2
  rw [Lib.run_from_unsafe w ⟨b, 0, none⟩ Tryd.underlying130 Tryd.underlying96 hj hsh Extra169.liesBuilder]
  simp only [Result.andThen]
  rw [Oper.upon_value]
  go_wp2
  go_end0
  exact ⟨rfl, rfl⟩

theorem Step.of_grownF {f : Nat → Prop} {A B : World} {r : Option Nat} (h : A.grownBy B r) (hr : ∀ k, r = some k → f k) : Step f f A B :=
  ⟨h.os, h.tape, h.output, h.size, fun k hk hn => h.block k hk (fun e => hn (hr k e.symm)), fun _ h => .inl h⟩
/-- At b lies a Builder that holds these bytes; its row lies from R on. -/
structure Bld (W : World) (b R : Nat) (l : List UInt8) : Prop where
  at_ : ∃ p v, (p = .pointer none ∨ p = .pointer (some ⟨b, 0, none⟩)) ∧ W.heap[b]? = some (.cells #[p, v] 98 (0, 0)) ∧ W.ownsRowF R 5 1 v (Lib.byteCells l).length (Lib.byteCells l)
  low : b < R
/-- What a write may turn. -/
def bldF (b R : Nat) : Nat → Prop := fun k => k = b ∨ R ≤ k

theorem Bld.is {W : World} {b R : Nat} {l : List UInt8} (h : Bld W b R l) : Lib.IsBuilderF 98 5 b b (Lib.byteCells l) W := by
  obtain ⟨⟨p, v, hp, hb, ho⟩, hl⟩ := h
  have ho' : W.ownsRowF b 5 1 v (Lib.byteCells l).length (Lib.byteCells l) := by
    obtain ⟨h1, h2⟩ := ho
    refine ⟨h1, h2.imp id ?_⟩
    rintro ⟨g, cap, cur, fz, e1, e2, e3⟩
    exact ⟨g, cap, cur, fz, e1, by omega, e3⟩
  have hne : v.ownBlock ≠ some b := by
    rcases ho.2 with ⟨e, _⟩ | ⟨g, cap, cur, fz, e1, e2, _⟩
    · rw [e]; simp [Value.ownBlock]
    · rw [e1]; simp only [Value.ownBlock]; intro e; cases e; omega
  rcases hp with rfl | rfl
  · exact .inl ⟨Nat.le_refl _, v, hb, ho', hne⟩
  · exact .inr ⟨Nat.le_refl _, v, hb, ho', hne⟩

theorem setAt_heap {W : World} {p o k : Nat} {u : Value} (h : k ≠ p) : (W.setCell ⟨p, o, none⟩ u).heap[k]? = W.heap[k]? := Below.heap_setCell _ _ _ _ (fun e => h e)

theorem bchk_any {W : World} {b R : Nat} {l : List UInt8} (h : Bld W b R l) (hR : R ≤ W.heap.size) : Calls Tryd.prog 75 #[.pointer (some ⟨b, 0, none⟩)] W fun e W' => e = .returned (.tuple #[]) ∧
    (∃ v, W'.heap[b]? = some (.cells #[.pointer (some ⟨b, 0, none⟩), v] 98 (0, 0)) ∧ W'.ownsRowF R 5 1 v (Lib.byteCells l).length (Lib.byteCells l)) ∧ Step (bldF b R) (bldF b R) W W' := by
  obtain ⟨⟨p, v, hp, hb, ho⟩, hl⟩ := h
  rcases hp with rfl | rfl
  · have hs : W.shape? b = some (98, 2) := by simp [World.shape?, hb]
    refine (chk_fresh b W ((cell_of hb).trans rfl) hs (by simp [World.frozen?, hb])).mono ?_
    rintro e w' ⟨rfl, rfl⟩
    refine ⟨rfl, ⟨v, (heap_setAt hb).trans rfl, ?_⟩, Step.setCell _ (.inl rfl)⟩
    obtain ⟨h1, h2⟩ := ho
    refine ⟨h1, h2.imp id ?_⟩
    rintro ⟨g, cap, cur, fz, e1, e2, e3, e4⟩
    exact ⟨g, cap, cur, fz, e1, e2, (setAt_heap (by omega)).trans e3, e4⟩
  · refine (chk_used b W ((cell_of hb).trans rfl)).mono ?_
    rintro e w' ⟨rfl, rfl⟩
    exact ⟨rfl, ⟨v, hb, ho⟩, Step.refl _ _⟩

set_option maxRecDepth 100000 in
set_option maxHeartbeats 4000000 in
theorem wbyte_any {W : World} {b R : Nat} {l : List UInt8} (h : Bld W b R l) (hR : R ≤ W.heap.size) (hlen : l.length + 1 ≤ 140737488355328) (c : UInt8) :
    Calls Tryd.prog 65 #[.pointer (some ⟨b, 0, none⟩), .int .u8 (c.toNat : Int)] W fun e W' => e = .returned .nilIface ∧ Bld W' b R (l ++ [c]) ∧ Step (bldF b R) (bldF b R) W W' := by
  obtain ⟨i0, hi, hz0, hz1, hz2⟩ := info_parts byte_info
  have HC := Lib.hid (bchk_any h hR)
  have hl := h.low
  have hlb : (Lib.byteCells l).length = l.length := by simp [Lib.byteCells]
  obtain ⟨z, hz⟩ : ∃ z, (c.toNat : Int) = z := ⟨_, rfl⟩
  have HL := Lib.hid (show Lib.byteCells l ++ [Value.int .u8 z] = Lib.byteCells (l ++ [c]) by rw [← hz]; simp [Lib.byteCells])
  rw [hz]
  obtain ⟨bs, hbs⟩ : ∃ bs, Lib.byteCells l = bs := ⟨_, rfl⟩
  rw [hbs] at HC HL hlb
  clear hz hbs h
  go_enter Tryd.func65, Tryd.ntmps65
  go_wp2_with fail
  refine (HC.out).mono ?_
  rintro e w1 ⟨rfl, ⟨v, hbk, hown⟩, hs1⟩
  have S1 := Lib.hid hs1
  have c0 : w1.cell? ⟨b, 0, none⟩ = some (.pointer (some ⟨b, 0, none⟩)) := (cell_of hbk).trans rfl
  have c1 : w1.cell? ⟨b, 1, none⟩ = some v := (cell_of hbk).trans rfl
  have hR1 : R ≤ w1.heap.size := Nat.le_trans hR hs1.size
  clear hs1
  go_wp2_with (at_builtin; refine wpList_append_ownF _ rfl _ _ 48 rfl R 5 i0 (.int .u8 0) 1 1 Tryd.underlying48 hi hz0 hz1 hz2 rfl (by decide) _ _ _ rfl (hown.alloc _) ⟨w1.heap.size, 0, none⟩ 1 1 [.int .u8 z] rfl rfl ?c1 ?c2 ?c3 ?c4 ?c5 ?_)
  case c1 =>
    intro j u hj
    match j, hj with
    | 0, hj => simp at hj; subst hj; simp [Addr.add]
  case c2 => intro u hu; simp at hu; subst hu; rfl
  case c3 => unfold maxLen; omega
  case c4 => omega
  case c5 => simp; omega
  intro v' w2 hown' hgrow _
  have hlt : b < w1.heap.size := heap_at_lt hbk
  have hb1 : (w1.alloc (.cells #[.int .u8 z] 5)).heap[b]? = some (.cells #[.pointer (some ⟨b, 0, none⟩), v] 98 (0, 0)) := ((below_alloc w1 _).block b hlt).trans hbk
  have hown1 := hown.alloc (.cells #[.int .u8 z] 5)
  have hown0 : v.ownBlock ≠ some b := by
    rcases hown.2 with ⟨e, _⟩ | ⟨g, cap, cur, fz, e1, e2, _⟩
    · rw [e]; simp [Value.ownBlock]
    · rw [e1]; simp only [Value.ownBlock]; intro e; cases e; omega
  have hb2 : w2.heap[b]? = some (.cells #[.pointer (some ⟨b, 0, none⟩), v] 98 (0, 0)) :=
    (hgrow.block b (by simp; omega) (fun e => hown0 e.symm)).trans hb1
  have d0 : w2.cell? ⟨b, 0, none⟩ = some (.pointer (some ⟨b, 0, none⟩)) := (cell_of hb2).trans rfl
  have d1 : w2.cell? ⟨b, 1, none⟩ = some v := (cell_of hb2).trans rfl
  have f1 : w2.frozen? ⟨b, 1, none⟩ = false := by simp [World.frozen?, hb2]
  obtain ⟨g, cap, rfl⟩ : ∃ g cap, v' = .slice (some ⟨g, 0, none⟩) (l.length + 1) cap := by
    rcases hown'.2 with ⟨_, h0⟩ | ⟨g, cap, cur, fz, hv, _⟩
    · omega
    · exact ⟨g, cap, hv⟩
  have HG := Lib.hid hgrow
  have HO := Lib.hid hown'
  have HB2 := Lib.hid hb2
  have HW := Lib.hid hown
  have hR2 : R ≤ w2.heap.size := Nat.le_trans hR1 (Nat.le_trans (by simp) hgrow.size)
  clear hgrow hown' hb2 hb1 hown hown1 hbk
  go_wp2
  go_ret
  refine ⟨rfl, ⟨⟨_, _, .inr rfl, (heap_setAt HB2.out).trans rfl, ?_⟩, hl⟩, S1.out.trans ((Step.of_below (below_alloc w1 _)).trans ((Step.of_grownF HG.out (fun k hk => ?_)).trans (Step.setCell _ (.inl rfl))))⟩
  · have ho := HO.out
    rw [HL.out] at ho
    have e0 : l.length + 1 = (Lib.byteCells (l ++ [c])).length := by rw [← HL.out]; simp [hlb]
    rw [e0] at ho ⊢
    obtain ⟨h1, h2⟩ := ho
    refine ⟨h1, h2.imp id ?_⟩
    rintro ⟨g', cap', cur, fz, e1, e2, e3, e4⟩
    exact ⟨g', cap', cur, fz, e1, e2, (setAt_heap (by omega)).trans e3, e4⟩
  · rcases HW.out.2 with ⟨e, _⟩ | ⟨g', cap', cur, fz, e1, e2, _⟩
    · rw [e] at hk; simp [Value.ownBlock] at hk
    · rw [e1] at hk; simp only [Value.ownBlock, Option.some.injEq] at hk; exact .inr (by omega)

end Go.Proofs.YtlgjolajnddpbaaDoor
