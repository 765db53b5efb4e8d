/-
  A key that stands on a shelf is found there still: the walk.
-/
import Derived.Test.YtdnjlpccopeagaaFrnd
import Derived.Test.YtdnjlpccopeagaaDrawn2
import Derived.Deep.RegionHeld3
import Derived.StillTailTactics
import Derived.Maps.AppendAt
import Derived.Deep.DeepCutAuto
import Derived.Deep.CutBlock
namespace Go.Proofs.Ytdnjlpccopeagaa
open Go Go.RowKit
attribute [local go_sem ↓] Go.wp_at_zero Go.wp_at_succ

theorem run_append_zero {P : Program} (w : World) (t ty e : TypeId) (i : TypeInfo) (ht : P.underlying t = some (.slice e)) (hi : P.info? e = some i) (b p : Option Addr) (n cap c : Nat) (hnc : n ≤ cap) (hb : b = none → cap = 0) (hn63 : cap ≤ maxLen) :
    (Builtin.append_ #[t, t] ty #[.slice b n cap, .slice p 0 c]).run P w = .ok (.slice b n cap) w := by
  have h1 : ¬ cap < n := by omega
  cases b with
  | none =>
    obtain rfl := hb rfl
    obtain rfl : n = 0 := by omega
    cases p <;> simp [Builtin.append_, run_underlying ht, sizeOf, typeInfo, hi, Builtin.lenOf, Builtin.firstCells, loadCells, loadCellsFrom]
  | some a =>
    cases p <;> simp [Builtin.append_, run_underlying ht, sizeOf, typeInfo, hi, Builtin.lenOf, Builtin.firstCells, loadCells, loadCellsFrom, hnc, storeCells]

theorem wpList_append_zero {P : Program} {ops : Array Oper} {rest : List Oper} {o : Oper} {a : Act} {w : World} {Q : Exit → Act → World → Prop} (hgd : o.guard = none) (s x : Operand) (t : TypeId)
    (ho : o.op = .call { callee := .builtin .append, args := #[s, x], argTypes := #[t, t] }) (e : TypeId) (i : TypeInfo) (ht : P.underlying t = some (.slice e)) (hi : P.info? e = some i) (b p : Option Addr) (n cap c : Nat)
    (hs : a.eval s = .slice b n cap) (hx : a.eval x = .slice p 0 c) (hnc : n ≤ cap) (hb : b = none → cap = 0) (hn63 : cap ≤ maxLen) (h : wpList P ops Q rest (a.put o.dst (.slice b n cap)) w) : wpList P ops Q (o :: rest) a w := by
  refine wpList_plain hgd fun K hK => ?_
  have hr := run_append_zero (P := P) w t o.type e i ht hi b p n cap c hnc hb hn63
  unfold Oper.wp execOp
  simp only [ho, resolve, invoke, builtin, Sem.run_bind, Sem.run_pure, Result.andThen_ok, List.map_toArray, List.map_cons, List.map_nil, hs, hx, hr]
  exact hK _ _ h

theorem info_string : (Try.prog.info? 9).map (fun i => (i.zero, i.size, i.bytes)) = some (some (.string ⟨#[]⟩), 1, 16) := by kernel_rfl
/-- The row of all keys. -/
def rowT (A : List ByteArray) : List Value := A.map Value.string
theorem rowT_at {A : List ByteArray} {j : Nat} (hj : j < A.length) : (rowT A)[j]? = some (.string A[j]) := by unfold rowT; rw [List.getElem?_map, List.getElem?_eq_getElem hj]; rfl
/-- All keys lie in a row at g. -/
def AllAt (X : World) (g n cap : Nat) (A : List ByteArray) (o : Obj) : Prop := A.length = n ∧ n ≤ cap ∧ cap ≤ maxLen ∧ X.heap[g]? = some o ∧ ∃ cur, o = .cells cur 9 (0, 0) ∧ cur.toList.take n = rowT A
theorem AllAt.cell {X : World} {g n cap : Nat} {A : List ByteArray} {o : Obj} (h : AllAt X g n cap A o) {Y : World} (hY : Y.heap[g]? = some o) {j : Nat} (hj : j < A.length) : Y.cell? ⟨g, j, none⟩ = some (.string A[j]) := by
  obtain ⟨h1, h2, h3, h4, cur, rfl, h5⟩ := h
  rw [cell_of hY]
  have e : cur.toList[j]? = (rowT A)[j]? := by rw [← h5, List.getElem?_take, if_pos (by omega)]
  rw [rowT_at hj] at e
  simpa using e

theorem rnd_start {W X Y : World} {a p s q v x : Int} {B hp g : Nat} {D : HpD} {f : Nat → Prop} {o : Obj} (h : BoxC W a p s q v x X) (hh : Hp X B hp D f) (hB : W.heap.size < B) (hb : Below X.heap.size X Y) (hg : X.heap.size ≤ g) (ho : Y.heap[g]? = some o) : Rnd W a p s q v x B hp D [(g, o)] Y := by
  have hlt := heap_at_lt h.b
  refine ⟨(hb.block _ hlt).trans h.b, h.lo.trans (hb.mono h.lo.size), hB, f, hh.below hb, fun u hu => ?_⟩
  obtain rfl := List.mem_singleton.1 hu
  exact ⟨ho, Nat.lt_of_lt_of_le hlt hg, fun hf => by have := hh.lt _ hf; simp only at this; omega⟩

/-- Between two rounds. -/
def StayI (W : World) (a p s q v x : Int) (key : ByteArray) (B hp g : Nat) (o : Obj) (k : Nat) (at_ : Int) (X : World) : Prop :=
  ∃ (D : HpD) (K : Shelves), Rnd W a p s q v x B hp D [(g, o)] X ∧ Field (newF a p s q v x key) D K ∧ D.L.length ≤ 1 + k ∧
    ((k = 0 ∧ K = fun _ => none) ∨ (1 ≤ k ∧ at_ = (newF a p s q v x key).way 0 ∧ K ((newF a p s q v x key).way 0) = some key.toList))
/-- Behind the look of a round, and what was put. -/
def StayJ (W : World) (a p s q v x : Int) (key : ByteArray) (B hp g : Nat) (o : Obj) (k m : Nat) (f : Obj) (X : World) : Prop :=
  ∃ (D : HpD) (K : Shelves), Rnd W a p s q v x B hp D [(m, f), (g, o)] X ∧ Field (newF a p s q v x key) D K ∧ D.L.length ≤ 1 + (k + 1) ∧ K ((newF a p s q v x key).way 0) = some key.toList
/-- What a look comes to, and what stands when it has been put. -/
theorem stay_look {a p s q v x : Int} {key t : ByteArray} {k : Nat} {at_ : Int} {K : Shelves} (hr : rightC a p s q v = true) (ht : k = 0 → t = key)
    (hor : (k = 0 ∧ K = fun _ => none) ∨ (1 ≤ k ∧ at_ = (newF a p s q v x key).way 0 ∧ K ((newF a p s q v x key).way 0) = some key.toList)) :
    ∃ kk sh, (seenF K (newF a p s q v x t)).1.k = kk ∧ (seenF K (newF a p s q v x t)).1.sh = sh ∧ kk ≠ 0 ∧ (k = 0 → sh = (newF a p s q v x key).way 0) ∧
      ((kk = 2 ∧ 0 ≤ sh ∧ sh < s ∧ K sh = none ∧ (K.put sh t.toList) ((newF a p s q v x key).way 0) = some key.toList) ∨ (kk ≠ 2 ∧ K ((newF a p s q v x key).way 0) = some key.toList)) := by
  have hs := (rightC_bd hr).2.2
  rcases hor with ⟨h0, rfl⟩ | ⟨h1, _, h3⟩
  · obtain rfl := ht h0
    obtain ⟨e1, e2, _⟩ := findK_empty (d := newF a p s q v x t) (by show 1 ≤ s; omega)
    have hw := way_in (newF a p s q v x t) (i := 0) (by show ((0 : Nat) : Int) < s; omega)
    refine ⟨2, _, e1, e2, by decide, fun _ => rfl, .inl ⟨rfl, hw.1, hw.2, rfl, ?_⟩⟩
    unfold Shelves.put
    rw [if_pos rfl]
  · rcases findK_cases K (newF a p s q v x t) with ⟨e, w0, w1, hn, _⟩ | ⟨e, _⟩ | ⟨e, _⟩
    · refine ⟨2, _, e, rfl, by decide, fun h => by omega, .inl ⟨rfl, w0, w1, hn, ?_⟩⟩
      unfold Shelves.put
      rw [if_neg (fun he => by rw [← he, h3] at hn; cases hn)]
      exact h3
    · exact ⟨1, _, e, rfl, by decide, fun h => by omega, .inr ⟨by decide, h3⟩⟩
    · exact ⟨3, _, e, rfl, by decide, fun h => by omega, .inr ⟨by decide, h3⟩⟩

set_option maxRecDepth 100000 in
set_option maxHeartbeats 8000000 in
theorem stays_walk (a p s q v x : Int) (key : ByteArray) (ga : Option Addr) (n c : Nat) (L : List ByteArray) (W : World)
    (hS : St W ga L) (hl : L.length = n) (hga : ∀ a, ga = some a → a.block < W.heap.size) :
    Calls Try.prog 5 #[cfV a p s q v x, .string key, .slice ga n c] W (Says true W) := by
  have X0 := Lib.hid (BoxC.start W a p s q v x)
  obtain ⟨c0, c1, c2, c3, c4, c5⟩ := X0.out.six
  have HRr := Lib.hid (fun X : World => cright_any a p s q v x X)
  by_cases hbad : rightC a p s q v = false ∨ 40 < n ∨ 100 < key.size
  · clear hS hga hl
    go_enter Try.func5, Try.ntmps5
    go_wp2_with fail
    refine (HRr.out _).mono ?_
    rintro en w1 ⟨rfl, hb⟩
    have B1 := Lib.hid (X0.out.lo.trans (hb.mono X0.out.lo.size))
    clear hb c0 c1 c2 c3 c4 c5 X0
    cases hr : rightC a p s q v with
    | false =>
      clear hbad
      go_wp2_with fail
      refine (awake_any _).mono ?_
      rintro en w2 ⟨rfl, hb⟩
      have B2 := Lib.hid (B1.out.trans (hb.mono B1.out.size))
      clear hb
      go_wp2_with fail
      go_ret
      exact Says.mk rfl B2.out
    | true =>
      by_cases h40 : 40 < n
      · have hz : (40 : Int) < (n : Int) := by omega
        clear hbad
        go_wp2_with fail
        refine (awake_any _).mono ?_
        rintro en w2 ⟨rfl, hb⟩
        have B2 := Lib.hid (B1.out.trans (hb.mono B1.out.size))
        clear hb
        go_wp2_with fail
        go_ret
        exact Says.mk rfl B2.out
      · have hz : ¬ (40 : Int) < (n : Int) := by omega
        have hz2 : (100 : Int) < (key.size : Int) := by
          rcases hbad with e | e | e
          · rw [hr] at e; cases e
          · omega
          · omega
        clear hbad
        go_wp2_with fail
        refine (awake_any _).mono ?_
        rintro en w2 ⟨rfl, hb⟩
        have B2 := Lib.hid (B1.out.trans (hb.mono B1.out.size))
        clear hb
        go_wp2_with fail
        go_ret
        exact Says.mk rfl B2.out
  have hr : rightC a p s q v = true := by
    cases h : rightC a p s q v with
    | true => rfl
    | false => exact absurd (.inl h) hbad
  have hz : ¬ (40 : Int) < (n : Int) := fun h => hbad (.inr (.inl (by omega)))
  have hz40 : (n : Int) ≤ 40 := by omega
  have hz2 : ¬ (100 : Int) < (key.size : Int) := fun h => hbad (.inr (.inr (by omega)))
  have hk100 : key.size ≤ 100 := by omega
  rw [hr] at HRr
  have HFl := Lib.hid (fun X : World => field_any X a p s q v x hr)
  have HSt := Lib.hid hS
  have HL := Lib.hid (And.intro hl (And.intro hga (And.intro hr hk100)))
  clear hS hl hga hr hbad hk100
  go_enter Try.func5, Try.ntmps5
  go_wp2_with fail
  refine (HRr.out _).mono ?_
  rintro en w1 ⟨rfl, hb⟩
  have X1 := Lib.hid (X0.out.below hb)
  clear hb c0 c1 c2 c3 c4 c5 X0
  obtain ⟨c0, c1, c2, c3, c4, c5⟩ := X1.out.six
  go_wp2_with fail
  refine (HFl.out _).mono ?_
  rintro en w2 ⟨B, hp, f2, rfl, hB, h2, hb⟩
  have X2 := Lib.hid (X1.out.below hb)
  have H2 := Lib.hid h2
  have HB2 := Lib.hid (show W.heap.size < B from Nat.lt_of_lt_of_le (heap_at_lt X1.out.b) hB)
  clear hb h2 hB c0 c1 c2 c3 c4 c5 X1 HRr HFl
  obtain ⟨i0, gi, gz0, gz1, gz2⟩ := info_parts info_string
  go_upto_region 5 with fail
  go_cut [9] (fun s9 wx => ∃ (g cap : Nat) (o : Obj), s9 = .slice (some ⟨g, 0, none⟩) (n + 1) cap ∧ Hid (AllAt wx g (n + 1) cap (key :: L) o) ∧ Hid (Rnd W a p s q v x B hp (fieldD (sizeW a p s q v).toNat) [(g, o)] wx))
  case first => as_aux_lemma =>
    have hb3 := below_alloc w2 (.cells #[.string key] 9)
    have hn3 := World.alloc_heap_new w2 (.cells #[.string key] 9)
    by_cases hn0 : n = 0
    · subst hn0
      have hA := Lib.hid (show AllAt (w2.alloc (.cells #[.string key] 9)) w2.heap.size (0 + 1) 1 (key :: L) (.cells #[.string key] 9 (0, 0)) from by
        have : L = [] := List.eq_nil_of_length_eq_zero HL.out.1
        subst this
        exact ⟨rfl, Nat.le_refl _, by unfold maxLen; omega, hn3, _, rfl, rfl⟩)
      have hR := Lib.hid (rnd_start X2.out H2.out HB2.out hb3 (Nat.le_refl _) hn3)
      clear hb3 hn3
      go_wp2_with (at_builtin; refine wpList_append_zero rfl _ _ 47 rfl 9 i0 Try.underlying47 gi (some ⟨w2.heap.size, 0, none⟩) ga 1 1 c rfl rfl (by omega) (fun h => by cases h) (by unfold maxLen; omega) ?_)
      go_meet
      case rel => exact ⟨w2.heap.size, 1, _, rfl, hA, hR⟩
    · have hn1 : 0 < n := by omega
      obtain ⟨kb, ko, hga, -⟩ := HSt.out 0 (by rw [HL.out.1]; exact hn1)
      have hlow : Below W.heap.size W (w2.alloc (.cells #[.string key] 9)) := X2.out.lo.trans (hb3.mono X2.out.lo.size)
      have hnews : ∀ j u, (rowT L)[j]? = some u → (w2.alloc (.cells #[.string key] 9)).cell? ((⟨kb, ko, none⟩ : Addr).add j) = some u := fun j u hu => by
        have hj : j < L.length := by
          rcases Nat.lt_or_ge j L.length with h | h
          · exact h
          · rw [List.getElem?_eq_none (by unfold rowT; simpa using h)] at hu; cases hu
        rw [rowT_at hj] at hu
        cases hu
        obtain ⟨b', o', e, hc⟩ := (HSt.out.grow hlow) j hj
        rw [hga] at e
        cases e
        rw [Addr.add_lit]; exact hc
      have hlot : Lot (w2.alloc (.cells #[.string key] 9)) 9 1 (.slice (some ⟨w2.heap.size, 0, none⟩) 1 1) 1 [.string key] := ⟨rfl, .inr ⟨_, 1, _, rfl, hn3, Nat.le_refl _, by unfold maxLen; omega, by simp, rfl⟩⟩
      have HNw := Lib.hid hnews
      have HLt := Lib.hid hlot
      have hone : ∀ u ∈ rowT L, u.oneCell' = true := fun u hu => by
        obtain ⟨t, _, rfl⟩ := List.mem_map.1 hu
        rfl
      have hlen : (rowT L).length = n * 1 := by unfold rowT; rw [List.length_map, HL.out.1]; omega
      have HB3 := Lib.hid hb3
      have h63 : 1 + n ≤ maxLen := by unfold maxLen; omega
      have h64 : (1 + n) * 16 ≤ 140737488355328 := by omega
      subst hga
      clear hb3 hn3 hlow hnews hlot hn0
      go_wp2_with (at_builtin; refine wpList_append_lot _ rfl _ _ 47 rfl 9 i0 _ 1 16 Try.underlying47 gi gz0 gz1 gz2 rfl (.slice (some ⟨w2.heap.size, 0, none⟩) 1 1) 1 [.string key] rfl HLt.out ⟨kb, ko, none⟩ n c (rowT L) rfl hlen HNw.out hone hn1 h63 h64 _ rfl ?_; intro g4 cap4 w4 hL4 hg4 hat4)
      have hge : w2.heap.size ≤ g4 := by
        rcases hat4 with h0 | h0
        · have : w2.heap.size = g4 := by simpa [Value.ownBlock] using h0
          omega
        · rw [h0]; simp
      have hb4 : Below w2.heap.size w2 w4 := HB3.out.grown hg4 HB3.out.size (fun k hk => by
        have : w2.heap.size = k := by simpa [Value.ownBlock] using hk
        omega)
      obtain ⟨hl1, hor⟩ := hL4
      obtain ⟨cur, hcur, hle, hcap, hcs⟩ : ∃ cur, w4.heap[g4]? = some (.cells cur 9 (0, 0)) ∧ 1 + n ≤ cap4 ∧ cap4 ≤ maxLen ∧ cur.toList.take ((1 + n) * 1) = [Value.string key] ++ rowT L := by
        rcases hor with ⟨h0, _⟩ | ⟨g', cap', cur, h0, h1, h2, h3, _, h5⟩
        · cases h0
        · cases h0; exact ⟨cur, h1, h2, h3, h5⟩
      have hR := Lib.hid (rnd_start X2.out H2.out HB2.out hb4 hge hcur)
      have hA := Lib.hid (show AllAt w4 g4 (n + 1) cap4 (key :: L) (.cells cur 9 (0, 0)) from ⟨by simp [HL.out.1], by omega, hcap, hcur, cur, rfl, by rw [show n + 1 = (1 + n) * 1 by omega, hcs]; rfl⟩)
      clear hl1 hor hb4 hg4 hat4 hge hcur hle hcap hcs HB3 HLt HNw hone hlen
      go_wp2_with fail
      go_meet
      case rel => exact ⟨g4, cap4, _, by rw [Nat.add_comm], hA, hR⟩
  case rest => as_aux_lemma =>
    clear X2 H2 HB2 HSt
    obtain ⟨g, cap, o, rfl, HA, HR⟩ := hcut
    have hr := HL.out.2.2.1
    have hk100 := HL.out.2.2.2
    have hs := (rightC_bd hr).2.2
    have HI := Lib.hid (show StayI W a p s q v x key B hp g o 0 (-1) wc from
      ⟨_, _, HR.out, Field.start (newF a p s q v x key) (by
        have hz := (keyW_in (d := newF a p s q v x key) hr (sh := 0) (Int.le_refl _) (by show (0 : Int) < s; omega)).2
        have : 0 ≤ sizeW a p s q v := by
          have h1 : 0 ≤ keyW a p s q v 0 := hz.1
          have h2 : keyW a p s q v 0 < sizeW a p s q v := hz.2
          omega
        show ((sizeW a p s q v).toNat : Int) = sizeW a p s q v
        omega), Nat.le_refl _, .inl ⟨rfl, rfl⟩⟩)
    obtain ⟨A, hA⟩ : ∃ A, key :: L = A := ⟨_, rfl⟩
    have HA0 := Lib.hid (show ∀ h : 0 < A.length, A[0] = key from fun h => by subst hA; rfl)
    rw [hA] at HA
    have hAl : A.length = n + 1 := HA.out.1
    have HRs := Lib.hid (And.intro hr (And.intro hk100 (And.intro hs hAl)))
    have hmix : Try.prog.follows .mixedOrders = true := by kernel_rfl
    clear HR HL hA hr hk100 hs hAl
    go_wp2_with fail
    go_loopw [8, 10] (fun s8 s10 wr => ∃ (k : Nat) (at_ : Int), s8 = .int .i64 at_ ∧ s10 = .int .i64 k ∧ k ≤ n + 1 ∧ Hid (StayI W a p s q v x key B hp g o k at_ wr)) (fun _ s10 _ => n + 2 - (intOf s10).toNat)
    case atStart => exact ⟨0, -1, rfl, rfl, Nat.zero_le _, HI⟩
    case round =>
      clear HI
      obtain ⟨k, at_, rfl, rfl, hkn, HI⟩ := hrel
      have hk0 : (0 : Int) ≤ (k : Int) := by omega
      by_cases hlt : k < n + 1
      · have hltz : (k : Int) < (n : Int) + 1 := by omega
        obtain ⟨D, K, hR, hF, hDl, hor⟩ := HI.out
        have hkA : k < A.length := by have := HRs.out.2.2.2; omega
        have hcell := HA.out.cell (hR.kept (List.mem_singleton.2 rfl)) hkA
        obtain ⟨t, ht⟩ : ∃ t, A[k] = t := ⟨_, rfl⟩
        rw [ht] at hcell
        have HT0 := Lib.hid (show k = 0 → t = key from fun h => by subst h; rw [← ht]; exact HA0.out hkA)
        have HC := Lib.hid (fun (Y : World) (hY : Y.heap[g]? = some o) => (by rw [← ht]; exact HA.out.cell hY hkA : Y.cell? ⟨g, k, none⟩ = some (.string t)))
        have HR := Lib.hid hR
        have HFd := Lib.hid hF
        have HDl := Lib.hid hDl
        have HOr := Lib.hid hor
        clear hR hF hDl hor ht hkA HI
        by_cases htl : 100 < t.size
        · have htz : (100 : Int) < (t.size : Int) := by omega
          clear htl
          go_wp2_with fail
          refine (awake_any _).mono ?_
          rintro en w2 ⟨rfl, hb⟩
          have B2 := Lib.hid (HR.out.lo.trans (hb.mono HR.out.lo.size))
          clear hb
          go_wp2_with fail
          go_ret
          exact Says.mk rfl B2.out
        · have htz : ¬ (100 : Int) < (t.size : Int) := by omega
          have HTs := Lib.hid (show t.size ≤ 100 from by omega)
          clear htl
          go_upto_region 11 with fail
          obtain ⟨c0, c1, c2, c3, c4, c5⟩ := HR.out.six
          go_still_tail 5, hmix
          change wpList _ _ _ _ _ wr.drew
          have HR1 := Lib.hid (HR.out.below (below_drew wr))
          clear hcell c0 c1 c2 c3 c4 c5 HR
          generalize wr.drew = w5 at HR1 ⊢
          go_wp2_with fail
          have hm1000 : D.L.length ≤ 1000 := by have := HDl.out; omega
          refine (rnd_new HR1.out HRs.out.1 HTs.out HFd.out.key hm1000).mono ?_
          rintro en w6 ⟨r, rfl, hN, -⟩
          have HN6 := Lib.hid hN
          clear hN HR1
          go_wp2_with fail
          refine (rnf_run HN6.out HFd.out.key HRs.out.1).mono ?_
          rintro en w7 ⟨rfl, hN⟩
          have HN7 := Lib.hid hN
          obtain ⟨kk, sh, e1, e2, e3, e4, e5⟩ := stay_look HRs.out.1 HT0.out HOr.out
          have HE4 := Lib.hid e4
          have HE5 := Lib.hid e5
          have HRs7 := Lib.hid (rnf_result HN7.out e3 e1 e2)
          clear hN HN6 e1 e2 e3 e4 e5 HN7 hm1000
          go_wp2_with fail
          refine HRs7.out.mono ?_
          rintro en w8 ⟨rfl, hR8⟩
          have HR8 := Lib.hid hR8
          clear hR8 HRs7
          have hf0 := cell_of (i := 0) (HR8.out.kept (List.mem_cons_self ..))
          have hf1 := cell_of (i := 1) (HR8.out.kept (List.mem_cons_self ..))
          simp only [List.getElem?_toArray, List.getElem?_cons_zero, List.getElem?_cons_succ] at hf0 hf1
          go_upto_if 69 with fail
          generalize hm : w8.heap.size = m at HR8 hf0 hf1 ⊢
          generalize w8.alloc (fouO kk sh) = w9 at HR8 hf0 hf1 ⊢
          clear hm
          go_cut [] (fun wx => Hid (StayJ W a p s q v x key B hp g o k m (fouO kk sh) wx))
          case first => as_aux_lemma =>
            by_cases hkk : kk = 2
            · subst hkk
              obtain ⟨s0, s1, hKn, hKp⟩ := (HE5.out.resolve_right (fun h => h.1 rfl)).2
              have HFp := Lib.hid ((HFd.out.key (key' := t)).put (t := t) HRs.out.1 s0 s1 (by have := HTs.out; omega) (by have := HDl.out; omega))
              have HLp := Lib.hid (putD_length (HFd.out.key (key' := t)) HRs.out.1 s0 s1 t)
              have HP0 := Lib.hid (HR8.out.below (below_drew w9))
              have HQ := Lib.hid (fun (X : World) (D' : HpD) (hX : Rnd W a p s q v x B hp D' [(m, fouO 2 sh), (g, o)] X) => (show X.cell? ⟨W.heap.size, 0, none⟩ = some (.int .i64 a) ∧ X.cell? ⟨W.heap.size, 1, none⟩ = some (.int .i64 p) ∧ X.cell? ⟨W.heap.size, 2, none⟩ = some (.int .i64 s) ∧ X.cell? ⟨W.heap.size, 3, none⟩ = some (.int .i64 q) ∧ X.cell? ⟨W.heap.size, 4, none⟩ = some (.int .i64 v) ∧ X.cell? ⟨W.heap.size, 5, none⟩ = some (.int .u64 x) ∧ X.cell? ⟨m, 1, none⟩ = some (.int .i64 sh) ∧ X.cell? ⟨g, k, none⟩ = some (.string t) from
                ⟨hX.six.1, hX.six.2.1, hX.six.2.2.1, hX.six.2.2.2.1, hX.six.2.2.2.2.1, hX.six.2.2.2.2.2, (cell_of (hX.kept (List.mem_cons_self ..))).trans rfl, HC.out X (hX.kept (List.mem_cons_of_mem _ (List.mem_singleton.2 rfl)))⟩))
              have HS := Lib.hid (HQ.out _ _ HP0.out)
              have HKy := Lib.hid (fun (X : World) (hX : Rnd W a p s q v x B hp D [(m, fouO 2 sh), (g, o)] X) => rnd_key hX sh)
              have HMk := Lib.hid (fun (X : World) (hX : Rnd W a p s q v x B hp D [(m, fouO 2 sh), (g, o)] X) => rnd_make hX (by have := HDl.out; omega) HTs.out)
              have HSt := Lib.hid (fun (X : World) (hX : Rnd W a p s q v x B hp (makeD D 0 t) [(m, fouO 2 sh), (g, o)] X) => rnd_store hX (by rw [makeD_zero]; show D.faults < 1000000; rw [HFd.out.faults]; omega) (keyW a p s q v sh) ((D.L.length + 1 : Nat) : Int))
              clear hf0 hf1 s0 s1 hKn
              have HKp := Lib.hid hKp
              clear hKp
              go_upto_region 15 with fail
              refine wp_region_held_drew (S := fun w' => w'.cell? ⟨W.heap.size, 0, none⟩ = some (.int .i64 a) ∧ w'.cell? ⟨W.heap.size, 1, none⟩ = some (.int .i64 p) ∧ w'.cell? ⟨W.heap.size, 2, none⟩ = some (.int .i64 s) ∧ w'.cell? ⟨W.heap.size, 3, none⟩ = some (.int .i64 q) ∧ w'.cell? ⟨W.heap.size, 4, none⟩ = some (.int .i64 v) ∧ w'.cell? ⟨W.heap.size, 5, none⟩ = some (.int .u64 x) ∧ w'.cell? ⟨m, 1, none⟩ = some (.int .i64 sh) ∧ w'.cell? ⟨g, k, none⟩ = some (.string t)) (by kernel_rfl) HS.out (fun _ => ?_)
              refine (fun h => h) ?_
              -- BEGIN PUT
              refine wpAnyH_look (i := 0) (v := ?v0) 70 rfl (by kernel_rfl) (by kernel_rfl) (by kernel_rfl) (fun _ _ _ _ h => h) (by rfl) HS.out (Or.inl ⟨by rfl, ?y0⟩) ?r0
              case y0 => intro w hSw; (try dsimp only at hSw); go_simp; (try with_reducible rfl)
              simp only [List.setIfInBounds_toArray, List.set_cons_zero, List.set_cons_succ]
              refine wpAnyH_look (i := 1) (v := ?v1) 71 rfl (by kernel_rfl) (by kernel_rfl) (by kernel_rfl) (fun _ _ _ _ h => h) (by rfl) HS.out (Or.inl ⟨by rfl, ?y1⟩) ?r1
              case y1 => intro w hSw; (try dsimp only at hSw); go_simp; (try with_reducible rfl)
              simp only [List.setIfInBounds_toArray, List.set_cons_zero, List.set_cons_succ]
              refine wpAnyH_look (i := 2) (v := ?v2) 72 rfl (by kernel_rfl) (by kernel_rfl) (by kernel_rfl) (fun _ _ _ _ h => h) (by rfl) HS.out (Or.inl ⟨by rfl, ?y2⟩) ?r2
              case y2 => intro w hSw; (try dsimp only at hSw); go_simp; (try with_reducible rfl)
              simp only [List.setIfInBounds_toArray, List.set_cons_zero, List.set_cons_succ]
              refine wpAnyH_look (i := 3) (v := ?v3) 73 rfl (by kernel_rfl) (by kernel_rfl) (by kernel_rfl) (fun _ _ _ _ h => h) (by rfl) HS.out (Or.inl ⟨by rfl, ?y3⟩) ?r3
              case y3 => intro w hSw; (try dsimp only at hSw); go_simp; (try with_reducible rfl)
              simp only [List.setIfInBounds_toArray, List.set_cons_zero, List.set_cons_succ]
              refine wpAnyH_look (i := 5) (v := ?v5) 75 rfl (by kernel_rfl) (by kernel_rfl) (by kernel_rfl) (fun _ _ _ _ h => h) (by rfl) HS.out (Or.inl ⟨by rfl, ?y5⟩) ?r5
              case y5 => intro w hSw; (try dsimp only at hSw); go_simp; (try with_reducible rfl)
              simp only [List.setIfInBounds_toArray, List.set_cons_zero, List.set_cons_succ]
              refine wpAnyH_look (i := 6) (v := ?v6) 76 rfl (by kernel_rfl) (by kernel_rfl) (by kernel_rfl) (fun _ _ _ _ h => h) (by rfl) HS.out (Or.inl ⟨by rfl, ?y6⟩) ?r6
              case y6 => intro w hSw; (try dsimp only at hSw); go_simp; (try with_reducible rfl)
              simp only [List.setIfInBounds_toArray, List.set_cons_zero, List.set_cons_succ]
              refine wpAnyH_look (i := 7) (v := ?v7) 77 rfl (by kernel_rfl) (by kernel_rfl) (by kernel_rfl) (fun _ _ _ _ h => h) (by rfl) HS.out (Or.inl ⟨by rfl, ?y7⟩) ?r7
              case y7 => intro w hSw; (try dsimp only at hSw); go_simp; (try with_reducible rfl)
              simp only [List.setIfInBounds_toArray, List.set_cons_zero, List.set_cons_succ]
              refine wpAnyH_look (i := 8) (v := ?v8) 78 rfl (by kernel_rfl) (by kernel_rfl) (by kernel_rfl) (fun _ _ _ _ h => h) (by rfl) HS.out (Or.inl ⟨by rfl, ?y8⟩) ?r8
              case y8 => intro w hSw; (try dsimp only at hSw); go_simp; (try with_reducible rfl)
              simp only [List.setIfInBounds_toArray, List.set_cons_zero, List.set_cons_succ]
              refine wpAnyH_look (i := 9) (v := ?v9) 79 rfl (by kernel_rfl) (by kernel_rfl) (by kernel_rfl) (fun _ _ _ _ h => h) (by rfl) HS.out (Or.inl ⟨by rfl, ?y9⟩) ?r9
              case y9 => intro w hSw; (try dsimp only at hSw); go_simp; (try with_reducible rfl)
              simp only [List.setIfInBounds_toArray, List.set_cons_zero, List.set_cons_succ]
              refine wpAnyH_ready (rs := [4]) (by kernel_rfl) (by simp) ?_
              refine AllReadyH.cons rfl (fun K hK => ?_) AllReadyH.nil
              go_simp
              go_at_call 17
              refine (HKy.out _ HP0.out).mono ?_
              rintro en x1 ⟨rfl, hx⟩
              have HP1 := Lib.hid hx
              have HS := Lib.hid (HQ.out _ _ HP1.out)
              clear hx
              go_simp
              refine hK.out _ _ HS.out (fun _ => ?_)
              clear hK K
              refine wpAnyH_ready (rs := [10]) (by kernel_rfl) (by simp) ?_
              refine AllReadyH.cons rfl (fun K hK => ?_) AllReadyH.nil
              go_simp
              go_at_call 18
              refine (HMk.out _ HP1.out).mono ?_
              rintro en x2 ⟨rfl, hx⟩
              have HP2 := Lib.hid hx
              have HS := Lib.hid (HQ.out _ _ HP2.out)
              clear hx
              go_simp
              refine hK.out _ _ HS.out (fun _ => ?_)
              clear hK K
              refine wpAnyH_ready (rs := [11]) (by kernel_rfl) (by simp) ?_
              refine AllReadyH.cons rfl (fun K hK => ?_) AllReadyH.nil
              go_simp
              go_at_call 16
              refine (HSt.out _ HP2.out).mono ?_
              rintro en x3 ⟨rfl, hx⟩
              have HP3 := Lib.hid hx
              have HS := Lib.hid (HQ.out _ _ HP3.out)
              clear hx
              go_simp
              refine hK.out _ _ HS.out (fun _ => ?_)
              clear hK K
              -- END PUT
              refine ⟨by kernel_rfl, ?_⟩
              have HJ := Lib.hid (show StayJ W a p s q v x key B hp g o k m (fouO 2 sh) x3 from
                ⟨_, _, HP3.out, HFp.out.key, by have h : (storeD (makeD D 0 t) 1 (keyW a p s q v sh) ((D.L.length + 1 : Nat) : Int)).L.length = D.L.length + 1 := HLp.out; have := HDl.out; omega, HKp.out⟩)
              go_wp2_with fail
              go_meet
              case rel => exact HJ
            · have hkz : (kk == 2) = false := by simpa using hkk
              have HJ := Lib.hid (show StayJ W a p s q v x key B hp g o k m (fouO kk sh) w9 from
                ⟨D, K, HR8.out, HFd.out, by have := HDl.out; omega, (HE5.out.resolve_left (fun h => hkk h.1)).2⟩)
              go_wp2_with fail
              go_meet
              case rel => exact HJ
          case rest => as_aux_lemma =>
            have hway := Lib.hid (show at_ = (newF a p s q v x key).way 0 ∨ (k = 0 ∧ sh = (newF a p s q v x key).way 0) from by
              rcases HOr.out with ⟨h, _⟩ | ⟨_, h, _⟩
              · exact .inr ⟨h, HE4.out h⟩
              · exact .inl h)
            have hat1 := Lib.hid (show 1 ≤ k → at_ = (newF a p s q v x key).way 0 from fun h1 => by
              rcases HOr.out with ⟨h, _⟩ | ⟨_, h, _⟩
              · omega
              · exact h)
            clear HR8 hf0 hf1 HFd HDl HOr HE5 HT0 HC HTs
            obtain ⟨D2, K2, hR, hF, hD, hK⟩ := hcut.out
            have HR2 := Lib.hid hR
            have HF2 := Lib.hid hF
            have HD2 := Lib.hid hD
            have HK2 := Lib.hid hK
            clear hR hF hD hK hcut
            have hf1 := cell_of (i := 1) (HR2.out.kept (List.mem_cons_self ..))
            simp only [List.getElem?_toArray, List.getElem?_cons_zero, List.getElem?_cons_succ] at hf1
            obtain ⟨wy, hwy⟩ : ∃ z, (newF a p s q v x key).way 0 = z := ⟨_, rfl⟩
            rw [hwy] at hat1 HE4
            clear hway
            go_upto_if 83 with fail
            go_cut [8] (fun s8 wx => s8 = .int .i64 wy ∧ wc = wx)
            case first => as_aux_lemma =>
              by_cases hkz : k = 0
              · subst hkz
                have hsh := HE4.out rfl
                subst hsh
                go_wp2_with fail
                go_meet
                case rel => exact ⟨rfl, rfl⟩
              · have hkz0 : ((k : Int) == 0) = false := by simp; omega
                have hsh := hat1.out (by omega)
                subst hsh
                go_wp2_with fail
                go_meet
                case rel => exact ⟨rfl, rfl⟩
            case rest => as_aux_lemma =>
              obtain ⟨rfl, rfl⟩ := hcut
              clear hf1 HE4 hat1
              have HW := Lib.hid hwy
              clear hwy
              have hkey := HRs.out.2.1
              have hm1000 : D2.L.length ≤ 1000 := by have := HD2.out; omega
              obtain ⟨c0, c1, c2, c3, c4, c5⟩ := HR2.out.six
              go_wp2_with fail
              refine (rnd_new HR2.out HRs.out.1 hkey HF2.out hm1000).mono ?_
              rintro en w10 ⟨r2, rfl, hN, -⟩
              have HN10 := Lib.hid hN
              clear hN HR2 c0 c1 c2 c3 c4 c5 hkey hm1000
              go_wp2_with fail
              refine (rnf_run HN10.out HF2.out HRs.out.1).mono ?_
              rintro en w11 ⟨rfl, hN⟩
              have HN11 := Lib.hid hN
              obtain ⟨e1, e2, e3⟩ := findK_first (d := newF a p s q v x key) (K := K2) (by show 1 ≤ s; exact HRs.out.2.2.1.1) HK2.out
              rw [show (seenF K2 (newF a p s q v x key)).2 = 2 from e3]
              have HRs11 := Lib.hid (rnf_result HN11.out (k := 1) (sh := wy) (by decide) e1 (e2.trans HW.out))
              clear hN HN10 e1 e2 e3 HN11
              go_wp2_with fail
              refine HRs11.out.mono ?_
              rintro en w12 ⟨rfl, hR⟩
              have HR12 := Lib.hid hR
              clear hR HRs11
              have hf0 := cell_of (i := 0) (HR12.out.kept (List.mem_cons_self ..))
              have hf1 := cell_of (i := 1) (HR12.out.kept (List.mem_cons_self ..))
              simp only [List.getElem?_toArray, List.getElem?_cons_zero, List.getElem?_cons_succ] at hf0 hf1
              have HI2 := Lib.hid (show StayI W a p s q v x key B hp g o (k + 1) wy (w12.alloc (fouO 1 wy)) from
                ⟨D2, K2, HR12.out.few (fun u hu => List.mem_cons_of_mem _ (List.mem_cons_of_mem _ hu)), HF2.out, by have := HD2.out; omega, .inr ⟨by omega, HW.out.symm, HK2.out⟩⟩)
              have hk41 : (k : Int) ≤ 41 := by omega
              clear HR12
              go_wp2_with fail
              go_roundw
              case rel => exact ⟨k + 1, wy, rfl, by go_num, by omega, HI2⟩
              case measure => simp [intOf]; omega
      · have hltz : ¬ (k : Int) < (n : Int) + 1 := by omega
        have HLow := Lib.hid (show Below W.heap.size W wr from by obtain ⟨D, K, hR, _⟩ := HI.out; exact hR.lo)
        clear HI
        go_wp2_with fail
        refine (awake_any _).mono ?_
        rintro en w2 ⟨rfl, hb⟩
        have B2 := Lib.hid (HLow.out.trans (hb.mono HLow.out.size))
        clear hb
        go_wp2_with fail
        go_ret
        exact Says.mk rfl B2.out

end Go.Proofs.Ytdnjlpccopeagaa
