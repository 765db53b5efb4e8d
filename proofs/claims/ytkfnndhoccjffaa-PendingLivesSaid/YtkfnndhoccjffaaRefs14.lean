/-
  The reference's Has and Ids.
-/
import Derived.Test.YtkfnndhoccjffaaRoomwalk
namespace Go.Proofs.Ytkfnndhoccjffaa
open Go Go.RowKit
attribute [local go_sem ↓] Go.wp_at_zero Go.wp_at_succ

theorem same_id (a b : IdD) : decide (a = b) = (a.o == b.o && a.s == b.s) := by
  obtain ⟨o, s⟩ := a
  obtain ⟨o', s'⟩ := b
  by_cases h1 : o = o'
  · by_cases h2 : s = s'
    · subst h1 h2; simp
    · rw [decide_eq_false (by simp [h2])]; simp [h2]
  · rw [decide_eq_false (by simp [h1])]; simp [h1]
theorem eqlI (a b : IdD) (w : World) : (binOp .eql 34 (.agg #[.int .i64 a.o, .int .i64 a.s]) (.agg #[.int .i64 b.o, .int .i64 b.s])).run Try.prog w = .ok (.bool (decide (a = b))) w := by
  have u3 := Try.underlying3
  have hS : Try.prog.underlying 34 = some (.struct (Try.prog.fieldsOf 34)) := by kernel_rfl
  have hp : Try.prog.stoodInHeld 34 = false := by kernel_rfl
  rw [same_id, run_eql_struct, show (10000 : Nat) = 9999 + 1 from rfl, run_equalIn_agg w 9999 34 _ _ hS hp]
  simp only [Program.fieldsOf, Try.underlying34]
  have a3 := Try.isAgg3
  have z3 := Try.sizeOf3
  go_simp
  by_cases h1 : a.o = b.o <;> by_cases h2 : a.s = b.s <;> simp [h1, h2]
theorem neqI (a b : IdD) (w : World) : (binOp .neq 34 (.agg #[.int .i64 a.o, .int .i64 a.s]) (.agg #[.int .i64 b.o, .int .i64 b.s])).run Try.prog w = .ok (.bool (!decide (a = b))) w := by
  have u3 := Try.underlying3
  have hS : Try.prog.underlying 34 = some (.struct (Try.prog.fieldsOf 34)) := by kernel_rfl
  have hp : Try.prog.stoodInHeld 34 = false := by kernel_rfl
  rw [same_id, run_neq_struct, show (10000 : Nat) = 9999 + 1 from rfl, run_equalIn_agg w 9999 34 _ _ hS hp]
  simp only [Program.fieldsOf, Try.underlying34]
  have a3 := Try.isAgg3
  have z3 := Try.sizeOf3
  go_simp
  by_cases h1 : a.o = b.o <;> by_cases h2 : a.s = b.s <;> simp [h1, h2]
theorem guardI (op : BinOp) (a b : Operand) (xs ys : Array Value) (w : World) : (eqGuard op 34 a b (.agg xs) (.agg ys)).run Try.prog w = .ok () w := run_eqGuard_agg w op _ a b xs ys (by kernel_rfl)

set_option maxHeartbeats 2000000 in
theorem has12_any (p : Option Addr) (n c : Nat) (L : List IdD) (a : IdD) (w : World) (h : Si w p L) (hn : L.length = n) (hb : n ≤ 1000) :
    Calls Try.prog 19 #[.slice p n c, .agg #[.int .i64 a.o, .int .i64 a.s]] w (Says (decide (a ∈ L)) w) := by
  have hb1 := below_alloc w (.cells #[.int .i64 a.o, .int .i64 a.s] 34)
  have k1 := World.alloc_heap_new w (.cells #[.int .i64 a.o, .int .i64 a.s] 34)
  have hz : (w.alloc (.cells #[.int .i64 a.o, .int .i64 a.s] 34)).heap.size = w.heap.size + 1 := by simp
  obtain ⟨W1, hW1⟩ : ∃ W1, w.alloc (.cells #[.int .i64 a.o, .int .i64 a.s] 34) = W1 := ⟨_, rfl⟩
  rw [hW1] at hb1 k1 hz
  have HS := Lib.hid (fun X (hX : Below W1.heap.size W1 X) => h.grow (hb1.trans (hX.mono hb1.size)))
  have HB := Lib.hid (fun X (hX : Below W1.heap.size W1 X) => hb1.trans (hX.mono hb1.size))
  have HC := Lib.hid (show ∀ X, Below W1.heap.size W1 X → X.cell? ⟨w.heap.size, 0, none⟩ = some (.int .i64 a.o) ∧ X.cell? ⟨w.heap.size, 1, none⟩ = some (.int .i64 a.s) from fun X hX => by
    have e1 := (hX.block w.heap.size (by omega)).trans k1
    exact ⟨(cell_of e1).trans rfl, (cell_of e1).trans rfl⟩)
  have HN := Lib.hid hn
  have H0 := Lib.hid (show ¬ a ∈ L.take 0 from fun h => by cases h)
  clear h hn hb1 k1 hz
  go_enter Try.func19, Try.ntmps19
  go_wp2_with fail
  clear hW1
  go_loopw [5] (fun s wr => ∃ k : Nat, s = .int .i64 k ∧ k ≤ n ∧ Hid (Below W1.heap.size W1 wr) ∧ Hid (¬ a ∈ L.take k)) (fun s _ => n - (intOf s).toNat)
  case atStart => exact ⟨0, rfl, Nat.zero_le _, Below.refl _ _, H0⟩
  case round =>
    clear H0
    obtain ⟨k, rfl, hkn, hB, hA⟩ := hrel
    by_cases hlt : k < n
    · have hkL : k < L.length := by rw [HN.out]; exact hlt
      obtain ⟨b, o, rfl, c1, c2⟩ := HS.out wr hB.out k hkL
      obtain ⟨d1, d2⟩ := HC.out wr hB.out
      have HT := Lib.hid (fun (e : L[k] = a) => (show decide (a ∈ L) = true from decide_eq_true (by rw [← e]; exact List.getElem_mem hkL)))
      have HF := Lib.hid (fun (e : ¬ L[k] = a) => (show ¬ a ∈ L.take (k + 1) from by
        rw [List.take_succ_eq_append_getElem hkL, List.mem_append, List.mem_singleton]
        exact fun h => h.elim hA.out (fun h => e h.symm)))
      have hq := fun w => eqlI L[k] a w
      have hgd := guardI
      obtain ⟨y, hy⟩ : ∃ y, L[k] = y := ⟨_, rfl⟩
      rw [hy] at c1 c2 HT HF hq
      clear hy hkL
      have hltz : (k : Int) < (n : Int) := by omega
      have h0 : (0 : Int) ≤ (k : Int) := by omega
      by_cases he : y = a
      · have HE := Lib.hid (HT.out he)
        rw [decide_eq_true he] at hq
        clear he HF
        go_wp2_with fail
        go_quiet (fail)
        go_wp2
        go_ret
        exact Says.mk HE.out.symm (below_drewN (HB.out _ hB.out) _)
      · have HE := Lib.hid (HF.out he)
        rw [decide_eq_false he] at hq
        clear he HT
        go_wp2_with fail
        go_quiet (fail)
        go_wp2
        go_roundw
        case rel => exact ⟨k + 1, by go_num, by omega, below_drewN' hB.out _, HE⟩
        case measure => simp [intOf]; omega
    · obtain rfl : n = k := by omega
      have HE := Lib.hid (show decide (a ∈ L) = false from decide_eq_false (by have := hA.out; rwa [List.take_of_length_le (by rw [HN.out]; exact Nat.le_refl _)] at this))
      go_wp2_with fail
      go_ret
      exact Says.mk HE.out.symm (HB.out _ hB.out)

/-- What Ids leaves. -/
def IdsR (B : Nat) (L : List IdD) (w : World) (e : Ending) (w' : World) : Prop := ∃ q c, e = .returned (.slice q L.length c) ∧ Lot w' 34 2 (.slice q L.length c) L.length (flatI L) ∧ (∀ k, (Value.slice q L.length c).ownBlock = some k → B ≤ k) ∧ Below B w w'

/-- Names while they are collected. -/
structure OutI (B : Nat) (w : World) (L : List IdD) (lv : Value) (X : World) : Prop where
  lot : Lot X 34 2 lv L.length (flatI L)
  base : ∀ j, lv.ownBlock = some j → B ≤ j
  low : Below B w X
theorem OutI.next {B : Nat} {w X w' : World} {L : List IdD} {lv : Value} {o : Obj} {a : IdD} {g cap m : Nat} (h : OutI B w L lv X) (hB : B ≤ X.heap.size) (hm : L.length = m)
    (hL : Lot w' 34 2 (.slice (some ⟨g, 0, none⟩) (m + 1) cap) (m + 1) (flatI L ++ [.int .i64 a.o, .int .i64 a.s])) (hg : (X.alloc o).grownBy w' lv.ownBlock) (hat : lv.ownBlock = some g ∨ g = (X.alloc o).heap.size) :
    OutI B w (L ++ [a]) (.slice (some ⟨g, 0, none⟩) (m + 1) cap) w' := by
  subst hm
  refine ⟨by rw [flatI_snoc, List.length_append]; exact hL, fun j hj => ?_, (h.low.alloc hB o).grown hg (Nat.le_trans hB (by simp)) (fun k e => h.base k e)⟩
  obtain rfl : g = j := by simpa [Value.ownBlock] using hj
  rcases hat with h0 | h0
  · exact h.base _ h0
  · rw [h0]; simp; omega

set_option maxHeartbeats 2000000 in
theorem ids13_any (p : Option Addr) (n c : Nat) (R : List EV) (w : World) (h : Se w p R) (hn : R.length = n) (hb : n ≤ 1000) :
    Calls Try.prog 20 #[.slice p n c] w (IdsR w.heap.size (R.map (·.id)) w) := by
  have HS := Lib.hid (fun X (hX : Below w.heap.size w X) => h.grow hX)
  have HN := Lib.hid hn
  obtain ⟨L, hL⟩ : ∃ L, R.map (·.id) = L := ⟨_, rfl⟩
  have HL := Lib.hid hL
  have hLn : L.length = n := by rw [← hL, List.length_map]; exact hn
  have HLn := Lib.hid hLn
  rw [hL]
  obtain ⟨i0, gi, gz0, gz1, gz2⟩ := info_parts info_id
  have H0 := Lib.hid (show OutI w.heap.size w (L.take 0) (.slice (some ⟨w.heap.size, 0, none⟩) 0 0) (w.alloc (.cells #[] 34)) from ⟨Lot.none' w _ 2, fun j hj => by
    obtain rfl : w.heap.size = j := by simpa [Value.ownBlock] using hj
    exact Nat.le_refl _, below_alloc w _⟩)
  clear h hn hL hLn
  go_enter Try.func20, Try.ntmps20
  go_wp2_with fail
  go_loopw [3, 4] (fun lv s wr => ∃ k : Nat, s = .int .i64 k ∧ k ≤ n ∧ Hid (OutI w.heap.size w (L.take k) lv wr)) (fun _ s _ => n - (intOf s).toNat)
  case atStart => exact ⟨0, rfl, Nat.zero_le _, H0⟩
  case round =>
    clear H0
    obtain ⟨k, rfl, hkn, hI⟩ := hrel
    obtain ⟨a, c', rfl⟩ := hI.out.lot.form
    have htl : (L.take k).length = k := by rw [List.length_take, HLn.out]; omega
    by_cases hlt : k < n
    · have hkR : k < R.length := by rw [HN.out]; exact hlt
      have hkL : k < L.length := by rw [HLn.out]; exact hlt
      obtain ⟨b, o, rfl, c1, c2, x3, x4⟩ := HS.out wr hI.out.low k hkR
      clear x3 x4
      have hid : R[k].id = L[k] := by
        have h1 : (R.map (·.id))[k]? = L[k]? := by rw [HL.out]
        rw [List.getElem?_map, List.getElem?_eq_getElem hkR, List.getElem?_eq_getElem hkL] at h1
        simpa using h1
      have hsn := List.take_succ_eq_append_getElem hkL
      rw [hid] at c1 c2
      obtain ⟨y, hy⟩ : ∃ y, L[k] = y := ⟨_, rfl⟩
      rw [hy] at c1 c2 hsn
      have hL0 := hI.out.lot
      rw [htl] at hL0
      have HLo := Lib.hid (hL0.below (below_alloc wr (.cells #[.int .i64 y.o, .int .i64 y.s] 34)))
      have HNx := Lib.hid (fun (w' : World) (g cap : Nat) (ob : Obj) hL hg hat => OutI.next (a := y) (o := ob) (w' := w') (g := g) (cap := cap) hI.out hI.out.low.size htl hL hg hat)
      rw [htl] at HNx
      rw [← hsn] at HNx
      rw [htl]
      clear hL0 hid hsn hy hkR hkL
      have hmx : k + 1 ≤ maxLen := by unfold maxLen; omega
      have hltz : (k : Int) < (n : Int) := by omega
      have h0 : (0 : Int) ≤ (k : Int) := by omega
      go_wp2_with (at_builtin; refine wpList_append_lot _ rfl _ _ 42 rfl 34 i0 _ 2 16 Try.underlying42 gi gz0 gz1 gz2 rfl (.slice a k c') k (flatI (L.take k)) rfl HLo.out ⟨_, 0, none⟩ 1 1 [.int .i64 y.o, .int .i64 y.s] rfl rfl (info_id_news _ y) (by simp [Value.oneCell']) (by omega) hmx (by omega) _ rfl ?_; intro g cap w4 hL4 hg4 hat4; have HF := Lib.hid (HNx.out w4 g cap _ hL4 hg4 hat4); clear hL4 hg4 hat4)
      go_roundw
      case rel => exact ⟨k + 1, by go_num, by omega, HF⟩
      case measure => simp [intOf]; omega
    · obtain rfl : n = k := by omega
      have hfull : L.take n = L := List.take_of_length_le (by rw [HLn.out]; exact Nat.le_refl _)
      rw [hfull] at hI ⊢
      have HE := Lib.hid (show IdsR w.heap.size L w (.returned (.slice a L.length c')) wr from ⟨a, c', rfl, hI.out.lot, hI.out.base, hI.out.low⟩)
      clear hI
      go_wp2_with fail
      go_ret
      exact HE.out

end Go.Proofs.Ytkfnndhoccjffaa
