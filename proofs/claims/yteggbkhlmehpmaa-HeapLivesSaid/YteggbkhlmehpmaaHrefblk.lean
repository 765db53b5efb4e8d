/-
  The reference's Blocks, and Same of two rows of numbers.
-/
import Derived.Test.YteggbkhlmehpmaaHsame
namespace Go.Proofs.Yteggbkhlmehpmaa
open Go Go.RowKit
attribute [local go_sem ↓] Go.wp_at_zero Go.wp_at_succ

/-- The numbers of the blocks that are there, in their order. -/
def rowN : Nat → List BlkD → List Int
  | _, [] => []
  | i, b :: t => if b.gone then rowN (i + 1) t else ((i : Int) + 1) :: rowN (i + 1) t
theorem rowN_snoc (i : Nat) (L : List BlkD) (b : BlkD) : rowN i (L ++ [b]) = rowN i L ++ (if b.gone then [] else [((i + L.length : Nat) : Int) + 1]) := by
  induction L generalizing i with
  | nil => simp [rowN]
  | cons a t ih =>
    have e3 : i + (t.length + 1) = i + 1 + t.length := by omega
    simp only [List.cons_append, rowN, ih, List.length_cons, e3]
    cases a.gone <;> simp
theorem rowN_take {L : List BlkD} {k : Nat} {b : BlkD} (h : L[k]? = some b) : rowN 0 (L.take (k + 1)) = rowN 0 (L.take k) ++ (if b.gone then [] else [((k : Int) + 1)]) := by
  obtain ⟨hk, he⟩ := List.getElem?_eq_some_iff.1 h
  rw [List.take_add_one, h, Option.toList_some, rowN_snoc]
  simp only [List.length_take, Nat.min_eq_left (Nat.le_of_lt hk), Nat.zero_add]

/-- A row of numbers that the call itself lays. -/
structure NRow (W : World) (q n cap : Nat) (R : List Int) (X : World) : Prop where
  lot : Lot X 28 1 (.slice (some ⟨q, 0, none⟩) n cap) n (R.map uval)
  base : W.heap.size ≤ q
  low : Below W.heap.size W X
section
variable {W X Y : World}
theorem NRow.start (W : World) : NRow W W.heap.size 0 0 [] (W.alloc (.cells #[] 28)) := ⟨Lot.none' W _ 1, Nat.le_refl _, below_alloc W _⟩
theorem NRow.below {q n cap : Nat} {R : List Int} (h : NRow W q n cap R X) (hb : Below X.heap.size X Y) : NRow W q n cap R Y := ⟨h.lot.below hb, h.base, h.low.trans (hb.mono h.low.size)⟩
theorem NRow.grow {q n cap q' cap' : Nat} {R : List Int} {x : Int} (h : NRow W q n cap R X) (hL : Lot Y 28 1 (.slice (some ⟨q', 0, none⟩) (n + 1) cap') (n + 1) (R.map uval ++ [.int .u64 x])) (hg : X.grownBy Y (Value.slice (some ⟨q, 0, none⟩) n cap).ownBlock) (hat : (Value.slice (some ⟨q, 0, none⟩) n cap).ownBlock = some q' ∨ q' = X.heap.size) : NRow W q' (n + 1) cap' (R ++ [x]) Y := by
  refine ⟨?_, ?_, h.low.grown hg h.low.size (fun j hj => ?_)⟩
  · rw [List.map_append]; exact hL
  · rcases hat with h0 | h0
    · obtain rfl : q = q' := by simpa [Value.ownBlock] using h0
      exact h.base
    · have := h.low.size; omega
  · obtain rfl : q = j := by simpa [Value.ownBlock] using hj
    exact h.base
end
/-- What the reference's Blocks leaves. -/
def RowOut (R : List Int) (W : World) (e : Ending) (W' : World) : Prop := ∃ q n cap, e = .returned (.slice (some ⟨q, 0, none⟩) n cap) ∧ Lot W' 28 1 (.slice (some ⟨q, 0, none⟩) n cap) n (R.map uval) ∧ Below W.heap.size W W'

section
variable {B p : Nat} {D : HpD} {f : Nat → Prop}
set_option maxRecDepth 100000 in
set_option maxHeartbeats 2000000 in
theorem rblocks_any (W : World) (h : Rf W B p D f) : Calls Try.prog 17 #[.pointer (some ⟨p, 0, none⟩)] W (RowOut (rowN 0 D.L) W) := by
  obtain ⟨v, g, cp, h⟩ := h
  obtain ⟨l, hl⟩ : ∃ l, D.L.length = l := ⟨_, rfl⟩
  obtain ⟨i0, gi, gz0, gz1, gz2⟩ := info_parts info_u64
  have hm := h.many.1
  rw [hl] at hm
  have hl0 : (0 : Int) ≤ (l : Int) := by omega
  have hl1 : (l : Int) ≤ 1000000 := by omega
  obtain ⟨a, vc, hv⟩ := h.row.form
  rw [hl] at hv
  have HC := Lib.hid (fun X (hX : Below W.heap.size W X) => (show X.cell? ⟨p, 0, none⟩ = some (.slice a l vc) from by have := (h.below hX).cells.1; rw [hv] at this; exact this))
  have HB := Lib.hid (fun k (hk : k < l) => (show ∃ b, D.L[k]? = some b ∧ ∃ q, a = some ⟨q, 0, none⟩ ∧ ∀ X, Below W.heap.size W X → X.cell? ⟨q, k * 3 + 2, none⟩ = some (.bool b.gone) from by
    have hb := List.getElem?_eq_getElem (show k < D.L.length by omega)
    obtain ⟨q, cap, hv', _⟩ := h.blk hb
    rw [hv] at hv'
    simp only [Value.slice.injEq] at hv'
    refine ⟨_, hb, q, hv'.1, fun X hX => ?_⟩
    obtain ⟨q2, cap2, hv2, _, _, r3, _⟩ := (h.below hX).blk hb
    rw [hv] at hv2
    simp only [Value.slice.injEq] at hv2
    have e := hv'.1.symm.trans hv2.1
    simp only [Option.some.injEq, Addr.mk.injEq, and_true] at e
    rw [e]; exact r3))
  have HT := Lib.hid (show rowN 0 (D.L.take l) = rowN 0 D.L from by rw [← hl, List.take_length])
  have hm2 : l ≤ 1000000 := hm
  clear h hv hm hl
  go_enter Try.func17, Try.ntmps17
  go_wp2_with fail
  have H0 := Lib.hid (NRow.start W)
  go_loopw [3, 4] (fun lv i wr => ∃ (k q n cap : Nat), lv = .slice (some ⟨q, 0, none⟩) n cap ∧ i = .int .i64 k ∧ k ≤ l ∧ n ≤ k ∧ Hid (NRow W q n cap (rowN 0 (D.L.take k)) wr)) (fun _ i _ => l - (intOf i).toNat)
  case atStart => exact ⟨0, _, 0, 0, rfl, rfl, Nat.zero_le _, Nat.le_refl _, H0⟩
  case round =>
    clear H0
    obtain ⟨k, q, n, cap, rfl, rfl, hkl, hnk, HN⟩ := hrel
    have hk0 : (0 : Int) ≤ (k : Int) := by omega
    have c0 := HC.out _ HN.out.low
    by_cases hlt : k < l
    · have hk1 : (k : Int) < (l : Int) := by omega
      have hk2 : (k : Int) + 1 ≤ 1000000 := by omega
      obtain ⟨b, hb, qa, rfl, hr⟩ := HB.out k hlt
      have r3 := hr _ HN.out.low
      have HTk := Lib.hid (rowN_take hb)
      obtain ⟨gn, hgn⟩ : ∃ gn, b.gone = gn := ⟨_, rfl⟩
      rw [hgn] at HTk r3
      clear hr hb hgn
      cases gn with
      | true =>
        go_wp2_with fail
        go_roundw
        case rel => exact ⟨k + 1, q, n, cap, rfl, by go_num, by omega, by omega, by rw [HTk.out]; simpa using HN⟩
        case measure => simp [intOf]; omega
      | false =>
        have hE1 : n + 1 ≤ maxLen := by unfold maxLen; omega
        have hE2 : (n + 1) * 8 ≤ 140737488355328 := by omega
        have HN2 := Lib.hid (HN.out.below (below_alloc wr (.cells #[.int .u64 ((k : Int) + 1)] 28)))
        go_wp2_with (at_builtin; refine wpList_append_lot _ rfl _ _ 41 rfl 28 i0 _ 1 8 Try.underlying41 gi gz0 gz1 gz2 rfl (.slice (some ⟨q, 0, none⟩) n cap) n _ rfl HN2.out.lot ⟨wr.heap.size, 0, none⟩ 1 1 [.int .u64 ((k : Int) + 1)] rfl rfl (cell_one_new _ _ _) (by simp [Value.oneCell']) (by omega) hE1 hE2 _ rfl ?_; intro g4 cap4 w4 hL4 hg4 hat4; have HN4 := Lib.hid (HN2.out.grow hL4 hg4 hat4); clear hL4 hg4 hat4)
        go_roundw
        case rel => exact ⟨k + 1, g4, n + 1, cap4, rfl, by go_num, by omega, by omega, by rw [HTk.out]; simpa using HN4⟩
        case measure => simp [intOf]; omega
    · obtain rfl : l = k := by omega
      clear hlt hkl
      go_wp2_with fail
      go_ret
      rw [← HT.out]
      exact ⟨q, n, cap, rfl, HN.out.lot, HN.out.low⟩

set_option maxRecDepth 100000 in
set_option maxHeartbeats 2000000 in
theorem rsame_yes (W : World) (a1 a2 : Option Addr) (n c1 c2 : Nat) (R : List Int) (h1 : Lot W 28 1 (.slice a1 n c1) n (R.map uval)) (h2 : Lot W 28 1 (.slice a2 n c2) n (R.map uval)) (hn : n ≤ 1000000) :
    Calls Try.prog 15 #[.slice a1 n c1, .slice a2 n c2] W (fun e W' => e = .returned (.bool true) ∧ Below W.heap.size W W') := by
  have hR : R.length = n := by have := h1.1; simpa using this
  have HB := Lib.hid (fun k (hk : k < n) => (show ∃ (q1 q2 : Nat) (x : Int), a1 = some ⟨q1, 0, none⟩ ∧ a2 = some ⟨q2, 0, none⟩ ∧ ∀ X, Below W.heap.size W X → X.cell? ⟨q1, k, none⟩ = some (.int .u64 x) ∧ X.cell? ⟨q2, k, none⟩ = some (.int .u64 x) from by
    obtain ⟨q1, p1, hv1, hat1⟩ := h1.cells (by omega)
    obtain ⟨q2, p2, hv2, hat2⟩ := h2.cells (by omega)
    simp only [Value.slice.injEq] at hv1 hv2
    have e1 := hat1 k (uval (R[k]'(by omega))) (by rw [List.getElem?_map, List.getElem?_eq_getElem (by omega)]; rfl)
    have e2 := hat2 k (uval (R[k]'(by omega))) (by rw [List.getElem?_map, List.getElem?_eq_getElem (by omega)]; rfl)
    exact ⟨q1, q2, R[k]'(by omega), hv1.1, hv2.1, fun X hX => ⟨(hX.cell (p := ⟨q1, k, none⟩) (cell_lt e1)).trans e1, (hX.cell (p := ⟨q2, k, none⟩) (cell_lt e2)).trans e2⟩⟩))
  have hn1 : (n : Int) ≤ 1000000 := by omega
  have hmix : Try.prog.follows .mixedOrders = true := by kernel_rfl
  have H0 := Lib.hid (Below.refl W.heap.size W)
  clear h1 h2 hR hn
  go_enter Try.func15, Try.ntmps15
  go_wp2_with fail
  go_loopw [5] (fun i wr => ∃ k : Nat, i = .int .i64 k ∧ k ≤ n ∧ Hid (Below W.heap.size W wr)) (fun i _ => n - (intOf i).toNat)
  case atStart => exact ⟨0, rfl, Nat.zero_le _, H0⟩
  case round =>
    clear H0
    obtain ⟨k, rfl, hkn, HW⟩ := hrel
    have hk0 : (0 : Int) ≤ (k : Int) := by omega
    by_cases hlt : k < n
    · have hk1 : (k : Int) < (n : Int) := by omega
      obtain ⟨q1, q2, x, rfl, rfl, hX⟩ := HB.out k hlt
      obtain ⟨r1, r2⟩ := hX _ HW.out
      have HX := Lib.hid hX
      clear hX
      go_wp2_with fail
      go_still_tail 8, hmix
      change wpList _ _ _ _ _ wr.drew
      have HW2 := Lib.hid (HW.out.trans ((below_drew wr).mono HW.out.size))
      clear r1 r2
      go_wp2_with fail
      go_roundw
      case rel => exact ⟨k + 1, by go_num, by omega, HW2⟩
      case measure => simp [intOf]; omega
    · obtain rfl : n = k := by omega
      clear hlt hkn
      go_wp2_with fail
      go_ret
      exact ⟨rfl, HW.out⟩
end
end Go.Proofs.Yteggbkhlmehpmaa
