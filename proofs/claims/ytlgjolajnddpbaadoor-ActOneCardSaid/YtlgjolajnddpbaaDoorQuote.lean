/-
  A text's word.
-/
import Derived.Test.YtlgjolajnddpbaaDoorBldr
import Derived.Lib.ConvBytes

namespace Go.Proofs.YtlgjolajnddpbaaDoor
open Go Go.Shelf Go.RowKit
attribute [local go_sem ↓] Go.wp_at_zero Go.wp_at_succ

/-- Does a byte stand for itself? -/
def plainZ (z : Int) : Bool := (decide (97 ≤ z) && decide (z ≤ 122)) || (decide (65 ≤ z) && decide (z ≤ 90)) || (decide (48 ≤ z) && decide (z ≤ 57)) || z == 46 || z == 58 || z == 47 || z == 95

theorem plain_told {z : Int} {b : Bool} (h : b = true ↔ (97 ≤ z ∧ z ≤ 122) ∨ (65 ≤ z ∧ z ≤ 90) ∨ (48 ≤ z ∧ z ≤ 57) ∨ z = 46 ∨ z = 58 ∨ z = 47 ∨ z = 95) : Ending.returned (.bool b) = .returned (.bool (plainZ z)) := by
  have : b = plainZ z := by
    rw [Bool.eq_iff_iff, h]
    unfold plainZ
    simp only [Bool.or_eq_true, Bool.and_eq_true, decide_eq_true_eq, beq_iff_eq, or_assoc]
  rw [this]
set_option maxHeartbeats 1000000 in
theorem stands_any (z : Int) (W : World) : Calls Tryd.prog 64 #[.int .u8 z] W fun e W' => e = .returned (.bool (plainZ z)) ∧ W = W' := by
  go_enter Tryd.func64, Tryd.ntmps64
  go_wp2_with fail
  all_goals
    go_ret
    refine ⟨plain_told ?_, rfl⟩
    simp <;> omega

/-- A half of a byte, as a digit. -/
def hxd (i : Nat) : UInt8 := ([48, 49, 50, 51, 52, 53, 54, 55, 56, 57, 97, 98, 99, 100, 101, 102] : List UInt8).getD i 0
theorem hx_get (i : Nat) (h : i < (⟨#[48, 49, 50, 51, 52, 53, 54, 55, 56, 57, 97, 98, 99, 100, 101, 102]⟩ : ByteArray).size) : (⟨#[48, 49, 50, 51, 52, 53, 54, 55, 56, 57, 97, 98, 99, 100, 101, 102]⟩ : ByteArray)[i] = hxd i := by
  have h' : i < 16 := h
  have : i = 0 ∨ i = 1 ∨ i = 2 ∨ i = 3 ∨ i = 4 ∨ i = 5 ∨ i = 6 ∨ i = 7 ∨ i = 8 ∨ i = 9 ∨ i = 10 ∨ i = 11 ∨ i = 12 ∨ i = 13 ∨ i = 14 ∨ i = 15 := by omega
  rcases this with rfl | rfl | rfl | rfl | rfl | rfl | rfl | rfl | rfl | rfl | rfl | rfl | rfl | rfl | rfl | rfl <;> rfl
/-- What a byte stands as. -/
def q1 (c : UInt8) : List UInt8 := if plainZ (c.toNat : Int) then [c] else [37, hxd (c.toNat / 16), hxd (c.toNat % 16)]
/-- The word of a text. -/
def quoteL (l : List UInt8) : List UInt8 := if l = [] then [45] else l.flatMap q1
theorem q1_len (c : UInt8) : (q1 c).length ≤ 3 := by unfold q1; split <;> simp
theorem quote_len (l : List UInt8) : (l.flatMap q1).length ≤ 3 * l.length := by
  induction l with
  | nil => simp
  | cons a t ih => have := q1_len a; simp only [List.flatMap_cons, List.length_append, List.length_cons]; omega
theorem flat_take {l : List UInt8} {k : Nat} (h : k < l.length) : (l.take (k + 1)).flatMap q1 = (l.take k).flatMap q1 ++ q1 l[k] := by
  rw [List.take_succ_eq_append_getElem h, List.flatMap_append]; simp

theorem Bld.keep {W X : World} {b R k : Nat} (h : Step (bldF b R) (bldF b R) W X) (hk : k < W.heap.size) (hb : k ≠ b) (hR : k < R) : X.heap[k]? = W.heap[k]? := h.block k hk (fun e => e.elim hb (by omega))

set_option maxRecDepth 100000 in
set_option maxHeartbeats 4000000 in
theorem quote_some (s : ByteArray) (W : World) (hs : s.data.toList ≠ []) (h4 : s.size ≤ 4096) : Calls Tryd.prog 50 #[.string s] W fun e W' => e = .returned (.string ⟨(s.data.toList.flatMap q1).toArray⟩) ∧ Below W.heap.size W W' := by
  have he : s.toList.isEmpty = false := by rw [ByteArray.toList_eq]; cases h : s.data.toList with
    | nil => exact absurd h hs
    | cons a t => rfl
  have hcv := Lib.run_convert_string_bytes (P := Tryd.prog) (W.alloc (.cells #[.pointer none, .slice none 0 0] 98)) 9 48 5 s Tryd.underlying9 Tryd.underlying48 Tryd.underlying5
  obtain ⟨W2, hW2⟩ : ∃ X, Lib.bytesWorld (W.alloc (.cells #[.pointer none, .slice none 0 0] 98)) 5 s = X := ⟨_, rfl⟩
  obtain ⟨cp, hcp⟩ : ∃ c, grownCap (W.alloc (.cells #[.pointer none, .slice none 0 0] 98)) s.size 0 5 = c := ⟨_, rfl⟩
  have hz1 : (W.alloc (.cells #[.pointer none, .slice none 0 0] 98)).heap.size = W.heap.size + 1 := by simp
  have hold : W2.heap[W.heap.size]? = some (.cells #[.pointer none, .slice none 0 0] 98 (0, 0)) := by
    rw [← hW2, Lib.bytesWorld_at_old _ _ _ _ (by omega)]; exact World.alloc_heap_new W _
  have hrow : ∀ j (hj : j < s.data.toList.length), W2.cell? ⟨W.heap.size + 1, j, none⟩ = some (.int .u8 ((s.data.toList[j]).toNat : Int)) := fun j hj => by
    have := Lib.bytesWorld_cell (W.alloc (.cells #[.pointer none, .slice none 0 0] 98)) 5 s j (by rw [Array.length_toList] at hj; exact hj)
    rw [hW2, hz1] at this
    rw [this, List.getD_eq_getElem?_getD, List.getElem?_eq_getElem hj]
    rfl
  have hsz : W2.heap.size = W.heap.size + 2 := by rw [← hW2, Lib.bytesWorld_size, hz1]
  have hbel : Below W.heap.size W W2 := by
    rw [← hW2]
    exact (below_alloc W _).trans (⟨rfl, rfl, rfl, by rw [Lib.bytesWorld_size]; omega, fun k hk => Lib.bytesWorld_at_old _ _ _ _ (by omega)⟩)
  rw [hW2, hcp, hz1] at hcv
  clear hW2 hcp hz1
  have HO := Lib.hid hold
  have HR := Lib.hid hrow
  have HB := Lib.hid hbel
  have HS := Lib.hid hsz
  obtain ⟨n, hn⟩ : ∃ n, s.size = n := ⟨_, rfl⟩
  have HN := Lib.hid (show s.data.toList.length = n by rw [Array.length_toList]; exact hn)
  rw [hn] at hcv h4
  clear hold hrow hbel hsz hs hn
  go_enter Tryd.func50, Tryd.ntmps50
  go_wp2_with fail
  go_loopw [11] (fun i wr => ∃ k : Nat, i = .int .i64 k ∧ k ≤ n ∧ Hid (Bld wr W.heap.size (W.heap.size + 2) ((s.data.toList.take k).flatMap q1)) ∧ Hid (Step (bldF W.heap.size (W.heap.size + 2)) (bldF W.heap.size (W.heap.size + 2)) W2 wr)) (fun i _ => n - (intOf i).toNat)
  case atStart =>
    refine ⟨0, rfl, Nat.zero_le _, ?_, Step.refl _ _⟩
    exact ⟨⟨_, _, .inl rfl, HO.out, ⟨rfl, .inl ⟨rfl, rfl⟩⟩⟩, by omega⟩
  case round =>
    obtain ⟨k, rfl, hkn, hD, hST⟩ := hrel
    by_cases hlt : k < n
    · have hkl : k < s.data.toList.length := by rw [HN.out]; exact hlt
      have cell0 := HR.out k hkl
      have ccell : wr.cell? ⟨W.heap.size + 1, k, none⟩ = some (.int .u8 ((s.data.toList[k]).toNat : Int)) :=
        (World.cell?_of_block (a := ⟨W.heap.size + 1, k, none⟩) (Bld.keep (k := W.heap.size + 1) hST.out (by rw [HS.out]; omega) (by omega) (by omega))).trans cell0
      have hFT := flat_take hkl
      obtain ⟨c, hc⟩ : ∃ c, s.data.toList[k] = c := ⟨_, rfl⟩
      rw [hc] at ccell hFT
      have HF := Lib.hid hFT
      have hlen := quote_len (s.data.toList.take k)
      rw [List.length_take] at hlen
      obtain ⟨L, hL⟩ : ∃ L, (s.data.toList.take k).flatMap q1 = L := ⟨_, rfl⟩
      rw [hL] at hD HF hlen
      have hL3 : L.length ≤ 12288 := by omega
      have hRw : W.heap.size + 2 ≤ wr.heap.size := by have := hST.out.size; rw [HS.out] at this; exact this
      have hltz : (k : Int) < (n : Int) := by omega
      have h0 : (0 : Int) ≤ (k : Int) := by omega
      have hW1 := Lib.hid (fun X l (hX : Bld X W.heap.size (W.heap.size + 2) l) (hs : W.heap.size + 2 ≤ X.heap.size) (hl : l.length ≤ 20000) d => wbyte_any hX hs (by omega) d)
      have HRW := Lib.hid hRw
      have HL3 := Lib.hid hL3
      have hz := c.toNat_lt
      clear cell0 hFT hc hlen hL hkl hRw hL3
      have HST := Lib.hid (stands_any (c.toNat : Int))
      have hq : q1 c = if plainZ (c.toNat : Int) then [c] else [37, hxd (c.toNat / 16), hxd (c.toNat % 16)] := rfl
      obtain ⟨b0, hb0⟩ : ∃ b, plainZ (c.toNat : Int) = b := ⟨_, rfl⟩
      rw [hb0] at HST hq
      have HQ := Lib.hid hq
      clear hq hb0
      go_wp2_with fail
      refine (HST.out _).mono ?_
      rintro e w1 ⟨rfl, rfl⟩
      cases b0
      · go_wp2_with fail
        refine (hW1.out _ _ hD.out HRW.out (by have := HL3.out; omega) 37).mono ?_
        rintro e w2 ⟨rfl, hD2, hS2⟩
        have HD2 := Lib.hid hD2
        have HS2 := Lib.hid (hST.out.trans hS2)
        have hST' := Lib.hid hS2.size
        clear hD2 hS2
        go_wp2_with fail
        refine (hW1.out _ _ HD2.out (Nat.le_trans HRW.out hST'.out) (by have := HL3.out; simp; omega) _).mono ?_
        rintro e w3 ⟨rfl, hD3, hS3⟩
        rw [hx_get] at hD3
        have HD3 := Lib.hid hD3
        have HSZ3 := Lib.hid (Nat.le_trans HRW.out (Nat.le_trans hST'.out hS3.size))
        have HS3 := Lib.hid (HS2.out.trans hS3)
        clear hD3 hS3
        go_wp2_with fail
        refine (hW1.out _ _ HD3.out HSZ3.out (by have := HL3.out; simp; omega) _).mono ?_
        rintro e w4 ⟨rfl, hD4, hS4⟩
        rw [hx_get] at hD4
        have HD4 := Lib.hid (show Bld w4 W.heap.size (W.heap.size + 2) ((s.data.toList.take (k + 1)).flatMap q1) by rw [HF.out, HQ.out]; simpa using hD4)
        have HS4 := Lib.hid (HS3.out.trans hS4)
        clear hD4 hS4
        go_wp2_with fail
        go_roundw
        case rel => exact ⟨k + 1, by go_num, by omega, HD4, HS4⟩
        case measure => simp [intOf]; omega
      · go_wp2_with fail
        refine (hW1.out _ _ hD.out HRW.out (by have := HL3.out; omega) c).mono ?_
        rintro e w2 ⟨rfl, hD2, hS2⟩
        have HD2 := Lib.hid (show Bld w2 W.heap.size (W.heap.size + 2) ((s.data.toList.take (k + 1)).flatMap q1) by rw [HF.out, HQ.out]; exact hD2)
        have HS2 := Lib.hid (hST.out.trans hS2)
        clear hD2 hS2
        go_wp2_with fail
        go_roundw
        case rel => exact ⟨k + 1, by go_num, by omega, HD2, HS2⟩
        case measure => simp [intOf]; omega
    · obtain rfl : k = n := by omega
      have HD2 := Lib.hid (show Bld wr W.heap.size (W.heap.size + 2) (s.data.toList.flatMap q1) by have := hD.out; rw [List.take_of_length_le (by rw [HN.out]; exact Nat.le_refl _)] at this; exact this)
      go_wp2_with fail
      refine (Any.Builder_String_any_k lays169 Extra169 _ _ _ _ HD2.out.is (by have := hST.out.size; rw [HS.out] at this; omega)).mono ?_
      rintro e w2 ⟨rfl, -, hb, -⟩
      have HB2 := Lib.hid hb
      clear hb
      go_wp2_with fail
      go_ret
      refine ⟨rfl, HB.out.trans ((hST.out.below (by rw [HS.out]; omega) (fun k hk hf => ?_)).trans HB2.out)⟩
      rcases hf with hf | hf <;> omega

def quoteB (s : ByteArray) : ByteArray := ⟨(quoteL s.data.toList).toArray⟩
theorem quote_any (s : ByteArray) (W : World) (h4 : s.size ≤ 4096) : Calls Tryd.prog 50 #[.string s] W fun e W' => e = .returned (.string (quoteB s)) ∧ Below W.heap.size W W' := by
  by_cases hs : s.data.toList = []
  · have he : s.toList.isEmpty = true := by rw [ByteArray.toList_eq, hs]; rfl
    have hq : quoteB s = ⟨#[45]⟩ := by unfold quoteB quoteL; rw [if_pos hs]
    rw [hq]
    clear hs h4 hq
    go_enter Tryd.func50, Tryd.ntmps50
    go_wp2_with fail
    go_ret
    exact ⟨rfl, Below.refl _ _⟩
  · have hq : quoteB s = ⟨(s.data.toList.flatMap q1).toArray⟩ := by unfold quoteB quoteL; rw [if_neg hs]
    rw [hq]
    exact quote_some s W hs h4

end Go.Proofs.YtlgjolajnddpbaaDoor
