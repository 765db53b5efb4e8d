/-
  The calls of a heap, as they lie in memory; few; rows of numbers and of texts.
-/
import Derived.Test.YteggbkhlmehpmaaHlocks
namespace Go.Proofs.Yteggbkhlmehpmaa
open Go Go.RowKit
attribute [local go_sem ↓] Go.wp_at_zero Go.wp_at_succ

/-- A call. -/
structure OpD where
  kind : Int
  block : Nat
  cell : Int
  a : Int
  b : Int
  text : ByteArray
def OpD.cells (o : OpD) : List Value := [.int .i64 o.kind, .int .u64 (o.block : Int), .int .i64 o.cell, .int .u64 o.a, .int .u64 o.b, .string o.text]
def OpD.fits (o : OpD) : Prop := (-9223372036854775808 ≤ o.kind ∧ o.kind ≤ 9223372036854775807) ∧ o.block < 18446744073709551616 ∧ (-9223372036854775808 ≤ o.cell ∧ o.cell ≤ 9223372036854775807) ∧ (0 ≤ o.a ∧ o.a < 18446744073709551616) ∧ (0 ≤ o.b ∧ o.b < 18446744073709551616) ∧ o.text.size ≤ 281474976710656
/-- At p, a slice's address, they lie. -/
def So (W : World) (p : Option Addr) (L : List OpD) : Prop :=
  ∀ j (h : j < L.length), ∃ b o, p = some ⟨b, o, none⟩ ∧ W.cell? ⟨b, o + j * 6, none⟩ = some (.int .i64 L[j].kind) ∧ W.cell? ⟨b, o + j * 6 + 1, none⟩ = some (.int .u64 (L[j].block : Int)) ∧ W.cell? ⟨b, o + j * 6 + 2, none⟩ = some (.int .i64 L[j].cell) ∧ W.cell? ⟨b, o + j * 6 + 3, none⟩ = some (.int .u64 L[j].a) ∧ W.cell? ⟨b, o + j * 6 + 4, none⟩ = some (.int .u64 L[j].b) ∧ W.cell? ⟨b, o + j * 6 + 5, none⟩ = some (.string L[j].text)
theorem So.nil (W : World) (p : Option Addr) : So W p [] := fun _ h => absurd h (Nat.not_lt_zero _)
theorem So.grow {W W' : World} {p : Option Addr} {L : List OpD} (h : So W p L) (hb : Below W.heap.size W W') : So W' p L := fun j hj => by
  obtain ⟨b, o, rfl, c1, c2, c3, c4, c5, c6⟩ := h j hj
  exact ⟨b, o, rfl, (hb.cell (p := ⟨b, _, none⟩) (cell_lt c1)).trans c1, (hb.cell (p := ⟨b, _, none⟩) (cell_lt c2)).trans c2, (hb.cell (p := ⟨b, _, none⟩) (cell_lt c3)).trans c3, (hb.cell (p := ⟨b, _, none⟩) (cell_lt c4)).trans c4, (hb.cell (p := ⟨b, _, none⟩) (cell_lt c5)).trans c5, (hb.cell (p := ⟨b, _, none⟩) (cell_lt c6)).trans c6⟩

/-- At p, a slice's address, these bytes lie. -/
def Su (W : World) (p : Option Addr) (L : List Nat) : Prop := ∀ j (h : j < L.length), ∃ b o, p = some ⟨b, o, none⟩ ∧ W.cell? ⟨b, o + j, none⟩ = some (.int .u8 ((L[j] : Nat) : Int))
theorem Su.grow {W W' : World} {p : Option Addr} {L : List Nat} (h : Su W p L) (hb : Below W.heap.size W W') : Su W' p L := fun j hj => by
  obtain ⟨b, o, rfl, c⟩ := h j hj
  exact ⟨b, o, rfl, (hb.cell (p := ⟨b, _, none⟩) (cell_lt c)).trans c⟩
/-- At p, a slice's address, these texts lie. -/
def St (W : World) (p : Option Addr) (L : List ByteArray) : Prop := ∀ j (h : j < L.length), ∃ b o, p = some ⟨b, o, none⟩ ∧ W.cell? ⟨b, o + j, none⟩ = some (.string L[j])
theorem St.grow {W W' : World} {p : Option Addr} {L : List ByteArray} (h : St W p L) (hb : Below W.heap.size W W') : St W' p L := fun j hj => by
  obtain ⟨b, o, rfl, c⟩ := h j hj
  exact ⟨b, o, rfl, (hb.cell (p := ⟨b, _, none⟩) (cell_lt c)).trans c⟩

/-- Are there few calls, without long texts? -/
def fewD (L : List OpD) (most : Nat) : Bool := ((L.take 200).all fun o => decide (o.text.size ≤ 100)) && decide (L.length ≤ most)
theorem fewD_texts {L : List OpD} {most : Nat} (h : fewD L most = true) (hm : most ≤ 200) : L.length ≤ most ∧ ∀ o ∈ L, o.text.size ≤ 100 := by
  unfold fewD at h
  rw [Bool.and_eq_true] at h
  have hl := of_decide_eq_true h.2
  refine ⟨hl, fun o ho => ?_⟩
  have := List.all_eq_true.1 h.1 o (by rw [List.take_of_length_le (by omega)]; exact ho)
  exact of_decide_eq_true this

set_option maxRecDepth 100000 in
set_option maxHeartbeats 2000000 in
theorem few_any (pa : Option Addr) (n c most : Nat) (L : List OpD) (W : World) (hs : So W pa L) (hl : L.length = n) (hn : n ≤ maxLen) (hm : most ≤ 200) :
    Calls Try.prog 7 #[.slice pa n c, .int .i64 most] W fun e W' => e = .returned (.bool (fewD L most)) ∧ W = W' := by
  have hn' : (n : Int) ≤ 9223372036854775807 := by simp [maxLen] at hn; omega
  have HS := Lib.hid hs
  have HL := Lib.hid hl
  have hm' : (most : Int) ≤ 200 := by omega
  clear hs hl hn hm
  go_enter Try.func7, Try.ntmps7
  go_wp2_with fail
  go_loop [5] (fun i => ∃ k : Nat, i = .int .i64 k ∧ k ≤ n ∧ k ≤ 200 ∧ Hid ((L.take k).all (fun o => decide (o.text.size ≤ 100)) = true)) (fun i => n - (intOf i).toNat)
  case atStart => exact ⟨0, rfl, Nat.zero_le _, Nat.zero_le _, Lib.hid (by simp)⟩
  case round =>
    obtain ⟨k, rfl, hkn, hk2, hA⟩ := hrel
    have hk0 : (0 : Int) ≤ (k : Int) := by omega
    by_cases hlt : k < n ∧ k < 200
    · obtain ⟨hlt, hk200⟩ := hlt
      have hk1 : (k : Int) < (n : Int) := by omega
      have hk3 : (k : Int) < 200 := by omega
      have hkL : k < L.length := by rw [HL.out]; exact hlt
      obtain ⟨ba, oa, rfl, _, _, _, _, _, hc⟩ := HS.out k hkL
      obtain ⟨s, hsx⟩ : ∃ s, (L[k]'hkL).text = s := ⟨_, rfl⟩
      rw [hsx] at hc
      have hT := Lib.hid (show (L.take (k + 1)).all (fun o => decide (o.text.size ≤ 100)) = decide (s.size ≤ 100) from by
        rw [List.take_succ_eq_append_getElem hkL, List.all_append, hA.out, ← hsx]; simp)
      clear hsx
      by_cases hbig : 100 < s.size
      · have hz : (100 : Int) < (s.size : Int) := by omega
        have hF := Lib.hid (show fewD L most = false from by
          unfold fewD
          rw [Bool.and_eq_false_iff]
          left
          rw [List.all_eq_false]
          refine ⟨L[k], ?_, ?_⟩
          · rw [List.mem_take_iff_getElem]
            exact ⟨k, by omega, rfl⟩
          · have h1 : (L.take (k + 1)).all (fun o => decide (o.text.size ≤ 100)) = false := by rw [hT.out]; exact decide_eq_false (by omega)
            rw [List.take_succ_eq_append_getElem hkL, List.all_append, hA.out] at h1
            simpa using h1)
        clear hbig hlt hkn
        go_wp2_with fail
        go_ret
        exact ⟨by rw [hF.out]; rfl, rfl⟩
      · have hz : (s.size : Int) ≤ 100 := by omega
        have hA2 := Lib.hid (show (L.take (k + 1)).all (fun o => decide (o.text.size ≤ 100)) = true from by rw [hT.out]; exact decide_eq_true (by omega))
        clear hbig
        go_wp2_with fail
        go_round
        case rel => exact ⟨k + 1, by go_num, by omega, by omega, hA2⟩
        case measure => simp [intOf]; omega
    · have hF := Lib.hid (show fewD L most = decide (n ≤ most) from by
        unfold fewD
        have h1 : (L.take 200).all (fun o => decide (o.text.size ≤ 100)) = true := by
          by_cases h : k = n
          · rw [List.take_of_length_le (by rw [HL.out]; omega)]
            have := hA.out
            rwa [List.take_of_length_le (by rw [HL.out]; omega)] at this
          · have : k = 200 := by omega
            rw [← this]; exact hA.out
        rw [h1, HL.out, Bool.true_and])
      by_cases h : k < n
      · have hk1 : (k : Int) < (n : Int) := by omega
        have hk3 : ¬ (k : Int) < 200 := by omega
        clear hlt h
        go_wp2_with fail
        go_ret
        exact ⟨by rw [hF.out]; rfl, rfl⟩
      · obtain rfl : n = k := by omega
        clear hlt h
        go_wp2_with fail
        go_ret
        exact ⟨by rw [hF.out]; rfl, rfl⟩

end Go.Proofs.Yteggbkhlmehpmaa
