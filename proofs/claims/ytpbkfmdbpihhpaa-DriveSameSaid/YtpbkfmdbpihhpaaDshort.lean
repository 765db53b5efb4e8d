/-
  Are there few acts, none with a long text?
-/
import Derived.Test.YtpbkfmdbpihhpaaPrt
namespace Go.Proofs.Ytpbkfmdbpihhpaa
open Go Go.RowKit
attribute [local go_sem ↓] Go.wp_at_zero Go.wp_at_succ

def shortA (L : List ActD) : Bool := ((L.take 80).all fun o => decide (o.text.size ≤ 200)) && decide (L.length ≤ 60)
theorem shortA_len {L : List ActD} (h : shortA L = true) : L.length ≤ 60 := by
  unfold shortA at h
  rw [Bool.and_eq_true] at h
  exact of_decide_eq_true h.2

set_option maxRecDepth 100000 in
set_option maxHeartbeats 2000000 in
theorem short_any (pa : Option Addr) (n c : Nat) (L : List ActD) (W : World) (hs : Sa W pa L) (hl : L.length = n) (hn : n ≤ maxLen) :
    Calls Try.prog 4 #[.slice pa n c] W fun e W' => e = .returned (.bool (shortA L)) ∧ W = W' := by
  have hn' : (n : Int) ≤ 9223372036854775807 := by simp [maxLen] at hn; omega
  have HS := Lib.hid hs
  have HL := Lib.hid hl
  clear hs hl hn
  go_enter Try.func4, Try.ntmps4
  go_wp2_with fail
  go_loop [3] (fun i => ∃ k : Nat, i = .int .i64 k ∧ k ≤ n ∧ k ≤ 80 ∧ Hid ((L.take k).all (fun o => decide (o.text.size ≤ 200)) = true)) (fun i => n - (intOf i).toNat)
  case atStart => exact ⟨0, rfl, Nat.zero_le _, Nat.zero_le _, Lib.hid (by simp)⟩
  case round =>
    obtain ⟨k, rfl, hkn, hk2, hA⟩ := hrel
    have hk0 : (0 : Int) ≤ (k : Int) := by omega
    by_cases hlt : k < n ∧ k < 80
    · obtain ⟨hlt, hk200⟩ := hlt
      have hk1 : (k : Int) < (n : Int) := by omega
      have hk3 : (k : Int) < 80 := by omega
      have hkL : k < L.length := by rw [HL.out]; exact hlt
      obtain ⟨ba, oa, rfl, _, _, _, _, _, hc⟩ := HS.out k hkL
      obtain ⟨s, hsx⟩ : ∃ s, (L[k]'hkL).text = s := ⟨_, rfl⟩
      rw [hsx] at hc
      have hT := Lib.hid (show (L.take (k + 1)).all (fun o => decide (o.text.size ≤ 200)) = decide (s.size ≤ 200) from by
        rw [List.take_succ_eq_append_getElem hkL, List.all_append, hA.out, ← hsx]; simp)
      by_cases hlong : s.size ≤ 200
      · have hg : ¬ (200 : Int) < (s.size : Int) := by omega
        have hT2 := Lib.hid (hT.out.trans (decide_eq_true hlong))
        clear hsx hlong
        go_wp2_with fail
        go_round
        case rel => exact ⟨k + 1, by go_num, by omega, by omega, hT2⟩
        case measure => simp [intOf]; omega
      · have hg : (200 : Int) < (s.size : Int) := by omega
        have hF := Lib.hid (show shortA L = false from by
          unfold shortA
          rw [Bool.and_eq_false_iff]
          left
          rw [List.all_eq_false]
          exact ⟨L[k], by rw [List.mem_take_iff_getElem]; exact ⟨k, by omega, rfl⟩, by rw [hsx]; simpa using hlong⟩)
        clear hsx hlt hkn hlong
        go_wp2_with fail
        go_ret
        exact ⟨by rw [hF.out]; rfl, rfl⟩
    · have hE : shortA L = decide (n ≤ 60) := by
        unfold shortA
        rw [HL.out]
        have : L.take 80 = L.take k := by
          rcases Nat.lt_or_ge k n with h1 | h1
          · have : k = 80 := by omega
            rw [this]
          · have : k = n := by omega
            rw [this, ← HL.out, List.take_of_length_le (Nat.le_refl _), List.take_of_length_le (by rw [HL.out]; omega)]
        rw [this, hA.out, Bool.true_and]
      have hD := Lib.hid (show shortA L = decide ((n : Int) ≤ 60) from by rw [hE]; by_cases h : n ≤ 60 <;> simp [h] <;> omega)
      clear hE
      by_cases h : k < n
      · have hk1 : (k : Int) < (n : Int) := by omega
        have hk3 : ¬ (k : Int) < 80 := by omega
        clear hlt h
        go_wp2_with fail
        go_ret
        exact ⟨by rw [hD.out]; rfl, rfl⟩
      · obtain rfl : n = k := by omega
        clear hlt h
        go_wp2_with fail
        go_ret
        exact ⟨by rw [hD.out]; rfl, rfl⟩

end Go.Proofs.Ytpbkfmdbpihhpaa
