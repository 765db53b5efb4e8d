/-
  Are there few acts, none with a long text?
-/
import Derived.Test.YtlgjolajnddpbaaDoorArgs18
namespace Go.Proofs.YtlgjolajnddpbaaDoor
open Go Go.RowKit
attribute [local go_sem ↓] Go.wp_at_zero Go.wp_at_succ

def longA (x : ActD) : Bool := (decide (200 < x.text.size) && decide (x.text.size ≤ 4096)) || decide (4200 < x.text.size)
def fewA (L : List ActD) (most : Nat) : Bool := ((L.take 150).all fun o => !longA o) && decide (L.length ≤ most)
theorem fewA_len {L : List ActD} {most : Nat} (h : fewA L most = true) : L.length ≤ most := by
  unfold fewA at h
  rw [Bool.and_eq_true] at h
  exact of_decide_eq_true h.2

set_option maxRecDepth 100000 in
set_option maxHeartbeats 2000000 in
theorem few_any (pa : Option Addr) (n c most : Nat) (L : List ActD) (W : World) (hs : Sa W pa L) (hl : L.length = n) (hn : n ≤ maxLen) (hm : most ≤ 200) :
    Calls Tryd.prog 6 #[.slice pa n c, .int .i64 most] W fun e W' => e = .returned (.bool (fewA L most)) ∧ W = W' := by
  have hn' : (n : Int) ≤ 9223372036854775807 := by simp [maxLen] at hn; omega
  have HS := Lib.hid hs
  have HL := Lib.hid hl
  have hm' : (most : Int) ≤ 200 := by omega
  clear hs hl hn hm
  go_enter Tryd.func6, Tryd.ntmps6
  go_wp2_with fail
  go_loop [5] (fun i => ∃ k : Nat, i = .int .i64 k ∧ k ≤ n ∧ k ≤ 150 ∧ Hid ((L.take k).all (fun o => !longA o) = true)) (fun i => n - (intOf i).toNat)
  case atStart => exact ⟨0, rfl, Nat.zero_le _, Nat.zero_le _, Lib.hid (by simp)⟩
  case round =>
    obtain ⟨k, rfl, hkn, hk2, hA⟩ := hrel
    have hk0 : (0 : Int) ≤ (k : Int) := by omega
    by_cases hlt : k < n ∧ k < 150
    · obtain ⟨hlt, hk200⟩ := hlt
      have hk1 : (k : Int) < (n : Int) := by omega
      have hk3 : (k : Int) < 150 := by omega
      have hkL : k < L.length := by rw [HL.out]; exact hlt
      obtain ⟨ba, oa, rfl, _, _, _, _, _, hc⟩ := HS.out k hkL
      obtain ⟨s, hsx⟩ : ∃ s, (L[k]'hkL).text = s := ⟨_, rfl⟩
      obtain ⟨lg, hlg⟩ : ∃ lg, longA (L[k]'hkL) = lg := ⟨_, rfl⟩
      rw [hsx] at hc
      have hlg2 : ((decide (200 < s.size) && decide (s.size ≤ 4096)) || decide (4200 < s.size)) = lg := by rw [← hlg, ← hsx]; rfl
      have hT := Lib.hid (show (L.take (k + 1)).all (fun o => !longA o) = !lg from by
        rw [List.take_succ_eq_append_getElem hkL, List.all_append, hA.out, ← hlg]; simp)
      clear hsx
      cases lg with
      | true =>
        have hF := Lib.hid (show fewA L most = false from by
          unfold fewA
          rw [Bool.and_eq_false_iff]
          left
          rw [List.all_eq_false]
          refine ⟨L[k], ?_, ?_⟩
          · rw [List.mem_take_iff_getElem]
            exact ⟨k, by omega, rfl⟩
          · rw [hlg]; decide)
        clear hlg hlt hkn
        have hcase : (200 < s.size ∧ s.size ≤ 4096) ∨ (200 < s.size ∧ ¬ s.size ≤ 4096 ∧ 4200 < s.size) := by
          simp only [Bool.or_eq_true, Bool.and_eq_true, decide_eq_true_eq] at hlg2
          omega
        clear hlg2
        rcases hcase with ⟨c1, c2⟩ | ⟨c1, c2, c3⟩
        · have z1 : (200 : Int) < (s.size : Int) := by omega
          have z2 : (s.size : Int) ≤ 4096 := by omega
          clear c1 c2
          go_wp2_with fail
          go_ret
          exact ⟨by rw [hF.out]; rfl, rfl⟩
        · have z1 : (200 : Int) < (s.size : Int) := by omega
          have z2 : ¬ (s.size : Int) ≤ 4096 := by omega
          have z3 : (4200 : Int) < (s.size : Int) := by omega
          clear c1 c2 c3
          go_wp2_with fail
          go_ret
          exact ⟨by rw [hF.out]; rfl, rfl⟩
      | false =>
        have hA2 := Lib.hid (show (L.take (k + 1)).all (fun o => !longA o) = true from by rw [hT.out]; rfl)
        have hcase : s.size ≤ 200 ∨ (200 < s.size ∧ ¬ s.size ≤ 4096 ∧ ¬ 4200 < s.size) := by
          simp only [Bool.or_eq_false_iff, Bool.and_eq_false_iff, decide_eq_false_iff_not] at hlg2
          omega
        clear hlg hlg2
        rcases hcase with c1 | ⟨c1, c2, c3⟩
        · have z1 : ¬ (200 : Int) < (s.size : Int) := by omega
          have z3 : ¬ (4200 : Int) < (s.size : Int) := by omega
          clear c1
          go_wp2_with fail
          go_round
          case rel => exact ⟨k + 1, by go_num, by omega, by omega, hA2⟩
          case measure => simp [intOf]; omega
        · have z1 : (200 : Int) < (s.size : Int) := by omega
          have z2 : ¬ (s.size : Int) ≤ 4096 := by omega
          have z3 : ¬ (4200 : Int) < (s.size : Int) := by omega
          clear c1 c2 c3
          go_wp2_with fail
          go_round
          case rel => exact ⟨k + 1, by go_num, by omega, by omega, hA2⟩
          case measure => simp [intOf]; omega
    · have hF := Lib.hid (show fewA L most = decide (n ≤ most) from by
        unfold fewA
        have h1 : (L.take 150).all (fun o => !longA o) = true := by
          by_cases h : k = n
          · rw [List.take_of_length_le (by rw [HL.out]; omega)]
            have := hA.out
            rwa [List.take_of_length_le (by rw [HL.out]; omega)] at this
          · have : k = 150 := by omega
            rw [← this]; exact hA.out
        rw [h1, HL.out, Bool.true_and])
      by_cases h : k < n
      · have hk1 : (k : Int) < (n : Int) := by omega
        have hk3 : ¬ (k : Int) < 150 := by omega
        clear hlt h
        go_wp2_with fail
        go_ret
        exact ⟨by rw [hF.out]; rfl, rfl⟩
      · obtain rfl : n = k := by omega
        clear hlt h
        go_wp2_with fail
        go_ret
        exact ⟨by rw [hF.out]; rfl, rfl⟩

end Go.Proofs.YtlgjolajnddpbaaDoor
