/-
  A few steps of an insertion sort, for a row of words that is nearly in order.
-/
import Derived.Test.YtnfepjolbhnhbaaHpart
namespace Go.Proofs.Ytnfepjolbhnhbaa
open Go Go.RowKit Go.Sort
attribute [local go_sem ↓] Go.wp_at_zero Go.wp_at_succ

theorem size_down (j : Nat) (v : Array Int) : (shiftDown ltInt j v).size = v.size := by
  induction j generalizing v with
  | zero => rfl
  | succ j ih =>
    rw [shiftDown]
    split
    · rfl
    · rw [ih, size_swp]
theorem size_up (b j : Nat) (v : Array Int) : (shiftUp ltInt b j v).size = v.size := by
  fun_induction shiftUp ltInt b j v <;> simp_all [size_swp]
theorem scan_step {u : Array Int} {b i : Nat} (h : i < b) (hl : ltInt u[i]! u[i - 1]! = false) : scanSorted ltInt u b i = scanSorted ltInt u b (i + 1) := by
  conv => lhs; rw [scanSorted, if_pos (by simp [h, hl])]
theorem scan_end {u : Array Int} {b i : Nat} (h : i < b → ltInt u[i]! u[i - 1]! = true) : scanSorted ltInt u b i = i := by
  rw [scanSorted, if_neg]
  intro hc
  simp only [Bool.and_eq_true, decide_eq_true_eq, Bool.not_eq_true'] at hc
  rw [h hc.1] at hc
  cases hc.2
theorem down_step {v : Array Int} {j : Nat} (hl : ltInt v[j + 1]! v[j]! = true) : shiftDown ltInt (j + 1) v = shiftDown ltInt j (swp v (j + 1) j) := by
  rw [shiftDown, if_neg (by simp [hl])]
theorem down_end {v : Array Int} {j : Nat} (hl : ltInt v[j + 1]! v[j]! = false) : shiftDown ltInt (j + 1) v = v := by
  rw [shiftDown, if_pos (by simp [hl])]
theorem up_step {v : Array Int} {b j : Nat} (h : j < b) (hl : ltInt v[j]! v[j - 1]! = true) : shiftUp ltInt b j v = shiftUp ltInt b (j + 1) (swp v j (j - 1)) := by
  conv => lhs; rw [shiftUp, if_pos h, if_neg (by simp [hl])]
theorem up_end {v : Array Int} {b j : Nat} (h : j < b → ltInt v[j]! v[j - 1]! = false) : shiftUp ltInt b j v = v := by
  rw [shiftUp]
  split
  · rename_i hj
    rw [if_pos (by simp [h hj])]
  · rfl

/-- What the few steps leave. -/
def PinsE (W : World) (q off C a b : Nat) (d : Array Int) (e : Ending) (W' : World) : Prop :=
  ∃ (r : Bool) (u : Array Int), e = .returned (.bool r) ∧ partialIns ltInt a b 5 (a + 1) d = (u, r) ∧ Put W q off C u W'

set_option maxRecDepth 100000 in
set_option maxHeartbeats 8000000 in
theorem pins_any (W : World) {q off C : Nat} {d : Array Int} {n : Nat} (cap a b : Nat) (hP : Put W q off C d W) (hn : d.size = n) (hab : a < b) (hb : b ≤ n) (hsz : n ≤ 1000000) :
    Calls Try.prog 58 #[.slice (some ⟨q, off, none⟩) n cap, .int .i64 a, .int .i64 b] W (PinsE W q off C a b d) := by
  have H0 := Lib.hid hP
  have HN := Lib.hid hn
  clear hP hn
  go_enter Try.func58, Try.ntmps58
  go_wp2
  go_loopw [7, 8] (fun s7 s8 wr => ∃ (k i : Nat) (u : Array Int), s7 = .int .i64 i ∧ s8 = .int .i64 k ∧ k ≤ 5 ∧ a < i ∧ i ≤ b ∧ Hid (u.size = n) ∧ Hid (Put W q off C u wr) ∧ Hid (partialIns ltInt a b (5 - k) i u = partialIns ltInt a b 5 (a + 1) d)) (fun _ s8 _ => 5 - (intOf s8).toNat)
  case atStart => exact ⟨0, a + 1, d, by go_num, rfl, by omega, by omega, by omega, HN, H0, Lib.hid rfl⟩
  case round =>
    obtain ⟨k, i, u, rfl, rfl, hk5, hai, hib, HU, H1, HO⟩ := hrel
    clear H0
    by_cases hk : k < 5
    · have hkz : (k : Int) < 5 := by omega
      obtain ⟨G, hG⟩ : ∃ G : Nat → Int, ∀ t, G t = u[t]! := ⟨fun t => u[t]!, fun _ => rfl⟩
      have HG := Lib.hid hG
      clear hG
      go_upto_block 2 with fail
      go_cut [7] (fun s7 wx => ∃ i2 : Nat, s7 = .int .i64 i2 ∧ a < i2 ∧ i2 ≤ b ∧ Hid (scanSorted ltInt u b i = i2) ∧ Hid (Put W q off C u wx))
      case first => as_aux_lemma =>
        go_wp2_with fail
        go_loopw [7] (fun s7 wr => ∃ i2 : Nat, s7 = .int .i64 i2 ∧ a < i2 ∧ i2 ≤ b ∧ Hid (scanSorted ltInt u b i = scanSorted ltInt u b i2) ∧ Hid (Put W q off C u wr)) (fun s7 _ => b - (intOf s7).toNat)
        case atStart => exact ⟨i, rfl, hai, hib, Lib.hid rfl, H1⟩
        case round =>
          clear H1 hai hib
          obtain ⟨j, rfl, hai, hib, HS, H1⟩ := hrel
          have hcw : ∀ t, t < n → wr.cell? ⟨q, off + t, none⟩ = some (.int .u64 (G t)) := fun t ht => by rw [HG.out]; exact H1.out.cell (by rw [HU.out]; exact ht)
          have hfw : ∀ t, t < n → wr.frozen? ⟨q, off + t, none⟩ = false := fun t _ => H1.out.frozen _
          by_cases hij : j < b
          · have hijz : (j : Int) < (b : Int) := by omega
            go_wp2_with fail
            go_quiet (first | (go_at_call 59; refine Calls.quiet_of_same (less_any _ _ _)))
            go_wp2_with fail
            · have hl : ltInt (G j) (G (j - 1)) = false := by
                have h : (!ltInt (G j) (G (j - 1))) = true := by assumption
                simpa using h
              go_roundw
              case rel => exact ⟨j + 1, by go_num, by omega, by omega, Lib.hid (by rw [HS.out, scan_step hij (by rw [← HG.out, ← HG.out]; exact hl)]), Lib.hid (H1.out.drew nq)⟩
              case measure => simp [intOf]; omega
            · have hl : ltInt (G j) (G (j - 1)) = true := by
                have h : (!ltInt (G j) (G (j - 1))) = false := by assumption
                simpa using h
              go_meet
              case rel => exact ⟨j, rfl, hai, hib, Lib.hid (by rw [HS.out, scan_end (fun _ => by rw [← HG.out, ← HG.out]; exact hl)]), Lib.hid (H1.out.drew nq)⟩
          · have hijz : decide ((j : Int) < (b : Int)) = false := decide_eq_false (by omega)
            go_wp2_with fail
            go_quiet (first | (go_at_call 59; refine Calls.quiet_of_same (less_any _ _ _)))
            go_wp2_with fail
            go_meet
            case rel => exact ⟨j, rfl, hai, hib, Lib.hid (by rw [HS.out, scan_end (fun h => absurd h hij)]), Lib.hid (H1.out.drew nq)⟩
      case rest => as_aux_lemma =>
        clear H1 hai
        obtain ⟨j, rfl, hai, hjb, HS, H1⟩ := hcut
        obtain ⟨s, hs⟩ : ∃ s, 5 - k = s + 1 := ⟨4 - k, by omega⟩
        have HO2 := Lib.hid (show (if j = b then (u, true) else if b - a < 50 then (u, false) else partialIns ltInt a b s j (fixUp ltInt b j (fixDown ltInt a j (swp u j (j - 1))))) = partialIns ltInt a b 5 (a + 1) d from by
          rw [← HO.out, hs, partialIns_succ, HS.out])
        have HSz := Lib.hid (show 5 - (k + 1) = s from by omega)
        clear HO HS hs
        by_cases hjb2 : j = b
        · subst hjb2
          rw [if_pos rfl] at HO2
          go_wp2_with fail
          go_ret
          exact ⟨true, u, rfl, HO2.out.symm, H1.out⟩
        · rw [if_neg hjb2] at HO2
          have hjb3 : j < b := by omega
          have hne : ((j : Int) == (b : Int)) = false := by simp; omega
          by_cases h50 : b - a < 50
          · rw [if_pos h50] at HO2
            have h50z : (b : Int) - (a : Int) < 50 := by omega
            go_wp2_with fail
            go_ret
            exact ⟨false, u, rfl, HO2.out.symm, H1.out⟩
          · rw [if_neg h50] at HO2
            have h50z : ¬ (b : Int) - (a : Int) < 50 := by omega
            have HSw := Lib.hid (show Put W q off C (swp u j (j - 1)) (((wc.setCell ⟨q, off + j, none⟩ (.int .u64 u[j - 1]!)).setCell ⟨q, off + (j - 1), none⟩ (.int .u64 u[j]!)).drew) from (H1.out.swap (by rw [HU.out]; omega) (by rw [HU.out]; omega)).drew 1)
            have HGo := Lib.hid (show u[j]! = G j ∧ u[j - 1]! = G (j - 1) from ⟨(HG.out _).symm, (HG.out _).symm⟩)
            rw [HGo.out.1, HGo.out.2] at HSw
            have hcw : ∀ t, t < n → wc.cell? ⟨q, off + t, none⟩ = some (.int .u64 (G t)) := fun t ht => by rw [HG.out]; exact H1.out.cell (by rw [HU.out]; exact ht)
            have hfw : ∀ t, t < n → wc.frozen? ⟨q, off + t, none⟩ = false := fun t _ => H1.out.frozen _
            obtain ⟨v0, hv0⟩ : ∃ v0, swp u j (j - 1) = v0 := ⟨_, rfl⟩
            have HV0 := Lib.hid (show v0.size = n from by rw [← hv0, size_swp]; exact HU.out)
            rw [hv0] at HSw HO2
            clear HG HGo hv0
            go_upto_region 11 with fail
            go_region
            all_goals go_upto_if 61 with fail
            clear hcw hfw
            generalize (((wc.setCell ⟨q, off + j, none⟩ (.int .u64 (G (j - 1)))).setCell ⟨q, off + (j - 1), none⟩ (.int .u64 (G j))).drew) = w2 at HSw ⊢
            go_cut [9] (fun s9 wx => Hid (Put W q off C (fixDown ltInt a j v0) wx))
            case first => as_aux_lemma =>
              clear HO2 HSz H1 HU
              by_cases h2 : 2 ≤ j - a
              · have h2z : (2 : Int) ≤ (j : Int) - (a : Int) := by omega
                have HF := Lib.hid (show fixDown ltInt a j v0 = shiftDown ltInt (j - 1) v0 from by unfold fixDown; rw [if_pos h2])
                go_wp2_with fail
                go_loopw [9] (fun s9 wr => ∃ (m : Nat) (v : Array Int), s9 = .int .i64 m ∧ m < j ∧ Hid (v.size = n) ∧ Hid (shiftDown ltInt m v = fixDown ltInt a j v0) ∧ Hid (Put W q off C v wr)) (fun s9 _ => (intOf s9).toNat)
                case atStart => exact ⟨j - 1, v0, by congr 1; omega, by omega, HV0, Lib.hid HF.out.symm, HSw⟩
                case round =>
                  clear HSw HV0 HF h2 h2z
                  obtain ⟨m, v, rfl, hmj, HV, HE, H1⟩ := hrel
                  obtain ⟨G, hG⟩ : ∃ G : Nat → Int, ∀ t, G t = v[t]! := ⟨fun t => v[t]!, fun _ => rfl⟩
                  have HG := Lib.hid hG
                  clear hG
                  have hcw : ∀ t, t < n → wr.cell? ⟨q, off + t, none⟩ = some (.int .u64 (G t)) := fun t ht => by rw [HG.out]; exact H1.out.cell (by rw [HV.out]; exact ht)
                  have hfw : ∀ t, t < n → wr.frozen? ⟨q, off + t, none⟩ = false := fun t _ => H1.out.frozen _
                  by_cases hm : 1 ≤ m
                  · have hmz : (1 : Int) ≤ (m : Int) := by omega
                    go_wp2_with fail
                    go_quiet (first | (go_at_call 59; refine Calls.quiet_of_same (less_any _ _ _)))
                    go_wp2_with fail
                    · have hl : ltInt (G m) (G (m - 1)) = false := by
                        have h : (!ltInt (G m) (G (m - 1))) = true := by assumption
                        simpa using h
                      rw [HG.out, HG.out] at hl
                      go_meet
                      case rel =>
                        refine Lib.hid ?_
                        obtain ⟨m2, rfl⟩ : ∃ m2, m = m2 + 1 := ⟨m - 1, by omega⟩
                        rw [← HE.out, down_end hl]
                        exact H1.out.drew nq
                    · have hl : ltInt (G m) (G (m - 1)) = true := by
                        have h : (!ltInt (G m) (G (m - 1))) = false := by assumption
                        simpa using h
                      go_region
                      all_goals go_wp2_with fail
                      go_roundw
                      case rel =>
                        refine ⟨m - 1, swp v m (m - 1), by congr 1; omega, by omega, Lib.hid (by rw [size_swp]; exact HV.out), Lib.hid ?_, Lib.hid ?_⟩
                        · rw [HG.out, HG.out] at hl
                          obtain ⟨m2, rfl⟩ : ∃ m2, m = m2 + 1 := ⟨m - 1, by omega⟩
                          rw [← HE.out, down_step hl]
                          rfl
                        · rw [HG.out, HG.out]
                          exact (H1.out.drew (nq + 1)).swap (by rw [HV.out]; omega) (by rw [HV.out]; omega)
                      case measure => simp [intOf]; omega
                  · have hmz : ¬ (1 : Int) ≤ (m : Int) := by omega
                    obtain rfl : m = 0 := by omega
                    go_wp2_with fail
                    go_meet
                    case rel => exact Lib.hid (by rw [← HE.out]; exact H1.out)
              · have h2z : ¬ (2 : Int) ≤ (j : Int) - (a : Int) := by omega
                have HF := Lib.hid (show fixDown ltInt a j v0 = v0 from by unfold fixDown; rw [if_neg h2])
                go_wp2_with fail
                go_meet
                case rel => exact Lib.hid (by rw [HF.out]; exact HSw.out)
            case rest => as_aux_lemma =>
              have HV1 := Lib.hid (show (fixDown ltInt a j v0).size = n from by unfold fixDown; split; rw [size_down]; exact HV0.out; exact HV0.out)
              obtain ⟨v1, hv1⟩ : ∃ v1, fixDown ltInt a j v0 = v1 := ⟨_, rfl⟩
              rw [hv1] at HO2 HV1 hcut
              have H2 := Lib.hid hcut.out
              clear hcut hv1 HSw HV0 H1
              have HV2 := Lib.hid (show (fixUp ltInt b j v1).size = n from by unfold fixUp; split; rw [size_up]; exact HV1.out; exact HV1.out)
              have HEnd := Lib.hid (fun X (hX : Put W q off C (fixUp ltInt b j v1) X) => (show ∃ (k' i' : Nat) (u' : Array Int), Value.int .i64 j = .int .i64 i' ∧ Value.int .i64 ((k : Int) + 1) = .int .i64 k' ∧ k' ≤ 5 ∧ a < i' ∧ i' ≤ b ∧ Hid (u'.size = n) ∧ Hid (Put W q off C u' X) ∧ Hid (partialIns ltInt a b (5 - k') i' u' = partialIns ltInt a b 5 (a + 1) d) from
                ⟨k + 1, j, _, rfl, by go_num, by omega, hai, hjb, HV2, Lib.hid hX, Lib.hid (by rw [HSz.out]; exact HO2.out)⟩))
              clear HO2 HSz HU HV2
              by_cases h2 : 2 ≤ b - j
              · have h2z : (2 : Int) ≤ (b : Int) - (j : Int) := by omega
                have HF := Lib.hid (show fixUp ltInt b j v1 = shiftUp ltInt b (j + 1) v1 from by unfold fixUp; rw [if_pos h2])
                go_wp2_with fail
                go_loopw [10] (fun s10 wr => ∃ (m : Nat) (v : Array Int), s10 = .int .i64 m ∧ 1 ≤ m ∧ m ≤ b ∧ Hid (v.size = n) ∧ Hid (shiftUp ltInt b m v = fixUp ltInt b j v1) ∧ Hid (Put W q off C v wr)) (fun s10 _ => b - (intOf s10).toNat)
                case atStart => exact ⟨j + 1, v1, by go_num, by omega, by omega, HV1, Lib.hid HF.out.symm, H2⟩
                case round =>
                  clear H2 HV1 HF h2 h2z
                  obtain ⟨m, v, rfl, hm1, hmb, HV, HE, H1⟩ := hrel
                  obtain ⟨G, hG⟩ : ∃ G : Nat → Int, ∀ t, G t = v[t]! := ⟨fun t => v[t]!, fun _ => rfl⟩
                  have HG := Lib.hid hG
                  clear hG
                  have hcw : ∀ t, t < n → wr.cell? ⟨q, off + t, none⟩ = some (.int .u64 (G t)) := fun t ht => by rw [HG.out]; exact H1.out.cell (by rw [HV.out]; exact ht)
                  have hfw : ∀ t, t < n → wr.frozen? ⟨q, off + t, none⟩ = false := fun t _ => H1.out.frozen _
                  by_cases hm : m < b
                  · have hmz : (m : Int) < (b : Int) := by omega
                    go_wp2_with fail
                    go_quiet (first | (go_at_call 59; refine Calls.quiet_of_same (less_any _ _ _)))
                    go_wp2_with fail
                    · have hl : ltInt (G m) (G (m - 1)) = false := by
                        have h : (!ltInt (G m) (G (m - 1))) = true := by assumption
                        simpa using h
                      rw [HG.out, HG.out] at hl
                      go_roundw
                      case rel =>
                        refine HEnd.out _ ?_
                        rw [← HE.out, up_end (fun _ => hl)]
                        exact H1.out.drew nq
                      case measure => simp [intOf]; omega
                    · have hl : ltInt (G m) (G (m - 1)) = true := by
                        have h : (!ltInt (G m) (G (m - 1))) = false := by assumption
                        simpa using h
                      go_region
                      all_goals go_wp2_with fail
                      go_roundw
                      case rel =>
                        refine ⟨m + 1, swp v m (m - 1), by go_num, by omega, by omega, Lib.hid (by rw [size_swp]; exact HV.out), Lib.hid ?_, Lib.hid ?_⟩
                        · rw [HG.out, HG.out] at hl
                          rw [← HE.out, up_step hm hl]
                        · rw [HG.out, HG.out]
                          exact (H1.out.drew (nq + 1)).swap (by rw [HV.out]; omega) (by rw [HV.out]; omega)
                      case measure => simp [intOf]; omega
                  · have hmz : ¬ (m : Int) < (b : Int) := by omega
                    go_wp2_with fail
                    go_roundw
                    case rel => exact HEnd.out _ (by rw [← HE.out, up_end (fun h => absurd h hm)]; exact H1.out)
                    case measure => simp [intOf]; omega
              · have h2z : ¬ (2 : Int) ≤ (b : Int) - (j : Int) := by omega
                have HF := Lib.hid (show fixUp ltInt b j v1 = v1 from by unfold fixUp; rw [if_neg h2])
                go_wp2_with fail
                go_roundw
                case rel => exact HEnd.out _ (by rw [HF.out]; exact H2.out)
                case measure => simp [intOf]; omega
    · have hkz : ¬ (k : Int) < 5 := by omega
      obtain rfl : k = 5 := by omega
      go_wp2_with fail
      go_ret
      exact ⟨false, u, rfl, HO.out.symm, H1.out⟩
end Go.Proofs.Ytnfepjolbhnhbaa
