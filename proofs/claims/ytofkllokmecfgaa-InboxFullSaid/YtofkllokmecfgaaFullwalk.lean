/-
  The walk through InboxFull.
-/
import Derived.Test.YtofkllokmecfgaaAwake15
namespace Go.Proofs.Ytofkllokmecfgaa
open Go Go.RowKit
attribute [local go_sem ↓] Go.wp_at_zero Go.wp_at_succ

theorem full_full (r k : Nat) (c : ChD) : fullD r (decide (r < k)) (List.replicate (min k r) c) = decide (r < k + 1) := by
  unfold fullD
  rw [List.length_replicate]
  by_cases h : r < k + 1
  · rw [decide_eq_true h]
    by_cases h2 : r < k
    · rw [decide_eq_true h2]; rfl
    · rw [decide_eq_true (show min k r = r by omega)]; simp
  · rw [decide_eq_false h, decide_eq_false (by omega), decide_eq_false (by omega)]; rfl
theorem full_push (r k : Nat) (c : ChD) : pushD r (decide (r < k)) (List.replicate (min k r) c) c = List.replicate (min (k + 1) r) c := by
  unfold pushD
  rw [full_full]
  by_cases h : r < k + 1
  · rw [decide_eq_true h, if_pos rfl, show min (k + 1) r = min k r by omega]
  · rw [decide_eq_false h, show min (k + 1) r = min k r + 1 by omega, List.replicate_succ']; rfl

/-- Between two rounds of InboxFull. -/
def FullI (B p r : Nat) (c : ChD) (W : World) (k : Nat) (X : World) : Prop := ∃ f, Boxp X B p r (decide (r < k)) (List.replicate (min k r) c) f ∧ Below B W X

set_option maxRecDepth 100000 in
set_option maxHeartbeats 8000000 in
theorem full_walk (m n : Nat) (c : ChD) (W : World) (hm : m ≤ 255) (hn : n ≤ 255) (hc : c.fits) :
    Calls Try.prog 5 #[.int .u8 m, .int .u8 n, .agg #[.string c.key, .bool c.has, .string c.val]] W (Says true W) := by
  obtain ⟨k, hs, v⟩ := c
  obtain ⟨r, hr⟩ : ∃ r, min m 64 = r := ⟨_, rfl⟩
  have h64 : r ≤ 64 := by omega
  have hrz : min (m : Int) 64 = (r : Int) := by omega
  have hcl : clampD (m : Int) = r := by unfold clampD; omega
  have hb1 := below_alloc W (.cells #[.string k, .bool hs, .string v] 31)
  have k1 := World.alloc_heap_new W (.cells #[.string k, .bool hs, .string v] 31)
  obtain ⟨W1, hW1⟩ : ∃ W1, W.alloc (.cells #[.string k, .bool hs, .string v] 31) = W1 := ⟨_, rfl⟩
  have hz1 := Lib.hid (show W1.heap.size = W.heap.size + 1 from by rw [← hW1]; simp)
  rw [hW1] at hb1 k1
  have HW := Lib.hid (fun X (hX : Below W1.heap.size W1 X) => hb1.trans (hX.mono hb1.size))
  have HC := Lib.hid (show ∀ X, Below W1.heap.size W1 X → X.cell? ⟨W.heap.size, 0, none⟩ = some (.string k) ∧ X.cell? ⟨W.heap.size, 1, none⟩ = some (.bool hs) ∧ X.cell? ⟨W.heap.size, 2, none⟩ = some (.string v) from fun X hX => by
    have e1 := (hX.block W.heap.size (by have := hz1.out; omega)).trans k1
    exact ⟨(cell_of e1).trans rfl, (cell_of e1).trans rfl, (cell_of e1).trans rfl⟩)
  have HFit := Lib.hid hc
  clear hr hb1 k1 hc
  go_enter Try.func5, Try.ntmps5
  go_wp2_with fail
  clear hW1
  refine (new_any m _).mono ?_
  rintro en w1 ⟨p, f1, rfl, h1, hb1⟩
  rw [hcl] at h1
  have HI := Lib.hid (show FullI W1.heap.size p r ⟨k, hs, v⟩ W1 0 w1 from ⟨f1, by rw [Nat.zero_min, decide_eq_false (Nat.not_lt_zero _)]; exact h1, hb1⟩)
  clear h1 hb1 hcl
  go_wp2_with fail
  go_loopw [9] (fun i wr => ∃ j : Nat, i = .int .i64 j ∧ j ≤ n ∧ Hid (FullI W1.heap.size p r ⟨k, hs, v⟩ W1 j wr)) (fun i _ => n - (intOf i).toNat)
  case atStart => exact ⟨0, rfl, Nat.zero_le _, HI⟩
  case round =>
    clear HI
    obtain ⟨j, rfl, hjn, hI⟩ := hrel
    obtain ⟨f, h1, h3⟩ := hI.out
    have H1 := Lib.hid h1
    have H3 := Lib.hid h3
    have hB := Lib.hid h1.size
    have hba := Lib.hid h1.base
    clear h1 h3 hI
    by_cases hlt : j < n
    · have hle : (j : Int) < (n : Int) := by omega
      obtain ⟨c0, c1, c2⟩ := HC.out _ H3.out
      by_cases hr : r < j + 1
      · have hrz1 : ¬ (j : Int) < (r : Int) := by omega
        go_wp2_with fail
        refine (push_is W1.heap.size p r (decide (r < j)) (List.replicate (min j r) ⟨k, hs, v⟩) f ⟨k, hs, v⟩ _ H1.out HFit.out true (List.replicate (min (j + 1) r) ⟨k, hs, v⟩) (by rw [full_full, decide_eq_true hr]) (full_push r j _)).mono ?_
        rintro en w2 ⟨rfl, f2, h2, s2⟩
        have H2 := Lib.hid h2
        have HI2 := Lib.hid (show FullI W1.heap.size p r ⟨k, hs, v⟩ W1 (j + 1) w2 from ⟨f2, by rw [decide_eq_true hr]; exact h2, H3.out.trans (s2.below hB.out hba.out)⟩)
        clear h2 s2 c0 c1 c2
        go_wp2_with fail
        refine (len_is W1.heap.size p r true (List.replicate (min (j + 1) r) ⟨k, hs, v⟩) f2 _ H2.out r (by rw [List.length_replicate]; omega)).mono ?_
        rintro en w3 ⟨rfl, rfl⟩
        go_wp2_with fail
        go_roundw
        case rel => exact ⟨j + 1, by go_num, by omega, HI2⟩
        case measure => simp [intOf]; omega
      · have hrz1 : (j : Int) < (r : Int) := by omega
        have hrz2 : ¬ (r : Int) < (j : Int) + 1 := by omega
        go_wp2_with fail
        refine (push_is W1.heap.size p r (decide (r < j)) (List.replicate (min j r) ⟨k, hs, v⟩) f ⟨k, hs, v⟩ _ H1.out HFit.out false (List.replicate (min (j + 1) r) ⟨k, hs, v⟩) (by rw [full_full, decide_eq_false hr]) (full_push r j _)).mono ?_
        rintro en w2 ⟨rfl, f2, h2, s2⟩
        have H2 := Lib.hid h2
        have HI2 := Lib.hid (show FullI W1.heap.size p r ⟨k, hs, v⟩ W1 (j + 1) w2 from ⟨f2, by rw [decide_eq_false hr]; exact h2, H3.out.trans (s2.below hB.out hba.out)⟩)
        clear h2 s2 c0 c1 c2
        go_wp2_with fail
        refine (len_is W1.heap.size p r false (List.replicate (min (j + 1) r) ⟨k, hs, v⟩) f2 _ H2.out (j + 1) (by rw [List.length_replicate]; omega)).mono ?_
        rintro en w3 ⟨rfl, rfl⟩
        go_wp2_with fail
        go_roundw
        case rel => exact ⟨j + 1, by go_num, by omega, HI2⟩
        case measure => simp [intOf]; omega
    · obtain rfl : n = j := by omega
      clear hlt hjn
      have hO : (decide (r < n) = true ∧ (r : Int) < (n : Int)) ∨ (decide (r < n) = false ∧ ¬ (r : Int) < (n : Int)) := by
        by_cases h : r < n
        · exact .inl ⟨decide_eq_true h, by omega⟩
        · exact .inr ⟨decide_eq_false h, by omega⟩
      have hP : (decide (0 = r) = true ∧ ¬ (0 : Int) < (r : Int)) ∨ (decide (0 = r) = false ∧ (0 : Int) < (r : Int)) := by
        by_cases h : 0 = r
        · exact .inl ⟨decide_eq_true h, by omega⟩
        · exact .inr ⟨decide_eq_false h, by omega⟩
      rcases hO with ⟨o1, o2⟩ | ⟨o1, o2⟩
      all_goals
        rw [o1] at H1
        rcases hP with ⟨q1, q2⟩ | ⟨q1, q2⟩
      all_goals
        have Q1 := Lib.hid q1
        clear o1 q1
        go_wp2_with fail
        refine (over_any W1.heap.size p r _ _ f _ H1.out).mono ?_
        rintro en w3 ⟨rfl, rfl⟩
        go_wp2_with fail
        refine (empty_any W1.heap.size p r _ _ f _ H1.out).mono ?_
        rintro en w4 ⟨f4, rfl, h4, s4⟩
        have H4 := Lib.hid h4
        have H5 := Lib.hid (H3.out.trans (s4.below hB.out hba.out))
        obtain ⟨c0, c1, c2⟩ := HC.out _ H5.out
        clear h4 s4
        go_wp2_with fail
        refine (over_any W1.heap.size p r _ _ f4 _ H4.out).mono ?_
        rintro en w5 ⟨rfl, rfl⟩
        go_wp2_with fail
        refine (len_is W1.heap.size p r _ _ f4 _ H4.out 0 rfl).mono ?_
        rintro en w5 ⟨rfl, rfl⟩
        go_wp2_with fail
        refine (push_is W1.heap.size p r false [] f4 ⟨k, hs, v⟩ _ H4.out HFit.out _ _ Q1.out rfl).mono ?_
        rintro en w6 ⟨rfl, f6, h6, s6⟩
        have H7 := Lib.hid (HW.out _ (H5.out.trans (s6.below H4.out.size H4.out.base)))
        clear h6 s6 c0 c1 c2
        go_wp2_with fail
        refine (awake_any _).mono ?_
        rintro en w7 ⟨rfl, hb⟩
        have H8 := Lib.hid (H7.out.trans (hb.mono H7.out.size))
        clear hb
        go_wp2_with fail
        go_ret
        exact Says.mk rfl H8.out

end Go.Proofs.Ytofkllokmecfgaa
