/-
  Whether an act may be, and whether it only looks, by the reference.
-/
import Derived.Test.YtlgjolajnddpbaaDoorAct
namespace Go.Proofs.YtlgjolajnddpbaaDoor
open Go Go.RowKit
attribute [local go_sem ↓] Go.wp_at_zero Go.wp_at_succ

set_option maxRecDepth 100000 in
set_option maxHeartbeats 8000000 in
theorem rright_any (k : Int) (b : Nat) (c o n : Int) (t : ByteArray) (W : World) : Calls Tryd.prog 10 #[actV k b c o n t] W (Says (rightA ⟨k, b, c, o, n, t⟩) W) := by
  by_cases hc : 0 ≤ c
  · by_cases hs : (t.size : Int) ≤ 4096
    · have HE : rightA ⟨k, b, c, o, n, t⟩ = zeroA (restA ⟨k, b, c, o, n, t⟩) := by unfold rightA; simp only; rw [decide_eq_true hc, decide_eq_true hs]; rfl
      rw [HE]
      clear HE
      have HB := Lib.hid (below_alloc W (.cells #[.int .i64 k, .int .u64 b, .int .i64 c, .int .u64 o, .int .u64 n, .string t] 34))
      by_cases hk : k = 0 ∨ k = 1 ∨ k = 2 ∨ k = 3 ∨ k = 4 ∨ k = 5 ∨ k = 6 ∨ k = 7 ∨ k = 8 ∨ k = 9 ∨ k = 10
      · rcases hk with rfl | rfl | rfl | rfl | rfl | rfl | rfl | rfl | rfl | rfl | rfl
        all_goals
          go_enter Tryd.func10, Tryd.ntmps10
          go_wp2_with fail
          all_goals
            go_ret
            refine Says.mk ?_ (below_alloc _ _)
            simp [zeroA, restA, *]
      · have HE : zeroA (restA ⟨k, b, c, o, n, t⟩) = false := by
          have : k ≠ 0 := by omega
          unfold restA
          simp only
          rw [if_neg (by omega), if_neg (by omega), if_neg (by omega), if_neg (by omega), if_neg (by omega), if_neg (by omega)]
          unfold zeroA
          simp [this]
        rw [HE]
        clear HE
        by_cases h0 : k < 0
        · clear hk
          go_enter Tryd.func10, Tryd.ntmps10
          go_wp2_with fail
          go_ret
          exact ⟨rfl, HB.out⟩
        · have h1 : 10 < k := by omega
          clear hk
          go_enter Tryd.func10, Tryd.ntmps10
          go_wp2_with fail
          go_ret
          exact ⟨rfl, HB.out⟩
    · have HE : rightA ⟨k, b, c, o, n, t⟩ = false := by unfold rightA; simp only; rw [decide_eq_false hs]; simp
      rw [HE]
      clear HE
      go_enter Tryd.func10, Tryd.ntmps10
      go_wp2_with fail
      go_ret
      exact ⟨rfl, below_alloc _ _⟩
  · have HE : rightA ⟨k, b, c, o, n, t⟩ = false := by unfold rightA; simp only; rw [decide_eq_false hc]; simp
    rw [HE]
    clear HE
    go_enter Tryd.func10, Tryd.ntmps10
    go_wp2_with fail
    go_ret
    exact ⟨rfl, below_alloc _ _⟩

set_option maxRecDepth 100000 in
set_option maxHeartbeats 4000000 in
theorem rlooks_any (k : Int) (b : Nat) (c o n : Int) (t : ByteArray) (W : World) : Calls Tryd.prog 12 #[actV k b c o n t] W (Says (looksA ⟨k, b, c, o, n, t⟩) W) := by
  have HR := Lib.hid (fun X => rright_any k b c o n t X)
  have HE : looksA ⟨k, b, c, o, n, t⟩ = ((k == 1 || k == 10 || k == 6) && rightA ⟨k, b, c, o, n, t⟩) := rfl
  rw [HE]
  have hA := World.alloc_heap_new W (.cells #[.int .i64 k, .int .u64 b, .int .i64 c, .int .u64 o, .int .u64 n, .string t] 34)
  obtain ⟨z, hzz⟩ : ∃ z, rightA ⟨k, b, c, o, n, t⟩ = z := ⟨_, rfl⟩
  rw [hzz] at HR ⊢
  have HA := Lib.hid hA
  clear HE hzz hA
  go_enter Tryd.func12, Tryd.ntmps12
  go_wp2_with fail
  refine (HR.out _).mono ?_
  rintro en w1 ⟨rfl, hb⟩
  have HB := Lib.hid ((below_alloc W _).trans (hb.mono (by simp)))
  have k0 : w1.cell? ⟨W.heap.size, 0, none⟩ = some (.int .i64 k) := (cell_of ((hb.block _ (heap_at_lt HA.out)).trans HA.out)).trans rfl
  clear hb
  cases z
  · go_wp2_with fail
    go_ret
    exact Says.mk (by simp) HB.out
  · go_wp2_with fail
    all_goals
      go_ret
      refine Says.mk ?_ HB.out
      first
        | (simp [*]; done)
        | (generalize (k == 1) = q1; generalize (k == 6) = q6; generalize (k == 10) = q10; revert q1 q6 q10; decide)

end Go.Proofs.YtlgjolajnddpbaaDoor
