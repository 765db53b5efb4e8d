/-
  slices.Sort of nothing; math/bits.Len of nought.
-/
import Derived.Test.YtnfepjolbhnhbaaHseq2
namespace Go.Proofs.Ytnfepjolbhnhbaa
open Go Go.RowKit
attribute [local go_sem ↓] Go.wp_at_zero Go.wp_at_succ

/-- Some number. -/
def SomeI (W : World) (e : Ending) (W' : World) : Prop := ∃ L : Int, e = .returned (.int .i64 L) ∧ W = W'
set_option maxRecDepth 100000 in
theorem len64_any (x : Nat) (hx : x < 256) (W : World) : Calls Try.prog 63 #[.int .u64 (x : Int)] W (SomeI W) := by
  obtain ⟨z, hz⟩ : ∃ z, (x : Int) = z := ⟨_, rfl⟩
  have h0 : 0 ≤ z := by omega
  have h1 : z ≤ 255 := by omega
  rw [hz]
  clear hz hx
  go_enter Try.func63, Try.ntmps63
  go_wp2_with fail
  go_ret
  exact ⟨_, rfl, rfl⟩
theorem blen_any (x : Nat) (hx : x < 256) (W : World) : Calls Try.prog 43 #[.int .u64 (x : Int)] W (SomeI W) := by
  have H := Lib.hid (len64_any x hx W)
  clear hx
  obtain ⟨z, hz⟩ : ∃ z, (x : Int) = z := ⟨_, rfl⟩
  rw [hz] at H ⊢
  clear hz
  go_enter Try.func43, Try.ntmps43
  go_wp2_with fail
  refine H.out.mono ?_
  rintro e w' ⟨L, rfl, rfl⟩
  go_wp2_with fail
  go_ret
  exact ⟨L, rfl, rfl⟩
theorem insert_none (W : World) (a : Option Addr) (c : Nat) : Calls Try.prog 53 #[.slice a 0 c, .int .i64 0, .int .i64 0] W fun e W' => e = .returned (.tuple #[]) ∧ W = W' := by
  go_enter Try.func53, Try.ntmps53
  go_wp2
  refine wp_loop_rounds 1 ?_
  rw [rounds_succ]
  go_wp2
  go_end0
  exact ⟨rfl, rfl⟩
set_option maxRecDepth 100000 in
set_option maxHeartbeats 2000000 in
theorem pdq_none (W : World) (a : Option Addr) (c : Nat) (L : Int) : Calls Try.prog 42 #[.slice a 0 c, .int .i64 0, .int .i64 0, .int .i64 L] W fun e W' => e = .returned (.tuple #[]) ∧ W = W' := by
  have H := insert_none
  go_enter Try.func42, Try.ntmps42
  go_wp2
  refine wp_loop_rounds 1 ?_
  rw [rounds_succ]
  go_wp2_with fail
  refine (H _ _ _).mono ?_
  rintro e w' ⟨rfl, rfl⟩
  go_wp2_with fail
  refine bodyPost_ret (results_none rfl _ _ _) rfl ?_
  exact ⟨rfl, rfl⟩
theorem sort_none (W : World) (a : Option Addr) (c : Nat) : Calls Try.prog 36 #[.slice a 0 c] W fun e W' => e = .returned (.tuple #[]) ∧ W = W' := by
  have H1 := Lib.hid (blen_any 0 (by omega) W)
  have H2 := pdq_none
  go_enter Try.func36, Try.ntmps36
  go_wp2_with fail
  refine H1.out.mono ?_
  rintro e w' ⟨L, rfl, rfl⟩
  go_wp2_with fail
  refine (H2 _ _ _ _).mono ?_
  rintro e w' ⟨rfl, rfl⟩
  go_wp2_with fail
  go_end0
  exact ⟨rfl, rfl⟩

end Go.Proofs.Ytnfepjolbhnhbaa
