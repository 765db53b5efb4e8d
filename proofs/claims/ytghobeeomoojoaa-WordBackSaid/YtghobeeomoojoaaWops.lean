/-
  Words with two counts: Pack, Came, In, Enter and Leave, of the program and of the reference, at every word and every number.
-/
import Derived.Test.YtghobeeomoojoaaWfn
namespace Go.Proofs.Ytghobeeomoojoaa
open Go Go.RowKit

def I64 (a : Int) : Prop := -9223372036854775808 ≤ a ∧ a ≤ 9223372036854775807
/-- An element of a pair, handed over by its value. -/
theorem first_of (x y : Int) (w : World) : (Instr.index 23 (.agg #[.int .i64 x, .int .i64 y]) (.int .i64 0)).run Try.prog w = .ok (.int .i64 x) w := by
  simp [Instr.index, run_underlying Try.underlying23, asIntOf, go_sem]
theorem second_of (x y : Int) (w : World) : (Instr.index 23 (.agg #[.int .i64 x, .int .i64 y]) (.int .i64 1)).run Try.prog w = .ok (.int .i64 y) w := by
  simp [Instr.index, run_underlying Try.underlying23, asIntOf, go_sem]

def OneW (n : Int) (w : World) (e : Ending) (w' : World) : Prop := e = .returned (.int .i64 n) ∧ Below w.heap.size w w'

set_option maxRecDepth 100000 in
set_option maxHeartbeats 1000000 in
theorem pack_any (a b : Int) (W : World) (ha : I64 a) (hb : I64 b) :
    Calls Try.prog 6 #[.int .i64 a, .int .i64 b] W (TwoW (wordW a b) (mayW a b) W) := by
  go_enter Try.func6, Try.ntmps6
  go_wp2_with fail
  refine (join_any a b _ ha.1 ha.2 hb.1 hb.2).mono ?_
  rintro e w' ⟨rfl, hB⟩
  go_wp2_with fail
  go_ret2
  exact ⟨rfl, hB⟩

set_option maxRecDepth 100000 in
set_option maxHeartbeats 1000000 in
theorem rpack_any (a b : Int) (W : World) (_ : I64 a) (_ : I64 b) :
    Calls Try.prog 7 #[.int .i64 a, .int .i64 b] W (TwoW (wordW a b) (mayW a b) W) := by
  by_cases hm : 0 ≤ a ∧ a < 1099511627776 ∧ 0 ≤ b ∧ b < 65536
  · obtain ⟨c1, c2, c3, c4⟩ := hm
    have HE : mayW a b = true ∧ wordW a b = 65536 * a + b := by
      have hM : mayW a b = true := decide_eq_true ⟨c1, c2, c3, c4⟩
      exact ⟨hM, by unfold wordW; rw [if_pos hM]⟩
    rw [HE.1, HE.2]
    clear HE
    go_enter Try.func7, Try.ntmps7
    go_wp2_with fail
    go_ret2
    exact ⟨rfl, Below.refl _ _⟩
  · have HE : mayW a b = false ∧ wordW a b = 0 := by
      have hM : mayW a b = false := decide_eq_false hm
      exact ⟨hM, by unfold wordW; rw [hM]; rfl⟩
    rw [HE.1, HE.2]
    clear HE
    by_cases h1 : a < 0 <;> by_cases h2 : 1099511627776 ≤ a <;> by_cases h3 : b < 0 <;> by_cases h4 : 65536 ≤ b
    all_goals
      first
      | (exfalso; omega)
      | (clear hm
         go_enter Try.func7, Try.ntmps7
         go_wp2_with fail
         go_ret2
         exact ⟨rfl, Below.refl _ _⟩)

set_option maxRecDepth 100000 in
set_option maxHeartbeats 1000000 in
theorem came_any (n : Int) (W : World) (h0 : 0 ≤ n) (h1 : n < 18446744073709551616) :
    Calls Try.prog 12 #[.int .u64 n] W (OneW (cameW n) W) := by
  go_enter Try.func12, Try.ntmps12
  go_wp2_with fail
  have hx := first_of (cameW n) (inW n)
  have hy := second_of (cameW n) (inW n)
  refine (both_any n _ h0 h1).mono ?_
  rintro e w' ⟨rfl, hB⟩
  go_wp2_with fail
  go_ret
  exact ⟨rfl, hB⟩

set_option maxRecDepth 100000 in
set_option maxHeartbeats 1000000 in
theorem in_any (n : Int) (W : World) (h0 : 0 ≤ n) (h1 : n < 18446744073709551616) :
    Calls Try.prog 14 #[.int .u64 n] W (OneW (inW n) W) := by
  go_enter Try.func14, Try.ntmps14
  go_wp2_with fail
  have hx := first_of (cameW n) (inW n)
  have hy := second_of (cameW n) (inW n)
  refine (both_any n _ h0 h1).mono ?_
  rintro e w' ⟨rfl, hB⟩
  go_wp2_with fail
  go_ret
  exact ⟨rfl, hB⟩

theorem ret_i {a b : Int} {w w' : World} (h : a = b) (hB : Below w.heap.size w w') : OneW b w (.returned (.int .i64 a)) w' := by subst h; exact ⟨rfl, hB⟩

set_option maxRecDepth 100000 in
set_option maxHeartbeats 1000000 in
theorem rcame_any (n : Int) (W : World) (h0 : 0 ≤ n) (h1 : n < 18446744073709551616) :
    Calls Try.prog 13 #[.int .u64 n] W (OneW (cameW n) W) := by
  go_enter Try.func13, Try.ntmps13
  go_wp2_with fail
  go_ret
  exact ⟨rfl, Below.refl _ _⟩

set_option maxRecDepth 100000 in
set_option maxHeartbeats 1000000 in
theorem rin_any (n : Int) (W : World) (h0 : 0 ≤ n) (h1 : n < 18446744073709551616) :
    Calls Try.prog 15 #[.int .u64 n] W (OneW (inW n) W) := by
  go_enter Try.func15, Try.ntmps15
  go_wp2_with fail
  go_ret
  exact ⟨rfl, Below.refl _ _⟩

end Go.Proofs.Ytghobeeomoojoaa
