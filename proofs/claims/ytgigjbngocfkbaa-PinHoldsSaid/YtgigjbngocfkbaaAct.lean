/-
  An act as it lies; whether it may be, and whether it only looks: the program and the reference.
-/
import Derived.Test.YtgigjbngocfkbaaHops3
import Derived.Laws.StructEq
import Derived.Laws.ResultCell
namespace Go.Proofs.Ytgigjbngocfkbaa
open Go Go.RowKit
attribute [local go_sem ↓] Go.wp_at_zero Go.wp_at_succ

/-- An act. -/
structure ActD where
  kind : Int
  block : Nat
  cell : Int
  old : Int
  new : Int
  text : ByteArray
def ActD.fits (x : ActD) : Prop := (-9223372036854775808 ≤ x.kind ∧ x.kind ≤ 9223372036854775807) ∧ x.block < 18446744073709551616 ∧ (-9223372036854775808 ≤ x.cell ∧ x.cell ≤ 9223372036854775807) ∧ (0 ≤ x.old ∧ x.old < 18446744073709551616) ∧ (0 ≤ x.new ∧ x.new < 18446744073709551616) ∧ x.text.size ≤ 281474976710656
abbrev actV (k : Int) (b : Int) (c o n : Int) (t : ByteArray) : Value := .agg #[.int .i64 k, .int .u64 b, .int .i64 c, .int .u64 o, .int .u64 n, .string t]

/-- What is left of an act once all is taken off that its kind has. -/
def restA (x : ActD) : ActD :=
  if x.kind = 5 then ⟨0, x.block, 0, x.old, x.new, ⟨#[]⟩⟩ else if x.kind = 3 then ⟨0, 0, 0, 0, 0, x.text⟩
  else if x.kind = 2 ∨ x.kind = 4 then ⟨0, 0, 0, x.old, 0, x.text⟩ else if x.kind = 1 ∨ x.kind = 10 then ⟨0, 0, 0, x.old, x.new, x.text⟩
  else if x.kind = 6 ∨ x.kind = 7 then ⟨0, 0, x.cell, x.old, x.new, x.text⟩ else if x.kind = 8 ∨ x.kind = 9 ∨ x.kind = 0 then ⟨0, x.block, x.cell, x.old, x.new, x.text⟩ else x
def zeroA (x : ActD) : Bool := x.kind == 0 && ((x.block : Int) == 0 && (x.cell == 0 && (x.old == 0 && (x.new == 0 && x.text.toList == (⟨#[]⟩ : ByteArray).toList))))
/-- May it be? -/
def rightA (x : ActD) : Bool := decide (0 ≤ x.cell) && (decide ((x.text.size : Int) ≤ 4096) && zeroA (restA x))
def looksA (x : ActD) : Bool := (x.kind == 1 || x.kind == 10 || x.kind == 6) && rightA x

theorem eqA_run (k b c o n k' b' c' o' n' : Int) (t t' : ByteArray) (w : World) : (binOp .eql 31 (actV k b c o n t) (actV k' b' c' o' n' t')).run Try.prog w = .ok (.bool (k == k' && (b == b' && (c == c' && (o == o' && (n == n' && t.toList == t'.toList)))))) w := by
  have u3 := Try.underlying3
  have u32 := Try.underlying22
  have u9 := Try.underlying9
  have hS : Try.prog.underlying 31 = some (.struct (Try.prog.fieldsOf 31)) := by kernel_rfl
  have hp : Try.prog.stoodInHeld 31 = false := by kernel_rfl
  rw [run_eql_struct, show (10000 : Nat) = 9999 + 1 from rfl, run_equalIn_agg w 9999 31 _ _ hS hp]
  simp only [Program.fieldsOf, Try.underlying31]
  have a3 := Try.isAgg3
  have z3 := Try.sizeOf3
  have a32 := Try.isAgg22
  have z32 := Try.sizeOf22
  have a9 := Try.isAgg9
  have z9 := Try.sizeOf9
  go_simp
  by_cases h1 : k = k' <;> by_cases h2 : b = b' <;> by_cases h3 : c = c' <;> by_cases h4 : o = o' <;> by_cases h5 : n = n' <;> by_cases h6 : t.toList = t'.toList <;> simp [h1, h2, h3, h4, h5, h6]

theorem results_cell1 {fn : Func} {p : Tmp} {ty : TypeId} (h : fn.results = #[.cell p ty]) (tmps : Array Value) (P : Program) (w : World) :
    (results fn tmps).run P w = ((asAddr (tmps.getD p undef)).run P w).andThen fun a w₁ => (loadVar ty a).run P w₁ := by
  simp [results, h]

set_option maxRecDepth 100000 in
set_option maxHeartbeats 4000000 in
theorem rest_known (k : Int) (b : Nat) (c o n : Int) (t : ByteArray) (W : World) (hk : k = 0 ∨ k = 1 ∨ k = 2 ∨ k = 3 ∨ k = 4 ∨ k = 5 ∨ k = 6 ∨ k = 7 ∨ k = 8 ∨ k = 9 ∨ k = 10) (v : ActD) (hv : restA ⟨k, b, c, o, n, t⟩ = v) : Calls Try.prog 51 #[actV k b c o n t] W fun e W' => e = .returned (actV v.kind v.block v.cell v.old v.new v.text) ∧ Below W.heap.size W W' := by
  rcases hk with rfl | rfl | rfl | rfl | rfl | rfl | rfl | rfl | rfl | rfl | rfl
  all_goals
    simp [restA] at hv
    subst hv
    go_enter Try.func51, Try.ntmps51
    go_wp2_with fail
    refine bodyPost_ret (by rw [results_cell1 (by rfl)]; go_simp) rfl ⟨rfl, ?_⟩
    exact (below_alloc _ _).trans ((below_alloc _ _).mono (by simp))

set_option maxRecDepth 100000 in
set_option maxHeartbeats 4000000 in
theorem rest_other (k : Int) (b : Nat) (c o n : Int) (t : ByteArray) (W : World) (n0 : k ≠ 0) (n1 : k ≠ 1) (n2 : k ≠ 2) (n3 : k ≠ 3) (n4 : k ≠ 4) (n5 : k ≠ 5) (n6 : k ≠ 6) (n7 : k ≠ 7) (n8 : k ≠ 8) (n9 : k ≠ 9) (n10 : k ≠ 10) : Calls Try.prog 51 #[actV k b c o n t] W fun e W' => e = .returned (actV k b c o n t) ∧ Below W.heap.size W W' := by
  go_enter Try.func51, Try.ntmps51
  go_wp2_with fail
  refine bodyPost_ret (by rw [results_cell1 (by rfl)]; go_simp) rfl ⟨rfl, ?_⟩
  exact (below_alloc _ _).trans ((below_alloc _ _).mono (by simp))

theorem rest_any (k : Int) (b : Nat) (c o n : Int) (t : ByteArray) (W : World) (v : ActD) (hv : restA ⟨k, b, c, o, n, t⟩ = v) : Calls Try.prog 51 #[actV k b c o n t] W fun e W' => e = .returned (actV v.kind v.block v.cell v.old v.new v.text) ∧ Below W.heap.size W W' := by
  by_cases hk : k = 0 ∨ k = 1 ∨ k = 2 ∨ k = 3 ∨ k = 4 ∨ k = 5 ∨ k = 6 ∨ k = 7 ∨ k = 8 ∨ k = 9 ∨ k = 10
  · exact rest_known k b c o n t W hk v hv
  · have hv' : v = ⟨k, b, c, o, n, t⟩ := by
      subst hv
      unfold restA
      simp only
      rw [if_neg (by omega), if_neg (by omega), if_neg (by omega), if_neg (by omega), if_neg (by omega), if_neg (by omega)]
    subst hv'
    exact rest_other k b c o n t W (by omega) (by omega) (by omega) (by omega) (by omega) (by omega) (by omega) (by omega) (by omega) (by omega) (by omega)

theorem eqZ_run (v : ActD) (w : World) : (binOp .eql 31 (actV v.kind v.block v.cell v.old v.new v.text) (actV 0 0 0 0 0 ⟨#[]⟩)).run Try.prog w = .ok (.bool (zeroA v)) w := eqA_run _ _ _ _ _ 0 0 0 0 0 _ ⟨#[]⟩ w

set_option maxRecDepth 100000 in
set_option maxHeartbeats 4000000 in
theorem right_any (k : Int) (b : Nat) (c o n : Int) (t : ByteArray) (W : World) : Calls Try.prog 35 #[actV k b c o n t] W (Says (rightA ⟨k, b, c, o, n, t⟩) W) := by
  by_cases hc : 0 ≤ c
  · by_cases hs : (t.size : Int) ≤ 4096
    · obtain ⟨v, hv⟩ : ∃ v, restA ⟨k, b, c, o, n, t⟩ = v := ⟨_, rfl⟩
      have HR := Lib.hid (fun X => rest_any k b c o n t X v hv)
      have hz := eqZ_run v
      have HE : rightA ⟨k, b, c, o, n, t⟩ = zeroA v := by unfold rightA; simp only; rw [decide_eq_true hc, decide_eq_true hs, hv]; rfl
      rw [HE]
      obtain ⟨z, hzz⟩ : ∃ z, zeroA v = z := ⟨_, rfl⟩
      rw [hzz] at hz ⊢
      clear hv HE hzz
      go_enter Try.func35, Try.ntmps35
      go_wp2_with fail
      refine (HR.out _).mono ?_
      rintro en w1 ⟨rfl, hb⟩
      have HB := Lib.hid ((below_alloc W _).trans (hb.mono (by simp)))
      clear hb
      go_wp2_with fail
      go_ret
      exact ⟨rfl, HB.out⟩
    · have HE : rightA ⟨k, b, c, o, n, t⟩ = false := by unfold rightA; simp only; rw [decide_eq_false hs]; simp
      rw [HE]
      clear HE
      go_enter Try.func35, Try.ntmps35
      go_wp2_with fail
      go_ret
      exact ⟨rfl, below_alloc _ _⟩
  · have HE : rightA ⟨k, b, c, o, n, t⟩ = false := by unfold rightA; simp only; rw [decide_eq_false hc]; simp
    rw [HE]
    clear HE
    go_enter Try.func35, Try.ntmps35
    go_wp2_with fail
    go_ret
    exact ⟨rfl, below_alloc _ _⟩

end Go.Proofs.Ytgigjbngocfkbaa
