/-
  Words with two counts: each function of the program and of the reference, at every word and every number.
-/
import Derived.Test.YtghobeeomoojoaaWnum
namespace Go.Proofs.Ytghobeeomoojoaa
open Go Go.RowKit

/-- An answer; what lay lies as it lay. -/
def Says (b : Bool) (w : World) (e : Ending) (w' : World) : Prop := e = .returned (.bool b) ∧ Below w.heap.size w w'
theorem below_alloc (w : World) (o : Obj) : Below w.heap.size w (w.alloc o) := (Below.refl _ w).alloc (Nat.le_refl _) o
theorem below_draws (w : World) (q : Nat) : Below w.heap.size w (w.drewN q) := ⟨rfl, rfl, rfl, Nat.le_refl _, fun _ _ => rfl⟩
theorem results_cell1 {fn : Func} {p : Tmp} {ty : TypeId} (h : fn.results = #[.cell p ty]) (tmps : Array Value) (P : Program) (w : World) :
    (results fn tmps).run P w = ((asAddr (tmps.getD p undef)).run P w).andThen fun a w₁ => (loadVar ty a).run P w₁ := by
  simp [results, h]
def TwoW (n : Int) (b : Bool) (w : World) (e : Ending) (w' : World) : Prop := e = .returned (.tuple #[.int .u64 n, .bool b]) ∧ Below w.heap.size w w'

set_option maxRecDepth 100000 in
set_option maxHeartbeats 1000000 in
theorem both_any (n : Int) (W : World) (h0 : 0 ≤ n) (h1 : n < 18446744073709551616) :
    Calls Try.prog 16 #[.int .u64 n] W fun e W' => e = .returned (.agg #[.int .i64 (cameW n), .int .i64 (inW n)]) ∧ Below W.heap.size W W' := by
  have hs := shr_mask n h0 h1
  have hl := low_mask n h0 h1
  have c0 := (cameW_bd n).1
  have c1 := (cameW_bd n).2
  have i0 := (inW_bd n).1
  have i1 := (inW_bd n).2
  go_enter Try.func16, Try.ntmps16
  go_wp2_with fail
  refine bodyPost_ret (by rw [results_cell1 (by rfl)]; go_simp) rfl ⟨rfl, ?_⟩
  exact below_alloc _ _

set_option maxRecDepth 100000 in
set_option maxHeartbeats 1000000 in
theorem join_any (a b : Int) (W : World) (ha0 : -9223372036854775808 ≤ a) (ha1 : a ≤ 9223372036854775807) (hb0 : -9223372036854775808 ≤ b) (hb1 : b ≤ 9223372036854775807) :
    Calls Try.prog 18 #[.agg #[.int .i64 a, .int .i64 b]] W (TwoW (wordW a b) (mayW a b) W) := by
  by_cases hm : 0 ≤ a ∧ a < 1099511627776 ∧ 0 ≤ b ∧ b < 65536
  · obtain ⟨c1, c2, c3, c4⟩ := hm
    have hj := join_bits a b c1 c2 c3 c4
    have HE : mayW a b = true ∧ wordW a b = 65536 * a + b := by
      have hM : mayW a b = true := decide_eq_true ⟨c1, c2, c3, c4⟩
      exact ⟨hM, by unfold wordW; rw [if_pos hM]⟩
    rw [HE.1, HE.2]
    clear HE
    go_enter Try.func18, Try.ntmps18
    go_wp2_with fail
    go_quiet (fail)
    go_wp2_with fail
    go_ret2
    refine ⟨rfl, ?_⟩
    exact (below_alloc _ _).trans ((below_draws _ _).mono (by simp))
  · have HE : mayW a b = false ∧ wordW a b = 0 := by
      have hM : mayW a b = false := decide_eq_false hm
      exact ⟨hM, by unfold wordW; rw [hM]; rfl⟩
    rw [HE.1, HE.2]
    clear HE
    by_cases hc : a < 0
    · have hw := wrap_below a ha0 hc
      clear hm
      go_enter Try.func18, Try.ntmps18
      go_wp2_with fail
      go_quiet (fail)
      go_wp2_with fail
      go_ret2
      refine ⟨rfl, ?_⟩
      exact (below_alloc _ _).trans ((below_draws _ _).mono (by simp))
    · by_cases hd : a < 1099511627776
      · by_cases he : b < 0
        · have hw := wrap_below b hb0 he
          clear hm
          go_enter Try.func18, Try.ntmps18
          go_wp2_with fail
          go_quiet (fail)
          go_wp2_with fail
          go_ret2
          refine ⟨rfl, ?_⟩
          exact (below_alloc _ _).trans ((below_draws _ _).mono (by simp))
        · have hf : 65536 ≤ b := by omega
          clear hm
          go_enter Try.func18, Try.ntmps18
          go_wp2_with fail
          go_quiet (fail)
          go_wp2_with fail
          go_ret2
          refine ⟨rfl, ?_⟩
          exact (below_alloc _ _).trans ((below_draws _ _).mono (by simp))
      · clear hm
        by_cases he : b < 0
        · have hw := wrap_below b hb0 he
          go_enter Try.func18, Try.ntmps18
          go_wp2_with fail
          go_quiet (fail)
          go_wp2_with fail
          go_ret2
          refine ⟨rfl, ?_⟩
          exact (below_alloc _ _).trans ((below_draws _ _).mono (by simp))
        · go_enter Try.func18, Try.ntmps18
          go_wp2_with fail
          go_quiet (fail)
          go_wp2_with fail
          go_ret2
          refine ⟨rfl, ?_⟩
          exact (below_alloc _ _).trans ((below_draws _ _).mono (by simp))

end Go.Proofs.Ytghobeeomoojoaa
