/-
  Words with two counts: Enter and Leave, of the program and of the reference, at every word and every number.
-/
import Derived.Test.YtghobeeomoojoaaWops
namespace Go.Proofs.Ytghobeeomoojoaa
open Go Go.RowKit

theorem i64_came (n : Int) : I64 (cameW n) ∧ I64 (cameW n + 1) := by have := cameW_bd n; exact ⟨⟨by omega, by omega⟩, ⟨by omega, by omega⟩⟩
theorem i64_in (n : Int) : I64 (inW n) ∧ I64 (inW n + 1) := by have := inW_bd n; exact ⟨⟨by omega, by omega⟩, ⟨by omega, by omega⟩⟩
theorem enter_as (n m : Int) (hm : inW n < m) : mayW (cameW n + 1) (inW n + 1) = entersW n m ∧ wordW (cameW n + 1) (inW n + 1) = enterW n m := by
  have c0 := cameW_bd n
  have i0 := inW_bd n
  by_cases he : entersW n m = true
  · rw [he]; exact enter_word n m he
  · have he' : entersW n m = false := by simpa using he
    have hn : mayW (cameW n + 1) (inW n + 1) = false := decide_eq_false (fun h => he (decide_eq_true (by omega)))
    rw [he']
    exact ⟨hn, by unfold wordW enterW; rw [hn, he']⟩
theorem enter_none (n m : Int) (h : ¬ (inW n < m ∧ inW n ≠ 65535 ∧ cameW n ≠ 1099511627775)) : entersW n m = false ∧ enterW n m = 0 := by
  have he : entersW n m = false := decide_eq_false h
  exact ⟨he, by unfold enterW; rw [he]; rfl⟩
theorem leave_none (n k : Int) (h : ¬ (0 ≤ k ∧ k ≤ inW n)) : leavesW n k = false ∧ leaveW n k = 0 := by
  have he : leavesW n k = false := decide_eq_false h
  exact ⟨he, by unfold leaveW; rw [he]; rfl⟩

set_option maxRecDepth 100000 in
set_option maxHeartbeats 1000000 in
theorem enter_any (n m : Int) (W : World) (h0 : 0 ≤ n) (h1 : n < 18446744073709551616) :
    Calls Try.prog 8 #[.int .u64 n, .int .i64 m] W (TwoW (enterW n m) (entersW n m) W) := by
  have c0 := (cameW_bd n).1
  have c1 := (cameW_bd n).2
  have i0 := (inW_bd n).1
  have i1 := (inW_bd n).2
  have HB := Lib.hid (fun X : World => both_any n X h0 h1)
  by_cases hm : inW n < m
  · rw [← (enter_as n m hm).1, ← (enter_as n m hm).2]
    generalize cameW n = c at *
    generalize inW n = i at *
    go_enter Try.func8, Try.ntmps8
    go_wp2_with fail
    refine (HB.out _).mono ?_
    rintro e w' ⟨rfl, hB⟩
    have H1 := Lib.hid (hB.trans ((below_alloc w' (.cells #[.int .i64 (c + 1), .int .i64 (i + 1)] 23)).mono hB.size))
    clear hB
    go_wp2_with fail
    refine (join_any (c + 1) (i + 1) _ (by omega) (by omega) (by omega) (by omega)).mono ?_
    rintro e w2 ⟨rfl, h2⟩
    have H2 := Lib.hid (H1.out.trans (h2.mono H1.out.size))
    clear h2
    go_wp2_with fail
    go_ret2
    exact ⟨rfl, H2.out⟩
  · rw [(enter_none n m (fun h => hm h.1)).1, (enter_none n m (fun h => hm h.1)).2]
    generalize cameW n = c at *
    generalize inW n = i at *
    go_enter Try.func8, Try.ntmps8
    go_wp2_with fail
    refine (HB.out _).mono ?_
    rintro e w' ⟨rfl, hB⟩
    have H1 := Lib.hid (hB.trans ((below_alloc w' (.cells #[.int .i64 c, .int .i64 i] 23)).mono hB.size))
    clear hB
    go_wp2_with fail
    go_ret2
    exact ⟨rfl, H1.out⟩

set_option maxRecDepth 100000 in
set_option maxHeartbeats 1000000 in
theorem leave_any (n k : Int) (W : World) (h0 : 0 ≤ n) (h1 : n < 18446744073709551616) :
    Calls Try.prog 10 #[.int .u64 n, .int .i64 k] W (TwoW (leaveW n k) (leavesW n k) W) := by
  have c0 := (cameW_bd n).1
  have c1 := (cameW_bd n).2
  have i0 := (inW_bd n).1
  have i1 := (inW_bd n).2
  have HB := Lib.hid (fun X : World => both_any n X h0 h1)
  by_cases hm : 0 ≤ k ∧ k ≤ inW n
  · have he : leavesW n k = true := decide_eq_true hm
    have hl := leave_word n k he
    rw [he, ← hl.1, ← hl.2]
    clear he hl
    obtain ⟨k0, k1⟩ := hm
    generalize cameW n = c at *
    generalize inW n = i at *
    go_enter Try.func10, Try.ntmps10
    go_wp2_with fail
    refine (HB.out _).mono ?_
    rintro e w' ⟨rfl, hB⟩
    have H1 := Lib.hid (hB.trans ((below_alloc w' (.cells #[.int .i64 c, .int .i64 (i - k)] 23)).mono hB.size))
    clear hB
    go_wp2_with fail
    refine (join_any c (i - k) _ (by omega) (by omega) (by omega) (by omega)).mono ?_
    rintro e w2 ⟨rfl, h2⟩
    have H2 := Lib.hid (H1.out.trans (h2.mono H1.out.size))
    clear h2
    go_wp2_with fail
    go_ret2
    exact ⟨rfl, H2.out⟩
  · rw [(leave_none n k hm).1, (leave_none n k hm).2]
    generalize cameW n = c at *
    generalize inW n = i at *
    by_cases hk : k < 0
    all_goals
      have hk' : k < 0 ∨ i < k := by omega
      clear hm
      go_enter Try.func10, Try.ntmps10
      go_wp2_with fail
      refine (HB.out _).mono ?_
      rintro e w' ⟨rfl, hB⟩
      have H1 := Lib.hid (hB.trans ((below_alloc w' (.cells #[.int .i64 c, .int .i64 i] 23)).mono hB.size))
      clear hB
      go_wp2_with fail
      go_ret2
      exact ⟨rfl, H1.out⟩

set_option maxRecDepth 100000 in
set_option maxHeartbeats 1000000 in
theorem renter_any (n m : Int) (W : World) (h0 : 0 ≤ n) (h1 : n < 18446744073709551616) :
    Calls Try.prog 9 #[.int .u64 n, .int .i64 m] W (TwoW (enterW n m) (entersW n m) W) := by
  have c0 := (cameW_bd n).1
  have c1 := (cameW_bd n).2
  have i0 := (inW_bd n).1
  have i1 := (inW_bd n).2
  have HI := Lib.hid (fun X : World => rin_any n X h0 h1)
  have HC := Lib.hid (fun X : World => rcame_any n X h0 h1)
  by_cases hm : inW n < m ∧ inW n ≠ 65535 ∧ cameW n ≠ 1099511627775
  · have HE := enter_as n m hm.1
    have he : entersW n m = true := decide_eq_true hm
    rw [he] at HE
    rw [he, ← HE.1, ← HE.2]
    clear he HE
    obtain ⟨m0, m1, m2⟩ := hm
    have e1 : (inW n == 65535) = false := by simpa using m1
    have e2 : (cameW n == 1099511627775) = false := by simpa using m2
    generalize cameW n = c at *
    generalize inW n = i at *
    go_enter Try.func9, Try.ntmps9
    go_wp2_with fail
    refine (HI.out _).mono ?_
    rintro e w1 ⟨rfl, b1⟩
    have B1 := Lib.hid b1
    clear b1
    go_wp2_with fail
    refine (HI.out _).mono ?_
    rintro e w2 ⟨rfl, b1⟩
    have B2 := Lib.hid (B1.out.trans (b1.mono B1.out.size))
    clear b1
    go_wp2_with fail
    refine (HC.out _).mono ?_
    rintro e w3 ⟨rfl, b1⟩
    have B3 := Lib.hid (B2.out.trans (b1.mono B2.out.size))
    clear b1
    go_wp2_with fail
    refine (HC.out _).mono ?_
    rintro e w4 ⟨rfl, b1⟩
    have B4 := Lib.hid (B3.out.trans (b1.mono B3.out.size))
    clear b1
    go_wp2_with fail
    refine (HI.out _).mono ?_
    rintro e w5 ⟨rfl, b1⟩
    have B5 := Lib.hid (B4.out.trans (b1.mono B4.out.size))
    clear b1
    go_wp2_with fail
    refine (rpack_any (c + 1) (i + 1) _ ⟨by omega, by omega⟩ ⟨by omega, by omega⟩).mono ?_
    rintro e w6 ⟨rfl, b1⟩
    have B6 := Lib.hid (B5.out.trans (b1.mono B5.out.size))
    clear b1
    go_wp2_with fail
    go_ret2
    exact ⟨rfl, B6.out⟩
  · rw [(enter_none n m hm).1, (enter_none n m hm).2]
    generalize cameW n = c at *
    generalize inW n = i at *
    by_cases k1 : i < m
    · by_cases k2 : i = 65535
      · subst k2
        clear hm
        go_enter Try.func9, Try.ntmps9
        go_wp2_with fail
        refine (HI.out _).mono ?_
        rintro e w1 ⟨rfl, b1⟩
        have B1 := Lib.hid (b1)
        clear b1
        go_wp2_with fail
        refine (HI.out _).mono ?_
        rintro e w2 ⟨rfl, b1⟩
        have B2 := Lib.hid (B1.out.trans (b1.mono B1.out.size))
        clear b1
        go_wp2_with fail
        go_ret2
        exact ⟨rfl, B2.out⟩
      · have k3 : c = 1099511627775 := by omega
        have e1 : (i == 65535) = false := by simpa using k2
        subst k3
        clear hm
        go_enter Try.func9, Try.ntmps9
        go_wp2_with fail
        refine (HI.out _).mono ?_
        rintro e w1 ⟨rfl, b1⟩
        have B1 := Lib.hid (b1)
        clear b1
        go_wp2_with fail
        refine (HI.out _).mono ?_
        rintro e w2 ⟨rfl, b1⟩
        have B2 := Lib.hid (B1.out.trans (b1.mono B1.out.size))
        clear b1
        go_wp2_with fail
        refine (HC.out _).mono ?_
        rintro e w3 ⟨rfl, b1⟩
        have B3 := Lib.hid (B2.out.trans (b1.mono B2.out.size))
        clear b1
        go_wp2_with fail
        go_ret2
        exact ⟨rfl, B3.out⟩
    · clear hm
      go_enter Try.func9, Try.ntmps9
      go_wp2_with fail
      refine (HI.out _).mono ?_
      rintro e w1 ⟨rfl, b1⟩
      have B1 := Lib.hid (b1)
      clear b1
      go_wp2_with fail
      go_ret2
      exact ⟨rfl, B1.out⟩

set_option maxRecDepth 100000 in
set_option maxHeartbeats 1000000 in
theorem rleave_any (n k : Int) (W : World) (h0 : 0 ≤ n) (h1 : n < 18446744073709551616) :
    Calls Try.prog 11 #[.int .u64 n, .int .i64 k] W (TwoW (leaveW n k) (leavesW n k) W) := by
  have c0 := (cameW_bd n).1
  have c1 := (cameW_bd n).2
  have i0 := (inW_bd n).1
  have i1 := (inW_bd n).2
  have HI := Lib.hid (fun X : World => rin_any n X h0 h1)
  have HC := Lib.hid (fun X : World => rcame_any n X h0 h1)
  by_cases hm : 0 ≤ k ∧ k ≤ inW n
  · have he : leavesW n k = true := decide_eq_true hm
    have hl := leave_word n k he
    rw [he, ← hl.1, ← hl.2]
    clear he hl
    obtain ⟨k0, k1⟩ := hm
    generalize cameW n = c at *
    generalize inW n = i at *
    go_enter Try.func11, Try.ntmps11
    go_wp2_with fail
    refine (HI.out _).mono ?_
    rintro e w1 ⟨rfl, b1⟩
    have B1 := Lib.hid (b1)
    clear b1
    go_wp2_with fail
    refine (HC.out _).mono ?_
    rintro e w2 ⟨rfl, b1⟩
    have B2 := Lib.hid (B1.out.trans (b1.mono B1.out.size))
    clear b1
    go_wp2_with fail
    refine (HI.out _).mono ?_
    rintro e w3 ⟨rfl, b1⟩
    have B3 := Lib.hid (B2.out.trans (b1.mono B2.out.size))
    clear b1
    go_wp2_with fail
    refine (rpack_any c (i - k) _ ⟨by omega, by omega⟩ ⟨by omega, by omega⟩).mono ?_
    rintro e w4 ⟨rfl, b1⟩
    have B4 := Lib.hid (B3.out.trans (b1.mono B3.out.size))
    clear b1
    go_wp2_with fail
    go_ret2
    exact ⟨rfl, B4.out⟩
  · rw [(leave_none n k hm).1, (leave_none n k hm).2]
    generalize cameW n = c at *
    generalize inW n = i at *
    by_cases hk : k < 0
    · clear hm
      go_enter Try.func11, Try.ntmps11
      go_wp2_with fail
      go_ret2
      exact ⟨rfl, Below.refl _ _⟩
    · have hk' : i < k := by omega
      clear hm
      go_enter Try.func11, Try.ntmps11
      go_wp2_with fail
      refine (HI.out _).mono ?_
      rintro e w1 ⟨rfl, b1⟩
      have B1 := Lib.hid (b1)
      clear b1
      go_wp2_with fail
      go_ret2
      exact ⟨rfl, B1.out⟩

/-! ### the chapter's example -/
theorem eqP_in (a b c d : Int) (w : World) : (Op.equalIn 10000 23 (.agg #[.int .i64 a, .int .i64 b]) (.agg #[.int .i64 c, .int .i64 d])).run Try.prog w = .ok (a == c && b == d) w := by
  have u3 := Try.underlying3
  have a3 := Try.isAgg3
  have z3 := Try.sizeOf3
  rw [show (10000 : Nat) = 9999 + 1 from rfl, Op.equalIn]
  simp only [Sem.run_bind, run_underlying Try.underlying23, Result.andThen_ok]
  simp only [Std.Legacy.Range.forIn_eq_forIn_range', Std.Legacy.Range.size, Nat.sub_zero, Nat.add_sub_cancel, Nat.div_one, List.range'_succ, List.range'_zero, List.forIn_cons, List.forIn_nil]
  go_simp
  by_cases h1 : a = c <;> by_cases h2 : b = d <;> simp [h1, h2, go_sem]
theorem eqP_run (a b c d : Int) (w : World) : (binOp .eql 23 (.agg #[.int .i64 a, .int .i64 b]) (.agg #[.int .i64 c, .int .i64 d])).run Try.prog w = .ok (.bool (a == c && b == d)) w := by
  rw [run_eql_struct, eqP_in]; rfl

end Go.Proofs.Ytghobeeomoojoaa
