/-
  The chapter's example.
-/
import Derived.Test.YtghobeeomoojoaaWturn
namespace Go.Proofs.Ytghobeeomoojoaa
open Go Go.RowKit

theorem aw_pack (X : World) : Calls Try.prog 6 #[.int .i64 1, .int .i64 1] X (TwoW 65537 true X) := by
  have h := pack_any 1 1 X ⟨by omega, by omega⟩ ⟨by omega, by omega⟩
  rwa [show wordW 1 1 = 65537 by decide, show mayW 1 1 = true by decide] at h
theorem aw_enter (X : World) : Calls Try.prog 8 #[.int .u64 65537, .int .i64 2] X (TwoW 131074 true X) := by
  have h := enter_any 65537 2 X (by omega) (by omega)
  rwa [show enterW 65537 2 = 131074 by decide, show entersW 65537 2 = true by decide] at h
theorem aw_none (X : World) : Calls Try.prog 8 #[.int .u64 131074, .int .i64 2] X (TwoW 0 false X) := by
  have h := enter_any 131074 2 X (by omega) (by omega)
  rwa [show enterW 131074 2 = 0 by decide, show entersW 131074 2 = false by decide] at h
theorem aw_both (X : World) : Calls Try.prog 16 #[.int .u64 131074] X fun e W' => e = .returned (.agg #[.int .i64 2, .int .i64 2]) ∧ Below X.heap.size X W' := by
  have h := both_any 131074 X (by omega) (by omega)
  rwa [show cameW 131074 = 2 by decide, show inW 131074 = 2 by decide] at h

set_option maxRecDepth 100000 in
set_option maxHeartbeats 1000000 in
theorem awake_any (W : World) : Calls Try.prog 17 #[] W (Says true W) := by
  have hq := eqP_run 2 2 2 2
  go_enter Try.func17, Try.ntmps17
  go_wp2_with fail
  refine (aw_pack _).mono ?_
  rintro e w1 ⟨rfl, b1⟩
  have B1 := Lib.hid b1
  clear b1
  go_wp2_with fail
  refine (aw_enter _).mono ?_
  rintro e w2 ⟨rfl, b1⟩
  have B2 := Lib.hid (B1.out.trans (b1.mono B1.out.size))
  clear b1
  go_wp2_with fail
  refine (aw_none _).mono ?_
  rintro e w3 ⟨rfl, b1⟩
  have B3 := Lib.hid (B2.out.trans (b1.mono B2.out.size))
  clear b1
  go_wp2_with fail
  refine (aw_both _).mono ?_
  rintro e w4 ⟨rfl, b1⟩
  have B4 := Lib.hid (B3.out.trans (b1.mono B3.out.size))
  clear b1
  go_wp2_with fail
  go_ret
  exact ⟨rfl, B4.out⟩

/-! ### a word's counts make the word again -/
theorem back_world (n : Int) : wordW (cameW n) (inW n) = n % 72057594037927936 ∧ 0 ≤ n % 72057594037927936 ∧ n % 72057594037927936 < 72057594037927936 ∧ cameW (n % 72057594037927936) = cameW n ∧ inW (n % 72057594037927936) = inW n := by
  refine ⟨(word_of n).2, by omega, by omega, ?_, ?_⟩
  · unfold cameW; omega
  · unfold inW; omega

set_option maxRecDepth 100000 in
set_option maxHeartbeats 1000000 in
theorem back_walk (n : Int) (W : World) (h0 : 0 ≤ n) (h1 : n < 18446744073709551616) :
    Calls Try.prog 5 #[.int .u64 n] W (Says true W) := by
  have hw := back_world n
  obtain ⟨hw1, v0, v1, hc, hi⟩ := hw
  have HP := Lib.hid (fun X : World => pack_any (cameW n) (inW n) X (i64_came n).1 (i64_in n).1)
  rw [hw1, (word_of n).1] at HP
  clear hw1
  have HB := Lib.hid (fun X : World => both_any n X h0 h1)
  have HC := Lib.hid (fun X : World => came_any n X h0 h1)
  have HI := Lib.hid (fun X : World => in_any n X h0 h1)
  have HC2 := Lib.hid (fun X : World => came_any (n % 72057594037927936) X v0 (by omega))
  have HI2 := Lib.hid (fun X : World => in_any (n % 72057594037927936) X v0 (by omega))
  rw [hc] at HC2
  rw [hi] at HI2
  clear hc hi
  have hs : IntKind.u64.wrap (n * 256) / 256 = n % 72057594037927936 := by rw [IntKind.wrap_u64]; omega
  generalize n % 72057594037927936 = v at *
  generalize cameW n = c at *
  generalize inW n = i at *
  go_enter Try.func5, Try.ntmps5
  go_wp2_with fail
  refine (HB.out _).mono ?_
  rintro e w1 ⟨rfl, b1⟩
  have B1 := Lib.hid (b1.trans ((below_alloc w1 (.cells #[.int .i64 c, .int .i64 i] 23)).mono b1.size))
  clear b1
  go_wp2_with fail
  refine (HP.out _).mono ?_
  rintro e w2 ⟨rfl, b1⟩
  have B2 := Lib.hid (B1.out.trans (b1.mono B1.out.size))
  clear b1
  go_wp2_with fail
  refine (HC2.out _).mono ?_
  rintro e w3 ⟨rfl, b1⟩
  have B3 := Lib.hid (B2.out.trans (b1.mono B2.out.size))
  clear b1
  go_wp2_with fail
  refine (HC.out _).mono ?_
  rintro e w4 ⟨rfl, b1⟩
  have B4 := Lib.hid (B3.out.trans (b1.mono B3.out.size))
  clear b1
  go_wp2_with fail
  refine (HI2.out _).mono ?_
  rintro e w5 ⟨rfl, b1⟩
  have B5 := Lib.hid (B4.out.trans (b1.mono B4.out.size))
  clear b1
  go_wp2_with fail
  refine (HI.out _).mono ?_
  rintro e w6 ⟨rfl, b1⟩
  have B6 := Lib.hid (B5.out.trans (b1.mono B5.out.size))
  clear b1
  go_wp2_with fail
  refine (awake_any _).mono ?_
  rintro e w7 ⟨rfl, b1⟩
  have B7 := Lib.hid (B6.out.trans (b1.mono B6.out.size))
  clear b1
  go_wp2_with fail
  go_ret
  exact ⟨rfl, B7.out⟩
end Go.Proofs.Ytghobeeomoojoaa
