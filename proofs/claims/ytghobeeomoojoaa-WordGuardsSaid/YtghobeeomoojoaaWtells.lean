/-
  The walk through WordTells.
-/
import Derived.Test.YtghobeeomoojoaaWawake
namespace Go.Proofs.Ytghobeeomoojoaa
open Go Go.RowKit

theorem stays {W X : World} {x y : Value} (h : Below (W.alloc (.cells #[x, y] 23)).heap.size (W.alloc (.cells #[x, y] 23)) X) : X.cell? ⟨W.heap.size, 0, none⟩ = some x ∧ X.cell? ⟨W.heap.size, 1, none⟩ = some y := by
  rw [h.cell (p := ⟨W.heap.size, 0, none⟩) (by simp), h.cell (p := ⟨W.heap.size, 1, none⟩) (by simp)]
  constructor <;> go_simp
theorem from_start {W X : World} {o : Obj} (h : Below (W.alloc o).heap.size (W.alloc o) X) : Below W.heap.size W X := (below_alloc W o).trans (h.mono (below_alloc W o).size)

set_option maxRecDepth 100000 in
set_option maxHeartbeats 4000000 in
theorem tells_walk (n a b : Int) (W : World) (h0 : 0 ≤ n) (h1 : n < 18446744073709551616) (ha : I64 a) (hb : I64 b) :
    Calls Try.prog 3 #[.int .u64 n, .agg #[.int .i64 a, .int .i64 b]] W (Says true W) := by
  have HP := Lib.hid (fun X : World => pack_any a b X ha hb)
  have HP2 := Lib.hid (fun X : World => rpack_any a b X ha hb)
  have HE := Lib.hid (fun X : World => enter_any n a X h0 h1)
  have HE2 := Lib.hid (fun X : World => renter_any n a X h0 h1)
  have HL := Lib.hid (fun X : World => leave_any n b X h0 h1)
  have HL2 := Lib.hid (fun X : World => rleave_any n b X h0 h1)
  have HB := Lib.hid (fun X : World => both_any n X h0 h1)
  have HC := Lib.hid (fun X : World => came_any n X h0 h1)
  have HI := Lib.hid (fun X : World => in_any n X h0 h1)
  have HC2 := Lib.hid (fun X : World => rcame_any n X h0 h1)
  have HI2 := Lib.hid (fun X : World => rin_any n X h0 h1)
  clear ha hb
  generalize wordW a b = p1 at *
  generalize mayW a b = p2 at *
  generalize enterW n a = p3 at *
  generalize entersW n a = p4 at *
  generalize leaveW n b = p5 at *
  generalize leavesW n b = p6 at *
  generalize cameW n = c at *
  generalize inW n = i at *
  have hq := eqP_run c i c i
  simp only [beq_self_eq_true, Bool.and_self] at hq
  have q2 : (p2 == p2) = true := by simp
  have q4 : (p4 == p4) = true := by simp
  have q6 : (p6 == p6) = true := by simp
  clear h0 h1
  go_enter Try.func3, Try.ntmps3
  go_wp2_with fail
  refine (HP.out _).mono ?_
  rintro e w1 ⟨rfl, b1⟩
  have S1 := Lib.hid b1
  obtain ⟨m1, l1⟩ := stays b1
  clear b1
  go_wp2_with fail
  refine (HP2.out _).mono ?_
  rintro e w2 ⟨rfl, b1⟩
  have S2 := Lib.hid (S1.out.trans (b1.mono S1.out.size))
  clear b1 m1 l1
  obtain ⟨m2, l2⟩ := stays S2.out
  go_wp2_with fail
  refine (HE.out _).mono ?_
  rintro e w3 ⟨rfl, b1⟩
  have S3 := Lib.hid (S2.out.trans (b1.mono S2.out.size))
  clear b1 m2 l2
  obtain ⟨m3, l3⟩ := stays S3.out
  go_wp2_with fail
  refine (HE2.out _).mono ?_
  rintro e w4 ⟨rfl, b1⟩
  have S4 := Lib.hid (S3.out.trans (b1.mono S3.out.size))
  clear b1 m3 l3
  obtain ⟨m4, l4⟩ := stays S4.out
  go_wp2_with fail
  refine (HL.out _).mono ?_
  rintro e w5 ⟨rfl, b1⟩
  have S5 := Lib.hid (S4.out.trans (b1.mono S4.out.size))
  clear b1 m4 l4
  obtain ⟨m5, l5⟩ := stays S5.out
  go_wp2_with fail
  refine (HL2.out _).mono ?_
  rintro e w6 ⟨rfl, b1⟩
  have S6 := Lib.hid (S5.out.trans (b1.mono S5.out.size))
  clear b1 m5 l5
  obtain ⟨m6, l6⟩ := stays S6.out
  go_wp2_with fail
  refine (HC.out _).mono ?_
  rintro e w7 ⟨rfl, b1⟩
  have S7 := Lib.hid (S6.out.trans (b1.mono S6.out.size))
  clear b1 m6 l6
  obtain ⟨m7, l7⟩ := stays S7.out
  go_wp2_with fail
  refine (HC2.out _).mono ?_
  rintro e w8 ⟨rfl, b1⟩
  have S8 := Lib.hid (S7.out.trans (b1.mono S7.out.size))
  clear b1 m7 l7
  obtain ⟨m8, l8⟩ := stays S8.out
  go_wp2_with fail
  refine (HI.out _).mono ?_
  rintro e w9 ⟨rfl, b1⟩
  have S9 := Lib.hid (S8.out.trans (b1.mono S8.out.size))
  clear b1 m8 l8
  obtain ⟨m9, l9⟩ := stays S9.out
  go_wp2_with fail
  refine (HI2.out _).mono ?_
  rintro e w10 ⟨rfl, b1⟩
  have S10 := Lib.hid (S9.out.trans (b1.mono S9.out.size))
  clear b1 m9 l9
  obtain ⟨m10, l10⟩ := stays S10.out
  go_wp2_with fail
  refine (HB.out _).mono ?_
  rintro e w11 ⟨rfl, b1⟩
  have S11 := Lib.hid (S10.out.trans (b1.mono S10.out.size))
  clear b1 m10 l10
  obtain ⟨m11, l11⟩ := stays S11.out
  go_wp2_with fail
  refine (HC2.out _).mono ?_
  rintro e w12 ⟨rfl, b1⟩
  have S12 := Lib.hid (S11.out.trans (b1.mono S11.out.size))
  clear b1 m11 l11
  obtain ⟨m12, l12⟩ := stays S12.out
  go_wp2_with fail
  refine (HI2.out _).mono ?_
  rintro e w13 ⟨rfl, b1⟩
  have S13 := Lib.hid (S12.out.trans (b1.mono S12.out.size))
  clear b1 m12 l12
  obtain ⟨m13, l13⟩ := stays S13.out
  go_wp2_with fail
  refine (awake_any _).mono ?_
  rintro e w14 ⟨rfl, b1⟩
  have S14 := Lib.hid (S13.out.trans (b1.mono S13.out.size))
  clear b1 m13
  go_wp2_with fail
  go_ret
  exact ⟨rfl, from_start S14.out⟩
end Go.Proofs.Ytghobeeomoojoaa
