/-
  The chapter's example; a heap that is nil.
-/
import Derived.Test.YteggbkhlmehpmaaHcopy0
namespace Go.Proofs.Yteggbkhlmehpmaa
open Go Go.RowKit Go.Shelf
attribute [local go_sem ↓] Go.wp_at_zero Go.wp_at_succ

def awT : ByteArray := ⟨#[116]⟩
def aw1 : HpD := ⟨[⟨[0, 0], ⟨#[116]⟩, false⟩], false, 0⟩
def aw2 : HpD := ⟨[⟨[0, 0], ⟨#[116]⟩, true⟩], false, 0⟩
def aw3 : HpD := ⟨[⟨[0, 0], ⟨#[116]⟩, true⟩], false, 1⟩
def aw4 : HpD := ⟨[⟨[0, 0], ⟨#[116]⟩, true⟩], false, 2⟩
def aw5 : HpD := ⟨[⟨[0, 0], ⟨#[116]⟩, true⟩], true, 2⟩
def aw6 : HpD := ⟨[⟨[0, 0], ⟨#[116]⟩, true⟩], false, 3⟩

section
variable {B p : Nat} {f : Nat → Prop} {X : World}
theorem awk1 (h : Hp X B p emptyD f) : Calls Try.prog 18 #[.pointer (some ⟨p, 0, none⟩), .int .i64 2, .string ⟨#[116]⟩] X (HpR B p f X (.int .u64 1) aw1) :=
  make_good X h (by decide) 2 (by omega) ⟨#[116]⟩ (by decide)
theorem awk2 (h : Hp X B p aw1 f) : Calls Try.prog 22 #[.pointer (some ⟨p, 0, none⟩), .int .u64 1] X (HpR B p f X (.tuple #[.string ⟨#[116]⟩, .int .i64 0]) aw1) :=
  words_any X h (by decide) 1 (by omega)
theorem awk3 (h : Hp X B p aw1 f) : Calls Try.prog 23 #[.pointer (some ⟨p, 0, none⟩), .int .u64 1] X (HpR B p f X (.int .i64 0) aw2) :=
  drop_any X h (by decide) 1 (by omega)
theorem awk4 (h : Hp X B p aw2 f) : Calls Try.prog 21 #[.pointer (some ⟨p, 0, none⟩), .int .u64 1, .int .i64 0] X (HpR B p f X (TwoV 0 17) aw3) :=
  load_any X h (by decide) 1 (by omega) 0
theorem awk5 (h : Hp X B p aw3 f) : Calls Try.prog 21 #[.pointer (some ⟨p, 0, none⟩), .int .u64 2, .int .i64 0] X (HpR B p f X (TwoV 0 16) aw4) :=
  load_any X h (by decide) 2 (by omega) 0
theorem awk6 (h : Hp X B p aw4 f) : Calls Try.prog 25 #[.pointer (some ⟨p, 0, none⟩)] X (HpR B p f X (.bool true) aw5) := lock_any X h
theorem awk7 (h : Hp X B p aw5 f) : Calls Try.prog 25 #[.pointer (some ⟨p, 0, none⟩)] X (HpR B p f X (.bool false) aw5) := lock_any X h
theorem awk8 (h : Hp X B p aw5 f) : Calls Try.prog 26 #[.pointer (some ⟨p, 0, none⟩)] X (HpR B p f X (.bool true) aw4) := unlock_any X h (by decide)
theorem awk9 (h : Hp X B p aw4 f) : Calls Try.prog 11 #[.pointer (some ⟨p, 0, none⟩)] X fun e W' => e = .returned (.int .i64 2) ∧ X = W' := faults_any X h
theorem awk10 (h : Hp X B p aw4 f) : Calls Try.prog 26 #[.pointer (some ⟨p, 0, none⟩)] X (HpR B p f X (.bool false) aw6) := unlock_any X h (by decide)
theorem awk11 (h : Hp X B p aw6 f) : Calls Try.prog 11 #[.pointer (some ⟨p, 0, none⟩)] X fun e W' => e = .returned (.int .i64 3) ∧ X = W' := faults_any X h
end

set_option maxRecDepth 100000 in
set_option maxHeartbeats 4000000 in
theorem awake_any (W : World) : Calls Try.prog 8 #[] W (Says true W) := by
  go_enter Try.func8, Try.ntmps8
  go_wp2_with fail
  refine (new_any _).mono ?_
  rintro en w1 ⟨p, f1, rfl, h1, hb1⟩
  have H1 := Lib.hid h1
  have B1 := Lib.hid hb1
  have F1 := Lib.hid h1.base
  clear h1 hb1
  go_wp2_with fail
  refine (awk1 H1.out).mono ?_
  rintro en w2 ⟨f2, rfl, h2, s2⟩
  have H2 := Lib.hid h2
  have S2 := Lib.hid s2
  clear h2 s2
  go_wp2_with fail
  refine (awk2 H2.out).mono ?_
  rintro en w3 ⟨f3, rfl, h3, s3⟩
  have H3 := Lib.hid h3
  have S3 := Lib.hid (S2.out.trans s3)
  clear h3 s3
  go_wp2_with fail
  refine (awk3 H3.out).mono ?_
  rintro en w4 ⟨f4, rfl, h4, s4⟩
  have H4 := Lib.hid h4
  have S4 := Lib.hid (S3.out.trans s4)
  clear h4 s4
  go_wp2_with fail
  refine (awk4 H4.out).mono ?_
  rintro en w5 ⟨f5, rfl, h5, s5⟩
  have H5 := Lib.hid h5
  have S5 := Lib.hid (S4.out.trans s5)
  clear h5 s5
  go_wp2_with fail
  refine (awk5 H5.out).mono ?_
  rintro en w6 ⟨f6, rfl, h6, s6⟩
  have H6 := Lib.hid h6
  have S6 := Lib.hid (S5.out.trans s6)
  clear h6 s6
  go_wp2_with fail
  refine (awk6 H6.out).mono ?_
  rintro en w7 ⟨f7, rfl, h7, s7⟩
  have H7 := Lib.hid h7
  have S7 := Lib.hid (S6.out.trans s7)
  clear h7 s7
  go_wp2_with fail
  refine (awk7 H7.out).mono ?_
  rintro en w8 ⟨f8, rfl, h8, s8⟩
  have H8 := Lib.hid h8
  have S8 := Lib.hid (S7.out.trans s8)
  clear h8 s8
  go_wp2_with fail
  refine (awk8 H8.out).mono ?_
  rintro en w9 ⟨f9, rfl, h9, s9⟩
  have H9 := Lib.hid h9
  have S9 := Lib.hid (S8.out.trans s9)
  clear h9 s9
  go_wp2_with fail
  refine (awk9 H9.out).mono ?_
  rintro en w9' ⟨rfl, rfl⟩
  go_wp2_with fail
  refine (load_nil _ _ _).mono ?_
  rintro en w10 ⟨rfl, hb⟩
  have H10 := Lib.hid (H9.out.below hb)
  have S10 := Lib.hid (S9.out.trans (Step.of_below hb))
  clear hb
  go_wp2_with fail
  refine (awk10 H10.out).mono ?_
  rintro en w11 ⟨f11, rfl, h11, s11⟩
  have H11 := Lib.hid h11
  have S11 := Lib.hid (S10.out.trans s11)
  clear h11 s11
  go_wp2_with fail
  refine (awk11 H11.out).mono ?_
  rintro en w12 ⟨rfl, rfl⟩
  go_wp2_with fail
  refine (make_nil _ _ _).mono ?_
  rintro en w12 ⟨rfl, rfl⟩
  go_wp2_with fail
  refine (copy_nil _).mono ?_
  rintro en w12 ⟨rfl, rfl⟩
  go_wp2_with fail
  refine (lock_nil _).mono ?_
  rintro en w12 ⟨rfl, rfl⟩
  go_wp2_with fail
  go_ret
  exact Says.mk rfl (B1.out.trans (S11.out.below B1.out.size F1.out))

end Go.Proofs.Yteggbkhlmehpmaa
