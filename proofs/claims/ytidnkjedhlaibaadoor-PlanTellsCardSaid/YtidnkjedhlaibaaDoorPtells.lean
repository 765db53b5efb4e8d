/-
  The walk through PlanTells.
-/
import Derived.Test.YtidnkjedhlaibaaDoorPat
namespace Go.Proofs.YtidnkjedhlaibaaDoor
open Go Go.RowKit

set_option maxRecDepth 100000 in
set_option maxHeartbeats 16000000 in
theorem tells_false (a p s q v x i z1 z2 z3 z4 ni : Int) (nm : ByteArray) (n : Nat) (W : World) (hT : Tabs W) (hn : n ≤ 171)
    (HR1 : Hid (∀ X : World, Calls Tryd.prog 5 #[cfV a p s q v x] X (Says false X)))
    (HR2 : Hid (∀ X : World, Calls Tryd.prog 6 #[cfV a p s q v x] X (Says false X)))
    (HZ : Hid (∀ X : World, Calls Tryd.prog 7 #[cfV a p s q v x] X (Tells n X)))
    (HC : Hid (∀ X : World, Calls Tryd.prog 8 #[cfV a p s q v x] X (CellsD a p n X)))
    (HO : Hid (∀ X : World, Calls Tryd.prog 9 #[cfV a p s q v x] X (OpenD a p s q v x false X)))
    (HP : Hid (∀ X : World, Calls Tryd.prog 10 #[cfV a p s q v x, .int .i64 i] X (Tells z1 X)))
    (HP2 : Hid (∀ X : World, Calls Tryd.prog 11 #[cfV a p s q v x, .string ⟨#[112, 105, 110]⟩, .int .i64 i] X (Tells z1 X)))
    (HN : Hid (∀ X : World, Calls Tryd.prog 12 #[cfV a p s q v x, .int .i64 i] X (Tells z2 X)))
    (HN2 : Hid (∀ X : World, Calls Tryd.prog 13 #[cfV a p s q v x, .int .i64 i] X (Tells z2 X)))
    (HK : Hid (∀ X : World, Calls Tryd.prog 14 #[cfV a p s q v x, .int .i64 i] X (Tells z3 X)))
    (HK2 : Hid (∀ X : World, Calls Tryd.prog 11 #[cfV a p s q v x, .string ⟨#[107, 101, 121]⟩, .int .i64 i] X (Tells z3 X)))
    (HH : Hid (∀ X : World, Calls Tryd.prog 15 #[cfV a p s q v x, .int .i64 i] X (Tells z4 X)))
    (HH2 : Hid (∀ X : World, Calls Tryd.prog 11 #[cfV a p s q v x, .string ⟨#[104, 101, 97, 100]⟩, .int .i64 i] X (Tells z4 X)))
    (HW : Hid (∀ X : World, Tabs X → Calls Tryd.prog 16 #[cfV a p s q v x, .int .i64 i] X (TwoD nm ni X)))
    (HE : Hid (((i < 0 ∨ (n : Int) ≤ i) ∧ nm = ⟨#[]⟩ ∧ ni = 0) ∨ ∃ k : Nat, k < n ∧ i = k ∧ nm = nameP (spotN a p k) ∧ ni = spotI a p k)) :
    Calls Tryd.prog 3 #[cfV a p s q v x, .int .i64 i] W (Says true W) := by
  have X0 := Lib.hid (TB.start hT a p s q v x)
  have hn0 : (0 : Int) ≤ (n : Int) := by omega
  have hn1 : (n : Int) ≤ 171 := by omega
  clear hT hn
  go_enter Tryd.func3, Tryd.ntmps3
  go_wp2_with fail
  generalize (W.alloc (.cells #[.int .i64 a, .int .i64 p, .int .i64 s, .int .i64 q, .int .i64 v, .int .u64 x] 24)) = w0 at X0 ⊢
  go_region_held3 (fun w' => w'.cell? ⟨W.heap.size, 0, none⟩ = some (.int .i64 a) ∧ w'.cell? ⟨W.heap.size, 1, none⟩ = some (.int .i64 p) ∧ w'.cell? ⟨W.heap.size, 2, none⟩ = some (.int .i64 s) ∧ w'.cell? ⟨W.heap.size, 3, none⟩ = some (.int .i64 q) ∧ w'.cell? ⟨W.heap.size, 4, none⟩ = some (.int .i64 v) ∧ w'.cell? ⟨W.heap.size, 5, none⟩ = some (.int .u64 x))
    (first
      | exact X6.out.bx.six
      | exact X5.out.bx.six
      | exact X4.out.bx.six
      | exact X3.out.bx.six
      | exact X2.out.bx.six
      | exact X1.out.bx.six
      | exact (X0.out.below (below_drew _)).bx.six
      | exact X0.out.bx.six)
    (first
      | (have _ := X0; go_at_call 5; refine (HR1.out _).mono ?_; rintro e x1 ⟨rfl, hb⟩; have X1 := Lib.hid ((X0.out.below (below_drew _)).below hb); clear hb)
      | (have _ := X5; go_at_call 6; refine (HR2.out _).mono ?_; rintro e x6 ⟨rfl, hb⟩; have X6 := Lib.hid (X5.out.below hb); clear hb)
      | (have _ := X1; go_at_call 6; refine (HR2.out _).mono ?_; rintro e x2 ⟨rfl, hb⟩; have X2 := Lib.hid (X1.out.below hb); clear hb)
      | (have _ := X2; go_at_call 7; refine (HZ.out _).mono ?_; rintro e x3 ⟨rfl, hb⟩; have X3 := Lib.hid (X2.out.below hb); clear hb)
      | (have _ := X3; go_at_call 8; refine (HC.out _).mono ?_; rintro e x4 ⟨u, rfl, hL, hb⟩; obtain ⟨ua, uc, rfl⟩ := hL.form; clear hL; have X4 := Lib.hid (X3.out.below hb); clear hb)
      | (go_at_call 9; refine (HO.out _).mono ?_; rintro e x5 ⟨hb, ho⟩; have X5 := Lib.hid (X4.out.below hb); clear hb; obtain rfl : e = .returned (.pointer none) := (by rcases ho with ⟨h, _⟩ | ⟨_, h⟩; exact absurd h (by decide); exact h); clear ho))
  all_goals
    clear HR1 HR2 HZ HO
    go_wp2_with fail
    go_region_held3 (fun w' => w'.cell? ⟨W.heap.size, 0, none⟩ = some (.int .i64 a) ∧ w'.cell? ⟨W.heap.size, 1, none⟩ = some (.int .i64 p) ∧ w'.cell? ⟨W.heap.size, 2, none⟩ = some (.int .i64 s) ∧ w'.cell? ⟨W.heap.size, 3, none⟩ = some (.int .i64 q) ∧ w'.cell? ⟨W.heap.size, 4, none⟩ = some (.int .i64 v) ∧ w'.cell? ⟨W.heap.size, 5, none⟩ = some (.int .u64 x))
      (first
        | exact X14.out.bx.six
        | exact X13.out.bx.six
        | exact X12.out.bx.six
        | exact X11.out.bx.six
        | exact X10.out.bx.six
        | exact X9.out.bx.six
        | exact X8.out.bx.six
        | exact X7.out.bx.six
        | exact (X6.out.below (below_drew _)).bx.six
        | exact X6.out.bx.six)
      (first
        | (have _ := X6; go_at_call 10; refine (HP.out _).mono ?_; rintro e x7 ⟨rfl, hb⟩; have X7 := Lib.hid ((X6.out.below (below_drew _)).below hb); clear hb)
        | (have _ := X13; go_at_call 11; refine (HH2.out _).mono ?_; rintro e x14 ⟨rfl, hb⟩; have X14 := Lib.hid (X13.out.below hb); clear hb)
        | (have _ := X11; go_at_call 11; refine (HK2.out _).mono ?_; rintro e x12 ⟨rfl, hb⟩; have X12 := Lib.hid (X11.out.below hb); clear hb)
        | (have _ := X7; go_at_call 11; refine (HP2.out _).mono ?_; rintro e x8 ⟨rfl, hb⟩; have X8 := Lib.hid (X7.out.below hb); clear hb)
        | (have _ := X8; go_at_call 12; refine (HN.out _).mono ?_; rintro e x9 ⟨rfl, hb⟩; have X9 := Lib.hid (X8.out.below hb); clear hb)
        | (have _ := X9; go_at_call 13; refine (HN2.out _).mono ?_; rintro e x10 ⟨rfl, hb⟩; have X10 := Lib.hid (X9.out.below hb); clear hb)
        | (have _ := X10; go_at_call 14; refine (HK.out _).mono ?_; rintro e x11 ⟨rfl, hb⟩; have X11 := Lib.hid (X10.out.below hb); clear hb)
        | (have _ := X12; go_at_call 15; refine (HH.out _).mono ?_; rintro e x13 ⟨rfl, hb⟩; have X13 := Lib.hid (X12.out.below hb); clear hb))
    clear HP HP2 HN HN2 HK HK2 HH HH2
    go_wp2_with fail
    refine (HW.out _ X14.out.tb).mono ?_
    rintro e w15 ⟨rfl, hb⟩
    have X15 := Lib.hid (X14.out.below hb)
    clear hb HW
    obtain ⟨c0, c1, c2, c3, c4, c5⟩ := X15.out.bx.six
    go_wp2_with fail
    refine (HC.out _).mono ?_
    rintro e w16 ⟨u, rfl, hL, hb⟩
    have X16 := Lib.hid (X15.out.below hb)
    clear hb HC c0 c1 c2 c3 c4 c5
    rcases HE.out with ⟨hi, rfl, rfl⟩ | ⟨k, hk, rfl, rfl, rfl⟩
    · obtain ⟨ua, uc, rfl⟩ := hL.form
      clear hL HE
      by_cases h0 : i < 0
      · clear hi
        go_wp2_with fail
        refine (awake_any _).mono ?_
        rintro e w17 ⟨rfl, hb⟩
        have X17 := Lib.hid (X16.out.below hb)
        clear hb
        go_wp2_with fail
        go_ret
        exact ⟨rfl, X17.out.bx.lo⟩
      · have h1 : (n : Int) ≤ i := by omega
        clear hi
        go_wp2_with fail
        refine (awake_any _).mono ?_
        rintro e w17 ⟨rfl, hb⟩
        have X17 := Lib.hid (X16.out.below hb)
        clear hb
        go_wp2_with fail
        go_ret
        exact ⟨rfl, X17.out.bx.lo⟩
    · obtain ⟨g, cap, rfl, d0, d1⟩ := lot_two hL hk
      clear hL HE
      have k0 : (0 : Int) ≤ (k : Int) := by omega
      have k1 : (k : Int) < (n : Int) := by omega
      have hnn : ((nameP (spotN a p k)).toList == (nameP (spotN a p k)).toList) = true := by simp
      generalize nameP (spotN a p k) = nk at d0 hnn
      generalize spotI a p k = ik at d1
      go_wp2_with fail
      refine (awake_any _).mono ?_
      rintro e w17 ⟨rfl, hb⟩
      have X17 := Lib.hid (X16.out.below hb)
      clear hb d0 d1
      go_wp2_with fail
      go_ret
      exact ⟨rfl, X17.out.bx.lo⟩

set_option maxRecDepth 100000 in
set_option maxHeartbeats 16000000 in
theorem tells_true (a p s q v x i z1 z2 z3 z4 ni : Int) (nm : ByteArray) (n : Nat) (W : World) (hT : Tabs W) (hn : n ≤ 171)
    (HR1 : Hid (∀ X : World, Calls Tryd.prog 5 #[cfV a p s q v x] X (Says true X)))
    (HR2 : Hid (∀ X : World, Calls Tryd.prog 6 #[cfV a p s q v x] X (Says true X)))
    (HZ : Hid (∀ X : World, Calls Tryd.prog 7 #[cfV a p s q v x] X (Tells n X)))
    (HC : Hid (∀ X : World, Calls Tryd.prog 8 #[cfV a p s q v x] X (CellsD a p n X)))
    (HO : Hid (∀ X : World, Calls Tryd.prog 9 #[cfV a p s q v x] X (OpenD a p s q v x true X)))
    (HP : Hid (∀ X : World, Calls Tryd.prog 10 #[cfV a p s q v x, .int .i64 i] X (Tells z1 X)))
    (HP2 : Hid (∀ X : World, Calls Tryd.prog 11 #[cfV a p s q v x, .string ⟨#[112, 105, 110]⟩, .int .i64 i] X (Tells z1 X)))
    (HN : Hid (∀ X : World, Calls Tryd.prog 12 #[cfV a p s q v x, .int .i64 i] X (Tells z2 X)))
    (HN2 : Hid (∀ X : World, Calls Tryd.prog 13 #[cfV a p s q v x, .int .i64 i] X (Tells z2 X)))
    (HK : Hid (∀ X : World, Calls Tryd.prog 14 #[cfV a p s q v x, .int .i64 i] X (Tells z3 X)))
    (HK2 : Hid (∀ X : World, Calls Tryd.prog 11 #[cfV a p s q v x, .string ⟨#[107, 101, 121]⟩, .int .i64 i] X (Tells z3 X)))
    (HH : Hid (∀ X : World, Calls Tryd.prog 15 #[cfV a p s q v x, .int .i64 i] X (Tells z4 X)))
    (HH2 : Hid (∀ X : World, Calls Tryd.prog 11 #[cfV a p s q v x, .string ⟨#[104, 101, 97, 100]⟩, .int .i64 i] X (Tells z4 X)))
    (HW : Hid (∀ X : World, Tabs X → Calls Tryd.prog 16 #[cfV a p s q v x, .int .i64 i] X (TwoD nm ni X)))
    (HE : Hid (((i < 0 ∨ (n : Int) ≤ i) ∧ nm = ⟨#[]⟩ ∧ ni = 0) ∨ ∃ k : Nat, k < n ∧ i = k ∧ nm = nameP (spotN a p k) ∧ ni = spotI a p k)) :
    Calls Tryd.prog 3 #[cfV a p s q v x, .int .i64 i] W (Says true W) := by
  have X0 := Lib.hid (TB.start hT a p s q v x)
  have hn0 : (0 : Int) ≤ (n : Int) := by omega
  have hn1 : (n : Int) ≤ 171 := by omega
  clear hT hn
  go_enter Tryd.func3, Tryd.ntmps3
  go_wp2_with fail
  generalize (W.alloc (.cells #[.int .i64 a, .int .i64 p, .int .i64 s, .int .i64 q, .int .i64 v, .int .u64 x] 24)) = w0 at X0 ⊢
  go_region_held3 (fun w' => w'.cell? ⟨W.heap.size, 0, none⟩ = some (.int .i64 a) ∧ w'.cell? ⟨W.heap.size, 1, none⟩ = some (.int .i64 p) ∧ w'.cell? ⟨W.heap.size, 2, none⟩ = some (.int .i64 s) ∧ w'.cell? ⟨W.heap.size, 3, none⟩ = some (.int .i64 q) ∧ w'.cell? ⟨W.heap.size, 4, none⟩ = some (.int .i64 v) ∧ w'.cell? ⟨W.heap.size, 5, none⟩ = some (.int .u64 x))
    (first
      | exact X6.out.bx.six
      | exact X5.out.bx.six
      | exact X4.out.bx.six
      | exact X3.out.bx.six
      | exact X2.out.bx.six
      | exact X1.out.bx.six
      | exact (X0.out.below (below_drew _)).bx.six
      | exact X0.out.bx.six)
    (first
      | (have _ := X0; go_at_call 5; refine (HR1.out _).mono ?_; rintro e x1 ⟨rfl, hb⟩; have X1 := Lib.hid ((X0.out.below (below_drew _)).below hb); clear hb)
      | (have _ := X5; go_at_call 6; refine (HR2.out _).mono ?_; rintro e x6 ⟨rfl, hb⟩; have X6 := Lib.hid (X5.out.below hb); clear hb)
      | (have _ := X1; go_at_call 6; refine (HR2.out _).mono ?_; rintro e x2 ⟨rfl, hb⟩; have X2 := Lib.hid (X1.out.below hb); clear hb)
      | (have _ := X2; go_at_call 7; refine (HZ.out _).mono ?_; rintro e x3 ⟨rfl, hb⟩; have X3 := Lib.hid (X2.out.below hb); clear hb)
      | (have _ := X3; go_at_call 8; refine (HC.out _).mono ?_; rintro e x4 ⟨u, rfl, hL, hb⟩; obtain ⟨ua, uc, rfl⟩ := hL.form; clear hL; have X4 := Lib.hid (X3.out.below hb); clear hb)
      | (go_at_call 9; refine (HO.out _).mono ?_; rintro e x5 ⟨hb, ho⟩; have X5 := Lib.hid (X4.out.below hb); clear hb; obtain ⟨o, rfl⟩ : ∃ o, e = .returned (.pointer (some ⟨o, 0, none⟩)) := (by rcases ho with ⟨_, o, h, _⟩ | ⟨h, _⟩; exact ⟨o, h⟩; exact absurd h (by decide)); clear ho))
  all_goals
    clear HR1 HR2 HZ HO
    go_wp2_with fail
    go_region_held3 (fun w' => w'.cell? ⟨W.heap.size, 0, none⟩ = some (.int .i64 a) ∧ w'.cell? ⟨W.heap.size, 1, none⟩ = some (.int .i64 p) ∧ w'.cell? ⟨W.heap.size, 2, none⟩ = some (.int .i64 s) ∧ w'.cell? ⟨W.heap.size, 3, none⟩ = some (.int .i64 q) ∧ w'.cell? ⟨W.heap.size, 4, none⟩ = some (.int .i64 v) ∧ w'.cell? ⟨W.heap.size, 5, none⟩ = some (.int .u64 x))
      (first
        | exact X14.out.bx.six
        | exact X13.out.bx.six
        | exact X12.out.bx.six
        | exact X11.out.bx.six
        | exact X10.out.bx.six
        | exact X9.out.bx.six
        | exact X8.out.bx.six
        | exact X7.out.bx.six
        | exact (X6.out.below (below_drew _)).bx.six
        | exact X6.out.bx.six)
      (first
        | (have _ := X6; go_at_call 10; refine (HP.out _).mono ?_; rintro e x7 ⟨rfl, hb⟩; have X7 := Lib.hid ((X6.out.below (below_drew _)).below hb); clear hb)
        | (have _ := X13; go_at_call 11; refine (HH2.out _).mono ?_; rintro e x14 ⟨rfl, hb⟩; have X14 := Lib.hid (X13.out.below hb); clear hb)
        | (have _ := X11; go_at_call 11; refine (HK2.out _).mono ?_; rintro e x12 ⟨rfl, hb⟩; have X12 := Lib.hid (X11.out.below hb); clear hb)
        | (have _ := X7; go_at_call 11; refine (HP2.out _).mono ?_; rintro e x8 ⟨rfl, hb⟩; have X8 := Lib.hid (X7.out.below hb); clear hb)
        | (have _ := X8; go_at_call 12; refine (HN.out _).mono ?_; rintro e x9 ⟨rfl, hb⟩; have X9 := Lib.hid (X8.out.below hb); clear hb)
        | (have _ := X9; go_at_call 13; refine (HN2.out _).mono ?_; rintro e x10 ⟨rfl, hb⟩; have X10 := Lib.hid (X9.out.below hb); clear hb)
        | (have _ := X10; go_at_call 14; refine (HK.out _).mono ?_; rintro e x11 ⟨rfl, hb⟩; have X11 := Lib.hid (X10.out.below hb); clear hb)
        | (have _ := X12; go_at_call 15; refine (HH.out _).mono ?_; rintro e x13 ⟨rfl, hb⟩; have X13 := Lib.hid (X12.out.below hb); clear hb))
    clear HP HP2 HN HN2 HK HK2 HH HH2
    go_wp2_with fail
    refine (HW.out _ X14.out.tb).mono ?_
    rintro e w15 ⟨rfl, hb⟩
    have X15 := Lib.hid (X14.out.below hb)
    clear hb HW
    obtain ⟨c0, c1, c2, c3, c4, c5⟩ := X15.out.bx.six
    go_wp2_with fail
    refine (HC.out _).mono ?_
    rintro e w16 ⟨u, rfl, hL, hb⟩
    have X16 := Lib.hid (X15.out.below hb)
    clear hb HC c0 c1 c2 c3 c4 c5
    rcases HE.out with ⟨hi, rfl, rfl⟩ | ⟨k, hk, rfl, rfl, rfl⟩
    · obtain ⟨ua, uc, rfl⟩ := hL.form
      clear hL HE
      by_cases h0 : i < 0
      · clear hi
        go_wp2_with fail
        refine (awake_any _).mono ?_
        rintro e w17 ⟨rfl, hb⟩
        have X17 := Lib.hid (X16.out.below hb)
        clear hb
        go_wp2_with fail
        go_ret
        exact ⟨rfl, X17.out.bx.lo⟩
      · have h1 : (n : Int) ≤ i := by omega
        clear hi
        go_wp2_with fail
        refine (awake_any _).mono ?_
        rintro e w17 ⟨rfl, hb⟩
        have X17 := Lib.hid (X16.out.below hb)
        clear hb
        go_wp2_with fail
        go_ret
        exact ⟨rfl, X17.out.bx.lo⟩
    · obtain ⟨g, cap, rfl, d0, d1⟩ := lot_two hL hk
      clear hL HE
      have k0 : (0 : Int) ≤ (k : Int) := by omega
      have k1 : (k : Int) < (n : Int) := by omega
      have hnn : ((nameP (spotN a p k)).toList == (nameP (spotN a p k)).toList) = true := by simp
      generalize nameP (spotN a p k) = nk at d0 hnn
      generalize spotI a p k = ik at d1
      go_wp2_with fail
      refine (awake_any _).mono ?_
      rintro e w17 ⟨rfl, hb⟩
      have X17 := Lib.hid (X16.out.below hb)
      clear hb d0 d1
      go_wp2_with fail
      go_ret
      exact ⟨rfl, X17.out.bx.lo⟩

/-- PlanTells, at every config and every number. -/
theorem tells_walk (a p s q v x i : Int) (W : World) (hT : Tabs W) : Calls Tryd.prog 3 #[cfV a p s q v x, .int .i64 i] W (Says true W) := by
  have HP := Lib.hid (fun X : World => pin_any a p s q v x i X)
  have HN := Lib.hid (fun X : World => ring_any a p s q v x i X)
  have HK := Lib.hid (fun X : World => key_any a p s q v x i X)
  have HH := Lib.hid (fun X : World => head_any a p s q v x i X)
  have HZ := Lib.hid (fun X : World => size_any a p s q v x X)
  have HO := Lib.hid (fun X : World => open_any a p s q v x X)
  have HR1 := Lib.hid (fun X : World => right_any a p s q v x X)
  have HR2 := Lib.hid (fun X : World => rright_any a p s q v x X)
  have HW := Lib.hid (fun (X : World) (hX : Tabs X) => where_any a p s q v x i X hX)
  cases hr : rightC a p s q v with
  | false =>
    rw [hr] at HR1 HR2 HO
    have n1 : ∀ j : Prop, ¬ (rightC a p s q v = true ∧ j) := fun j h => by rw [hr] at h; exact absurd h.1 (by decide)
    rw [show pinW a p s q v i = -1 from if_neg (n1 _)] at HP
    rw [show ringW a p s q v i = -1 from if_neg (n1 _)] at HN
    rw [show keyW a p s q v i = -1 from if_neg (n1 _)] at HK
    rw [show headW a p s q v i = -1 from if_neg (n1 _)] at HH
    rw [show sizeW a p s q v = ((0 : Nat) : Int) from if_neg (by rw [hr]; decide)] at HZ
    rw [show whereN a p s q v i = ⟨#[]⟩ from if_neg (n1 _), show whereI a p s q v i = 0 from if_neg (n1 _)] at HW
    have HC := Lib.hid (fun X : World => rcells_bad a p s q v x X hr)
    have HA := fun (c : Nat) (hc : c < 7) (X : World) => at_any a p s q v x i (-1) 0 c X (by omega) hc HC (.inl ⟨rfl, fun j hj => absurd hj (Nat.not_lt_zero _)⟩)
    have HN2 := Lib.hid (fun X : World => rring_any a p s q v x i X (Lib.hid (fun h => by rw [hr] at h; exact absurd h (by decide))))
    rw [show ringW a p s q v i = -1 from if_neg (n1 _)] at HN2
    exact tells_false a p s q v x i _ _ _ _ _ _ 0 W hT (by omega) HR1 HR2 HZ HC HO HP (Lib.hid (HA 3 (by omega))) HN HN2 HK (Lib.hid (HA 5 (by omega))) HH (Lib.hid (HA 6 (by omega))) HW (Lib.hid (.inl ⟨by omega, rfl, rfl⟩))
  | true =>
    rw [hr] at HR1 HR2 HO
    obtain ⟨ha, hp, hs⟩ := rightC_bd hr
    obtain ⟨a, rfl⟩ := Int.eq_ofNat_of_zero_le (show 0 ≤ a by omega)
    obtain ⟨p, rfl⟩ := Int.eq_ofNat_of_zero_le (show 0 ≤ p by omega)
    obtain ⟨s, rfl⟩ := Int.eq_ofNat_of_zero_le (show 0 ≤ s by omega)
    have HC := Lib.hid (fun X : World => rcells_good a p s q v x X hr)
    have hn : ((3 + p + a + 2 * s : Nat) : Int) = 3 + (p : Int) + (a : Int) + 2 * (s : Int) := by omega
    rw [show sizeW a p s q v = ((3 + p + a + 2 * s : Nat) : Int) from (if_pos hr).trans hn.symm] at HZ
    have hE : ((i < 0 ∨ ((3 + p + a + 2 * s : Nat) : Int) ≤ i) ∧ whereN a p s q v i = ⟨#[]⟩ ∧ whereI a p s q v i = 0) ∨ ∃ k : Nat, k < 3 + p + a + 2 * s ∧ i = k ∧ whereN a p s q v i = nameP (spotN a p k) ∧ whereI a p s q v i = spotI a p k := by
      by_cases hi : 0 ≤ i ∧ i < 3 + (p : Int) + (a : Int) + 2 * (s : Int)
      · obtain ⟨k, rfl⟩ := Int.eq_ofNat_of_zero_le hi.1
        exact .inr ⟨k, by omega, rfl, if_pos ⟨hr, hi⟩, if_pos ⟨hr, hi⟩⟩
      · exact .inl ⟨by omega, if_neg (fun h => hi h.2), if_neg (fun h => hi h.2)⟩
    generalize hnn : 3 + p + a + 2 * s = n at HC HZ hE hn
    have hn1 : n ≤ 171 := by omega
    have HN2 := Lib.hid (fun X : World => rring_any a p s q v x i X (Lib.hid (fun _ h0 Y => at_any a p s q v x _ _ n 4 Y hn1 (by omega) HC (first_ring i hr h0 hn))))
    exact tells_true a p s q v x i _ _ _ _ _ _ n W hT hn1 HR1 HR2 HZ HC HO HP (Lib.hid (fun X => at_any a p s q v x i _ n 3 X hn1 (by omega) HC (first_pin i hr hn))) HN HN2
      HK (Lib.hid (fun X => at_any a p s q v x i _ n 5 X hn1 (by omega) HC (first_key i hr hn))) HH (Lib.hid (fun X => at_any a p s q v x i _ n 6 X hn1 (by omega) HC (first_head i hr hn))) HW (Lib.hid hE)
end Go.Proofs.YtidnkjedhlaibaaDoor
