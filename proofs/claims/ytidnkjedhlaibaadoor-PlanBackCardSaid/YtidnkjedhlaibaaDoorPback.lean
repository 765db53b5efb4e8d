/-
  The walk through PlanBack.
-/
import Derived.Test.YtidnkjedhlaibaaDoorPat
namespace Go.Proofs.YtidnkjedhlaibaaDoor
open Go Go.RowKit

set_option maxRecDepth 100000 in
set_option maxHeartbeats 4000000 in
theorem back_bad (a p s q v x i t : Int) (W : World) (hT : Tabs W) (i0 : 0 ≤ i) (i1 : i ≤ 255)
    (HR : Hid (∀ X : World, Calls Tryd.prog 5 #[cfV a p s q v x] X (Says false X)))
    (HW : Hid (∀ X : World, Tabs X → Calls Tryd.prog 16 #[cfV a p s q v x, .int .i64 i] X (TwoD ⟨#[]⟩ 0 X))) :
    Calls Tryd.prog 4 #[cfV a p s q v x, .int .u8 i, .int .u32 t] W (Says true W) := by
  have X0 := Lib.hid (TB.start hT a p s q v x)
  obtain ⟨c0, c1, c2, c3, c4, c5⟩ := X0.out.bx.six
  have hw : IntKind.i64.wrap i = i := awrap (by omega)
  clear hT
  go_enter Tryd.func4, Tryd.ntmps4
  go_wp2_with fail
  refine (HR.out _).mono ?_
  rintro e w1 ⟨rfl, hb⟩
  have X1 := Lib.hid (X0.out.below hb)
  clear hb c0 c1 c2 c3 c4 c5
  obtain ⟨c0, c1, c2, c3, c4, c5⟩ := X1.out.bx.six
  go_wp2_with fail
  refine (HW.out _ X1.out.tb).mono ?_
  rintro e w2 ⟨rfl, hb⟩
  have X2 := Lib.hid (X1.out.below hb)
  clear hb c0 c1 c2 c3 c4 c5
  go_wp2_with fail
  refine (awake_any _).mono ?_
  rintro e w3 ⟨rfl, hb⟩
  have X3 := Lib.hid (X2.out.below hb)
  clear hb
  go_wp2_with fail
  go_ret
  exact ⟨rfl, X3.out.bx.lo⟩

set_option maxRecDepth 100000 in
set_option maxHeartbeats 16000000 in
theorem back_good (a p s q v x i t j k m z1 z2 z3 z4 : Int) (W : World) (hT : Tabs W) (i0 : 0 ≤ i) (i1 : i ≤ 255) (t0 : 0 ≤ t) (t1 : t ≤ 4294967295)
    (a0 : ¬ a = 0) (p0 : ¬ p = 0) (s0 : ¬ s = 0) (hj : Int.tmod i p = j) (hk : Int.tmod i s = k) (hm : Int.tmod t a = m)
    (hz : IntKind.i64.wrap (z3 + 1) = z4)
    (HR : Hid (∀ X : World, Calls Tryd.prog 5 #[cfV a p s q v x] X (Says true X)))
    (HP : Hid (∀ X : World, Calls Tryd.prog 10 #[cfV a p s q v x, .int .i64 j] X (Tells z1 X))) (HWP : Hid (∀ X : World, Tabs X → Calls Tryd.prog 16 #[cfV a p s q v x, .int .i64 z1] X (TwoD ⟨#[112, 105, 110]⟩ j X)))
    (HN : Hid (∀ X : World, Calls Tryd.prog 12 #[cfV a p s q v x, .int .i64 t] X (Tells z2 X))) (HWN : Hid (∀ X : World, Tabs X → Calls Tryd.prog 16 #[cfV a p s q v x, .int .i64 z2] X (TwoD ⟨#[114, 105, 110, 103]⟩ m X)))
    (HK : Hid (∀ X : World, Calls Tryd.prog 14 #[cfV a p s q v x, .int .i64 k] X (Tells z3 X))) (HWK : Hid (∀ X : World, Tabs X → Calls Tryd.prog 16 #[cfV a p s q v x, .int .i64 z3] X (TwoD ⟨#[107, 101, 121]⟩ k X)))
    (HH : Hid (∀ X : World, Calls Tryd.prog 15 #[cfV a p s q v x, .int .i64 k] X (Tells z4 X))) (HWH : Hid (∀ X : World, Tabs X → Calls Tryd.prog 16 #[cfV a p s q v x, .int .i64 z4] X (TwoD ⟨#[104, 101, 97, 100]⟩ k X))) :
    Calls Tryd.prog 4 #[cfV a p s q v x, .int .u8 i, .int .u32 t] W (Says true W) := by
  have X0 := Lib.hid (TB.start hT a p s q v x)
  obtain ⟨c0, c1, c2, c3, c4, c5⟩ := X0.out.bx.six
  have wi : IntKind.i64.wrap i = i := awrap (by omega)
  have wt : IntKind.i64.wrap t = t := awrap (by omega)
  clear hT
  go_enter Tryd.func4, Tryd.ntmps4
  go_wp2_with fail
  refine (HR.out _).mono ?_
  rintro e w1 ⟨rfl, hb⟩
  have X1 := Lib.hid (X0.out.below hb)
  clear hb c0 c1 c2 c3 c4 c5
  obtain ⟨c0, c1, c2, c3, c4, c5⟩ := X1.out.bx.six
  go_wp2_with fail
  go_quiet (fail)
  have Y0 := Lib.hid (X1.out.below (below_draws w1 nq))
  clear c0 c1 c2 c3 c4 c5 X1
  generalize w1.drewN nq = w2 at Y0 ⊢
  go_wp2_with fail
  go_region_held3 (fun w' => w'.cell? ⟨W.heap.size, 0, none⟩ = some (.int .i64 a) ∧ w'.cell? ⟨W.heap.size, 1, none⟩ = some (.int .i64 p) ∧ w'.cell? ⟨W.heap.size, 2, none⟩ = some (.int .i64 s) ∧ w'.cell? ⟨W.heap.size, 3, none⟩ = some (.int .i64 q) ∧ w'.cell? ⟨W.heap.size, 4, none⟩ = some (.int .i64 v) ∧ w'.cell? ⟨W.heap.size, 5, none⟩ = some (.int .u64 x))
    (first
      | exact Y2.out.bx.six
      | exact Y1.out.bx.six
      | exact (Y0.out.below (below_drew _)).bx.six
      | exact Y0.out.bx.six)
    (first
      | (have _ := Y1; go_at_call 16; refine (HWP.out _ Y1.out.tb).mono ?_; rintro e y2 ⟨rfl, hb⟩; have Y2 := Lib.hid (Y1.out.below hb); clear hb)
      | (go_at_call 10; refine (HP.out _).mono ?_; rintro e y1 ⟨rfl, hb⟩; have Y1 := Lib.hid ((Y0.out.below (below_drew _)).below hb); clear hb))
  clear Y0 Y1
  go_wp2_with fail
  go_region_held3 (fun w' => w'.cell? ⟨W.heap.size, 0, none⟩ = some (.int .i64 a) ∧ w'.cell? ⟨W.heap.size, 1, none⟩ = some (.int .i64 p) ∧ w'.cell? ⟨W.heap.size, 2, none⟩ = some (.int .i64 s) ∧ w'.cell? ⟨W.heap.size, 3, none⟩ = some (.int .i64 q) ∧ w'.cell? ⟨W.heap.size, 4, none⟩ = some (.int .i64 v) ∧ w'.cell? ⟨W.heap.size, 5, none⟩ = some (.int .u64 x))
    (first
      | exact Y4.out.bx.six
      | exact Y3.out.bx.six
      | exact (Y2.out.below (below_drew _)).bx.six
      | exact Y2.out.bx.six)
    (first
      | (have _ := Y3; go_at_call 16; refine (HWN.out _ Y3.out.tb).mono ?_; rintro e y4 ⟨rfl, hb⟩; have Y4 := Lib.hid (Y3.out.below hb); clear hb)
      | (go_at_call 12; refine (HN.out _).mono ?_; rintro e y3 ⟨rfl, hb⟩; have Y3 := Lib.hid ((Y2.out.below (below_drew _)).below hb); clear hb))
  clear Y2 Y3
  go_wp2_with fail
  go_region_held3 (fun w' => w'.cell? ⟨W.heap.size, 0, none⟩ = some (.int .i64 a) ∧ w'.cell? ⟨W.heap.size, 1, none⟩ = some (.int .i64 p) ∧ w'.cell? ⟨W.heap.size, 2, none⟩ = some (.int .i64 s) ∧ w'.cell? ⟨W.heap.size, 3, none⟩ = some (.int .i64 q) ∧ w'.cell? ⟨W.heap.size, 4, none⟩ = some (.int .i64 v) ∧ w'.cell? ⟨W.heap.size, 5, none⟩ = some (.int .u64 x))
    (first
      | exact Y6.out.bx.six
      | exact Y5.out.bx.six
      | exact (Y4.out.below (below_drew _)).bx.six
      | exact Y4.out.bx.six)
    (first
      | (have _ := Y5; go_at_call 16; refine (HWK.out _ Y5.out.tb).mono ?_; rintro e y6 ⟨rfl, hb⟩; have Y6 := Lib.hid (Y5.out.below hb); clear hb)
      | (go_at_call 14; refine (HK.out _).mono ?_; rintro e y5 ⟨rfl, hb⟩; have Y5 := Lib.hid ((Y4.out.below (below_drew _)).below hb); clear hb))
  clear Y4 Y5
  go_wp2_with fail
  go_region_held3 (fun w' => w'.cell? ⟨W.heap.size, 0, none⟩ = some (.int .i64 a) ∧ w'.cell? ⟨W.heap.size, 1, none⟩ = some (.int .i64 p) ∧ w'.cell? ⟨W.heap.size, 2, none⟩ = some (.int .i64 s) ∧ w'.cell? ⟨W.heap.size, 3, none⟩ = some (.int .i64 q) ∧ w'.cell? ⟨W.heap.size, 4, none⟩ = some (.int .i64 v) ∧ w'.cell? ⟨W.heap.size, 5, none⟩ = some (.int .u64 x))
    (first
      | exact Y8.out.bx.six
      | exact Y7.out.bx.six
      | exact (Y6.out.below (below_drew _)).bx.six
      | exact Y6.out.bx.six)
    (first
      | (have _ := Y7; go_at_call 16; refine (HWH.out _ Y7.out.tb).mono ?_; rintro e y8 ⟨rfl, hb⟩; have Y8 := Lib.hid (Y7.out.below hb); clear hb)
      | (go_at_call 15; refine (HH.out _).mono ?_; rintro e y7 ⟨rfl, hb⟩; have Y7 := Lib.hid ((Y6.out.below (below_drew _)).below hb); clear hb))
  clear Y6 Y7
  go_wp2_with fail
  go_region_held3 (fun w' => w'.cell? ⟨W.heap.size, 0, none⟩ = some (.int .i64 a) ∧ w'.cell? ⟨W.heap.size, 1, none⟩ = some (.int .i64 p) ∧ w'.cell? ⟨W.heap.size, 2, none⟩ = some (.int .i64 s) ∧ w'.cell? ⟨W.heap.size, 3, none⟩ = some (.int .i64 q) ∧ w'.cell? ⟨W.heap.size, 4, none⟩ = some (.int .i64 v) ∧ w'.cell? ⟨W.heap.size, 5, none⟩ = some (.int .u64 x))
    (first
      | exact Y11.out.bx.six
      | exact Y10.out.bx.six
      | exact Y9.out.bx.six
      | exact (Y8.out.below (below_drew _)).bx.six
      | exact Y8.out.bx.six)
    (first
      | (go_at_call 15; refine (HH.out _).mono ?_; rintro e y9 ⟨rfl, hb⟩; have Y9 := Lib.hid ((Y8.out.below (below_drew _)).below hb); clear hb)
      | (go_at_call 14; refine (HK.out _).mono ?_; rintro e y10 ⟨rfl, hb⟩; have Y10 := Lib.hid (Y9.out.below hb); clear hb)
      | (go_at_call 17; refine (awake_any _).mono ?_; rintro e y11 ⟨rfl, hb⟩; have Y11 := Lib.hid (Y10.out.below hb); clear hb))
  go_wp2_with fail
  go_ret
  exact ⟨rfl, Y11.out.bx.lo⟩

/-- PlanBack, at every config, every byte and every ticket. -/
theorem back_walk (a p s q v x i t : Int) (W : World) (hT : Tabs W) (i0 : 0 ≤ i) (i1 : i ≤ 255) (t0 : 0 ≤ t) (t1 : t ≤ 4294967295) : Calls Tryd.prog 4 #[cfV a p s q v x, .int .u8 i, .int .u32 t] W (Says true W) := by
  have HR := Lib.hid (fun X : World => right_any a p s q v x X)
  cases hr : rightC a p s q v with
  | false =>
    rw [hr] at HR
    have HW := Lib.hid (fun (X : World) (hX : Tabs X) => where_any a p s q v x i X hX)
    rw [show whereN a p s q v i = ⟨#[]⟩ from if_neg (fun h => by rw [hr] at h; exact absurd h.1 (by decide)), show whereI a p s q v i = 0 from if_neg (fun h => by rw [hr] at h; exact absurd h.1 (by decide))] at HW
    exact back_bad a p s q v x i t W hT i0 i1 HR HW
  | true =>
    rw [hr] at HR
    obtain ⟨ha, hp, hs⟩ := rightC_bd hr
    have j0 := Int.emod_nonneg i (show p ≠ 0 by omega)
    have j1 := Int.emod_lt_of_pos i (show 0 < p by omega)
    have k0 := Int.emod_nonneg i (show s ≠ 0 by omega)
    have k1 := Int.emod_lt_of_pos i (show 0 < s by omega)
    have m0 := Int.emod_nonneg t (show a ≠ 0 by omega)
    have m1 := Int.emod_lt_of_pos t (show 0 < a by omega)
    have hj := tmod_of (a := p) i0
    have hk := tmod_of (a := s) i0
    have hm := tmod_of (a := a) t0
    have HN := Lib.hid (fun X : World => ring_any a p s q v x t X)
    rw [show ringW a p s q v t = 3 + p + t % a from if_pos ⟨hr, t0⟩] at HN
    generalize i % p = j at hj j0 j1
    generalize i % s = k at hk k0 k1
    generalize t % a = m at hm m0 m1 HN
    have HP := Lib.hid (fun X : World => pin_any a p s q v x j X)
    rw [show pinW a p s q v j = 3 + j from if_pos ⟨hr, by omega⟩] at HP
    have HK := Lib.hid (fun X : World => key_any a p s q v x k X)
    rw [show keyW a p s q v k = 3 + p + a + 2 * k from if_pos ⟨hr, by omega⟩] at HK
    have HH := Lib.hid (fun X : World => head_any a p s q v x k X)
    rw [show headW a p s q v k = 3 + p + a + 2 * k + 1 from if_pos ⟨hr, by omega⟩] at HH
    have HWP := Lib.hid (fun (X : World) (hX : Tabs X) => where_any a p s q v x (3 + j) X hX)
    rw [show whereN a p s q v (3 + j) = ⟨#[112, 105, 110]⟩ from (if_pos ⟨hr, by omega⟩).trans (by rw [spotN_3 (by omega) (by omega)]; rfl), show whereI a p s q v (3 + j) = j from (if_pos ⟨hr, by omega⟩).trans ((spotI_3 (by omega) (by omega)).trans (by omega))] at HWP
    have HWN := Lib.hid (fun (X : World) (hX : Tabs X) => where_any a p s q v x (3 + p + m) X hX)
    rw [show whereN a p s q v (3 + p + m) = ⟨#[114, 105, 110, 103]⟩ from (if_pos ⟨hr, by omega⟩).trans (by rw [spotN_4 (by omega) (by omega)]; rfl), show whereI a p s q v (3 + p + m) = m from (if_pos ⟨hr, by omega⟩).trans ((spotI_4 (by omega) (by omega)).trans (by omega))] at HWN
    have HWK := Lib.hid (fun (X : World) (hX : Tabs X) => where_any a p s q v x (3 + p + a + 2 * k) X hX)
    rw [show whereN a p s q v (3 + p + a + 2 * k) = ⟨#[107, 101, 121]⟩ from (if_pos ⟨hr, by omega⟩).trans (by rw [spotN_5 (by omega) (by omega) (by omega)]; rfl), show whereI a p s q v (3 + p + a + 2 * k) = k from (if_pos ⟨hr, by omega⟩).trans ((spotI_5 (by omega) (by omega)).trans (by omega))] at HWK
    have HWH := Lib.hid (fun (X : World) (hX : Tabs X) => where_any a p s q v x (3 + p + a + 2 * k + 1) X hX)
    rw [show whereN a p s q v (3 + p + a + 2 * k + 1) = ⟨#[104, 101, 97, 100]⟩ from (if_pos ⟨hr, by omega⟩).trans (by rw [spotN_6 (by omega) (by omega) (by omega)]; rfl), show whereI a p s q v (3 + p + a + 2 * k + 1) = k from (if_pos ⟨hr, by omega⟩).trans ((spotI_5 (by omega) (by omega)).trans (by omega))] at HWH
    exact back_good a p s q v x i t j k m _ _ _ _ W hT i0 i1 t0 t1 (by omega) (by omega) (by omega) hj hk hm (awrap (by omega)) HR HP HWP HN HWN HK HWK HH HWH
end Go.Proofs.YtidnkjedhlaibaaDoor
