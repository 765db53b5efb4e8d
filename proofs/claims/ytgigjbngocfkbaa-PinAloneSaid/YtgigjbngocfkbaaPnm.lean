/-
  pin's routine: New and Free; the routine as a kind of routine.
-/
import Derived.Test.YtgigjbngocfkbaaPnt
import Derived.Test.YtgigjbngocfkbaaPnr2
import Derived.Test.YtgigjbngocfkbaaRnd
namespace Go.Proofs.Ytgigjbngocfkbaa
open Go Go.RowKit
attribute [local go_sem ↓] Go.wp_at_zero Go.wp_at_succ

/-! ### New -/
/-- A routine at its beginning. -/
def newP (a p s q v x th : Int) : PinD := ⟨a, p, s, q, v, x, 1, 0, th % p, 0, false⟩
theorem newP_fits {a p s q v : Int} (hr : rightC a p s q v = true) (x th : Int) : (newP a p s q v x th).fits := by
  have hp := (rightC_bd hr).2.1
  have hm := Int.emod_nonneg th (show p ≠ 0 by omega)
  have hm2 := Int.emod_lt_of_pos th (show 0 < p by omega)
  exact ⟨by show 1 ≤ 5; omega, ⟨Int.le_refl _, by show (0 : Int) < 18446744073709551616; omega⟩, .inr ⟨hr, Nat.le_refl _, ⟨Int.le_refl _, by show 0 ≤ p; omega⟩, ⟨hm, hm2⟩, fun _ => by show 0 < p; omega⟩⟩
def NewPE (d : PinD) (W : World) (e : Ending) (W' : World) : Prop := ∃ r, e = .returned (.pointer (some ⟨r, 0, none⟩)) ∧ W.heap.size ≤ r ∧ W'.heap[r]? = some (pnrO d) ∧ Below W.heap.size W W'

set_option maxRecDepth 100000 in
set_option maxHeartbeats 2000000 in
theorem pnew_bad (W : World) (a p s q v x th : Int) (hr : rightC a p s q v = false ∨ th < 0) :
    Calls Try.prog 7 #[cfV a p s q v x, .int .i64 th] W (NewPE PinD.zero W) := by
  have HR := Lib.hid (fun X : World => cright_any a p s q v x X)
  have X0 := Lib.hid (BoxC.start W a p s q v x)
  obtain ⟨c0, c1, c2, c3, c4, c5⟩ := X0.out.six
  by_cases hth : th < 0
  · generalize rightC a p s q v = b at HR
    clear hr
    go_enter Try.func7, Try.ntmps7
    go_wp2_with fail
    refine (HR.out _).mono ?_
    rintro e w1 ⟨rfl, hb⟩
    have HB := Lib.hid (X0.out.lo.trans (hb.mono X0.out.lo.size))
    clear hb
    cases b
    all_goals
      go_wp2_with fail
      go_ret
      exact ⟨_, rfl, HB.out.size, World.alloc_heap_new w1 (pnrO PinD.zero), HB.out.trans ((below_alloc w1 _).mono HB.out.size)⟩
  · have hr' : rightC a p s q v = false := hr.elim id (fun h => absurd h hth)
    rw [hr'] at HR
    clear hr hr'
    go_enter Try.func7, Try.ntmps7
    go_wp2_with fail
    refine (HR.out _).mono ?_
    rintro e w1 ⟨rfl, hb⟩
    have HB := Lib.hid (X0.out.lo.trans (hb.mono X0.out.lo.size))
    clear hb
    go_wp2_with fail
    go_ret
    exact ⟨_, rfl, HB.out.size, World.alloc_heap_new w1 (pnrO PinD.zero), HB.out.trans ((below_alloc w1 _).mono HB.out.size)⟩

set_option maxRecDepth 100000 in
set_option maxHeartbeats 4000000 in
theorem pnew_any (W : World) (a p s q v x th : Int) (hr : rightC a p s q v = true) (hth : 0 ≤ th) :
    Calls Try.prog 7 #[cfV a p s q v x, .int .i64 th] W (NewPE (newP a p s q v x th) W) := by
  have HR := Lib.hid (fun X : World => cright_any a p s q v x X)
  rw [hr] at HR
  have X0 := Lib.hid (BoxC.start W a p s q v x)
  obtain ⟨c0, c1, c2, c3, c4, c5⟩ := X0.out.six
  have hp := (rightC_bd hr).2.1
  obtain ⟨m, hm⟩ : ∃ m, th % p = m := ⟨_, rfl⟩
  have hm0 := Int.emod_nonneg th (show p ≠ 0 by omega)
  have hm1 := Int.emod_lt_of_pos th (show 0 < p by omega)
  have htm := tmod_of (a := p) hth
  have HE := Lib.hid (show newP a p s q v x th = ⟨a, p, s, q, v, x, 1, 0, m, 0, false⟩ from by rw [← hm]; rfl)
  rw [hm] at hm0 hm1 htm
  have hwm : IntKind.i64.wrap m = m := awrap (by omega)
  have hp0 : ¬ p = 0 := by omega
  have ht0 : ¬ th < 0 := by omega
  have hmix : Try.prog.follows .mixedOrders = true := by kernel_rfl
  rw [HE.out]
  clear hr hm hth HE
  go_enter Try.func7, Try.ntmps7
  go_wp2_with fail
  refine (HR.out _).mono ?_
  rintro e w1 ⟨rfl, hb⟩
  have X1 := Lib.hid (X0.out.below hb)
  clear hb c0 c1 c2 c3 c4 c5
  obtain ⟨c0, c1, c2, c3, c4, c5⟩ := X1.out.six
  go_wp2_with fail
  go_still_tail 7, hmix
  change wpList _ _ _ _ _ w1.drew
  have HB := Lib.hid (X1.out.drew.lo)
  clear c0 c1 c2 c3 c4 c5
  generalize w1.drew = w2 at HB ⊢
  go_wp2_with fail
  go_ret
  exact ⟨_, rfl, HB.out.size, World.alloc_heap_new w2 (pnrO ⟨a, p, s, q, v, x, 1, 0, m, 0, false⟩), HB.out.trans ((below_alloc w2 _).mono HB.out.size)⟩

/-! ### Free -/
theorem pfree_end {W X : World} {n : Nat} {x : ActD} {T : Array Value} (h : X.heap[n]? = some (.cells (actCells x) 31 (0, 0))) (hb : Below W.heap.size W X) (h2 : T.getD 4 undef = .pointer (some ⟨n, 0, none⟩)) :
    bodyPost Try.prog Try.f22 (fun e W' => e = .returned (actOf x) ∧ Below W.heap.size W W') .ret { tmps := T, defers := [] } X :=
  bodyPost_ret (v := actOf x) (by rw [results_cell1 (by rfl), h2]; simp only [asAddr, Sem.run_pure, Result.andThen_ok, load_act h]) rfl ⟨rfl, hb⟩
def freeE (c : Int) : ActD := if c < 0 then noAct else ⟨2, 1, c, 0, 0, ⟨#[]⟩⟩
set_option maxRecDepth 100000 in
set_option maxHeartbeats 2000000 in
theorem pfree_any (W : World) (a p s q v x i : Int) : Calls Try.prog 22 #[cfV a p s q v x, .int .i64 i] W fun e W' => e = .returned (actOf (freeE (pinW a p s q v i))) ∧ Below W.heap.size W W' := by
  have HP := Lib.hid (fun X : World => pin_any a p s q v x i X)
  have X0 := BoxC.start W a p s q v x
  obtain ⟨b, hb⟩ : ∃ b, (W.alloc (.cells #[.int .i64 a, .int .i64 p, .int .i64 s, .int .i64 q, .int .i64 v, .int .u64 x] 24)).heap.size = b := ⟨_, rfl⟩
  have hbs : b = W.heap.size + 1 := by rw [← hb]; simp
  have HX := Lib.hid (X0.below (below_alloc _ noO))
  have HN := Lib.hid (show ((W.alloc (.cells #[.int .i64 a, .int .i64 p, .int .i64 s, .int .i64 q, .int .i64 v, .int .u64 x] 24)).alloc noO).heap[W.heap.size + 1]? = some noO from by
    have := World.alloc_heap_new (W.alloc (.cells #[.int .i64 a, .int .i64 p, .int .i64 s, .int .i64 q, .int .i64 v, .int .u64 x] 24)) noO; rwa [World.size_alloc] at this)
  obtain ⟨c0, c1, c2, c3, c4, c5⟩ := HX.out.six
  generalize pinW a p s q v i = c at HP ⊢
  clear X0 hb hbs
  by_cases hc : c < 0
  · rw [show freeE c = noAct from if_pos hc]
    go_enter Try.func22, Try.ntmps22
    go_wp2_with fail
    refine (HP.out _).mono ?_
    rintro e w1 ⟨rfl, hb⟩
    have HB := Lib.hid (HX.out.below hb).lo
    have HN1 := Lib.hid ((hb.block _ (heap_at_lt HN.out)).trans HN.out)
    obtain ⟨m0, m1, m2, m3, m4, m5⟩ := six_at HN1.out
    obtain ⟨z0, z1, z2, z3, z4, z5⟩ := six_free HN1.out
    clear hb c0 c1 c2 c3 c4 c5
    go_wp2_with fail
    exact pfree_end (x := noAct) (set6 HN1.out _ _ _ _ _ _) (below6 HB.out (Nat.le_succ _) _ _ _ _ _ _) rfl
  · rw [show freeE c = ⟨2, 1, c, 0, 0, ⟨#[]⟩⟩ from if_neg hc]
    go_enter Try.func22, Try.ntmps22
    go_wp2_with fail
    refine (HP.out _).mono ?_
    rintro e w1 ⟨rfl, hb⟩
    have HB := Lib.hid (HX.out.below hb).lo
    have HN1 := Lib.hid ((hb.block _ (heap_at_lt HN.out)).trans HN.out)
    obtain ⟨m0, m1, m2, m3, m4, m5⟩ := six_at HN1.out
    obtain ⟨z0, z1, z2, z3, z4, z5⟩ := six_free HN1.out
    clear hb c0 c1 c2 c3 c4 c5
    go_wp2_with fail
    exact pfree_end (x := ⟨2, 1, c, 0, 0, ⟨#[]⟩⟩) (set6 HN1.out _ _ _ _ _ _) (below6 HB.out (Nat.le_succ _) _ _ _ _ _ _) rfl

/-! ### a kind of routine -/
structure PinAt (W : World) (B r : Nat) (v : PinD) (f : Nat → Prop) : Prop where
  own : W.heap[r]? = some (pnrO v)
  foot : f = fun k => k = r
  base : B ≤ r
  fits : v.fits
theorem PinAt.stays {W W' : World} {B r : Nat} {v : PinD} {f : Nat → Prop} (h : PinAt W B r v f) (hs : ∀ k, f k → W'.heap[k]? = W.heap[k]?) : PinAt W' B r v f := ⟨(hs r (by rw [h.foot])).trans h.own, h.foot, h.base, h.fits⟩
theorem PinAt.lt {W : World} {B r : Nat} {v : PinD} {f : Nat → Prop} (h : PinAt W B r v f) : ∀ k, f k → k < W.heap.size := fun k hk => by
  rw [h.foot] at hk; subst hk; exact heap_at_lt h.own
theorem pin_takes {W : World} {B r : Nat} {v : PinD} {f : Nat → Prop} {w : Int} {t : ByteArray} (h : PinAt W B r v f) (hs : (nextP v).isSome = true) (hg : Good w t) :
    Calls Try.prog 12 #[.pointer (some ⟨r, 0, none⟩), gotV w t] W fun e W' => ∃ f', e = .returned (.tuple #[]) ∧ PinAt W' B r (takeP v w t) f' ∧ Step f f' W W' := by
  refine (ptake_any W h.own h.fits hs w t).mono ?_
  rintro en W' ⟨rfl, h2, h3⟩
  refine ⟨fun k => k = r, rfl, ⟨h2, rfl, h.base, takeP_fits h.fits hg.1⟩, ?_⟩
  rw [h.foot]; exact h3

theorem pin_metA (n r : Nat) (w : World) : (method (n + 1) 27 (.pointer (some ⟨r, 0, none⟩)) "Act").run Try.prog w = .ok (9, .pointer (some ⟨r, 0, none⟩)) w := by kernel_rfl
theorem pin_metT (n r : Nat) (w : World) : (method (n + 1) 27 (.pointer (some ⟨r, 0, none⟩)) "Take").run Try.prog w = .ok (12, .pointer (some ⟨r, 0, none⟩)) w := by kernel_rfl
theorem pin_entA (args : Array Value) (w : World) : (callFunc 9 args).run Try.prog w = .ok (.enter 9 args) w := enters_of Try.func9 (by kernel_rfl) rfl args w
theorem pin_entT (args : Array Value) (w : World) : (callFunc 12 args).run Try.prog w = .ok (.enter 12 args) w := enters_of Try.func12 (by kernel_rfl) rfl args w
def PinM : Mach PinD where
  tid := 27
  fA := 9
  fT := 12
  next := nextP
  take := takeP
  At := PinAt
  metA := pin_metA
  metT := pin_metT
  entA := pin_entA
  entT := pin_entT
  stays := fun h hs => h.stays hs
  lt := fun h => h.lt
  base := fun h k hk => by rw [h.foot] at hk; subst hk; exact h.base
  self := fun h => by rw [h.foot]
  fits := fun _ hx => (nextP_fits hx).1
  act := fun h => pact_any _ h.own h.fits.1
  takes := fun h hs hg => pin_takes h hs hg
theorem PinM_take (v : PinD) (w : Int) (t : ByteArray) : PinM.take v w t = takeP v w t := rfl
theorem PinM_next (v : PinD) : PinM.next v = nextP v := rfl

end Go.Proofs.Ytgigjbngocfkbaa
