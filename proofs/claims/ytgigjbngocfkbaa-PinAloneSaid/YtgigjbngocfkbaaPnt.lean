/-
  pin's routine: todo and Act.
-/
import Derived.Test.YtgigjbngocfkbaaPnr
import Derived.Test.YtgigjbngocfkbaaDrawn2
import Derived.Deep.RegionHeld3
import Derived.WalkMore
namespace Go.Proofs.Ytgigjbngocfkbaa
open Go Go.RowKit
attribute [local go_sem ↓] Go.wp_at_zero Go.wp_at_succ

/-! ### todo -/
def PtodoE (y : ActD) (W : World) (e : Ending) (W' : World) : Prop := e = .returned (actOf y) ∧ Below W.heap.size W W'
theorem ptodo_end {W X : World} {n : Nat} {x : ActD} {T : Array Value} (h : X.heap[n]? = some (.cells (actCells x) 31 (0, 0))) (hb : Below W.heap.size W X) (h2 : T.getD 2 undef = .pointer (some ⟨n, 0, none⟩)) :
    bodyPost Try.prog Try.f24 (PtodoE x W) .ret { tmps := T, defers := [] } X :=
  bodyPost_ret (v := actOf x) (by rw [results_cell1 (by rfl), h2]; simp only [asAddr, Sem.run_pure, Result.andThen_ok, load_act h]) rfl ⟨rfl, hb⟩
/-- The routine, and the box of the act that is told. -/
structure TodoI (W : World) (r : Nat) (v : PinD) (X : World) : Prop where
  own : X.heap[r]? = some (pnrO v)
  box : X.heap[W.heap.size]? = some noO
  lo : Below W.heap.size W X
theorem TodoI.below {W X Y : World} {r : Nat} {v : PinD} (h : TodoI W r v X) (hb : Below X.heap.size X Y) : TodoI W r v Y :=
  ⟨(hb.block _ (heap_at_lt h.own)).trans h.own, (hb.block _ (heap_at_lt h.box)).trans h.box, h.lo.trans (hb.mono h.lo.size)⟩
/-- What the region that tells an act at a pin reads. -/
def Seven (r : Nat) (v : PinD) (X : World) : Prop := X.cell? ⟨r, 0, none⟩ = some (.int .i64 v.a) ∧ X.cell? ⟨r, 1, none⟩ = some (.int .i64 v.p) ∧ X.cell? ⟨r, 2, none⟩ = some (.int .i64 v.s) ∧ X.cell? ⟨r, 3, none⟩ = some (.int .i64 v.q) ∧ X.cell? ⟨r, 4, none⟩ = some (.int .i64 v.v) ∧ X.cell? ⟨r, 5, none⟩ = some (.int .u64 v.x) ∧ X.cell? ⟨r, 8, none⟩ = some (.int .i64 v.pn)
theorem TodoI.seven {W X : World} {r : Nat} {v : PinD} (h : TodoI W r v X) : Seven r v X := by
  obtain ⟨⟨c0, c1, c2, c3, c4, c5⟩, -, -, c8, -, -⟩ := pnr_at h.own
  exact ⟨c0, c1, c2, c3, c4, c5, c8⟩

set_option maxRecDepth 100000 in
set_option maxHeartbeats 4000000 in
theorem ptodo_look (W : World) {r : Nat} {v : PinD} (h : W.heap[r]? = some (pnrO v)) (hp : v.part = 1 ∨ v.part = 3) :
    Calls Try.prog 24 #[.pointer (some ⟨r, 0, none⟩)] W (PtodoE loadE W) := by
  have HI := Lib.hid (show TodoI W r v (W.alloc noO) from ⟨((below_alloc W noO).block r (heap_at_lt h)).trans h, World.alloc_heap_new W noO, below_alloc W noO⟩)
  obtain ⟨⟨c0, c1, c2, c3, c4, c5⟩, c6, c7, c8, c9, c10⟩ := pnr_at HI.out.own
  obtain ⟨z0, z1, z2, z3, z4, z5⟩ := six_free HI.out.box
  obtain ⟨m0, m1, m2, m3, m4, m5⟩ := six_at HI.out.box
  clear h
  rcases hp with hp | hp
  all_goals
    rw [hp] at c6
    clear hp
    go_enter Try.func24, Try.ntmps24
    go_wp2_with fail
    refine bodyPost_ret (v := actOf loadE) (by rw [results_cell1 (by rfl)]; go_simp; exact ⟨rfl, rfl, rfl, rfl, rfl, rfl⟩) rfl ⟨rfl, ?_⟩
    exact below_alloc _ _

set_option maxRecDepth 100000 in
set_option maxHeartbeats 4000000 in
theorem ptodo_none (W : World) {r : Nat} {v : PinD} (h : W.heap[r]? = some (pnrO v)) (hp : v.part = 0 ∨ v.part = 5) :
    Calls Try.prog 24 #[.pointer (some ⟨r, 0, none⟩)] W (PtodoE noAct W) := by
  have HI := Lib.hid (show TodoI W r v (W.alloc noO) from ⟨((below_alloc W noO).block r (heap_at_lt h)).trans h, World.alloc_heap_new W noO, below_alloc W noO⟩)
  obtain ⟨⟨c0, c1, c2, c3, c4, c5⟩, c6, c7, c8, c9, c10⟩ := pnr_at HI.out.own
  obtain ⟨z0, z1, z2, z3, z4, z5⟩ := six_free HI.out.box
  obtain ⟨m0, m1, m2, m3, m4, m5⟩ := six_at HI.out.box
  clear h
  rcases hp with hp | hp
  all_goals
    rw [hp] at c6
    clear hp
    go_enter Try.func24, Try.ntmps24
    go_wp2_with fail
    refine bodyPost_ret (v := actOf noAct) (by rw [results_cell1 (by rfl)]; go_simp; exact ⟨rfl, rfl, rfl, rfl, rfl, rfl⟩) rfl ⟨rfl, ?_⟩
    exact below_alloc _ _

/-- The act is told. -/
theorem TodoI.put {W X : World} {r : Nat} {v : PinD} (h : TodoI W r v X) (x : ActD) :
    ((((((X.setCell ⟨W.heap.size, 0, none⟩ (.int .i64 x.kind)).setCell ⟨W.heap.size, 1, none⟩ (.int .u64 (x.block : Int))).setCell ⟨W.heap.size, 2, none⟩ (.int .i64 x.cell)).setCell ⟨W.heap.size, 3, none⟩ (.int .u64 x.old)).setCell ⟨W.heap.size, 4, none⟩ (.int .u64 x.new)).setCell ⟨W.heap.size, 5, none⟩ (.string x.text)).heap[W.heap.size]? = some (.cells (actCells x) 31 (0, 0)) ∧
    Below W.heap.size W ((((((X.setCell ⟨W.heap.size, 0, none⟩ (.int .i64 x.kind)).setCell ⟨W.heap.size, 1, none⟩ (.int .u64 (x.block : Int))).setCell ⟨W.heap.size, 2, none⟩ (.int .i64 x.cell)).setCell ⟨W.heap.size, 3, none⟩ (.int .u64 x.old)).setCell ⟨W.heap.size, 4, none⟩ (.int .u64 x.new)).setCell ⟨W.heap.size, 5, none⟩ (.string x.text)) ∧
    (W.heap.size ≠ r → Seven r v ((((((X.setCell ⟨W.heap.size, 0, none⟩ (.int .i64 x.kind)).setCell ⟨W.heap.size, 1, none⟩ (.int .u64 (x.block : Int))).setCell ⟨W.heap.size, 2, none⟩ (.int .i64 x.cell)).setCell ⟨W.heap.size, 3, none⟩ (.int .u64 x.old)).setCell ⟨W.heap.size, 4, none⟩ (.int .u64 x.new)).setCell ⟨W.heap.size, 5, none⟩ (.string x.text))) := by
  refine ⟨set6 h.box _ _ _ _ _ _, below6 h.lo (Nat.le_refl _) _ _ _ _ _ _, fun hne => ?_⟩
  have hc : ∀ i, ((((((X.setCell ⟨W.heap.size, 0, none⟩ (.int .i64 x.kind)).setCell ⟨W.heap.size, 1, none⟩ (.int .u64 (x.block : Int))).setCell ⟨W.heap.size, 2, none⟩ (.int .i64 x.cell)).setCell ⟨W.heap.size, 3, none⟩ (.int .u64 x.old)).setCell ⟨W.heap.size, 4, none⟩ (.int .u64 x.new)).setCell ⟨W.heap.size, 5, none⟩ (.string x.text)).cell? ⟨r, i, none⟩ = X.cell? ⟨r, i, none⟩ := fun i => World.cell?_of_block (a := ⟨r, i, none⟩) (by
    have hk : r ≠ W.heap.size := Ne.symm hne
    rw [Below.heap_setCell _ _ _ _ hk, Below.heap_setCell _ _ _ _ hk, Below.heap_setCell _ _ _ _ hk, Below.heap_setCell _ _ _ _ hk, Below.heap_setCell _ _ _ _ hk, Below.heap_setCell _ _ _ _ hk])
  obtain ⟨h0, h1, h2, h3, h4, h5, h8⟩ := h.seven
  exact ⟨(hc _).trans h0, (hc _).trans h1, (hc _).trans h2, (hc _).trans h3, (hc _).trans h4, (hc _).trans h5, (hc _).trans h8⟩

-- BEGIN
set_option maxRecDepth 100000 in
set_option maxHeartbeats 4000000 in
theorem ptodo_try (W : World) {r : Nat} {v : PinD} (h : W.heap[r]? = some (pnrO v)) (hp : v.part = 2) :
    Calls Try.prog 24 #[.pointer (some ⟨r, 0, none⟩)] W (PtodoE (swapE v.cell v.ep) W) := by
  have HI := Lib.hid (show TodoI W r v (W.alloc noO) from ⟨((below_alloc W noO).block r (heap_at_lt h)).trans h, World.alloc_heap_new W noO, below_alloc W noO⟩)
  have HP := Lib.hid (fun X => pin_any v.a v.p v.s v.q v.v v.x v.pn X)
  obtain ⟨c, hc⟩ : ∃ c, v.cell = c := ⟨_, rfl⟩
  have hc' : pinW v.a v.p v.s v.q v.v v.pn = c := hc
  rw [hc'] at HP
  rw [hc]
  obtain ⟨⟨c0, c1, c2, c3, c4, c5⟩, c6, c7, c8, c9, c10⟩ := pnr_at HI.out.own
  rw [hp] at c6
  have HNe := Lib.hid (show W.heap.size ≠ r from by have := heap_at_lt h; omega)
  clear h hp hc hc'
  go_enter Try.func24, Try.ntmps24
  go_wp2_with fail
  clear c0 c1 c2 c3 c4 c5 c6 c7 c8 c9 c10
  have HS := Lib.hid (show Seven r v (W.alloc noO).drew from (HI.out.below (below_drew _)).seven)
  refine wp_region_held_drew (S := fun w' => w'.cell? ⟨r, 0, none⟩ = some (.int .i64 v.a) ∧ w'.cell? ⟨r, 1, none⟩ = some (.int .i64 v.p) ∧ w'.cell? ⟨r, 2, none⟩ = some (.int .i64 v.s) ∧ w'.cell? ⟨r, 3, none⟩ = some (.int .i64 v.q) ∧ w'.cell? ⟨r, 4, none⟩ = some (.int .i64 v.v) ∧ w'.cell? ⟨r, 5, none⟩ = some (.int .u64 v.x) ∧ w'.cell? ⟨r, 8, none⟩ = some (.int .i64 v.pn)) (by kernel_rfl) HS.out (fun _ => ?_)
  refine (fun h => h) ?_
  refine wpAnyH_look (i := 0) (v := ?v0) 20 rfl (by kernel_rfl) (by kernel_rfl) (by kernel_rfl) (fun _ _ _ _ h => h) (by rfl) HS.out (Or.inl ⟨by rfl, ?y0⟩) ?r0
  case y0 => intro w hSw; (try dsimp only at hSw); go_simp; (try with_reducible rfl)
  simp only [List.setIfInBounds_toArray, List.set_cons_zero, List.set_cons_succ]
  refine wpAnyH_look (i := 1) (v := ?v1) 21 rfl (by kernel_rfl) (by kernel_rfl) (by kernel_rfl) (fun _ _ _ _ h => h) (by rfl) HS.out (Or.inl ⟨by rfl, ?y1⟩) ?r1
  case y1 => intro w hSw; (try dsimp only at hSw); go_simp; (try with_reducible rfl)
  simp only [List.setIfInBounds_toArray, List.set_cons_zero, List.set_cons_succ]
  refine wpAnyH_look (i := 2) (v := ?v2) 22 rfl (by kernel_rfl) (by kernel_rfl) (by kernel_rfl) (fun _ _ _ _ h => h) (by rfl) HS.out (Or.inl ⟨by rfl, ?y2⟩) ?r2
  case y2 => intro w hSw; (try dsimp only at hSw); go_simp; (try with_reducible rfl)
  simp only [List.setIfInBounds_toArray, List.set_cons_zero, List.set_cons_succ]
  refine wpAnyH_look (i := 3) (v := ?v3) 23 rfl (by kernel_rfl) (by kernel_rfl) (by kernel_rfl) (fun _ _ _ _ h => h) (by rfl) HS.out (Or.inl ⟨by rfl, ?y3⟩) ?r3
  case y3 => intro w hSw; (try dsimp only at hSw); go_simp; (try with_reducible rfl)
  simp only [List.setIfInBounds_toArray, List.set_cons_zero, List.set_cons_succ]
  refine wpAnyH_look (i := 4) (v := ?v4) 24 rfl (by kernel_rfl) (by kernel_rfl) (by kernel_rfl) (fun _ _ _ _ h => h) (by rfl) HS.out (Or.inl ⟨by rfl, ?y4⟩) ?r4
  case y4 => intro w hSw; (try dsimp only at hSw); go_simp; (try with_reducible rfl)
  simp only [List.setIfInBounds_toArray, List.set_cons_zero, List.set_cons_succ]
  refine wpAnyH_look (i := 5) (v := ?v5) 25 rfl (by kernel_rfl) (by kernel_rfl) (by kernel_rfl) (fun _ _ _ _ h => h) (by rfl) HS.out (Or.inl ⟨by rfl, ?y5⟩) ?r5
  case y5 => intro w hSw; (try dsimp only at hSw); go_simp; (try with_reducible rfl)
  simp only [List.setIfInBounds_toArray, List.set_cons_zero, List.set_cons_succ]
  refine wpAnyH_look (i := 6) (v := ?v6) 26 rfl (by kernel_rfl) (by kernel_rfl) (by kernel_rfl) (fun _ _ _ _ h => h) (by rfl) HS.out (Or.inl ⟨by rfl, ?y6⟩) ?r6
  case y6 => intro w hSw; (try dsimp only at hSw); go_simp; (try with_reducible rfl)
  simp only [List.setIfInBounds_toArray, List.set_cons_zero, List.set_cons_succ]
  refine wpAnyH_look (i := 7) (v := ?v7) 27 rfl (by kernel_rfl) (by kernel_rfl) (by kernel_rfl) (fun _ _ _ _ h => h) (by rfl) HS.out (Or.inl ⟨by rfl, ?y7⟩) ?r7
  case y7 => intro w hSw; (try dsimp only at hSw); go_simp; (try with_reducible rfl)
  simp only [List.setIfInBounds_toArray, List.set_cons_zero, List.set_cons_succ]
  refine wpAnyH_look (i := 8) (v := ?v8) 28 rfl (by kernel_rfl) (by kernel_rfl) (by kernel_rfl) (fun _ _ _ _ h => h) (by rfl) HS.out (Or.inl ⟨by rfl, ?y8⟩) ?r8
  case y8 => intro w hSw; (try dsimp only at hSw); go_simp; (try with_reducible rfl)
  simp only [List.setIfInBounds_toArray, List.set_cons_zero, List.set_cons_succ]
  refine wpAnyH_look (i := 10) (v := ?v10) 30 rfl (by kernel_rfl) (by kernel_rfl) (by kernel_rfl) (fun _ _ _ _ h => h) (by rfl) HS.out (Or.inl ⟨by rfl, ?y10⟩) ?r10
  case y10 => intro w hSw; (try dsimp only at hSw); go_simp; (try with_reducible rfl)
  simp only [List.setIfInBounds_toArray, List.set_cons_zero, List.set_cons_succ]
  refine wpAnyH_ready (rs := [9]) (by kernel_rfl) (by simp) ?_
  refine AllReadyH.cons rfl (fun K hK => ?_) AllReadyH.nil
  go_simp
  go_at_call 18
  refine (HP.out _).mono ?_
  rintro en x1 ⟨rfl, hb⟩
  have HI1 := Lib.hid ((HI.out.below (below_drew _)).below hb)
  have HS := Lib.hid HI1.out.seven
  clear hb
  go_simp
  refine hK.out _ _ HS.out (fun _ => ?_)
  clear hK K
  refine wpAnyH_look (i := 11) (v := ?v11) 31 rfl (by kernel_rfl) (by kernel_rfl) (by kernel_rfl) (fun _ _ _ _ h => h) (by rfl) HS.out (Or.inl ⟨by rfl, ?y11⟩) ?r11
  case y11 => intro w hSw; (try dsimp only at hSw); go_simp; (try with_reducible rfl)
  simp only [List.setIfInBounds_toArray, List.set_cons_zero, List.set_cons_succ]
  obtain ⟨z0, z1, z2, z3, z4, z5⟩ := six_free HI1.out.box
  obtain ⟨m0, m1, m2, m3, m4, m5⟩ := six_at HI1.out.box
  have HE := Lib.hid (HI1.out.put (swapE c v.ep))
  refine wpAnyH_ready (rs := [12]) (by kernel_rfl) (by simp) ?_
  refine AllReadyH.cons rfl (fun K hK => ?_) AllReadyH.nil
  go_simp
  have HS := Lib.hid (HE.out.2.2 HNe.out)
  refine hK.out _ _ HS.out (fun _ => ?_)
  clear hK K
  refine ⟨by kernel_rfl, ?_⟩
  go_wp2_with fail
  exact ptodo_end HE.out.1 HE.out.2.1 rfl

set_option maxRecDepth 100000 in
set_option maxHeartbeats 4000000 in
theorem ptodo_set (W : World) {r : Nat} {v : PinD} (h : W.heap[r]? = some (pnrO v)) (hp : v.part = 4) :
    Calls Try.prog 24 #[.pointer (some ⟨r, 0, none⟩)] W (PtodoE (storeE v.cell v.ep) W) := by
  have HI := Lib.hid (show TodoI W r v (W.alloc noO) from ⟨((below_alloc W noO).block r (heap_at_lt h)).trans h, World.alloc_heap_new W noO, below_alloc W noO⟩)
  have HP := Lib.hid (fun X => pin_any v.a v.p v.s v.q v.v v.x v.pn X)
  obtain ⟨c, hc⟩ : ∃ c, v.cell = c := ⟨_, rfl⟩
  have hc' : pinW v.a v.p v.s v.q v.v v.pn = c := hc
  rw [hc'] at HP
  rw [hc]
  obtain ⟨⟨c0, c1, c2, c3, c4, c5⟩, c6, c7, c8, c9, c10⟩ := pnr_at HI.out.own
  rw [hp] at c6
  have HNe := Lib.hid (show W.heap.size ≠ r from by have := heap_at_lt h; omega)
  clear h hp hc hc'
  go_enter Try.func24, Try.ntmps24
  go_wp2_with fail
  clear c0 c1 c2 c3 c4 c5 c6 c7 c8 c9 c10
  have HS := Lib.hid (show Seven r v (W.alloc noO).drew from (HI.out.below (below_drew _)).seven)
  refine wp_region_held_drew (S := fun w' => w'.cell? ⟨r, 0, none⟩ = some (.int .i64 v.a) ∧ w'.cell? ⟨r, 1, none⟩ = some (.int .i64 v.p) ∧ w'.cell? ⟨r, 2, none⟩ = some (.int .i64 v.s) ∧ w'.cell? ⟨r, 3, none⟩ = some (.int .i64 v.q) ∧ w'.cell? ⟨r, 4, none⟩ = some (.int .i64 v.v) ∧ w'.cell? ⟨r, 5, none⟩ = some (.int .u64 v.x) ∧ w'.cell? ⟨r, 8, none⟩ = some (.int .i64 v.pn)) (by kernel_rfl) HS.out (fun _ => ?_)
  refine (fun h => h) ?_
  refine wpAnyH_look (i := 0) (v := ?v0) 34 rfl (by kernel_rfl) (by kernel_rfl) (by kernel_rfl) (fun _ _ _ _ h => h) (by rfl) HS.out (Or.inl ⟨by rfl, ?y0⟩) ?r0
  case y0 => intro w hSw; (try dsimp only at hSw); go_simp; (try with_reducible rfl)
  simp only [List.setIfInBounds_toArray, List.set_cons_zero, List.set_cons_succ]
  refine wpAnyH_look (i := 1) (v := ?v1) 35 rfl (by kernel_rfl) (by kernel_rfl) (by kernel_rfl) (fun _ _ _ _ h => h) (by rfl) HS.out (Or.inl ⟨by rfl, ?y1⟩) ?r1
  case y1 => intro w hSw; (try dsimp only at hSw); go_simp; (try with_reducible rfl)
  simp only [List.setIfInBounds_toArray, List.set_cons_zero, List.set_cons_succ]
  refine wpAnyH_look (i := 2) (v := ?v2) 36 rfl (by kernel_rfl) (by kernel_rfl) (by kernel_rfl) (fun _ _ _ _ h => h) (by rfl) HS.out (Or.inl ⟨by rfl, ?y2⟩) ?r2
  case y2 => intro w hSw; (try dsimp only at hSw); go_simp; (try with_reducible rfl)
  simp only [List.setIfInBounds_toArray, List.set_cons_zero, List.set_cons_succ]
  refine wpAnyH_look (i := 3) (v := ?v3) 37 rfl (by kernel_rfl) (by kernel_rfl) (by kernel_rfl) (fun _ _ _ _ h => h) (by rfl) HS.out (Or.inl ⟨by rfl, ?y3⟩) ?r3
  case y3 => intro w hSw; (try dsimp only at hSw); go_simp; (try with_reducible rfl)
  simp only [List.setIfInBounds_toArray, List.set_cons_zero, List.set_cons_succ]
  refine wpAnyH_look (i := 4) (v := ?v4) 38 rfl (by kernel_rfl) (by kernel_rfl) (by kernel_rfl) (fun _ _ _ _ h => h) (by rfl) HS.out (Or.inl ⟨by rfl, ?y4⟩) ?r4
  case y4 => intro w hSw; (try dsimp only at hSw); go_simp; (try with_reducible rfl)
  simp only [List.setIfInBounds_toArray, List.set_cons_zero, List.set_cons_succ]
  refine wpAnyH_look (i := 5) (v := ?v5) 39 rfl (by kernel_rfl) (by kernel_rfl) (by kernel_rfl) (fun _ _ _ _ h => h) (by rfl) HS.out (Or.inl ⟨by rfl, ?y5⟩) ?r5
  case y5 => intro w hSw; (try dsimp only at hSw); go_simp; (try with_reducible rfl)
  simp only [List.setIfInBounds_toArray, List.set_cons_zero, List.set_cons_succ]
  refine wpAnyH_look (i := 6) (v := ?v6) 40 rfl (by kernel_rfl) (by kernel_rfl) (by kernel_rfl) (fun _ _ _ _ h => h) (by rfl) HS.out (Or.inl ⟨by rfl, ?y6⟩) ?r6
  case y6 => intro w hSw; (try dsimp only at hSw); go_simp; (try with_reducible rfl)
  simp only [List.setIfInBounds_toArray, List.set_cons_zero, List.set_cons_succ]
  refine wpAnyH_look (i := 7) (v := ?v7) 41 rfl (by kernel_rfl) (by kernel_rfl) (by kernel_rfl) (fun _ _ _ _ h => h) (by rfl) HS.out (Or.inl ⟨by rfl, ?y7⟩) ?r7
  case y7 => intro w hSw; (try dsimp only at hSw); go_simp; (try with_reducible rfl)
  simp only [List.setIfInBounds_toArray, List.set_cons_zero, List.set_cons_succ]
  refine wpAnyH_look (i := 8) (v := ?v8) 42 rfl (by kernel_rfl) (by kernel_rfl) (by kernel_rfl) (fun _ _ _ _ h => h) (by rfl) HS.out (Or.inl ⟨by rfl, ?y8⟩) ?r8
  case y8 => intro w hSw; (try dsimp only at hSw); go_simp; (try with_reducible rfl)
  simp only [List.setIfInBounds_toArray, List.set_cons_zero, List.set_cons_succ]
  refine wpAnyH_look (i := 10) (v := ?v10) 44 rfl (by kernel_rfl) (by kernel_rfl) (by kernel_rfl) (fun _ _ _ _ h => h) (by rfl) HS.out (Or.inl ⟨by rfl, ?y10⟩) ?r10
  case y10 => intro w hSw; (try dsimp only at hSw); go_simp; (try with_reducible rfl)
  simp only [List.setIfInBounds_toArray, List.set_cons_zero, List.set_cons_succ]
  refine wpAnyH_ready (rs := [9]) (by kernel_rfl) (by simp) ?_
  refine AllReadyH.cons rfl (fun K hK => ?_) AllReadyH.nil
  go_simp
  go_at_call 18
  refine (HP.out _).mono ?_
  rintro en x1 ⟨rfl, hb⟩
  have HI1 := Lib.hid ((HI.out.below (below_drew _)).below hb)
  have HS := Lib.hid HI1.out.seven
  clear hb
  go_simp
  refine hK.out _ _ HS.out (fun _ => ?_)
  clear hK K
  refine wpAnyH_look (i := 11) (v := ?v11) 45 rfl (by kernel_rfl) (by kernel_rfl) (by kernel_rfl) (fun _ _ _ _ h => h) (by rfl) HS.out (Or.inl ⟨by rfl, ?y11⟩) ?r11
  case y11 => intro w hSw; (try dsimp only at hSw); go_simp; (try with_reducible rfl)
  simp only [List.setIfInBounds_toArray, List.set_cons_zero, List.set_cons_succ]
  obtain ⟨z0, z1, z2, z3, z4, z5⟩ := six_free HI1.out.box
  obtain ⟨m0, m1, m2, m3, m4, m5⟩ := six_at HI1.out.box
  have HE := Lib.hid (HI1.out.put (storeE c v.ep))
  refine wpAnyH_ready (rs := [12]) (by kernel_rfl) (by simp) ?_
  refine AllReadyH.cons rfl (fun K hK => ?_) AllReadyH.nil
  go_simp
  have HS := Lib.hid (HE.out.2.2 HNe.out)
  refine hK.out _ _ HS.out (fun _ => ?_)
  clear hK K
  refine ⟨by kernel_rfl, ?_⟩
  go_wp2_with fail
  exact ptodo_end HE.out.1 HE.out.2.1 rfl

-- END

/-! ### Act -/
def PactE (y : ActD) (q : Bool) (W : World) (e : Ending) (W' : World) : Prop := e = .returned (.tuple #[actOf y, .bool q]) ∧ Below W.heap.size W W'
theorem pact_end {W X : World} {n : Nat} {x : ActD} {is : Bool} {T : Array Value} (h : X.heap[n]? = some noO) (hb : Below W.heap.size W X) (hn : W.heap.size ≤ n) (h2 : T.getD 2 undef = .pointer (some ⟨n, 0, none⟩)) (h3 : T.getD 3 undef = .bool is) :
    bodyPost Try.prog Try.f9 (PactE x is W) .ret { tmps := T, defers := [] }
      (((((((X.setCell ⟨n, 0, none⟩ (.int .i64 x.kind)).setCell ⟨n, 1, none⟩ (.int .u64 (x.block : Int))).setCell ⟨n, 2, none⟩ (.int .i64 x.cell)).setCell ⟨n, 3, none⟩ (.int .u64 x.old)).setCell ⟨n, 4, none⟩ (.int .u64 x.new)).setCell ⟨n, 5, none⟩ (.string x.text)).drew) := by
  have h6 := set6 h (.int .i64 x.kind) (.int .u64 (x.block : Int)) (.int .i64 x.cell) (.int .u64 x.old) (.int .u64 x.new) (.string x.text)
  have hb6 := below_turned (below6 hb hn (.int .i64 x.kind) (.int .u64 (x.block : Int)) (.int .i64 x.cell) (.int .u64 x.old) (.int .u64 x.new) (.string x.text))
  generalize ((((((X.setCell ⟨n, 0, none⟩ (.int .i64 x.kind)).setCell ⟨n, 1, none⟩ (.int .u64 (x.block : Int))).setCell ⟨n, 2, none⟩ (.int .i64 x.cell)).setCell ⟨n, 3, none⟩ (.int .u64 x.old)).setCell ⟨n, 4, none⟩ (.int .u64 x.new)).setCell ⟨n, 5, none⟩ (.string x.text)) = Y at h6 hb6 ⊢
  have h7 : Y.drew.heap[n]? = some (.cells (actCells x) 31 (0, 0)) := h6
  exact bodyPost_ret (v := .tuple #[actOf x, .bool is]) (by rw [results_cell2 (by rfl), h2, h3]; simp only [asAddr, Sem.run_pure, Result.andThen_ok, load_act h7]) rfl ⟨rfl, hb6⟩
theorem ptodo_any (W : World) {r : Nat} {v : PinD} (h : W.heap[r]? = some (pnrO v)) (hv : v.part ≤ 5) :
    Calls Try.prog 24 #[.pointer (some ⟨r, 0, none⟩)] W (PtodoE ((nextP v).getD noAct) W) := by
  have h6 : v.part = 0 ∨ v.part = 1 ∨ v.part = 2 ∨ v.part = 3 ∨ v.part = 4 ∨ v.part = 5 := by omega
  unfold nextP
  rcases h6 with e | e | e | e | e | e
  · have := ptodo_none W h (.inl e); rw [e]; exact this
  · have := ptodo_look W h (.inl e); rw [e]; exact this
  · have := ptodo_try W h e; rw [e]; exact this
  · have := ptodo_look W h (.inr e); rw [e]; exact this
  · have := ptodo_set W h e; rw [e]; exact this
  · have := ptodo_none W h (.inr e); rw [e]; exact this
theorem pact_mid {W w1 : World} (HN : (W.alloc noO).heap[W.heap.size]? = some noO) (hb : Below (W.alloc noO).heap.size (W.alloc noO) w1) :
    w1.heap[W.heap.size]? = some noO ∧ Below W.heap.size W w1 :=
  ⟨(hb.block _ (heap_at_lt HN)).trans HN, (below_alloc W noO).trans (hb.mono (below_alloc W noO).size)⟩

set_option maxRecDepth 100000 in
set_option maxHeartbeats 4000000 in
theorem pact_any (W : World) {r : Nat} {v : PinD} (h : W.heap[r]? = some (pnrO v)) (hv : v.part ≤ 5) :
    Calls Try.prog 9 #[.pointer (some ⟨r, 0, none⟩)] W (PactE ((nextP v).getD noAct) (nextP v).isSome W) := by
  have HB := Lib.hid (below_alloc W noO)
  have HN := Lib.hid (World.alloc_heap_new W noO)
  have HT := Lib.hid (fun X (hX : Below W.heap.size W X) => ptodo_any X ((hX.block r (heap_at_lt h)).trans h) hv)
  obtain ⟨o, ho⟩ : ∃ o, nextP v = o := ⟨_, rfl⟩
  have hk : ∀ x, o = some x → x.kind = 1 ∨ x.kind = 2 ∨ x.kind = 3 := fun x hx => (nextP_fits (ho.trans hx)).2
  rw [ho] at HT ⊢
  obtain ⟨y, hy⟩ : ∃ y, o.getD noAct = y := ⟨_, rfl⟩
  obtain ⟨q, hq⟩ : ∃ q, o.isSome = q := ⟨_, rfl⟩
  have hrun : ∀ w : World, (binOp .neq 31 (actV y.kind y.block y.cell y.old y.new y.text) (actV 0 0 0 0 0 ⟨#[]⟩)).run Try.prog w = .ok (.bool q) w := fun w => by
    rw [neqA_run, ← hq, ← hy]
    cases o with
    | none => simp [noAct]
    | some x =>
      have : (x.kind == 0) = false := by rcases hk x rfl with e | e | e <;> rw [e] <;> rfl
      simp [this]
  have HY := Lib.hid hy
  rw [hy, hq]
  clear h hv hk hq ho hy
  go_enter Try.func9, Try.ntmps9
  go_wp2_with fail
  refine (HT.out _ HB.out).mono ?_
  rintro en w1 ⟨rfl, hb⟩
  rw [HY.out]
  obtain ⟨h1, hb1⟩ := pact_mid HN.out hb
  have hne := heap_at_lt h1
  have HB1 := Lib.hid (hb1.trans ((below_alloc w1 (actO y)).mono hb1.size))
  have H1 := Lib.hid (((below_alloc w1 (actO y)).block _ hne).trans h1)
  have HA1 := Lib.hid (World.alloc_heap_new w1 (actO y))
  obtain ⟨n1, hn1⟩ : ∃ n, w1.heap.size = n := ⟨_, rfl⟩
  go_wp2_with fail
  rw [hn1] at HA1 hne
  generalize w1.alloc (actO y) = w2 at HB1 H1 HA1 ⊢
  have hne' : W.heap.size ≠ n1 := by omega
  obtain ⟨z0, z1, z2, z3, z4, z5⟩ := six_free H1.out
  obtain ⟨m0, m1, m2, m3, m4, m5⟩ := six_at H1.out
  obtain ⟨a0, a1, a2, a3, a4, a5⟩ := six_at HA1.out
  clear hb h1 hb1 hne hn1
  go_region
  all_goals
    go_wp2_with fail
    exact pact_end H1.out HB1.out (Nat.le_refl _) rfl rfl
set_option maxRecDepth 100000 in
set_option maxHeartbeats 800000 in
/-- No routine. -/
theorem pact_nil (W : World) : Calls Try.prog 9 #[.pointer none] W (PactE noAct false W) := by
  have HB := Lib.hid (below_alloc W noO)
  have HN := Lib.hid (World.alloc_heap_new W noO)
  obtain ⟨z0, z1, z2, z3, z4, z5⟩ := six_free HN.out
  obtain ⟨m0, m1, m2, m3, m4, m5⟩ := six_at HN.out
  go_enter Try.func9, Try.ntmps9
  go_wp2_with fail
  refine bodyPost_ret (v := .tuple #[actOf noAct, .bool false]) (by rw [results_cell2 (by rfl)]; go_simp; exact ⟨rfl, rfl, rfl, rfl, rfl, rfl⟩) rfl ⟨rfl, ?_⟩
  exact HB.out

end Go.Proofs.Ytgigjbngocfkbaa
