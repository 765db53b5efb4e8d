/-
  Drawn2, Pnt, Pnr2, in one text.
-/
import Derived.StillTail
import Derived.OrdersHeld
import Derived.Deep.RegionHeld3
import Derived.BigQuiet
import Derived.Test.YtpnfbabiibopnaaGreatQ01
import Derived.Test.YtpnfbabiibopnaaGreatQ09
import Derived.WalkMore
import Derived.StillTailTactics
import Derived.Deep.QuietTactic
/-! A region that draws its order: a look is taken by its number; nothing of one program. -/
namespace Go.Proofs.YtpnfbabiibopnaaGreat
open Go Go.RowKit

/-! ### a region that draws its order: looks under a condition, and the quiet rest -/
section
variable {P : Program} {ops : Array Oper} {Q : Exit → Act → World → Prop} {md : Region.Mode} {S : World → Prop}
theorem wpAnyH_look {i : Nat} {oi : Oper} {v : Value} {fuel : Nat} {listed : Array Bool} {a : Act} {w : World} (d : Nat) (hi : ops[i]? = some oi)
    (hs : Region.noSelect ops = true) (hf : Region.free md ops listed i = true) (hr : (Region.ready md ops listed).contains i = true)
    (hQ : ∀ c a w v, Q (.panic c) (Act.put a oi.dst v) w → Q (.panic c) a w) (hd : oi.dst = some d) (hS : S w) (hy : YieldsIf P ops S oi v a)
    (h : wpAnyH P md ops Q S fuel (listed.setIfInBounds i true) { a with tmps := a.tmps.setIfInBounds d v } w) : wpAnyH P md ops Q S (fuel + 1) listed a w := by
  refine wpAnyH_take hi hs hf hr (fun c a w => hQ c a w v) hy hS ?_
  rw [hd]
  exact h
theorem wpAnyH_of_quiet {C : World → Prop} {Q1 : Act → Prop} (hC : ∀ w, C w → S w) (hQ : ∀ a w, C w → Q1 a → Q .normal a w) : ∀ (fuel : Nat) (listed : Array Bool) (a : Act) (w : World), C w →
    wpAnyQ P md ops C Q1 fuel listed a → wpAnyH P md ops Q S fuel listed a w
  | 0, _, _, _, hw, h => ⟨h.1, hQ _ _ hw h.2⟩
  | fuel + 1, _, _, _, hw, h => ⟨fun h0 => hQ _ _ hw (h.1 h0), fun i hi => wpOp_of_qOp hw (fun a' w' hw' hk => ⟨hC w' hw', wpAnyH_of_quiet hC hQ fuel _ a' w' hw' hk⟩) (h.2 i hi)⟩
theorem wpAnyH_lex_from {a : Act} {w : World} {listed : Array Bool} {fuel : Nat} (k : Nat) (l : List Oper) (hS : ∀ n, S (w.drewN n)) (hl : ops.toList.drop k = l) (hf : l.length = fuel)
    (hs : Region.noSelect ops = true) (hB : Region.lexFrom md ops fuel k listed = true)
    (h : wpQuiet P ops (fun w' => ∃ n, w' = w.drewN n) (fun a' => ∀ w', (∃ n, w' = w.drewN n) → Q .normal a' w') l a) : wpAnyH P md ops Q S fuel listed a w := by
  subst hf
  refine wpAnyH_of_quiet (C := fun w' => ∃ n, w' = w.drewN n) (Q1 := fun a' => ∀ w', (∃ n, w' = w.drewN n) → Q .normal a' w') (fun w' ⟨n, e⟩ => e ▸ hS n) (fun _ w' hw' h => h w' hw') _ _ _ _ ⟨0, rfl⟩ ?_
  refine wpAnyQ_lex hs l k listed a (fun j => ?_) hB h
  subst hl
  rw [List.getElem?_drop, Array.getElem?_toList]
end
end Go.Proofs.YtpnfbabiibopnaaGreat

/-! pin's routine: todo and Act. -/
namespace Go.Proofs.YtpnfbabiibopnaaGreat
open Go Go.RowKit
attribute [local go_sem ↓] Go.wp_at_zero Go.wp_at_succ

/-! ### todo -/
def PtodoE (y : ActD) (W : World) (e : Ending) (W' : World) : Prop := e = .returned (actOf y) ∧ Below W.heap.size W W'
theorem ptodo_end {W X : World} {n : Nat} {x : ActD} {T : Array Value} (h : X.heap[n]? = some (.cells (actCells x) 31 (0, 0))) (hb : Below W.heap.size W X) (h2 : T.getD 2 undef = .pointer (some ⟨n, 0, none⟩)) :
    bodyPost Tryz.prog Tryz.f54 (PtodoE x W) .ret { tmps := T, defers := [] } X :=
  bodyPost_ret (v := actOf x) (by rw [results_cell1 (by rfl), h2]; simp only [asAddr, Sem.run_pure, Result.andThen_ok, load_act h]) rfl ⟨rfl, hb⟩
/-- The routine, and the box of the act that is told. -/
structure TodoI (W : World) (r : Nat) (v : PinD) (X : World) : Prop where
  own : X.heap[r]? = some (pnrO v)
  box : X.heap[W.heap.size]? = some noO
  lo : Below W.heap.size W X
theorem TodoI.below {W X Y : World} {r : Nat} {v : PinD} (h : TodoI W r v X) (hb : Below X.heap.size X Y) : TodoI W r v Y :=
  ⟨(hb.block _ (heap_at_lt h.own)).trans h.own, (hb.block _ (heap_at_lt h.box)).trans h.box, h.lo.trans (hb.mono h.lo.size)⟩
/-- What the region that tells an act at a pin reads. -/
def Seven (r : Nat) (v : PinD) (X : World) : Prop := X.cell? ⟨r, 0, none⟩ = some (.int .i64 v.a) ∧ X.cell? ⟨r, 1, none⟩ = some (.int .i64 v.p) ∧ X.cell? ⟨r, 2, none⟩ = some (.int .i64 v.s) ∧ X.cell? ⟨r, 3, none⟩ = some (.int .i64 v.q) ∧ X.cell? ⟨r, 4, none⟩ = some (.int .i64 v.v) ∧ X.cell? ⟨r, 5, none⟩ = some (.int .u64 v.x) ∧ X.cell? ⟨r, 8, none⟩ = some (.int .i64 v.pn)
theorem TodoI.seven {W X : World} {r : Nat} {v : PinD} (h : TodoI W r v X) : Seven r v X := by
  obtain ⟨⟨c0, c1, c2, c3, c4, c5⟩, -, -, c8, -, -⟩ := pnr_at h.own
  exact ⟨c0, c1, c2, c3, c4, c5, c8⟩

set_option maxRecDepth 100000 in
set_option maxHeartbeats 4000000 in
theorem ptodo_look (W : World) {r : Nat} {v : PinD} (h : W.heap[r]? = some (pnrO v)) (hp : v.part = 1 ∨ v.part = 3) :
    Calls Tryz.prog 54 #[.pointer (some ⟨r, 0, none⟩)] W (PtodoE loadE W) := by
  have HI := Lib.hid (show TodoI W r v (W.alloc noO) from ⟨((below_alloc W noO).block r (heap_at_lt h)).trans h, World.alloc_heap_new W noO, below_alloc W noO⟩)
  obtain ⟨⟨c0, c1, c2, c3, c4, c5⟩, c6, c7, c8, c9, c10⟩ := pnr_at HI.out.own
  obtain ⟨z0, z1, z2, z3, z4, z5⟩ := six_free HI.out.box
  obtain ⟨m0, m1, m2, m3, m4, m5⟩ := six_at HI.out.box
  clear h
  rcases hp with hp | hp
  all_goals
    rw [hp] at c6
    clear hp
    go_enter Tryz.func54, Tryz.ntmps54
    go_wp2_with fail
    refine bodyPost_ret (v := actOf loadE) (by rw [results_cell1 (by rfl)]; go_simp; exact ⟨rfl, rfl, rfl, rfl, rfl, rfl⟩) rfl ⟨rfl, ?_⟩
    exact below_alloc _ _

set_option maxRecDepth 100000 in
set_option maxHeartbeats 4000000 in
theorem ptodo_none (W : World) {r : Nat} {v : PinD} (h : W.heap[r]? = some (pnrO v)) (hp : v.part = 0 ∨ v.part = 5) :
    Calls Tryz.prog 54 #[.pointer (some ⟨r, 0, none⟩)] W (PtodoE noAct W) := by
  have HI := Lib.hid (show TodoI W r v (W.alloc noO) from ⟨((below_alloc W noO).block r (heap_at_lt h)).trans h, World.alloc_heap_new W noO, below_alloc W noO⟩)
  obtain ⟨⟨c0, c1, c2, c3, c4, c5⟩, c6, c7, c8, c9, c10⟩ := pnr_at HI.out.own
  obtain ⟨z0, z1, z2, z3, z4, z5⟩ := six_free HI.out.box
  obtain ⟨m0, m1, m2, m3, m4, m5⟩ := six_at HI.out.box
  clear h
  rcases hp with hp | hp
  all_goals
    rw [hp] at c6
    clear hp
    go_enter Tryz.func54, Tryz.ntmps54
    go_wp2_with fail
    refine bodyPost_ret (v := actOf noAct) (by rw [results_cell1 (by rfl)]; go_simp; exact ⟨rfl, rfl, rfl, rfl, rfl, rfl⟩) rfl ⟨rfl, ?_⟩
    exact below_alloc _ _

/-- The act is told. -/
theorem TodoI.put {W X : World} {r : Nat} {v : PinD} (h : TodoI W r v X) (x : ActD) :
    ((((((X.setCell ⟨W.heap.size, 0, none⟩ (.int .i64 x.kind)).setCell ⟨W.heap.size, 1, none⟩ (.int .u64 (x.block : Int))).setCell ⟨W.heap.size, 2, none⟩ (.int .i64 x.cell)).setCell ⟨W.heap.size, 3, none⟩ (.int .u64 x.old)).setCell ⟨W.heap.size, 4, none⟩ (.int .u64 x.new)).setCell ⟨W.heap.size, 5, none⟩ (.string x.text)).heap[W.heap.size]? = some (.cells (actCells x) 31 (0, 0)) ∧
    Below W.heap.size W ((((((X.setCell ⟨W.heap.size, 0, none⟩ (.int .i64 x.kind)).setCell ⟨W.heap.size, 1, none⟩ (.int .u64 (x.block : Int))).setCell ⟨W.heap.size, 2, none⟩ (.int .i64 x.cell)).setCell ⟨W.heap.size, 3, none⟩ (.int .u64 x.old)).setCell ⟨W.heap.size, 4, none⟩ (.int .u64 x.new)).setCell ⟨W.heap.size, 5, none⟩ (.string x.text)) ∧
    (W.heap.size ≠ r → Seven r v ((((((X.setCell ⟨W.heap.size, 0, none⟩ (.int .i64 x.kind)).setCell ⟨W.heap.size, 1, none⟩ (.int .u64 (x.block : Int))).setCell ⟨W.heap.size, 2, none⟩ (.int .i64 x.cell)).setCell ⟨W.heap.size, 3, none⟩ (.int .u64 x.old)).setCell ⟨W.heap.size, 4, none⟩ (.int .u64 x.new)).setCell ⟨W.heap.size, 5, none⟩ (.string x.text))) := by
  refine ⟨set6 h.box _ _ _ _ _ _, below6 h.lo (Nat.le_refl _) _ _ _ _ _ _, fun hne => ?_⟩
  have hc : ∀ i, ((((((X.setCell ⟨W.heap.size, 0, none⟩ (.int .i64 x.kind)).setCell ⟨W.heap.size, 1, none⟩ (.int .u64 (x.block : Int))).setCell ⟨W.heap.size, 2, none⟩ (.int .i64 x.cell)).setCell ⟨W.heap.size, 3, none⟩ (.int .u64 x.old)).setCell ⟨W.heap.size, 4, none⟩ (.int .u64 x.new)).setCell ⟨W.heap.size, 5, none⟩ (.string x.text)).cell? ⟨r, i, none⟩ = X.cell? ⟨r, i, none⟩ := fun i => World.cell?_of_block (a := ⟨r, i, none⟩) (by
    have hk : r ≠ W.heap.size := Ne.symm hne
    rw [Below.heap_setCell _ _ _ _ hk, Below.heap_setCell _ _ _ _ hk, Below.heap_setCell _ _ _ _ hk, Below.heap_setCell _ _ _ _ hk, Below.heap_setCell _ _ _ _ hk, Below.heap_setCell _ _ _ _ hk])
  obtain ⟨h0, h1, h2, h3, h4, h5, h8⟩ := h.seven
  exact ⟨(hc _).trans h0, (hc _).trans h1, (hc _).trans h2, (hc _).trans h3, (hc _).trans h4, (hc _).trans h5, (hc _).trans h8⟩

-- BEGIN
set_option maxRecDepth 100000 in
set_option maxHeartbeats 4000000 in
theorem ptodo_try (W : World) {r : Nat} {v : PinD} (h : W.heap[r]? = some (pnrO v)) (hp : v.part = 2) :
    Calls Tryz.prog 54 #[.pointer (some ⟨r, 0, none⟩)] W (PtodoE (swapE v.cell v.ep) W) := by
  have HI := Lib.hid (show TodoI W r v (W.alloc noO) from ⟨((below_alloc W noO).block r (heap_at_lt h)).trans h, World.alloc_heap_new W noO, below_alloc W noO⟩)
  have HP := Lib.hid (fun X => pin_any v.a v.p v.s v.q v.v v.x v.pn X)
  obtain ⟨c, hc⟩ : ∃ c, v.cell = c := ⟨_, rfl⟩
  have hc' : pinW v.a v.p v.s v.q v.v v.pn = c := hc
  rw [hc'] at HP
  rw [hc]
  obtain ⟨⟨c0, c1, c2, c3, c4, c5⟩, c6, c7, c8, c9, c10⟩ := pnr_at HI.out.own
  rw [hp] at c6
  have HNe := Lib.hid (show W.heap.size ≠ r from by have := heap_at_lt h; omega)
  clear h hp hc hc'
  go_enter Tryz.func54, Tryz.ntmps54
  go_wp2_with fail
  clear c0 c1 c2 c3 c4 c5 c6 c7 c8 c9 c10
  have HS := Lib.hid (show Seven r v (W.alloc noO).drew from (HI.out.below (below_drew _)).seven)
  refine wp_region_held_drew (S := fun w' => w'.cell? ⟨r, 0, none⟩ = some (.int .i64 v.a) ∧ w'.cell? ⟨r, 1, none⟩ = some (.int .i64 v.p) ∧ w'.cell? ⟨r, 2, none⟩ = some (.int .i64 v.s) ∧ w'.cell? ⟨r, 3, none⟩ = some (.int .i64 v.q) ∧ w'.cell? ⟨r, 4, none⟩ = some (.int .i64 v.v) ∧ w'.cell? ⟨r, 5, none⟩ = some (.int .u64 v.x) ∧ w'.cell? ⟨r, 8, none⟩ = some (.int .i64 v.pn)) (by kernel_rfl) HS.out (fun _ => ?_)
  refine (fun h => h) ?_
  refine wpAnyH_look (i := 0) (v := ?v0) 20 rfl (by kernel_rfl) (by kernel_rfl) (by kernel_rfl) (fun _ _ _ _ h => h) (by rfl) HS.out (Or.inl ⟨by rfl, ?y0⟩) ?r0
  case y0 => intro w hSw; (try dsimp only at hSw); go_simp; (try with_reducible rfl)
  simp only [List.setIfInBounds_toArray, List.set_cons_zero, List.set_cons_succ]
  refine wpAnyH_look (i := 1) (v := ?v1) 21 rfl (by kernel_rfl) (by kernel_rfl) (by kernel_rfl) (fun _ _ _ _ h => h) (by rfl) HS.out (Or.inl ⟨by rfl, ?y1⟩) ?r1
  case y1 => intro w hSw; (try dsimp only at hSw); go_simp; (try with_reducible rfl)
  simp only [List.setIfInBounds_toArray, List.set_cons_zero, List.set_cons_succ]
  refine wpAnyH_look (i := 2) (v := ?v2) 22 rfl (by kernel_rfl) (by kernel_rfl) (by kernel_rfl) (fun _ _ _ _ h => h) (by rfl) HS.out (Or.inl ⟨by rfl, ?y2⟩) ?r2
  case y2 => intro w hSw; (try dsimp only at hSw); go_simp; (try with_reducible rfl)
  simp only [List.setIfInBounds_toArray, List.set_cons_zero, List.set_cons_succ]
  refine wpAnyH_look (i := 3) (v := ?v3) 23 rfl (by kernel_rfl) (by kernel_rfl) (by kernel_rfl) (fun _ _ _ _ h => h) (by rfl) HS.out (Or.inl ⟨by rfl, ?y3⟩) ?r3
  case y3 => intro w hSw; (try dsimp only at hSw); go_simp; (try with_reducible rfl)
  simp only [List.setIfInBounds_toArray, List.set_cons_zero, List.set_cons_succ]
  refine wpAnyH_look (i := 4) (v := ?v4) 24 rfl (by kernel_rfl) (by kernel_rfl) (by kernel_rfl) (fun _ _ _ _ h => h) (by rfl) HS.out (Or.inl ⟨by rfl, ?y4⟩) ?r4
  case y4 => intro w hSw; (try dsimp only at hSw); go_simp; (try with_reducible rfl)
  simp only [List.setIfInBounds_toArray, List.set_cons_zero, List.set_cons_succ]
  refine wpAnyH_look (i := 5) (v := ?v5) 25 rfl (by kernel_rfl) (by kernel_rfl) (by kernel_rfl) (fun _ _ _ _ h => h) (by rfl) HS.out (Or.inl ⟨by rfl, ?y5⟩) ?r5
  case y5 => intro w hSw; (try dsimp only at hSw); go_simp; (try with_reducible rfl)
  simp only [List.setIfInBounds_toArray, List.set_cons_zero, List.set_cons_succ]
  refine wpAnyH_look (i := 6) (v := ?v6) 26 rfl (by kernel_rfl) (by kernel_rfl) (by kernel_rfl) (fun _ _ _ _ h => h) (by rfl) HS.out (Or.inl ⟨by rfl, ?y6⟩) ?r6
  case y6 => intro w hSw; (try dsimp only at hSw); go_simp; (try with_reducible rfl)
  simp only [List.setIfInBounds_toArray, List.set_cons_zero, List.set_cons_succ]
  refine wpAnyH_look (i := 7) (v := ?v7) 27 rfl (by kernel_rfl) (by kernel_rfl) (by kernel_rfl) (fun _ _ _ _ h => h) (by rfl) HS.out (Or.inl ⟨by rfl, ?y7⟩) ?r7
  case y7 => intro w hSw; (try dsimp only at hSw); go_simp; (try with_reducible rfl)
  simp only [List.setIfInBounds_toArray, List.set_cons_zero, List.set_cons_succ]
  refine wpAnyH_look (i := 8) (v := ?v8) 28 rfl (by kernel_rfl) (by kernel_rfl) (by kernel_rfl) (fun _ _ _ _ h => h) (by rfl) HS.out (Or.inl ⟨by rfl, ?y8⟩) ?r8
  case y8 => intro w hSw; (try dsimp only at hSw); go_simp; (try with_reducible rfl)
  simp only [List.setIfInBounds_toArray, List.set_cons_zero, List.set_cons_succ]
  refine wpAnyH_look (i := 10) (v := ?v10) 30 rfl (by kernel_rfl) (by kernel_rfl) (by kernel_rfl) (fun _ _ _ _ h => h) (by rfl) HS.out (Or.inl ⟨by rfl, ?y10⟩) ?r10
  case y10 => intro w hSw; (try dsimp only at hSw); go_simp; (try with_reducible rfl)
  simp only [List.setIfInBounds_toArray, List.set_cons_zero, List.set_cons_succ]
  refine wpAnyH_ready (rs := [9]) (by kernel_rfl) (by simp) ?_
  refine AllReadyH.cons rfl (fun K hK => ?_) AllReadyH.nil
  go_simp
  go_at_call 56
  refine (HP.out _).mono ?_
  rintro en x1 ⟨rfl, hb⟩
  have HI1 := Lib.hid ((HI.out.below (below_drew _)).below hb)
  have HS := Lib.hid HI1.out.seven
  clear hb
  go_simp
  refine hK.out _ _ HS.out (fun _ => ?_)
  clear hK K
  refine wpAnyH_look (i := 11) (v := ?v11) 31 rfl (by kernel_rfl) (by kernel_rfl) (by kernel_rfl) (fun _ _ _ _ h => h) (by rfl) HS.out (Or.inl ⟨by rfl, ?y11⟩) ?r11
  case y11 => intro w hSw; (try dsimp only at hSw); go_simp; (try with_reducible rfl)
  simp only [List.setIfInBounds_toArray, List.set_cons_zero, List.set_cons_succ]
  obtain ⟨z0, z1, z2, z3, z4, z5⟩ := six_free HI1.out.box
  obtain ⟨m0, m1, m2, m3, m4, m5⟩ := six_at HI1.out.box
  have HE := Lib.hid (HI1.out.put (swapE c v.ep))
  refine wpAnyH_ready (rs := [12]) (by kernel_rfl) (by simp) ?_
  refine AllReadyH.cons rfl (fun K hK => ?_) AllReadyH.nil
  go_simp
  have HS := Lib.hid (HE.out.2.2 HNe.out)
  refine hK.out _ _ HS.out (fun _ => ?_)
  clear hK K
  refine ⟨by kernel_rfl, ?_⟩
  go_wp2_with fail
  exact ptodo_end HE.out.1 HE.out.2.1 rfl

set_option maxRecDepth 100000 in
set_option maxHeartbeats 4000000 in
theorem ptodo_set (W : World) {r : Nat} {v : PinD} (h : W.heap[r]? = some (pnrO v)) (hp : v.part = 4) :
    Calls Tryz.prog 54 #[.pointer (some ⟨r, 0, none⟩)] W (PtodoE (storeE v.cell v.ep) W) := by
  have HI := Lib.hid (show TodoI W r v (W.alloc noO) from ⟨((below_alloc W noO).block r (heap_at_lt h)).trans h, World.alloc_heap_new W noO, below_alloc W noO⟩)
  have HP := Lib.hid (fun X => pin_any v.a v.p v.s v.q v.v v.x v.pn X)
  obtain ⟨c, hc⟩ : ∃ c, v.cell = c := ⟨_, rfl⟩
  have hc' : pinW v.a v.p v.s v.q v.v v.pn = c := hc
  rw [hc'] at HP
  rw [hc]
  obtain ⟨⟨c0, c1, c2, c3, c4, c5⟩, c6, c7, c8, c9, c10⟩ := pnr_at HI.out.own
  rw [hp] at c6
  have HNe := Lib.hid (show W.heap.size ≠ r from by have := heap_at_lt h; omega)
  clear h hp hc hc'
  go_enter Tryz.func54, Tryz.ntmps54
  go_wp2_with fail
  clear c0 c1 c2 c3 c4 c5 c6 c7 c8 c9 c10
  have HS := Lib.hid (show Seven r v (W.alloc noO).drew from (HI.out.below (below_drew _)).seven)
  refine wp_region_held_drew (S := fun w' => w'.cell? ⟨r, 0, none⟩ = some (.int .i64 v.a) ∧ w'.cell? ⟨r, 1, none⟩ = some (.int .i64 v.p) ∧ w'.cell? ⟨r, 2, none⟩ = some (.int .i64 v.s) ∧ w'.cell? ⟨r, 3, none⟩ = some (.int .i64 v.q) ∧ w'.cell? ⟨r, 4, none⟩ = some (.int .i64 v.v) ∧ w'.cell? ⟨r, 5, none⟩ = some (.int .u64 v.x) ∧ w'.cell? ⟨r, 8, none⟩ = some (.int .i64 v.pn)) (by kernel_rfl) HS.out (fun _ => ?_)
  refine (fun h => h) ?_
  refine wpAnyH_look (i := 0) (v := ?v0) 34 rfl (by kernel_rfl) (by kernel_rfl) (by kernel_rfl) (fun _ _ _ _ h => h) (by rfl) HS.out (Or.inl ⟨by rfl, ?y0⟩) ?r0
  case y0 => intro w hSw; (try dsimp only at hSw); go_simp; (try with_reducible rfl)
  simp only [List.setIfInBounds_toArray, List.set_cons_zero, List.set_cons_succ]
  refine wpAnyH_look (i := 1) (v := ?v1) 35 rfl (by kernel_rfl) (by kernel_rfl) (by kernel_rfl) (fun _ _ _ _ h => h) (by rfl) HS.out (Or.inl ⟨by rfl, ?y1⟩) ?r1
  case y1 => intro w hSw; (try dsimp only at hSw); go_simp; (try with_reducible rfl)
  simp only [List.setIfInBounds_toArray, List.set_cons_zero, List.set_cons_succ]
  refine wpAnyH_look (i := 2) (v := ?v2) 36 rfl (by kernel_rfl) (by kernel_rfl) (by kernel_rfl) (fun _ _ _ _ h => h) (by rfl) HS.out (Or.inl ⟨by rfl, ?y2⟩) ?r2
  case y2 => intro w hSw; (try dsimp only at hSw); go_simp; (try with_reducible rfl)
  simp only [List.setIfInBounds_toArray, List.set_cons_zero, List.set_cons_succ]
  refine wpAnyH_look (i := 3) (v := ?v3) 37 rfl (by kernel_rfl) (by kernel_rfl) (by kernel_rfl) (fun _ _ _ _ h => h) (by rfl) HS.out (Or.inl ⟨by rfl, ?y3⟩) ?r3
  case y3 => intro w hSw; (try dsimp only at hSw); go_simp; (try with_reducible rfl)
  simp only [List.setIfInBounds_toArray, List.set_cons_zero, List.set_cons_succ]
  refine wpAnyH_look (i := 4) (v := ?v4) 38 rfl (by kernel_rfl) (by kernel_rfl) (by kernel_rfl) (fun _ _ _ _ h => h) (by rfl) HS.out (Or.inl ⟨by rfl, ?y4⟩) ?r4
  case y4 => intro w hSw; (try dsimp only at hSw); go_simp; (try with_reducible rfl)
  simp only [List.setIfInBounds_toArray, List.set_cons_zero, List.set_cons_succ]
  refine wpAnyH_look (i := 5) (v := ?v5) 39 rfl (by kernel_rfl) (by kernel_rfl) (by kernel_rfl) (fun _ _ _ _ h => h) (by rfl) HS.out (Or.inl ⟨by rfl, ?y5⟩) ?r5
  case y5 => intro w hSw; (try dsimp only at hSw); go_simp; (try with_reducible rfl)
  simp only [List.setIfInBounds_toArray, List.set_cons_zero, List.set_cons_succ]
  refine wpAnyH_look (i := 6) (v := ?v6) 40 rfl (by kernel_rfl) (by kernel_rfl) (by kernel_rfl) (fun _ _ _ _ h => h) (by rfl) HS.out (Or.inl ⟨by rfl, ?y6⟩) ?r6
  case y6 => intro w hSw; (try dsimp only at hSw); go_simp; (try with_reducible rfl)
  simp only [List.setIfInBounds_toArray, List.set_cons_zero, List.set_cons_succ]
  refine wpAnyH_look (i := 7) (v := ?v7) 41 rfl (by kernel_rfl) (by kernel_rfl) (by kernel_rfl) (fun _ _ _ _ h => h) (by rfl) HS.out (Or.inl ⟨by rfl, ?y7⟩) ?r7
  case y7 => intro w hSw; (try dsimp only at hSw); go_simp; (try with_reducible rfl)
  simp only [List.setIfInBounds_toArray, List.set_cons_zero, List.set_cons_succ]
  refine wpAnyH_look (i := 8) (v := ?v8) 42 rfl (by kernel_rfl) (by kernel_rfl) (by kernel_rfl) (fun _ _ _ _ h => h) (by rfl) HS.out (Or.inl ⟨by rfl, ?y8⟩) ?r8
  case y8 => intro w hSw; (try dsimp only at hSw); go_simp; (try with_reducible rfl)
  simp only [List.setIfInBounds_toArray, List.set_cons_zero, List.set_cons_succ]
  refine wpAnyH_look (i := 10) (v := ?v10) 44 rfl (by kernel_rfl) (by kernel_rfl) (by kernel_rfl) (fun _ _ _ _ h => h) (by rfl) HS.out (Or.inl ⟨by rfl, ?y10⟩) ?r10
  case y10 => intro w hSw; (try dsimp only at hSw); go_simp; (try with_reducible rfl)
  simp only [List.setIfInBounds_toArray, List.set_cons_zero, List.set_cons_succ]
  refine wpAnyH_ready (rs := [9]) (by kernel_rfl) (by simp) ?_
  refine AllReadyH.cons rfl (fun K hK => ?_) AllReadyH.nil
  go_simp
  go_at_call 56
  refine (HP.out _).mono ?_
  rintro en x1 ⟨rfl, hb⟩
  have HI1 := Lib.hid ((HI.out.below (below_drew _)).below hb)
  have HS := Lib.hid HI1.out.seven
  clear hb
  go_simp
  refine hK.out _ _ HS.out (fun _ => ?_)
  clear hK K
  refine wpAnyH_look (i := 11) (v := ?v11) 45 rfl (by kernel_rfl) (by kernel_rfl) (by kernel_rfl) (fun _ _ _ _ h => h) (by rfl) HS.out (Or.inl ⟨by rfl, ?y11⟩) ?r11
  case y11 => intro w hSw; (try dsimp only at hSw); go_simp; (try with_reducible rfl)
  simp only [List.setIfInBounds_toArray, List.set_cons_zero, List.set_cons_succ]
  obtain ⟨z0, z1, z2, z3, z4, z5⟩ := six_free HI1.out.box
  obtain ⟨m0, m1, m2, m3, m4, m5⟩ := six_at HI1.out.box
  have HE := Lib.hid (HI1.out.put (storeE c v.ep))
  refine wpAnyH_ready (rs := [12]) (by kernel_rfl) (by simp) ?_
  refine AllReadyH.cons rfl (fun K hK => ?_) AllReadyH.nil
  go_simp
  have HS := Lib.hid (HE.out.2.2 HNe.out)
  refine hK.out _ _ HS.out (fun _ => ?_)
  clear hK K
  refine ⟨by kernel_rfl, ?_⟩
  go_wp2_with fail
  exact ptodo_end HE.out.1 HE.out.2.1 rfl

-- END

/-! ### Act -/
def PactE (y : ActD) (q : Bool) (W : World) (e : Ending) (W' : World) : Prop := e = .returned (.tuple #[actOf y, .bool q]) ∧ Below W.heap.size W W'
theorem pact_end {W X : World} {n : Nat} {x : ActD} {is : Bool} {T : Array Value} (h : X.heap[n]? = some noO) (hb : Below W.heap.size W X) (hn : W.heap.size ≤ n) (h2 : T.getD 2 undef = .pointer (some ⟨n, 0, none⟩)) (h3 : T.getD 3 undef = .bool is) :
    bodyPost Tryz.prog Tryz.f21 (PactE x is W) .ret { tmps := T, defers := [] }
      (((((((X.setCell ⟨n, 0, none⟩ (.int .i64 x.kind)).setCell ⟨n, 1, none⟩ (.int .u64 (x.block : Int))).setCell ⟨n, 2, none⟩ (.int .i64 x.cell)).setCell ⟨n, 3, none⟩ (.int .u64 x.old)).setCell ⟨n, 4, none⟩ (.int .u64 x.new)).setCell ⟨n, 5, none⟩ (.string x.text)).drew) := by
  have h6 := set6 h (.int .i64 x.kind) (.int .u64 (x.block : Int)) (.int .i64 x.cell) (.int .u64 x.old) (.int .u64 x.new) (.string x.text)
  have hb6 := below_turned (below6 hb hn (.int .i64 x.kind) (.int .u64 (x.block : Int)) (.int .i64 x.cell) (.int .u64 x.old) (.int .u64 x.new) (.string x.text))
  generalize ((((((X.setCell ⟨n, 0, none⟩ (.int .i64 x.kind)).setCell ⟨n, 1, none⟩ (.int .u64 (x.block : Int))).setCell ⟨n, 2, none⟩ (.int .i64 x.cell)).setCell ⟨n, 3, none⟩ (.int .u64 x.old)).setCell ⟨n, 4, none⟩ (.int .u64 x.new)).setCell ⟨n, 5, none⟩ (.string x.text)) = Y at h6 hb6 ⊢
  have h7 : Y.drew.heap[n]? = some (.cells (actCells x) 31 (0, 0)) := h6
  exact bodyPost_ret (v := .tuple #[actOf x, .bool is]) (by rw [results_cell2 (by rfl), h2, h3]; simp only [asAddr, Sem.run_pure, Result.andThen_ok, load_act h7]) rfl ⟨rfl, hb6⟩
theorem ptodo_any (W : World) {r : Nat} {v : PinD} (h : W.heap[r]? = some (pnrO v)) (hv : v.part ≤ 5) :
    Calls Tryz.prog 54 #[.pointer (some ⟨r, 0, none⟩)] W (PtodoE ((nextP v).getD noAct) W) := by
  have h6 : v.part = 0 ∨ v.part = 1 ∨ v.part = 2 ∨ v.part = 3 ∨ v.part = 4 ∨ v.part = 5 := by omega
  unfold nextP
  rcases h6 with e | e | e | e | e | e
  · have := ptodo_none W h (.inl e); rw [e]; exact this
  · have := ptodo_look W h (.inl e); rw [e]; exact this
  · have := ptodo_try W h e; rw [e]; exact this
  · have := ptodo_look W h (.inr e); rw [e]; exact this
  · have := ptodo_set W h e; rw [e]; exact this
  · have := ptodo_none W h (.inr e); rw [e]; exact this
theorem pact_mid {W w1 : World} (HN : (W.alloc noO).heap[W.heap.size]? = some noO) (hb : Below (W.alloc noO).heap.size (W.alloc noO) w1) :
    w1.heap[W.heap.size]? = some noO ∧ Below W.heap.size W w1 :=
  ⟨(hb.block _ (heap_at_lt HN)).trans HN, (below_alloc W noO).trans (hb.mono (below_alloc W noO).size)⟩

set_option maxRecDepth 100000 in
set_option maxHeartbeats 4000000 in
theorem pact_any (W : World) {r : Nat} {v : PinD} (h : W.heap[r]? = some (pnrO v)) (hv : v.part ≤ 5) :
    Calls Tryz.prog 21 #[.pointer (some ⟨r, 0, none⟩)] W (PactE ((nextP v).getD noAct) (nextP v).isSome W) := by
  have HB := Lib.hid (below_alloc W noO)
  have HN := Lib.hid (World.alloc_heap_new W noO)
  have HT := Lib.hid (fun X (hX : Below W.heap.size W X) => ptodo_any X ((hX.block r (heap_at_lt h)).trans h) hv)
  obtain ⟨o, ho⟩ : ∃ o, nextP v = o := ⟨_, rfl⟩
  have hk : ∀ x, o = some x → x.kind = 1 ∨ x.kind = 2 ∨ x.kind = 3 := fun x hx => (nextP_fits (ho.trans hx)).2
  rw [ho] at HT ⊢
  obtain ⟨y, hy⟩ : ∃ y, o.getD noAct = y := ⟨_, rfl⟩
  obtain ⟨q, hq⟩ : ∃ q, o.isSome = q := ⟨_, rfl⟩
  have hrun : ∀ w : World, (binOp .neq 31 (actV y.kind y.block y.cell y.old y.new y.text) (actV 0 0 0 0 0 ⟨#[]⟩)).run Tryz.prog w = .ok (.bool q) w := fun w => by
    rw [neqA_run, ← hq, ← hy]
    cases o with
    | none => simp [noAct]
    | some x =>
      have : (x.kind == 0) = false := by rcases hk x rfl with e | e | e <;> rw [e] <;> rfl
      simp [this]
  have HY := Lib.hid hy
  rw [hy, hq]
  clear h hv hk hq ho hy
  go_enter Tryz.func21, Tryz.ntmps21
  go_wp2_with fail
  refine (HT.out _ HB.out).mono ?_
  rintro en w1 ⟨rfl, hb⟩
  rw [HY.out]
  obtain ⟨h1, hb1⟩ := pact_mid HN.out hb
  have hne := heap_at_lt h1
  have HB1 := Lib.hid (hb1.trans ((below_alloc w1 (actO y)).mono hb1.size))
  have H1 := Lib.hid (((below_alloc w1 (actO y)).block _ hne).trans h1)
  have HA1 := Lib.hid (World.alloc_heap_new w1 (actO y))
  obtain ⟨n1, hn1⟩ : ∃ n, w1.heap.size = n := ⟨_, rfl⟩
  go_wp2_with fail
  rw [hn1] at HA1 hne
  generalize w1.alloc (actO y) = w2 at HB1 H1 HA1 ⊢
  have hne' : W.heap.size ≠ n1 := by omega
  obtain ⟨z0, z1, z2, z3, z4, z5⟩ := six_free H1.out
  obtain ⟨m0, m1, m2, m3, m4, m5⟩ := six_at H1.out
  obtain ⟨a0, a1, a2, a3, a4, a5⟩ := six_at HA1.out
  clear hb h1 hb1 hne hn1
  go_region
  all_goals
    go_wp2_with fail
    exact pact_end H1.out HB1.out (Nat.le_refl _) rfl rfl
set_option maxRecDepth 100000 in
set_option maxHeartbeats 800000 in
/-- No routine. -/
theorem pact_nil (W : World) : Calls Tryz.prog 21 #[.pointer none] W (PactE noAct false W) := by
  have HB := Lib.hid (below_alloc W noO)
  have HN := Lib.hid (World.alloc_heap_new W noO)
  obtain ⟨z0, z1, z2, z3, z4, z5⟩ := six_free HN.out
  obtain ⟨m0, m1, m2, m3, m4, m5⟩ := six_at HN.out
  go_enter Tryz.func21, Tryz.ntmps21
  go_wp2_with fail
  refine bodyPost_ret (v := .tuple #[actOf noAct, .bool false]) (by rw [results_cell2 (by rfl)]; go_simp; exact ⟨rfl, rfl, rfl, rfl, rfl, rfl⟩) rfl ⟨rfl, ?_⟩
  exact HB.out

end Go.Proofs.YtpnfbabiibopnaaGreat

/-! pin's routine: try, look, Take, Result. -/
namespace Go.Proofs.YtpnfbabiibopnaaGreat
open Go Go.RowKit
attribute [local go_sem ↓] Go.wp_at_zero Go.wp_at_succ

/-- What is left of a call that turns the routine alone. -/
def PtakeE (v : PinD) (r : Nat) (W : World) (e : Ending) (W' : World) : Prop := e = .returned (.tuple #[]) ∧ W'.heap[r]? = some (pnrO v) ∧ Step (fun k => k = r) (fun k => k = r) W W'
structure PMid (W : World) (r : Nat) (v : PinD) (X : World) : Prop where
  own : X.heap[r]? = some (pnrO v)
  st : Step (fun k => k = r) (fun k => k = r) W X
section
variable {W X Y : World} {r : Nat} {v : PinD}
theorem PMid.below (h : PMid W r v X) (hb : Below X.heap.size X Y) : PMid W r v Y := ⟨(hb.block _ (heap_at_lt h.own)).trans h.own, h.st.trans (Step.of_below hb)⟩
theorem PMid.set (h : PMid W r v X) (i : Nat) (u : Value) {v' : PinD} (e : (pnrC v).setIfInBounds i u = pnrC v') : PMid W r v' (X.setCell ⟨r, i, none⟩ u) := ⟨(heap_setAt h.own).trans (by rw [e]), h.st.trans (Step.setCell u rfl)⟩
theorem PMid.end (h : PMid W r v X) : PtakeE v r W (.returned (.tuple #[])) X := ⟨rfl, h.own, h.st⟩
end

set_option maxRecDepth 100000 in
set_option maxHeartbeats 2000000 in
theorem ptry_free (W : World) {r : Nat} {v : PinD} (h : W.heap[r]? = some (pnrO v)) :
    Calls Tryz.prog 64 #[.pointer (some ⟨r, 0, none⟩), .bool true] W (PtakeE (v.to 3) r W) := by
  have HF := Lib.hid ((show PMid W r v W from ⟨h, Step.refl _ _⟩).set 6 (.int .i64 3) (v' := v.to 3) rfl).end
  have z6 := pnr_free h 6
  have c6 := (pnr_at h).2.1
  clear h
  go_enter Tryz.func64, Tryz.ntmps64
  go_wp2_with fail
  go_end0
  exact HF.out

set_option maxRecDepth 100000 in
set_option maxHeartbeats 4000000 in
theorem ptry_miss (W : World) {r : Nat} {v : PinD} (h : W.heap[r]? = some (pnrO v)) (hp : 1 ≤ v.p ∧ v.p ≤ 8) (ht : 0 ≤ v.tried ∧ v.tried < v.p) (hn : 0 ≤ v.pn ∧ v.pn < v.p) (h2 : v.part = 2) :
    Calls Tryz.prog 64 #[.pointer (some ⟨r, 0, none⟩), .bool false] W (PtakeE v.miss r W) := by
  obtain ⟨a, p, s, q, v', x, part, tried, pn, ep, tk⟩ := v
  simp only at hp ht hn h2
  subst h2
  have HA := Lib.hid (show PMid W r ⟨a, p, s, q, v', x, 2, tried + 1, pn, ep, tk⟩ (W.setCell ⟨r, 7, none⟩ (.int .i64 (tried + 1))) from (show PMid W r _ W from ⟨h, Step.refl _ _⟩).set 7 _ rfl)
  have z7 := pnr_free h 7
  have c7 := (pnr_at h).2.2.1
  simp only at c7
  obtain ⟨m, hm⟩ : ∃ m, (pn + 1) % p = m := ⟨_, rfl⟩
  have hm0 := Int.emod_nonneg (pn + 1) (show p ≠ 0 by omega)
  have hm1 := Int.emod_lt_of_pos (pn + 1) (show 0 < p by omega)
  have htm := tmod_of (a := p) (show 0 ≤ pn + 1 by omega)
  rw [hm] at hm0 hm1 htm
  have hwm : IntKind.i64.wrap m = m := awrap (by omega)
  have hwn : IntKind.i64.wrap (pn + 1) = pn + 1 := awrap (by omega)
  have hwt : IntKind.i64.wrap (tried + 1) = tried + 1 := awrap (by omega)
  have hp0 : ¬ p = 0 := by omega
  have hmix : Tryz.prog.follows .mixedOrders = true := by kernel_rfl
  have HMs := Lib.hid (show PinD.miss ⟨a, p, s, q, v', x, 2, tried, pn, ep, tk⟩ = if tried + 1 = p then ⟨a, p, s, q, v', x, 5, tried + 1, 0, 0, true⟩ else ⟨a, p, s, q, v', x, 2, tried + 1, m, ep, tk⟩ from by rw [← hm]; rfl)
  obtain ⟨u, hu⟩ : ∃ u, PinD.miss ⟨a, p, s, q, v', x, 2, tried, pn, ep, tk⟩ = u := ⟨_, rfl⟩
  have HU := Lib.hid (HMs.out.symm.trans hu)
  rw [hu]
  clear h hm HMs hu
  go_enter Tryz.func64, Tryz.ntmps64
  go_wp2_with fail
  generalize W.setCell ⟨r, 7, none⟩ (.int .i64 (tried + 1)) = w1 at HA ⊢
  clear c7 z7
  obtain ⟨⟨-, c1, -, -, -, -⟩, -, c7, c8, c9, c10⟩ := pnr_at HA.out.own
  simp only at c1 c7 c8 c9 c10
  go_still_tail 16, hmix
  change wpList _ _ _ _ _ w1.drew
  have HB := Lib.hid (HA.out.below (below_drew w1))
  clear c1 c7 c8 c9 c10
  generalize w1.drew = w2 at HB ⊢
  have z8 := pnr_free HB.out.own 8
  have c8 := (pnr_at HB.out.own).2.2.2.1
  have HC := Lib.hid (HB.out.set 8 (.int .i64 m) (v' := ⟨a, p, s, q, v', x, 2, tried + 1, m, ep, tk⟩) rfl)
  clear HA HB
  go_wp2_with fail
  generalize w2.setCell ⟨r, 8, none⟩ (.int .i64 m) = w3 at HC ⊢
  clear c8 z8
  obtain ⟨⟨-, c1, -, -, -, -⟩, -, c7, -, -, -⟩ := pnr_at HC.out.own
  simp only at c1 c7
  by_cases hl : tried + 1 = p
  · have hlb : (tried + 1 == p) = true := by simpa using hl
    have HU2 := Lib.hid (show ⟨a, p, s, q, v', x, 5, tried + 1, 0, 0, true⟩ = u from by have := HU.out; rwa [if_pos hl] at this)
    clear hl HU
    go_quiet (fail)
    rename Nat => nq
    have HD := Lib.hid (HC.out.below (below_draws w3 nq))
    clear c1 c7
    generalize w3.drewN nq = w4 at HD ⊢
    have z6 := pnr_free HD.out.own 6
    have z8 := pnr_free HD.out.own 8
    have z9 := pnr_free HD.out.own 9
    have z10 := pnr_free HD.out.own 10
    obtain ⟨-, c6, -, c8, c9, c10⟩ := pnr_at HD.out.own
    have HF := Lib.hid (by
      have h4 := (((HD.out.set 8 (.int .i64 0) (v' := ⟨a, p, s, q, v', x, 2, tried + 1, 0, ep, tk⟩) rfl).set 9 (.int .u64 0) (v' := ⟨a, p, s, q, v', x, 2, tried + 1, 0, 0, tk⟩) rfl).set 10 (.bool true) (v' := ⟨a, p, s, q, v', x, 2, tried + 1, 0, 0, true⟩) rfl).set 6 (.int .i64 5) (v' := ⟨a, p, s, q, v', x, 5, tried + 1, 0, 0, true⟩) rfl
      rw [HU2.out] at h4
      exact h4.end)
    go_wp2_with fail
    go_end0
    exact HF.out
  · have hlb : (tried + 1 == p) = false := by simpa using hl
    have HU2 := Lib.hid (show ⟨a, p, s, q, v', x, 2, tried + 1, m, ep, tk⟩ = u from by have := HU.out; rwa [if_neg hl] at this)
    clear hl HU
    go_quiet (fail)
    rename Nat => nq
    have HF := Lib.hid (by
      have h4 := HC.out.below (below_draws w3 nq)
      rw [HU2.out] at h4
      exact h4.end)
    go_wp2_with fail
    go_end0
    exact HF.out

set_option maxRecDepth 100000 in
set_option maxHeartbeats 2000000 in
theorem plook_any (W : World) {r : Nat} {v : PinD} (h : W.heap[r]? = some (pnrO v)) (w : Int) :
    Calls Tryz.prog 65 #[.pointer (some ⟨r, 0, none⟩), .int .u64 w] W (PtakeE (if w = v.ep then v.to 5 else v.at 4 w) r W) := by
  have hM : PMid W r v W := ⟨h, Step.refl _ _⟩
  have HF := Lib.hid (hM.set 6 (.int .i64 5) (v' := v.to 5) rfl).end
  have HG := Lib.hid ((hM.set 9 (.int .u64 w) (v' := v.at v.part w) rfl).set 6 (.int .i64 4) (v' := v.at 4 w) rfl).end
  have z6 := pnr_free h 6
  have z9 := pnr_free h 9
  have c6 := (pnr_at h).2.1
  have c9 := (pnr_at h).2.2.2.2.1
  clear h hM
  by_cases he : w = v.ep
  · rw [if_pos he]
    have he' : (w == v.ep) = true := by simpa using he
    generalize v.ep = e at c9 he' ⊢
    clear he HG
    go_enter Tryz.func65, Tryz.ntmps65
    go_wp2_with fail
    go_end0
    exact HF.out
  · rw [if_neg he]
    have he' : (w == v.ep) = false := by simpa using he
    generalize v.ep = e at c9 he' ⊢
    clear he HF
    go_enter Tryz.func65, Tryz.ntmps65
    go_wp2_with fail
    go_end0
    exact HG.out

/-! ### Take -/
set_option maxRecDepth 100000 in
set_option maxHeartbeats 4000000 in
theorem ptake_any (W : World) {r : Nat} {v : PinD} (h : W.heap[r]? = some (pnrO v)) (hv : v.fits) (hs : (nextP v).isSome = true) (w : Int) (t : ByteArray) :
    Calls Tryz.prog 32 #[.pointer (some ⟨r, 0, none⟩), gotV w t] W (PtakeE (takeP v w t) r W) := by
  have hb := below_alloc W (gotO w t)
  have HM := Lib.hid (show PMid W r v (W.alloc (gotO w t)) from ⟨(hb.block r (heap_at_lt h)).trans h, Step.of_below hb⟩)
  have HG := Lib.hid (World.alloc_heap_new W (gotO w t))
  have HFin := Lib.hid (fun (u : PinD) e X' (hl : PtakeE u r (W.alloc (gotO w t)) e X') => (show PtakeE u r W e X' from ⟨hl.1, hl.2.1, HM.out.st.trans hl.2.2⟩))
  obtain ⟨g0, g1⟩ := two_at HG.out
  obtain ⟨-, c6, -, -, c9, -⟩ := pnr_at HM.out.own
  have z6 := pnr_free HM.out.own 6
  have z9 := pnr_free HM.out.own 9
  obtain ⟨-, -, h3⟩ := hv
  rcases nextP_part hs with e | e | e | e
  · have hT := takeP_1 e w t
    rw [hT]
    rw [e] at c6
    have HF := Lib.hid ((HM.out.set 9 (.int .u64 w) (v' := v.at 1 w) (by rw [← e]; rfl)).set 6 (.int .i64 2) (v' := v.at 2 w) rfl).end
    clear h hb h3 hs e hT
    go_enter Tryz.func32, Tryz.ntmps32
    go_wp2_with fail
    go_end0
    exact HF.out
  · obtain ⟨hr, h4, h5, h6, h7⟩ : v.fit1 := h3.elim (fun e' => by omega) id
    have h7' := h7 (by omega)
    have hp := (rightC_bd hr).2.1
    obtain ⟨u, hu⟩ : ∃ u, takeP v w t = u := ⟨_, rfl⟩
    have hTu : (if w = 0 then v.to 3 else v.miss) = u := by rw [← hu]; exact (takeP_2 e w t).symm
    have HT := Lib.hid (show Calls Tryz.prog 64 #[.pointer (some ⟨r, 0, none⟩), .bool (w == 0)] (W.alloc (gotO w t)) (PtakeE u r (W.alloc (gotO w t))) from by
      by_cases hw : w = 0
      · rw [if_pos hw] at hTu
        rw [show (w == 0) = true from by simpa using hw, ← hTu]
        exact ptry_free _ HM.out.own
      · rw [if_neg hw] at hTu
        rw [show (w == 0) = false from by simpa using hw, ← hTu]
        exact ptry_miss _ HM.out.own hp ⟨h5.1, h7'⟩ h6 e)
    rw [hu]
    rw [e] at c6
    obtain ⟨b, hwb⟩ : ∃ b, (w == 0) = b := ⟨_, rfl⟩
    rw [hwb] at HT
    clear h hb h3 hs e hr h4 h5 h6 h7 h7' hp hu hTu
    go_enter Tryz.func32, Tryz.ntmps32
    go_wp2_with fail
    refine HT.out.mono ?_
    intro en X' hl
    have HE := Lib.hid (HFin.out _ _ _ hl)
    obtain ⟨rfl, -, -⟩ := hl
    go_wp2_with fail
    go_end0
    exact HE.out
  · have hT := takeP_3 e w t
    have HL := Lib.hid (plook_any _ HM.out.own w)
    rw [hT]
    rw [e] at c6
    obtain ⟨u, hu⟩ : ∃ u, (if w = v.ep then v.to 5 else v.at 4 w) = u := ⟨_, rfl⟩
    rw [hu] at HL ⊢
    clear h hb h3 hs e hT hu
    go_enter Tryz.func32, Tryz.ntmps32
    go_wp2_with fail
    refine HL.out.mono ?_
    intro en X' hl
    have HE := Lib.hid (HFin.out _ _ _ hl)
    obtain ⟨rfl, -, -⟩ := hl
    go_wp2_with fail
    go_end0
    exact HE.out
  · have hT := takeP_4 e w t
    rw [hT]
    rw [e] at c6
    have HF := Lib.hid (HM.out.set 6 (.int .i64 3) (v' := v.to 3) rfl).end
    clear h hb h3 hs e hT
    go_enter Tryz.func32, Tryz.ntmps32
    go_wp2_with fail
    go_end0
    exact HF.out

/-! ### Result -/
abbrev pndV (n e : Int) (b : Bool) : Value := .agg #[.int .i64 n, .int .u64 e, .bool b]
abbrev pndO (n e : Int) (b : Bool) : Obj := .cells #[.int .i64 n, .int .u64 e, .bool b] 71 (0, 0)
theorem pnd_at {X : World} {m : Nat} {n e : Int} {b : Bool} {t : TypeId} (hX : X.heap[m]? = some (.cells #[.int .i64 n, .int .u64 e, .bool b] t (0, 0))) : X.cell? ⟨m, 0, none⟩ = some (.int .i64 n) ∧ X.cell? ⟨m, 1, none⟩ = some (.int .u64 e) ∧ X.cell? ⟨m, 2, none⟩ = some (.bool b) :=
  ⟨(cell_of hX).trans rfl, (cell_of hX).trans rfl, (cell_of hX).trans rfl⟩
theorem pnd_free {X : World} {m : Nat} {n e : Int} {b : Bool} {t : TypeId} (hX : X.heap[m]? = some (.cells #[.int .i64 n, .int .u64 e, .bool b] t (0, 0))) (i : Nat) : X.frozen? ⟨m, i, none⟩ = false := by simp [World.frozen?, hX]
/-- What Result tells. -/
def resP (v : PinD) : (Int × Int × Bool) × Bool := if v.part = 5 then ((v.pn, v.ep, v.taken), true) else ((0, 0, false), false)
def PresE (v : PinD) (W : World) (e : Ending) (W' : World) : Prop := e = .returned (.tuple #[pndV (resP v).1.1 (resP v).1.2.1 (resP v).1.2.2, .bool (resP v).2]) ∧ Below W.heap.size W W'

set_option maxRecDepth 100000 in
set_option maxHeartbeats 2000000 in
theorem pres_any (W : World) {r : Nat} {v : PinD} (h : W.heap[r]? = some (pnrO v)) : Calls Tryz.prog 24 #[.pointer (some ⟨r, 0, none⟩)] W (PresE v W) := by
  have HB := Lib.hid (below_alloc W (pndO 0 0 false))
  have HN := Lib.hid (World.alloc_heap_new W (pndO 0 0 false))
  obtain ⟨m0, m1, m2⟩ := pnd_at HN.out
  have z0 := pnd_free HN.out 0
  have z1 := pnd_free HN.out 1
  have z2 := pnd_free HN.out 2
  obtain ⟨-, c6, -, c8, c9, c10⟩ := pnr_at ((HB.out.block r (heap_at_lt h)).trans h)
  have hne : W.heap.size ≠ r := by have := heap_at_lt h; omega
  obtain ⟨a, p, s, q, v', x, part, tried, pn, ep, tk⟩ := v
  simp only at c6 c8 c9 c10
  clear h
  by_cases h5 : part = 5
  · subst h5
    show Calls _ _ _ _ (fun e W' => e = .returned (.tuple #[pndV pn ep tk, .bool true]) ∧ Below W.heap.size W W')
    go_enter Tryz.func24, Tryz.ntmps24
    go_wp2_with fail
    refine bodyPost_ret (v := .tuple #[pndV pn ep tk, .bool true]) (by rw [results_cell2 (by rfl)]; go_simp) rfl ⟨rfl, ?_⟩
    exact below_alloc _ _
  · have hR : resP ⟨a, p, s, q, v', x, part, tried, pn, ep, tk⟩ = ((0, 0, false), false) := if_neg h5
    unfold PresE
    rw [hR]
    have hb : ((part : Int) != 5) = true := by simp; omega
    clear h5 hR
    go_enter Tryz.func24, Tryz.ntmps24
    go_wp2_with fail
    refine bodyPost_ret (v := .tuple #[pndV 0 0 false, .bool false]) (by rw [results_cell2 (by rfl)]; go_simp) rfl ⟨rfl, ?_⟩
    exact below_alloc _ _

end Go.Proofs.YtpnfbabiibopnaaGreat
