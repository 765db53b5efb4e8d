/-
  find's routine: Take and New.
-/
import Derived.Test.YtdnjlpccopeagaaLook
import Derived.Test.YtdnjlpccopeagaaDrawn2
import Derived.Deep.RegionHeld3
namespace Go.Proofs.Ytdnjlpccopeagaa
open Go Go.RowKit
attribute [local go_sem ↓] Go.wp_at_zero Go.wp_at_succ

/-! ### Take -/
set_option maxRecDepth 100000 in
set_option maxHeartbeats 2000000 in
/-- Where there is something to do. -/
theorem ftake_any (W : World) {r : Nat} {d : FindR} {i : Nat} {y : ActD} (h : W.heap[r]? = some (fndO (d.to i y 0 0))) (hn : 0 ≤ d.n ∧ d.n ≤ 18446744073709551615) (hs : 1 ≤ d.s ∧ d.s ≤ 64) (hi : (i : Int) ≤ d.s) (hy : y.kind = 1 ∨ y.kind = 6) (w : Nat) (t : ByteArray) :
    Calls Try.prog 12 #[.pointer (some ⟨r, 0, none⟩), gotV w t] W (LookE (lookY d w t i y) r W) := by
  have hrn : ∀ X : World, (binOp .neq 31 (actV y.kind y.block y.cell y.old y.new y.text) (actV 0 0 0 0 0 ⟨#[]⟩)).run Try.prog X = .ok (.bool true) X := fun X => by
    rw [neqA_run]
    have : (y.kind == 0) = false := by rcases hy with e | e <;> rw [e] <;> rfl
    simp [this]
  have hB := below_alloc W (gotO w t)
  have HA := Lib.hid (fact_any (W.alloc (gotO w t)) ((hB.block r (heap_at_lt h)).trans h) (y := y) rfl hrn)
  have hG := World.alloc_heap_new W (gotO w t)
  have HFin := Lib.hid (fun (X : World) (hb : Below W.heap.size W X) e X' (hl : LookE (lookY d w t i y) r X e X') => (show LookE (lookY d w t i y) r W e X' from ⟨hl.1, hl.2.1, (Step.of_below hb).trans hl.2.2⟩))
  have HL := Lib.hid (fun (X : World) (hb : Below W.heap.size W X) => look_any X ((hb.block r (heap_at_lt h)).trans h) hn hs hi (.inr hy) w t)
  have HB := Lib.hid hB
  have HG := Lib.hid hG
  clear hrn h hn hs hi hy hB hG
  go_enter Try.func12, Try.ntmps12
  go_wp2_with fail
  refine HA.out.mono ?_
  rintro en w1 ⟨rfl, hb⟩
  have HB2 := Lib.hid (((HB.out.trans (hb.mono HB.out.size))).trans ((below_alloc w1 (actO y)).mono (Nat.le_trans HB.out.size hb.size)))
  have HG2 := Lib.hid (((below_alloc w1 (actO y)).block _ (Nat.lt_of_lt_of_le (heap_at_lt HG.out) hb.size)).trans ((hb.block _ (heap_at_lt HG.out)).trans HG.out))
  clear hb
  obtain ⟨g0, g1⟩ := two_at HG2.out
  go_wp2_with fail
  refine (HL.out _ HB2.out).mono ?_
  intro e X' hl
  have HE := Lib.hid (HFin.out _ HB2.out e X' hl)
  obtain ⟨rfl, -, -⟩ := hl
  go_wp2_with fail
  go_end0
  exact HE.out

/-! ### New -/
/-- A routine that looks for a key. -/
def newF (a p s q v x : Int) (key : ByteArray) : FindR := ⟨a, p, s, q, v, x, key, sumU x key.data.toList, 0, noAct, 0, 0⟩
def NewE (d : FindR) (W : World) (e : Ending) (W' : World) : Prop := ∃ r, e = .returned (.pointer (some ⟨r, 0, none⟩)) ∧ W.heap.size ≤ r ∧ W'.heap[r]? = some (fndO d) ∧ Below W.heap.size W W'

set_option maxRecDepth 100000 in
set_option maxHeartbeats 2000000 in
theorem fnew_bad (W : World) (a p s q v x : Int) (key : ByteArray) (hr : rightC a p s q v = false) :
    Calls Try.prog 7 #[cfV a p s q v x, .string key] W (NewE FindR.zero W) := by
  have HR := Lib.hid (fun X : World => cright_any a p s q v x X)
  rw [hr] at HR
  have hX0 := BoxC.start W a p s q v x
  have HN := Lib.hid (show ((W.alloc (.cells #[.int .i64 a, .int .i64 p, .int .i64 s, .int .i64 q, .int .i64 v, .int .u64 x] 24)).alloc (fndO FindR.zero)).heap[W.heap.size + 1]? = some (fndO FindR.zero) from by have := World.alloc_heap_new (W.alloc (.cells #[.int .i64 a, .int .i64 p, .int .i64 s, .int .i64 q, .int .i64 v, .int .u64 x] 24)) (fndO FindR.zero); rwa [World.size_alloc] at this)
  have X1 := Lib.hid (hX0.below (below_alloc _ (fndO FindR.zero)))
  obtain ⟨c0, c1, c2, c3, c4, c5⟩ := X1.out.six
  clear hr hX0
  go_enter Try.func7, Try.ntmps7
  go_wp2_with fail
  refine (HR.out _).mono ?_
  rintro e w1 ⟨rfl, hb⟩
  have HB := Lib.hid (X1.out.below hb)
  have HN1 := Lib.hid ((hb.block _ (heap_at_lt HN.out)).trans HN.out)
  clear hb
  go_wp2_with fail
  go_ret
  exact ⟨_, rfl, Nat.le_succ _, HN1.out, HB.out.lo⟩

/-- A config in its box, and the routine that is made. -/
structure NewI (W : World) (a p s q v x : Int) (d : FindR) (X : World) : Prop where
  bx : BoxC W a p s q v x X
  own : X.heap[W.heap.size + 1]? = some (fndO d)
section
variable {W X Y : World} {a p s q v x : Int} {d : FindR}
theorem NewI.below (h : NewI W a p s q v x d X) (hb : Below X.heap.size X Y) : NewI W a p s q v x d Y := ⟨h.bx.below hb, (hb.block _ (heap_at_lt h.own)).trans h.own⟩
theorem NewI.eight (h : NewI W a p s q v x d X) : (∀ i, X.frozen? ⟨W.heap.size + 1, i, none⟩ = false) := fun i => fnd_free h.own i
/-- The three fields are set. -/
theorem NewI.set (h : NewI W a p s q v x FindR.zero X) (key : ByteArray) (n : Int) :
    (((((((((X.setCell ⟨W.heap.size + 1, 0, none⟩ (.int .i64 a)).setCell ⟨W.heap.size + 1, 1, none⟩ (.int .i64 p)).setCell ⟨W.heap.size + 1, 2, none⟩ (.int .i64 s)).setCell ⟨W.heap.size + 1, 3, none⟩ (.int .i64 q)).setCell ⟨W.heap.size + 1, 4, none⟩ (.int .i64 v)).setCell ⟨W.heap.size + 1, 5, none⟩ (.int .u64 x)).setCell ⟨W.heap.size + 1, 6, none⟩ (.string key)).setCell ⟨W.heap.size + 1, 7, none⟩ (.int .u64 n))).heap[W.heap.size + 1]? = some (fndO ⟨a, p, s, q, v, x, key, n, 0, noAct, 0, 0⟩) ∧
    Below W.heap.size W (((((((((X.setCell ⟨W.heap.size + 1, 0, none⟩ (.int .i64 a)).setCell ⟨W.heap.size + 1, 1, none⟩ (.int .i64 p)).setCell ⟨W.heap.size + 1, 2, none⟩ (.int .i64 s)).setCell ⟨W.heap.size + 1, 3, none⟩ (.int .i64 q)).setCell ⟨W.heap.size + 1, 4, none⟩ (.int .i64 v)).setCell ⟨W.heap.size + 1, 5, none⟩ (.int .u64 x)).setCell ⟨W.heap.size + 1, 6, none⟩ (.string key)).setCell ⟨W.heap.size + 1, 7, none⟩ (.int .u64 n))) := by
  refine ⟨?_, ?_⟩
  · have e0 := heap_setAt (o := 0) (u := .int .i64 a) h.own
    have e1 := heap_setAt (o := 1) (u := .int .i64 p) e0
    have e2 := heap_setAt (o := 2) (u := .int .i64 s) e1
    have e3 := heap_setAt (o := 3) (u := .int .i64 q) e2
    have e4 := heap_setAt (o := 4) (u := .int .i64 v) e3
    have e5 := heap_setAt (o := 5) (u := .int .u64 x) e4
    have e6 := heap_setAt (o := 6) (u := .string key) e5
    have e7 := heap_setAt (o := 7) (u := .int .u64 n) e6
    simp only [List.setIfInBounds_toArray, List.set_cons_zero, List.set_cons_succ] at e7
    exact e7
  · have hl := Nat.le_succ W.heap.size
    exact (((((((h.bx.lo.setCell (p := ⟨W.heap.size + 1, 0, none⟩) hl _).setCell (p := ⟨W.heap.size + 1, 1, none⟩) hl _).setCell (p := ⟨W.heap.size + 1, 2, none⟩) hl _).setCell (p := ⟨W.heap.size + 1, 3, none⟩) hl _).setCell (p := ⟨W.heap.size + 1, 4, none⟩) hl _).setCell (p := ⟨W.heap.size + 1, 5, none⟩) hl _).setCell (p := ⟨W.heap.size + 1, 6, none⟩) hl _).setCell (p := ⟨W.heap.size + 1, 7, none⟩) hl _
end

/-- The config's box, whatever is set elsewhere. -/
def SixN (W : World) (a p s q v x : Int) (X : World) : Prop := X.cell? ⟨W.heap.size, 0, none⟩ = some (.int .i64 a) ∧ X.cell? ⟨W.heap.size, 1, none⟩ = some (.int .i64 p) ∧ X.cell? ⟨W.heap.size, 2, none⟩ = some (.int .i64 s) ∧ X.cell? ⟨W.heap.size, 3, none⟩ = some (.int .i64 q) ∧ X.cell? ⟨W.heap.size, 4, none⟩ = some (.int .i64 v) ∧ X.cell? ⟨W.heap.size, 5, none⟩ = some (.int .u64 x)
theorem SixN.set {W X : World} {a p s q v x : Int} (h : SixN W a p s q v x X) (o : Nat) (u : Value) : SixN W a p s q v x (X.setCell ⟨W.heap.size + 1, o, none⟩ u) := by
  have hc : ∀ i, (X.setCell ⟨W.heap.size + 1, o, none⟩ u).cell? ⟨W.heap.size, i, none⟩ = X.cell? ⟨W.heap.size, i, none⟩ := fun i => World.cell?_of_block (a := ⟨W.heap.size, i, none⟩) (Below.heap_setCell _ _ _ _ (Nat.ne_of_lt (Nat.lt_succ_self _)))
  obtain ⟨h0, h1, h2, h3, h4, h5⟩ := h
  exact ⟨(hc _).trans h0, (hc _).trans h1, (hc _).trans h2, (hc _).trans h3, (hc _).trans h4, (hc _).trans h5⟩
theorem NewI.sixN {W X : World} {a p s q v x : Int} {d : FindR} (h : NewI W a p s q v x d X) : SixN W a p s q v x X := h.bx.six

set_option maxRecDepth 100000 in
set_option maxHeartbeats 4000000 in
theorem fnew_any (W : World) (a p s q v x : Int) (key : ByteArray) (hr : rightC a p s q v = true) (hk : key.size ≤ 281474976710656) :
    Calls Try.prog 7 #[cfV a p s q v x, .string key] W (NewE (lookN (newF a p s q v x key) 0) W) := by
  have HR := Lib.hid (fun X : World => cright_any a p s q v x X)
  rw [hr] at HR
  have hrc := rightC_bd hr
  have hX0 := BoxC.start W a p s q v x
  have HN := show ((W.alloc (.cells #[.int .i64 a, .int .i64 p, .int .i64 s, .int .i64 q, .int .i64 v, .int .u64 x] 24)).alloc (fndO FindR.zero)).heap[W.heap.size + 1]? = some (fndO FindR.zero) from by have := World.alloc_heap_new (W.alloc (.cells #[.int .i64 a, .int .i64 p, .int .i64 s, .int .i64 q, .int .i64 v, .int .u64 x] 24)) (fndO FindR.zero); rwa [World.size_alloc] at this
  have X1 := Lib.hid (show NewI W a p s q v x FindR.zero _ from ⟨hX0.below (below_alloc _ (fndO FindR.zero)), HN⟩)
  obtain ⟨c0, c1, c2, c3, c4, c5⟩ := X1.out.bx.six
  have HC := Lib.hid (fun X => clone_any key X hk)
  have HSm := Lib.hid (fun X => (show Calls Try.prog 22 #[.int .u64 x, .string key] X (fun e w' => e = .returned (.int .u64 (sumU x key.data.toList)) ∧ w' = X) from (sum_any x key X (by omega)).mono fun _ _ h => ⟨h.1, h.2.symm⟩))
  obtain ⟨F, hF⟩ : ∃ F, newF a p s q v x key = F := ⟨_, rfl⟩
  have hFn : 0 ≤ F.n ∧ F.n ≤ 18446744073709551615 := by rw [← hF]; exact sumU_bd _ _
  have hFs : F.s = s := by rw [← hF]; rfl
  have HLk0 := fun (r : Nat) (X : World) (hX : X.heap[r]? = some (fndO (F.to ((0 : Nat) : Int) noAct 0 0))) => look_any X hX hFn (by rw [hFs]; exact hrc.2.2) (by rw [hFs]; omega) (.inl rfl) 0 ⟨#[]⟩
  have HLk := Lib.hid (fun (X : World) r (hX : X.heap[r]? = some (fndO (F.to ((0 : Nat) : Int) noAct 0 0))) => HLk0 r X hX)
  clear hr hX0 HN hk hrc
  go_enter Try.func7, Try.ntmps7
  go_wp2_with fail
  refine (HR.out _).mono ?_
  rintro e w1 ⟨rfl, hb⟩
  have X2 := Lib.hid (X1.out.below hb)
  clear hb c0 c1 c2 c3 c4 c5 X1
  go_wp2_with fail
  obtain ⟨c0, c1, c2, c3, c4, c5⟩ := X2.out.bx.six
  have HS := Lib.hid (show SixN W a p s q v x w1.drew from X2.out.bx.drew.six)
  clear c0 c1 c2 c3 c4 c5
  refine wp_region_held_drew (S := fun w' => w'.cell? ⟨W.heap.size, 0, none⟩ = some (.int .i64 a) ∧ w'.cell? ⟨W.heap.size, 1, none⟩ = some (.int .i64 p) ∧ w'.cell? ⟨W.heap.size, 2, none⟩ = some (.int .i64 s) ∧ w'.cell? ⟨W.heap.size, 3, none⟩ = some (.int .i64 q) ∧ w'.cell? ⟨W.heap.size, 4, none⟩ = some (.int .i64 v) ∧ w'.cell? ⟨W.heap.size, 5, none⟩ = some (.int .u64 x)) (by kernel_rfl) HS.out (fun _ => ?_)
  refine (fun h => h) ?_
  -- BEGIN
  refine wpAnyH_look (i := 0) (v := ?v0) 12 rfl (by kernel_rfl) (by kernel_rfl) (by kernel_rfl) (fun _ _ _ _ h => h) (by rfl) HS.out (Or.inl ⟨by rfl, ?y0⟩) ?r0
  case y0 => intro w hSw; (try dsimp only at hSw); go_simp; (try with_reducible rfl)
  simp only [List.setIfInBounds_toArray, List.set_cons_zero, List.set_cons_succ]
  refine wpAnyH_look (i := 1) (v := ?v1) 13 rfl (by kernel_rfl) (by kernel_rfl) (by kernel_rfl) (fun _ _ _ _ h => h) (by rfl) HS.out (Or.inl ⟨by rfl, ?y1⟩) ?r1
  case y1 => intro w hSw; (try dsimp only at hSw); go_simp; (try with_reducible rfl)
  simp only [List.setIfInBounds_toArray, List.set_cons_zero, List.set_cons_succ]
  refine wpAnyH_look (i := 2) (v := ?v2) 14 rfl (by kernel_rfl) (by kernel_rfl) (by kernel_rfl) (fun _ _ _ _ h => h) (by rfl) HS.out (Or.inl ⟨by rfl, ?y2⟩) ?r2
  case y2 => intro w hSw; (try dsimp only at hSw); go_simp; (try with_reducible rfl)
  simp only [List.setIfInBounds_toArray, List.set_cons_zero, List.set_cons_succ]
  refine wpAnyH_look (i := 3) (v := ?v3) 15 rfl (by kernel_rfl) (by kernel_rfl) (by kernel_rfl) (fun _ _ _ _ h => h) (by rfl) HS.out (Or.inl ⟨by rfl, ?y3⟩) ?r3
  case y3 => intro w hSw; (try dsimp only at hSw); go_simp; (try with_reducible rfl)
  simp only [List.setIfInBounds_toArray, List.set_cons_zero, List.set_cons_succ]
  refine wpAnyH_look (i := 4) (v := ?v4) 16 rfl (by kernel_rfl) (by kernel_rfl) (by kernel_rfl) (fun _ _ _ _ h => h) (by rfl) HS.out (Or.inl ⟨by rfl, ?y4⟩) ?r4
  case y4 => intro w hSw; (try dsimp only at hSw); go_simp; (try with_reducible rfl)
  simp only [List.setIfInBounds_toArray, List.set_cons_zero, List.set_cons_succ]
  refine wpAnyH_look (i := 6) (v := ?v6) 18 rfl (by kernel_rfl) (by kernel_rfl) (by kernel_rfl) (fun _ _ _ _ h => h) (by rfl) HS.out (Or.inl ⟨by rfl, ?y6⟩) ?r6
  case y6 => intro w hSw; (try dsimp only at hSw); go_simp; (try with_reducible rfl)
  simp only [List.setIfInBounds_toArray, List.set_cons_zero, List.set_cons_succ]
  refine wpAnyH_look (i := 7) (v := ?v7) 19 rfl (by kernel_rfl) (by kernel_rfl) (by kernel_rfl) (fun _ _ _ _ h => h) (by rfl) HS.out (Or.inl ⟨by rfl, ?y7⟩) ?r7
  case y7 => intro w hSw; (try dsimp only at hSw); go_simp; (try with_reducible rfl)
  simp only [List.setIfInBounds_toArray, List.set_cons_zero, List.set_cons_succ]
  refine wpAnyH_look (i := 8) (v := ?v8) 20 rfl (by kernel_rfl) (by kernel_rfl) (by kernel_rfl) (fun _ _ _ _ h => h) (by rfl) HS.out (Or.inl ⟨by rfl, ?y8⟩) ?r8
  case y8 => intro w hSw; (try dsimp only at hSw); go_simp; (try with_reducible rfl)
  simp only [List.setIfInBounds_toArray, List.set_cons_zero, List.set_cons_succ]
  refine wpAnyH_ready (rs := [5]) (by kernel_rfl) (by simp) ?_
  refine AllReadyH.cons rfl (fun K hK => ?_) AllReadyH.nil
  go_simp
  go_at_call 21
  refine (HC.out _).mono ?_
  rintro en x1 ⟨rfl, hb⟩
  have X3 := Lib.hid ((X2.out.below (below_drew _)).below hb)
  have HS := Lib.hid X3.out.sixN
  clear hb
  go_simp
  refine hK.out _ _ HS.out (fun _ => ?_)
  clear hK K
  refine wpAnyH_ready (rs := [9]) (by kernel_rfl) (by simp) ?_
  refine AllReadyH.cons rfl (fun K hK => ?_) AllReadyH.nil
  go_simp
  go_at_call 22
  refine (HSm.out _).mono ?_
  rintro en x2 ⟨rfl, rfl⟩
  skip
  go_simp
  refine hK.out _ _ HS.out (fun _ => ?_)
  clear hK K
  refine wpAnyH_look (i := 10) (v := ?v10) 22 rfl (by kernel_rfl) (by kernel_rfl) (by kernel_rfl) (fun _ _ _ _ h => h) (by rfl) HS.out (Or.inl ⟨by rfl, ?y10⟩) ?r10
  case y10 => intro w hSw; (try dsimp only at hSw); go_simp; (try with_reducible rfl)
  simp only [List.setIfInBounds_toArray, List.set_cons_zero, List.set_cons_succ]
  refine wpAnyH_look (i := 11) (v := ?v11) 23 rfl (by kernel_rfl) (by kernel_rfl) (by kernel_rfl) (fun _ _ _ _ h => h) (by rfl) HS.out (Or.inl ⟨by rfl, ?y11⟩) ?r11
  case y11 => intro w hSw; (try dsimp only at hSw); go_simp; (try with_reducible rfl)
  simp only [List.setIfInBounds_toArray, List.set_cons_zero, List.set_cons_succ]
  obtain ⟨⟨e0, e1, e2, e3, e4, e5⟩, ⟨e6, e7, -⟩, -, -⟩ := fnd_at X3.out.own
  have hfr := X3.out.eight
  have z0 := hfr 0
  have z1 := hfr 1
  have z2 := hfr 2
  have z3 := hfr 3
  have z4 := hfr 4
  have z5 := hfr 5
  have z6 := hfr 6
  have z7 := hfr 7
  clear hfr
  refine wpAnyH_ready (rs := [12]) (by kernel_rfl) (by simp) ?_
  refine AllReadyH.cons rfl (fun K hK => ?_) AllReadyH.nil
  go_simp
  have HS := Lib.hid ((((((HS.out.set 0 (.int .i64 a)).set 1 (.int .i64 p)).set 2 (.int .i64 s)).set 3 (.int .i64 q)).set 4 (.int .i64 v)).set 5 (.int .u64 x))
  refine hK.out _ _ HS.out (fun _ => ?_)
  clear hK K
  refine wpAnyH_look (i := 13) (v := ?v13) 24 rfl (by kernel_rfl) (by kernel_rfl) (by kernel_rfl) (fun _ _ _ _ h => h) (by rfl) HS.out (Or.inl ⟨by rfl, ?y13⟩) ?r13
  case y13 => intro w hSw; (try dsimp only at hSw); go_simp; (try with_reducible rfl)
  simp only [List.setIfInBounds_toArray, List.set_cons_zero, List.set_cons_succ]
  refine wpAnyH_look (i := 14) (v := ?v14) 25 rfl (by kernel_rfl) (by kernel_rfl) (by kernel_rfl) (fun _ _ _ _ h => h) (by rfl) HS.out (Or.inl ⟨by rfl, ?y14⟩) ?r14
  case y14 => intro w hSw; (try dsimp only at hSw); go_simp; (try with_reducible rfl)
  simp only [List.setIfInBounds_toArray, List.set_cons_zero, List.set_cons_succ]
  refine wpAnyH_ready (rs := [15]) (by kernel_rfl) (by simp) ?_
  refine AllReadyH.cons rfl (fun K hK => ?_) AllReadyH.nil
  go_simp
  have HS := Lib.hid (HS.out.set 6 (.string key))
  refine hK.out _ _ HS.out (fun _ => ?_)
  clear hK K
  refine wpAnyH_look (i := 16) (v := ?v16) 26 rfl (by kernel_rfl) (by kernel_rfl) (by kernel_rfl) (fun _ _ _ _ h => h) (by rfl) HS.out (Or.inl ⟨by rfl, ?y16⟩) ?r16
  case y16 => intro w hSw; (try dsimp only at hSw); go_simp; (try with_reducible rfl)
  simp only [List.setIfInBounds_toArray, List.set_cons_zero, List.set_cons_succ]
  refine wpAnyH_look (i := 17) (v := ?v17) 27 rfl (by kernel_rfl) (by kernel_rfl) (by kernel_rfl) (fun _ _ _ _ h => h) (by rfl) HS.out (Or.inl ⟨by rfl, ?y17⟩) ?r17
  case y17 => intro w hSw; (try dsimp only at hSw); go_simp; (try with_reducible rfl)
  simp only [List.setIfInBounds_toArray, List.set_cons_zero, List.set_cons_succ]
  refine wpAnyH_ready (rs := [18]) (by kernel_rfl) (by simp) ?_
  refine AllReadyH.cons rfl (fun K hK => ?_) AllReadyH.nil
  go_simp
  have HS := Lib.hid (HS.out.set 7 (.int .u64 (sumU x key.data.toList)))
  refine hK.out _ _ HS.out (fun _ => ?_)
  clear hK K
  -- END
  refine ⟨by kernel_rfl, ?_⟩
  have HZ := Lib.hid (X3.out.set key (sumU x key.data.toList))
  clear e0 e1 e2 e3 e4 e5 e6 e7 z0 z1 z2 z3 z4 z5 z6 z7 HS
  generalize ((((((((x2.setCell ⟨W.heap.size + 1, 0, none⟩ (.int .i64 a)).setCell ⟨W.heap.size + 1, 1, none⟩ (.int .i64 p)).setCell ⟨W.heap.size + 1, 2, none⟩ (.int .i64 s)).setCell ⟨W.heap.size + 1, 3, none⟩ (.int .i64 q)).setCell ⟨W.heap.size + 1, 4, none⟩ (.int .i64 v)).setCell ⟨W.heap.size + 1, 5, none⟩ (.int .u64 x)).setCell ⟨W.heap.size + 1, 6, none⟩ (.string key)).setCell ⟨W.heap.size + 1, 7, none⟩ (.int .u64 (sumU x key.data.toList))) = X5 at HZ ⊢
  have HF := Lib.hid hF
  have HLc := Lib.hid (HLk.out X5 (W.heap.size + 1) (by have := HZ.out.1; rw [← HF.out]; exact this))
  clear hF hFn hFs HLk0
  go_wp2_with fail
  refine HLc.out.mono ?_
  rintro en X6 ⟨rfl, h6, s6⟩
  have HE := Lib.hid (show NewE (lookN (newF a p s q v x key) 0) W (.returned (.pointer (some ⟨W.heap.size + 1, 0, none⟩))) X6 from by
    rw [HF.out]
    rw [lookY_none] at h6
    exact ⟨_, rfl, Nat.le_succ _, h6, HZ.out.2.trans (s6.below (by have := HZ.out.2.size; exact this) (fun k hk e => by omega))⟩)
  clear h6 s6
  go_wp2_with fail
  go_ret
  exact HE.out

end Go.Proofs.Ytdnjlpccopeagaa
