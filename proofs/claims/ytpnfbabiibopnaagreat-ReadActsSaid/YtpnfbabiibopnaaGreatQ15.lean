/-
  Find2, Findm, Fref, in one text.
-/
import Derived.Test.YtpnfbabiibopnaaGreatLook
import Derived.Test.YtpnfbabiibopnaaGreatQ10
import Derived.Deep.RegionHeld3
import Derived.Test.YtpnfbabiibopnaaGreatQ13
import Derived.Test.YtpnfbabiibopnaaGreatCref
/-! find's routine: Take and New. -/
namespace Go.Proofs.YtpnfbabiibopnaaGreat
open Go Go.RowKit
attribute [local go_sem ↓] Go.wp_at_zero Go.wp_at_succ

/-! ### Take -/
set_option maxRecDepth 100000 in
set_option maxHeartbeats 2000000 in
/-- Where there is something to do. -/
theorem ftake_any (W : World) {r : Nat} {d : FindR} {i : Nat} {y : ActD} (h : W.heap[r]? = some (fndO (d.to i y 0 0))) (hn : 0 ≤ d.n ∧ d.n ≤ 18446744073709551615) (hs : 1 ≤ d.s ∧ d.s ≤ 64) (hi : (i : Int) ≤ d.s) (hy : y.kind = 1 ∨ y.kind = 6) (w : Nat) (t : ByteArray) :
    Calls Tryz.prog 35 #[.pointer (some ⟨r, 0, none⟩), gotV w t] W (LookE (lookY d w t i y) r W) := by
  have hrn : ∀ X : World, (binOp .neq 31 (actV y.kind y.block y.cell y.old y.new y.text) (actV 0 0 0 0 0 ⟨#[]⟩)).run Tryz.prog X = .ok (.bool true) X := fun X => by
    rw [neqA_run]
    have : (y.kind == 0) = false := by rcases hy with e | e <;> rw [e] <;> rfl
    simp [this]
  have hB := below_alloc W (gotO w t)
  have HA := Lib.hid (fact_any (W.alloc (gotO w t)) ((hB.block r (heap_at_lt h)).trans h) (y := y) rfl hrn)
  have hG := World.alloc_heap_new W (gotO w t)
  have HFin := Lib.hid (fun (X : World) (hb : Below W.heap.size W X) e X' (hl : LookE (lookY d w t i y) r X e X') => (show LookE (lookY d w t i y) r W e X' from ⟨hl.1, hl.2.1, (Step.of_below hb).trans hl.2.2⟩))
  have HL := Lib.hid (fun (X : World) (hb : Below W.heap.size W X) => look_any X ((hb.block r (heap_at_lt h)).trans h) hn hs hi (.inr hy) w t)
  have HB := Lib.hid hB
  have HG := Lib.hid hG
  clear hrn h hn hs hi hy hB hG
  go_enter Tryz.func35, Tryz.ntmps35
  go_wp2_with fail
  refine HA.out.mono ?_
  rintro en w1 ⟨rfl, hb⟩
  have HB2 := Lib.hid (((HB.out.trans (hb.mono HB.out.size))).trans ((below_alloc w1 (actO y)).mono (Nat.le_trans HB.out.size hb.size)))
  have HG2 := Lib.hid (((below_alloc w1 (actO y)).block _ (Nat.lt_of_lt_of_le (heap_at_lt HG.out) hb.size)).trans ((hb.block _ (heap_at_lt HG.out)).trans HG.out))
  clear hb
  obtain ⟨g0, g1⟩ := two_at HG2.out
  go_wp2_with fail
  refine (HL.out _ HB2.out).mono ?_
  intro e X' hl
  have HE := Lib.hid (HFin.out _ HB2.out e X' hl)
  obtain ⟨rfl, -, -⟩ := hl
  go_wp2_with fail
  go_end0
  exact HE.out

/-! ### New -/
/-- A routine that looks for a key. -/
def newF (a p s q v x : Int) (key : ByteArray) : FindR := ⟨a, p, s, q, v, x, key, sumU x key.data.toList, 0, noAct, 0, 0⟩
def NewE (d : FindR) (W : World) (e : Ending) (W' : World) : Prop := ∃ r, e = .returned (.pointer (some ⟨r, 0, none⟩)) ∧ W.heap.size ≤ r ∧ W'.heap[r]? = some (fndO d) ∧ Below W.heap.size W W'

set_option maxRecDepth 100000 in
set_option maxHeartbeats 2000000 in
theorem fnew_bad (W : World) (a p s q v x : Int) (key : ByteArray) (hr : rightC a p s q v = false) :
    Calls Tryz.prog 20 #[cfV a p s q v x, .string key] W (NewE FindR.zero W) := by
  have HR := Lib.hid (fun X : World => cright_any a p s q v x X)
  rw [hr] at HR
  have hX0 := BoxC.start W a p s q v x
  have HN := Lib.hid (show ((W.alloc (.cells #[.int .i64 a, .int .i64 p, .int .i64 s, .int .i64 q, .int .i64 v, .int .u64 x] 24)).alloc (fndO FindR.zero)).heap[W.heap.size + 1]? = some (fndO FindR.zero) from by have := World.alloc_heap_new (W.alloc (.cells #[.int .i64 a, .int .i64 p, .int .i64 s, .int .i64 q, .int .i64 v, .int .u64 x] 24)) (fndO FindR.zero); rwa [World.size_alloc] at this)
  have X1 := Lib.hid (hX0.below (below_alloc _ (fndO FindR.zero)))
  obtain ⟨c0, c1, c2, c3, c4, c5⟩ := X1.out.six
  clear hr hX0
  go_enter Tryz.func20, Tryz.ntmps20
  go_wp2_with fail
  refine (HR.out _).mono ?_
  rintro e w1 ⟨rfl, hb⟩
  have HB := Lib.hid (X1.out.below hb)
  have HN1 := Lib.hid ((hb.block _ (heap_at_lt HN.out)).trans HN.out)
  clear hb
  go_wp2_with fail
  go_ret
  exact ⟨_, rfl, Nat.le_succ _, HN1.out, HB.out.lo⟩

/-- A config in its box, and the routine that is made. -/
structure NewI (W : World) (a p s q v x : Int) (d : FindR) (X : World) : Prop where
  bx : BoxC W a p s q v x X
  own : X.heap[W.heap.size + 1]? = some (fndO d)
section
variable {W X Y : World} {a p s q v x : Int} {d : FindR}
theorem NewI.below (h : NewI W a p s q v x d X) (hb : Below X.heap.size X Y) : NewI W a p s q v x d Y := ⟨h.bx.below hb, (hb.block _ (heap_at_lt h.own)).trans h.own⟩
theorem NewI.eight (h : NewI W a p s q v x d X) : (∀ i, X.frozen? ⟨W.heap.size + 1, i, none⟩ = false) := fun i => fnd_free h.own i
/-- The three fields are set. -/
theorem NewI.set (h : NewI W a p s q v x FindR.zero X) (key : ByteArray) (n : Int) :
    (((((((((X.setCell ⟨W.heap.size + 1, 0, none⟩ (.int .i64 a)).setCell ⟨W.heap.size + 1, 1, none⟩ (.int .i64 p)).setCell ⟨W.heap.size + 1, 2, none⟩ (.int .i64 s)).setCell ⟨W.heap.size + 1, 3, none⟩ (.int .i64 q)).setCell ⟨W.heap.size + 1, 4, none⟩ (.int .i64 v)).setCell ⟨W.heap.size + 1, 5, none⟩ (.int .u64 x)).setCell ⟨W.heap.size + 1, 6, none⟩ (.string key)).setCell ⟨W.heap.size + 1, 7, none⟩ (.int .u64 n))).heap[W.heap.size + 1]? = some (fndO ⟨a, p, s, q, v, x, key, n, 0, noAct, 0, 0⟩) ∧
    Below W.heap.size W (((((((((X.setCell ⟨W.heap.size + 1, 0, none⟩ (.int .i64 a)).setCell ⟨W.heap.size + 1, 1, none⟩ (.int .i64 p)).setCell ⟨W.heap.size + 1, 2, none⟩ (.int .i64 s)).setCell ⟨W.heap.size + 1, 3, none⟩ (.int .i64 q)).setCell ⟨W.heap.size + 1, 4, none⟩ (.int .i64 v)).setCell ⟨W.heap.size + 1, 5, none⟩ (.int .u64 x)).setCell ⟨W.heap.size + 1, 6, none⟩ (.string key)).setCell ⟨W.heap.size + 1, 7, none⟩ (.int .u64 n))) := by
  refine ⟨?_, ?_⟩
  · have e0 := heap_setAt (o := 0) (u := .int .i64 a) h.own
    have e1 := heap_setAt (o := 1) (u := .int .i64 p) e0
    have e2 := heap_setAt (o := 2) (u := .int .i64 s) e1
    have e3 := heap_setAt (o := 3) (u := .int .i64 q) e2
    have e4 := heap_setAt (o := 4) (u := .int .i64 v) e3
    have e5 := heap_setAt (o := 5) (u := .int .u64 x) e4
    have e6 := heap_setAt (o := 6) (u := .string key) e5
    have e7 := heap_setAt (o := 7) (u := .int .u64 n) e6
    simp only [List.setIfInBounds_toArray, List.set_cons_zero, List.set_cons_succ] at e7
    exact e7
  · have hl := Nat.le_succ W.heap.size
    exact (((((((h.bx.lo.setCell (p := ⟨W.heap.size + 1, 0, none⟩) hl _).setCell (p := ⟨W.heap.size + 1, 1, none⟩) hl _).setCell (p := ⟨W.heap.size + 1, 2, none⟩) hl _).setCell (p := ⟨W.heap.size + 1, 3, none⟩) hl _).setCell (p := ⟨W.heap.size + 1, 4, none⟩) hl _).setCell (p := ⟨W.heap.size + 1, 5, none⟩) hl _).setCell (p := ⟨W.heap.size + 1, 6, none⟩) hl _).setCell (p := ⟨W.heap.size + 1, 7, none⟩) hl _
end

/-- The config's box, whatever is set elsewhere. -/
def SixN (W : World) (a p s q v x : Int) (X : World) : Prop := X.cell? ⟨W.heap.size, 0, none⟩ = some (.int .i64 a) ∧ X.cell? ⟨W.heap.size, 1, none⟩ = some (.int .i64 p) ∧ X.cell? ⟨W.heap.size, 2, none⟩ = some (.int .i64 s) ∧ X.cell? ⟨W.heap.size, 3, none⟩ = some (.int .i64 q) ∧ X.cell? ⟨W.heap.size, 4, none⟩ = some (.int .i64 v) ∧ X.cell? ⟨W.heap.size, 5, none⟩ = some (.int .u64 x)
theorem SixN.set {W X : World} {a p s q v x : Int} (h : SixN W a p s q v x X) (o : Nat) (u : Value) : SixN W a p s q v x (X.setCell ⟨W.heap.size + 1, o, none⟩ u) := by
  have hc : ∀ i, (X.setCell ⟨W.heap.size + 1, o, none⟩ u).cell? ⟨W.heap.size, i, none⟩ = X.cell? ⟨W.heap.size, i, none⟩ := fun i => World.cell?_of_block (a := ⟨W.heap.size, i, none⟩) (Below.heap_setCell _ _ _ _ (Nat.ne_of_lt (Nat.lt_succ_self _)))
  obtain ⟨h0, h1, h2, h3, h4, h5⟩ := h
  exact ⟨(hc _).trans h0, (hc _).trans h1, (hc _).trans h2, (hc _).trans h3, (hc _).trans h4, (hc _).trans h5⟩
theorem NewI.sixN {W X : World} {a p s q v x : Int} {d : FindR} (h : NewI W a p s q v x d X) : SixN W a p s q v x X := h.bx.six

set_option maxRecDepth 100000 in
set_option maxHeartbeats 4000000 in
theorem fnew_any (W : World) (a p s q v x : Int) (key : ByteArray) (hr : rightC a p s q v = true) (hk : key.size ≤ 281474976710656) :
    Calls Tryz.prog 20 #[cfV a p s q v x, .string key] W (NewE (lookN (newF a p s q v x key) 0) W) := by
  have HR := Lib.hid (fun X : World => cright_any a p s q v x X)
  rw [hr] at HR
  have hrc := rightC_bd hr
  have hX0 := BoxC.start W a p s q v x
  have HN := show ((W.alloc (.cells #[.int .i64 a, .int .i64 p, .int .i64 s, .int .i64 q, .int .i64 v, .int .u64 x] 24)).alloc (fndO FindR.zero)).heap[W.heap.size + 1]? = some (fndO FindR.zero) from by have := World.alloc_heap_new (W.alloc (.cells #[.int .i64 a, .int .i64 p, .int .i64 s, .int .i64 q, .int .i64 v, .int .u64 x] 24)) (fndO FindR.zero); rwa [World.size_alloc] at this
  have X1 := Lib.hid (show NewI W a p s q v x FindR.zero _ from ⟨hX0.below (below_alloc _ (fndO FindR.zero)), HN⟩)
  obtain ⟨c0, c1, c2, c3, c4, c5⟩ := X1.out.bx.six
  have HC := Lib.hid (fun X => clone_any key X hk)
  have HSm := Lib.hid (fun X => (show Calls Tryz.prog 52 #[.int .u64 x, .string key] X (fun e w' => e = .returned (.int .u64 (sumU x key.data.toList)) ∧ w' = X) from (sum_any x key X (by omega)).mono fun _ _ h => ⟨h.1, h.2.symm⟩))
  obtain ⟨F, hF⟩ : ∃ F, newF a p s q v x key = F := ⟨_, rfl⟩
  have hFn : 0 ≤ F.n ∧ F.n ≤ 18446744073709551615 := by rw [← hF]; exact sumU_bd _ _
  have hFs : F.s = s := by rw [← hF]; rfl
  have HLk0 := fun (r : Nat) (X : World) (hX : X.heap[r]? = some (fndO (F.to ((0 : Nat) : Int) noAct 0 0))) => look_any X hX hFn (by rw [hFs]; exact hrc.2.2) (by rw [hFs]; omega) (.inl rfl) 0 ⟨#[]⟩
  have HLk := Lib.hid (fun (X : World) r (hX : X.heap[r]? = some (fndO (F.to ((0 : Nat) : Int) noAct 0 0))) => HLk0 r X hX)
  clear hr hX0 HN hk hrc
  go_enter Tryz.func20, Tryz.ntmps20
  go_wp2_with fail
  refine (HR.out _).mono ?_
  rintro e w1 ⟨rfl, hb⟩
  have X2 := Lib.hid (X1.out.below hb)
  clear hb c0 c1 c2 c3 c4 c5 X1
  go_wp2_with fail
  obtain ⟨c0, c1, c2, c3, c4, c5⟩ := X2.out.bx.six
  have HS := Lib.hid (show SixN W a p s q v x w1.drew from X2.out.bx.drew.six)
  clear c0 c1 c2 c3 c4 c5
  refine wp_region_held_drew (S := fun w' => w'.cell? ⟨W.heap.size, 0, none⟩ = some (.int .i64 a) ∧ w'.cell? ⟨W.heap.size, 1, none⟩ = some (.int .i64 p) ∧ w'.cell? ⟨W.heap.size, 2, none⟩ = some (.int .i64 s) ∧ w'.cell? ⟨W.heap.size, 3, none⟩ = some (.int .i64 q) ∧ w'.cell? ⟨W.heap.size, 4, none⟩ = some (.int .i64 v) ∧ w'.cell? ⟨W.heap.size, 5, none⟩ = some (.int .u64 x)) (by kernel_rfl) HS.out (fun _ => ?_)
  refine (fun h => h) ?_
  -- BEGIN
  refine wpAnyH_look (i := 0) (v := ?v0) 12 rfl (by kernel_rfl) (by kernel_rfl) (by kernel_rfl) (fun _ _ _ _ h => h) (by rfl) HS.out (Or.inl ⟨by rfl, ?y0⟩) ?r0
  case y0 => intro w hSw; (try dsimp only at hSw); go_simp; (try with_reducible rfl)
  simp only [List.setIfInBounds_toArray, List.set_cons_zero, List.set_cons_succ]
  refine wpAnyH_look (i := 1) (v := ?v1) 13 rfl (by kernel_rfl) (by kernel_rfl) (by kernel_rfl) (fun _ _ _ _ h => h) (by rfl) HS.out (Or.inl ⟨by rfl, ?y1⟩) ?r1
  case y1 => intro w hSw; (try dsimp only at hSw); go_simp; (try with_reducible rfl)
  simp only [List.setIfInBounds_toArray, List.set_cons_zero, List.set_cons_succ]
  refine wpAnyH_look (i := 2) (v := ?v2) 14 rfl (by kernel_rfl) (by kernel_rfl) (by kernel_rfl) (fun _ _ _ _ h => h) (by rfl) HS.out (Or.inl ⟨by rfl, ?y2⟩) ?r2
  case y2 => intro w hSw; (try dsimp only at hSw); go_simp; (try with_reducible rfl)
  simp only [List.setIfInBounds_toArray, List.set_cons_zero, List.set_cons_succ]
  refine wpAnyH_look (i := 3) (v := ?v3) 15 rfl (by kernel_rfl) (by kernel_rfl) (by kernel_rfl) (fun _ _ _ _ h => h) (by rfl) HS.out (Or.inl ⟨by rfl, ?y3⟩) ?r3
  case y3 => intro w hSw; (try dsimp only at hSw); go_simp; (try with_reducible rfl)
  simp only [List.setIfInBounds_toArray, List.set_cons_zero, List.set_cons_succ]
  refine wpAnyH_look (i := 4) (v := ?v4) 16 rfl (by kernel_rfl) (by kernel_rfl) (by kernel_rfl) (fun _ _ _ _ h => h) (by rfl) HS.out (Or.inl ⟨by rfl, ?y4⟩) ?r4
  case y4 => intro w hSw; (try dsimp only at hSw); go_simp; (try with_reducible rfl)
  simp only [List.setIfInBounds_toArray, List.set_cons_zero, List.set_cons_succ]
  refine wpAnyH_look (i := 6) (v := ?v6) 18 rfl (by kernel_rfl) (by kernel_rfl) (by kernel_rfl) (fun _ _ _ _ h => h) (by rfl) HS.out (Or.inl ⟨by rfl, ?y6⟩) ?r6
  case y6 => intro w hSw; (try dsimp only at hSw); go_simp; (try with_reducible rfl)
  simp only [List.setIfInBounds_toArray, List.set_cons_zero, List.set_cons_succ]
  refine wpAnyH_look (i := 7) (v := ?v7) 19 rfl (by kernel_rfl) (by kernel_rfl) (by kernel_rfl) (fun _ _ _ _ h => h) (by rfl) HS.out (Or.inl ⟨by rfl, ?y7⟩) ?r7
  case y7 => intro w hSw; (try dsimp only at hSw); go_simp; (try with_reducible rfl)
  simp only [List.setIfInBounds_toArray, List.set_cons_zero, List.set_cons_succ]
  refine wpAnyH_look (i := 8) (v := ?v8) 20 rfl (by kernel_rfl) (by kernel_rfl) (by kernel_rfl) (fun _ _ _ _ h => h) (by rfl) HS.out (Or.inl ⟨by rfl, ?y8⟩) ?r8
  case y8 => intro w hSw; (try dsimp only at hSw); go_simp; (try with_reducible rfl)
  simp only [List.setIfInBounds_toArray, List.set_cons_zero, List.set_cons_succ]
  refine wpAnyH_ready (rs := [5]) (by kernel_rfl) (by simp) ?_
  refine AllReadyH.cons rfl (fun K hK => ?_) AllReadyH.nil
  go_simp
  go_at_call 51
  refine (HC.out _).mono ?_
  rintro en x1 ⟨rfl, hb⟩
  have X3 := Lib.hid ((X2.out.below (below_drew _)).below hb)
  have HS := Lib.hid X3.out.sixN
  clear hb
  go_simp
  refine hK.out _ _ HS.out (fun _ => ?_)
  clear hK K
  refine wpAnyH_ready (rs := [9]) (by kernel_rfl) (by simp) ?_
  refine AllReadyH.cons rfl (fun K hK => ?_) AllReadyH.nil
  go_simp
  go_at_call 52
  refine (HSm.out _).mono ?_
  rintro en x2 ⟨rfl, rfl⟩
  skip
  go_simp
  refine hK.out _ _ HS.out (fun _ => ?_)
  clear hK K
  refine wpAnyH_look (i := 10) (v := ?v10) 22 rfl (by kernel_rfl) (by kernel_rfl) (by kernel_rfl) (fun _ _ _ _ h => h) (by rfl) HS.out (Or.inl ⟨by rfl, ?y10⟩) ?r10
  case y10 => intro w hSw; (try dsimp only at hSw); go_simp; (try with_reducible rfl)
  simp only [List.setIfInBounds_toArray, List.set_cons_zero, List.set_cons_succ]
  refine wpAnyH_look (i := 11) (v := ?v11) 23 rfl (by kernel_rfl) (by kernel_rfl) (by kernel_rfl) (fun _ _ _ _ h => h) (by rfl) HS.out (Or.inl ⟨by rfl, ?y11⟩) ?r11
  case y11 => intro w hSw; (try dsimp only at hSw); go_simp; (try with_reducible rfl)
  simp only [List.setIfInBounds_toArray, List.set_cons_zero, List.set_cons_succ]
  obtain ⟨⟨e0, e1, e2, e3, e4, e5⟩, ⟨e6, e7, -⟩, -, -⟩ := fnd_at X3.out.own
  have hfr := X3.out.eight
  have z0 := hfr 0
  have z1 := hfr 1
  have z2 := hfr 2
  have z3 := hfr 3
  have z4 := hfr 4
  have z5 := hfr 5
  have z6 := hfr 6
  have z7 := hfr 7
  clear hfr
  refine wpAnyH_ready (rs := [12]) (by kernel_rfl) (by simp) ?_
  refine AllReadyH.cons rfl (fun K hK => ?_) AllReadyH.nil
  go_simp
  have HS := Lib.hid ((((((HS.out.set 0 (.int .i64 a)).set 1 (.int .i64 p)).set 2 (.int .i64 s)).set 3 (.int .i64 q)).set 4 (.int .i64 v)).set 5 (.int .u64 x))
  refine hK.out _ _ HS.out (fun _ => ?_)
  clear hK K
  refine wpAnyH_look (i := 13) (v := ?v13) 24 rfl (by kernel_rfl) (by kernel_rfl) (by kernel_rfl) (fun _ _ _ _ h => h) (by rfl) HS.out (Or.inl ⟨by rfl, ?y13⟩) ?r13
  case y13 => intro w hSw; (try dsimp only at hSw); go_simp; (try with_reducible rfl)
  simp only [List.setIfInBounds_toArray, List.set_cons_zero, List.set_cons_succ]
  refine wpAnyH_look (i := 14) (v := ?v14) 25 rfl (by kernel_rfl) (by kernel_rfl) (by kernel_rfl) (fun _ _ _ _ h => h) (by rfl) HS.out (Or.inl ⟨by rfl, ?y14⟩) ?r14
  case y14 => intro w hSw; (try dsimp only at hSw); go_simp; (try with_reducible rfl)
  simp only [List.setIfInBounds_toArray, List.set_cons_zero, List.set_cons_succ]
  refine wpAnyH_ready (rs := [15]) (by kernel_rfl) (by simp) ?_
  refine AllReadyH.cons rfl (fun K hK => ?_) AllReadyH.nil
  go_simp
  have HS := Lib.hid (HS.out.set 6 (.string key))
  refine hK.out _ _ HS.out (fun _ => ?_)
  clear hK K
  refine wpAnyH_look (i := 16) (v := ?v16) 26 rfl (by kernel_rfl) (by kernel_rfl) (by kernel_rfl) (fun _ _ _ _ h => h) (by rfl) HS.out (Or.inl ⟨by rfl, ?y16⟩) ?r16
  case y16 => intro w hSw; (try dsimp only at hSw); go_simp; (try with_reducible rfl)
  simp only [List.setIfInBounds_toArray, List.set_cons_zero, List.set_cons_succ]
  refine wpAnyH_look (i := 17) (v := ?v17) 27 rfl (by kernel_rfl) (by kernel_rfl) (by kernel_rfl) (fun _ _ _ _ h => h) (by rfl) HS.out (Or.inl ⟨by rfl, ?y17⟩) ?r17
  case y17 => intro w hSw; (try dsimp only at hSw); go_simp; (try with_reducible rfl)
  simp only [List.setIfInBounds_toArray, List.set_cons_zero, List.set_cons_succ]
  refine wpAnyH_ready (rs := [18]) (by kernel_rfl) (by simp) ?_
  refine AllReadyH.cons rfl (fun K hK => ?_) AllReadyH.nil
  go_simp
  have HS := Lib.hid (HS.out.set 7 (.int .u64 (sumU x key.data.toList)))
  refine hK.out _ _ HS.out (fun _ => ?_)
  clear hK K
  -- END
  refine ⟨by kernel_rfl, ?_⟩
  have HZ := Lib.hid (X3.out.set key (sumU x key.data.toList))
  clear e0 e1 e2 e3 e4 e5 e6 e7 z0 z1 z2 z3 z4 z5 z6 z7 HS
  generalize ((((((((x2.setCell ⟨W.heap.size + 1, 0, none⟩ (.int .i64 a)).setCell ⟨W.heap.size + 1, 1, none⟩ (.int .i64 p)).setCell ⟨W.heap.size + 1, 2, none⟩ (.int .i64 s)).setCell ⟨W.heap.size + 1, 3, none⟩ (.int .i64 q)).setCell ⟨W.heap.size + 1, 4, none⟩ (.int .i64 v)).setCell ⟨W.heap.size + 1, 5, none⟩ (.int .u64 x)).setCell ⟨W.heap.size + 1, 6, none⟩ (.string key)).setCell ⟨W.heap.size + 1, 7, none⟩ (.int .u64 (sumU x key.data.toList))) = X5 at HZ ⊢
  have HF := Lib.hid hF
  have HLc := Lib.hid (HLk.out X5 (W.heap.size + 1) (by have := HZ.out.1; rw [← HF.out]; exact this))
  clear hF hFn hFs HLk0
  go_wp2_with fail
  refine HLc.out.mono ?_
  rintro en X6 ⟨rfl, h6, s6⟩
  have HE := Lib.hid (show NewE (lookN (newF a p s q v x key) 0) W (.returned (.pointer (some ⟨W.heap.size + 1, 0, none⟩))) X6 from by
    rw [HF.out]
    rw [lookY_none] at h6
    exact ⟨_, rfl, Nat.le_succ _, h6, HZ.out.2.trans (s6.below (by have := HZ.out.2.size; exact this) (fun k hk e => by omega))⟩)
  clear h6 s6
  go_wp2_with fail
  go_ret
  exact HE.out

end Go.Proofs.YtpnfbabiibopnaaGreat

/-! find's routine as a kind of routine. -/
namespace Go.Proofs.YtpnfbabiibopnaaGreat
open Go Go.RowKit

/-- A routine that may be. -/
structure FindR.fits (E : FindR) : Prop where
  rc : rightC E.a E.p E.s E.q E.v = true
  n : 0 ≤ E.n ∧ E.n ≤ 18446744073709551615
  i : 0 ≤ E.i ∧ E.i ≤ E.s
  y : E.y = noAct ∨ ((E.y.kind = 1 ∨ E.y.kind = 6) ∧ E.k = 0 ∧ E.sh = 0 ∧ E.y.fits)
def nextF (E : FindR) : Option ActD := if E.y.kind = 0 then none else some E.y
def takeF (E : FindR) (w : Int) (t : ByteArray) : FindR := lookY E w.toNat t E.i.toNat E.y
theorem keyW_bd {a p s q v i : Int} : -1 ≤ keyW a p s q v i ∧ keyW a p s q v i ≤ 200 := by
  unfold keyW
  split
  · rename_i h
    obtain ⟨ha, hp, hs⟩ := rightC_bd h.1
    omega
  · omega
theorem loadF_fits (d : FindR) (i : Nat) : (loadF d i).fits := by
  have := keyW_bd (a := d.a) (p := d.p) (s := d.s) (q := d.q) (v := d.v) (i := d.way i)
  have he : (⟨#[]⟩ : ByteArray).size = 0 := rfl
  unfold ActD.fits loadF
  simp only
  omega
theorem wordsF_fits {w : Nat} (hw : w < 18446744073709551616) : (wordsF w).fits := by
  have he : (⟨#[]⟩ : ByteArray).size = 0 := rfl
  unfold ActD.fits wordsF
  simp only
  omega
section
variable {E : FindR}
theorem lookN_fits (h : E.fits) {i : Nat} (hi : (i : Int) ≤ E.s) : (lookN E i).fits := by
  unfold lookN
  split
  · exact ⟨h.rc, h.n, ⟨by simp only [FindR.to]; omega, hi⟩, .inr ⟨.inl rfl, rfl, rfl, loadF_fits E i⟩⟩
  · exact ⟨h.rc, h.n, ⟨by simp only [FindR.to]; omega, hi⟩, .inl rfl⟩
theorem lookY_fits (h : E.fits) {w : Nat} (hw : w < 18446744073709551616) (t : ByteArray) {i : Nat} (hi : (i : Int) ≤ E.s) (y : ActD) : (lookY E w t i y).fits := by
  have hi0 : 0 ≤ (i : Int) := by omega
  unfold lookY
  split
  · split
    · exact ⟨h.rc, h.n, ⟨hi0, hi⟩, .inr ⟨.inl rfl, rfl, rfl, loadF_fits E i⟩⟩
    split
    · split
      · exact ⟨h.rc, h.n, ⟨hi0, hi⟩, .inl rfl⟩
      · exact ⟨h.rc, h.n, ⟨hi0, hi⟩, .inr ⟨.inr rfl, rfl, rfl, wordsF_fits hw⟩⟩
    split
    · exact ⟨h.rc, h.n, ⟨hi0, hi⟩, .inl rfl⟩
    · exact lookN_fits h (by omega)
  · exact ⟨h.rc, h.n, ⟨hi0, hi⟩, .inl rfl⟩
theorem takeF_fits (h : E.fits) {w : Int} (hw : 0 ≤ w ∧ w < 18446744073709551616) (t : ByteArray) : (takeF E w t).fits :=
  lookY_fits h (by omega) t (by have := h.i; omega) E.y
end

/-! ### in memory -/
structure FindAt (W : World) (B r : Nat) (E : FindR) (f : Nat → Prop) : Prop where
  own : W.heap[r]? = some (fndO E)
  foot : f = fun k => k = r
  base : B ≤ r
  fits : E.fits
theorem FindAt.stays {W W' : World} {B r : Nat} {E : FindR} {f : Nat → Prop} (h : FindAt W B r E f) (hs : ∀ k, f k → W'.heap[k]? = W.heap[k]?) : FindAt W' B r E f := ⟨(hs r (by rw [h.foot])).trans h.own, h.foot, h.base, h.fits⟩
theorem FindAt.lt {W : World} {B r : Nat} {E : FindR} {f : Nat → Prop} (h : FindAt W B r E f) : ∀ k, f k → k < W.heap.size := fun k hk => by
  rw [h.foot] at hk; subst hk; exact heap_at_lt h.own
theorem FindAt.below {W W' : World} {B r : Nat} {E : FindR} {f : Nat → Prop} (h : FindAt W B r E f) (hb : Below W.heap.size W W') : FindAt W' B r E f := h.stays (fun k hk => hb.block k (h.lt k hk))
theorem FindAt.act {W : World} {B r : Nat} {E : FindR} {f : Nat → Prop} (h : FindAt W B r E f) : Calls Tryz.prog 22 #[.pointer (some ⟨r, 0, none⟩)] W fun e W' => e = .returned (.tuple #[actOf ((nextF E).getD noAct), .bool (nextF E).isSome]) ∧ Below W.heap.size W W' := by
  by_cases hk : E.y.kind = 0
  · have hy : E.y = noAct := by
      rcases h.fits.y with e | ⟨e | e, _⟩
      · exact e
      · rw [hk] at e; cases e
      · rw [hk] at e; cases e
    have en : nextF E = none := by unfold nextF; rw [if_pos hk]
    rw [en]
    exact fact_any W h.own (y := noAct) (q := false) hy (fun w => neqA_same _ _ _ _ _ _ w)
  · have en : nextF E = some E.y := by unfold nextF; rw [if_neg hk]
    rw [en]
    refine fact_any W h.own (y := E.y) (q := true) rfl (fun w => ?_)
    rw [neqA_run]
    have : (E.y.kind == 0) = false := by simpa using hk
    simp [this]
theorem nextF_some {E : FindR} {x : ActD} (h : nextF E = some x) : x = E.y ∧ E.y.kind ≠ 0 := by
  unfold nextF at h
  split at h
  · cases h
  · exact ⟨(Option.some.inj h).symm, by assumption⟩
theorem nextF_kind {E : FindR} {x : ActD} (hE : E.fits) (h : nextF E = some x) : (x.kind = 1 ∨ x.kind = 6) ∧ E.k = 0 ∧ E.sh = 0 ∧ x.fits := by
  obtain ⟨rfl, hk⟩ := nextF_some h
  rcases hE.y with e | e
  · rw [e] at hk; exact absurd rfl hk
  · exact e
theorem find_takes {W : World} {B r : Nat} {E : FindR} {f : Nat → Prop} {w : Int} {t : ByteArray} (h : FindAt W B r E f) (hs : (nextF E).isSome = true) (hg : Good w t) :
    Calls Tryz.prog 35 #[.pointer (some ⟨r, 0, none⟩), gotV w t] W fun e W' => ∃ f', e = .returned (.tuple #[]) ∧ FindAt W' B r (takeF E w t) f' ∧ Step f f' W W' := by
  obtain ⟨x, hx⟩ := Option.isSome_iff_exists.1 hs
  obtain ⟨hk, h0, h1, -⟩ := nextF_kind h.fits hx
  obtain ⟨rfl, -⟩ := nextF_some hx
  have e : ((w.toNat : Nat) : Int) = w := by have := hg.1; omega
  have ei : ((E.i.toNat : Nat) : Int) = E.i := by have := h.fits.i; omega
  have ho : W.heap[r]? = some (fndO (E.to (E.i.toNat : Nat) E.y 0 0)) := by
    rw [h.own, ei]
    have : E = E.to E.i E.y 0 0 := by
      obtain ⟨a, p, s, q, v, x, key, n, i, y, k, sh⟩ := E
      simp only at h0 h1
      subst h0 h1
      rfl
    rw [← this]
  have hc := ftake_any W ho h.fits.n (rightC_bd h.fits.rc).2.2 (by rw [ei]; exact h.fits.i.2) hk w.toNat t
  rw [e] at hc
  refine hc.mono ?_
  rintro en W' ⟨rfl, h2, h3⟩
  refine ⟨fun k => k = r, rfl, ⟨h2, rfl, h.base, takeF_fits h.fits hg.1 t⟩, ?_⟩
  rw [h.foot]; exact h3

theorem find_metA (n r : Nat) (w : World) : (method (n + 1) 64 (.pointer (some ⟨r, 0, none⟩)) "Act").run Tryz.prog w = .ok (22, .pointer (some ⟨r, 0, none⟩)) w := by kernel_rfl
theorem find_metT (n r : Nat) (w : World) : (method (n + 1) 64 (.pointer (some ⟨r, 0, none⟩)) "Take").run Tryz.prog w = .ok (35, .pointer (some ⟨r, 0, none⟩)) w := by kernel_rfl
theorem find_entA (args : Array Value) (w : World) : (callFunc 22 args).run Tryz.prog w = .ok (.enter 22 args) w := enters_of Tryz.func22 (by kernel_rfl) rfl args w
theorem find_entT (args : Array Value) (w : World) : (callFunc 35 args).run Tryz.prog w = .ok (.enter 35 args) w := enters_of Tryz.func35 (by kernel_rfl) rfl args w
def FindM : Mach FindR where
  tid := 64
  fA := 22
  fT := 35
  next := nextF
  take := takeF
  At := FindAt
  metA := find_metA
  metT := find_metT
  entA := find_entA
  entT := find_entT
  stays := fun h hs => h.stays hs
  lt := fun h => h.lt
  base := fun h k hk => by rw [h.foot] at hk; subst hk; exact h.base
  self := fun h => by rw [h.foot]
  fits := fun h hx => (nextF_kind h.fits hx).2.2.2
  act := fun h => h.act
  takes := fun h hs hg => find_takes h hs hg
theorem newF_fits {a p s q v x : Int} (hr : rightC a p s q v = true) (key : ByteArray) : (lookN (newF a p s q v x key) 0).fits := by
  have hs := (rightC_bd hr).2.2
  have h0 : (newF a p s q v x key).fits := ⟨hr, sumU_bd _ _, ⟨Int.le_refl _, by show (0 : Int) ≤ s; omega⟩, .inl rfl⟩
  exact lookN_fits h0 (by show ((0 : Nat) : Int) ≤ s; omega)

end Go.Proofs.YtpnfbabiibopnaaGreat

/-! The reference's Find on a tape. -/
namespace Go.Proofs.YtpnfbabiibopnaaGreat
open Go Go.RowKit
attribute [local go_sem ↓] Go.wp_at_zero Go.wp_at_succ

section
variable {W : World} {b c : Nat} {ga : Option Addr} {G : List (Int × ByteArray)} {T : TapD}
end
/-! ### plain -/
/-- What the reference comes to from a place on. -/
def refF (G : List (Int × ByteArray)) (d : FindR) : Nat → Nat → TapD → (Int × Int) × TapD
  | 0, _, T => ((3, 0), T)
  | m + 1, i, T =>
    if (onT G T (loadF d i)).over then ((0, 0), onT G T (loadF d i))
    else if (doW' G T).toNat = 0 then ((2, d.way i), onT G T (loadF d i))
    else if (onT G (onT G T (loadF d i)) (wordsF (doW' G T).toNat)).over then ((0, 0), onT G (onT G T (loadF d i)) (wordsF (doW' G T).toNat))
    else if (doT' G (onT G T (loadF d i))).toList = d.key.toList then ((1, d.way i), onT G (onT G T (loadF d i)) (wordsF (doW' G T).toNat))
    else refF G d m (i + 1) (onT G (onT G T (loadF d i)) (wordsF (doW' G T).toNat))

/-! ### in memory -/
abbrev rfoO (k s : Int) : Obj := .cells #[.int .i64 k, .int .i64 s] 78 (0, 0)
theorem load_rfo {X : World} {n : Nat} {k s : Int} (h : X.heap[n]? = some (rfoO k s)) : (loadVar 78 ⟨n, 0, none⟩).run Tryz.prog X = .ok (fouV k s) X := by
  have m0 := (cell_of (i := 0) h).trans rfl
  have m1 := (cell_of (i := 1) h).trans rfl
  go_simp
structure RefI (W : World) (a p s q v x : Int) (b : Nat) (ga : Option Addr) (c : Nat) (G : List (Int × ByteArray)) (T : TapD) (X : World) : Prop where
  tp : TapAt X b ga c G T
  cf : X.heap[W.heap.size]? = some (.cells (cfC a p s q v x) 24 (0, 0))
  re : X.heap[W.heap.size + 1]? = some (rfoO 0 0)
  st : Step (fun k => k = b) (fun k => k = b) W X
  lt : b < W.heap.size
section
variable {W X Y : World} {a p s q v x : Int} {b c : Nat} {ga : Option Addr} {G : List (Int × ByteArray)} {T T' : TapD}
theorem RefI.below (h : RefI W a p s q v x b ga c G T X) (hb : Below X.heap.size X Y) : RefI W a p s q v x b ga c G T Y :=
  ⟨h.tp.below hb, (hb.block _ (heap_at_lt h.cf)).trans h.cf, (hb.block _ (heap_at_lt h.re)).trans h.re, h.st.trans (Step.of_below hb), h.lt⟩
theorem RefI.next (h : RefI W a p s q v x b ga c G T X) (ht : TapAt Y b ga c G T') (hs : Step (fun k => k = b) (fun k => k = b) X Y) : RefI W a p s q v x b ga c G T' Y :=
  ⟨ht, (hs.block _ (heap_at_lt h.cf) (by have := h.lt; omega)).trans h.cf, (hs.block _ (heap_at_lt h.re) (by have := h.lt; omega)).trans h.re, h.st.trans hs, h.lt⟩
theorem RefI.six (h : RefI W a p s q v x b ga c G T X) : SixC W.heap.size a p s q v x X :=
  ⟨(cell_of h.cf).trans rfl, (cell_of h.cf).trans rfl, (cell_of h.cf).trans rfl, (cell_of h.cf).trans rfl, (cell_of h.cf).trans rfl, (cell_of h.cf).trans rfl⟩
theorem ref_fin (h : RefI W a p s q v x b ga c G T X) (hga : ∀ a, ga = some a → a.block < W.heap.size) {R : (Int × Int) × TapD} {k sh : Int} (hR : ((k, sh), T) = R) {Z : Array Value} (hp : Z.getD 6 undef = .pointer (some ⟨W.heap.size + 1, 0, none⟩)) :
    bodyPost Tryz.prog Tryz.f27 (TapR b ga c G R.2 (fouV R.1.1 R.1.2) W) .ret { tmps := Z, defers := [] } ((X.setCell ⟨W.heap.size + 1, 0, none⟩ (.int .i64 k)).setCell ⟨W.heap.size + 1, 1, none⟩ (.int .i64 sh)) := by
  subst hR
  have hk : ∀ j, j ≠ W.heap.size + 1 → ((X.setCell ⟨W.heap.size + 1, 0, none⟩ (.int .i64 k)).setCell ⟨W.heap.size + 1, 1, none⟩ (.int .i64 sh)).heap[j]? = X.heap[j]? := fun j hj => by
    rw [Below.heap_setCell _ _ _ _ hj, Below.heap_setCell _ _ _ _ hj]
  have h2 : ((X.setCell ⟨W.heap.size + 1, 0, none⟩ (.int .i64 k)).setCell ⟨W.heap.size + 1, 1, none⟩ (.int .i64 sh)).heap[W.heap.size + 1]? = some (rfoO k sh) := heap_setAt (heap_setAt h.re)
  refine bodyPost_ret (v := fouV k sh) (by rw [results_cell1 (by rfl), hp]; simp only [asAddr, Sem.run_pure, Result.andThen_ok, load_rfo h2]) rfl ⟨rfl, ⟨(hk b (by have := h.lt; omega)).trans h.tp.own, h.tp.row.apart (fun a ha => hk _ (by have := hga a ha; omega)), h.tp.off, h.tp.k, h.tp.many⟩, ?_⟩
  exact ⟨h.st.os, h.st.tape, h.st.output, by simpa [World.setCell] using h.st.size, fun j h1 h2 => (hk j (by omega)).trans (h.st.block j h1 h2), fun j hj => .inl hj⟩
end

set_option maxRecDepth 100000 in
set_option maxHeartbeats 4000000 in
theorem rfind_any (W : World) {b c : Nat} {ga : Option Addr} {G : List (Int × ByteArray)} {T : TapD} (h : TapAt W b ga c G T) (hga : ∀ a, ga = some a → a.block < W.heap.size) (hG : ∀ g ∈ G, 0 ≤ g.1 ∧ g.1 < 18446744073709551616)
    (a p s q v x : Int) (key : ByteArray) (hr : rightC a p s q v = true) (hk : key.size ≤ 281474976710656) {R : (Int × Int) × TapD} (hR : refF G (newF a p s q v x key) s.toNat 0 T = R) :
    Calls Tryz.prog 27 #[.pointer (some ⟨b, 0, none⟩), cfV a p s q v x, .string key] W (TapR b ga c G R.2 (fouV R.1.1 R.1.2) W) := by
  have HR := Lib.hid hR
  have hW : ∀ T : TapD, 0 ≤ doW' G T := fun T => by
    unfold doW'
    split
    · exact Int.le_refl _
    · split
      · rename_i g hg
        exact (hG g (List.mem_of_getElem? hg)).1
      · exact Int.le_refl _
  have HW := Lib.hid hW
  obtain ⟨hs1, hs64⟩ := (rightC_bd hr).2.2
  obtain ⟨d, hd⟩ : ∃ d, newF a p s q v x key = d := ⟨_, rfl⟩
  have HD := Lib.hid hd
  have hdn : sumU x key.data.toList = d.n := by rw [← hd]; rfl
  have hnb := sumU_bd x key.data.toList
  have HSm := Lib.hid (fun X => (show Calls Tryz.prog 61 #[.int .u64 x, .string key] X (fun e w' => e = .returned (.int .u64 d.n) ∧ w' = X) from (rsum_any x key X (by omega)).mono fun _ _ h => ⟨by rw [← hdn]; exact h.1, h.2.symm⟩))
  have HP := Lib.hid (fun (j : Nat) (hj : (j : Int) < s) (X : World) => (show Calls Tryz.prog 62 #[.int .u64 d.n, .int .i64 s, .int .i64 j] X (fun e w' => e = .returned (.int .i64 (d.way j)) ∧ w' = X) from
    (rplace_any d.n s j X (by rw [← hdn]; exact hnb.1) (by rw [← hdn]; exact hnb.2) (by omega) (by omega)).mono fun _ _ h => ⟨by rw [h.1, ← hd]; rfl, h.2.symm⟩))
  have HK := Lib.hid (fun (j : Nat) (X : World) => rat_key a p s q v x (d.way j) X hr)
  have HLd := Lib.hid (fun (X : World) (T : TapD) (j : Nat) (hX : TapAt X b ga c G T) (hs : W.heap.size ≤ X.heap.size) => (by have := tape_load hX (fun y hy => Nat.lt_of_lt_of_le (hga y hy) hs) 1 (keyW a p s q v (d.way j)); exact this :
    Calls Tryz.prog 57 #[.pointer (some ⟨b, 0, none⟩), .int .u64 1, .int .i64 (keyW a p s q v (d.way j))] X (TapR b ga c G (onT G T ⟨1, 1, keyW a p s q v (d.way j), 0, 0, ⟨#[]⟩⟩) (.int .u64 (doW' G T)) X)))
  have HLw := Lib.hid (fun (X : World) (T : TapD) (k : Nat) (hX : TapAt X b ga c G T) (hs : W.heap.size ≤ X.heap.size) => tape_words hX (fun y hy => Nat.lt_of_lt_of_le (hga y hy) hs) k)
  have HLF := Lib.hid (fun j : Nat => (show (⟨1, 1, keyW a p s q v (d.way j), 0, 0, ⟨#[]⟩⟩ : ActD) = loadF d j from by rw [← hd]; rfl))
  have HB := show Below W.heap.size W ((W.alloc (.cells #[.int .i64 a, .int .i64 p, .int .i64 s, .int .i64 q, .int .i64 v, .int .u64 x] 24)).alloc (rfoO 0 0)) from (below_alloc W _).trans ((below_alloc _ _).mono (by simp))
  have hcf := show ((W.alloc (.cells #[.int .i64 a, .int .i64 p, .int .i64 s, .int .i64 q, .int .i64 v, .int .u64 x] 24)).alloc (rfoO 0 0)).heap[W.heap.size]? = some (.cells (cfC a p s q v x) 24 (0, 0)) from
    ((below_alloc (W.alloc (.cells #[.int .i64 a, .int .i64 p, .int .i64 s, .int .i64 q, .int .i64 v, .int .u64 x] 24)) (rfoO 0 0)).block _ (by simp)).trans (World.alloc_heap_new W _)
  have hre := show ((W.alloc (.cells #[.int .i64 a, .int .i64 p, .int .i64 s, .int .i64 q, .int .i64 v, .int .u64 x] 24)).alloc (rfoO 0 0)).heap[W.heap.size + 1]? = some (rfoO 0 0) from by
    have := World.alloc_heap_new (W.alloc (.cells #[.int .i64 a, .int .i64 p, .int .i64 s, .int .i64 q, .int .i64 v, .int .u64 x] 24)) (rfoO 0 0); rwa [World.size_alloc] at this
  have HI := Lib.hid (show RefI W a p s q v x b ga c G T _ from ⟨h.below HB, hcf, hre, Step.of_below HB, heap_at_lt h.own⟩)
  have HGa := Lib.hid hga
  have HSb := Lib.hid (And.intro hs1 hs64)
  have hdk : d.key = key := by rw [← hd]; rfl
  have HDk := Lib.hid hdk
  obtain ⟨c0, c1, c2, c3, c4, c5⟩ := HI.out.six
  rw [hd] at HR
  clear h hga hG hR hW hr hk hd hdn hnb HB hcf hre hdk hs1 hs64
  go_enter Tryz.func27, Tryz.ntmps27
  go_wp2_with fail
  refine (HSm.out _).mono ?_
  rintro en w1 ⟨rfl, rfl⟩
  clear c0 c1 c2 c3 c4 c5
  generalize ((W.alloc (.cells #[.int .i64 a, .int .i64 p, .int .i64 s, .int .i64 q, .int .i64 v, .int .u64 x] 24)).alloc (rfoO 0 0)) = X0 at HI ⊢
  go_wp2_with fail
  go_loopw [8] (fun s8 wr => ∃ (j : Nat) (U : TapD), s8 = .int .i64 j ∧ (j : Int) ≤ s ∧ refF G d (s.toNat - j) j U = R ∧ Hid (RefI W a p s q v x b ga c G U wr)) (fun s8 _ => s.toNat - (intOf s8).toNat)
  case atStart => exact ⟨0, T, rfl, by have := HSb.out; omega, HR.out, HI⟩
  case round =>
    clear HI HR
    obtain ⟨j, U, rfl, hjs, hR, HI⟩ := hrel
    have hj0 : (0 : Int) ≤ (j : Int) := by omega
    have hs64 : s ≤ 9223372036854775807 := by have := HSb.out; omega
    obtain ⟨c0, c1, c2, c3, c4, c5⟩ := HI.out.six
    by_cases hlt : (j : Int) < s
    · obtain ⟨m, hm⟩ : ∃ m, s.toNat - j = m + 1 := ⟨s.toNat - j - 1, by omega⟩
      have hm1 : s.toNat - (j + 1) = m := by omega
      have HM := Lib.hid hm1
      have HMm := Lib.hid hm
      obtain ⟨k, hk⟩ : ∃ k : Nat, doW' G U = (k : Int) := ⟨(doW' G U).toNat, by have := HW.out U; omega⟩
      obtain ⟨T1, hT1⟩ : ∃ T1, onT G U (loadF d j) = T1 := ⟨_, rfl⟩
      obtain ⟨T2, hT2⟩ : ∃ T2, onT G T1 (wordsF k) = T2 := ⟨_, rfl⟩
      obtain ⟨t1, ht1⟩ : ∃ t, doT' G T1 = t := ⟨_, rfl⟩
      have hR2 : (if T1.over then ((0, 0), T1) else if k = 0 then ((2, d.way j), T1) else if T2.over then ((0, 0), T2) else if t1.toList = d.key.toList then ((1, d.way j), T2) else refF G d m (j + 1) T2) = R := by
        rw [hm] at hR
        unfold refF at hR
        rw [hT1, hk, Int.toNat_natCast, hT2, ht1] at hR
        exact hR
      have HR2 := Lib.hid hR2
      have HPj := Lib.hid (HP.out j hlt)
      have HLj := Lib.hid (fun (X : World) (hX : TapAt X b ga c G U) hs => (by have := HLd.out X U j hX hs; rw [HLF.out j, hT1, hk] at this; exact this :
        Calls Tryz.prog 57 #[.pointer (some ⟨b, 0, none⟩), .int .u64 1, .int .i64 (keyW a p s q v (d.way j))] X (TapR b ga c G T1 (.int .u64 (k : Int)) X)))
      have HWj := Lib.hid (fun (X : World) (hX : TapAt X b ga c G T1) hs => (by have := HLw.out X T1 k hX hs; rw [show (⟨6, k, 0, 0, 0, ⟨#[]⟩⟩ : ActD) = wordsF k from rfl, hT2, ht1] at this; exact this :
        Calls Tryz.prog 63 #[.pointer (some ⟨b, 0, none⟩), .int .u64 (k : Int)] X (TapR b ga c G T2 (.string t1) X)))
      have HKj := Lib.hid (HK.out j)
      have hkx := HDk.out
      clear hR hR2 hm hm1 hk hT1 hT2 ht1
      go_wp2_with fail
      refine (HPj.out _).mono ?_
      rintro en w1 ⟨rfl, rfl⟩
      go_wp2_with fail
      refine (HKj.out _).mono ?_
      rintro en w2 ⟨rfl, hb⟩
      have HI2 := Lib.hid (HI.out.below hb)
      clear hb c0 c1 c2 c3 c4 c5 HI
      go_wp2_with fail
      refine (HLj.out _ HI2.out.tp HI2.out.st.size).mono ?_
      rintro en w3 ⟨rfl, h3, s3⟩
      have HI3 := Lib.hid (HI2.out.next h3 s3)
      clear h3 s3 HI2
      have m2 := HI3.out.tp.nine.1.2.2.1
      obtain ⟨r0, r1⟩ := two_at HI3.out.re
      obtain ⟨z0, z1⟩ := two_free HI3.out.re
      cases ho : T1.over with
      | true =>
        rw [ho] at m2
        have HRe := Lib.hid (show ((0, 0), T1) = R from by have := HR2.out; rw [ho, if_pos rfl] at this; exact this)
        clear ho
        go_wp2_with fail
        exact ref_fin HI3.out HGa.out HRe.out rfl
      | false =>
        rw [ho] at m2
        have HR3 := Lib.hid (show (if k = 0 then ((2, d.way j), T1) else if T2.over then ((0, 0), T2) else if t1.toList = d.key.toList then ((1, d.way j), T2) else refF G d m (j + 1) T2) = R from by have := HR2.out; rw [ho, if_neg (by decide)] at this; exact this)
        clear ho
        by_cases hk0 : k = 0
        · subst hk0
          have HRe := Lib.hid (show ((2, d.way j), T1) = R from by have := HR3.out; rw [if_pos rfl] at this; exact this)
          go_wp2_with fail
          exact ref_fin HI3.out HGa.out HRe.out rfl
        · have hkz : ((k : Int) == 0) = false := by simp; omega
          have HR4 := Lib.hid (show (if T2.over then ((0, 0), T2) else if t1.toList = d.key.toList then ((1, d.way j), T2) else refF G d m (j + 1) T2) = R from by have := HR3.out; rw [if_neg hk0] at this; exact this)
          clear hk0
          go_wp2_with fail
          refine (HWj.out _ HI3.out.tp HI3.out.st.size).mono ?_
          rintro en w4 ⟨rfl, h4, s4⟩
          have HI4 := Lib.hid (HI3.out.next h4 s4)
          clear h4 s4 HI3 m2 r0 r1 z0 z1
          have m2 := HI4.out.tp.nine.1.2.2.1
          obtain ⟨r0, r1⟩ := two_at HI4.out.re
          obtain ⟨z0, z1⟩ := two_free HI4.out.re
          cases ho : T2.over with
          | true =>
            rw [ho] at m2
            have HRe := Lib.hid (show ((0, 0), T2) = R from by have := HR4.out; rw [ho, if_pos rfl] at this; exact this)
            clear ho
            go_wp2_with fail
            exact ref_fin HI4.out HGa.out HRe.out rfl
          | false =>
            rw [ho] at m2
            have HR5 := Lib.hid (show (if t1.toList = key.toList then ((1, d.way j), T2) else refF G d m (j + 1) T2) = R from by have := HR4.out; rw [ho, if_neg (by decide), hkx] at this; exact this)
            clear ho
            by_cases ht : t1.toList = key.toList
            · have ht0 : (t1.toList == key.toList) = true := by simpa using ht
              have HRe := Lib.hid (show ((1, d.way j), T2) = R from by have := HR5.out; rw [if_pos ht] at this; exact this)
              clear ht
              go_wp2_with fail
              exact ref_fin HI4.out HGa.out HRe.out rfl
            · have ht0 : (t1.toList == key.toList) = false := by simpa using ht
              have HRe := Lib.hid (show refF G d m (j + 1) T2 = R from by have := HR5.out; rw [if_neg ht] at this; exact this)
              clear ht
              go_wp2_with fail
              go_roundw
              case rel => exact ⟨j + 1, T2, by go_num, by omega, by rw [HM.out]; exact HRe.out, HI4⟩
              case measure => simp [intOf]; omega
    · have hm : s.toNat - j = 0 := by omega
      rw [hm] at hR
      have HRe := Lib.hid hR
      obtain ⟨m0, m1⟩ := two_at HI.out.re
      obtain ⟨z0, z1⟩ := two_free HI.out.re
      clear hR hm
      go_wp2_with fail
      exact ref_fin HI.out HGa.out HRe.out rfl

end Go.Proofs.YtpnfbabiibopnaaGreat
