/-
  Drawn2, Find2, Findm, Fmath, in one text.
-/
import Derived.StillTail
import Derived.OrdersHeld
import Derived.Deep.RegionHeld3
import Derived.BigQuiet
import Derived.Test.YtpnfbabiibopnaaQ01
import Derived.Test.YtpnfbabiibopnaaLook
import Derived.Test.YtpnfbabiibopnaaQ06
/-! A region that draws its order: a look is taken by its number; nothing of one program. -/
namespace Go.Proofs.Ytpnfbabiibopnaa
open Go Go.RowKit

/-! ### a region that draws its order: looks under a condition, and the quiet rest -/
section
variable {P : Program} {ops : Array Oper} {Q : Exit → Act → World → Prop} {md : Region.Mode} {S : World → Prop}
theorem wpAnyH_look {i : Nat} {oi : Oper} {v : Value} {fuel : Nat} {listed : Array Bool} {a : Act} {w : World} (d : Nat) (hi : ops[i]? = some oi)
    (hs : Region.noSelect ops = true) (hf : Region.free md ops listed i = true) (hr : (Region.ready md ops listed).contains i = true)
    (hQ : ∀ c a w v, Q (.panic c) (Act.put a oi.dst v) w → Q (.panic c) a w) (hd : oi.dst = some d) (hS : S w) (hy : YieldsIf P ops S oi v a)
    (h : wpAnyH P md ops Q S fuel (listed.setIfInBounds i true) { a with tmps := a.tmps.setIfInBounds d v } w) : wpAnyH P md ops Q S (fuel + 1) listed a w := by
  refine wpAnyH_take hi hs hf hr (fun c a w => hQ c a w v) hy hS ?_
  rw [hd]
  exact h
theorem wpAnyH_of_quiet {C : World → Prop} {Q1 : Act → Prop} (hC : ∀ w, C w → S w) (hQ : ∀ a w, C w → Q1 a → Q .normal a w) : ∀ (fuel : Nat) (listed : Array Bool) (a : Act) (w : World), C w →
    wpAnyQ P md ops C Q1 fuel listed a → wpAnyH P md ops Q S fuel listed a w
  | 0, _, _, _, hw, h => ⟨h.1, hQ _ _ hw h.2⟩
  | fuel + 1, _, _, _, hw, h => ⟨fun h0 => hQ _ _ hw (h.1 h0), fun i hi => wpOp_of_qOp hw (fun a' w' hw' hk => ⟨hC w' hw', wpAnyH_of_quiet hC hQ fuel _ a' w' hw' hk⟩) (h.2 i hi)⟩
theorem wpAnyH_lex_from {a : Act} {w : World} {listed : Array Bool} {fuel : Nat} (k : Nat) (l : List Oper) (hS : ∀ n, S (w.drewN n)) (hl : ops.toList.drop k = l) (hf : l.length = fuel)
    (hs : Region.noSelect ops = true) (hB : Region.lexFrom md ops fuel k listed = true)
    (h : wpQuiet P ops (fun w' => ∃ n, w' = w.drewN n) (fun a' => ∀ w', (∃ n, w' = w.drewN n) → Q .normal a' w') l a) : wpAnyH P md ops Q S fuel listed a w := by
  subst hf
  refine wpAnyH_of_quiet (C := fun w' => ∃ n, w' = w.drewN n) (Q1 := fun a' => ∀ w', (∃ n, w' = w.drewN n) → Q .normal a' w') (fun w' ⟨n, e⟩ => e ▸ hS n) (fun _ w' hw' h => h w' hw') _ _ _ _ ⟨0, rfl⟩ ?_
  refine wpAnyQ_lex hs l k listed a (fun j => ?_) hB h
  subst hl
  rw [List.getElem?_drop, Array.getElem?_toList]
end
end Go.Proofs.Ytpnfbabiibopnaa

/-! find's routine: Take and New. -/
namespace Go.Proofs.Ytpnfbabiibopnaa
open Go Go.RowKit
attribute [local go_sem ↓] Go.wp_at_zero Go.wp_at_succ

/-! ### Take -/
set_option maxRecDepth 100000 in
set_option maxHeartbeats 2000000 in
/-- Where there is something to do. -/
theorem ftake_any (W : World) {r : Nat} {d : FindR} {i : Nat} {y : ActD} (h : W.heap[r]? = some (fndO (d.to i y 0 0))) (hn : 0 ≤ d.n ∧ d.n ≤ 18446744073709551615) (hs : 1 ≤ d.s ∧ d.s ≤ 64) (hi : (i : Int) ≤ d.s) (hy : y.kind = 1 ∨ y.kind = 6) (w : Nat) (t : ByteArray) :
    Calls Try.prog 92 #[.pointer (some ⟨r, 0, none⟩), gotV w t] W (LookE (lookY d w t i y) r W) := by
  have hrn : ∀ X : World, (binOp .neq 59 (actV y.kind y.block y.cell y.old y.new y.text) (actV 0 0 0 0 0 ⟨#[]⟩)).run Try.prog X = .ok (.bool true) X := fun X => by
    rw [neqA_run]
    have : (y.kind == 0) = false := by rcases hy with e | e <;> rw [e] <;> rfl
    simp [this]
  have hB := below_alloc W (gotO w t)
  have HA := Lib.hid (fact_any (W.alloc (gotO w t)) ((hB.block r (heap_at_lt h)).trans h) (y := y) rfl hrn)
  have hG := World.alloc_heap_new W (gotO w t)
  have HFin := Lib.hid (fun (X : World) (hb : Below W.heap.size W X) e X' (hl : LookE (lookY d w t i y) r X e X') => (show LookE (lookY d w t i y) r W e X' from ⟨hl.1, hl.2.1, (Step.of_below hb).trans hl.2.2⟩))
  have HL := Lib.hid (fun (X : World) (hb : Below W.heap.size W X) => look_any X ((hb.block r (heap_at_lt h)).trans h) hn hs hi (.inr hy) w t)
  have HB := Lib.hid hB
  have HG := Lib.hid hG
  clear hrn h hn hs hi hy hB hG
  go_enter Try.func92, Try.ntmps92
  go_wp2_with fail
  refine HA.out.mono ?_
  rintro en w1 ⟨rfl, hb⟩
  have HB2 := Lib.hid (((HB.out.trans (hb.mono HB.out.size))).trans ((below_alloc w1 (actO y)).mono (Nat.le_trans HB.out.size hb.size)))
  have HG2 := Lib.hid (((below_alloc w1 (actO y)).block _ (Nat.lt_of_lt_of_le (heap_at_lt HG.out) hb.size)).trans ((hb.block _ (heap_at_lt HG.out)).trans HG.out))
  clear hb
  obtain ⟨g0, g1⟩ := two_at HG2.out
  go_wp2_with fail
  refine (HL.out _ HB2.out).mono ?_
  intro e X' hl
  have HE := Lib.hid (HFin.out _ HB2.out e X' hl)
  obtain ⟨rfl, -, -⟩ := hl
  go_wp2_with fail
  go_end0
  exact HE.out

/-! ### New -/
/-- A routine that looks for a key. -/
def newF (a p s q v x : Int) (key : ByteArray) : FindR := ⟨a, p, s, q, v, x, key, sumU x key.data.toList, 0, noAct, 0, 0⟩
def NewE (d : FindR) (W : World) (e : Ending) (W' : World) : Prop := ∃ r, e = .returned (.pointer (some ⟨r, 0, none⟩)) ∧ W.heap.size ≤ r ∧ W'.heap[r]? = some (fndO d) ∧ Below W.heap.size W W'

set_option maxRecDepth 100000 in
set_option maxHeartbeats 2000000 in
theorem fnew_bad (W : World) (a p s q v x : Int) (key : ByteArray) (hr : rightC a p s q v = false) :
    Calls Try.prog 28 #[cfV a p s q v x, .string key] W (NewE FindR.zero W) := by
  have HR := Lib.hid (fun X : World => cright_any a p s q v x X)
  rw [hr] at HR
  have hX0 := BoxC.start W a p s q v x
  have HN := Lib.hid (show ((W.alloc (.cells #[.int .i64 a, .int .i64 p, .int .i64 s, .int .i64 q, .int .i64 v, .int .u64 x] 24)).alloc (fndO FindR.zero)).heap[W.heap.size + 1]? = some (fndO FindR.zero) from by have := World.alloc_heap_new (W.alloc (.cells #[.int .i64 a, .int .i64 p, .int .i64 s, .int .i64 q, .int .i64 v, .int .u64 x] 24)) (fndO FindR.zero); rwa [World.size_alloc] at this)
  have X1 := Lib.hid (hX0.below (below_alloc _ (fndO FindR.zero)))
  obtain ⟨c0, c1, c2, c3, c4, c5⟩ := X1.out.six
  clear hr hX0
  go_enter Try.func28, Try.ntmps28
  go_wp2_with fail
  refine (HR.out _).mono ?_
  rintro e w1 ⟨rfl, hb⟩
  have HB := Lib.hid (X1.out.below hb)
  have HN1 := Lib.hid ((hb.block _ (heap_at_lt HN.out)).trans HN.out)
  clear hb
  go_wp2_with fail
  go_ret
  exact ⟨_, rfl, Nat.le_succ _, HN1.out, HB.out.lo⟩

/-- A config in its box, and the routine that is made. -/
structure NewI (W : World) (a p s q v x : Int) (d : FindR) (X : World) : Prop where
  bx : BoxC W a p s q v x X
  own : X.heap[W.heap.size + 1]? = some (fndO d)
section
variable {W X Y : World} {a p s q v x : Int} {d : FindR}
theorem NewI.below (h : NewI W a p s q v x d X) (hb : Below X.heap.size X Y) : NewI W a p s q v x d Y := ⟨h.bx.below hb, (hb.block _ (heap_at_lt h.own)).trans h.own⟩
theorem NewI.eight (h : NewI W a p s q v x d X) : (∀ i, X.frozen? ⟨W.heap.size + 1, i, none⟩ = false) := fun i => fnd_free h.own i
/-- The three fields are set. -/
theorem NewI.set (h : NewI W a p s q v x FindR.zero X) (key : ByteArray) (n : Int) :
    (((((((((X.setCell ⟨W.heap.size + 1, 0, none⟩ (.int .i64 a)).setCell ⟨W.heap.size + 1, 1, none⟩ (.int .i64 p)).setCell ⟨W.heap.size + 1, 2, none⟩ (.int .i64 s)).setCell ⟨W.heap.size + 1, 3, none⟩ (.int .i64 q)).setCell ⟨W.heap.size + 1, 4, none⟩ (.int .i64 v)).setCell ⟨W.heap.size + 1, 5, none⟩ (.int .u64 x)).setCell ⟨W.heap.size + 1, 6, none⟩ (.string key)).setCell ⟨W.heap.size + 1, 7, none⟩ (.int .u64 n))).heap[W.heap.size + 1]? = some (fndO ⟨a, p, s, q, v, x, key, n, 0, noAct, 0, 0⟩) ∧
    Below W.heap.size W (((((((((X.setCell ⟨W.heap.size + 1, 0, none⟩ (.int .i64 a)).setCell ⟨W.heap.size + 1, 1, none⟩ (.int .i64 p)).setCell ⟨W.heap.size + 1, 2, none⟩ (.int .i64 s)).setCell ⟨W.heap.size + 1, 3, none⟩ (.int .i64 q)).setCell ⟨W.heap.size + 1, 4, none⟩ (.int .i64 v)).setCell ⟨W.heap.size + 1, 5, none⟩ (.int .u64 x)).setCell ⟨W.heap.size + 1, 6, none⟩ (.string key)).setCell ⟨W.heap.size + 1, 7, none⟩ (.int .u64 n))) := by
  refine ⟨?_, ?_⟩
  · have e0 := heap_setAt (o := 0) (u := .int .i64 a) h.own
    have e1 := heap_setAt (o := 1) (u := .int .i64 p) e0
    have e2 := heap_setAt (o := 2) (u := .int .i64 s) e1
    have e3 := heap_setAt (o := 3) (u := .int .i64 q) e2
    have e4 := heap_setAt (o := 4) (u := .int .i64 v) e3
    have e5 := heap_setAt (o := 5) (u := .int .u64 x) e4
    have e6 := heap_setAt (o := 6) (u := .string key) e5
    have e7 := heap_setAt (o := 7) (u := .int .u64 n) e6
    simp only [List.setIfInBounds_toArray, List.set_cons_zero, List.set_cons_succ] at e7
    exact e7
  · have hl := Nat.le_succ W.heap.size
    exact (((((((h.bx.lo.setCell (p := ⟨W.heap.size + 1, 0, none⟩) hl _).setCell (p := ⟨W.heap.size + 1, 1, none⟩) hl _).setCell (p := ⟨W.heap.size + 1, 2, none⟩) hl _).setCell (p := ⟨W.heap.size + 1, 3, none⟩) hl _).setCell (p := ⟨W.heap.size + 1, 4, none⟩) hl _).setCell (p := ⟨W.heap.size + 1, 5, none⟩) hl _).setCell (p := ⟨W.heap.size + 1, 6, none⟩) hl _).setCell (p := ⟨W.heap.size + 1, 7, none⟩) hl _
end

/-- The config's box, whatever is set elsewhere. -/
def SixN (W : World) (a p s q v x : Int) (X : World) : Prop := X.cell? ⟨W.heap.size, 0, none⟩ = some (.int .i64 a) ∧ X.cell? ⟨W.heap.size, 1, none⟩ = some (.int .i64 p) ∧ X.cell? ⟨W.heap.size, 2, none⟩ = some (.int .i64 s) ∧ X.cell? ⟨W.heap.size, 3, none⟩ = some (.int .i64 q) ∧ X.cell? ⟨W.heap.size, 4, none⟩ = some (.int .i64 v) ∧ X.cell? ⟨W.heap.size, 5, none⟩ = some (.int .u64 x)
theorem SixN.set {W X : World} {a p s q v x : Int} (h : SixN W a p s q v x X) (o : Nat) (u : Value) : SixN W a p s q v x (X.setCell ⟨W.heap.size + 1, o, none⟩ u) := by
  have hc : ∀ i, (X.setCell ⟨W.heap.size + 1, o, none⟩ u).cell? ⟨W.heap.size, i, none⟩ = X.cell? ⟨W.heap.size, i, none⟩ := fun i => World.cell?_of_block (a := ⟨W.heap.size, i, none⟩) (Below.heap_setCell _ _ _ _ (Nat.ne_of_lt (Nat.lt_succ_self _)))
  obtain ⟨h0, h1, h2, h3, h4, h5⟩ := h
  exact ⟨(hc _).trans h0, (hc _).trans h1, (hc _).trans h2, (hc _).trans h3, (hc _).trans h4, (hc _).trans h5⟩
theorem NewI.sixN {W X : World} {a p s q v x : Int} {d : FindR} (h : NewI W a p s q v x d X) : SixN W a p s q v x X := h.bx.six

set_option maxRecDepth 100000 in
set_option maxHeartbeats 4000000 in
theorem fnew_any (W : World) (a p s q v x : Int) (key : ByteArray) (hr : rightC a p s q v = true) (hk : key.size ≤ 281474976710656) :
    Calls Try.prog 28 #[cfV a p s q v x, .string key] W (NewE (lookN (newF a p s q v x key) 0) W) := by
  have HR := Lib.hid (fun X : World => cright_any a p s q v x X)
  rw [hr] at HR
  have hrc := rightC_bd hr
  have hX0 := BoxC.start W a p s q v x
  have HN := show ((W.alloc (.cells #[.int .i64 a, .int .i64 p, .int .i64 s, .int .i64 q, .int .i64 v, .int .u64 x] 24)).alloc (fndO FindR.zero)).heap[W.heap.size + 1]? = some (fndO FindR.zero) from by have := World.alloc_heap_new (W.alloc (.cells #[.int .i64 a, .int .i64 p, .int .i64 s, .int .i64 q, .int .i64 v, .int .u64 x] 24)) (fndO FindR.zero); rwa [World.size_alloc] at this
  have X1 := Lib.hid (show NewI W a p s q v x FindR.zero _ from ⟨hX0.below (below_alloc _ (fndO FindR.zero)), HN⟩)
  obtain ⟨c0, c1, c2, c3, c4, c5⟩ := X1.out.bx.six
  have HC := Lib.hid (fun X => clone_any key X hk)
  have HSm := Lib.hid (fun X => (show Calls Try.prog 52 #[.int .u64 x, .string key] X (fun e w' => e = .returned (.int .u64 (sumU x key.data.toList)) ∧ w' = X) from (sum_any x key X (by omega)).mono fun _ _ h => ⟨h.1, h.2.symm⟩))
  obtain ⟨F, hF⟩ : ∃ F, newF a p s q v x key = F := ⟨_, rfl⟩
  have hFn : 0 ≤ F.n ∧ F.n ≤ 18446744073709551615 := by rw [← hF]; exact sumU_bd _ _
  have hFs : F.s = s := by rw [← hF]; rfl
  have HLk0 := fun (r : Nat) (X : World) (hX : X.heap[r]? = some (fndO (F.to ((0 : Nat) : Int) noAct 0 0))) => look_any X hX hFn (by rw [hFs]; exact hrc.2.2) (by rw [hFs]; omega) (.inl rfl) 0 ⟨#[]⟩
  have HLk := Lib.hid (fun (X : World) r (hX : X.heap[r]? = some (fndO (F.to ((0 : Nat) : Int) noAct 0 0))) => HLk0 r X hX)
  clear hr hX0 HN hk hrc
  go_enter Try.func28, Try.ntmps28
  go_wp2_with fail
  refine (HR.out _).mono ?_
  rintro e w1 ⟨rfl, hb⟩
  have X2 := Lib.hid (X1.out.below hb)
  clear hb c0 c1 c2 c3 c4 c5 X1
  go_wp2_with fail
  obtain ⟨c0, c1, c2, c3, c4, c5⟩ := X2.out.bx.six
  have HS := Lib.hid (show SixN W a p s q v x w1.drew from X2.out.bx.drew.six)
  clear c0 c1 c2 c3 c4 c5
  refine wp_region_held_drew (S := fun w' => w'.cell? ⟨W.heap.size, 0, none⟩ = some (.int .i64 a) ∧ w'.cell? ⟨W.heap.size, 1, none⟩ = some (.int .i64 p) ∧ w'.cell? ⟨W.heap.size, 2, none⟩ = some (.int .i64 s) ∧ w'.cell? ⟨W.heap.size, 3, none⟩ = some (.int .i64 q) ∧ w'.cell? ⟨W.heap.size, 4, none⟩ = some (.int .i64 v) ∧ w'.cell? ⟨W.heap.size, 5, none⟩ = some (.int .u64 x)) (by kernel_rfl) HS.out (fun _ => ?_)
  refine (fun h => h) ?_
  -- BEGIN
  refine wpAnyH_look (i := 0) (v := ?v0) 12 rfl (by kernel_rfl) (by kernel_rfl) (by kernel_rfl) (fun _ _ _ _ h => h) (by rfl) HS.out (Or.inl ⟨by rfl, ?y0⟩) ?r0
  case y0 => intro w hSw; (try dsimp only at hSw); go_simp; (try with_reducible rfl)
  simp only [List.setIfInBounds_toArray, List.set_cons_zero, List.set_cons_succ]
  refine wpAnyH_look (i := 1) (v := ?v1) 13 rfl (by kernel_rfl) (by kernel_rfl) (by kernel_rfl) (fun _ _ _ _ h => h) (by rfl) HS.out (Or.inl ⟨by rfl, ?y1⟩) ?r1
  case y1 => intro w hSw; (try dsimp only at hSw); go_simp; (try with_reducible rfl)
  simp only [List.setIfInBounds_toArray, List.set_cons_zero, List.set_cons_succ]
  refine wpAnyH_look (i := 2) (v := ?v2) 14 rfl (by kernel_rfl) (by kernel_rfl) (by kernel_rfl) (fun _ _ _ _ h => h) (by rfl) HS.out (Or.inl ⟨by rfl, ?y2⟩) ?r2
  case y2 => intro w hSw; (try dsimp only at hSw); go_simp; (try with_reducible rfl)
  simp only [List.setIfInBounds_toArray, List.set_cons_zero, List.set_cons_succ]
  refine wpAnyH_look (i := 3) (v := ?v3) 15 rfl (by kernel_rfl) (by kernel_rfl) (by kernel_rfl) (fun _ _ _ _ h => h) (by rfl) HS.out (Or.inl ⟨by rfl, ?y3⟩) ?r3
  case y3 => intro w hSw; (try dsimp only at hSw); go_simp; (try with_reducible rfl)
  simp only [List.setIfInBounds_toArray, List.set_cons_zero, List.set_cons_succ]
  refine wpAnyH_look (i := 4) (v := ?v4) 16 rfl (by kernel_rfl) (by kernel_rfl) (by kernel_rfl) (fun _ _ _ _ h => h) (by rfl) HS.out (Or.inl ⟨by rfl, ?y4⟩) ?r4
  case y4 => intro w hSw; (try dsimp only at hSw); go_simp; (try with_reducible rfl)
  simp only [List.setIfInBounds_toArray, List.set_cons_zero, List.set_cons_succ]
  refine wpAnyH_look (i := 6) (v := ?v6) 18 rfl (by kernel_rfl) (by kernel_rfl) (by kernel_rfl) (fun _ _ _ _ h => h) (by rfl) HS.out (Or.inl ⟨by rfl, ?y6⟩) ?r6
  case y6 => intro w hSw; (try dsimp only at hSw); go_simp; (try with_reducible rfl)
  simp only [List.setIfInBounds_toArray, List.set_cons_zero, List.set_cons_succ]
  refine wpAnyH_look (i := 7) (v := ?v7) 19 rfl (by kernel_rfl) (by kernel_rfl) (by kernel_rfl) (fun _ _ _ _ h => h) (by rfl) HS.out (Or.inl ⟨by rfl, ?y7⟩) ?r7
  case y7 => intro w hSw; (try dsimp only at hSw); go_simp; (try with_reducible rfl)
  simp only [List.setIfInBounds_toArray, List.set_cons_zero, List.set_cons_succ]
  refine wpAnyH_look (i := 8) (v := ?v8) 20 rfl (by kernel_rfl) (by kernel_rfl) (by kernel_rfl) (fun _ _ _ _ h => h) (by rfl) HS.out (Or.inl ⟨by rfl, ?y8⟩) ?r8
  case y8 => intro w hSw; (try dsimp only at hSw); go_simp; (try with_reducible rfl)
  simp only [List.setIfInBounds_toArray, List.set_cons_zero, List.set_cons_succ]
  refine wpAnyH_ready (rs := [5]) (by kernel_rfl) (by simp) ?_
  refine AllReadyH.cons rfl (fun K hK => ?_) AllReadyH.nil
  go_simp
  go_at_call 50
  refine (HC.out _).mono ?_
  rintro en x1 ⟨rfl, hb⟩
  have X3 := Lib.hid ((X2.out.below (below_drew _)).below hb)
  have HS := Lib.hid X3.out.sixN
  clear hb
  go_simp
  refine hK.out _ _ HS.out (fun _ => ?_)
  clear hK K
  refine wpAnyH_ready (rs := [9]) (by kernel_rfl) (by simp) ?_
  refine AllReadyH.cons rfl (fun K hK => ?_) AllReadyH.nil
  go_simp
  go_at_call 52
  refine (HSm.out _).mono ?_
  rintro en x2 ⟨rfl, rfl⟩
  skip
  go_simp
  refine hK.out _ _ HS.out (fun _ => ?_)
  clear hK K
  refine wpAnyH_look (i := 10) (v := ?v10) 22 rfl (by kernel_rfl) (by kernel_rfl) (by kernel_rfl) (fun _ _ _ _ h => h) (by rfl) HS.out (Or.inl ⟨by rfl, ?y10⟩) ?r10
  case y10 => intro w hSw; (try dsimp only at hSw); go_simp; (try with_reducible rfl)
  simp only [List.setIfInBounds_toArray, List.set_cons_zero, List.set_cons_succ]
  refine wpAnyH_look (i := 11) (v := ?v11) 23 rfl (by kernel_rfl) (by kernel_rfl) (by kernel_rfl) (fun _ _ _ _ h => h) (by rfl) HS.out (Or.inl ⟨by rfl, ?y11⟩) ?r11
  case y11 => intro w hSw; (try dsimp only at hSw); go_simp; (try with_reducible rfl)
  simp only [List.setIfInBounds_toArray, List.set_cons_zero, List.set_cons_succ]
  obtain ⟨⟨e0, e1, e2, e3, e4, e5⟩, ⟨e6, e7, -⟩, -, -⟩ := fnd_at X3.out.own
  have hfr := X3.out.eight
  have z0 := hfr 0
  have z1 := hfr 1
  have z2 := hfr 2
  have z3 := hfr 3
  have z4 := hfr 4
  have z5 := hfr 5
  have z6 := hfr 6
  have z7 := hfr 7
  clear hfr
  refine wpAnyH_ready (rs := [12]) (by kernel_rfl) (by simp) ?_
  refine AllReadyH.cons rfl (fun K hK => ?_) AllReadyH.nil
  go_simp
  have HS := Lib.hid ((((((HS.out.set 0 (.int .i64 a)).set 1 (.int .i64 p)).set 2 (.int .i64 s)).set 3 (.int .i64 q)).set 4 (.int .i64 v)).set 5 (.int .u64 x))
  refine hK.out _ _ HS.out (fun _ => ?_)
  clear hK K
  refine wpAnyH_look (i := 13) (v := ?v13) 24 rfl (by kernel_rfl) (by kernel_rfl) (by kernel_rfl) (fun _ _ _ _ h => h) (by rfl) HS.out (Or.inl ⟨by rfl, ?y13⟩) ?r13
  case y13 => intro w hSw; (try dsimp only at hSw); go_simp; (try with_reducible rfl)
  simp only [List.setIfInBounds_toArray, List.set_cons_zero, List.set_cons_succ]
  refine wpAnyH_look (i := 14) (v := ?v14) 25 rfl (by kernel_rfl) (by kernel_rfl) (by kernel_rfl) (fun _ _ _ _ h => h) (by rfl) HS.out (Or.inl ⟨by rfl, ?y14⟩) ?r14
  case y14 => intro w hSw; (try dsimp only at hSw); go_simp; (try with_reducible rfl)
  simp only [List.setIfInBounds_toArray, List.set_cons_zero, List.set_cons_succ]
  refine wpAnyH_ready (rs := [15]) (by kernel_rfl) (by simp) ?_
  refine AllReadyH.cons rfl (fun K hK => ?_) AllReadyH.nil
  go_simp
  have HS := Lib.hid (HS.out.set 6 (.string key))
  refine hK.out _ _ HS.out (fun _ => ?_)
  clear hK K
  refine wpAnyH_look (i := 16) (v := ?v16) 26 rfl (by kernel_rfl) (by kernel_rfl) (by kernel_rfl) (fun _ _ _ _ h => h) (by rfl) HS.out (Or.inl ⟨by rfl, ?y16⟩) ?r16
  case y16 => intro w hSw; (try dsimp only at hSw); go_simp; (try with_reducible rfl)
  simp only [List.setIfInBounds_toArray, List.set_cons_zero, List.set_cons_succ]
  refine wpAnyH_look (i := 17) (v := ?v17) 27 rfl (by kernel_rfl) (by kernel_rfl) (by kernel_rfl) (fun _ _ _ _ h => h) (by rfl) HS.out (Or.inl ⟨by rfl, ?y17⟩) ?r17
  case y17 => intro w hSw; (try dsimp only at hSw); go_simp; (try with_reducible rfl)
  simp only [List.setIfInBounds_toArray, List.set_cons_zero, List.set_cons_succ]
  refine wpAnyH_ready (rs := [18]) (by kernel_rfl) (by simp) ?_
  refine AllReadyH.cons rfl (fun K hK => ?_) AllReadyH.nil
  go_simp
  have HS := Lib.hid (HS.out.set 7 (.int .u64 (sumU x key.data.toList)))
  refine hK.out _ _ HS.out (fun _ => ?_)
  clear hK K
  -- END
  refine ⟨by kernel_rfl, ?_⟩
  have HZ := Lib.hid (X3.out.set key (sumU x key.data.toList))
  clear e0 e1 e2 e3 e4 e5 e6 e7 z0 z1 z2 z3 z4 z5 z6 z7 HS
  generalize ((((((((x2.setCell ⟨W.heap.size + 1, 0, none⟩ (.int .i64 a)).setCell ⟨W.heap.size + 1, 1, none⟩ (.int .i64 p)).setCell ⟨W.heap.size + 1, 2, none⟩ (.int .i64 s)).setCell ⟨W.heap.size + 1, 3, none⟩ (.int .i64 q)).setCell ⟨W.heap.size + 1, 4, none⟩ (.int .i64 v)).setCell ⟨W.heap.size + 1, 5, none⟩ (.int .u64 x)).setCell ⟨W.heap.size + 1, 6, none⟩ (.string key)).setCell ⟨W.heap.size + 1, 7, none⟩ (.int .u64 (sumU x key.data.toList))) = X5 at HZ ⊢
  have HF := Lib.hid hF
  have HLc := Lib.hid (HLk.out X5 (W.heap.size + 1) (by have := HZ.out.1; rw [← HF.out]; exact this))
  clear hF hFn hFs HLk0
  go_wp2_with fail
  refine HLc.out.mono ?_
  rintro en X6 ⟨rfl, h6, s6⟩
  have HE := Lib.hid (show NewE (lookN (newF a p s q v x key) 0) W (.returned (.pointer (some ⟨W.heap.size + 1, 0, none⟩))) X6 from by
    rw [HF.out]
    rw [lookY_none] at h6
    exact ⟨_, rfl, Nat.le_succ _, h6, HZ.out.2.trans (s6.below (by have := HZ.out.2.size; exact this) (fun k hk e => by omega))⟩)
  clear h6 s6
  go_wp2_with fail
  go_ret
  exact HE.out

end Go.Proofs.Ytpnfbabiibopnaa

/-! find's routine as a kind of routine. -/
namespace Go.Proofs.Ytpnfbabiibopnaa
open Go Go.RowKit

/-- A routine that may be. -/
structure FindR.fits (E : FindR) : Prop where
  rc : rightC E.a E.p E.s E.q E.v = true
  n : 0 ≤ E.n ∧ E.n ≤ 18446744073709551615
  i : 0 ≤ E.i ∧ E.i ≤ E.s
  y : E.y = noAct ∨ ((E.y.kind = 1 ∨ E.y.kind = 6) ∧ E.k = 0 ∧ E.sh = 0 ∧ E.y.fits)
def nextF (E : FindR) : Option ActD := if E.y.kind = 0 then none else some E.y
def takeF (E : FindR) (w : Int) (t : ByteArray) : FindR := lookY E w.toNat t E.i.toNat E.y
theorem keyW_bd {a p s q v i : Int} : -1 ≤ keyW a p s q v i ∧ keyW a p s q v i ≤ 200 := by
  unfold keyW
  split
  · rename_i h
    obtain ⟨ha, hp, hs⟩ := rightC_bd h.1
    omega
  · omega
theorem loadF_fits (d : FindR) (i : Nat) : (loadF d i).fits := by
  have := keyW_bd (a := d.a) (p := d.p) (s := d.s) (q := d.q) (v := d.v) (i := d.way i)
  have he : (⟨#[]⟩ : ByteArray).size = 0 := rfl
  unfold ActD.fits loadF
  simp only
  omega
theorem wordsF_fits {w : Nat} (hw : w < 18446744073709551616) : (wordsF w).fits := by
  have he : (⟨#[]⟩ : ByteArray).size = 0 := rfl
  unfold ActD.fits wordsF
  simp only
  omega
section
variable {E : FindR}
theorem lookN_fits (h : E.fits) {i : Nat} (hi : (i : Int) ≤ E.s) : (lookN E i).fits := by
  unfold lookN
  split
  · exact ⟨h.rc, h.n, ⟨by simp only [FindR.to]; omega, hi⟩, .inr ⟨.inl rfl, rfl, rfl, loadF_fits E i⟩⟩
  · exact ⟨h.rc, h.n, ⟨by simp only [FindR.to]; omega, hi⟩, .inl rfl⟩
theorem lookY_fits (h : E.fits) {w : Nat} (hw : w < 18446744073709551616) (t : ByteArray) {i : Nat} (hi : (i : Int) ≤ E.s) (y : ActD) : (lookY E w t i y).fits := by
  have hi0 : 0 ≤ (i : Int) := by omega
  unfold lookY
  split
  · split
    · exact ⟨h.rc, h.n, ⟨hi0, hi⟩, .inr ⟨.inl rfl, rfl, rfl, loadF_fits E i⟩⟩
    split
    · split
      · exact ⟨h.rc, h.n, ⟨hi0, hi⟩, .inl rfl⟩
      · exact ⟨h.rc, h.n, ⟨hi0, hi⟩, .inr ⟨.inr rfl, rfl, rfl, wordsF_fits hw⟩⟩
    split
    · exact ⟨h.rc, h.n, ⟨hi0, hi⟩, .inl rfl⟩
    · exact lookN_fits h (by omega)
  · exact ⟨h.rc, h.n, ⟨hi0, hi⟩, .inl rfl⟩
theorem takeF_fits (h : E.fits) {w : Int} (hw : 0 ≤ w ∧ w < 18446744073709551616) (t : ByteArray) : (takeF E w t).fits :=
  lookY_fits h (by omega) t (by have := h.i; omega) E.y
end

/-! ### in memory -/
structure FindAt (W : World) (B r : Nat) (E : FindR) (f : Nat → Prop) : Prop where
  own : W.heap[r]? = some (fndO E)
  foot : f = fun k => k = r
  base : B ≤ r
  fits : E.fits
theorem FindAt.stays {W W' : World} {B r : Nat} {E : FindR} {f : Nat → Prop} (h : FindAt W B r E f) (hs : ∀ k, f k → W'.heap[k]? = W.heap[k]?) : FindAt W' B r E f := ⟨(hs r (by rw [h.foot])).trans h.own, h.foot, h.base, h.fits⟩
theorem FindAt.lt {W : World} {B r : Nat} {E : FindR} {f : Nat → Prop} (h : FindAt W B r E f) : ∀ k, f k → k < W.heap.size := fun k hk => by
  rw [h.foot] at hk; subst hk; exact heap_at_lt h.own
theorem FindAt.below {W W' : World} {B r : Nat} {E : FindR} {f : Nat → Prop} (h : FindAt W B r E f) (hb : Below W.heap.size W W') : FindAt W' B r E f := h.stays (fun k hk => hb.block k (h.lt k hk))
theorem FindAt.act {W : World} {B r : Nat} {E : FindR} {f : Nat → Prop} (h : FindAt W B r E f) : Calls Try.prog 37 #[.pointer (some ⟨r, 0, none⟩)] W fun e W' => e = .returned (.tuple #[actOf ((nextF E).getD noAct), .bool (nextF E).isSome]) ∧ Below W.heap.size W W' := by
  by_cases hk : E.y.kind = 0
  · have hy : E.y = noAct := by
      rcases h.fits.y with e | ⟨e | e, _⟩
      · exact e
      · rw [hk] at e; cases e
      · rw [hk] at e; cases e
    have en : nextF E = none := by unfold nextF; rw [if_pos hk]
    rw [en]
    exact fact_any W h.own (y := noAct) (q := false) hy (fun w => neqA_same _ _ _ _ _ _ w)
  · have en : nextF E = some E.y := by unfold nextF; rw [if_neg hk]
    rw [en]
    refine fact_any W h.own (y := E.y) (q := true) rfl (fun w => ?_)
    rw [neqA_run]
    have : (E.y.kind == 0) = false := by simpa using hk
    simp [this]
theorem nextF_some {E : FindR} {x : ActD} (h : nextF E = some x) : x = E.y ∧ E.y.kind ≠ 0 := by
  unfold nextF at h
  split at h
  · cases h
  · exact ⟨(Option.some.inj h).symm, by assumption⟩
theorem nextF_kind {E : FindR} {x : ActD} (hE : E.fits) (h : nextF E = some x) : (x.kind = 1 ∨ x.kind = 6) ∧ E.k = 0 ∧ E.sh = 0 ∧ x.fits := by
  obtain ⟨rfl, hk⟩ := nextF_some h
  rcases hE.y with e | e
  · rw [e] at hk; exact absurd rfl hk
  · exact e
theorem find_takes {W : World} {B r : Nat} {E : FindR} {f : Nat → Prop} {w : Int} {t : ByteArray} (h : FindAt W B r E f) (hs : (nextF E).isSome = true) (hg : Good w t) :
    Calls Try.prog 92 #[.pointer (some ⟨r, 0, none⟩), gotV w t] W fun e W' => ∃ f', e = .returned (.tuple #[]) ∧ FindAt W' B r (takeF E w t) f' ∧ Step f f' W W' := by
  obtain ⟨x, hx⟩ := Option.isSome_iff_exists.1 hs
  obtain ⟨hk, h0, h1, -⟩ := nextF_kind h.fits hx
  obtain ⟨rfl, -⟩ := nextF_some hx
  have e : ((w.toNat : Nat) : Int) = w := by have := hg.1; omega
  have ei : ((E.i.toNat : Nat) : Int) = E.i := by have := h.fits.i; omega
  have ho : W.heap[r]? = some (fndO (E.to (E.i.toNat : Nat) E.y 0 0)) := by
    rw [h.own, ei]
    have : E = E.to E.i E.y 0 0 := by
      obtain ⟨a, p, s, q, v, x, key, n, i, y, k, sh⟩ := E
      simp only at h0 h1
      subst h0 h1
      rfl
    rw [← this]
  have hc := ftake_any W ho h.fits.n (rightC_bd h.fits.rc).2.2 (by rw [ei]; exact h.fits.i.2) hk w.toNat t
  rw [e] at hc
  refine hc.mono ?_
  rintro en W' ⟨rfl, h2, h3⟩
  refine ⟨fun k => k = r, rfl, ⟨h2, rfl, h.base, takeF_fits h.fits hg.1 t⟩, ?_⟩
  rw [h.foot]; exact h3

theorem find_metA (n r : Nat) (w : World) : (method (n + 1) 75 (.pointer (some ⟨r, 0, none⟩)) "Act").run Try.prog w = .ok (37, .pointer (some ⟨r, 0, none⟩)) w := by kernel_rfl
theorem find_metT (n r : Nat) (w : World) : (method (n + 1) 75 (.pointer (some ⟨r, 0, none⟩)) "Take").run Try.prog w = .ok (92, .pointer (some ⟨r, 0, none⟩)) w := by kernel_rfl
theorem find_entA (args : Array Value) (w : World) : (callFunc 37 args).run Try.prog w = .ok (.enter 37 args) w := enters_of Try.func37 (by kernel_rfl) rfl args w
theorem find_entT (args : Array Value) (w : World) : (callFunc 92 args).run Try.prog w = .ok (.enter 92 args) w := enters_of Try.func92 (by kernel_rfl) rfl args w
def FindM : Mach FindR where
  tid := 75
  fA := 37
  fT := 92
  next := nextF
  take := takeF
  At := FindAt
  metA := find_metA
  metT := find_metT
  entA := find_entA
  entT := find_entT
  stays := fun h hs => h.stays hs
  lt := fun h => h.lt
  base := fun h k hk => by rw [h.foot] at hk; subst hk; exact h.base
  self := fun h => by rw [h.foot]
  fits := fun h hx => (nextF_kind h.fits hx).2.2.2
  act := fun h => h.act
  takes := fun h hs hg => find_takes h hs hg
theorem newF_fits {a p s q v x : Int} (hr : rightC a p s q v = true) (key : ByteArray) : (lookN (newF a p s q v x key) 0).fits := by
  have hs := (rightC_bd hr).2.2
  have h0 : (newF a p s q v x key).fits := ⟨hr, sumU_bd _ _, ⟨Int.le_refl _, by show (0 : Int) ≤ s; omega⟩, .inl rfl⟩
  exact lookN_fits h0 (by show ((0 : Nat) : Int) ≤ s; omega)

end Go.Proofs.Ytpnfbabiibopnaa

/-! find's routine alone, on a heap whose first block is a control block: which shelves have which keys, and what is found there. Plain. -/
namespace Go.Proofs.Ytpnfbabiibopnaa
open Go Go.RowKit

/-! ### which shelf has which key -/
abbrev Shelves := Int → Option (List UInt8)
/-- The heap's first block is the control block of the config of d, and the shelves have these keys. -/
structure Field (d : FindR) (D : HpD) (K : Shelves) : Prop where
  faults : D.faults = 0
  ctrl : ∃ b, liveAt D.L 1 = some b ∧ (b.ws.length : Int) = sizeW d.a d.p d.s d.q d.v
  fine : Fine D
  keys : ∀ sh : Int, 0 ≤ sh → sh < d.s → match K sh with
    | none => wordAt D.L 1 (keyW d.a d.p d.s d.q d.v sh) = 0
    | some t => ∃ k : Nat, k ≠ 0 ∧ wordAt D.L 1 (keyW d.a d.p d.s d.q d.v sh) = (k : Int) ∧ there D.L k = 0 ∧ (textAt D.L k).toList = t
section
variable {d : FindR} {D : HpD} {K : Shelves}
theorem keyW_in (hr : rightC d.a d.p d.s d.q d.v = true) {sh : Int} (h0 : 0 ≤ sh) (h1 : sh < d.s) : keyW d.a d.p d.s d.q d.v sh = 3 + d.p + d.a + 2 * sh ∧ 0 ≤ keyW d.a d.p d.s d.q d.v sh ∧ keyW d.a d.p d.s d.q d.v sh < sizeW d.a d.p d.s d.q d.v := by
  obtain ⟨ha, hp, hs⟩ := rightC_bd hr
  have e : keyW d.a d.p d.s d.q d.v sh = 3 + d.p + d.a + 2 * sh := by unfold keyW; rw [if_pos ⟨hr, h0, by omega⟩]
  have e2 : sizeW d.a d.p d.s d.q d.v = 3 + d.p + d.a + 2 * d.s := by unfold sizeW; rw [if_pos hr]
  rw [e, e2]
  omega
theorem way_in (d : FindR) {i : Nat} (hi : (i : Int) < d.s) : 0 ≤ d.way i ∧ d.way i < d.s := place_bd d.n d.s i hi
theorem Field.spot (h : Field d D K) {c : Int} (h0 : 0 ≤ c) (h1 : c < sizeW d.a d.p d.s d.q d.v) : spot D.L 1 c = 0 := by
  obtain ⟨b, hb, hl⟩ := h.ctrl
  rw [spot_some hb, if_neg (by omega)]
theorem loadF_right (hr : rightC d.a d.p d.s d.q d.v = true) {i : Nat} (hi : (i : Int) < d.s) : rightA (loadF d i) = true := by
  obtain ⟨w0, w1⟩ := way_in d hi
  have hk := (keyW_in hr w0 w1).2.1
  simp [rightA, loadF, zeroA, restA, hk, show (⟨#[]⟩ : ByteArray).size = 0 from rfl]
theorem wordsF_right (w : Nat) : rightA (wordsF w) = true := by
  simp [rightA, wordsF, zeroA, restA, show (⟨#[]⟩ : ByteArray).size = 0 from rfl]
theorem lookY_to (i y k sh w t j u) : lookY (d.to i y k sh) w t j u = lookY d w t j u := rfl

theorem adv_of {x : ActD} {E : FindR} (hn : nextF E = some x) (hk : x.kind = 1 ∨ x.kind = 6) : advM FindM ⟨D, E⟩ = ⟨doN D x, takeF E (doW D x) (doT D x)⟩ ∧ (stepM FindM ⟨D, E⟩).isSome = true := by
  have hr : readyA D x = true := by
    unfold readyA
    split
    · rw [if_neg (by omega), if_neg (by omega)]
    · rfl
  have hs : stepM FindM ⟨D, E⟩ = some ⟨x, doW D x, doT D x⟩ := by
    unfold stepM
    show (match nextF E with | some x => if readyA D x then some (⟨x, doW D x, doT D x⟩ : StepD) else none | none => none) = _
    rw [hn]; simp [hr]
  refine ⟨?_, by rw [hs]; rfl⟩
  unfold advM
  rw [hs]
  show nextM FindM ⟨D, E⟩ = _
  unfold nextM
  show (match nextF E with | some x => (⟨doN D x, takeF E (doW D x) (doT D x)⟩ : PmS FindR) | none => ⟨D, E⟩) = _
  rw [hn]
/-- The load of a shelf's cell. -/
theorem adv_load (h : Field d D K) (hr : rightC d.a d.p d.s d.q d.v = true) {i : Nat} (hi : (i : Int) < d.s) :
    advM FindM ⟨D, d.to i (loadF d i) 0 0⟩ = ⟨D, lookY d (wordAt D.L 1 (keyW d.a d.p d.s d.q d.v (d.way i))).toNat ⟨#[]⟩ i (loadF d i)⟩ ∧ (stepM FindM ⟨D, d.to i (loadF d i) 0 0⟩).isSome = true := by
  obtain ⟨w0, w1⟩ := way_in d hi
  obtain ⟨-, k0, k1⟩ := keyW_in hr w0 w1
  have hsp := h.spot k0 k1
  have hA := loadF_right hr hi
  have e1 : doW D (loadF d i) = wordAt D.L 1 (keyW d.a d.p d.s d.q d.v (d.way i)) := by
    unfold doW; rw [hA, if_pos rfl]
    show loadV D 1 (keyW d.a d.p d.s d.q d.v (d.way i)) = _
    unfold loadV; rw [if_pos hsp]
  have e2 : doN D (loadF d i) = D := by
    unfold doN; rw [hA, if_pos rfl]
    show loadD D 1 (keyW d.a d.p d.s d.q d.v (d.way i)) = _
    unfold loadD; rw [if_pos hsp]
  have e3 : doT D (loadF d i) = ⟨#[]⟩ := by
    unfold doT; rw [hA, if_pos rfl]; rfl
  obtain ⟨a1, a2⟩ := adv_of (D := D) (E := d.to i (loadF d i) 0 0) (x := loadF d i) rfl (.inl rfl)
  rw [e1, e2, e3] at a1
  exact ⟨a1, a2⟩
/-- Its key's text. -/
theorem adv_words {i k : Nat} (ht : there D.L k = 0) :
    advM FindM ⟨D, d.to i (wordsF k) 0 0⟩ = ⟨D, lookY d 0 (textAt D.L k) i (wordsF k)⟩ ∧ (stepM FindM ⟨D, d.to i (wordsF k) 0 0⟩).isSome = true := by
  have hA := wordsF_right k
  have e1 : doW D (wordsF k) = 0 := by unfold doW; rw [hA, if_pos rfl]; rfl
  have e2 : doN D (wordsF k) = D := by
    unfold doN; rw [hA, if_pos rfl]
    show wordsD D k = _
    unfold wordsD; rw [if_pos ht]
  have e3 : doT D (wordsF k) = textAt D.L k := by
    unfold doT; rw [hA, if_pos rfl]; rfl
  obtain ⟨a1, a2⟩ := adv_of (D := D) (E := d.to i (wordsF k) 0 0) (x := wordsF k) rfl (.inr rfl)
  rw [e1, e2, e3] at a1
  exact ⟨a1, a2⟩
end

/-- What is found from a place on, and by how many acts. -/
def findK (K : Shelves) (d : FindR) : Nat → Nat → FindR × Nat
  | 0, i => (d.to i noAct 3 0, 0)
  | m + 1, i => match K (d.way i) with
    | none => (d.to i noAct 2 (d.way i), 1)
    | some t => if t = d.key.toList then (d.to i noAct 1 (d.way i), 2) else ((findK K d m (i + 1)).1, (findK K d m (i + 1)).2 + 2)
theorem findK_acts (K : Shelves) (d : FindR) : ∀ m i, (findK K d m i).2 ≤ 2 * m
  | 0, _ => Nat.le_refl _
  | m + 1, i => by
    unfold findK
    split
    · show 1 ≤ _; omega
    · split
      · show 2 ≤ _; omega
      · have := findK_acts K d m (i + 1)
        show (findK K d m (i + 1)).2 + 2 ≤ _; omega
theorem findK_done (K : Shelves) (d : FindR) : ∀ m i, (findK K d m i).1.y = noAct
  | 0, _ => rfl
  | m + 1, i => by
    unfold findK
    split
    · rfl
    · split
      · rfl
      · exact findK_done K d m (i + 1)

theorem find_runs {d : FindR} {D : HpD} {K : Shelves} (h : Field d D K) (hr : rightC d.a d.p d.s d.q d.v = true) (S0 : PmS FindR) : ∀ (m i n0 : Nat), (m : Int) + (i : Int) = d.s → stM FindM S0 n0 = ⟨D, lookN d i⟩ ∧ (toM FindM S0 n0).length = n0 →
    stM FindM S0 (n0 + (findK K d m i).2) = ⟨D, (findK K d m i).1⟩ ∧ (toM FindM S0 (n0 + (findK K d m i).2)).length = n0 + (findK K d m i).2
  | 0, i, n0, hmi, h0 => by
    have e : lookN d i = d.to i noAct 3 0 := by unfold lookN; rw [if_neg (by omega)]
    rw [e] at h0
    exact h0
  | m + 1, i, n0, hmi, h0 => by
    have hi : (i : Int) < d.s := by omega
    have e : lookN d i = d.to i (loadF d i) 0 0 := by unfold lookN; rw [if_pos hi]
    rw [e] at h0
    have s1 := stM_succ h0 (adv_load h hr hi)
    have hk := h.keys (d.way i) (way_in d hi).1 (way_in d hi).2
    unfold findK
    cases hK : K (d.way i) with
    | none =>
      rw [hK] at hk
      rw [show wordAt D.L 1 (keyW d.a d.p d.s d.q d.v (d.way i)) = 0 from hk] at s1
      have e2 : lookY d (0 : Int).toNat ⟨#[]⟩ i (loadF d i) = d.to i noAct 2 (d.way i) := by
        unfold lookY; rw [if_pos hi, if_neg (by show ¬ (1 : Int) = 0; decide), if_pos (by rfl), if_pos (by rfl)]
      rw [e2] at s1
      exact s1
    | some t =>
      rw [hK] at hk
      obtain ⟨k, hk0, hkw, hkt, hkx⟩ := hk
      rw [hkw] at s1
      have e2 : lookY d ((k : Int)).toNat ⟨#[]⟩ i (loadF d i) = d.to i (wordsF k) 0 0 := by
        unfold lookY; rw [if_pos hi, if_neg (by show ¬ (1 : Int) = 0; decide), if_pos (by rfl), Int.toNat_natCast, if_neg hk0]
      rw [e2] at s1
      have s2 := stM_succ s1 (adv_words (d := d) (i := i) hkt)
      by_cases ht : t = d.key.toList
      · have e3 : lookY d 0 (textAt D.L k) i (wordsF k) = d.to i noAct 1 (d.way i) := by
          unfold lookY; rw [if_pos hi, if_neg (by show ¬ (6 : Int) = 0; decide), if_neg (by show ¬ (6 : Int) = 1; decide), if_pos (by rw [hkx, ht])]
        rw [e3] at s2
        simp only [if_pos ht]
        exact s2
      · have e3 : lookY d 0 (textAt D.L k) i (wordsF k) = lookN d (i + 1) := by
          unfold lookY; rw [if_pos hi, if_neg (by show ¬ (6 : Int) = 0; decide), if_neg (by show ¬ (6 : Int) = 1; decide), if_neg (by rw [hkx]; exact ht)]
        rw [e3] at s2
        have := find_runs h hr S0 m (i + 1) (n0 + 1 + 1) (by omega) s2
        simp only [if_neg ht]
        rw [show n0 + ((findK K d m (i + 1)).2 + 2) = n0 + 1 + 1 + (findK K d m (i + 1)).2 from by omega]
        exact this
/-- Alone: what is found. -/
theorem find_alone {d : FindR} {D : HpD} {K : Shelves} (h : Field d D K) (hr : rightC d.a d.p d.s d.q d.v = true) (m : Nat) (hm : 2 * d.s ≤ (m : Int)) :
    stM FindM ⟨D, lookN d 0⟩ m = ⟨D, (findK K d d.s.toNat 0).1⟩ ∧ (toM FindM ⟨D, lookN d 0⟩ m).length = (findK K d d.s.toNat 0).2 ∧ (nextF (findK K d d.s.toNat 0).1).isSome = false := by
  have hs := (rightC_bd hr).2.2
  have hd : nextF (findK K d d.s.toNat 0).1 = none := by
    unfold nextF
    rw [findK_done]
    rfl
  have hl := findK_acts K d d.s.toNat 0
  obtain ⟨r1, r2⟩ := find_runs h hr ⟨D, lookN d 0⟩ d.s.toNat 0 0 (by omega) ⟨rfl, rfl⟩
  rw [Nat.zero_add] at r1 r2
  have hno : stepM FindM (stM FindM ⟨D, lookN d 0⟩ (findK K d d.s.toNat 0).2) = none := by
    rw [r1]
    unfold stepM
    show (match nextF (findK K d d.s.toNat 0).1 with | some x => if readyA D x then some (⟨x, doW D x, doT D x⟩ : StepD) else none | none => none) = _
    rw [hd]
  obtain ⟨q1, q2⟩ := mstop_stays hno (m - (findK K d d.s.toNat 0).2)
  rw [show (findK K d d.s.toNat 0).2 + (m - (findK K d d.s.toNat 0).2) = m from by omega] at q1 q2
  exact ⟨by rw [q2, r1], by rw [q1, r2], by rw [hd]; rfl⟩

/-! ### what is found, said by places -/
/-- The shelf at the j-th place of the way has another key. -/
def Other (K : Shelves) (d : FindR) (j : Nat) : Prop := ∃ t, K (d.way j) = some t ∧ t ≠ d.key.toList
theorem findK_says (K : Shelves) (d : FindR) : ∀ m i, let E := (findK K d m i).1
    (E.k = 2 ∧ ∃ j, i ≤ j ∧ j < i + m ∧ E.sh = d.way j ∧ K (d.way j) = none ∧ ∀ l, i ≤ l → l < j → Other K d l) ∨
    (E.k = 1 ∧ ∃ j, i ≤ j ∧ j < i + m ∧ E.sh = d.way j ∧ K (d.way j) = some d.key.toList ∧ ∀ l, i ≤ l → l < j → Other K d l) ∨
    (E.k = 3 ∧ E.sh = 0 ∧ ∀ l, i ≤ l → l < i + m → Other K d l)
  | 0, i => .inr (.inr ⟨rfl, rfl, fun l h1 h2 => by omega⟩)
  | m + 1, i => by
    unfold findK
    cases hK : K (d.way i) with
    | none => exact .inl ⟨rfl, i, Nat.le_refl _, by omega, rfl, hK, fun l h1 h2 => by omega⟩
    | some t =>
      by_cases ht : t = d.key.toList
      · simp only [if_pos ht]
        exact .inr (.inl ⟨rfl, i, Nat.le_refl _, by omega, rfl, by rw [hK, ht], fun l h1 h2 => by omega⟩)
      · simp only [if_neg ht]
        have hO : Other K d i := ⟨t, hK, ht⟩
        have hx : ∀ l j, (∀ l, i + 1 ≤ l → l < j → Other K d l) → i ≤ l → l < j → Other K d l := fun l j hj h1 h2 => by
          rcases Nat.eq_or_lt_of_le h1 with rfl | h3
          · exact hO
          · exact hj l h3 h2
        rcases findK_says K d m (i + 1) with ⟨h1, j, h2, h3, h4, h5, h6⟩ | ⟨h1, j, h2, h3, h4, h5, h6⟩ | ⟨h1, h2, h3⟩
        · exact .inl ⟨h1, j, by omega, by omega, h4, h5, fun l => hx l j h6⟩
        · exact .inr (.inl ⟨h1, j, by omega, by omega, h4, h5, fun l => hx l j h6⟩)
        · exact .inr (.inr ⟨h1, h2, fun l a b => hx l (i + (m + 1)) (fun l a b => h3 l a (by omega)) a b⟩)

end Go.Proofs.Ytpnfbabiibopnaa
