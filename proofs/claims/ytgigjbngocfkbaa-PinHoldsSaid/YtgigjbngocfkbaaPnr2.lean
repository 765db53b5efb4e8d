/-
  pin's routine: try, look, Take, Result.
-/
import Derived.Test.YtgigjbngocfkbaaPnr
import Derived.StillTailTactics
import Derived.Deep.QuietTactic
import Derived.BigQuiet
import Derived.WalkMore
namespace Go.Proofs.Ytgigjbngocfkbaa
open Go Go.RowKit
attribute [local go_sem ↓] Go.wp_at_zero Go.wp_at_succ

/-- What is left of a call that turns the routine alone. -/
def PtakeE (v : PinD) (r : Nat) (W : World) (e : Ending) (W' : World) : Prop := e = .returned (.tuple #[]) ∧ W'.heap[r]? = some (pnrO v) ∧ Step (fun k => k = r) (fun k => k = r) W W'
structure PMid (W : World) (r : Nat) (v : PinD) (X : World) : Prop where
  own : X.heap[r]? = some (pnrO v)
  st : Step (fun k => k = r) (fun k => k = r) W X
section
variable {W X Y : World} {r : Nat} {v : PinD}
theorem PMid.below (h : PMid W r v X) (hb : Below X.heap.size X Y) : PMid W r v Y := ⟨(hb.block _ (heap_at_lt h.own)).trans h.own, h.st.trans (Step.of_below hb)⟩
theorem PMid.set (h : PMid W r v X) (i : Nat) (u : Value) {v' : PinD} (e : (pnrC v).setIfInBounds i u = pnrC v') : PMid W r v' (X.setCell ⟨r, i, none⟩ u) := ⟨(heap_setAt h.own).trans (by rw [e]), h.st.trans (Step.setCell u rfl)⟩
theorem PMid.end (h : PMid W r v X) : PtakeE v r W (.returned (.tuple #[])) X := ⟨rfl, h.own, h.st⟩
end

set_option maxRecDepth 100000 in
set_option maxHeartbeats 2000000 in
theorem ptry_free (W : World) {r : Nat} {v : PinD} (h : W.heap[r]? = some (pnrO v)) :
    Calls Try.prog 29 #[.pointer (some ⟨r, 0, none⟩), .bool true] W (PtakeE (v.to 3) r W) := by
  have HF := Lib.hid ((show PMid W r v W from ⟨h, Step.refl _ _⟩).set 6 (.int .i64 3) (v' := v.to 3) rfl).end
  have z6 := pnr_free h 6
  have c6 := (pnr_at h).2.1
  clear h
  go_enter Try.func29, Try.ntmps29
  go_wp2_with fail
  go_end0
  exact HF.out

set_option maxRecDepth 100000 in
set_option maxHeartbeats 4000000 in
theorem ptry_miss (W : World) {r : Nat} {v : PinD} (h : W.heap[r]? = some (pnrO v)) (hp : 1 ≤ v.p ∧ v.p ≤ 8) (ht : 0 ≤ v.tried ∧ v.tried < v.p) (hn : 0 ≤ v.pn ∧ v.pn < v.p) (h2 : v.part = 2) :
    Calls Try.prog 29 #[.pointer (some ⟨r, 0, none⟩), .bool false] W (PtakeE v.miss r W) := by
  obtain ⟨a, p, s, q, v', x, part, tried, pn, ep, tk⟩ := v
  simp only at hp ht hn h2
  subst h2
  have HA := Lib.hid (show PMid W r ⟨a, p, s, q, v', x, 2, tried + 1, pn, ep, tk⟩ (W.setCell ⟨r, 7, none⟩ (.int .i64 (tried + 1))) from (show PMid W r _ W from ⟨h, Step.refl _ _⟩).set 7 _ rfl)
  have z7 := pnr_free h 7
  have c7 := (pnr_at h).2.2.1
  simp only at c7
  obtain ⟨m, hm⟩ : ∃ m, (pn + 1) % p = m := ⟨_, rfl⟩
  have hm0 := Int.emod_nonneg (pn + 1) (show p ≠ 0 by omega)
  have hm1 := Int.emod_lt_of_pos (pn + 1) (show 0 < p by omega)
  have htm := tmod_of (a := p) (show 0 ≤ pn + 1 by omega)
  rw [hm] at hm0 hm1 htm
  have hwm : IntKind.i64.wrap m = m := awrap (by omega)
  have hwn : IntKind.i64.wrap (pn + 1) = pn + 1 := awrap (by omega)
  have hwt : IntKind.i64.wrap (tried + 1) = tried + 1 := awrap (by omega)
  have hp0 : ¬ p = 0 := by omega
  have hmix : Try.prog.follows .mixedOrders = true := by kernel_rfl
  have HMs := Lib.hid (show PinD.miss ⟨a, p, s, q, v', x, 2, tried, pn, ep, tk⟩ = if tried + 1 = p then ⟨a, p, s, q, v', x, 5, tried + 1, 0, 0, true⟩ else ⟨a, p, s, q, v', x, 2, tried + 1, m, ep, tk⟩ from by rw [← hm]; rfl)
  obtain ⟨u, hu⟩ : ∃ u, PinD.miss ⟨a, p, s, q, v', x, 2, tried, pn, ep, tk⟩ = u := ⟨_, rfl⟩
  have HU := Lib.hid (HMs.out.symm.trans hu)
  rw [hu]
  clear h hm HMs hu
  go_enter Try.func29, Try.ntmps29
  go_wp2_with fail
  generalize W.setCell ⟨r, 7, none⟩ (.int .i64 (tried + 1)) = w1 at HA ⊢
  clear c7 z7
  obtain ⟨⟨-, c1, -, -, -, -⟩, -, c7, c8, c9, c10⟩ := pnr_at HA.out.own
  simp only at c1 c7 c8 c9 c10
  go_still_tail 16, hmix
  change wpList _ _ _ _ _ w1.drew
  have HB := Lib.hid (HA.out.below (below_drew w1))
  clear c1 c7 c8 c9 c10
  generalize w1.drew = w2 at HB ⊢
  have z8 := pnr_free HB.out.own 8
  have c8 := (pnr_at HB.out.own).2.2.2.1
  have HC := Lib.hid (HB.out.set 8 (.int .i64 m) (v' := ⟨a, p, s, q, v', x, 2, tried + 1, m, ep, tk⟩) rfl)
  clear HA HB
  go_wp2_with fail
  generalize w2.setCell ⟨r, 8, none⟩ (.int .i64 m) = w3 at HC ⊢
  clear c8 z8
  obtain ⟨⟨-, c1, -, -, -, -⟩, -, c7, -, -, -⟩ := pnr_at HC.out.own
  simp only at c1 c7
  by_cases hl : tried + 1 = p
  · have hlb : (tried + 1 == p) = true := by simpa using hl
    have HU2 := Lib.hid (show ⟨a, p, s, q, v', x, 5, tried + 1, 0, 0, true⟩ = u from by have := HU.out; rwa [if_pos hl] at this)
    clear hl HU
    go_quiet (fail)
    rename Nat => nq
    have HD := Lib.hid (HC.out.below (below_draws w3 nq))
    clear c1 c7
    generalize w3.drewN nq = w4 at HD ⊢
    have z6 := pnr_free HD.out.own 6
    have z8 := pnr_free HD.out.own 8
    have z9 := pnr_free HD.out.own 9
    have z10 := pnr_free HD.out.own 10
    obtain ⟨-, c6, -, c8, c9, c10⟩ := pnr_at HD.out.own
    have HF := Lib.hid (by
      have h4 := (((HD.out.set 8 (.int .i64 0) (v' := ⟨a, p, s, q, v', x, 2, tried + 1, 0, ep, tk⟩) rfl).set 9 (.int .u64 0) (v' := ⟨a, p, s, q, v', x, 2, tried + 1, 0, 0, tk⟩) rfl).set 10 (.bool true) (v' := ⟨a, p, s, q, v', x, 2, tried + 1, 0, 0, true⟩) rfl).set 6 (.int .i64 5) (v' := ⟨a, p, s, q, v', x, 5, tried + 1, 0, 0, true⟩) rfl
      rw [HU2.out] at h4
      exact h4.end)
    go_wp2_with fail
    go_end0
    exact HF.out
  · have hlb : (tried + 1 == p) = false := by simpa using hl
    have HU2 := Lib.hid (show ⟨a, p, s, q, v', x, 2, tried + 1, m, ep, tk⟩ = u from by have := HU.out; rwa [if_neg hl] at this)
    clear hl HU
    go_quiet (fail)
    rename Nat => nq
    have HF := Lib.hid (by
      have h4 := HC.out.below (below_draws w3 nq)
      rw [HU2.out] at h4
      exact h4.end)
    go_wp2_with fail
    go_end0
    exact HF.out

set_option maxRecDepth 100000 in
set_option maxHeartbeats 2000000 in
theorem plook_any (W : World) {r : Nat} {v : PinD} (h : W.heap[r]? = some (pnrO v)) (w : Int) :
    Calls Try.prog 30 #[.pointer (some ⟨r, 0, none⟩), .int .u64 w] W (PtakeE (if w = v.ep then v.to 5 else v.at 4 w) r W) := by
  have hM : PMid W r v W := ⟨h, Step.refl _ _⟩
  have HF := Lib.hid (hM.set 6 (.int .i64 5) (v' := v.to 5) rfl).end
  have HG := Lib.hid ((hM.set 9 (.int .u64 w) (v' := v.at v.part w) rfl).set 6 (.int .i64 4) (v' := v.at 4 w) rfl).end
  have z6 := pnr_free h 6
  have z9 := pnr_free h 9
  have c6 := (pnr_at h).2.1
  have c9 := (pnr_at h).2.2.2.2.1
  clear h hM
  by_cases he : w = v.ep
  · rw [if_pos he]
    have he' : (w == v.ep) = true := by simpa using he
    generalize v.ep = e at c9 he' ⊢
    clear he HG
    go_enter Try.func30, Try.ntmps30
    go_wp2_with fail
    go_end0
    exact HF.out
  · rw [if_neg he]
    have he' : (w == v.ep) = false := by simpa using he
    generalize v.ep = e at c9 he' ⊢
    clear he HF
    go_enter Try.func30, Try.ntmps30
    go_wp2_with fail
    go_end0
    exact HG.out

/-! ### Take -/
set_option maxRecDepth 100000 in
set_option maxHeartbeats 4000000 in
theorem ptake_any (W : World) {r : Nat} {v : PinD} (h : W.heap[r]? = some (pnrO v)) (hv : v.fits) (hs : (nextP v).isSome = true) (w : Int) (t : ByteArray) :
    Calls Try.prog 12 #[.pointer (some ⟨r, 0, none⟩), gotV w t] W (PtakeE (takeP v w t) r W) := by
  have hb := below_alloc W (gotO w t)
  have HM := Lib.hid (show PMid W r v (W.alloc (gotO w t)) from ⟨(hb.block r (heap_at_lt h)).trans h, Step.of_below hb⟩)
  have HG := Lib.hid (World.alloc_heap_new W (gotO w t))
  have HFin := Lib.hid (fun (u : PinD) e X' (hl : PtakeE u r (W.alloc (gotO w t)) e X') => (show PtakeE u r W e X' from ⟨hl.1, hl.2.1, HM.out.st.trans hl.2.2⟩))
  obtain ⟨g0, g1⟩ := two_at HG.out
  obtain ⟨-, c6, -, -, c9, -⟩ := pnr_at HM.out.own
  have z6 := pnr_free HM.out.own 6
  have z9 := pnr_free HM.out.own 9
  obtain ⟨-, -, h3⟩ := hv
  rcases nextP_part hs with e | e | e | e
  · have hT := takeP_1 e w t
    rw [hT]
    rw [e] at c6
    have HF := Lib.hid ((HM.out.set 9 (.int .u64 w) (v' := v.at 1 w) (by rw [← e]; rfl)).set 6 (.int .i64 2) (v' := v.at 2 w) rfl).end
    clear h hb h3 hs e hT
    go_enter Try.func12, Try.ntmps12
    go_wp2_with fail
    go_end0
    exact HF.out
  · obtain ⟨hr, h4, h5, h6, h7⟩ : v.fit1 := h3.elim (fun e' => by omega) id
    have h7' := h7 (by omega)
    have hp := (rightC_bd hr).2.1
    obtain ⟨u, hu⟩ : ∃ u, takeP v w t = u := ⟨_, rfl⟩
    have hTu : (if w = 0 then v.to 3 else v.miss) = u := by rw [← hu]; exact (takeP_2 e w t).symm
    have HT := Lib.hid (show Calls Try.prog 29 #[.pointer (some ⟨r, 0, none⟩), .bool (w == 0)] (W.alloc (gotO w t)) (PtakeE u r (W.alloc (gotO w t))) from by
      by_cases hw : w = 0
      · rw [if_pos hw] at hTu
        rw [show (w == 0) = true from by simpa using hw, ← hTu]
        exact ptry_free _ HM.out.own
      · rw [if_neg hw] at hTu
        rw [show (w == 0) = false from by simpa using hw, ← hTu]
        exact ptry_miss _ HM.out.own hp ⟨h5.1, h7'⟩ h6 e)
    rw [hu]
    rw [e] at c6
    obtain ⟨b, hwb⟩ : ∃ b, (w == 0) = b := ⟨_, rfl⟩
    rw [hwb] at HT
    clear h hb h3 hs e hr h4 h5 h6 h7 h7' hp hu hTu
    go_enter Try.func12, Try.ntmps12
    go_wp2_with fail
    refine HT.out.mono ?_
    intro en X' hl
    have HE := Lib.hid (HFin.out _ _ _ hl)
    obtain ⟨rfl, -, -⟩ := hl
    go_wp2_with fail
    go_end0
    exact HE.out
  · have hT := takeP_3 e w t
    have HL := Lib.hid (plook_any _ HM.out.own w)
    rw [hT]
    rw [e] at c6
    obtain ⟨u, hu⟩ : ∃ u, (if w = v.ep then v.to 5 else v.at 4 w) = u := ⟨_, rfl⟩
    rw [hu] at HL ⊢
    clear h hb h3 hs e hT hu
    go_enter Try.func12, Try.ntmps12
    go_wp2_with fail
    refine HL.out.mono ?_
    intro en X' hl
    have HE := Lib.hid (HFin.out _ _ _ hl)
    obtain ⟨rfl, -, -⟩ := hl
    go_wp2_with fail
    go_end0
    exact HE.out
  · have hT := takeP_4 e w t
    rw [hT]
    rw [e] at c6
    have HF := Lib.hid (HM.out.set 6 (.int .i64 3) (v' := v.to 3) rfl).end
    clear h hb h3 hs e hT
    go_enter Try.func12, Try.ntmps12
    go_wp2_with fail
    go_end0
    exact HF.out

/-! ### Result -/
abbrev pndV (n e : Int) (b : Bool) : Value := .agg #[.int .i64 n, .int .u64 e, .bool b]
abbrev pndO (n e : Int) (b : Bool) : Obj := .cells #[.int .i64 n, .int .u64 e, .bool b] 35 (0, 0)
theorem pnd_at {X : World} {m : Nat} {n e : Int} {b : Bool} {t : TypeId} (hX : X.heap[m]? = some (.cells #[.int .i64 n, .int .u64 e, .bool b] t (0, 0))) : X.cell? ⟨m, 0, none⟩ = some (.int .i64 n) ∧ X.cell? ⟨m, 1, none⟩ = some (.int .u64 e) ∧ X.cell? ⟨m, 2, none⟩ = some (.bool b) :=
  ⟨(cell_of hX).trans rfl, (cell_of hX).trans rfl, (cell_of hX).trans rfl⟩
theorem pnd_free {X : World} {m : Nat} {n e : Int} {b : Bool} {t : TypeId} (hX : X.heap[m]? = some (.cells #[.int .i64 n, .int .u64 e, .bool b] t (0, 0))) (i : Nat) : X.frozen? ⟨m, i, none⟩ = false := by simp [World.frozen?, hX]
/-- What Result tells. -/
def resP (v : PinD) : (Int × Int × Bool) × Bool := if v.part = 5 then ((v.pn, v.ep, v.taken), true) else ((0, 0, false), false)
def PresE (v : PinD) (W : World) (e : Ending) (W' : World) : Prop := e = .returned (.tuple #[pndV (resP v).1.1 (resP v).1.2.1 (resP v).1.2.2, .bool (resP v).2]) ∧ Below W.heap.size W W'

set_option maxRecDepth 100000 in
set_option maxHeartbeats 2000000 in
theorem pres_any (W : World) {r : Nat} {v : PinD} (h : W.heap[r]? = some (pnrO v)) : Calls Try.prog 10 #[.pointer (some ⟨r, 0, none⟩)] W (PresE v W) := by
  have HB := Lib.hid (below_alloc W (pndO 0 0 false))
  have HN := Lib.hid (World.alloc_heap_new W (pndO 0 0 false))
  obtain ⟨m0, m1, m2⟩ := pnd_at HN.out
  have z0 := pnd_free HN.out 0
  have z1 := pnd_free HN.out 1
  have z2 := pnd_free HN.out 2
  obtain ⟨-, c6, -, c8, c9, c10⟩ := pnr_at ((HB.out.block r (heap_at_lt h)).trans h)
  have hne : W.heap.size ≠ r := by have := heap_at_lt h; omega
  obtain ⟨a, p, s, q, v', x, part, tried, pn, ep, tk⟩ := v
  simp only at c6 c8 c9 c10
  clear h
  by_cases h5 : part = 5
  · subst h5
    show Calls _ _ _ _ (fun e W' => e = .returned (.tuple #[pndV pn ep tk, .bool true]) ∧ Below W.heap.size W W')
    go_enter Try.func10, Try.ntmps10
    go_wp2_with fail
    refine bodyPost_ret (v := .tuple #[pndV pn ep tk, .bool true]) (by rw [results_cell2 (by rfl)]; go_simp) rfl ⟨rfl, ?_⟩
    exact below_alloc _ _
  · have hR : resP ⟨a, p, s, q, v', x, part, tried, pn, ep, tk⟩ = ((0, 0, false), false) := if_neg h5
    unfold PresE
    rw [hR]
    have hb : ((part : Int) != 5) = true := by simp; omega
    clear h5 hR
    go_enter Try.func10, Try.ntmps10
    go_wp2_with fail
    refine bodyPost_ret (v := .tuple #[pndV 0 0 false, .bool false]) (by rw [results_cell2 (by rfl)]; go_simp) rfl ⟨rfl, ?_⟩
    exact below_alloc _ _

end Go.Proofs.Ytgigjbngocfkbaa
