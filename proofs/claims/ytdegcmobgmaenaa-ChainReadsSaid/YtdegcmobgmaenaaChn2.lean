/-
  chain's routine: Take, Result, Passed, New.
-/
import Derived.Test.YtdegcmobgmaenaaChn
import Derived.WalkMore
namespace Go.Proofs.Ytdegcmobgmaenaa
open Go Go.RowKit
attribute [local go_sem ↓] Go.wp_at_zero Go.wp_at_succ

theorem ifany_any (X : World) (w : Int) (n : Nat) : Calls Try.prog 67 #[.int .u64 w, .int .i64 (n : Int)] X fun e X' => e = .returned (.int .i64 (anyC w n : Nat)) ∧ X' = X := by
  by_cases h : w = 0
  · subst h
    go_enter Try.func67, Try.ntmps67
    go_wp2_with fail
    go_ret
    exact ⟨rfl, rfl⟩
  · have hb : (w == 0) = false := by simpa using h
    have e : anyC w n = n := if_neg h
    rw [e]
    clear h e
    go_enter Try.func67, Try.ntmps67
    go_wp2_with fail
    go_ret
    exact ⟨rfl, rfl⟩

/-! ### Take -/
def CtakeE (v : ChnD) (r : Nat) (W : World) (e : Ending) (W' : World) : Prop := e = .returned (.tuple #[]) ∧ W'.heap[r]? = some (chnO v) ∧ Step (fun k => k = r) (fun k => k = r) W W'
/-- In the middle of Take. -/
structure CMid (W : World) (r : Nat) (v : ChnD) (w : Int) (t : ByteArray) (X : World) : Prop where
  own : X.heap[r]? = some (chnO v)
  got : X.heap[W.heap.size]? = some (gotO w t)
  ne : W.heap.size ≠ r
  st : Step (fun k => k = r) (fun k => k = r) W X
section
variable {W X Y : World} {r : Nat} {v : ChnD} {w : Int} {t : ByteArray}
theorem CMid.below (h : CMid W r v w t X) (hb : Below X.heap.size X Y) : CMid W r v w t Y :=
  ⟨(hb.block _ (heap_at_lt h.own)).trans h.own, (hb.block _ (heap_at_lt h.got)).trans h.got, h.ne, h.st.trans (Step.of_below hb)⟩
theorem CMid.set (h : CMid W r v w t X) (i : Nat) (u : Value) {v' : ChnD} (e : (chnC v).setIfInBounds i u = chnC v') : CMid W r v' w t (X.setCell ⟨r, i, none⟩ u) :=
  ⟨(heap_setAt h.own).trans (by rw [e]), (Below.heap_setCell _ _ _ _ h.ne).trans h.got, h.ne, h.st.trans (Step.setCell u rfl)⟩
theorem CMid.end (h : CMid W r v w t X) : CtakeE v r W (.returned (.tuple #[])) X := ⟨rfl, h.own, h.st⟩
end

set_option maxRecDepth 100000 in
set_option maxHeartbeats 4000000 in
theorem ctake_any (W : World) {r : Nat} {v : ChnD} (h : W.heap[r]? = some (chnO v)) (hv : v.fits) (hs : (nextC v).isSome = true) (w : Int) (t : ByteArray) (hg : Good w t) :
    Calls Try.prog 66 #[.pointer (some ⟨r, 0, none⟩), gotV w t] W (CtakeE (takeC v w t) r W) := by
  have HM := Lib.hid (show CMid W r v w t (W.alloc (gotO w t)) from ⟨((below_alloc W _).block r (heap_at_lt h)).trans h, World.alloc_heap_new W _, by have := heap_at_lt h; omega, Step.of_below (below_alloc W _)⟩)
  have HI := Lib.hid (fun (X : World) (n : Nat) => ifany_any X w n)
  have HC := Lib.hid (fun (X : World) => clone_any t X hg.2)
  have hw0 := hg.1.1
  obtain ⟨g0, g1⟩ := two_at HM.out.got
  obtain ⟨c0, c1, c2, c3, c4, c5, c6⟩ := chn_at HM.out.own
  have zz := chn_free HM.out.own
  have z2 := zz 2
  have z3 := zz 3
  have z4 := zz 4
  have z5 := zz 5
  have z6 := zz 6
  have hp := hv.2.2.1
  have hep := hv.2.1
  have hps := hv.2.2.2.1
  obtain ⟨hd, ep, ak, pa, has, tx, bl⟩ := v
  simp only at c0 c1 c2 c3 c4 c5 c6 hp hep hps
  have h5 : ak = 1 ∨ ak = 2 ∨ ak = 3 ∨ ak = 4 ∨ ak = 5 := by
    have : ak ≠ 6 := fun e => by subst e; cases hs
    omega
  have ewt : ((w.toNat : Nat) : Int) = w := by omega
  clear h hv hs hg zz hp
  rcases h5 with rfl | rfl | rfl | rfl | rfl
  · show Calls _ _ _ _ (CtakeE ⟨hd, ep, anyC w 2, pa, has, tx, w.toNat⟩ r W)
    have HA := Lib.hid (show CMid W r ⟨hd, ep, 1, pa, has, tx, w.toNat⟩ w t ((W.alloc (gotO w t)).setCell ⟨r, 6, none⟩ (.int .u64 w)) from HM.out.set 6 _ (by rw [← ewt]; rfl))
    go_enter Try.func66, Try.ntmps66
    go_wp2_with fail
    refine (HI.out _ 2).mono ?_
    rintro en w1 ⟨rfl, rfl⟩
    have HF := Lib.hid ((HA.out.set 2 (.int .i64 ((anyC w 2 : Nat) : Int)) (v' := ⟨hd, ep, anyC w 2, pa, has, tx, w.toNat⟩) rfl).end)
    generalize ((anyC w 2 : Nat) : Int) = k at HF ⊢
    go_wp2_with fail
    go_end0
    exact HF.out
  · show Calls _ _ _ _ (CtakeE ⟨hd, ep, if ep < w then 3 else 4, pa, has, tx, bl⟩ r W)
    have HA := Lib.hid (show CMid W r ⟨hd, ep, 4, pa, has, tx, bl⟩ w t ((W.alloc (gotO w t)).setCell ⟨r, 2, none⟩ (.int .i64 4)) from HM.out.set 2 _ rfl)
    by_cases hl : ep < w
    · rw [if_pos hl]
      go_enter Try.func66, Try.ntmps66
      go_wp2_with fail
      generalize (W.alloc (gotO w t)).setCell ⟨r, 2, none⟩ (.int .i64 4) = w1 at HA ⊢
      clear g0 g1 c0 c1 c2 c3 c4 c5 c6 z2 z3 z4 z5 z6
      obtain ⟨g0, g1⟩ := two_at HA.out.got
      obtain ⟨c0, c1, c2, c3, c4, c5, c6⟩ := chn_at HA.out.own
      go_quiet (fail)
      rename Nat => nq
      have HB := Lib.hid (HA.out.below (below_draws w1 nq))
      generalize w1.drewN nq = w2 at HB ⊢
      have z2 := chn_free HB.out.own 2
      have c2 := (chn_at HB.out.own).2.2.1
      have HF := Lib.hid ((HB.out.set 2 (.int .i64 3) (v' := ⟨hd, ep, 3, pa, has, tx, bl⟩) rfl).end)
      go_wp2_with fail
      go_end0
      exact HF.out
    · rw [if_neg hl]
      go_enter Try.func66, Try.ntmps66
      go_wp2_with fail
      generalize (W.alloc (gotO w t)).setCell ⟨r, 2, none⟩ (.int .i64 4) = w1 at HA ⊢
      clear g0 g1 c0 c1 c2 c3 c4 c5 c6 z2 z3 z4 z5 z6
      obtain ⟨g0, g1⟩ := two_at HA.out.got
      obtain ⟨c0, c1, c2, c3, c4, c5, c6⟩ := chn_at HA.out.own
      go_quiet (fail)
      rename Nat => nq
      have HB := Lib.hid (HA.out.below (below_draws w1 nq))
      generalize w1.drewN nq = w2 at HB ⊢
      have HF := Lib.hid HB.out.end
      go_wp2_with fail
      go_end0
      exact HF.out
  · show Calls _ _ _ _ (CtakeE ⟨hd, ep, anyC w 2, wrap64 (pa + 1), has, tx, w.toNat⟩ r W)
    obtain ⟨pw, hpw⟩ : ∃ z, wrap64 (pa + 1) = z := ⟨_, rfl⟩
    rw [hpw]
    have HA := Lib.hid (show CMid W r ⟨hd, ep, 3, pw, has, tx, w.toNat⟩ w t (((W.alloc (gotO w t)).setCell ⟨r, 3, none⟩ (.int .i64 pw)).setCell ⟨r, 6, none⟩ (.int .u64 w)) from (HM.out.set 3 (.int .i64 pw) (v' := ⟨hd, ep, 3, pw, has, tx, bl⟩) rfl).set 6 _ (by rw [← ewt]; rfl))
    go_enter Try.func66, Try.ntmps66
    go_wp2_with fail
    refine (HI.out _ 2).mono ?_
    rintro en w1 ⟨rfl, rfl⟩
    have HF := Lib.hid ((HA.out.set 2 (.int .i64 ((anyC w 2 : Nat) : Int)) (v' := ⟨hd, ep, anyC w 2, pw, has, tx, w.toNat⟩) rfl).end)
    generalize ((anyC w 2 : Nat) : Int) = k at HF ⊢
    go_wp2_with fail
    go_end0
    exact HF.out
  · show Calls _ _ _ _ (CtakeE ⟨hd, ep, anyC w 5, pa, !(w == 0), tx, bl⟩ r W)
    obtain ⟨hb, hhb⟩ : ∃ z, (!(w == 0)) = z := ⟨_, rfl⟩
    have hhb2 : (w != 0) = hb := hhb
    rw [hhb]
    have HA := Lib.hid (show CMid W r ⟨hd, ep, 4, pa, hb, tx, bl⟩ w t ((W.alloc (gotO w t)).setCell ⟨r, 4, none⟩ (.bool hb)) from HM.out.set 4 _ rfl)
    go_enter Try.func66, Try.ntmps66
    go_wp2_with fail
    refine (HI.out _ 5).mono ?_
    rintro en w1 ⟨rfl, rfl⟩
    have HF := Lib.hid ((HA.out.set 2 (.int .i64 ((anyC w 5 : Nat) : Int)) (v' := ⟨hd, ep, anyC w 5, pa, hb, tx, bl⟩) rfl).end)
    generalize ((anyC w 5 : Nat) : Int) = k at HF ⊢
    go_wp2_with fail
    go_end0
    exact HF.out
  · show Calls _ _ _ _ (CtakeE ⟨hd, ep, 6, pa, has, t, bl⟩ r W)
    go_enter Try.func66, Try.ntmps66
    go_wp2_with fail
    refine (HC.out _).mono ?_
    rintro en w1 ⟨rfl, hb⟩
    have HA := Lib.hid (HM.out.below hb)
    have HF := Lib.hid (((HA.out.set 5 (.string t) (v' := ⟨hd, ep, 5, pa, has, t, bl⟩) rfl).set 2 (.int .i64 6) (v' := ⟨hd, ep, 6, pa, has, t, bl⟩) rfl).end)
    clear g0 g1 c0 c1 c2 c3 c4 c5 c6 z2 z3 z4 z5 z6 hb
    obtain ⟨c0, c1, c2, c3, c4, c5, c6⟩ := chn_at HA.out.own
    have z5 := chn_free HA.out.own 5
    have z2 := chn_free HA.out.own 2
    go_wp2_with fail
    go_end0
    exact HF.out

/-! ### Result, Passed -/
abbrev valV (h : Bool) (t : ByteArray) (b : Int) : Value := .agg #[.bool h, .string t, .int .u64 b]
abbrev valO (h : Bool) (t : ByteArray) (b : Int) : Obj := .cells #[.bool h, .string t, .int .u64 b] 36 (0, 0)
theorem val_at {X : World} {n : Nat} {h : Bool} {t : ByteArray} {b : Int} (hX : X.heap[n]? = some (valO h t b)) : X.cell? ⟨n, 0, none⟩ = some (.bool h) ∧ X.cell? ⟨n, 1, none⟩ = some (.string t) ∧ X.cell? ⟨n, 2, none⟩ = some (.int .u64 b) :=
  ⟨(cell_of hX).trans rfl, (cell_of hX).trans rfl, (cell_of hX).trans rfl⟩
theorem val_free {X : World} {n : Nat} {h : Bool} {t : ByteArray} {b : Int} (hX : X.heap[n]? = some (valO h t b)) (i : Nat) : X.frozen? ⟨n, i, none⟩ = false := by simp [World.frozen?, hX]
theorem load_val {X : World} {n : Nat} {k : Bool} {t : ByteArray} {b : Int} (h : X.heap[n]? = some (valO k t b)) : (loadVar 36 ⟨n, 0, none⟩).run Try.prog X = .ok (valV k t b) X := by
  obtain ⟨m0, m1, m2⟩ := val_at h
  go_simp

set_option maxRecDepth 100000 in
set_option maxHeartbeats 2000000 in
theorem cres_any (W : World) {r : Nat} {v : ChnD} (h : W.heap[r]? = some (chnO v)) (h6 : v.asks = 6) :
    Calls Try.prog 10 #[.pointer (some ⟨r, 0, none⟩)] W fun e W' => e = .returned (.tuple #[valV v.has v.text v.block, .bool true]) ∧ Below W.heap.size W W' := by
  have HB := Lib.hid (below_alloc W (valO false ⟨#[]⟩ 0))
  have HN := Lib.hid (World.alloc_heap_new W (valO false ⟨#[]⟩ 0))
  obtain ⟨m0, m1, m2⟩ := val_at HN.out
  have z0 := val_free HN.out 0
  have z1 := val_free HN.out 1
  have z2 := val_free HN.out 2
  obtain ⟨c0, c1, c2, c3, c4, c5, c6⟩ := chn_at ((HB.out.block r (heap_at_lt h)).trans h)
  have hne : W.heap.size ≠ r := by have := heap_at_lt h; omega
  obtain ⟨hd, ep, ak, pa, hs, tx, bl⟩ := v
  simp only at c0 c1 c2 c3 c4 c5 c6 h6
  subst h6
  clear h
  go_enter Try.func10, Try.ntmps10
  go_wp2_with fail
  refine bodyPost_ret (v := .tuple #[valV hs tx bl, .bool true]) (by rw [results_cell2 (by rfl)]; go_simp) rfl ⟨rfl, ?_⟩
  exact below_alloc _ _

theorem cpassed_any (W : World) {r : Nat} {v : ChnD} (h : W.heap[r]? = some (chnO v)) :
    Calls Try.prog 11 #[.pointer (some ⟨r, 0, none⟩)] W fun e W' => e = .returned (.int .i64 v.passed) ∧ W = W' := by
  obtain ⟨c0, c1, c2, c3, c4, c5, c6⟩ := chn_at h
  clear h
  go_enter Try.func11, Try.ntmps11
  go_wp2_with fail
  go_ret
  exact ⟨rfl, rfl⟩
theorem cpassed_nil (W : World) : Calls Try.prog 11 #[.pointer none] W fun e W' => e = .returned (.int .i64 0) ∧ W = W' := by
  go_enter Try.func11, Try.ntmps11
  go_wp2_with fail
  go_ret
  exact ⟨rfl, rfl⟩

/-! ### New -/
def CnewE (v : ChnD) (W : World) (e : Ending) (W' : World) : Prop := ∃ r, e = .returned (.pointer (some ⟨r, 0, none⟩)) ∧ W.heap.size ≤ r ∧ W'.heap[r]? = some (chnO v) ∧ Below W.heap.size W W'
/-- A chain that is read, at its beginning. -/
def newC (h ep : Int) : ChnD := ⟨h, ep, 1, 0, false, ⟨#[]⟩, 0⟩

set_option maxRecDepth 100000 in
set_option maxHeartbeats 2000000 in
theorem cnew_any (W : World) (a p s q v x sh ep : Int) (hh : 0 ≤ headW a p s q v sh) :
    Calls Try.prog 8 #[cfV a p s q v x, .int .i64 sh, .int .u64 ep] W (CnewE (newC (headW a p s q v sh) ep) W) := by
  have HH := Lib.hid (fun X : World => head_any a p s q v x sh X)
  generalize headW a p s q v sh = h at HH hh ⊢
  have X0 := Lib.hid (BoxC.start W a p s q v x)
  obtain ⟨c0, c1, c2, c3, c4, c5⟩ := X0.out.six
  have hn : ¬ h < 0 := by omega
  go_enter Try.func8, Try.ntmps8
  go_wp2_with fail
  refine (HH.out _).mono ?_
  rintro en w1 ⟨rfl, hb⟩
  have HB := Lib.hid (X0.out.lo.trans (hb.mono X0.out.lo.size))
  clear hb c0 c1 c2 c3 c4 c5
  go_wp2_with fail
  go_ret
  exact ⟨_, rfl, HB.out.size, World.alloc_heap_new w1 (chnO (newC h ep)), HB.out.trans ((below_alloc w1 _).mono HB.out.size)⟩

end Go.Proofs.Ytdegcmobgmaenaa
