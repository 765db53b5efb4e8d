/-
  read's routine: Take, part by part.
-/
import Derived.Test.YtpnfbabiibopnaaRdu
namespace Go.Proofs.Ytpnfbabiibopnaa
open Go Go.RowKit
attribute [local go_sem ↓] Go.wp_at_zero Go.wp_at_succ

set_option maxRecDepth 100000 in
set_option maxHeartbeats 2000000 in
theorem cres_not (W : World) {r : Nat} {v : ChnD} (h : W.heap[r]? = some (chnO v)) (h6 : v.asks ≠ 6) :
    Calls Try.prog 96 #[.pointer (some ⟨r, 0, none⟩)] W fun e W' => e = .returned (.tuple #[valV false ⟨#[]⟩ 0, .bool false]) ∧ Below W.heap.size W W' := by
  have HB := Lib.hid (below_alloc W (valO false ⟨#[]⟩ 0))
  have HN := Lib.hid (World.alloc_heap_new W (valO false ⟨#[]⟩ 0))
  obtain ⟨m0, m1, m2⟩ := val_at HN.out
  have z0 := val_free HN.out 0
  have z1 := val_free HN.out 1
  have z2 := val_free HN.out 2
  obtain ⟨-, -, c2, -, -, -, -⟩ := chn_at ((HB.out.block r (heap_at_lt h)).trans h)
  have hne : W.heap.size ≠ r := by have := heap_at_lt h; omega
  have hb : ((v.asks : Int) != 6) = true := by simp; omega
  generalize (v.asks : Int) = k at c2 hb
  clear h h6
  go_enter Try.func96, Try.ntmps96
  go_wp2_with fail
  refine bodyPost_ret (v := .tuple #[valV false ⟨#[]⟩ 0, .bool false]) (by rw [results_cell2 (by rfl)]; go_simp) rfl ⟨rfl, ?_⟩
  exact below_alloc _ _

section
variable {W : World} {B r rp rf : Nat} {rc : Option Addr} {E : RdD} {w : Int} {t : ByteArray}
set_option maxRecDepth 100000 in
set_option maxHeartbeats 4000000 in
theorem rtake_1no (h : RdIn W B r E rp rf rc) (hp : E.part = 1) (hs : (nextP E.pin).isSome = true) (h5 : (takeP E.pin w t).part ≠ 5) :
    Calls Try.prog 88 #[.pointer (some ⟨r, 0, none⟩), gotV w t] W (RtakeE W r rp rf none (pinnedR E (takeP E.pin w t)) rc w t) := by
  have HM0 := Lib.hid (RMid.start (cn := none) h (fun c e => by cases e) w t)
  have HPt := Lib.hid (fun (X : World) (ho : X.heap[rp]? = some (pnrO E.pin)) => ptake_any X ho h.pn.fits hs w t)
  obtain ⟨P, hP⟩ : ∃ P, takeP E.pin w t = P := ⟨_, rfl⟩
  rw [hP] at HPt h5 ⊢
  obtain ⟨mk, hmk⟩ : ∃ m, wrap64 (E.mark + 1) = m := ⟨_, rfl⟩
  have HMA := Lib.hid (HM0.out.set 18 (.int .i64 mk) (E' := ⟨E.a, E.p, E.s, E.q, E.v, E.x, E.part, E.pin, E.fnd, E.chn, E.code, E.took, E.val, mk⟩) (rc' := rc) rfl rfl rfl rfl)
  have hx := HM0.out.xbox
  obtain ⟨-, ⟨c6, c7, -, -⟩, -, c18, -⟩ := rd_at HM0.out.own
  have z18 := rd_free HM0.out.own 18
  rw [hp] at c6
  have hmix : Try.prog.follows .mixedOrders = true := by kernel_rfl
  have HE := Lib.hid (show pinnedR E P = (⟨E.a, E.p, E.s, E.q, E.v, E.x, E.part, P, E.fnd, E.chn, E.code, E.took, E.val, mk⟩ : RdD) from by unfold pinnedR; rw [if_neg h5, hmk])
  have HRr := Lib.hid (show resP P = ((0, 0, false), false) from if_neg h5)
  rw [HE.out]
  clear h hp hs h5 hP HE
  go_enter Try.func88, Try.ntmps88
  go_wp2_with fail
  generalize ((W.alloc (xO r)).alloc (gotO w t)).setCell ⟨r, 18, none⟩ (.int .i64 mk) = w1 at HMA ⊢
  clear hx c6 c7 c18 z18 HM0 hmk
  have hx := HMA.out.xbox
  have c7 := (rd_at HMA.out.own).2.1.2.1
  obtain ⟨g0, g1⟩ := two_at HMA.out.gt
  go_still_tail 5, hmix
  change wpList _ _ _ _ _ w1.drew
  have HM1 := Lib.hid (HMA.out.below (below_drew w1))
  clear hx c7 g0 g1 HMA
  generalize w1.drew = w2 at HM1 ⊢
  go_wp2_with fail
  refine (HPt.out _ HM1.out.pn).mono ?_
  rintro en w3 ⟨rfl, ho, hs⟩
  have HM2 := Lib.hid (HM1.out.pinS ho hs)
  clear ho hs HM1 HPt
  have hx := HM2.out.xbox
  have c7 := (rd_at HM2.out.own).2.1.2.1
  have HRs := Lib.hid (pres_any w3 HM2.out.pn)
  unfold PresE at HRs
  rw [show (RdD.wp _ P).pin = P from rfl, HRr.out] at HRs
  go_wp2_with fail
  refine HRs.out.mono ?_
  rintro en w4 ⟨rfl, hb⟩
  have hb2 := hb.trans ((below_alloc w4 (pndO 0 0 false)).mono hb.size)
  have HM3 := Lib.hid (HM2.out.below hb2)
  have HG3 := Lib.hid (World.alloc_heap_new w4 (pndO 0 0 false))
  clear hb hb2 hx c7 HM2 HRs
  have hx := HM3.out.xbox
  go_wp2_with fail
  generalize w4.heap.size = g at HG3 ⊢
  generalize w4.alloc (pndO 0 0 false) = w5 at HM3 HG3 hx ⊢
  refine (goon_no _ _ _).mono ?_
  rintro en w6 ⟨rfl, rfl⟩
  go_wp2_with fail
  go_end0
  exact ⟨rfl, HM3.out⟩

set_option maxRecDepth 100000 in
set_option maxHeartbeats 4000000 in
theorem rtake_1got (h : RdIn W B r E rp rf rc) (hp : E.part = 1) (hs : (nextP E.pin).isSome = true) (h5 : (takeP E.pin w t).part = 5 ∧ (takeP E.pin w t).taken = false) :
    Calls Try.prog 88 #[.pointer (some ⟨r, 0, none⟩), gotV w t] W (RtakeE W r rp rf none (pinnedR E (takeP E.pin w t)) rc w t) := by
  have HM0 := Lib.hid (RMid.start (cn := none) h (fun c e => by cases e) w t)
  have HPt := Lib.hid (fun (X : World) (ho : X.heap[rp]? = some (pnrO E.pin)) => ptake_any X ho h.pn.fits hs w t)
  obtain ⟨P, hP⟩ : ∃ P, takeP E.pin w t = P := ⟨_, rfl⟩
  rw [hP] at HPt h5 ⊢
  obtain ⟨mk, hmk⟩ : ∃ m, wrap64 (E.mark + 1) = m := ⟨_, rfl⟩
  have HMA := Lib.hid (HM0.out.set 18 (.int .i64 mk) (E' := ⟨E.a, E.p, E.s, E.q, E.v, E.x, E.part, E.pin, E.fnd, E.chn, E.code, E.took, E.val, mk⟩) (rc' := rc) rfl rfl rfl rfl)
  have hx := HM0.out.xbox
  obtain ⟨-, ⟨c6, c7, -, -⟩, -, c18, -⟩ := rd_at HM0.out.own
  have z18 := rd_free HM0.out.own 18
  rw [hp] at c6
  have hmix : Try.prog.follows .mixedOrders = true := by kernel_rfl
  have HE := Lib.hid (show pinnedR E P = (⟨E.a, E.p, E.s, E.q, E.v, E.x, 2, P, E.fnd, E.chn, E.code, E.took, E.val, mk⟩ : RdD) from by unfold pinnedR; rw [if_pos h5.1, if_neg (by rw [h5.2]; decide), hmk])
  have HRr := Lib.hid (show resP P = ((P.pn, P.ep, false), true) from by unfold resP; rw [if_pos h5.1, h5.2])
  rw [HE.out]
  clear h hp hs h5 hP HE
  go_enter Try.func88, Try.ntmps88
  go_wp2_with fail
  generalize ((W.alloc (xO r)).alloc (gotO w t)).setCell ⟨r, 18, none⟩ (.int .i64 mk) = w1 at HMA ⊢
  clear hx c6 c7 c18 z18 HM0 hmk
  have hx := HMA.out.xbox
  have c7 := (rd_at HMA.out.own).2.1.2.1
  obtain ⟨g0, g1⟩ := two_at HMA.out.gt
  go_still_tail 5, hmix
  change wpList _ _ _ _ _ w1.drew
  have HM1 := Lib.hid (HMA.out.below (below_drew w1))
  clear hx c7 g0 g1 HMA
  generalize w1.drew = w2 at HM1 ⊢
  go_wp2_with fail
  refine (HPt.out _ HM1.out.pn).mono ?_
  rintro en w3 ⟨rfl, ho, hs⟩
  have HM2 := Lib.hid (HM1.out.pinS ho hs)
  clear ho hs HM1 HPt
  have hx := HM2.out.xbox
  have c7 := (rd_at HM2.out.own).2.1.2.1
  have HRs := Lib.hid (pres_any w3 HM2.out.pn)
  unfold PresE at HRs
  rw [show (RdD.wp _ P).pin = P from rfl, HRr.out] at HRs
  go_wp2_with fail
  refine HRs.out.mono ?_
  rintro en w4 ⟨rfl, hb⟩
  have hb2 := hb.trans ((below_alloc w4 (pndO P.pn P.ep false)).mono hb.size)
  have HM3 := Lib.hid (HM2.out.below hb2)
  have HG3 := Lib.hid (World.alloc_heap_new w4 (pndO P.pn P.ep false))
  clear hb hb2 hx c7 HM2 HRs
  have hx := HM3.out.xbox
  go_wp2_with fail
  generalize w4.heap.size = g at HG3 ⊢
  generalize w4.alloc (pndO P.pn P.ep false) = w5 at HM3 HG3 hx ⊢
  refine (goon_yes (R := fun X => RMid W r rp rf none (RdD.wp ⟨E.a, E.p, E.s, E.q, E.v, E.x, E.part, E.pin, E.fnd, E.chn, E.code, E.took, E.val, mk⟩ P) rc w t X) _ r 91 g W.heap.size 2 rt1_ent (Lib.hid (rt1_not HM3.out HG3.out)) (Lib.hid fun X hX => ⟨rd_free hX.own 6, _, (rd_at hX.own).2.1.1⟩)).mono ?_
  rintro en w6 ⟨rfl, X6, h6, rfl⟩
  have HF := Lib.hid (h6.set 6 (.int .i64 2) (E' := { (RdD.wp ⟨E.a, E.p, E.s, E.q, E.v, E.x, E.part, E.pin, E.fnd, E.chn, E.code, E.took, E.val, mk⟩ P) with part := 2 }) (rc' := rc) rfl rfl rfl rfl)
  clear h6
  go_wp2_with fail
  go_end0
  exact ⟨rfl, HF.out⟩

set_option maxRecDepth 100000 in
set_option maxHeartbeats 4000000 in
theorem rtake_1many (h : RdIn W B r E rp rf rc) (hp : E.part = 1) (hs : (nextP E.pin).isSome = true) (h5 : (takeP E.pin w t).part = 5 ∧ (takeP E.pin w t).taken = true) :
    Calls Try.prog 88 #[.pointer (some ⟨r, 0, none⟩), gotV w t] W (RtakeE W r rp rf none (pinnedR E (takeP E.pin w t)) rc w t) := by
  have HM0 := Lib.hid (RMid.start (cn := none) h (fun c e => by cases e) w t)
  have HPt := Lib.hid (fun (X : World) (ho : X.heap[rp]? = some (pnrO E.pin)) => ptake_any X ho h.pn.fits hs w t)
  obtain ⟨P, hP⟩ : ∃ P, takeP E.pin w t = P := ⟨_, rfl⟩
  rw [hP] at HPt h5 ⊢
  obtain ⟨mk, hmk⟩ : ∃ m, wrap64 (E.mark + 1) = m := ⟨_, rfl⟩
  have HMA := Lib.hid (HM0.out.set 18 (.int .i64 mk) (E' := ⟨E.a, E.p, E.s, E.q, E.v, E.x, E.part, E.pin, E.fnd, E.chn, E.code, E.took, E.val, mk⟩) (rc' := rc) rfl rfl rfl rfl)
  have hx := HM0.out.xbox
  obtain ⟨-, ⟨c6, c7, -, -⟩, -, c18, -⟩ := rd_at HM0.out.own
  have z18 := rd_free HM0.out.own 18
  rw [hp] at c6
  have hmix : Try.prog.follows .mixedOrders = true := by kernel_rfl
  have HE := Lib.hid (show pinnedR E P = (⟨E.a, E.p, E.s, E.q, E.v, E.x, 5, P, E.fnd, E.chn, 11, false, ⟨#[]⟩, 0⟩ : RdD) from by unfold pinnedR; rw [if_pos h5.1, if_pos h5.2])
  have HRr := Lib.hid (show resP P = ((P.pn, P.ep, true), true) from by unfold resP; rw [if_pos h5.1, h5.2])
  rw [HE.out]
  clear h hp hs h5 hP HE
  go_enter Try.func88, Try.ntmps88
  go_wp2_with fail
  generalize ((W.alloc (xO r)).alloc (gotO w t)).setCell ⟨r, 18, none⟩ (.int .i64 mk) = w1 at HMA ⊢
  clear hx c6 c7 c18 z18 HM0 hmk
  have hx := HMA.out.xbox
  have c7 := (rd_at HMA.out.own).2.1.2.1
  obtain ⟨g0, g1⟩ := two_at HMA.out.gt
  go_still_tail 5, hmix
  change wpList _ _ _ _ _ w1.drew
  have HM1 := Lib.hid (HMA.out.below (below_drew w1))
  clear hx c7 g0 g1 HMA
  generalize w1.drew = w2 at HM1 ⊢
  go_wp2_with fail
  refine (HPt.out _ HM1.out.pn).mono ?_
  rintro en w3 ⟨rfl, ho, hs⟩
  have HM2 := Lib.hid (HM1.out.pinS ho hs)
  clear ho hs HM1 HPt
  have hx := HM2.out.xbox
  have c7 := (rd_at HM2.out.own).2.1.2.1
  have HRs := Lib.hid (pres_any w3 HM2.out.pn)
  unfold PresE at HRs
  rw [show (RdD.wp _ P).pin = P from rfl, HRr.out] at HRs
  go_wp2_with fail
  refine HRs.out.mono ?_
  rintro en w4 ⟨rfl, hb⟩
  have hb2 := hb.trans ((below_alloc w4 (pndO P.pn P.ep true)).mono hb.size)
  have HM3 := Lib.hid (HM2.out.below hb2)
  have HG3 := Lib.hid (World.alloc_heap_new w4 (pndO P.pn P.ep true))
  clear hb hb2 hx c7 HM2 HRs
  have hx := HM3.out.xbox
  go_wp2_with fail
  generalize w4.heap.size = g at HG3 ⊢
  generalize w4.alloc (pndO P.pn P.ep true) = w5 at HM3 HG3 hx ⊢
  refine (goon_yes (R := fun X => RMid W r rp rf none (RdD.wp ⟨E.a, E.p, E.s, E.q, E.v, E.x, E.part, E.pin, E.fnd, E.chn, E.code, E.took, E.val, mk⟩ P).tooMany rc w t X) _ r 91 g W.heap.size 5 rt1_ent (Lib.hid (rt1_many HM3.out HG3.out)) (Lib.hid fun X hX => ⟨rd_free hX.own 6, _, (rd_at hX.own).2.1.1⟩)).mono ?_
  rintro en w6 ⟨rfl, X6, h6, rfl⟩
  have HF := Lib.hid (h6.set 6 (.int .i64 5) (E' := { (RdD.wp ⟨E.a, E.p, E.s, E.q, E.v, E.x, E.part, E.pin, E.fnd, E.chn, E.code, E.took, E.val, mk⟩ P).tooMany with part := 5 }) (rc' := rc) rfl rfl rfl rfl)
  clear h6
  go_wp2_with fail
  go_end0
  exact ⟨rfl, HF.out⟩

set_option maxRecDepth 100000 in
set_option maxHeartbeats 4000000 in
theorem rtake_2no (h : RdIn W B r E rp rf rc) (hp : E.part = 2) (hs : (nextF E.fnd).isSome = true) (hg : Good w t) (h5 : (takeF E.fnd w t).k = 0 ∧ (takeF E.fnd w t).sh = 0) :
    Calls Try.prog 88 #[.pointer (some ⟨r, 0, none⟩), gotV w t] W (RtakeE W r rp rf none (foundR E (takeF E.fnd w t)) rc w t) := by
  have HM0 := Lib.hid (RMid.start (cn := none) h (fun c e => by cases e) w t)
  have HPt := Lib.hid (fun (X : World) (ho : X.heap[rf]? = some (fndO E.fnd)) => (by
    refine (find_takes (w := w) (t := t) (show FindAt X 0 rf E.fnd (fun k => k = rf) from ⟨ho, rfl, Nat.zero_le _, h.fn.fits⟩) hs hg).mono ?_
    rintro e Y ⟨f', he, ha, hst⟩
    have hf := ha.foot
    subst hf
    exact ⟨he, ha.own, hst⟩ : Calls Try.prog 92 #[.pointer (some ⟨rf, 0, none⟩), gotV w t] X fun e Y => e = .returned (.tuple #[]) ∧ Y.heap[rf]? = some (fndO (takeF E.fnd w t)) ∧ Step (fun k => k = rf) (fun k => k = rf) X Y))
  obtain ⟨P, hP⟩ : ∃ P, takeF E.fnd w t = P := ⟨_, rfl⟩
  rw [hP] at HPt h5 ⊢
  have hx := HM0.out.xbox
  obtain ⟨-, ⟨c6, -, c8, -⟩, -, -, -⟩ := rd_at HM0.out.own
  obtain ⟨g0, g1⟩ := two_at HM0.out.gt
  rw [hp] at c6
  have hmix : Try.prog.follows .mixedOrders = true := by kernel_rfl
  have HE := Lib.hid (show foundR E P = E.wf P from by unfold foundR; rw [if_pos h5.1]; rfl)
  have HRr := Lib.hid (show ∀ (X : World), X.heap[rf]? = some (fndO P) → Calls Try.prog 29 #[.pointer (some ⟨rf, 0, none⟩)] X (ResE 0 0 false X) from fun X hX => fres_any X hX h5.1 h5.2 rfl)
  rw [HE.out]
  clear h hp hs hg h5 hP HE
  go_enter Try.func88, Try.ntmps88
  go_wp2_with fail
  generalize (W.alloc (xO r)).alloc (gotO w t) = w1 at HM0 hx c6 c8 g0 g1 ⊢
  go_still_tail 5, hmix
  change wpList _ _ _ _ _ w1.drew
  have HM1 := Lib.hid (HM0.out.below (below_drew w1))
  clear hx c6 c8 g0 g1 HM0
  generalize w1.drew = w2 at HM1 ⊢
  go_wp2_with fail
  refine (HPt.out _ HM1.out.fn).mono ?_
  rintro en w3 ⟨rfl, ho, hs⟩
  have HM2 := Lib.hid (HM1.out.fndS ho hs)
  clear ho hs HM1 HPt
  have hx := HM2.out.xbox
  have c8 := (rd_at HM2.out.own).2.1.2.2.1
  have HRs := Lib.hid (HRr.out w3 HM2.out.fn)
  go_wp2_with fail
  refine HRs.out.mono ?_
  rintro en w4 ⟨rfl, hb⟩
  have hb2 := hb.trans ((below_alloc w4 (fouO 0 0)).mono hb.size)
  have HM3 := Lib.hid (HM2.out.below hb2)
  have HG3 := Lib.hid (World.alloc_heap_new w4 (fouO 0 0))
  have HGg := Lib.hid (show W.heap.size < w4.heap.size from by have h1 := heap_at_lt HM2.out.gt; have := hb.size; omega)
  clear hb hb2 hx c8 HM2 HRs
  have hx := HM3.out.xbox
  go_wp2_with fail
  generalize w4.heap.size = g at HG3 HGg ⊢
  generalize w4.alloc (fouO 0 0) = w5 at HM3 HG3 hx ⊢
  refine (goon_no _ _ _).mono ?_
  rintro en w6 ⟨rfl, rfl⟩
  go_wp2_with fail
  go_end0
  exact ⟨rfl, HM3.out⟩

set_option maxRecDepth 100000 in
set_option maxHeartbeats 4000000 in
theorem rtake_2not (h : RdIn W B r E rp rf rc) (hp : E.part = 2) (hs : (nextF E.fnd).isSome = true) (hg : Good w t) (h5 : (takeF E.fnd w t).k ≠ 0 ∧ (takeF E.fnd w t).k ≠ 1) :
    Calls Try.prog 88 #[.pointer (some ⟨r, 0, none⟩), gotV w t] W (RtakeE W r rp rf none (foundR E (takeF E.fnd w t)) rc w t) := by
  have HM0 := Lib.hid (RMid.start (cn := none) h (fun c e => by cases e) w t)
  have HPt := Lib.hid (fun (X : World) (ho : X.heap[rf]? = some (fndO E.fnd)) => (by
    refine (find_takes (w := w) (t := t) (show FindAt X 0 rf E.fnd (fun k => k = rf) from ⟨ho, rfl, Nat.zero_le _, h.fn.fits⟩) hs hg).mono ?_
    rintro e Y ⟨f', he, ha, hst⟩
    have hf := ha.foot
    subst hf
    exact ⟨he, ha.own, hst⟩ : Calls Try.prog 92 #[.pointer (some ⟨rf, 0, none⟩), gotV w t] X fun e Y => e = .returned (.tuple #[]) ∧ Y.heap[rf]? = some (fndO (takeF E.fnd w t)) ∧ Step (fun k => k = rf) (fun k => k = rf) X Y))
  obtain ⟨P, hP⟩ : ∃ P, takeF E.fnd w t = P := ⟨_, rfl⟩
  rw [hP] at HPt h5 ⊢
  have hx := HM0.out.xbox
  obtain ⟨-, ⟨c6, -, c8, -⟩, -, -, -⟩ := rd_at HM0.out.own
  obtain ⟨g0, g1⟩ := two_at HM0.out.gt
  rw [hp] at c6
  have hmix : Try.prog.follows .mixedOrders = true := by kernel_rfl
  have HE := Lib.hid (show foundR E P = { E.wf P with part := 4 } from by unfold foundR; rw [if_neg h5.1, if_neg h5.2]; rfl)
  have HRr := Lib.hid (show ∀ (X : World), X.heap[rf]? = some (fndO P) → Calls Try.prog 29 #[.pointer (some ⟨rf, 0, none⟩)] X (ResE P.k P.sh true X) from fun X hX => fres_any X hX rfl rfl (by simp [h5.1]))
  have HK := Lib.hid h5.2
  rw [HE.out]
  clear h hp hs hg h5 hP HE
  go_enter Try.func88, Try.ntmps88
  go_wp2_with fail
  generalize (W.alloc (xO r)).alloc (gotO w t) = w1 at HM0 hx c6 c8 g0 g1 ⊢
  go_still_tail 5, hmix
  change wpList _ _ _ _ _ w1.drew
  have HM1 := Lib.hid (HM0.out.below (below_drew w1))
  clear hx c6 c8 g0 g1 HM0
  generalize w1.drew = w2 at HM1 ⊢
  go_wp2_with fail
  refine (HPt.out _ HM1.out.fn).mono ?_
  rintro en w3 ⟨rfl, ho, hs⟩
  have HM2 := Lib.hid (HM1.out.fndS ho hs)
  clear ho hs HM1 HPt
  have hx := HM2.out.xbox
  have c8 := (rd_at HM2.out.own).2.1.2.2.1
  have HRs := Lib.hid (HRr.out w3 HM2.out.fn)
  go_wp2_with fail
  refine HRs.out.mono ?_
  rintro en w4 ⟨rfl, hb⟩
  have hb2 := hb.trans ((below_alloc w4 (fouO P.k P.sh)).mono hb.size)
  have HM3 := Lib.hid (HM2.out.below hb2)
  have HG3 := Lib.hid (World.alloc_heap_new w4 (fouO P.k P.sh))
  have HGg := Lib.hid (show W.heap.size < w4.heap.size from by have h1 := heap_at_lt HM2.out.gt; have := hb.size; omega)
  clear hb hb2 hx c8 HM2 HRs
  have hx := HM3.out.xbox
  go_wp2_with fail
  generalize w4.heap.size = g at HG3 HGg ⊢
  generalize w4.alloc (fouO P.k P.sh) = w5 at HM3 HG3 hx ⊢
  refine (goon_yes (R := fun X => RMid W r rp rf none (E.wf P) rc w t X) _ r 93 g W.heap.size 4 rt2_ent (Lib.hid (rt2_not HM3.out HG3.out HK.out)) (Lib.hid fun X hX => ⟨rd_free hX.own 6, _, (rd_at hX.own).2.1.1⟩)).mono ?_
  rintro en w6 ⟨rfl, X6, h6, rfl⟩
  have HF := Lib.hid (h6.set 6 (.int .i64 4) (E' := { E.wf P with part := 4 }) (rc' := rc) rfl rfl rfl rfl)
  clear h6
  go_wp2_with fail
  go_end0
  exact ⟨rfl, HF.out⟩

set_option maxRecDepth 100000 in
set_option maxHeartbeats 4000000 in
theorem rtake_2here (h : RdIn W B r E rp rf rc) (hp : E.part = 2) (hs : (nextF E.fnd).isSome = true) (hg : Good w t) (h5 : (takeF E.fnd w t).k = 1) (hh : 0 ≤ headW E.a E.p E.s E.q E.v (takeF E.fnd w t).sh) :
    Calls Try.prog 88 #[.pointer (some ⟨r, 0, none⟩), gotV w t] W (fun e Y => e = .returned (.tuple #[]) ∧ Chained W r rp rf (foundR E (takeF E.fnd w t)) (newC (headW E.a E.p E.s E.q E.v (takeF E.fnd w t).sh) E.pin.ep) w t Y) := by
  have HM0 := Lib.hid (RMid.start (cn := none) h (fun c e => by cases e) w t)
  have HPt := Lib.hid (fun (X : World) (ho : X.heap[rf]? = some (fndO E.fnd)) => (by
    refine (find_takes (w := w) (t := t) (show FindAt X 0 rf E.fnd (fun k => k = rf) from ⟨ho, rfl, Nat.zero_le _, h.fn.fits⟩) hs hg).mono ?_
    rintro e Y ⟨f', he, ha, hst⟩
    have hf := ha.foot
    subst hf
    exact ⟨he, ha.own, hst⟩ : Calls Try.prog 92 #[.pointer (some ⟨rf, 0, none⟩), gotV w t] X fun e Y => e = .returned (.tuple #[]) ∧ Y.heap[rf]? = some (fndO (takeF E.fnd w t)) ∧ Step (fun k => k = rf) (fun k => k = rf) X Y))
  obtain ⟨P, hP⟩ : ∃ P, takeF E.fnd w t = P := ⟨_, rfl⟩
  rw [hP] at HPt h5 ⊢
  have hx := HM0.out.xbox
  obtain ⟨-, ⟨c6, -, c8, -⟩, -, -, -⟩ := rd_at HM0.out.own
  obtain ⟨g0, g1⟩ := two_at HM0.out.gt
  rw [hp] at c6
  have hmix : Try.prog.follows .mixedOrders = true := by kernel_rfl
  have HE := Lib.hid (show foundR E P = ⟨E.a, E.p, E.s, E.q, E.v, E.x, 3, E.pin, P, newC (headW E.a E.p E.s E.q E.v P.sh) E.pin.ep, E.code, E.took, E.val, E.mark⟩ from by unfold foundR; rw [if_neg (by rw [h5]; decide), if_pos h5])
  have HRr := Lib.hid (show ∀ (X : World), X.heap[rf]? = some (fndO P) → Calls Try.prog 29 #[.pointer (some ⟨rf, 0, none⟩)] X (ResE 1 P.sh true X) from fun X hX => fres_any X hX h5 rfl (by simp))
  rw [hP] at hh
  have HK := Lib.hid (show 0 ≤ headW E.a E.p E.s E.q E.v P.sh ∧ E.pin.part = 5 from ⟨hh, h.fits.held (by omega) (by omega)⟩)
  clear hh
  
  clear h hp hs hg h5 hP
  go_enter Try.func88, Try.ntmps88
  go_wp2_with fail
  generalize (W.alloc (xO r)).alloc (gotO w t) = w1 at HM0 hx c6 c8 g0 g1 ⊢
  go_still_tail 5, hmix
  change wpList _ _ _ _ _ w1.drew
  have HM1 := Lib.hid (HM0.out.below (below_drew w1))
  clear hx c6 c8 g0 g1 HM0
  generalize w1.drew = w2 at HM1 ⊢
  go_wp2_with fail
  refine (HPt.out _ HM1.out.fn).mono ?_
  rintro en w3 ⟨rfl, ho, hs⟩
  have HM2 := Lib.hid (HM1.out.fndS ho hs)
  clear ho hs HM1 HPt
  have hx := HM2.out.xbox
  have c8 := (rd_at HM2.out.own).2.1.2.2.1
  have HRs := Lib.hid (HRr.out w3 HM2.out.fn)
  go_wp2_with fail
  refine HRs.out.mono ?_
  rintro en w4 ⟨rfl, hb⟩
  have hb2 := hb.trans ((below_alloc w4 (fouO 1 P.sh)).mono hb.size)
  have HM3 := Lib.hid (HM2.out.below hb2)
  have HG3 := Lib.hid (World.alloc_heap_new w4 (fouO 1 P.sh))
  have HGg := Lib.hid (show W.heap.size < w4.heap.size from by have h1 := heap_at_lt HM2.out.gt; have := hb.size; omega)
  clear hb hb2 hx c8 HM2 HRs
  have hx := HM3.out.xbox
  go_wp2_with fail
  generalize w4.heap.size = g at HG3 HGg ⊢
  generalize w4.alloc (fouO 1 P.sh) = w5 at HM3 HG3 hx ⊢
  refine (goon_yes (R := fun X => Chained W r rp rf (E.wf P) (newC (headW E.a E.p E.s E.q E.v P.sh) E.pin.ep) w t X) _ r 93 g W.heap.size 3 rt2_ent (Lib.hid (rt2_here (E := E.wf P) HM3.out HG3.out HGg.out HK.out.2 HK.out.1)) (Lib.hid fun X hX => by obtain ⟨c, -, -, hX⟩ := hX; exact ⟨rd_free hX.own 6, _, (rd_at hX.own).2.1.1⟩)).mono ?_
  rintro en w6 ⟨rfl, X6, ⟨c, hc, ho, h6⟩, rfl⟩
  have HF := Lib.hid (show Chained W r rp rf (foundR E P) (newC (headW E.a E.p E.s E.q E.v P.sh) E.pin.ep) w t (X6.setCell ⟨r, 6, none⟩ (.int .i64 3)) from by
    rw [HE.out]
    have hcr : c ≠ r := by have := h6.lt.1; omega
    have h7 := h6.set 6 (.int .i64 3) (E' := { E.wf P with part := 3 }) (rc' := some ⟨c, 0, none⟩) rfl rfl rfl rfl
    exact ⟨c, hc, (Below.heap_setCell _ _ _ _ hcr).trans ho, h7.own, h7.pn, h7.fn, fun c e => (by cases e), h7.bx, h7.gt, h7.st, h7.lt, h7.ne⟩)
  clear h6 hc ho
  go_wp2_with fail
  go_end0
  exact ⟨rfl, HF.out⟩

set_option maxRecDepth 100000 in
set_option maxHeartbeats 4000000 in
theorem rtake_3no {c : Nat} (h : RdIn W B r E rp rf (some ⟨c, 0, none⟩)) (hp : E.part = 3) (hs : (nextC E.chn).isSome = true) (hg : Good w t) (h5 : (takeC E.chn w t).asks ≠ 6) :
    Calls Try.prog 88 #[.pointer (some ⟨r, 0, none⟩), gotV w t] W (RtakeE W r rp rf (some c) (chainedR E (takeC E.chn w t)) (some ⟨c, 0, none⟩) w t) := by
  have HM0 := Lib.hid (RMid.start (cn := some c) h (fun c e => by cases e; exact ⟨hp, rfl⟩) w t)
  have HPt := Lib.hid (fun (X : World) (ho : X.heap[c]? = some (chnO E.chn)) => (by
    obtain ⟨c', e', ha, -⟩ := h.ch hp
    exact ctake_any X ho ha.fits hs w t hg : Calls Try.prog 95 #[.pointer (some ⟨c, 0, none⟩), gotV w t] X (CtakeE (takeC E.chn w t) c X)))
  obtain ⟨P, hP⟩ : ∃ P, takeC E.chn w t = P := ⟨_, rfl⟩
  rw [hP] at HPt h5 ⊢
  have hx := HM0.out.xbox
  obtain ⟨-, ⟨c6, -, -, c9⟩, -, -, -⟩ := rd_at HM0.out.own
  obtain ⟨g0, g1⟩ := two_at HM0.out.gt
  rw [hp] at c6
  have hmix : Try.prog.follows .mixedOrders = true := by kernel_rfl
  have HE := Lib.hid (show chainedR E P = E.wc P from by unfold chainedR; rw [if_neg h5]; rfl)
  have HRr := Lib.hid (fun (X : World) (hX : X.heap[c]? = some (chnO P)) => cres_not X hX h5)
  rw [HE.out]
  clear h hp hs hg h5 hP HE
  go_enter Try.func88, Try.ntmps88
  go_wp2_with fail
  generalize (W.alloc (xO r)).alloc (gotO w t) = w1 at HM0 hx c6 c9 g0 g1 ⊢
  go_still_tail 5, hmix
  change wpList _ _ _ _ _ w1.drew
  have HM1 := Lib.hid (HM0.out.below (below_drew w1))
  clear hx c6 c9 g0 g1 HM0
  generalize w1.drew = w2 at HM1 ⊢
  go_wp2_with fail
  refine (HPt.out _ (HM1.out.ch c rfl)).mono ?_
  rintro en w3 ⟨rfl, ho, hs⟩
  have HM2 := Lib.hid (HM1.out.chnS ho hs)
  clear ho hs HM1 HPt
  have hx := HM2.out.xbox
  have c9 := (rd_at HM2.out.own).2.1.2.2.2
  have HRs := Lib.hid (HRr.out w3 (HM2.out.ch c rfl))
  go_wp2_with fail
  refine HRs.out.mono ?_
  rintro en w4 ⟨rfl, hb⟩
  have hb2 := hb.trans ((below_alloc w4 (valO false ⟨#[]⟩ 0)).mono hb.size)
  have HM3 := Lib.hid (HM2.out.below hb2)
  have HG3 := Lib.hid (World.alloc_heap_new w4 (valO false ⟨#[]⟩ 0))
  have HGg := Lib.hid (show w4.heap.size ≠ r from by have h1 := HM2.out.lt.1; have h2 := heap_at_lt HM2.out.gt; have := hb.size; omega)
  clear hb hb2 hx c9 HM2 HRs
  have hx := HM3.out.xbox
  go_wp2_with fail
  generalize w4.heap.size = g at HG3 HGg ⊢
  generalize w4.alloc (valO false ⟨#[]⟩ 0) = w5 at HM3 HG3 hx ⊢
  refine (goon_no _ _ _).mono ?_
  rintro en w6 ⟨rfl, rfl⟩
  go_wp2_with fail
  go_end0
  exact ⟨rfl, HM3.out⟩

set_option maxRecDepth 100000 in
set_option maxHeartbeats 4000000 in
theorem rtake_3end {c : Nat} (h : RdIn W B r E rp rf (some ⟨c, 0, none⟩)) (hp : E.part = 3) (hs : (nextC E.chn).isSome = true) (hg : Good w t) (h5 : (takeC E.chn w t).asks = 6) :
    Calls Try.prog 88 #[.pointer (some ⟨r, 0, none⟩), gotV w t] W (RtakeE W r rp rf (some c) (chainedR E (takeC E.chn w t)) (some ⟨c, 0, none⟩) w t) := by
  have HM0 := Lib.hid (RMid.start (cn := some c) h (fun c e => by cases e; exact ⟨hp, rfl⟩) w t)
  have HPt := Lib.hid (fun (X : World) (ho : X.heap[c]? = some (chnO E.chn)) => (by
    obtain ⟨c', e', ha, -⟩ := h.ch hp
    exact ctake_any X ho ha.fits hs w t hg : Calls Try.prog 95 #[.pointer (some ⟨c, 0, none⟩), gotV w t] X (CtakeE (takeC E.chn w t) c X)))
  obtain ⟨P, hP⟩ : ∃ P, takeC E.chn w t = P := ⟨_, rfl⟩
  rw [hP] at HPt h5 ⊢
  have hx := HM0.out.xbox
  obtain ⟨-, ⟨c6, -, -, c9⟩, -, -, -⟩ := rd_at HM0.out.own
  obtain ⟨g0, g1⟩ := two_at HM0.out.gt
  rw [hp] at c6
  have hmix : Try.prog.follows .mixedOrders = true := by kernel_rfl
  have HE := Lib.hid (show chainedR E P = { (E.wc P).read P.has P.text with part := 4 } from by unfold chainedR; rw [if_pos h5]; rfl)
  have HRr := Lib.hid (fun (X : World) (hX : X.heap[c]? = some (chnO P)) => cres_any X hX h5)
  rw [HE.out]
  clear h hp hs hg h5 hP HE
  go_enter Try.func88, Try.ntmps88
  go_wp2_with fail
  generalize (W.alloc (xO r)).alloc (gotO w t) = w1 at HM0 hx c6 c9 g0 g1 ⊢
  go_still_tail 5, hmix
  change wpList _ _ _ _ _ w1.drew
  have HM1 := Lib.hid (HM0.out.below (below_drew w1))
  clear hx c6 c9 g0 g1 HM0
  generalize w1.drew = w2 at HM1 ⊢
  go_wp2_with fail
  refine (HPt.out _ (HM1.out.ch c rfl)).mono ?_
  rintro en w3 ⟨rfl, ho, hs⟩
  have HM2 := Lib.hid (HM1.out.chnS ho hs)
  clear ho hs HM1 HPt
  have hx := HM2.out.xbox
  have c9 := (rd_at HM2.out.own).2.1.2.2.2
  have HRs := Lib.hid (HRr.out w3 (HM2.out.ch c rfl))
  go_wp2_with fail
  refine HRs.out.mono ?_
  rintro en w4 ⟨rfl, hb⟩
  have hb2 := hb.trans ((below_alloc w4 (valO P.has P.text P.block)).mono hb.size)
  have HM3 := Lib.hid (HM2.out.below hb2)
  have HG3 := Lib.hid (World.alloc_heap_new w4 (valO P.has P.text P.block))
  have HGg := Lib.hid (show w4.heap.size ≠ r from by have h1 := HM2.out.lt.1; have h2 := heap_at_lt HM2.out.gt; have := hb.size; omega)
  clear hb hb2 hx c9 HM2 HRs
  have hx := HM3.out.xbox
  go_wp2_with fail
  generalize w4.heap.size = g at HG3 HGg ⊢
  generalize w4.alloc (valO P.has P.text P.block) = w5 at HM3 HG3 hx ⊢
  refine (goon_yes (R := fun X => RMid W r rp rf (some c) ((E.wc P).read P.has P.text) (some ⟨c, 0, none⟩) w t X) _ r 97 g W.heap.size 4 rt3_ent (Lib.hid (rt3_any HM3.out HG3.out HGg.out)) (Lib.hid fun X hX => ⟨rd_free hX.own 6, _, (rd_at hX.own).2.1.1⟩)).mono ?_
  rintro en w6 ⟨rfl, X6, h6, rfl⟩
  have HF := Lib.hid (h6.set 6 (.int .i64 4) (E' := { (E.wc P).read P.has P.text with part := 4 }) (rc' := some ⟨c, 0, none⟩) rfl rfl rfl rfl)
  clear h6
  go_wp2_with fail
  go_end0
  exact ⟨rfl, HF.out⟩

set_option maxRecDepth 100000 in
set_option maxHeartbeats 2000000 in
theorem rtake_4 (h : RdIn W B r E rp rf rc) (hp : E.part = 4) :
    Calls Try.prog 88 #[.pointer (some ⟨r, 0, none⟩), gotV w t] W (RtakeE W r rp rf none E.done rc w t) := by
  have HM0 := Lib.hid (RMid.start (cn := none) h (fun c e => by cases e) w t)
  have HF := Lib.hid (HM0.out.set 6 (.int .i64 5) (E' := E.done) (rc' := rc) rfl rfl rfl rfl)
  have hx := HM0.out.xbox
  have c6 := (rd_at HM0.out.own).2.1.1
  have z6 := rd_free HM0.out.own 6
  rw [hp] at c6
  clear h hp
  go_enter Try.func88, Try.ntmps88
  go_wp2_with fail
  go_end0
  exact ⟨rfl, HF.out⟩
end

end Go.Proofs.Ytpnfbabiibopnaa
