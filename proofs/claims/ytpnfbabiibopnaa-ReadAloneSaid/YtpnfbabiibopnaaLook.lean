/-
  find's routine: how it goes along a key's way.
-/
import Derived.Test.YtpnfbabiibopnaaQ07
import Derived.WalkMore
namespace Go.Proofs.Ytpnfbabiibopnaa
open Go Go.RowKit
attribute [local go_sem ↓] Go.wp_at_zero Go.wp_at_succ

/-! ### plain -/
def FindR.to (d : FindR) (i : Int) (y : ActD) (k sh : Int) : FindR := ⟨d.a, d.p, d.s, d.q, d.v, d.x, d.key, d.n, i, y, k, sh⟩
/-- The i-th shelf of the way. -/
def FindR.way (d : FindR) (i : Nat) : Int := placeOf d.n d.s i
def loadF (d : FindR) (i : Nat) : ActD := ⟨1, 1, keyW d.a d.p d.s d.q d.v (d.way i), 0, 0, ⟨#[]⟩⟩
def wordsF (w : Nat) : ActD := ⟨6, w, 0, 0, 0, ⟨#[]⟩⟩
/-- At a place of which nothing was asked yet. -/
def lookN (d : FindR) (i : Nat) : FindR := if (i : Int) < d.s then d.to i (loadF d i) 0 0 else d.to i noAct 3 0
/-- At a place, behind an answer to what was asked there. -/
def lookY (d : FindR) (w : Nat) (t : ByteArray) (i : Nat) (y : ActD) : FindR :=
  if (i : Int) < d.s then
    if y.kind = 0 then d.to i (loadF d i) 0 0
    else if y.kind = 1 then (if w = 0 then d.to i noAct 2 (d.way i) else d.to i (wordsF w) 0 0)
    else if t.toList = d.key.toList then d.to i noAct 1 (d.way i) else lookN d (i + 1)
  else d.to i noAct 3 0
theorem lookY_none (d : FindR) (w : Nat) (t : ByteArray) (i : Nat) : lookY d w t i noAct = lookN d i := by
  unfold lookY lookN
  rw [show noAct.kind = 0 from rfl, if_pos rfl]

/-! ### in memory -/
section
variable {X : World} {r : Nat} {d : FindR} {i k sh : Int} {y : ActD}
theorem set_y (h : X.heap[r]? = some (fndO (d.to i y k sh))) (x : ActD) :
    ((((((X.setCell ⟨r, 9, none⟩ (.int .i64 x.kind)).setCell ⟨r, 10, none⟩ (.int .u64 (x.block : Int))).setCell ⟨r, 11, none⟩ (.int .i64 x.cell)).setCell ⟨r, 12, none⟩ (.int .u64 x.old)).setCell ⟨r, 13, none⟩ (.int .u64 x.new)).setCell ⟨r, 14, none⟩ (.string x.text)).heap[r]? = some (fndO (d.to i x k sh)) ∧
    Step (fun j => j = r) (fun j => j = r) X ((((((X.setCell ⟨r, 9, none⟩ (.int .i64 x.kind)).setCell ⟨r, 10, none⟩ (.int .u64 (x.block : Int))).setCell ⟨r, 11, none⟩ (.int .i64 x.cell)).setCell ⟨r, 12, none⟩ (.int .u64 x.old)).setCell ⟨r, 13, none⟩ (.int .u64 x.new)).setCell ⟨r, 14, none⟩ (.string x.text)) := by
  refine ⟨?_, (((((Step.setCell (f := fun j => j = r) _ rfl).trans (Step.setCell _ rfl)).trans (Step.setCell _ rfl)).trans (Step.setCell _ rfl)).trans (Step.setCell _ rfl)).trans (Step.setCell _ rfl)⟩
  have e := heap_setAt (o := 14) (u := .string x.text) (heap_setAt (o := 13) (u := .int .u64 x.new) (heap_setAt (o := 12) (u := .int .u64 x.old) (heap_setAt (o := 11) (u := .int .i64 x.cell) (heap_setAt (o := 10) (u := .int .u64 (x.block : Int)) (heap_setAt (o := 9) (u := .int .i64 x.kind) h)))))
  exact e
theorem set_found (h : X.heap[r]? = some (fndO (d.to i y k sh))) (k' sh' : Int) :
    ((X.setCell ⟨r, 15, none⟩ (.int .i64 k')).setCell ⟨r, 16, none⟩ (.int .i64 sh')).heap[r]? = some (fndO (d.to i y k' sh')) ∧
    Step (fun j => j = r) (fun j => j = r) X ((X.setCell ⟨r, 15, none⟩ (.int .i64 k')).setCell ⟨r, 16, none⟩ (.int .i64 sh')) :=
  ⟨heap_setAt (o := 16) (u := .int .i64 sh') (heap_setAt (o := 15) (u := .int .i64 k') h), (Step.setCell (f := fun j => j = r) _ rfl).trans (Step.setCell _ rfl)⟩
theorem set_place (h : X.heap[r]? = some (fndO (d.to i y k sh))) (i' : Int) :
    (X.setCell ⟨r, 8, none⟩ (.int .i64 i')).heap[r]? = some (fndO (d.to i' y k sh)) ∧ Step (fun j => j = r) (fun j => j = r) X (X.setCell ⟨r, 8, none⟩ (.int .i64 i')) :=
  ⟨heap_setAt (o := 8) (u := .int .i64 i') h, Step.setCell _ rfl⟩
end
/-- In the middle of look. -/
structure LookI (W : World) (g m r : Nat) (d : FindR) (w : Nat) (t : ByteArray) (i : Nat) (y : ActD) (X : World) : Prop where
  own : X.heap[r]? = some (fndO (d.to i noAct 0 0))
  got : X.heap[g]? = some (gotO w t)
  ask : X.heap[m]? = some (actO y)
  lt : r < W.heap.size ∧ W.heap.size ≤ g ∧ g < m
  st : Step (fun j => j = r) (fun j => j = r) W X
section
variable {W X Y : World} {g m r : Nat} {d : FindR} {w : Nat} {t : ByteArray} {i : Nat} {y : ActD}
theorem LookI.below (h : LookI W g m r d w t i y X) (hb : Below X.heap.size X Y) : LookI W g m r d w t i y Y :=
  ⟨(hb.block _ (heap_at_lt h.own)).trans h.own, (hb.block _ (heap_at_lt h.got)).trans h.got, (hb.block _ (heap_at_lt h.ask)).trans h.ask, h.lt, h.st.trans (Step.of_below hb)⟩
/-- On to the next place. -/
theorem LookI.on (h : LookI W g m r d w t i y X) :
    LookI W g m r d w t (i + 1) noAct (((((((X.setCell ⟨m, 0, none⟩ (.int .i64 0)).setCell ⟨m, 1, none⟩ (.int .u64 0)).setCell ⟨m, 2, none⟩ (.int .i64 0)).setCell ⟨m, 3, none⟩ (.int .u64 0)).setCell ⟨m, 4, none⟩ (.int .u64 0)).setCell ⟨m, 5, none⟩ (.string ⟨#[]⟩)).setCell ⟨r, 8, none⟩ (.int .i64 ((i : Int) + 1))) := by
  have hr := h.lt
  have hk : ∀ k, k ≠ m → ((((((X.setCell ⟨m, 0, none⟩ (.int .i64 0)).setCell ⟨m, 1, none⟩ (.int .u64 0)).setCell ⟨m, 2, none⟩ (.int .i64 0)).setCell ⟨m, 3, none⟩ (.int .u64 0)).setCell ⟨m, 4, none⟩ (.int .u64 0)).setCell ⟨m, 5, none⟩ (.string ⟨#[]⟩)).heap[k]? = X.heap[k]? := fun k hk => by
    rw [Below.heap_setCell _ _ _ _ hk, Below.heap_setCell _ _ _ _ hk, Below.heap_setCell _ _ _ _ hk, Below.heap_setCell _ _ _ _ hk, Below.heap_setCell _ _ _ _ hk, Below.heap_setCell _ _ _ _ hk]
  have h6 := set6 h.ask (.int .i64 0) (.int .u64 0) (.int .i64 0) (.int .u64 0) (.int .u64 0) (.string ⟨#[]⟩)
  have hb6 := below6 (Below.refl m X) (Nat.le_refl _) (.int .i64 0) (.int .u64 0) (.int .i64 0) (.int .u64 0) (.int .u64 0) (.string ⟨#[]⟩)
  generalize ((((((X.setCell ⟨m, 0, none⟩ (.int .i64 0)).setCell ⟨m, 1, none⟩ (.int .u64 0)).setCell ⟨m, 2, none⟩ (.int .i64 0)).setCell ⟨m, 3, none⟩ (.int .u64 0)).setCell ⟨m, 4, none⟩ (.int .u64 0)).setCell ⟨m, 5, none⟩ (.string ⟨#[]⟩)) = Z at hk h6 hb6 ⊢
  have ho : Z.heap[r]? = some (fndO (d.to i noAct 0 0)) := (hk r (by omega)).trans h.own
  have hs := set_place ho ((i : Int) + 1)
  refine ⟨hs.1, (Below.heap_setCell _ _ _ _ (by show g ≠ r; omega)).trans ((hk _ (by omega)).trans h.got), (Below.heap_setCell _ _ _ _ (by show m ≠ r; omega)).trans h6, hr, ?_⟩
  have hst : Step (fun j => j = r) (fun j => j = r) W Z := ⟨hb6.os.trans h.st.os, hb6.tape.trans h.st.tape, hb6.output.trans h.st.output, Nat.le_trans h.st.size hb6.size, fun k hkk hf => (hk k (by omega)).trans (h.st.block k hkk hf), fun k hk => .inl hk⟩
  exact hst.trans hs.2
end
def placeF (r : Nat) (X : World) : Nat := match X.cell? ⟨r, 8, none⟩ with | some (.int _ n) => 100 - n.toNat | _ => 0
theorem LookI.place {W X : World} {g m r : Nat} {d : FindR} {w : Nat} {t : ByteArray} {i : Nat} {y : ActD} (h : LookI W g m r d w t i y X) : placeF r X = 100 - i := by
  unfold placeF
  rw [(fnd_at h.own).2.1.2.2]
  simp [FindR.to]
def LookE (E : FindR) (r : Nat) (W : World) (e : Ending) (W' : World) : Prop := e = .returned (.tuple #[]) ∧ W'.heap[r]? = some (fndO E) ∧ Step (fun j => j = r) (fun j => j = r) W W'

theorem look_fin {E F : FindR} {W X Y : World} {r n : Nat} (he : E = F) (hst : Step (fun j => j = r) (fun j => j = r) W X) (h : Y.heap[r]? = some (fndO F) ∧ Step (fun j => j = r) (fun j => j = r) X Y) : LookE E r W (.returned (.tuple #[])) (Y.drewN n) := by
  subst he
  exact ⟨rfl, h.1, (hst.trans h.2).trans (Step.of_below (below_draws _ _))⟩
theorem look_fin0 {E F : FindR} {W X Y : World} {r : Nat} (he : E = F) (hst : Step (fun j => j = r) (fun j => j = r) W X) (h : Y.heap[r]? = some (fndO F) ∧ Step (fun j => j = r) (fun j => j = r) X Y) : LookE E r W (.returned (.tuple #[])) Y := by
  subst he
  exact ⟨rfl, h.1, hst.trans h.2⟩
theorem eqA_none (y : ActD) (b : Bool) (h : (y = noAct ∧ b = true) ∨ (y.kind ≠ 0 ∧ b = false)) (w : World) : (binOp .eql 59 (actV y.kind y.block y.cell y.old y.new y.text) (actV 0 0 0 0 0 ⟨#[]⟩)).run Try.prog w = .ok (.bool b) w := by
  rw [eqA_run]
  rcases h with ⟨rfl, rfl⟩ | ⟨h, rfl⟩
  · simp [noAct]
  · have : (y.kind == 0) = false := by simpa using h
    simp [this]

set_option maxRecDepth 100000 in
set_option maxHeartbeats 2000000 in
theorem look_any (W : World) {r : Nat} {d : FindR} {i : Nat} {y : ActD} (h : W.heap[r]? = some (fndO (d.to i y 0 0))) (hn : 0 ≤ d.n ∧ d.n ≤ 18446744073709551615) (hs : 1 ≤ d.s ∧ d.s ≤ 64) (hi : (i : Int) ≤ d.s) (hy : y = noAct ∨ y.kind = 1 ∨ y.kind = 6) (w : Nat) (t : ByteArray) :
    Calls Try.prog 53 #[.pointer (some ⟨r, 0, none⟩), gotV w t] W (LookE (lookY d w t i y) r W) := by
  obtain ⟨E, hE⟩ : ∃ E, lookY d w t i y = E := ⟨_, rfl⟩
  rw [hE]
  have HE := Lib.hid hE
  have hlt := heap_at_lt h
  have HS := Lib.hid hs
  have HP := Lib.hid (fun (j : Nat) (hj : (j : Int) < d.s) (X : World) => (place_any d.n d.s j X hn.1 hn.2 (by omega) (by omega)).mono fun _ _ ⟨he, hw⟩ => (⟨he, hw.symm⟩ : _ = Ending.returned (.int .i64 (d.way j)) ∧ _ = X))
  have HK := Lib.hid (fun (j : Int) (X : World) => key_any d.a d.p d.s d.q d.v d.x j X)
  have hB := below_alloc W (gotO w t)
  have hO1 := (hB.block r hlt).trans h
  have hG1 := World.alloc_heap_new W (gotO w t)
  have hz1 : (W.alloc (gotO w t)).heap.size = W.heap.size + 1 := by simp
  have hy1 := hy
  have hi1 := hi
  clear h hE hn hs hy hi
  go_enter Try.func53, Try.ntmps53
  go_wp2_with fail
  generalize hg : W.heap.size = g at hG1 hz1 ⊢
  generalize W.alloc (gotO w t) = W1 at hB hO1 hG1 hz1 ⊢
  have hlt1 : r < W1.heap.size := by omega
  have HO := Lib.hid (((below_alloc W1 (actO y)).block r hlt1).trans hO1)
  have HG := Lib.hid (((below_alloc W1 (actO y)).block g (by omega)).trans hG1)
  have HA := Lib.hid (show (W1.alloc (actO y)).heap[g + 1]? = some (actO y) from by rw [← hz1]; exact World.alloc_heap_new W1 (actO y))
  have HB := Lib.hid (hB.trans ((below_alloc W1 (actO y)).mono (by omega)))
  obtain ⟨-, -, ⟨a0, a1, a2, a3, a4, a5⟩, -⟩ := fnd_at hO1
  obtain ⟨-, -, ⟨b0, b1, b2, b3, b4, b5⟩, -⟩ := fnd_at HO.out
  have hfr := fun i => fnd_free HO.out i
  have z0 := hfr 9
  have z1 := hfr 10
  have z2 := hfr 11
  have z3 := hfr 12
  have z4 := hfr 13
  have z5 := hfr 14
  have HL := Lib.hid (fun X (hX : X.heap[r]? = some (fndO (d.to i noAct 0 0)) ∧ Step (fun j => j = r) (fun j => j = r) (W1.alloc (actO y)) X) => (show LookI W g (g + 1) r d w t i y X from
    ⟨hX.1, (hX.2.block _ (heap_at_lt HG.out) (by omega)).trans HG.out, (hX.2.block _ (heap_at_lt HA.out) (by omega)).trans HA.out, ⟨hlt, by omega, by omega⟩, (Step.of_below HB.out).trans hX.2⟩))
  have HY := Lib.hid (set_y HO.out noAct)
  simp only [FindR.to] at a0 a1 a2 a3 a4 a5 b0 b1 b2 b3 b4 b5
  clear hB hO1 hG1 hfr HO HG HA HB
  go_step3
  go_wp2_with fail
  go_step3
  go_wp2_with fail
  have HL2 := Lib.hid (HL.out _ HY.out)
  clear a0 a1 a2 a3 a4 a5 b0 b1 b2 b3 b4 b5 z0 z1 z2 z3 z4 z5 HL HY
  go_loopw [] (fun wr => ∃ (j : Nat) (u : ActD), (j : Int) ≤ d.s ∧ (u = noAct ∨ u.kind = 1 ∨ u.kind = 6) ∧ lookY d w t j u = E ∧ Hid (LookI W g (g + 1) r d w t j u wr)) (fun wr => placeF r wr)
  case atStart => exact ⟨i, y, hi1, hy1, HE.out, HL2⟩
  case round =>
    clear HL2 hy1 hi1 HE hz1 hlt1 hg hlt
    obtain ⟨j, u, hj, hu, hE, HI⟩ := hrel
    have HM := Lib.hid HI.out.place
    obtain ⟨⟨-, -, c2, -, -, -⟩, ⟨-, -, c8⟩, -, -⟩ := fnd_at HI.out.own
    simp only [FindR.to] at c2 c8
    by_cases hlt : (j : Int) < d.s
    · have HE := Lib.hid hE
      have HPj := Lib.hid (HP.out j hlt)
      clear hE
      go_wp2_with fail
      go_quiet (fail)
      rename Nat => nq
      have HI1 := Lib.hid (HI.out.below (below_draws wr nq))
      clear c2 c8
      generalize wr.drewN nq = X1 at HI1 ⊢
      obtain ⟨⟨-, -, c2, -, -, -⟩, ⟨-, c7, c8⟩, -, -⟩ := fnd_at HI1.out.own
      simp only [FindR.to] at c2 c7 c8
      go_wp2_with fail
      go_quiet ((go_at_call 69; exact Calls.quiet_of_same (HPj.out _)))
      rename Nat => nq2
      have HI2 := Lib.hid (HI1.out.below (below_draws X1 nq2))
      clear c2 c7 c8 HI1
      generalize X1.drewN nq2 = X2 at HI2 ⊢
      obtain ⟨k0, k1, k2, k3, k4, k5⟩ := six_at HI2.out.ask
      rcases hu with rfl | hu | hu
      · -- nothing was asked of this shelf yet
        have hrn := eqA_none noAct true (.inl ⟨rfl, rfl⟩)
        have he : E = d.to j (loadF d j) 0 0 := by rw [← HE.out]; unfold lookY; rw [if_pos hlt, if_pos (show noAct.kind = 0 from rfl)]
        have HEn := Lib.hid he
        obtain ⟨⟨c0, c1, c2, c3, c4, c5⟩, -, -, -⟩ := fnd_at HI2.out.own
        simp only [FindR.to] at c0 c1 c2 c3 c4 c5
        clear he
        go_wp2_with fail
        refine (HK.out _ _).mono ?_
        rintro en X3 ⟨rfl, hb3⟩
        have HI3 := Lib.hid (HI2.out.below hb3)
        clear hb3 c0 c1 c2 c3 c4 c5 k0 k1 k2 k3 k4 k5 hrn
        obtain ⟨⟨-, -, c2, -, -, -⟩, ⟨-, -, c8⟩, ⟨k0, k1, k2, k3, k4, k5⟩, -⟩ := fnd_at HI3.out.own
        simp only [FindR.to] at c2 c8 k0 k1 k2 k3 k4 k5
        have hfr := fun i => fnd_free HI3.out.own i
        have z0 := hfr 9
        have z1 := hfr 10
        have z2 := hfr 11
        have z3 := hfr 12
        have z4 := hfr 13
        have z5 := hfr 14
        have hjs : ((j : Int) == d.s) = false := by simp; omega
        have HZ := Lib.hid (set_y HI3.out.own (loadF d j))
        clear hfr
        go_wp2_with fail
        go_quiet (fail)
        rename Nat => nq3
        go_wp2_with fail
        go_end0
        exact look_fin HEn.out HI3.out.st HZ.out
      · obtain ⟨uk, ub, uc, uo, un, ut⟩ := u
        simp only at hu k0 k1 k2 k3 k4 k5
        subst hu
        have hrn := eqA_none ⟨1, ub, uc, uo, un, ut⟩ false (.inr ⟨by simp, rfl⟩)
        simp only at hrn
        obtain ⟨g0, g1⟩ := two_at HI2.out.got
        obtain ⟨⟨-, -, c2, -, -, -⟩, ⟨-, -, c8⟩, ⟨p0, p1, p2, p3, p4, p5⟩, q0, q1⟩ := fnd_at HI2.out.own
        simp only [FindR.to] at c2 c8 p0 p1 p2 p3 p4 p5 q0 q1
        have hfr := fun i => fnd_free HI2.out.own i
        have hjs : ((j : Int) == d.s) = false := by simp; omega
        by_cases hw : w = 0
        · subst hw
          have HEn := Lib.hid (show E = d.to j noAct 2 (d.way j) from by rw [← HE.out]; unfold lookY; rw [if_pos hlt, if_neg (by simp), if_pos rfl, if_pos rfl])
          have z0 := hfr 15
          have z1 := hfr 16
          have HZ := Lib.hid (set_found HI2.out.own 2 (d.way j))
          clear hfr
          go_wp2_with fail
          go_quiet (fail)
          rename Nat => nq3
          go_wp2_with fail
          go_end0
          exact look_fin HEn.out HI2.out.st HZ.out
        · have hw0 : ((w : Int) == 0) = false := by simp; omega
          have HEn := Lib.hid (show E = d.to j (wordsF w) 0 0 from by rw [← HE.out]; unfold lookY; rw [if_pos hlt, if_neg (by simp), if_pos rfl, if_neg hw])
          have z0 := hfr 9
          have z1 := hfr 10
          have z2 := hfr 11
          have z3 := hfr 12
          have z4 := hfr 13
          have z5 := hfr 14
          have HZ := Lib.hid (set_y HI2.out.own (wordsF w))
          clear hfr hw
          go_wp2_with fail
          go_quiet (fail)
          rename Nat => nq3
          go_wp2_with fail
          go_end0
          exact look_fin HEn.out HI2.out.st HZ.out
      · obtain ⟨uk, ub, uc, uo, un, ut⟩ := u
        simp only at hu k0 k1 k2 k3 k4 k5
        subst hu
        have hrn := eqA_none ⟨6, ub, uc, uo, un, ut⟩ false (.inr ⟨by simp, rfl⟩)
        simp only at hrn
        obtain ⟨g0, g1⟩ := two_at HI2.out.got
        by_cases ht : t.toList = d.key.toList
        · have HEn := Lib.hid (show E = d.to j noAct 1 (d.way j) from by rw [← HE.out]; unfold lookY; rw [if_pos hlt, if_neg (by simp), if_neg (by simp), if_pos ht])
          have ht0 : (t.toList == d.key.toList) = true := by simpa using ht
          go_wp2_with fail
          have c6 := (fnd_at HI2.out.own).2.1.1
          simp only [FindR.to] at c6
          go_quiet (fail)
          rename Nat => nq3
          have HI3 := Lib.hid (HI2.out.below (below_draws X2 nq3))
          clear c6 k0 k1 k2 k3 k4 k5 g0 g1 hrn HI2
          generalize X2.drewN nq3 = X3 at HI3 ⊢
          obtain ⟨⟨-, -, c2, -, -, -⟩, ⟨-, -, c8⟩, -, q0, q1⟩ := fnd_at HI3.out.own
          simp only [FindR.to] at c2 c8 q0 q1
          have hjs : ((j : Int) == d.s) = false := by simp; omega
          have hfr := fun i => fnd_free HI3.out.own i
          have z0 := hfr 15
          have z1 := hfr 16
          have HZ := Lib.hid (set_found HI3.out.own 1 (d.way j))
          clear hfr ht
          go_wp2_with fail
          go_quiet (fail)
          rename Nat => nq4
          go_wp2_with fail
          go_end0
          exact look_fin HEn.out HI3.out.st HZ.out
        · have HEn := Lib.hid (show lookY d w t (j + 1) noAct = E from by rw [← HE.out, lookY_none]; unfold lookY; rw [if_pos hlt, if_neg (by simp), if_neg (by simp), if_neg ht])
          have ht0 : (t.toList == d.key.toList) = false := by simpa using ht
          go_wp2_with fail
          have c6 := (fnd_at HI2.out.own).2.1.1
          simp only [FindR.to] at c6
          go_quiet (fail)
          rename Nat => nq3
          have HI3 := Lib.hid (HI2.out.below (below_draws X2 nq3))
          clear c6 k0 k1 k2 k3 k4 k5 g0 g1 hrn HI2
          generalize X2.drewN nq3 = X3 at HI3 ⊢
          obtain ⟨⟨-, -, c2, -, -, -⟩, ⟨-, -, c8⟩, -, q0, q1⟩ := fnd_at HI3.out.own
          simp only [FindR.to] at c2 c8 q0 q1
          obtain ⟨k0, k1, k2, k3, k4, k5⟩ := six_at HI3.out.ask
          obtain ⟨y0, y1, y2, y3, y4, y5⟩ := six_free HI3.out.ask
          have z8 := fnd_free HI3.out.own 8
          have hne : g + 1 ≠ r := by have := HI3.out.lt; omega
          have hjw : IntKind.i64.wrap ((j : Int) + 1) = (j : Int) + 1 := IntWalk.i64_in _ (by have := HS.out; omega)
          have HZ := Lib.hid HI3.out.on
          clear ht
          go_wp2_with fail
          go_roundw
          case rel => exact ⟨j + 1, noAct, by omega, .inl rfl, HEn.out, HZ⟩
          case measure =>
            rw [HZ.out.place, HM.out]
            have := HS.out; omega
    · have he : E = d.to j noAct 3 0 := by rw [← hE]; unfold lookY; rw [if_neg hlt]
      have hjs : (j : Int) = d.s := by omega
      have HEn := Lib.hid he
      clear hE he
      go_wp2_with fail
      go_quiet (fail)
      rename Nat => nq
      have HI1 := Lib.hid (HI.out.below (below_draws wr nq))
      clear c2 c8
      generalize wr.drewN nq = X1 at HI1 ⊢
      obtain ⟨⟨-, -, c2, -, -, -⟩, ⟨-, -, c8⟩, -, q0, q1⟩ := fnd_at HI1.out.own
      simp only [FindR.to] at c2 c8 q0 q1
      have hjs0 : ((j : Int) == d.s) = true := by simp [hjs]
      go_wp2_with fail
      go_quiet (fail)
      rename Nat => nq2
      have HI2 := Lib.hid (HI1.out.below (below_draws X1 nq2))
      clear c2 c8 q0 q1
      generalize X1.drewN nq2 = X2 at HI2 ⊢
      obtain ⟨-, -, -, q0, q1⟩ := fnd_at HI2.out.own
      simp only [FindR.to] at q0 q1
      have z0 := fnd_free HI2.out.own 15
      have z1 := fnd_free HI2.out.own 16
      have HZ := Lib.hid (set_found HI2.out.own 3 0)
      go_wp2_with fail
      go_end0
      exact look_fin0 HEn.out HI2.out.st HZ.out

end Go.Proofs.Ytpnfbabiibopnaa
