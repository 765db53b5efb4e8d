/-
  The reference's Room, Add, Without and Same.
-/
import Derived.Test.YtkfnndhoccjffaaOrderwalk
namespace Go.Proofs.Ytkfnndhoccjffaa
open Go Go.RowKit
attribute [local go_sem ↓] Go.wp_at_zero Go.wp_at_succ

theorem refroom_any (m : Int) (n : Nat) (W : World) (hn : n ≤ 1000) : Calls Try.prog 17 #[.int .i64 m, .int .i64 n] W fun e W' => e = .returned (.int .i64 ((clampD m : Int) - n)) ∧ W = W' := by
  have hc : max 0 (min m 32) = ((clampD m : Nat) : Int) := by unfold clampD; omega
  have h32 : clampD m ≤ 32 := by unfold clampD; omega
  obtain ⟨cl, hcl⟩ : ∃ cl, clampD m = cl := ⟨_, rfl⟩
  rw [hcl] at hc h32 ⊢
  clear hcl
  go_enter Try.func17, Try.ntmps17
  go_wp2
  go_ret
  exact ⟨rfl, rfl⟩

theorem each_cons {Q : EV → ED → Prop} {v : EV} {e : ED} {R : List EV} {E : List ED} (h : Each Q (v :: R) (e :: E)) : Q v e ∧ Each Q R E :=
  ⟨h.2 0 (by simp) (by simp), by have := h.1; simpa using this, fun j a b => h.2 (j + 1) (by simpa using a) (by simpa using b)⟩
theorem cons_each {Q : EV → ED → Prop} {v : EV} {e : ED} {R : List EV} {E : List ED} (h : Q v e) (hs : Each Q R E) : Each Q (v :: R) (e :: E) :=
  ⟨by simp [hs.1], fun j a b => by
    cases j with
    | zero => exact h
    | succ j => exact hs.2 j (by simpa using a) (by simpa using b)⟩
/-- The entries' cells whose names are not in L. -/
def lessV (R : List EV) (L : List IdD) : List EV := R.filter (fun v => !decide (v.id ∈ L))
theorem each_less {Q : EV → ED → Prop} (hq : ∀ v e, Q v e → v.id = e.id) (L : List IdD) : ∀ (R : List EV) (E : List ED), Each Q R E → Each Q (lessV R L) (withoutD E L)
  | [], [], _ => Each.nil Q
  | [], _ :: _, h => by have := h.1; simp at this
  | _ :: _, [], h => by have := h.1; simp at this
  | v :: R, e :: E, h => by
    obtain ⟨h1, h2⟩ := each_cons h
    have ih := each_less hq L R E h2
    have hid := hq v e h1
    unfold lessV withoutD at ih ⊢
    rw [List.filter_cons, List.filter_cons, hid]
    by_cases hm : e.id ∈ L
    · simp only [decide_eq_true hm, Bool.not_true, Bool.false_eq_true, if_false]; exact ih
    · simp only [decide_eq_false hm, Bool.not_false, if_true]; exact cons_each h1 ih
theorem lessV_snoc {R : List EV} {L : List IdD} {k : Nat} (h : k < R.length) : lessV (R.take (k + 1)) L = if R[k].id ∈ L then lessV (R.take k) L else lessV (R.take k) L ++ [R[k]] := by
  unfold lessV
  rw [List.take_succ_eq_append_getElem h, List.filter_append]
  by_cases hm : R[k].id ∈ L <;> simp [hm]

/-- Entries while they are collected. -/
structure OutE (B : Nat) (w : World) (R : List EV) (lv : Value) (X : World) : Prop where
  lot : Lot X 40 4 lv R.length (flatE R)
  base : ∀ j, lv.ownBlock = some j → B ≤ j
  low : Below B w X
theorem OutE.next {B : Nat} {w X w' : World} {R : List EV} {lv : Value} {o : Obj} {v : EV} {g cap m : Nat} (h : OutE B w R lv X) (hB : B ≤ X.heap.size) (hm : R.length = m)
    (hL : Lot w' 40 4 (.slice (some ⟨g, 0, none⟩) (m + 1) cap) (m + 1) (flatE R ++ [.int .i64 v.id.o, .int .i64 v.id.s, .slice v.pg v.ng v.cg, .slice v.ps v.ns v.cs])) (hg : (X.alloc o).grownBy w' lv.ownBlock) (hat : lv.ownBlock = some g ∨ g = (X.alloc o).heap.size) :
    OutE B w (R ++ [v]) (.slice (some ⟨g, 0, none⟩) (m + 1) cap) w' := by
  subst hm
  refine ⟨by rw [flatE_snoc, List.length_append]; exact hL, fun j hj => ?_, (h.low.alloc hB o).grown hg (Nat.le_trans hB (by simp)) (fun k e => h.base k e)⟩
  obtain rfl : g = j := by simpa [Value.ownBlock] using hj
  rcases hat with h0 | h0
  · exact h.base _ h0
  · rw [h0]; simp; omega
theorem OutE.below {B : Nat} {w X Y : World} {R : List EV} {lv : Value} (h : OutE B w R lv X) (hB : B ≤ X.heap.size) (hb : Below X.heap.size X Y) : OutE B w R lv Y := ⟨h.lot.below hb, h.base, h.low.trans (hb.mono hB)⟩
theorem OutE.start (W : World) (Y : World) (hb : Below W.heap.size W Y) : OutE W.heap.size W [] (.slice (some ⟨Y.heap.size, 0, none⟩) 0 0) (Y.alloc (.cells #[] 40)) :=
  ⟨Lot.none' Y _ 4, fun j hj => by
    obtain rfl : Y.heap.size = j := by simpa [Value.ownBlock] using hj
    exact hb.size, hb.alloc hb.size _⟩

/-- What Add leaves: the row itself and false, or a new one and true. -/
def RefAddR (p : Option Addr) (n c : Nat) (R : List EV) (v : EV) (ok : Bool) (W : World) (e : Ending) (W' : World) : Prop :=
  (ok = false ∧ e = .returned (.tuple #[.slice p n c, .bool false]) ∧ Below W.heap.size W W') ∨
  (ok = true ∧ ∃ q c', e = .returned (.tuple #[.slice q (n + 1) c', .bool true]) ∧ OutE W.heap.size W (R ++ [v]) (.slice q (n + 1) c') W')

set_option maxRecDepth 100000 in
set_option maxHeartbeats 8000000 in
theorem refadd_any (m : Int) (p : Option Addr) (n c : Nat) (R : List EV) (E : List ED) (v : EV) (e : ED) (W : World) (h : Se W p R) (hn : R.length = n) (hE : R.map (·.id) = idsD E) (hv : v.id = e.id) (hb : n ≤ 1000) (hnc : n ≤ clampD m) :
    Calls Try.prog 9 #[.int .i64 m, .slice p n c, v.val] W (RefAddR p n c R v (okD (clampD m) E e) W) := by
  have hEl : E.length = n := by
    have := congrArg List.length hE
    simp only [idsD, List.length_map] at this
    rw [← this]; exact hn
  have hb1 := below_alloc W (.cells #[.int .i64 v.id.o, .int .i64 v.id.s, .slice v.pg v.ng v.cg, .slice v.ps v.ns v.cs] 40)
  have k1 := World.alloc_heap_new W (.cells #[.int .i64 v.id.o, .int .i64 v.id.s, .slice v.pg v.ng v.cg, .slice v.ps v.ns v.cs] 40)
  have hz : (W.alloc (.cells #[.int .i64 v.id.o, .int .i64 v.id.s, .slice v.pg v.ng v.cg, .slice v.ps v.ns v.cs] 40)).heap.size = W.heap.size + 1 := by simp
  obtain ⟨W1, hW1⟩ : ∃ W1, (W.alloc (.cells #[.int .i64 v.id.o, .int .i64 v.id.s, .slice v.pg v.ng v.cg, .slice v.ps v.ns v.cs] 40)) = W1 := ⟨_, rfl⟩
  rw [hW1] at hb1 k1 hz
  have HB := Lib.hid (fun X (hX : Below W1.heap.size W1 X) => hb1.trans (hX.mono hb1.size))
  have HS := Lib.hid (fun X (hX : Below W.heap.size W X) => h.grow hX)
  have HC := Lib.hid (show ∀ X, Below W1.heap.size W1 X → X.cell? ⟨W.heap.size, 0, none⟩ = some (.int .i64 v.id.o) ∧ X.cell? ⟨W.heap.size, 1, none⟩ = some (.int .i64 v.id.s) ∧ X.cell? ⟨W.heap.size, 2, none⟩ = some (.slice v.pg v.ng v.cg) ∧ X.cell? ⟨W.heap.size, 3, none⟩ = some (.slice v.ps v.ns v.cs) from fun X hX => by
    have e1 := (hX.block W.heap.size (by omega)).trans k1
    exact ⟨(cell_of e1).trans rfl, (cell_of e1).trans rfl, (cell_of e1).trans rfl, (cell_of e1).trans rfl⟩)
  have HIds := Lib.hid (fun X (hX : Below W1.heap.size W1 X) => (show Calls Try.prog 20 #[.slice p n c] X (IdsR X.heap.size (idsD E) X) from by
    have := ids13_any p n c R X (h.grow (hb1.trans (hX.mono hb1.size))) hn hb
    rwa [hE] at this))
  have HN := Lib.hid hn
  have HZ := Lib.hid hz
  have HV := Lib.hid hv
  obtain ⟨i0, gi, gz0, gz1, gz2⟩ := info_parts info_entry
  have hok : okD (clampD m) E e = (decide (n < clampD m) && !decide (e.id ∈ idsD E)) := by unfold okD; rw [hEl]
  have hil : (idsD E).length = n := by simpa [idsD] using hEl
  obtain ⟨cl, hcl⟩ : ∃ cl, clampD m = cl := ⟨_, rfl⟩
  obtain ⟨z, hzz⟩ : ∃ z : Int, (cl : Int) - n = z := ⟨_, rfl⟩
  have HRoom := Lib.hid (show ∀ X, Calls Try.prog 17 #[.int .i64 m, .int .i64 n] X (fun e W' => e = .returned (.int .i64 z) ∧ X = W') from fun X => by
    have := refroom_any m n X hb
    rwa [hcl, hzz] at this)
  rw [hcl] at hok hnc ⊢
  obtain ⟨⟨o, i⟩, pg, ng, cg, ps, ns, cs⟩ := v
  simp only at HC hW1 HV
  clear h hn hE hv hEl hb1 k1 hz hcl
  obtain ⟨c0, c1, c2, c3⟩ := HC.out _ (Below.refl _ _)
  by_cases hfull : n < cl
  · obtain ⟨t, rfl⟩ : ∃ t : Nat, z = (t : Int) + 1 := ⟨(z - 1).toNat, by omega⟩
    clear hzz
    rw [decide_eq_true hfull, Bool.true_and] at hok
    obtain ⟨r, hr⟩ : ∃ r, decide (e.id ∈ idsD E) = r := ⟨_, rfl⟩
    have HHas := Lib.hid (fun (X : World) q c' (hS : Si X q (idsD E)) => (show Calls Try.prog 19 #[.slice q n c', .agg #[.int .i64 o, .int .i64 i]] X (Says r X) from by
      have := has12_any q n c' (idsD E) ⟨o, i⟩ X hS hil hb
      rw [HV.out, hr] at this
      have h2 : (e.id.o = o ∧ e.id.s = i) := by rw [← HV.out]; exact ⟨rfl, rfl⟩
      rw [h2.1, h2.2] at this
      exact this))
    rw [hr] at hok
    clear hr
    go_enter Try.func9, Try.ntmps9
    go_wp2_with fail
    clear hW1
    have A1 := Lib.hid (below_drew W1)
    go_region_held3 (fun w' => w'.cell? ⟨W.heap.size, 0, none⟩ = some (.int .i64 o) ∧ w'.cell? ⟨W.heap.size, 1, none⟩ = some (.int .i64 i))
      (first
        | exact ⟨(HC.out _ X3.out).1, (HC.out _ X3.out).2.1⟩
        | exact ⟨(HC.out _ X2.out).1, (HC.out _ X2.out).2.1⟩
        | exact ⟨(HC.out _ A1.out).1, (HC.out _ A1.out).2.1⟩
        | exact ⟨(HC.out _ (Below.refl _ _)).1, (HC.out _ (Below.refl _ _)).2.1⟩)
      (first
        | (go_at_call 19; refine (HHas.out _ q2 c5 (HL2.out.si hil)).mono ?_; rintro en x3 ⟨rfl, hb⟩; have X3 := Lib.hid (X2.out.trans (hb.mono X2.out.size)); clear hb)
        | (go_at_call 20; refine (HIds.out _ A1.out).mono ?_; rintro en x2 ⟨q2, c5, rfl, hL, _, hb⟩; rw [hil] at hL ⊢; have HL2 := Lib.hid hL; have X2 := Lib.hid (A1.out.trans hb); clear hb hL)
        | (go_at_call 17; refine (HRoom.out _).mono ?_; rintro en x1 ⟨rfl, rfl⟩))
    have ht : decide ((t : Int) + 1 < 1) = false := decide_eq_false (by omega)
    rw [ht, Bool.false_or]
    clear HHas HIds HRoom c0 c1 c2 c3
    cases r with
    | true =>
      go_wp2_with fail
      refine bodyPost_ret (results_tmp2 rfl _ _ _) rfl ?_
      exact .inl ⟨by first | rfl | (rw [hok]; rfl), rfl, HB.out _ X3.out⟩
    | false =>
      have H0 := Lib.hid (OutE.start W1 x3 X3.out)
      go_wp2_with fail
      go_loopw [8, 9] (fun lv s wr => ∃ k : Nat, s = .int .i64 k ∧ k ≤ n ∧ Hid (OutE W1.heap.size W1 (R.take k) lv wr)) (fun _ s _ => n - (intOf s).toNat)
      case atStart => exact ⟨0, rfl, Nat.zero_le _, H0⟩
      case round =>
        clear H0
        obtain ⟨k, rfl, hkn, hI⟩ := hrel
        obtain ⟨a, c', rfl⟩ := hI.out.lot.form
        have htl : (R.take k).length = k := by rw [List.length_take, HN.out]; omega
        by_cases hlt : k < n
        · have hkR : k < R.length := by rw [HN.out]; exact hlt
          obtain ⟨b, o1, rfl, e1, e2, e3, e4⟩ := HS.out wr (HB.out _ hI.out.low) k hkR
          have hsn := List.take_succ_eq_append_getElem hkR
          obtain ⟨⟨⟨yo, yi⟩, ypg, yng, ycg, yps, yns, ycs⟩, hy⟩ : ∃ y, R[k] = y := ⟨_, rfl⟩
          rw [hy] at e1 e2 e3 e4 hsn
          simp only at e1 e2 e3 e4
          have hL0 := hI.out.lot
          rw [htl] at hL0
          have HLo := Lib.hid (hL0.below (below_alloc wr (.cells #[.int .i64 yo, .int .i64 yi, .slice ypg yng ycg, .slice yps yns ycs] 40)))
          have HNx := Lib.hid (fun (w' : World) (g cap : Nat) (ob : Obj) hL hg hat => OutE.next (v := ⟨⟨yo, yi⟩, ypg, yng, ycg, yps, yns, ycs⟩) (o := ob) (w' := w') (g := g) (cap := cap) hI.out hI.out.low.size htl hL hg hat)
          rw [htl] at HNx
          rw [← hsn] at HNx
          rw [htl]
          clear hL0 hsn hy hkR
          have hmx : k + 1 ≤ maxLen := by unfold maxLen; omega
          have hltz : (k : Int) < (n : Int) := by omega
          have h0 : (0 : Int) ≤ (k : Int) := by omega
          go_wp2_with (at_builtin; refine wpList_append_lot _ rfl _ _ 22 rfl 40 i0 _ 4 64 Try.underlying22 gi gz0 gz1 gz2 rfl (.slice a k c') k (flatE (R.take k)) rfl HLo.out ⟨_, 0, none⟩ 1 1 [.int .i64 yo, .int .i64 yi, .slice ypg yng ycg, .slice yps yns ycs] rfl rfl (info_entry_news _ ⟨⟨yo, yi⟩, ypg, yng, ycg, yps, yns, ycs⟩) (by simp [Value.oneCell']) (by omega) hmx (by omega) _ rfl ?_; intro g cap w4 hL4 hg4 hat4; have HF := Lib.hid (HNx.out w4 g cap _ hL4 hg4 hat4); clear hL4 hg4 hat4)
          go_roundw
          case rel => exact ⟨k + 1, by go_num, by omega, HF⟩
          case measure => simp [intOf]; omega
        · obtain rfl : n = k := by omega
          have hfull : R.take n = R := List.take_of_length_le (by rw [HN.out]; exact Nat.le_refl _)
          rw [hfull] at hI htl ⊢
          rw [htl]
          have hL0 := hI.out.lot
          rw [htl] at hL0
          have HLo := Lib.hid (hL0.below (below_alloc wr (.cells #[.int .i64 o, .int .i64 i, .slice pg ng cg, .slice ps ns cs] 40)))
          have HNx := Lib.hid (fun (w' : World) (g cap : Nat) (ob : Obj) hL hg hat => OutE.next (v := ⟨⟨o, i⟩, pg, ng, cg, ps, ns, cs⟩) (o := ob) (w' := w') (g := g) (cap := cap) hI.out hI.out.low.size htl hL hg hat)
          rw [htl] at HNx
          obtain ⟨d0, d1, d2, d3⟩ := HC.out _ hI.out.low
          clear hL0 hI
          have hmx : n + 1 ≤ maxLen := by unfold maxLen; omega
          go_wp2_with (at_builtin; refine wpList_append_lot _ rfl _ _ 22 rfl 40 i0 _ 4 64 Try.underlying22 gi gz0 gz1 gz2 rfl (.slice a n c') n (flatE R) rfl HLo.out ⟨_, 0, none⟩ 1 1 [.int .i64 o, .int .i64 i, .slice pg ng cg, .slice ps ns cs] rfl rfl (info_entry_news _ ⟨⟨o, i⟩, pg, ng, cg, ps, ns, cs⟩) (by simp [Value.oneCell']) (by omega) hmx (by omega) _ rfl ?_; intro g cap w4 hL4 hg4 hat4; have HF := Lib.hid (HNx.out w4 g cap _ hL4 hg4 hat4); clear hL4 hg4 hat4)
          refine bodyPost_ret (results_tmp2 rfl _ _ _) rfl ?_
          refine .inr ⟨by first | rfl | (rw [hok]; rfl), _, _, rfl, HF.out.lot, fun j hj => ?_, HB.out _ HF.out.low⟩
          have := HF.out.base j hj
          have := HZ.out
          omega
  · obtain rfl : z = 0 := by omega
    clear hzz
    rw [decide_eq_false hfull, Bool.false_and] at hok
    rw [hok]
    clear hok
    go_enter Try.func9, Try.ntmps9
    go_wp2_with fail
    clear hW1
    have A1 := Lib.hid (below_drew W1)
    go_quiet (exact Calls.quiet_of_same ((HRoom.out _).mono fun e w' h => ⟨h.1, h.2.symm⟩))
    go_wp2_with fail
    refine bodyPost_ret (results_tmp2 rfl _ _ _) rfl ?_
    exact .inl ⟨rfl, rfl, below_drewN (HB.out _ (Below.refl _ _)) _⟩

/-- What Without leaves. -/
def RefLessR (R : List EV) (L : List IdD) (W : World) (e : Ending) (W' : World) : Prop := ∃ q c', e = .returned (.slice q (lessV R L).length c') ∧ OutE W.heap.size W (lessV R L) (.slice q (lessV R L).length c') W'

theorem lessV_le (R : List EV) (L : List IdD) : (lessV R L).length ≤ R.length := List.length_filter_le _ _

set_option maxRecDepth 100000 in
set_option maxHeartbeats 8000000 in
theorem refless_any (p : Option Addr) (n c : Nat) (R : List EV) (pl : Option Addr) (nl cl : Nat) (L : List IdD) (W : World) (h : Se W p R) (hn : R.length = n) (hb : n ≤ 1000) (hS : Si W pl L) (hl : L.length = nl) (hnl : nl ≤ 1000) :
    Calls Try.prog 11 #[.slice p n c, .slice pl nl cl] W (RefLessR R L W) := by
  have HS := Lib.hid (fun X (hX : Below W.heap.size W X) => h.grow hX)
  have HH := Lib.hid (fun X (hX : Below W.heap.size W X) (a : IdD) => has12_any pl nl cl L a X (hS.grow hX) hl hnl)
  have HN := Lib.hid hn
  have H0 := Lib.hid (OutE.start W W (Below.refl _ _))
  obtain ⟨i0, gi, gz0, gz1, gz2⟩ := info_parts info_entry
  clear h hn hS hl hnl
  go_enter Try.func11, Try.ntmps11
  go_wp2_with fail
  go_loopw [5, 6] (fun lv s wr => ∃ k : Nat, s = .int .i64 k ∧ k ≤ n ∧ Hid (OutE W.heap.size W (lessV (R.take k) L) lv wr)) (fun _ s _ => n - (intOf s).toNat)
  case atStart => exact ⟨0, rfl, Nat.zero_le _, H0⟩
  case round =>
    clear H0
    obtain ⟨k, rfl, hkn, hI⟩ := hrel
    obtain ⟨a, c', rfl⟩ := hI.out.lot.form
    have htl : (lessV (R.take k) L).length ≤ k := Nat.le_trans (lessV_le _ _) (by rw [List.length_take]; omega)
    obtain ⟨j, hj⟩ : ∃ j, (lessV (R.take k) L).length = j := ⟨_, rfl⟩
    by_cases hlt : k < n
    · have hkR : k < R.length := by rw [HN.out]; exact hlt
      obtain ⟨b, o1, rfl, e1, e2, e3, e4⟩ := HS.out wr hI.out.low k hkR
      have HCx := Lib.hid (fun X (hX : Below W.heap.size W X) => (show X.cell? ⟨b, o1 + k * 4, none⟩ = some (.int .i64 R[k].id.o) ∧ X.cell? ⟨b, o1 + k * 4 + 1, none⟩ = some (.int .i64 R[k].id.s) ∧ X.cell? ⟨b, o1 + k * 4 + 2, none⟩ = some (.slice R[k].pg R[k].ng R[k].cg) ∧ X.cell? ⟨b, o1 + k * 4 + 3, none⟩ = some (.slice R[k].ps R[k].ns R[k].cs) from by
        obtain ⟨b', o', e', r⟩ := HS.out X hX k hkR
        cases e'
        exact r))
      have hsn := lessV_snoc (L := L) hkR
      obtain ⟨⟨⟨yo, yi⟩, ypg, yng, ycg, yps, yns, ycs⟩, hy⟩ : ∃ y, R[k] = y := ⟨_, rfl⟩
      rw [hy] at e1 e2 e3 e4 hsn HCx
      simp only at e1 e2 e3 e4 hsn HCx
      have HHy := Lib.hid (HH.out wr hI.out.low ⟨yo, yi⟩)
      clear hy hkR e3 e4
      have hltz : (k : Int) < (n : Int) := by omega
      have h0 : (0 : Int) ≤ (k : Int) := by omega
      rw [hj]
      by_cases hmem : (⟨yo, yi⟩ : IdD) ∈ L
      · rw [if_pos hmem] at hsn
        rw [decide_eq_true hmem] at HHy
        go_wp2_with fail
        refine HHy.out.mono ?_
        rintro en x2 ⟨rfl, hb2⟩
        have HI2 := Lib.hid (hI.out.below hI.out.low.size hb2)
        rw [hj, ← hsn] at HI2
        clear hb2 e1 e2
        go_wp2_with fail
        go_roundw
        case rel => exact ⟨k + 1, by go_num, by omega, HI2⟩
        case measure => simp [intOf]; omega
      · rw [if_neg hmem] at hsn
        rw [decide_eq_false hmem] at HHy
        go_wp2_with fail
        refine HHy.out.mono ?_
        rintro en x2 ⟨rfl, hb2⟩
        have HI2 := Lib.hid (hI.out.below hI.out.low.size hb2)
        rw [hj] at HI2
        obtain ⟨d1, d2, d3, d4⟩ := HCx.out _ HI2.out.low
        have hL0 := HI2.out.lot
        rw [hj] at hL0
        have HLo := Lib.hid (hL0.below (below_alloc x2 (.cells #[.int .i64 yo, .int .i64 yi, .slice ypg yng ycg, .slice yps yns ycs] 40)))
        have HNx := Lib.hid (fun (w' : World) (g cap : Nat) (ob : Obj) hL hg hat => OutE.next (v := ⟨⟨yo, yi⟩, ypg, yng, ycg, yps, yns, ycs⟩) (o := ob) (w' := w') (g := g) (cap := cap) HI2.out HI2.out.low.size hj hL hg hat)
        rw [← hsn] at HNx
        clear hL0 hsn hb2 e1 e2
        have hmx : j + 1 ≤ maxLen := by unfold maxLen; omega
        go_wp2_with (at_builtin; refine wpList_append_lot _ rfl _ _ 22 rfl 40 i0 _ 4 64 Try.underlying22 gi gz0 gz1 gz2 rfl (.slice a j c') j (flatE (lessV (R.take k) L)) rfl HLo.out ⟨_, 0, none⟩ 1 1 [.int .i64 yo, .int .i64 yi, .slice ypg yng ycg, .slice yps yns ycs] rfl rfl (info_entry_news _ ⟨⟨yo, yi⟩, ypg, yng, ycg, yps, yns, ycs⟩) (by simp [Value.oneCell']) (by omega) hmx (by omega) _ rfl ?_; intro g cap w4 hL4 hg4 hat4; have HF := Lib.hid (HNx.out w4 g cap _ hL4 hg4 hat4); clear hL4 hg4 hat4)
        go_roundw
        case rel => exact ⟨k + 1, by go_num, by omega, HF⟩
        case measure => simp [intOf]; omega
    · obtain rfl : n = k := by omega
      have hfull : R.take n = R := List.take_of_length_le (by rw [HN.out]; exact Nat.le_refl _)
      rw [hfull] at hI hj ⊢
      have HE := Lib.hid (show RefLessR R L W (.returned (.slice a (lessV R L).length c')) wr from ⟨a, c', rfl, hI.out⟩)
      clear hI hj htl
      go_wp2_with fail
      go_ret
      exact HE.out

set_option maxRecDepth 100000 in
set_option maxHeartbeats 8000000 in
/-- Two rows that are the same entries. -/
theorem same13_any (pa pb : Option Addr) (n ca cb : Nat) (A B : List EV) (E : List ED) (w : World) (hA : Se w pa A) (hB : Se w pb B) (eA : Each (Ent w) A E) (eB : Each (Ent w) B E) (hn : E.length = n) (hb : n ≤ 1000) (hf : ∀ e ∈ E, e.fits) :
    Calls Try.prog 12 #[.slice pa n ca, .slice pb n cb] w (Says true w) := by
  have HA := Lib.hid (show ∀ X, Below w.heap.size w X → ∀ k (hk : k < E.length), ∃ v b o, pa = some ⟨b, o, none⟩ ∧ X.cell? ⟨b, o + k * 4, none⟩ = some (.int .i64 E[k].id.o) ∧ X.cell? ⟨b, o + k * 4 + 1, none⟩ = some (.int .i64 E[k].id.s) ∧ X.cell? ⟨b, o + k * 4 + 2, none⟩ = some (.slice v.pg v.ng v.cg) ∧ X.cell? ⟨b, o + k * 4 + 3, none⟩ = some (.slice v.ps v.ns v.cs) ∧ v = A[k]'(by rw [eA.1]; exact hk) from fun X hX k hk => by
    obtain ⟨b, o, e1, r1, r2, r3, r4⟩ := hA.grow hX k (by rw [eA.1]; exact hk)
    have hid := (eA.2 k (by rw [eA.1]; exact hk) hk).id
    rw [hid] at r1 r2
    exact ⟨_, b, o, e1, r1, r2, r3, r4, rfl⟩)
  have HB := Lib.hid (show ∀ X, Below w.heap.size w X → ∀ k (hk : k < E.length), ∃ v b o, pb = some ⟨b, o, none⟩ ∧ X.cell? ⟨b, o + k * 4, none⟩ = some (.int .i64 E[k].id.o) ∧ X.cell? ⟨b, o + k * 4 + 1, none⟩ = some (.int .i64 E[k].id.s) ∧ X.cell? ⟨b, o + k * 4 + 2, none⟩ = some (.slice v.pg v.ng v.cg) ∧ X.cell? ⟨b, o + k * 4 + 3, none⟩ = some (.slice v.ps v.ns v.cs) ∧ v = B[k]'(by rw [eB.1]; exact hk) from fun X hX k hk => by
    obtain ⟨b, o, e1, r1, r2, r3, r4⟩ := hB.grow hX k (by rw [eB.1]; exact hk)
    have hid := (eB.2 k (by rw [eB.1]; exact hk) hk).id
    rw [hid] at r1 r2
    exact ⟨_, b, o, e1, r1, r2, r3, r4, rfl⟩)
  have HS := Lib.hid (show ∀ X, Below w.heap.size w X → ∀ k (hk : k < E.length) (va vb : EV), va = A[k]'(by rw [eA.1]; exact hk) → vb = B[k]'(by rw [eB.1]; exact hk) → Calls Try.prog 23 #[.agg #[.slice va.pg va.ng va.cg, .slice va.ps va.ns va.cs], .agg #[.slice vb.pg vb.ng vb.cg, .slice vb.ps vb.ns vb.cs]] X (Says true X) from fun X hX k hk va vb ea eb => by
    subst ea eb
    have h1 := (eA.2 k (by rw [eA.1]; exact hk) hk).grow hX
    have h2 := (eB.2 k (by rw [eB.1]; exact hk) hk).grow hX
    have h3 := hf _ (List.getElem_mem hk)
    have := refsame_any (A[k]'(by rw [eA.1]; exact hk)).pg (A[k]'(by rw [eA.1]; exact hk)).ps (B[k]'(by rw [eB.1]; exact hk)).pg (B[k]'(by rw [eB.1]; exact hk)).ps (A[k]'(by rw [eA.1]; exact hk)).ng (A[k]'(by rw [eA.1]; exact hk)).ns (B[k]'(by rw [eB.1]; exact hk)).ng (B[k]'(by rw [eB.1]; exact hk)).ns (A[k]'(by rw [eA.1]; exact hk)).cg (A[k]'(by rw [eA.1]; exact hk)).cs (B[k]'(by rw [eB.1]; exact hk)).cg (B[k]'(by rw [eB.1]; exact hk)).cs E[k].g E[k].g E[k].s E[k].s X h1.g h1.s h2.g h2.s h1.ng h1.ns h2.ng h2.ns (by have := h1.ng; have := h3.ng; omega) (by have := h1.ns; have := h3.ns; omega) (by have := h2.ng; have := h3.ng; omega) (by have := h2.ns; have := h3.ns; omega)
    unfold sameD at this
    rw [eqD_self, eqD_self] at this
    exact this)
  have HN := Lib.hid hn
  clear hA hB hn hf
  go_enter Try.func12, Try.ntmps12
  go_wp2_with fail
  go_loopw [5] (fun s wr => ∃ k : Nat, s = .int .i64 k ∧ k ≤ n ∧ Hid (Below w.heap.size w wr)) (fun s _ => n - (intOf s).toNat)
  case atStart => exact ⟨0, rfl, Nat.zero_le _, Below.refl _ _⟩
  case round =>
    obtain ⟨k, rfl, hkn, hW⟩ := hrel
    by_cases hlt : k < n
    · have hk : k < E.length := by rw [HN.out]; exact hlt
      obtain ⟨va, b, o, rfl, a1, a2, a3, a4, ea⟩ := HA.out wr hW.out k hk
      obtain ⟨vb, b', o', rfl, b1, b2, b3, b4, eb⟩ := HB.out wr hW.out k hk
      have HSk := Lib.hid (fun X hX => HS.out X hX k hk va vb ea eb)
      have HC := Lib.hid (fun X (hX : Below w.heap.size w X) => (show X.cell? ⟨b, o + k * 4, none⟩ = some (.int .i64 E[k].id.o) ∧ X.cell? ⟨b, o + k * 4 + 1, none⟩ = some (.int .i64 E[k].id.s) ∧ X.cell? ⟨b, o + k * 4 + 2, none⟩ = some (.slice va.pg va.ng va.cg) ∧ X.cell? ⟨b, o + k * 4 + 3, none⟩ = some (.slice va.ps va.ns va.cs) ∧
          X.cell? ⟨b', o' + k * 4, none⟩ = some (.int .i64 E[k].id.o) ∧ X.cell? ⟨b', o' + k * 4 + 1, none⟩ = some (.int .i64 E[k].id.s) ∧ X.cell? ⟨b', o' + k * 4 + 2, none⟩ = some (.slice vb.pg vb.ng vb.cg) ∧ X.cell? ⟨b', o' + k * 4 + 3, none⟩ = some (.slice vb.ps vb.ns vb.cs) from by
        obtain ⟨v1, c1, o1, e1, r1, r2, r3, r4, f1⟩ := HA.out X hX k hk
        obtain ⟨v2, c2, o2, e2, s1, s2, s3, s4, f2⟩ := HB.out X hX k hk
        cases e1; cases e2
        rw [f1, ← ea] at r3 r4
        rw [f2, ← eb] at s3 s4
        exact ⟨r1, r2, r3, r4, s1, s2, s3, s4⟩))
      obtain ⟨y, hy⟩ : ∃ y, E[k].id = y := ⟨_, rfl⟩
      rw [hy] at a1 a2 b1 b2 HC
      have hq := fun w => neqI y y w
      rw [decide_eq_true rfl] at hq
      have hgd := guardI
      clear ea eb hy hk
      obtain ⟨aid, apg, ang, acg, aps, ans, acs⟩ := va
      obtain ⟨bid, bpg, bng, bcg, bps, bns, bcs⟩ := vb
      simp only at a3 a4 b3 b4 HC HSk
      have A1 := Lib.hid (hW.out.trans ((below_drew wr).mono hW.out.size))
      have hltz : (k : Int) < (n : Int) := by omega
      have h0 : (0 : Int) ≤ (k : Int) := by omega
      go_wp2_with fail
      go_region_held3 (fun w' => w'.cell? ⟨b, o + k * 4, none⟩ = some (.int .i64 y.o) ∧ w'.cell? ⟨b, o + k * 4 + 1, none⟩ = some (.int .i64 y.s) ∧ w'.cell? ⟨b, o + k * 4 + 2, none⟩ = some (.slice apg ang acg) ∧ w'.cell? ⟨b, o + k * 4 + 3, none⟩ = some (.slice aps ans acs) ∧
          w'.cell? ⟨b', o' + k * 4, none⟩ = some (.int .i64 y.o) ∧ w'.cell? ⟨b', o' + k * 4 + 1, none⟩ = some (.int .i64 y.s) ∧ w'.cell? ⟨b', o' + k * 4 + 2, none⟩ = some (.slice bpg bng bcg) ∧ w'.cell? ⟨b', o' + k * 4 + 3, none⟩ = some (.slice bps bns bcs))
        (first
          | exact HC.out _ X1.out
          | exact HC.out _ A1.out
          | exact HC.out _ hW.out)
        (first
          | (go_at_call 23; refine (HSk.out _ A1.out).mono ?_; rintro en x1 ⟨rfl, hb⟩; have X1 := Lib.hid (A1.out.trans (hb.mono A1.out.size)); clear hb))
      go_wp2_with fail
      go_roundw
      case rel => exact ⟨k + 1, by go_num, by omega, X1⟩
      case measure => simp [intOf]; omega
    · obtain rfl : n = k := by omega
      go_wp2_with fail
      go_ret
      exact Says.mk rfl hW.out

end Go.Proofs.Ytkfnndhoccjffaa
