/-
  pending's Without and All.
-/
import Derived.Test.YtkfnndhoccjffaaRowadd
namespace Go.Proofs.Ytkfnndhoccjffaa
open Go Go.RowKit
attribute [local go_sem ↓] Go.wp_at_zero Go.wp_at_succ

/-- A list of entries that was made new: E. -/
def Fresh (B : Nat) (E : List ED) (v : Value) (W : World) : Prop :=
  ∃ R, Lot W 40 4 v E.length (flatE R) ∧ Each (EntO W B) R E ∧ ∀ k, v.ownBlock = some k → B ≤ k

theorem withoutD_snoc {E : List ED} {L : List IdD} {k : Nat} (h : k < E.length) : withoutD (E.take (k + 1)) L = if E[k].id ∈ L then withoutD (E.take k) L else withoutD (E.take k) L ++ [E[k]] := by
  unfold withoutD
  rw [List.take_succ_eq_append_getElem h, List.filter_append]
  by_cases hm : E[k].id ∈ L <;> simp [hm]
theorem withoutD_le (E : List ED) (L : List IdD) : (withoutD E L).length ≤ E.length := List.length_filter_le _ _

/-- What Without leaves. -/
def WithoutR (E : List ED) (L : List IdD) (W : World) (en : Ending) (W' : World) : Prop :=
  ∃ q, en = .returned (.slice q (withoutD E L).length (withoutD E L).length) ∧ Fresh W.heap.size (withoutD E L) (.slice q (withoutD E L).length (withoutD E L).length) W' ∧ Below W.heap.size W W'

/-- Between two rounds of Without. -/
def LessI (B : Nat) (W1 : World) (E : List ED) (v : Value) (W : World) : Prop := Fresh B E v W ∧ Below B W1 W
theorem LessI.below {B : Nat} {W1 W W' : World} {E : List ED} {v : Value} (h : LessI B W1 E v W) (hb : Below W.heap.size W W') (hB : B ≤ W.heap.size) : LessI B W1 E v W' := by
  obtain ⟨⟨R, h1, h2, h3⟩, h4⟩ := h
  exact ⟨⟨R, h1.below hb, h2.imp (fun _ _ _ _ q => q.below hb), h3⟩, h4.trans (hb.mono hB)⟩
theorem Fresh.form {B : Nat} {W : World} {E : List ED} {v : Value} (h : Fresh B E v W) : ∃ a c, v = .slice a E.length c := by obtain ⟨R, h, _⟩ := h; exact h.form

/-- One entry more. -/
theorem LessI.next {B : Nat} {W1 X Y w' : World} {E : List ED} {e : ED} {v : Value} {v' : EV} {g cap m : Nat} {o : Obj} {R : List EV} (h1 : Lot X 40 4 v E.length (flatE R)) (h2 : Each (EntO X B) R E) (h3 : ∀ k, v.ownBlock = some k → B ≤ k) (h4 : Below B W1 X)
    (hB : B ≤ X.heap.size) (hv : EntO Y X.heap.size v' e) (hXY : Below X.heap.size X Y) (hm : m = E.length)
    (hL : Lot w' 40 4 (.slice (some ⟨g, 0, none⟩) (m + 1) cap) (m + 1) (flatE R ++ [.int .i64 v'.id.o, .int .i64 v'.id.s, .slice v'.pg v'.ng v'.cg, .slice v'.ps v'.ns v'.cs])) (hg : (Y.alloc o).grownBy w' v.ownBlock) (hat : v.ownBlock = some g ∨ g = (Y.alloc o).heap.size) :
    LessI B W1 (E ++ [e]) (.slice (some ⟨g, 0, none⟩) (m + 1) cap) w' := by
  subst hm
  have hb : Below X.heap.size X (Y.alloc o) := hXY.alloc hXY.size o
  have hoth : ∀ k, v.ownBlock = some k → Other (Y.alloc o) k := fun k hk cs t hc => by
    obtain ⟨cur, hcur⟩ := (h1.below hb).tag hk
    rw [hcur] at hc; cases hc; exact ⟨by decide, by decide⟩
  refine ⟨⟨R ++ [v'], by rw [flatE_snoc, List.length_append]; exact hL, Each.snoc (h2.imp (fun _ _ _ _ q => (q.below hb).kept hg hoth)) (((hv.below (below_alloc Y o)).kept hg hoth).mono hB), fun k hk => ?_⟩, ?_⟩
  · obtain rfl : g = k := by simpa [Value.ownBlock] using hk
    rcases hat with h0 | h0
    · exact h3 _ h0
    · rw [h0]; exact Nat.le_trans hB hb.size
  · exact (h4.trans (hb.mono hB)).grown hg (Nat.le_trans hB hb.size) (fun k e => h3 k e)

set_option maxHeartbeats 2000000 in
theorem without_any (B p most n : Nat) (E : List ED) (f : Nat → Prop) (pl : Option Addr) (nl cl : Nat) (L : List IdD) (W : World) (h : Rowp W B p most n E f) (hS : Si W pl L) (hl : L.length = nl) (hnl : nl ≤ 10000) (hf : ∀ a ∈ L, a.fits) :
    Calls Try.prog 13 #[.pointer (some ⟨p, 0, none⟩), .slice pl nl cl] W (WithoutR E L W) := by
  obtain ⟨R, ev, b, h⟩ := h
  have HOf := Lib.hid (of_any pl nl cl L W hS hl hnl hf)
  have HRow := Lib.hid h
  obtain ⟨a, c, rfl⟩ := h.form
  have h32 := h.most32
  have hlen := h.len
  obtain ⟨m, hm⟩ : ∃ m, E.length = m := ⟨_, rfl⟩
  have HR := Lib.hid (fun X (hX : Below W.heap.size W X) => h.below hX)
  have HC := Lib.hid (fun X (hX : Below W.heap.size W X) => (show X.cell? ⟨p, 1, none⟩ = some (.slice a m c) from by rw [← hm]; exact (h.below hX).cells.2.1))
  have HE := Lib.hid (show ∀ X, Below W.heap.size W X → ∀ k (hk : k < E.length), ∃ v b o, a = some ⟨b, o, none⟩ ∧ X.cell? ⟨b, o + k * 4, none⟩ = some (.int .i64 v.id.o) ∧ X.cell? ⟨b, o + k * 4 + 1, none⟩ = some (.int .i64 v.id.s) ∧ X.cell? ⟨b, o + k * 4 + 2, none⟩ = some (.slice v.pg v.ng v.cg) ∧ X.cell? ⟨b, o + k * 4 + 3, none⟩ = some (.slice v.ps v.ns v.cs) ∧ (∀ Y, Below X.heap.size X Y → Ent Y v E[k]) ∧ v.id = E[k].id from fun X hX k hk => by
    have h2 := h.below hX
    have hk2 : k < R.length := by rw [h2.each.1]; exact hk
    obtain ⟨b', o, e, r1, r2, r3, r4⟩ := h2.lot.se h2.each.1 k hk2
    exact ⟨R[k], b', o, e, r1, r2, r3, r4, fun Y hY => (h2.each.2 k hk2 hk).ent.grow hY, (h2.each.2 k hk2 hk).id⟩)
  have HFit := Lib.hid h.fits
  have HM := Lib.hid hm
  rw [hm] at hlen
  have hc0 := HC.out _ (Below.refl _ _)
  clear h hS hl hnl hf hm
  obtain ⟨i0, gi, gz0, gz1, gz2⟩ := info_parts info_entry
  go_enter Try.func13, Try.ntmps13
  go_wp2_with fail
  refine HOf.out.mono ?_
  rintro en w1 ⟨s, rfl, hS, hb⟩
  have HS := Lib.hid hS
  have HB1 := Lib.hid hb
  have hc1 := HC.out _ hb
  clear hS hb hc0
  go_wp2_with fail
  have H0 := Lib.hid (show LessI w1.heap.size w1 (withoutD (E.take 0) L) (.slice none 0 0) w1 from ⟨⟨[], Lot.nil _ _ _, Each.nil _, fun k hk => (by cases hk)⟩, Below.refl _ _⟩)
  go_loopw [6, 18] (fun lv i wr => ∃ k : Nat, i = .int .i64 k ∧ k ≤ m ∧ Hid (LessI w1.heap.size w1 (withoutD (E.take k) L) lv wr)) (fun _ i _ => m - (intOf i).toNat)
  case atStart => exact ⟨0, rfl, Nat.zero_le _, H0⟩
  case round =>
    clear H0 hc1
    obtain ⟨k, rfl, hkm, hI⟩ := hrel
    have hBX := Lib.hid (HB1.out.trans (hI.out.2.mono HB1.out.size))
    by_cases hlt : k < m
    · have hkE : k < E.length := by rw [HM.out]; exact hlt
      obtain ⟨⟨⟨o', i'⟩, pg, ng, cg, ps, ns, cs⟩, b', off, rfl, c0, c1, c2, c3, hEnt, hid⟩ := HE.out wr hBX.out k hkE
      have HEnt := Lib.hid hEnt
      have hfit := HFit.out _ (List.getElem_mem hkE)
      have HSn := Lib.hid (withoutD_snoc (L := L) hkE)
      obtain ⟨e, he⟩ : ∃ e, E[k] = e := ⟨_, rfl⟩
      rw [he] at HEnt HSn hfit hid
      have HFt := Lib.hid hfit
      simp only at c0 c1 c2 c3 hid
      have hb1 := below_alloc wr (.cells #[.int .i64 o', .int .i64 i', .slice pg ng cg, .slice ps ns cs] 40)
      have HHas := Lib.hid (show Calls Try.prog 25 #[.pointer (some ⟨s, 0, none⟩), .agg #[.int .i64 o', .int .i64 i']] (wr.alloc (.cells #[.int .i64 o', .int .i64 i', .slice pg ng cg, .slice ps ns cs] 40)) (Says (decide (e.id ∈ L)) (wr.alloc (.cells #[.int .i64 o', .int .i64 i', .slice pg ng cg, .slice ps ns cs] 40))) from by
        have := sethas_any W.heap.size s L.length L e.id (wr.alloc (.cells #[.int .i64 o', .int .i64 i', .slice pg ng cg, .slice ps ns cs] 40)) (HS.out.below (hI.out.2.trans (hb1.mono hI.out.2.size))) hfit.id
        rw [← hid] at this ⊢
        exact this)
      have HVar := Lib.hid (show ∀ X, Below (wr.alloc (.cells #[.int .i64 o', .int .i64 i', .slice pg ng cg, .slice ps ns cs] 40)).heap.size (wr.alloc (.cells #[.int .i64 o', .int .i64 i', .slice pg ng cg, .slice ps ns cs] 40)) X → X.cell? ⟨wr.heap.size, 0, none⟩ = some (.int .i64 o') ∧ X.cell? ⟨wr.heap.size, 1, none⟩ = some (.int .i64 i') ∧ X.cell? ⟨wr.heap.size, 2, none⟩ = some (.slice pg ng cg) ∧ X.cell? ⟨wr.heap.size, 3, none⟩ = some (.slice ps ns cs) from fun X hX => by
        have e1 := (hX.block wr.heap.size (by simp)).trans (World.alloc_heap_new wr _)
        exact ⟨(cell_of e1).trans rfl, (cell_of e1).trans rfl, (cell_of e1).trans rfl, (cell_of e1).trans rfl⟩)
      have HA := Lib.hid hb1
      clear hb1 he hkE hEnt hfit hid
      have hltz : (k : Int) < (m : Int) := by omega
      have h0 : (0 : Int) ≤ (k : Int) := by omega
      go_wp2_with fail
      refine HHas.out.mono ?_
      rintro en x2 ⟨rfl, hb⟩
      have HX2 := Lib.hid (HA.out.trans (hb.mono HA.out.size))
      obtain ⟨v0, v1, v2, v3⟩ := HVar.out _ hb
      have HI2 := Lib.hid (hI.out.below HX2.out hI.out.2.size)
      clear hb
      by_cases hmem : e.id ∈ L
      · rw [if_pos hmem] at HSn
        rw [decide_eq_true hmem]
        rw [← HSn.out] at HI2
        go_wp2_with fail
        go_roundw
        case rel => exact ⟨k + 1, by go_num, by omega, HI2⟩
        case measure => simp [intOf]; omega
      · rw [if_neg hmem] at HSn
        rw [decide_eq_false hmem]
        obtain ⟨av, cv, rfl⟩ := HI2.out.1.form
        obtain ⟨⟨R', g1, g2, g3⟩, g4⟩ := HI2.out
        have G1 := Lib.hid g1
        have G2 := Lib.hid g2
        have hwl : (withoutD (E.take k) L).length ≤ 32 := by
          have := withoutD_le (E.take k) L
          rw [List.length_take] at this; omega
        obtain ⟨j, hj⟩ : ∃ j, (withoutD (E.take k) L).length = j := ⟨_, rfl⟩
        rw [hj] at hwl G1
        have HCop := Lib.hid (copied_any ⟨⟨o', i'⟩, pg, ng, cg, ps, ns, cs⟩ e x2 (HEnt.out x2 HX2.out) (by have h1 := (HEnt.out x2 HX2.out).ng; have h2 := HFt.out.ng; simp only at h1 ⊢; omega) (by have h1 := (HEnt.out x2 HX2.out).ns; have h2 := HFt.out.ns; simp only at h1 ⊢; omega))
        have HNext := Lib.hid (fun (Y w' : World) (v' : EV) (g cap : Nat) (o : Obj) hv hXY hL hg hat => LessI.next (e := e) (m := j) (g := g) (cap := cap) (v' := v') (Y := Y) (w' := w') (o := o) g1 g2 g3 g4 g4.size hv hXY hj.symm hL hg hat)
        rw [hj] at HNext
        rw [← HSn.out] at HNext
        have hj1 : j + 1 ≤ maxLen := by unfold maxLen; omega
        clear g1 g2 g3 g4
        rw [hj]
        go_wp2_with fail
        refine HCop.out.mono ?_
        rintro en y ⟨⟨⟨o2, i2⟩, qg, mg, dg, qs, ms, ds⟩, rfl, hE2, hb2⟩
        have HE2 := Lib.hid hE2
        have HB2 := Lib.hid hb2
        have LY := Lib.hid ((G1.out.below hb2).below (below_alloc y (.cells #[.int .i64 o2, .int .i64 i2, .slice qg mg dg, .slice qs ms ds] 40)))
        clear hE2 hb2
        go_wp2_with (at_builtin; refine wpList_append_lot _ rfl _ _ 22 rfl 40 i0 _ 4 64 Try.underlying22 gi gz0 gz1 gz2 rfl (.slice av j cv) j (flatE R') rfl LY.out ⟨y.heap.size, 0, none⟩ 1 1 [.int .i64 o2, .int .i64 i2, .slice qg mg dg, .slice qs ms ds] rfl rfl (info_entry_news y ⟨⟨o2, i2⟩, qg, mg, dg, qs, ms, ds⟩) (by simp [Value.oneCell']) (by omega) hj1 (by omega) _ rfl ?_; intro g cap w4 hL hg hat; have HF := Lib.hid (HNext.out y w4 ⟨⟨o2, i2⟩, qg, mg, dg, qs, ms, ds⟩ g cap _ HE2.out HB2.out hL hg hat); clear hL hg hat)
        go_roundw
        case rel => exact ⟨k + 1, by go_num, by omega, HF⟩
        case measure => simp [intOf]; omega
    · obtain rfl : m = k := by omega
      have hI2 := hI.out
      rw [List.take_of_length_le (by rw [HM.out]; exact Nat.le_refl _)] at hI2
      obtain ⟨⟨R', g1, g2, g3⟩, g4⟩ := hI2
      obtain ⟨av, cv, rfl⟩ := g1.form
      have hroom := g1.room.1
      have HF := Lib.hid (show WithoutR E L W (.returned (.slice av (withoutD E L).length (withoutD E L).length)) wr from ⟨av, rfl, ⟨R', g1.cut, g2.imp (fun _ _ _ _ q => q.mono HB1.out.size), fun k hk => Nat.le_trans HB1.out.size (g3 k (by rw [own_cut (c' := (withoutD E L).length)]; exact hk))⟩, hBX.out⟩)
      clear g1 g2 g3 g4
      go_wp2_with fail
      refine (cut_e av (withoutD E L).length cv _ hroom).mono ?_
      rintro en x5 ⟨rfl, rfl⟩
      go_wp2_with fail
      go_ret
      exact HF.out

theorem without_nil (pl : Option Addr) (nl cl : Nat) (W : World) : Calls Try.prog 13 #[.pointer none, .slice pl nl cl] W fun e W' => e = .returned (.slice none 0 0) ∧ W = W' := by
  go_enter Try.func13, Try.ntmps13
  go_wp2_with fail
  go_ret
  exact ⟨rfl, rfl⟩

theorem all_any (B p most n : Nat) (E : List ED) (f : Nat → Prop) (W : World) (h : Rowp W B p most n E f) :
    Calls Try.prog 21 #[.pointer (some ⟨p, 0, none⟩)] W (WithoutR E [] W) := by
  have H := Lib.hid (without_any B p most n E f none 0 0 [] W h (Si.nil _ _) rfl (by omega) (fun _ h => by cases h))
  clear h
  go_enter Try.func21, Try.ntmps21
  go_wp2_with fail
  refine H.out.mono ?_
  rintro en w2 ⟨q, rfl, h1, h2⟩
  have HE := Lib.hid (show WithoutR E [] W (.returned (.slice q (withoutD E []).length (withoutD E []).length)) w2 from ⟨q, rfl, h1, h2⟩)
  clear h1 h2
  go_wp2_with fail
  go_ret
  exact HE.out

theorem all_nil (W : World) : Calls Try.prog 21 #[.pointer none] W fun e W' => e = .returned (.slice none 0 0) ∧ W = W' := by
  go_enter Try.func21, Try.ntmps21
  go_wp2_with fail
  refine (without_nil none 0 0 _).mono ?_
  rintro en w2 ⟨rfl, rfl⟩
  go_wp2_with fail
  go_ret
  exact ⟨rfl, rfl⟩

theorem withoutD_none (E : List ED) : withoutD E [] = E := by unfold withoutD; rw [List.filter_eq_self]; intro a _; simp

end Go.Proofs.Ytkfnndhoccjffaa
