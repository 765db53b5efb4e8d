/-
  Whoever has pinned an epoch saw that it was the epoch then, and has a pin that nobody else has: the walk.
-/
import Derived.Test.YtgigjbngocfkbaaPnmany
import Derived.Test.YtgigjbngocfkbaaArgsr
import Derived.Deep.DeepCutAuto
import Derived.Deep.CutBlock
namespace Go.Proofs.Ytgigjbngocfkbaa
open Go Go.RowKit
attribute [local go_sem ↓] Go.wp_at_zero Go.wp_at_succ

theorem info_pin : (Try.prog.info? 27).map (fun i => (i.zero, i.size, i.bytes)) = some (some (.pointer none), 1, 8) := by kernel_rfl
section
variable {W X : World} {a p s q v x : Int} {B hp : Nat} {D : HpD} {N : Nat} {rs : Nat → Nat} {S : Nat → PinD} {g cap n : Nat} {ex : List (Nat × Obj)} {G : Nat → Int}
theorem mny_res (h : MnyI PinO W a p s q v x B hp D N rs S g cap ex X) {j : Nat} (hj : j < N) : Calls Try.prog 10 #[.pointer (some ⟨rs j, 0, none⟩)] X fun e Y => e = .returned (.tuple #[pndV (resP (S j)).1.1 (resP (S j)).1.2.1 (resP (S j)).1.2.2, .bool (resP (S j)).2]) ∧ MnyI PinO W a p s q v x B hp D N rs S g cap ex Y :=
  (pres_any X (h.own hj)).mono fun _ _ he => ⟨he.1, h.below he.2⟩
theorem mny_cload (h : MnyI PinO W a p s q v x B hp D N rs S g cap ex X) (hC : Ctl n D G) {c : Nat} (hc : c < n) :
    Calls Try.prog 16 #[.pointer (some ⟨hp, 0, none⟩), .int .u64 1, .int .i64 (c : Int)] X (fun e Y => e = .returned (TwoV (G c) 0) ∧ MnyI PinO W a p s q v x B hp D N rs S g cap ex Y) := by
  obtain ⟨o, hR⟩ := h.rnd
  exact (rnd_cload hR hC hc).mono fun _ _ he => ⟨he.1, h.move hR he.2⟩
theorem mny_does (h : MnyI PinO W a p s q v x B hp D N rs S g cap ex X) (hC : Ctl n D G) {y : ActD} (hy : y.fits) {w : Int} {G' : Nat → Int} (hD : DoesC n D y w G') :
    Calls Try.prog 15 #[.pointer (some ⟨hp, 0, none⟩), actOf y] X (fun e Y => e = .returned (gotV w ⟨#[]⟩) ∧ MnyI PinO W a p s q v x B hp (doN D y) N rs S g cap ex Y) := by
  obtain ⟨o, hR⟩ := h.rnd
  exact (rnd_does hR hC.faults hC.small hy hD).mono fun _ _ he => ⟨he.1, h.move hR he.2⟩
theorem mny_pin (h : MnyI PinO W a p s q v x B hp D N rs S g cap ex X) (i : Int) : Calls Try.prog 18 #[cfV a p s q v x, .int .i64 i] X (fun e Y => e = .returned (.int .i64 (pinW a p s q v i)) ∧ MnyI PinO W a p s q v x B hp D N rs S g cap ex Y) :=
  (pin_any a p s q v x i X).mono fun _ _ he => ⟨he.1, h.below he.2⟩
theorem mny_new (h : MnyI PinO W a p s q v x B hp D N rs S g cap [] X) (hF : FewD D 1000) (hr : rightC a p s q v = true) {th : Int} (ht : 0 ≤ th) :
    Calls Try.prog 7 #[cfV a p s q v x, .int .i64 th] X (fun e Y => ∃ r, e = .returned (.pointer (some ⟨r, 0, none⟩)) ∧ B ≤ r ∧ MnyI PinO W a p s q v x B hp D N rs S g cap [(r, PinO.obj (newP a p s q v x th))] Y) := by
  obtain ⟨o, hR⟩ := h.rnd
  refine (rnd_pnew hR hF hr ht).mono fun e Y he => ?_
  obtain ⟨r, rfl, hrs, hBr, hn⟩ := he
  have hg := heap_at_lt (hR.kept (List.mem_cons_self ..))
  have hR2 := hn.prest
  refine ⟨r, rfl, hBr, ⟨o, hR2.few (fun u hu => ?_)⟩, h.lot.same_at (hR.kept (List.mem_cons_self ..)) (hR2.kept (List.mem_cons_of_mem _ (List.mem_cons_self ..))), h.inj, h.ne, fun u hu => ?_, h.base, h.fit⟩
  · rcases List.mem_cons.1 hu with rfl | hu
    · exact List.mem_cons_of_mem _ (List.mem_cons_self ..)
    · rcases List.mem_append.1 hu with hu | hu
      · obtain rfl := List.mem_singleton.1 hu
        exact List.mem_cons_self ..
      · exact List.mem_cons_of_mem _ (List.mem_cons_of_mem _ (List.mem_append.2 (.inr hu)))
  · obtain rfl := List.mem_singleton.1 hu
    exact ⟨fun j hj => by have := heap_at_lt (h.own hj); show rs j ≠ r; omega, by show r ≠ g; omega⟩
end
theorem resP_done {E : PinD} (h5 : E.part = 5) (ht : E.taken = false) : resP E = ((E.pn, E.ep, false), true) := by unfold resP; rw [if_pos h5, ht]
theorem resP_not {E : PinD} (h : ¬ (E.part = 5 ∧ E.taken = false)) : (resP E).2 = false ∨ (resP E).1.2.2 = true := by
  unfold resP
  by_cases h5 : E.part = 5
  · rw [if_pos h5]
    refine .inr ?_
    cases ht : E.taken with
    | true => rfl
    | false => exact absurd ⟨h5, ht⟩ h
  · rw [if_neg h5]; exact .inl rfl
/-- A thread's pick. -/
theorem pins_next {a p s q v x : Int} {N n b : Nat} {D : HpD} {G : Nat → Int} {S : Nat → PinD} (h : PinsI a p s q v x N n b D G S) (hr : rightC a p s q v = true) (hn : (n : Int) = sizeW a p s q v) (hb : b ≤ 1000) {k : Nat} (hk : k < N) :
    ∃ D' G' S', PinsI a p s q v x N n b D' G' S' ∧ ((resP (S k)).2 = true ∨ (resP (S' k)).2 = false ∨ (resP (S' k)).1.2.2 = true ∨ (resP (S' k)).1.2.1 = (b : Int)) ∧
      ∀ (W X : World) (B hp : Nat) (rs : Nat → Nat) (g cap : Nat) (ex : List (Nat × Obj)), MnyI PinO W a p s q v x B hp D N rs S g cap ex X →
        Calls Try.prog 17 #[.pointer (some ⟨hp, 0, none⟩), .iface 27 (.pointer (some ⟨rs k, 0, none⟩))] X (fun e Y => ∃ sv bb, e = .returned (.tuple #[sv, .bool bb]) ∧ MnyI PinO W a p s q v x B hp D' N rs S' g cap ex Y) := by
  rcases pins_step h hr hn hb hk with ⟨h1, h2⟩ | ⟨y, w, G', h1, h2, h3, h4, h5, h6⟩
  · refine ⟨D, G, S, h, .inl (by unfold resP; rw [if_pos h2]), fun W X B hp rs g cap ex hM => ?_⟩
    exact (mny_stay hM hk (h.ctl.few (m := 0) (by omega)) h1).mono fun _ _ ⟨sv, e, hY⟩ => ⟨sv, false, e, hY⟩
  · refine ⟨doN D y, G', _, h5, .inr ?_, fun W X B hp rs g cap ex hM => ?_⟩
    · rw [upS_self]
      unfold resP
      by_cases e5 : (takeP (S k) w ⟨#[]⟩).part = 5
      · rw [if_pos e5]
        cases ht : (takeP (S k) w ⟨#[]⟩).taken with
        | true => exact .inr (.inl rfl)
        | false => exact .inr (.inr (h6 e5 ht))
      · rw [if_neg e5]; exact .inl rfl
    · refine (mny_go hM hk (n := 0) (h.ctl.few (by omega)) h1 h2 h3.ready).mono fun _ _ ⟨sv, e, hY⟩ => ⟨sv, true, e, ?_⟩
      rw [h3.word, h3.text] at hY
      exact hY

/-- The first j threads are made. -/
def MakI (W : World) (a p s q v x : Int) (B hp j g c : Nat) (X : World) : Prop :=
  ∃ D G rs S, MnyI PinO W a p s q v x B hp D j rs S g c [] X ∧ PinsI a p s q v x j (sizeW a p s q v).toNat 0 D G S
/-- Between two picks. -/
def HldI (W : World) (a p s q v x : Int) (B hp NT g c : Nat) (rs : Nat → Nat) (i : Nat) (X : World) : Prop :=
  ∃ D G S b, b ≤ i ∧ MnyI PinO W a p s q v x B hp D NT rs S g c [] X ∧ PinsI a p s q v x NT (sizeW a p s q v).toNat b D G S

set_option maxRecDepth 100000 in
set_option maxHeartbeats 8000000 in
theorem pholds_walk (a p s q v x : Int) (th : Nat) (hth : th ≤ 255) (ga : Option Addr) (n c : Nat) (L : List Nat) (W : World)
    (hS : Su W ga L) (hl : L.length = n) (hL : ∀ u ∈ L, u ≤ 255) :
    Calls Try.prog 4 #[cfV a p s q v x, .int .u8 (th : Int), .slice ga n c] W (Says true W) := by
  have X0 := Lib.hid (BoxC.start W a p s q v x)
  obtain ⟨c0, c1, c2, c3, c4, c5⟩ := X0.out.six
  have HRr := Lib.hid (fun X : World => cright_any a p s q v x X)
  by_cases hbad : rightC a p s q v = false ∨ 300 < n
  · clear hS hl hL hth
    go_enter Try.func4, Try.ntmps4
    go_wp2_with fail
    refine (HRr.out _).mono ?_
    rintro en w1 ⟨rfl, hb⟩
    have B1 := Lib.hid (X0.out.lo.trans (hb.mono X0.out.lo.size))
    clear hb c0 c1 c2 c3 c4 c5 X0
    cases hr : rightC a p s q v with
    | false =>
      clear hbad
      go_wp2_with fail
      refine (pawake_any _).mono ?_
      rintro en w2 ⟨rfl, hb⟩
      have B2 := Lib.hid (B1.out.trans (hb.mono B1.out.size))
      clear hb
      go_wp2_with fail
      go_ret
      exact Says.mk rfl B2.out
    | true =>
      have hz : (300 : Int) < (n : Int) := by
        rcases hbad with e | e
        · rw [hr] at e; cases e
        · omega
      clear hbad
      go_wp2_with fail
      refine (pawake_any _).mono ?_
      rintro en w2 ⟨rfl, hb⟩
      have B2 := Lib.hid (B1.out.trans (hb.mono B1.out.size))
      clear hb
      go_wp2_with fail
      go_ret
      exact Says.mk rfl B2.out
  have hr : rightC a p s q v = true := by
    cases h : rightC a p s q v with
    | true => rfl
    | false => exact absurd (.inl h) hbad
  have hz : ¬ (300 : Int) < (n : Int) := fun h => hbad (.inr (by omega))
  have hn300 : (n : Int) ≤ 300 := by omega
  rw [hr] at HRr
  have HFl := Lib.hid (fun X : World => field_any X a p s q v x hr)
  obtain ⟨⟨a1, a32⟩, ⟨p1, p8⟩, s1, s64⟩ := rightC_bd hr
  have hsz : sizeW a p s q v = 3 + p + a + 2 * s := if_pos hr
  have HSz := Lib.hid (show (((sizeW a p s q v).toNat : Nat) : Int) = sizeW a p s q v ∧ 3 + p + 3 ≤ sizeW a p s q v ∧ 1 ≤ p from ⟨by omega, by omega, by omega⟩)
  have HRs := Lib.hid hr
  obtain ⟨NT, hNT⟩ : ∃ NT : Nat, (th : Int) % 8 + 1 = (NT : Int) := ⟨th % 8 + 1, by omega⟩
  have hNT1 : (1 : Int) ≤ (NT : Int) := by omega
  have hNT8 : (NT : Int) ≤ 8 := by omega
  obtain ⟨U, hU⟩ : ∃ U : Nat → Nat, ∀ j (h : j < L.length), U j = L[j] ∧ U j ≤ 255 := ⟨fun j => L.getD j 0, fun j h => ⟨by simp [List.getD_eq_getElem?_getD, List.getElem?_eq_getElem h], by simp [List.getD_eq_getElem?_getD, List.getElem?_eq_getElem h]; exact hL _ (List.getElem_mem h)⟩⟩
  have HU := Lib.hid (fun (X : World) (hX : Below W.heap.size W X) (j : Nat) (hj : j < n) => (by
    obtain ⟨b, o, e, hc⟩ := (hS.grow hX) j (by omega)
    exact ⟨b, o, e, by rw [(hU j (by omega)).1]; exact hc, (hU j (by omega)).2⟩ : ∃ b o, ga = some ⟨b, o, none⟩ ∧ X.cell? ⟨b, o + j, none⟩ = some (.int .u8 ((U j : Nat) : Int)) ∧ U j ≤ 255))
  have hth0 : (0 : Int) ≤ (th : Int) := by omega
  have hth1 : (th : Int) ≤ 255 := by omega
  clear hS hl hL hU hr hbad hsz a1 a32 p1 p8 s1 s64 hth
  go_enter Try.func4, Try.ntmps4
  go_wp2_with fail
  refine (HRr.out _).mono ?_
  rintro en w1 ⟨rfl, hb⟩
  have X1 := Lib.hid (X0.out.below hb)
  clear hb c0 c1 c2 c3 c4 c5 X0
  obtain ⟨c0, c1, c2, c3, c4, c5⟩ := X1.out.six
  go_wp2_with fail
  refine (HFl.out _).mono ?_
  rintro en w2 ⟨B, hp, f2, rfl, hB, h2, hb⟩
  have HR2 := Lib.hid (rnd_begin (X1.out.below hb) h2 (Nat.lt_of_lt_of_le (heap_at_lt X1.out.b) hB))
  clear hb h2 hB c0 c1 c2 c3 c4 c5 X1 HRr HFl
  have HI := Lib.hid (show MakI W a p s q v x B hp 0 w2.heap.size 0 (w2.alloc (.cells #[] 27 (0, 0))) from
    ⟨_, fun _ => 0, fun _ => 0, fun _ => PinD.zero, MnyI.start HR2.out PinO _ _, ⟨Ctl.start _, rfl, fun j hj => absurd hj (Nat.not_lt_zero _), fun i j hi => absurd hi (Nat.not_lt_zero _)⟩⟩)
  go_upto_block 0 with fail
  generalize w2.heap.size = g0 at HI ⊢
  generalize w2.alloc (.cells #[] 27 (0, 0)) = w3 at HI ⊢
  clear HR2
  go_cut [9] (fun s9 wx => ∃ (g c' : Nat), s9 = pslice g NT c' ∧ Hid (MakI W a p s q v x B hp NT g c' wx))
  case first => as_aux_lemma =>
    go_wp2_with fail
    go_loopw [9, 10] (fun s9 s10 wr => ∃ (j g c' : Nat), s9 = pslice g j c' ∧ s10 = .int .i64 (j : Int) ∧ j ≤ NT ∧ Hid (MakI W a p s q v x B hp j g c' wr)) (fun _ s10 _ => NT - (intOf s10).toNat)
    case atStart => exact ⟨0, g0, 0, rfl, rfl, Nat.zero_le _, HI⟩
    case round => as_aux_lemma =>
      clear HI
      obtain ⟨j, g, c', rfl, rfl, hjN, HI⟩ := hrel
      have hj0 : (0 : Int) ≤ (j : Int) := by omega
      by_cases hlt : j < NT
      · have hltz : (j : Int) < (NT : Int) := by omega
        obtain ⟨D, G, rs, S, hM, hP⟩ := HI.out
        have HM := Lib.hid hM
        have HP := Lib.hid hP
        obtain ⟨c0, c1, c2, c3, c4, c5⟩ := hM.six
        have HNw := Lib.hid (mny_new hM (hP.ctl.few (by omega)) HRs.out hj0)
        have HMo := Lib.hid (hP.more HRs.out (j : Int))
        obtain ⟨E, hE⟩ : ∃ E, newP a p s q v x (j : Int) = E := ⟨_, rfl⟩
        have HFt := Lib.hid (show E.fits from by rw [← hE]; exact newP_fits HRs.out x _)
        rw [hE] at HNw HMo
        clear hM hP HI hE
        go_wp2_with fail
        refine HNw.out.mono ?_
        rintro en w4 ⟨r, rfl, hBr, h4⟩
        have A2 := Lib.hid (h4.below (below_alloc w4 (.cells #[.pointer (some ⟨r, 0, none⟩)] 27)))
        have HBr := Lib.hid hBr
        obtain ⟨i0, gi, gz0, gz1, gz2⟩ := info_parts info_pin
        have hE1 : j + 1 ≤ maxLen := by unfold maxLen; omega
        have hE2 : (j + 1) * 8 ≤ 140737488355328 := by omega
        clear h4 hBr HNw c0 c1 c2 c3 c4 c5
        go_wp2_with (at_builtin; refine wpList_append_lot _ rfl _ _ 50 rfl 27 i0 _ 1 8 Try.underlying50 gi gz0 gz1 gz2 rfl (pslice g j c') j _ rfl A2.out.lot ⟨w4.heap.size, 0, none⟩ 1 1 [.pointer (some ⟨r, 0, none⟩)] rfl rfl (cell_one_new _ _ _) (by simp [Value.oneCell']) (by omega) hE1 hE2 _ rfl ?_; intro g4 cap4 w5 hL4 hg4 hat4; have A4 := Lib.hid (A2.out.grow HBr.out HFt.out hL4 hg4 hat4); clear hL4 hg4 hat4 A2)
        have HI4 := Lib.hid (show MakI W a p s q v x B hp (j + 1) g4 cap4 w5 from ⟨D, G, _, _, A4.out, HMo.out⟩)
        clear A4 HMo
        go_roundw
        case rel => exact ⟨j + 1, g4, cap4, rfl, by go_num, hlt, HI4⟩
        case measure => simp [intOf]; omega
      · obtain rfl : NT = j := by omega
        have hltz : ¬ (NT : Int) < (NT : Int) := by omega
        go_wp2_with fail
        go_meet
        case rel => exact ⟨g, c', rfl, HI⟩
  case rest => as_aux_lemma =>
    clear HI
    obtain ⟨g, c', rfl, HI⟩ := hcut
    obtain ⟨D0, G0, rs, S0, hM0, hP0⟩ := HI.out
    have HI0 := Lib.hid (show HldI W a p s q v x B hp NT g c' rs 0 wc from ⟨D0, G0, S0, 0, Nat.le_refl _, hM0, hP0⟩)
    clear hM0 hP0 HI
    go_wp2_with fail
    go_loopw [11] (fun s11 wr => ∃ i : Nat, s11 = .int .i64 (i : Int) ∧ i ≤ n ∧ Hid (HldI W a p s q v x B hp NT g c' rs i wr)) (fun s11 _ => n - (intOf s11).toNat)
    case atStart => exact ⟨0, rfl, Nat.zero_le _, HI0⟩
    case round => as_aux_lemma =>
      clear HI0
      obtain ⟨i, rfl, hin, HI⟩ := hrel
      have hi0 : (0 : Int) ≤ (i : Int) := by omega
      obtain ⟨D, G, S, b, hbi, hM, hP⟩ := HI.out
      have HM := Lib.hid hM
      have HP := Lib.hid hP
      have hb300 : b ≤ 300 := by omega
      by_cases hlt : i < n
      · have hltz : (i : Int) < (n : Int) := by omega
        obtain ⟨ub, uo, hga, hcu, hu255⟩ := HU.out wr hM.lo i hlt
        subst hga
        obtain ⟨u, hu⟩ : ∃ u, U i = u := ⟨_, rfl⟩
        rw [hu] at hcu hu255
        obtain ⟨k, hk⟩ : ∃ k : Nat, (u : Int) % ((NT : Int) + 1) = (k : Int) := ⟨((u : Int) % ((NT : Int) + 1)).toNat, by have := Int.emod_nonneg (u : Int) (show (NT : Int) + 1 ≠ 0 by omega); omega⟩
        have hkN : (k : Int) < (NT : Int) + 1 := by rw [← hk]; exact Int.emod_lt_of_pos _ (by omega)
        have htm : Int.tmod (u : Int) ((NT : Int) + 1) = (k : Int) := by rw [tmod_of (by omega)]; exact hk
        have hwk : IntKind.i64.wrap (k : Int) = (k : Int) := awrap (by omega)
        have hwN : IntKind.i64.wrap ((NT : Int) + 1) = (NT : Int) + 1 := awrap (by omega)
        have hN0 : ¬ ((NT : Int) + 1 = 0) := by omega
        have hu0 : (0 : Int) ≤ (u : Int) := by omega
        have hu1 : (u : Int) ≤ 255 := by omega
        have hk0 : (0 : Int) ≤ (k : Int) := by omega
        clear hk hu hu255 HI hM hP
        by_cases hkn : k = NT
        · subst hkn
          obtain ⟨w, hD, hP2⟩ := pins_bump HP.out HRs.out HSz.out.1 (by omega)
          have HDo := Lib.hid (show Calls Try.prog 15 #[.pointer (some ⟨hp, 0, none⟩), .agg #[.int .i64 4, .int .u64 1, .int .i64 0, .int .u64 0, .int .u64 1, .string ⟨#[]⟩]] wr (fun e Y => e = .returned (gotV w ⟨#[]⟩) ∧ MnyI PinO W a p s q v x B hp (doN D (actB 1 0 1)) k rs S g c' [] Y) from
            mny_does HM.out HP.out.ctl (y := actB 1 0 1) (by have he := empty_size; unfold ActD.fits actB; simp only; omega) hD)
          have HP2 := Lib.hid hP2
          clear hD hP2
          go_wp2_with fail
          refine HDo.out.mono ?_
          rintro en w4 ⟨rfl, h4⟩
          have HI4 := Lib.hid (show HldI W a p s q v x B hp k g c' rs (i + 1) w4 from ⟨_, _, S, b + 1, by omega, h4, HP2.out⟩)
          clear h4 HDo
          go_wp2_with fail
          go_roundw
          case rel => exact ⟨i + 1, by go_num, hlt, HI4⟩
          case measure => simp [intOf]; omega
        · have hkl : k < NT := by omega
          have hklz : (k : Int) < (NT : Int) := by omega
          have hknb : ((k : Int) == (NT : Int)) = false := by simp; omega
          obtain ⟨D', G', S', hP', hchk, hNx⟩ := pins_next HP.out HRs.out HSz.out.1 (by omega) hkl
          have HP' := Lib.hid hP'
          have HNx := Lib.hid (fun (X : World) (ex : List (Nat × Obj)) (hX : MnyI PinO W a p s q v x B hp D NT rs S g c' ex X) => hNx W X B hp rs g c' ex hX)
          have HR0 := Lib.hid (mny_res HM.out hkl)
          have HR1 := Lib.hid (fun (X : World) (ex : List (Nat × Obj)) (hX : MnyI PinO W a p s q v x B hp D' NT rs S' g c' ex X) => mny_res hX hkl)
          obtain ⟨⟨⟨n0, e0, t0⟩, w0⟩, hr0⟩ : ∃ r, resP (S k) = r := ⟨_, rfl⟩
          obtain ⟨⟨⟨n1, e1, t1⟩, i1⟩, hr1⟩ : ∃ r, resP (S' k) = r := ⟨_, rfl⟩
          rw [hr0, hr1] at hchk
          rw [hr0] at HR0
          rw [hr1] at HR1
          simp only at HR0 HR1 hchk
          have HLd := Lib.hid (fun (X : World) (ex : List (Nat × Obj)) (hX : MnyI PinO W a p s q v x B hp D NT rs S g c' ex X) => (by
            have h := mny_cload hX HP.out.ctl (c := 0) (by have := HSz.out; omega)
            rw [HP.out.epoch] at h
            exact h : Calls Try.prog 16 #[.pointer (some ⟨hp, 0, none⟩), .int .u64 1, .int .i64 0] X (fun e Y => e = .returned (TwoV (b : Int) 0) ∧ MnyI PinO W a p s q v x B hp D NT rs S g c' ex Y)))
          have hck := HM.out.cell hkl
          clear hP' hNx hr0 hr1
          go_wp2_with fail
          refine HR0.out.mono ?_
          rintro en w4 ⟨rfl, h4⟩
          have M4 := Lib.hid (h4.add (pndO n0 e0 t0))
          clear h4 HR0 hck hcu
          go_wp2_with fail
          refine (HLd.out _ _ M4.out).mono ?_
          rintro en w5 ⟨rfl, h5⟩
          have M5 := Lib.hid h5
          have hck := h5.cell hkl
          clear h5 M4 HLd
          go_wp2_with fail
          refine (HNx.out _ _ M5.out).mono ?_
          rintro en w6 ⟨sv, bb, rfl, h6⟩
          have M6 := Lib.hid h6
          clear hck
          have hck := h6.cell hkl
          clear h6 M5 HNx
          go_wp2_with fail
          refine (HR1.out _ _ M6.out).mono ?_
          rintro en w7 ⟨rfl, h7⟩
          have M7 := Lib.hid (h7.add (pndO n1 e1 t1))
          clear h7 M6 HR1 hck
          obtain ⟨v0, v1, v2⟩ := pnd_at (M7.out.kept (List.mem_cons_self ..))
          go_upto_region 20 with fail
          go_cut [117] (fun s117 wx => s117 = .bool false ∧ Hid (MnyI PinO W a p s q v x B hp D' NT rs S' g c' [] wx))
          case first => as_aux_lemma =>
            have HM7 := Lib.hid (M7.out.few (ex' := []) (fun u hu => by cases hu))
            rcases hchk with e | e | e | e
            · subst e
              clear M7
              cases i1
              all_goals
                go_wp2_with fail
                go_meet
                case rel => exact ⟨rfl, HM7⟩
            · subst e
              clear M7
              go_wp2_with fail
              go_meet
              case rel => exact ⟨rfl, HM7⟩
            · subst e
              clear M7
              cases i1
              all_goals cases w0
              all_goals
                go_wp2_with fail
                go_meet
                case rel => exact ⟨rfl, HM7⟩
            · subst e
              clear M7
              cases i1
              all_goals cases w0
              all_goals cases t1
              all_goals
                go_wp2_with fail
                go_meet
                case rel => exact ⟨rfl, HM7⟩
          case rest => as_aux_lemma =>
            obtain ⟨rfl, HM7⟩ := hcut
            clear M7 v0 v1 v2 hchk HM HP
            go_wp2_with fail
            go_loopw [19] (fun s19 wi => ∃ aa : Nat, s19 = .int .i64 (aa : Int) ∧ aa ≤ NT ∧ Hid (MnyI PinO W a p s q v x B hp D' NT rs S' g c' [] wi)) (fun s19 _ => NT - (intOf s19).toNat)
            case atStart => exact ⟨0, rfl, Nat.zero_le _, HM7⟩
            case round => as_aux_lemma =>
              clear HM7
              obtain ⟨aa, rfl, haN, HM⟩ := hrel
              have ha0 : (0 : Int) ≤ (aa : Int) := by omega
              by_cases halt : aa < NT
              · have haltz : (aa : Int) < (NT : Int) := by omega
                have hca := HM.out.cell halt
                have HRa := Lib.hid (mny_res HM.out halt)
                by_cases hdone : (S' aa).part = 5 ∧ (S' aa).taken = false
                · have hOk := HP'.out.one aa halt
                  have hG5 := hOk.five hdone.1 hdone.2
                  have hcell : pinW a p s q v (S' aa).pn = ((3 + (S' aa).pn).toNat : Int) := by
                    have h := hOk.cell
                    obtain ⟨f1, f2, f3, f4, f5, f6⟩ := hOk.cfg
                    unfold PinD.cell at h
                    rw [f1, f2, f3, f4, f5] at h
                    exact h
                  have hpin := hOk.pin
                  have hepb := hOk.ep
                  have HTw := Lib.hid (fun (bb : Nat) (hb : bb < aa) (h5 : (S' bb).part = 5 ∧ (S' bb).taken = false) => HP'.out.two bb aa (by omega) halt (by omega) (.inr (.inr h5)) (.inr (.inr hdone)))
                  rw [resP_done hdone.1 hdone.2] at HRa
                  obtain ⟨pn, hpn⟩ : ∃ z, (S' aa).pn = z := ⟨_, rfl⟩
                  obtain ⟨ep, hep⟩ : ∃ z, (S' aa).ep = z := ⟨_, rfl⟩
                  obtain ⟨cc, hcc⟩ : ∃ cc, (3 + pn).toNat = cc := ⟨_, rfl⟩
                  obtain ⟨eu, heu⟩ : ∃ z, ep + 1 = z := ⟨_, rfl⟩
                  rw [hpn, hep] at HRa
                  rw [hpn] at hG5 hcell hpin HTw
                  rw [hep] at hG5 hepb
                  rw [hcc] at hG5 hcell
                  rw [heu] at hG5
                  have hwu : IntKind.u64.wrap (ep + 1) = eu := by
                    rw [← heu]
                    exact upE_small (b := b) hepb (by omega)
                  have HPi := Lib.hid (fun (X : World) (ex : List (Nat × Obj)) (hX : MnyI PinO W a p s q v x B hp D' NT rs S' g c' ex X) => (by have h := mny_pin hX pn; rw [hcell] at h; exact h :
                    Calls Try.prog 18 #[cfV a p s q v x, .int .i64 pn] X (fun e Y => e = .returned (.int .i64 (cc : Int)) ∧ MnyI PinO W a p s q v x B hp D' NT rs S' g c' ex Y)))
                  have HLc := Lib.hid (fun (X : World) (ex : List (Nat × Obj)) (hX : MnyI PinO W a p s q v x B hp D' NT rs S' g c' ex X) => (by have h := mny_cload hX HP'.out.ctl (c := cc) (by have := HSz.out; omega); rw [hG5] at h; exact h :
                    Calls Try.prog 16 #[.pointer (some ⟨hp, 0, none⟩), .int .u64 1, .int .i64 (cc : Int)] X (fun e Y => e = .returned (TwoV eu 0) ∧ MnyI PinO W a p s q v x B hp D' NT rs S' g c' ex Y)))
                  clear hdone hOk hG5 hcell hpin hepb hpn hep hcc heu
                  go_wp2_with fail
                  refine HRa.out.mono ?_
                  rintro en w8 ⟨rfl, h8⟩
                  have M8 := Lib.hid (h8.add (pndO pn ep false))
                  clear h8 HRa hca HM
                  obtain ⟨v0, v1, v2⟩ := pnd_at (M8.out.kept (List.mem_cons_self ..))
                  obtain ⟨c0, c1, c2, c3, c4, c5⟩ := M8.out.six
                  go_wp2_with fail
                  refine (HPi.out _ _ M8.out).mono ?_
                  rintro en w9 ⟨rfl, h9⟩
                  obtain ⟨gq, hgq⟩ : ∃ z, w8.heap.size = z := ⟨_, rfl⟩
                  rw [hgq] at h9 ⊢
                  have M9 := Lib.hid h9
                  clear h9 M8 HPi v0 v1 v2 c0 c1 c2 c3 c4 c5 hgq
                  go_wp2_with fail
                  refine (HLc.out _ _ M9.out).mono ?_
                  rintro en w10 ⟨rfl, h10⟩
                  have M10 := Lib.hid h10
                  clear h10 M9 HLc
                  obtain ⟨v0, v1, v2⟩ := pnd_at (M10.out.kept (List.mem_cons_self ..))
                  go_wp2_with fail
                  clear v0 v1 v2
                  go_loopw [24] (fun s24 wj => ∃ bb : Nat, s24 = .int .i64 (bb : Int) ∧ bb ≤ aa ∧ Hid (MnyI PinO W a p s q v x B hp D' NT rs S' g c' [(gq, pndO pn ep false)] wj)) (fun s24 _ => aa - (intOf s24).toNat)
                  case atStart => exact ⟨0, rfl, Nat.zero_le _, M10⟩
                  case round => as_aux_lemma =>
                    clear M10
                    obtain ⟨bb, rfl, hba, HM⟩ := hrel
                    have hb0 : (0 : Int) ≤ (bb : Int) := by omega
                    by_cases hblt : bb < aa
                    · have hbltz : (bb : Int) < (aa : Int) := by omega
                      have hbNz : (bb : Int) < (NT : Int) := by omega
                      have hcb := HM.out.cell (show bb < NT by omega)
                      have HRb := Lib.hid (mny_res HM.out (show bb < NT by omega))
                      have hcs : (resP (S' bb)).2 = false ∨ (resP (S' bb)).1.2.2 = true ∨ (resP (S' bb)).1.1 ≠ pn := by
                        by_cases hd : (S' bb).part = 5 ∧ (S' bb).taken = false
                        · rw [resP_done hd.1 hd.2]
                          exact .inr (.inr (HTw.out bb hblt hd))
                        · exact (resP_not hd).imp id .inl
                      obtain ⟨⟨⟨n2, e2, t2⟩, h2⟩, hr2⟩ : ∃ r, resP (S' bb) = r := ⟨_, rfl⟩
                      rw [hr2] at hcs HRb
                      simp only at hcs HRb
                      clear hr2
                      go_wp2_with fail
                      refine HRb.out.mono ?_
                      rintro en w11 ⟨rfl, h11⟩
                      have M11 := Lib.hid (h11.add (pndO n2 e2 t2))
                      have HMn := Lib.hid (M11.out.few (ex' := [(gq, pndO pn ep false)]) (fun u hu => List.mem_cons_of_mem _ hu))
                      clear h11 HRb hcb HM
                      obtain ⟨v0, v1, v2⟩ := pnd_at (M11.out.kept (List.mem_cons_self ..))
                      obtain ⟨y0, y1, y2⟩ := pnd_at (M11.out.kept (List.mem_cons_of_mem _ (List.mem_cons_self ..)))
                      rcases hcs with e | e | e
                      · subst e
                        go_wp2_with fail
                        go_roundw
                        case rel => exact ⟨bb + 1, by go_num, hblt, HMn⟩
                        case measure => simp [intOf]; omega
                      · subst e
                        cases h2
                        all_goals
                          go_wp2_with fail
                          go_roundw
                          case rel => exact ⟨bb + 1, by go_num, hblt, HMn⟩
                          case measure => simp [intOf]; omega
                      · have hnb : (n2 == pn) = false := by simpa using e
                        clear e
                        cases h2
                        all_goals cases t2
                        all_goals
                          go_wp2_with fail
                          go_roundw
                          case rel => exact ⟨bb + 1, by go_num, hblt, HMn⟩
                          case measure => simp [intOf]; omega
                    · have hbltz : ¬ (bb : Int) < (aa : Int) := by omega
                      have HMn := Lib.hid (HM.out.few (ex' := []) (fun u hu => by cases hu))
                      clear HM
                      go_wp2_with fail
                      go_roundw
                      case rel => exact ⟨aa + 1, by go_num, halt, HMn⟩
                      case measure => simp [intOf]; omega
                · have hcs := resP_not hdone
                  obtain ⟨⟨⟨n2, e2, t2⟩, h2⟩, hr2⟩ : ∃ r, resP (S' aa) = r := ⟨_, rfl⟩
                  rw [hr2] at hcs HRa
                  simp only at hcs HRa
                  clear hr2 hdone
                  go_wp2_with fail
                  refine HRa.out.mono ?_
                  rintro en w8 ⟨rfl, h8⟩
                  have M8 := Lib.hid (h8.add (pndO n2 e2 t2))
                  have HMn := Lib.hid (M8.out.few (ex' := []) (fun u hu => by cases hu))
                  clear h8 HRa hca HM
                  obtain ⟨v0, v1, v2⟩ := pnd_at (M8.out.kept (List.mem_cons_self ..))
                  rcases hcs with e | e
                  · subst e
                    go_wp2_with fail
                    go_roundw
                    case rel => exact ⟨aa + 1, by go_num, halt, HMn⟩
                    case measure => simp [intOf]; omega
                  · subst e
                    cases h2
                    all_goals
                      go_wp2_with fail
                      go_roundw
                      case rel => exact ⟨aa + 1, by go_num, halt, HMn⟩
                      case measure => simp [intOf]; omega
              · have haltz : ¬ (aa : Int) < (NT : Int) := by omega
                have HI8 := Lib.hid (show HldI W a p s q v x B hp NT g c' rs (i + 1) wr from ⟨D', G', S', b, by omega, HM.out, HP'.out⟩)
                clear HM
                go_wp2_with fail
                go_roundw
                case rel => exact ⟨i + 1, by go_num, hlt, HI8⟩
                case measure => simp [intOf]; omega
      · have hltz : ¬ (i : Int) < (n : Int) := by omega
        obtain ⟨o, hR⟩ := HM.out.rnd
        have HFa := Lib.hid (by have := rnd_faults hR; rw [HP.out.ctl.faults] at this; exact this : Calls Try.prog 19 #[.pointer (some ⟨hp, 0, none⟩)] wr fun e Y => e = .returned (.int .i64 ((0 : Nat) : Int)) ∧ wr = Y)
        have HLo := Lib.hid HM.out.lo
        clear hR hM hP HI
        go_wp2_with fail
        refine HFa.out.mono ?_
        rintro en w9 ⟨rfl, rfl⟩
        go_wp2_with fail
        refine (pawake_any _).mono ?_
        rintro en w10 ⟨rfl, hb⟩
        have B10 := Lib.hid (HLo.out.trans (hb.mono HLo.out.size))
        clear hb
        go_wp2_with fail
        go_ret
        exact Says.mk rfl B10.out

end Go.Proofs.Ytgigjbngocfkbaa
