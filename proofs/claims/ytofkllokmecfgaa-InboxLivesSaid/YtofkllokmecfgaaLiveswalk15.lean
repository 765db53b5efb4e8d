/-
  The walk through InboxLives.
-/
import Derived.Test.YtofkllokmecfgaaLivest15
namespace Go.Proofs.Ytofkllokmecfgaa
open Go Go.RowKit
attribute [local go_sem ↓] Go.wp_at_zero Go.wp_at_succ

/-- Between two rounds. -/
def LvR (B p r pm : Nat) (W X : World) : Prop := ∃ ov L q n c f, LvI B p r pm W ov L q n c f X

theorem lenq_any (B p most : Nat) (ov : Bool) (L : List ChD) (f : Nat → Prop) (W : World) (h : Boxp W B p most ov L f) (c : Nat) (hc : L.length = c) :
    Calls Try.prog 15 #[.pointer (some ⟨p, 0, none⟩)] W fun e W' => e = .returned (.int .i64 c) ∧ W' = W := by
  subst hc
  exact (len_any B p most ov L f W h).mono fun _ _ ⟨h1, h2⟩ => ⟨h1, h2.symm⟩
theorem overq_any (B p most : Nat) (ov : Bool) (L : List ChD) (f : Nat → Prop) (W : World) (h : Boxp W B p most ov L f) :
    Calls Try.prog 16 #[.pointer (some ⟨p, 0, none⟩)] W fun e W' => e = .returned (.bool ov) ∧ W' = W :=
  (over_any B p most ov L f W h).mono fun _ _ ⟨h1, h2⟩ => ⟨h1, h2.symm⟩

set_option maxRecDepth 100000 in
set_option maxHeartbeats 8000000 in
theorem lives_walk (m : Int) (pl : Option Addr) (nl cl : Nat) (O : List BD) (W : World) (hS : Sb W pl O) (hl : O.length = nl) (hfit : ∀ o ∈ O, o.fits) (hnm : nl ≤ 9223372036854775807) :
    Calls Try.prog 3 #[.int .i64 m, .slice pl nl cl] W (Says true W) := by
  by_cases hbig : 300 < nl
  · have hz : (300 : Int) < (nl : Int) := by omega
    clear hS hl hfit
    go_enter Try.func3, Try.ntmps3
    go_wp2_with fail
    refine (awake_any _).mono ?_
    rintro en w1 ⟨rfl, hb⟩
    have HB := Lib.hid hb
    clear hb
    go_wp2_with fail
    go_ret
    exact Says.mk rfl HB.out
  have hz : ¬ (300 : Int) < (nl : Int) := by omega
  obtain ⟨r, hr⟩ : ∃ r, clampD m = r := ⟨_, rfl⟩
  have h64 : r ≤ 64 := by rw [← hr]; unfold clampD; omega
  have HO := Lib.hid (fun X (hX : Below W.heap.size W X) => hS.grow hX)
  have HN := Lib.hid hl
  have HFit := Lib.hid hfit
  clear hS hl hfit
  go_enter Try.func3, Try.ntmps3
  go_wp2_with fail
  refine (new_any m _).mono ?_
  rintro en w1 ⟨p, f1, rfl, h1, hb1⟩
  rw [hr] at h1
  have H1 := Lib.hid h1
  have HB1 := Lib.hid hb1
  clear h1 hb1
  go_wp2_with fail
  refine (refnew_any m _).mono ?_
  rintro en w2 ⟨rfl, hb2⟩
  rw [hr]
  have HI := Lib.hid (show LvR W.heap.size p r w2.heap.size W _ from ⟨_, _, _, _, _, _, LvI.start H1.out HB1.out hb2⟩)
  clear hb2 hr H1 HB1
  go_wp2_with fail
  obtain ⟨pm, hpm⟩ : ∃ pm, w2.heap.size = pm := ⟨_, rfl⟩
  rw [hpm] at HI ⊢
  clear hpm
  go_loopw [7] (fun i wr => ∃ (k : Nat), i = .int .i64 k ∧ k ≤ nl ∧ Hid (LvR W.heap.size p r pm W wr)) (fun i _ => nl - (intOf i).toNat)
  case atStart => exact ⟨0, rfl, Nat.zero_le _, HI⟩
  case round =>
    clear HI
    obtain ⟨k, rfl, hkn, hI⟩ := hrel
    obtain ⟨ov, L, q, n, c, f, hI⟩ := hI.out
    have HI := Lib.hid hI
    clear hI
    by_cases hlt : k < nl
    · have hkO : k < O.length := by rw [HN.out]; exact hlt
      have hltz : (k : Int) < (nl : Int) := by omega
      have h0 : (0 : Int) ≤ (k : Int) := by omega
      obtain ⟨ab, ao, rfl, e1, e2, e3, e4, e5⟩ := HO.out _ HI.out.low k hkO
      have hfit := HFit.out _ (List.getElem_mem hkO)
      obtain ⟨⟨kd, tn, ⟨ck, ch, cv⟩⟩, hy⟩ : ∃ y, O[k] = y := ⟨_, rfl⟩
      rw [hy] at e1 e2 e3 e4 e5 hfit
      simp only at e1 e2 e3 e4 e5
      have HFc := Lib.hid (show (⟨ck, ch, cv⟩ : ChD).fits from hfit.2.2.2.2)
      clear hy hkO hfit
      have HI1 := Lib.hid (HI.out.below (below_alloc wr (.cells #[.int .i64 kd, .int .i64 tn, .string ck, .bool ch, .string cv] 33)))
      have hk8 := World.alloc_heap_new wr (.cells #[.int .i64 kd, .int .i64 tn, .string ck, .bool ch, .string cv] 33)
      have HF8 := Lib.hid (HI.out.free (Nat.le_refl _))
      have H8 := Lib.hid (show ∀ X : World, X.heap[wr.heap.size]? = some (.cells #[.int .i64 kd, .int .i64 tn, .string ck, .bool ch, .string cv] 33 (0, 0)) → X.cell? ⟨wr.heap.size, 0, none⟩ = some (.int .i64 kd) ∧ X.cell? ⟨wr.heap.size, 1, none⟩ = some (.int .i64 tn) ∧ X.cell? ⟨wr.heap.size, 2, none⟩ = some (.string ck) ∧ X.cell? ⟨wr.heap.size, 3, none⟩ = some (.bool ch) ∧ X.cell? ⟨wr.heap.size, 4, none⟩ = some (.string cv) from fun X e =>
        ⟨(cell_of e).trans rfl, (cell_of e).trans rfl, (cell_of e).trans rfl, (cell_of e).trans rfl, (cell_of e).trans rfl⟩)
      have HK8 := Lib.hid hk8
      obtain ⟨m0, m1, m2, _, _, _⟩ := HI1.out.mod.cells
      clear hk8
      by_cases hk0 : kd = 0
      · subst hk0
        go_wp2_with fail
        clear m0 m1 m2 e1 e2 e3 e4 e5
        obtain ⟨X1, hX1⟩ : ∃ X, wr.alloc (.cells #[.int .i64 0, .int .i64 tn, .string ck, .bool ch, .string cv] 33) = X := ⟨_, rfl⟩
        rw [hX1] at HI1 HK8 ⊢
        clear hX1
        have hn1 := HI1.out.mod.len
        have hlb := HI1.out.box.len
        obtain ⟨fu, hfu⟩ : ∃ fu, fullD r ov L = fu := ⟨_, rfl⟩
        obtain ⟨L', hL'⟩ : ∃ L', pushD r ov L ⟨ck, ch, cv⟩ = L' := ⟨_, rfl⟩
        have HFu := Lib.hid hfu
        have HL' := Lib.hid hL'
        refine (refpush_any r q n c ov L ⟨ck, ch, cv⟩ _ HI1.out.mod.row.sc hn1 (by omega) (by omega)).mono ?_
        rintro en w3 ⟨q', n', c', hfr, rfl, hsc, hnn, hb⟩
        rw [hfu]
        rw [hL'] at hfr hsc hnn
        have HI3 := Lib.hid (HI1.out.below hb)
        have HR3 := Lib.hid (show RL pm q' L' f w3 from by
          rcases hfr with ⟨rfl, rfl⟩ | hfr
          · exact HI3.out.mod.row
          · exact RL.mk' hsc HI1.out.box.lt HI1.out.mod.plt (fun _ => hfr))
        have HI4 := Lib.hid (HI3.out.below (below_alloc w3 (.cells #[.int .i64 r, .slice q' n' c', .bool fu] 28)))
        have HR4 := Lib.hid (HR3.out.below (below_alloc w3 (.cells #[.int .i64 r, .slice q' n' c', .bool fu] 28)))
        have HK9 := Lib.hid (World.alloc_heap_new w3 (.cells #[.int .i64 r, .slice q' n' c', .bool fu] 28))
        have HF9 := Lib.hid (HI3.out.free (Nat.le_refl _))
        have HK8b := Lib.hid (show (w3.alloc (.cells #[.int .i64 r, .slice q' n' c', .bool fu] 28)).heap[wr.heap.size]? = _ from (Below.heap_alloc _ _ _ (Nat.lt_of_lt_of_le (Array.getElem?_eq_some_iff.1 HK8.out).1 hb.size)).trans ((hb.block _ (Array.getElem?_eq_some_iff.1 HK8.out).1).trans HK8.out))
        have HNn := Lib.hid hnn
        obtain ⟨_, _, t2, t3, t4⟩ := H8.out _ HK8b.out
        have HT := Lib.hid (fun w5 f5 (h5 : Boxp w5 W.heap.size p r fu L' f5) (s5 : Step f f5 (w3.alloc (.cells #[.int .i64 r, .slice q' n' c', .bool fu] 28)) w5) => And.intro (HI4.out.turn (c' := c') h5 s5 HR4.out HNn.out) (And.intro (other_keeps HK8b.out HF8.out.1 HF8.out.2 s5 (.int .i64 r) (.slice q' n' c') (.bool fu)) (And.intro (other_keeps HK9.out HF9.out.1 HF9.out.2 s5 (.int .i64 r) (.slice q' n' c') (.bool fu)) (show ∃ Z : World, ((w5.setCell ⟨pm, 0, none⟩ (.int .i64 r)).setCell ⟨pm, 1, none⟩ (.slice q' n' c')).setCell ⟨pm, 2, none⟩ (.bool fu) = Z from ⟨_, rfl⟩))))
        clear hfu hL' hfr hsc hnn hb hn1 hlb HK8 HI1
        cases fu
        all_goals
          go_wp2_with fail
          refine (push_is W.heap.size p r ov L f ⟨ck, ch, cv⟩ _ HI4.out.box HFc.out _ L' HFu.out HL'.out).mono ?_
          rintro en w5 ⟨rfl, f5, h5, s5⟩
          obtain ⟨⟨⟨g0, g1, g2, g3, g4, g5⟩, hZ⟩, ⟨b8, b8z⟩, ⟨b9, _⟩, hZe⟩ := HT.out w5 f5 h5 s5
          have HZe := Lib.hid hZe
          clear hZe
          have x0 := (cell_of (i := 0) b9).trans rfl
          have x1 := (cell_of (i := 1) b9).trans rfl
          have x2 := (cell_of (i := 2) b9).trans rfl
          have HZ := Lib.hid hZ
          have HB8 := Lib.hid b8z
          obtain ⟨y0, _, _, _, _⟩ := H8.out _ HB8.out
          obtain ⟨d0, d1, d2, _, _, _⟩ := HZ.out.mod.cells
          clear h5 s5 hZ b8 b8z b9 t2 t3 t4
          go_wp2_with fail
          obtain ⟨Z, hZe⟩ := HZe.out
          rw [hZe] at HZ d0 d1 d2 ⊢
          clear hZe HZe HB8 y0 g0 g1 g2 g3 g4 g5 x0 x1 x2 HT HK8b HK9
          have HLq := Lib.hid (fun j => lenq_any W.heap.size p r _ L' f5 (Z.drewN j) (HZ.out.below (below_draws Z j)).box n' HNn.out)
          have HVq := Lib.hid (fun j => overq_any W.heap.size p r _ L' f5 (Z.drewN j) (HZ.out.below (below_draws Z j)).box)
          have HZR := Lib.hid (fun j => (show LvR W.heap.size p r pm W (Z.drewN j) from ⟨_, _, _, _, _, _, HZ.out.below (below_draws Z j)⟩))
          go_quiet (first | exact Calls.quiet_of_same (HLq.out _) | exact Calls.quiet_of_same (HVq.out _))
          go_wp2
          go_roundw
          case rel => exact ⟨k + 1, by go_num, by omega, Lib.hid (HZR.out _)⟩
          case measure => simp [intOf]; omega
      · have hkz0 : (kd == 0) = false := by rw [beq_eq_false_iff_ne]; exact hk0
        by_cases hk1 : kd = 1
        · subst hk1
          by_cases hgone : L = [] ∧ ov = true
          · obtain ⟨rfl, rfl⟩ := hgone
            obtain rfl : n = 0 := HI.out.mod.len.symm
            go_wp2_with fail
            clear m0 m1 m2 e1 e2 e3 e4 e5
            obtain ⟨X1, hX1⟩ : ∃ X, wr.alloc (.cells #[.int .i64 1, .int .i64 tn, .string ck, .bool ch, .string cv] 33) = X := ⟨_, rfl⟩
            rw [hX1] at HI1 HK8 ⊢
            clear hX1
            refine (reftake_gone r q c tn X1).mono ?_
            rintro en w3 ⟨rfl, hb⟩
            have HI3 := Lib.hid (HI1.out.below hb)
            have HI4 := Lib.hid (HI3.out.below (below_alloc w3 (.cells #[.int .i64 r, .slice q 0 c, .bool true] 28)))
            have HK9 := Lib.hid (World.alloc_heap_new w3 (.cells #[.int .i64 r, .slice q 0 c, .bool true] 28))
            have HF9 := Lib.hid (HI3.out.free (Nat.le_refl _))
            have HK8b := Lib.hid (show (w3.alloc (.cells #[.int .i64 r, .slice q 0 c, .bool true] 28)).heap[wr.heap.size]? = _ from (Below.heap_alloc _ _ _ (Nat.lt_of_lt_of_le (Array.getElem?_eq_some_iff.1 HK8.out).1 hb.size)).trans ((hb.block _ (Array.getElem?_eq_some_iff.1 HK8.out).1).trans HK8.out))
            obtain ⟨_, t1, _, _, _⟩ := H8.out _ HK8b.out
            clear hb HK8 HI1
            go_wp2_with fail
            refine (take_gone W.heap.size p r tn f _ HI4.out.box).mono ?_
            rintro en w5 ⟨rfl, rfl⟩
            clear t1
            go_wp2_with fail
            refine (sameC_yes none none 0 0 0 [] _ (Sc.nil _ _) (Sc.nil _ _) rfl (by omega)).mono ?_
            rintro en w6 ⟨rfl, hb6⟩
            obtain ⟨⟨g0, g1, g2, g3, g4, g5⟩, hZ⟩ := HI4.out.turn (c' := c) (HI4.out.box.below hb6) (Step.of_below hb6) HI4.out.mod.row (show ([] : List ChD).length = 0 from rfl)
            obtain ⟨b8, b8z⟩ := other_keeps HK8b.out HF8.out.1 HF8.out.2 (Step.of_below hb6) (.int .i64 r) (.slice q 0 c) (.bool true)
            obtain ⟨b9, _⟩ := other_keeps HK9.out HF9.out.1 HF9.out.2 (Step.of_below hb6) (.int .i64 r) (.slice q 0 c) (.bool true)
            have x0 := (cell_of (i := 0) b9).trans rfl
            have x1 := (cell_of (i := 1) b9).trans rfl
            have x2 := (cell_of (i := 2) b9).trans rfl
            have HZ := Lib.hid hZ
            have HB8 := Lib.hid b8z
            obtain ⟨y0, _, _, _, _⟩ := H8.out _ HB8.out
            obtain ⟨d0, d1, d2, _, _, _⟩ := HZ.out.mod.cells
            clear hZ b8 b8z b9
            go_wp2_with fail
            obtain ⟨Z, hZe⟩ : ∃ Z, ((w6.setCell ⟨pm, 0, none⟩ (.int .i64 r)).setCell ⟨pm, 1, none⟩ (.slice q 0 c)).setCell ⟨pm, 2, none⟩ (.bool true) = Z := ⟨_, rfl⟩
            rw [hZe] at HZ d0 d1 d2 ⊢
            clear hZe HB8 y0 g0 g1 g2 g3 g4 g5 x0 x1 x2 HK8b HK9
            have HLq := Lib.hid (fun j => lenq_any W.heap.size p r _ [] f (Z.drewN j) (HZ.out.below (below_draws Z j)).box 0 rfl)
            have HVq := Lib.hid (fun j => overq_any W.heap.size p r _ [] f (Z.drewN j) (HZ.out.below (below_draws Z j)).box)
            have HZR := Lib.hid (fun j => (show LvR W.heap.size p r pm W (Z.drewN j) from ⟨_, _, _, _, _, _, HZ.out.below (below_draws Z j)⟩))
            go_quiet (first | exact Calls.quiet_of_same (HLq.out _) | exact Calls.quiet_of_same (HVq.out _))
            go_wp2
            go_roundw
            case rel => exact ⟨k + 1, by go_num, by omega, Lib.hid (HZR.out _)⟩
            case measure => simp [intOf]; omega
          · have hno : ov = true → L ≠ [] := fun h1 h2 => hgone ⟨h2, h1⟩
            obtain ⟨k1, hk1⟩ : ∃ k1, takeN tn L.length = k1 := ⟨_, rfl⟩
            have hk1L : k1 ≤ L.length := by rw [← hk1]; exact takeN_le _ _
            have HK1 := Lib.hid hk1
            clear hgone
            go_wp2_with fail
            clear m0 m1 m2 e1 e2 e3 e4 e5
            obtain ⟨X1, hX1⟩ : ∃ X, wr.alloc (.cells #[.int .i64 1, .int .i64 tn, .string ck, .bool ch, .string cv] 33) = X := ⟨_, rfl⟩
            rw [hX1] at HI1 HK8 ⊢
            clear hX1
            have hn1 := HI1.out.mod.len
            have hlb := HI1.out.box.len
            have HT0 := reftake_any r q n c ov L tn X1 HI1.out.mod.row.sc hn1 (by omega) hno
            rw [hk1] at HT0
            refine HT0.mono ?_
            rintro en w3 ⟨p1, n1, c1, p2, c2, hfr1, hfr2, rfl, hs1, hnn, hs2, hb⟩
            have HI3 := Lib.hid (HI1.out.below hb)
            have HR3 := Lib.hid (RL.mk' hs1 HI1.out.box.lt HI1.out.mod.plt hfr1)
            have HQ3 := Lib.hid (RL.mk' hs2 HI1.out.box.lt HI1.out.mod.plt hfr2)
            have HI4 := Lib.hid (HI3.out.below (below_alloc w3 (.cells #[.int .i64 r, .slice p1 n1 c1, .bool ov] 28)))
            have HR4 := Lib.hid (HR3.out.below (below_alloc w3 (.cells #[.int .i64 r, .slice p1 n1 c1, .bool ov] 28)))
            have HQ4 := Lib.hid (HQ3.out.below (below_alloc w3 (.cells #[.int .i64 r, .slice p1 n1 c1, .bool ov] 28)))
            have HK9 := Lib.hid (World.alloc_heap_new w3 (.cells #[.int .i64 r, .slice p1 n1 c1, .bool ov] 28))
            have HF9 := Lib.hid (HI3.out.free (Nat.le_refl _))
            have HK8b := Lib.hid (show (w3.alloc (.cells #[.int .i64 r, .slice p1 n1 c1, .bool ov] 28)).heap[wr.heap.size]? = _ from (Below.heap_alloc _ _ _ (Nat.lt_of_lt_of_le (Array.getElem?_eq_some_iff.1 HK8.out).1 hb.size)).trans ((hb.block _ (Array.getElem?_eq_some_iff.1 HK8.out).1).trans HK8.out))
            have HNn := Lib.hid hnn
            obtain ⟨_, t1, _, _, _⟩ := H8.out _ HK8b.out
            clear hfr1 hfr2 hs1 hs2 hnn hb hn1 hlb HK8 HI1 HT0 hk1
            go_wp2_with fail
            refine (take_is W.heap.size p r ov L tn f _ HI4.out.box hno k1 (L.take k1) (L.drop k1) HK1.out rfl rfl).mono ?_
            rintro en w5 ⟨q2, f5, rfl, h5, s5, hq⟩
            have H5 := Lib.hid h5
            have S5 := Lib.hid s5
            have HQ := Lib.hid hq
            clear h5 s5 hq t1
            go_wp2_with fail
            have HW2 := Lib.hid (HQ4.out.step S5.out)
            refine (sameC_yes q2 p2 k1 k1 c2 (L.take k1) _ HQ.out HW2.out.sc (by rw [List.length_take, Nat.min_eq_left hk1L]) (by have := HI4.out.box.len; omega)).mono ?_
            rintro en w6 ⟨rfl, hb6⟩
            obtain ⟨⟨g0, g1, g2, g3, g4, g5⟩, hZ⟩ := HI4.out.turn (c' := c1) (H5.out.below hb6) (S5.out.trans (Step.of_below hb6)) HR4.out HNn.out
            obtain ⟨b8, b8z⟩ := other_keeps HK8b.out HF8.out.1 HF8.out.2 (S5.out.trans (Step.of_below hb6)) (.int .i64 r) (.slice p1 n1 c1) (.bool ov)
            obtain ⟨b9, _⟩ := other_keeps HK9.out HF9.out.1 HF9.out.2 (S5.out.trans (Step.of_below hb6)) (.int .i64 r) (.slice p1 n1 c1) (.bool ov)
            have x0 := (cell_of (i := 0) b9).trans rfl
            have x1 := (cell_of (i := 1) b9).trans rfl
            have x2 := (cell_of (i := 2) b9).trans rfl
            have HZ := Lib.hid hZ
            have HB8 := Lib.hid b8z
            obtain ⟨y0, _, _, _, _⟩ := H8.out _ HB8.out
            obtain ⟨d0, d1, d2, _, _, _⟩ := HZ.out.mod.cells
            clear hZ b8 b8z b9
            go_wp2_with fail
            obtain ⟨Z, hZe⟩ : ∃ Z, ((w6.setCell ⟨pm, 0, none⟩ (.int .i64 r)).setCell ⟨pm, 1, none⟩ (.slice p1 n1 c1)).setCell ⟨pm, 2, none⟩ (.bool ov) = Z := ⟨_, rfl⟩
            rw [hZe] at HZ d0 d1 d2 ⊢
            clear hZe HB8 y0 g0 g1 g2 g3 g4 g5 x0 x1 x2 HK8b HK9
            have HLq := Lib.hid (fun j => lenq_any W.heap.size p r _ (L.drop k1) f5 (Z.drewN j) (HZ.out.below (below_draws Z j)).box n1 HNn.out)
            have HVq := Lib.hid (fun j => overq_any W.heap.size p r _ (L.drop k1) f5 (Z.drewN j) (HZ.out.below (below_draws Z j)).box)
            have HZR := Lib.hid (fun j => (show LvR W.heap.size p r pm W (Z.drewN j) from ⟨_, _, _, _, _, _, HZ.out.below (below_draws Z j)⟩))
            go_quiet (first | exact Calls.quiet_of_same (HLq.out _) | exact Calls.quiet_of_same (HVq.out _))
            go_wp2
            go_roundw
            case rel => exact ⟨k + 1, by go_num, by omega, Lib.hid (HZR.out _)⟩
            case measure => simp [intOf]; omega
        · have hkz1 : (kd == 1) = false := by rw [beq_eq_false_iff_ne]; exact hk1
          by_cases hk2 : kd = 2
          · subst hk2
            go_wp2_with fail
            clear m0 m1 m2 e1 e2 e3 e4 e5
            obtain ⟨X1, hX1⟩ : ∃ X, wr.alloc (.cells #[.int .i64 2, .int .i64 tn, .string ck, .bool ch, .string cv] 33) = X := ⟨_, rfl⟩
            rw [hX1] at HI1 HK8 ⊢
            clear hX1
            refine (empty_any W.heap.size p r ov L f _ HI1.out.box).mono ?_
            rintro en w5 ⟨f5, rfl, h5, s5⟩
            obtain ⟨⟨g0, g1, g2, g3, g4, g5⟩, hZ⟩ := HI1.out.turn (c' := 0) h5 s5 (q' := none) (L' := []) ⟨Sc.nil _ _, fun h => absurd rfl h⟩ (show ([] : List ChD).length = 0 from rfl)
            obtain ⟨b8, b8z⟩ := other_keeps HK8.out HF8.out.1 HF8.out.2 s5 (.int .i64 r) (.slice none 0 0) (.bool false)
            have HZ := Lib.hid (show LvI W.heap.size p r pm W false [] none 0 0 f5 _ from hZ)
            have HB8 := Lib.hid b8z
            obtain ⟨y0, _, _, _, _⟩ := H8.out _ HB8.out
            obtain ⟨d0, d1, d2, _, _, _⟩ := HZ.out.mod.cells
            clear hZ b8 b8z h5 s5
            go_wp2_with fail
            obtain ⟨Z, hZe⟩ : ∃ Z, ((w5.setCell ⟨pm, 0, none⟩ (.int .i64 r)).setCell ⟨pm, 1, none⟩ (.slice none 0 0)).setCell ⟨pm, 2, none⟩ (.bool false) = Z := ⟨_, rfl⟩
            rw [hZe] at HZ d0 d1 d2 ⊢
            clear hZe HB8 y0 g0 g1 g2 g3 g4 g5 HK8
            have HLq := Lib.hid (fun j => lenq_any W.heap.size p r _ [] f5 (Z.drewN j) (HZ.out.below (below_draws Z j)).box 0 rfl)
            have HVq := Lib.hid (fun j => overq_any W.heap.size p r _ [] f5 (Z.drewN j) (HZ.out.below (below_draws Z j)).box)
            have HZR := Lib.hid (fun j => (show LvR W.heap.size p r pm W (Z.drewN j) from ⟨_, _, _, _, _, _, HZ.out.below (below_draws Z j)⟩))
            go_quiet (first | exact Calls.quiet_of_same (HLq.out _) | exact Calls.quiet_of_same (HVq.out _))
            go_wp2
            go_roundw
            case rel => exact ⟨k + 1, by go_num, by omega, Lib.hid (HZR.out _)⟩
            case measure => simp [intOf]; omega
          · have hkz2 : (kd == 2) = false := by rw [beq_eq_false_iff_ne]; exact hk2
            go_wp2_with fail
            obtain ⟨Z, hZe⟩ : ∃ Z, wr.alloc (.cells #[.int .i64 kd, .int .i64 tn, .string ck, .bool ch, .string cv] 33) = Z := ⟨_, rfl⟩
            rw [hZe] at HI1 m0 m1 m2 ⊢
            have HZ := HI1
            have HNz := Lib.hid HI1.out.mod.len
            clear hZe HK8 HI1
            have HLq := Lib.hid (fun j => lenq_any W.heap.size p r _ L f (Z.drewN j) (HZ.out.below (below_draws Z j)).box n HNz.out)
            have HVq := Lib.hid (fun j => overq_any W.heap.size p r _ L f (Z.drewN j) (HZ.out.below (below_draws Z j)).box)
            have HZR := Lib.hid (fun j => (show LvR W.heap.size p r pm W (Z.drewN j) from ⟨_, _, _, _, _, _, HZ.out.below (below_draws Z j)⟩))
            go_quiet (first | exact Calls.quiet_of_same (HLq.out _) | exact Calls.quiet_of_same (HVq.out _))
            go_wp2
            go_roundw
            case rel => exact ⟨k + 1, by go_num, by omega, Lib.hid (HZR.out _)⟩
            case measure => simp [intOf]; omega
    · obtain rfl : nl = k := by omega
      have hltz : ¬ (nl : Int) < (nl : Int) := by omega
      clear hkn
      have HB0 := Lib.hid HI.out.low
      have HBs := Lib.hid HI.out.box.size
      clear HI
      go_wp2_with fail
      refine (push_is wr.heap.size wr.heap.size 0 false [] _ ⟨⟨#[]⟩, false, ⟨#[]⟩⟩ _ (plain_box wr) ⟨by decide, by decide⟩ true [] (by rfl) (by rfl)).mono ?_
      rintro en w3 ⟨rfl, f3, h3, s3⟩
      have H3 := Lib.hid h3
      have HB3 := Lib.hid (HB0.out.trans (((below_alloc wr _).trans (s3.below (by simp) (plain_box wr).base)).mono HBs.out))
      clear h3 s3
      go_wp2_with fail
      refine (over_any _ _ _ _ _ _ _ H3.out).mono ?_
      rintro en w4 ⟨rfl, rfl⟩
      go_wp2_with fail
      refine (len_is _ _ _ _ _ _ _ H3.out 0 rfl).mono ?_
      rintro en w4 ⟨rfl, rfl⟩
      go_wp2_with fail
      refine (awake_any _).mono ?_
      rintro en w5 ⟨rfl, hb⟩
      have HB5 := Lib.hid (HB3.out.trans (hb.mono HB3.out.size))
      clear hb
      go_wp2_with fail
      go_ret
      exact Says.mk rfl HB5.out

end Go.Proofs.Ytofkllokmecfgaa
