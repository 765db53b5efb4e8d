/-
  The reference's Diff of layer 7.
-/
import Derived.Test.YtbddicaabjlbjaaRefseven
import Derived.Deep.RegionHeld3
import Derived.Deep.AppendLies
namespace Go.Proofs.Ytbddicaabjlbjaa
open Go Go.RowKit

theorem picked_no {p : ByteArray × ByteArray} {l : List (ChD × ChD)} : picked ((yes p, no p.1) :: l) = no p.1 :: picked l := by rw [picked_cons, if_neg (by simp [yes, no])]
theorem picked_yes {q : ByteArray × ByteArray} {l : List (ChD × ChD)} : picked ((no q.1, yes q) :: l) = yes q :: picked l := by rw [picked_cons, if_neg (by simp [yes, no])]
theorem picked_same {p q : ByteArray × ByteArray} {l : List (ChD × ChD)} (h : p.1 = q.1) : picked ((yes p, yes q) :: l) = if p.2 = q.2 then picked l else yes q :: picked l := by
  rw [picked_cons]
  by_cases e : p.2 = q.2
  · rw [if_pos e, if_pos (by simp [yes, h, e])]
  · rw [if_neg e, if_neg (by simp [yes, h, e])]

set_option maxHeartbeats 8000000 in
set_option maxRecDepth 100000 in
theorem refdiff_yes (pa pb : Option Addr) (na nb ca cb : Nat) (A B : Pairs) (w : World) (hna : A.length = na) (hnb : B.length = nb) (hSA : Sl w pa A) (hSB : Sl w pb B) (hRA : Rise A) (hRB : Rise B) (hla : na ≤ 10000) (hlb : nb ≤ 10000) :
    Calls Try.prog 11 #[.slice pa na ca, .slice pb nb cb] w (CollC (diffD A B) w) := by
  have hmix : Try.prog.follows .mixedOrders = true := by kernel_rfl
  obtain ⟨i0, hi, hz0, hz1, hz2⟩ := info_parts info_change
  have HSA := Lib.hid (fun W (h : Below w.heap.size w W) => hSA.grow h)
  have HSB := Lib.hid (fun W (h : Below w.heap.size w W) => hSB.grow h)
  have HSBlt : Hid (∀ k (_ : k < B.length) b o, pb = some ⟨b, o, none⟩ → b < w.heap.size) := fun k hk b o e => by
    obtain ⟨b', o', e', c1, _⟩ := hSB k hk
    obtain ⟨rfl, rfl⟩ : b = b' ∧ o = o' := by rw [e] at e'; simpa using e'
    exact cell_lt c1
  have HA := Lib.hid hRA
  have HB := Lib.hid hRB
  have HNA := Lib.hid hna
  have HNB := Lib.hid hnb
  have lAB := diffD_length A B
  have hDl : (diffD A B).length ≤ 20000 := by omega
  have HDL := Lib.hid hDl
  clear hSA hSB hRA hRB hna hnb lAB hDl
  go_enter Try.func11, Try.ntmps11
  go_wp2_with fail
  have hb0 : Below w.heap.size w (w.alloc (.cells #[] 38)) := (Below.refl _ w).alloc (Nat.le_refl _) _
  have hr0 : (w.alloc (.cells #[] 38)).ownsRow w.heap.size 38 3 (.slice (some ⟨w.heap.size, 0, none⟩) 0 0) 0 (flatC []) := World.ownsRow_made w #[] 0 (Nat.le_refl _) (by simp [maxLen]) rfl
  refine (refright_any pa ca na A _ (HSA.out _ hb0) HNA.out (by omega)).mono ?_
  rintro e w' ⟨ba, rfl, hba, q1, rfl⟩
  obtain rfl : ba = true := hba.2 HA.out
  clear hba
  have hb1 : Below w.heap.size w ((w.alloc (.cells #[] 38)).drewN q1) := hb0.trans ⟨rfl, rfl, rfl, Nat.le_refl _, fun _ _ => rfl⟩
  go_wp2_with fail
  refine (refright_any pb cb nb B _ (HSB.out _ hb1) HNB.out (by omega)).mono ?_
  rintro e w' ⟨bb, rfl, hbb, q2, rfl⟩
  obtain rfl : bb = true := hbb.2 HB.out
  clear hbb
  have H0 : Hid (RefAt w A B 0 0 0 w.heap.size 0 (((w.alloc (.cells #[] 38)).drewN q1).drewN q2)) :=
    ⟨[], by simp [diffD], rfl, ownsRow_stays hr0 (fun _ _ => rfl), hb1.trans ⟨rfl, rfl, rfl, Nat.le_refl _, fun _ _ => rfl⟩⟩
  rw [World.drewN_drewN] at H0
  clear hb0 hb1 hr0
  go_wp2_with fail
  go_loopw [5, 6, 7] (fun s5 s6 s7 wr => ∃ i k m g cap : Nat, s5 = .slice (some ⟨g, 0, none⟩) m cap ∧ s6 = .int .i64 i ∧ s7 = .int .i64 k ∧ i ≤ na ∧ k ≤ nb ∧ Hid (RefAt w A B i k m g cap wr)) (fun _ s6 s7 _ => na + nb - ((intOf s6).toNat + (intOf s7).toNat))
  case atStart => exact ⟨0, 0, 0, w.heap.size, 0, rfl, rfl, rfl, Nat.zero_le _, Nat.zero_le _, H0⟩
  case round =>
    clear H0
    obtain ⟨i, k, m, g, cap, rfl, rfl, rfl, hin, hkn, hR⟩ := hrel
    by_cases hdone : i = na ∧ k = nb
    · obtain ⟨rfl, rfl⟩ := hdone
      obtain ⟨O, hO, hOm, hrow, hbel⟩ := hR.out
      rw [List.drop_of_length_le (by rw [HNA.out]; exact Nat.le_refl _), List.drop_of_length_le (by rw [HNB.out]; exact Nat.le_refl _), bothD, List.map_nil] at hO
      have hO2 : O = diffD A B := by rw [← hO]; simp [picked]
      subst hOm
      have HE := Lib.hid (show CollC (diffD A B) w (.returned (.slice (some ⟨g, 0, none⟩) O.length cap)) wr from ⟨_, rfl, by rw [← hO2]; exact hrow, hbel⟩)
      clear hO hO2 hrow hbel hR
      go_wp2
      go_ret
      exact HE.out
    · obtain ⟨O, hO, hOm, hrow0, hbel0⟩ := hR.out
      have hm20 : m ≤ 20000 := by
        have h1 := congrArg List.length hO
        rw [List.length_append] at h1
        have h2 := HDL.out
        omega
      have HRow0 := Lib.hid hrow0
      have HBel0 := Lib.hid hbel0
      have HO := Lib.hid hO
      have HOm := Lib.hid hOm
      have hwr0 := hbel0.size
      clear hO hOm hrow0 hbel0 hR
      -- what a further change makes of where it stands
      have HNext : Hid (∀ (x : ChD) (i' k' g' cap' : Nat) (W : World), picked (bothD (A.drop i) (B.drop k)) = x :: picked (bothD (A.drop i') (B.drop k')) → W.ownsRow w.heap.size 38 3 (.slice (some ⟨g', 0, none⟩) (m + 1) cap') (m + 1) (flatC (O ++ [x])) → Below w.heap.size w W → RefAt w A B i' k' (m + 1) g' cap' W) :=
        fun x i' k' g' cap' W h1 h2 h3 => ⟨O ++ [x], by rw [← HO.out, h1]; simp, by rw [List.length_append, HOm.out]; rfl, h2, h3⟩
      by_cases hkb0 : k = nb
      · subst hkb0
        have hia : i < na := by omega
        have hiaz : (i : Int) < (na : Int) := by omega
        have hi1 : (0 : Int) ≤ (i : Int) := by omega
        have hiL : i < A.length := by rw [HNA.out]; omega
        obtain ⟨ba, oa, rfl, a1, a2⟩ := HSA.out wr HBel0.out i hiL
        have HN := Lib.hid (show picked (bothD (A.drop i) (B.drop k)) = no A[i].1 :: picked (bothD (A.drop (i + 1)) (B.drop k)) by rw [stepA hiL (.inl HNB.out.symm), picked_no])
        obtain ⟨ka, hka⟩ : ∃ x, A[i].1 = x := ⟨_, rfl⟩
        rw [hka] at a1 HN
        clear hka hiL a2
        go_wp2_with fail
        go_quiet (fail)
        have hrow := ownsRow_stays (W' := wr.drewN nq) HRow0.out (fun _ _ => rfl)
        have hbel : Below w.heap.size w (wr.drewN nq) := HBel0.out.trans ⟨rfl, rfl, rfl, Nat.le_refl _, fun _ _ => rfl⟩
        have hwr : w.heap.size ≤ (wr.drewN nq).heap.size := hwr0
        have c1 : (wr.drewN nq).cell? ⟨ba, oa + i * 2, none⟩ = some (.string ka) := a1
        generalize wr.drewN nq = w1 at hrow hbel hwr c1 ⊢
        clear a1
        go_wp2_with (at_builtin; refine wpList_append_own_at _ rfl _ _ 23 rfl w.heap.size 38 i0 (.agg #[.string ⟨#[]⟩, .bool false, .string ⟨#[]⟩]) 3 40 Try.underlying23 hi hz0 hz1 hz2 rfl (by decide) (.slice (some ⟨g, 0, none⟩) m cap) m (flatC O) rfl (hrow.alloc _) ⟨w1.heap.size, 0, none⟩ 1 1 [.string ka, .bool false, .string ⟨#[]⟩] rfl rfl (change_news _ _ _ _ _) (change_one _ _ _) (by simp only [maxLen]; omega) (by omega) (by simp; omega) ?_; intro v' w2 hown' hgrow _ hat; obtain ⟨g', cap', rfl, hrow2, hbel2⟩ := grown_change (x := ⟨ka, false, ⟨#[]⟩⟩) hwr hrow hbel hown' hgrow; clear hown' hgrow hat)
        have HR2 := Lib.hid (HNext.out (no ka) (i + 1) k g' cap' w2 HN.out hrow2 hbel2)
        go_roundw
        case rel => exact ⟨i + 1, k, m + 1, g', cap', rfl, by go_num, rfl, by omega, hkn, HR2⟩
        case measure => simp [intOf]; omega
      · have hkb : k < nb := by omega
        have hkbz : (k : Int) < (nb : Int) := by omega
        have hkb1 : ¬ (k : Int) = (nb : Int) := by omega
        have hkb2 : ((k : Int) == (nb : Int)) = false := by rw [beq_eq_false_iff_ne]; omega
        have hk1 : (0 : Int) ≤ (k : Int) := by omega
        by_cases hia0 : i = na
        · subst hia0
          have hkL : k < B.length := by rw [HNB.out]; omega
          obtain ⟨bb, ob, hpb, b1, b2⟩ := HSB.out wr HBel0.out k hkL
          have hbbw : bb < w.heap.size := HSBlt.out k hkL bb ob hpb
          subst hpb
          have HN := Lib.hid (show picked (bothD (A.drop i) (B.drop k)) = yes B[k] :: picked (bothD (A.drop i) (B.drop (k + 1))) by rw [stepB hkL (.inl HNA.out.symm), picked_yes])
          obtain ⟨⟨kb, vb⟩, hkb⟩ : ∃ x, B[k] = x := ⟨_, rfl⟩
          rw [hkb] at b1 b2 HN
          clear hkb hkL
          go_wp2_with fail
          go_quiet (fail)
          have b1_1 : (wr.drewN nq).cell? ⟨bb, ob + k * 2, none⟩ = some (.string kb) := b1
          have b2_1 : (wr.drewN nq).cell? ⟨bb, ob + k * 2 + 1, none⟩ = some (.string vb) := b2
          have HRow1 := Lib.hid (ownsRow_stays (W' := wr.drewN nq) HRow0.out (fun _ _ => rfl))
          have HBel1 : Hid (Below w.heap.size w (wr.drewN nq)) := HBel0.out.trans ⟨rfl, rfl, rfl, Nat.le_refl _, fun _ _ => rfl⟩
          have hwr1 : w.heap.size ≤ (wr.drewN nq).heap.size := hwr0
          generalize wr.drewN nq = x1 at b1_1 b2_1 HRow1 HBel1 hwr1 ⊢
          clear b1 b2
          go_wp2_with fail
          go_quiet (fail)
          have b1_2 : (x1.drewN nq).cell? ⟨bb, ob + k * 2, none⟩ = some (.string kb) := b1_1
          have b2_2 : (x1.drewN nq).cell? ⟨bb, ob + k * 2 + 1, none⟩ = some (.string vb) := b2_1
          have HRow2 := Lib.hid (ownsRow_stays (W' := x1.drewN nq) HRow1.out (fun _ _ => rfl))
          have HBel2 : Hid (Below w.heap.size w (x1.drewN nq)) := HBel1.out.trans ⟨rfl, rfl, rfl, Nat.le_refl _, fun _ _ => rfl⟩
          have hwr2 : w.heap.size ≤ (x1.drewN nq).heap.size := hwr1
          generalize x1.drewN nq = x2 at b1_2 b2_2 HRow2 HBel2 hwr2 ⊢
          clear b1_1 b2_1
          go_wp2_with fail
          have hlb := cell_lt b1_2
          have hgB := (HRow2.out.lt g rfl).1
          have ag : (Value.slice (some ⟨g, 0, none⟩) m cap).ownBlock ≠ some bb := by
            have hbw := hbbw
            intro e
            have : g = bb := by simpa [Value.ownBlock] using e
            omega
          go_region_held3 (fun w' => w'.cell? ⟨bb, ob + k * 2, none⟩ = some (.string kb) ∧ w'.cell? ⟨bb, ob + k * 2 + 1, none⟩ = some (.string vb))
            (first
              | go_keep
              | (go_split_ands
                 refine ⟨?_, ?_⟩
                 · (rw [hgrow.cell_far _ (by simp; omega) (Ne.symm ag)]; assumption)
                 · (rw [hgrow.cell_far _ (by simp; omega) (Ne.symm ag)]; assumption)))
            ((refine step_append_lies _ (by rfl) _ _ _ (by rfl) w.heap.size 38 i0 _ 3 40 Try.underlying23 hi hz0 hz1 hz2 rfl (by omega) (.slice (some ⟨g, 0, none⟩) m cap) m (flatC O) (by rfl) ((HRow2.out.alloc _).drew)
                ⟨x2.heap.size, 0, none⟩ 1 1 [.string kb, .bool true, .string vb] (by rfl) (by rfl) (World.news_of_block (cs := #[.string kb, .bool true, .string vb]) (t := 38) (fr := (0, 0)) (heap_alloc_new x2 _)) (by simp [Value.oneCell'])
                (by omega) (by simp only [maxLen]; omega) (by omega) (by simp; omega) (x2.heap.size + 1) (by simp) ?_; intro g' cap' w2 hown1 hgrow hat hlt))
          have hbel2 : Below w.heap.size w w2 := HBel2.out.trans ((((Below.refl w.heap.size x2).alloc hwr2 (.cells #[.string kb, .bool true, .string vb] 38)).drew).grown hgrow (by simp; omega) (fun k e => by
            have : g = k := by simpa [Value.ownBlock] using e
            omega))
          have hrow2 : w2.ownsRow w.heap.size 38 3 (.slice (some ⟨g', 0, none⟩) (m + 1) cap') (m + 1) (flatC (O ++ [(⟨kb, true, vb⟩ : ChD)])) := by rw [flatC_snoc]; exact hown1
          clear hown1 hgrow hat hlt
          go_wp2_with fail
          have HR2 := Lib.hid (HNext.out (yes (kb, vb)) i (k + 1) g' cap' w2 HN.out hrow2 hbel2)
          go_roundw
          case rel => exact ⟨i, k + 1, m + 1, g', cap', rfl, rfl, by go_num, hin, by omega, HR2⟩
          case measure => simp [intOf]; omega
        · have hia : i < na := by omega
          have hiaz : (i : Int) < (na : Int) := by omega
          have hia1 : ¬ (i : Int) = (na : Int) := by omega
          have hia2 : ((i : Int) == (na : Int)) = false := by rw [beq_eq_false_iff_ne]; omega
          have hi1 : (0 : Int) ≤ (i : Int) := by omega
          have hAi : i < A.length := by rw [HNA.out]; omega
          have hBk : k < B.length := by rw [HNB.out]; omega
          cases hl : lt A[i].1 B[k].1 with
          | true =>
            have hiL : i < A.length := by rw [HNA.out]; omega
            obtain ⟨ba, oa, rfl, a1, a2⟩ := HSA.out wr HBel0.out i hiL
            have hkL : k < B.length := by rw [HNB.out]; omega
            obtain ⟨bb, ob, hpb, b1, b2⟩ := HSB.out wr HBel0.out k hkL
            have hbbw : bb < w.heap.size := HSBlt.out k hkL bb ob hpb
            subst hpb
            have HN := Lib.hid (show picked (bothD (A.drop i) (B.drop k)) = no A[i].1 :: picked (bothD (A.drop (i + 1)) (B.drop k)) by rw [stepA hiL (.inr ⟨hkL, hl⟩), picked_no])
            obtain ⟨kb, hkb⟩ : ∃ x, B[k].1 = x := ⟨_, rfl⟩
            rw [hkb] at b1 hl
            obtain ⟨ka, hka⟩ : ∃ x, A[i].1 = x := ⟨_, rfl⟩
            rw [hka] at a1 HN hl
            have hbl : Op.bytesLess ka.toList kb.toList = true := hl
            clear hka hkb hiL hkL a2 b2 hl
            go_wp2_with fail
            go_quiet (fail)
            have hrow := ownsRow_stays (W' := wr.drewN nq) HRow0.out (fun _ _ => rfl)
            have hbel : Below w.heap.size w (wr.drewN nq) := HBel0.out.trans ⟨rfl, rfl, rfl, Nat.le_refl _, fun _ _ => rfl⟩
            have hwr : w.heap.size ≤ (wr.drewN nq).heap.size := hwr0
            have c1 : (wr.drewN nq).cell? ⟨ba, oa + i * 2, none⟩ = some (.string ka) := a1
            generalize wr.drewN nq = w1 at hrow hbel hwr c1 ⊢
            clear a1 b1
            go_wp2_with (at_builtin; refine wpList_append_own_at _ rfl _ _ 23 rfl w.heap.size 38 i0 (.agg #[.string ⟨#[]⟩, .bool false, .string ⟨#[]⟩]) 3 40 Try.underlying23 hi hz0 hz1 hz2 rfl (by decide) (.slice (some ⟨g, 0, none⟩) m cap) m (flatC O) rfl (hrow.alloc _) ⟨w1.heap.size, 0, none⟩ 1 1 [.string ka, .bool false, .string ⟨#[]⟩] rfl rfl (change_news _ _ _ _ _) (change_one _ _ _) (by simp only [maxLen]; omega) (by omega) (by simp; omega) ?_; intro v' w2 hown' hgrow _ hat; obtain ⟨g', cap', rfl, hrow2, hbel2⟩ := grown_change (x := ⟨ka, false, ⟨#[]⟩⟩) hwr hrow hbel hown' hgrow; clear hown' hgrow hat)
            have HR2 := Lib.hid (HNext.out (no ka) (i + 1) k g' cap' w2 HN.out hrow2 hbel2)
            go_roundw
            case rel => exact ⟨i + 1, k, m + 1, g', cap', rfl, by go_num, rfl, by omega, hkn, HR2⟩
            case measure => simp [intOf]; omega
          | false =>
            by_cases heq : A[i].1 = B[k].1
            · clear hl
              have hkL : k < B.length := by rw [HNB.out]; omega
              have hiL : i < A.length := by rw [HNA.out]; omega
              obtain ⟨bb, ob, hpb, b1, b2⟩ := HSB.out wr HBel0.out k hkL
              have hbbw : bb < w.heap.size := HSBlt.out k hkL bb ob hpb
              subst hpb
              obtain ⟨ba, oa, rfl, a1, a2⟩ := HSA.out wr HBel0.out i hiL
              have HN := Lib.hid (show picked (bothD (A.drop i) (B.drop k)) = if A[i].2 = B[k].2 then picked (bothD (A.drop (i + 1)) (B.drop (k + 1))) else yes B[k] :: picked (bothD (A.drop (i + 1)) (B.drop (k + 1))) by rw [stepE hiL hkL heq, picked_same heq])
              obtain ⟨⟨ka, va⟩, hka⟩ : ∃ x, A[i] = x := ⟨_, rfl⟩
              obtain ⟨⟨kb, vb⟩, hkb⟩ : ∃ x, B[k] = x := ⟨_, rfl⟩
              rw [hka] at a1 a2 heq HN
              rw [hkb] at b1 b2 heq HN
              obtain rfl : ka = kb := heq
              have hbl : Op.bytesLess ka.toList ka.toList = false := bl_irrefl _
              clear hka hkb hiL hkL
              by_cases hv : va = vb
              · subst hv
                have HN2 := Lib.hid (show picked (bothD (A.drop i) (B.drop k)) = picked (bothD (A.drop (i + 1)) (B.drop (k + 1))) by rw [HN.out, if_pos rfl])
                have HR2 : Hid (∀ q, RefAt w A B (i + 1) (k + 1) m g cap (wr.drewN q)) := fun q => RefAt.drewN ⟨O, by rw [← HO.out, HN2.out], HOm.out, HRow0.out, HBel0.out⟩ q
                clear HN HN2
                go_wp2_with fail
                go_quiet (fail)
                go_wp2_with fail
                go_quiet (fail)
                go_wp2_with fail
                go_quiet (fail)
                go_wp2_with fail
                go_roundw
                case rel => exact ⟨i + 1, k + 1, m, g, cap, rfl, by go_num, by go_num, by omega, by omega, HR2.out _⟩
                case measure => simp [intOf]; omega
              · have hvb := ne_bytes hv
                have HN2 := Lib.hid (show picked (bothD (A.drop i) (B.drop k)) = yes (ka, vb) :: picked (bothD (A.drop (i + 1)) (B.drop (k + 1))) by rw [HN.out, if_neg hv])
                clear HN hv
                go_wp2_with fail
                go_quiet (fail)
                have a1_1 : (wr.drewN nq).cell? ⟨ba, oa + i * 2, none⟩ = some (.string ka) := a1
                have a2_1 : (wr.drewN nq).cell? ⟨ba, oa + i * 2 + 1, none⟩ = some (.string va) := a2
                have b1_1 : (wr.drewN nq).cell? ⟨bb, ob + k * 2, none⟩ = some (.string ka) := b1
                have b2_1 : (wr.drewN nq).cell? ⟨bb, ob + k * 2 + 1, none⟩ = some (.string vb) := b2
                have HRow1 := Lib.hid (ownsRow_stays (W' := wr.drewN nq) HRow0.out (fun _ _ => rfl))
                have HBel1 : Hid (Below w.heap.size w (wr.drewN nq)) := HBel0.out.trans ⟨rfl, rfl, rfl, Nat.le_refl _, fun _ _ => rfl⟩
                have hwr1 : w.heap.size ≤ (wr.drewN nq).heap.size := hwr0
                generalize wr.drewN nq = x1 at a1_1 a2_1 b1_1 b2_1 HRow1 HBel1 hwr1 ⊢
                clear a1 a2 b1 b2
                go_wp2_with fail
                go_quiet (fail)
                have a1_2 : (x1.drewN nq).cell? ⟨ba, oa + i * 2, none⟩ = some (.string ka) := a1_1
                have a2_2 : (x1.drewN nq).cell? ⟨ba, oa + i * 2 + 1, none⟩ = some (.string va) := a2_1
                have b1_2 : (x1.drewN nq).cell? ⟨bb, ob + k * 2, none⟩ = some (.string ka) := b1_1
                have b2_2 : (x1.drewN nq).cell? ⟨bb, ob + k * 2 + 1, none⟩ = some (.string vb) := b2_1
                have HRow2 := Lib.hid (ownsRow_stays (W' := x1.drewN nq) HRow1.out (fun _ _ => rfl))
                have HBel2 : Hid (Below w.heap.size w (x1.drewN nq)) := HBel1.out.trans ⟨rfl, rfl, rfl, Nat.le_refl _, fun _ _ => rfl⟩
                have hwr2 : w.heap.size ≤ (x1.drewN nq).heap.size := hwr1
                generalize x1.drewN nq = x2 at a1_2 a2_2 b1_2 b2_2 HRow2 HBel2 hwr2 ⊢
                clear a1_1 a2_1 b1_1 b2_1
                go_wp2_with fail
                go_quiet (fail)
                have a1_3 : (x2.drewN nq).cell? ⟨ba, oa + i * 2, none⟩ = some (.string ka) := a1_2
                have a2_3 : (x2.drewN nq).cell? ⟨ba, oa + i * 2 + 1, none⟩ = some (.string va) := a2_2
                have b1_3 : (x2.drewN nq).cell? ⟨bb, ob + k * 2, none⟩ = some (.string ka) := b1_2
                have b2_3 : (x2.drewN nq).cell? ⟨bb, ob + k * 2 + 1, none⟩ = some (.string vb) := b2_2
                have HRow3 := Lib.hid (ownsRow_stays (W' := x2.drewN nq) HRow2.out (fun _ _ => rfl))
                have HBel3 : Hid (Below w.heap.size w (x2.drewN nq)) := HBel2.out.trans ⟨rfl, rfl, rfl, Nat.le_refl _, fun _ _ => rfl⟩
                have hwr3 : w.heap.size ≤ (x2.drewN nq).heap.size := hwr2
                generalize x2.drewN nq = x3 at a1_3 a2_3 b1_3 b2_3 HRow3 HBel3 hwr3 ⊢
                clear a1_2 a2_2 b1_2 b2_2
                go_wp2_with fail
                have hlb := cell_lt b1_3
                have hgB := (HRow3.out.lt g rfl).1
                have ag : (Value.slice (some ⟨g, 0, none⟩) m cap).ownBlock ≠ some bb := by
                  have hbw := hbbw
                  intro e
                  have : g = bb := by simpa [Value.ownBlock] using e
                  omega
                go_region_held3 (fun w' => w'.cell? ⟨bb, ob + k * 2, none⟩ = some (.string ka) ∧ w'.cell? ⟨bb, ob + k * 2 + 1, none⟩ = some (.string vb))
                  (first
                    | go_keep
                    | (go_split_ands
                       refine ⟨?_, ?_⟩
                       · (rw [hgrow.cell_far _ (by simp; omega) (Ne.symm ag)]; assumption)
                       · (rw [hgrow.cell_far _ (by simp; omega) (Ne.symm ag)]; assumption)))
                  ((refine step_append_lies _ (by rfl) _ _ _ (by rfl) w.heap.size 38 i0 _ 3 40 Try.underlying23 hi hz0 hz1 hz2 rfl (by omega) (.slice (some ⟨g, 0, none⟩) m cap) m (flatC O) (by rfl) ((HRow3.out.alloc _).drew)
                      ⟨x3.heap.size, 0, none⟩ 1 1 [.string ka, .bool true, .string vb] (by rfl) (by rfl) (World.news_of_block (cs := #[.string ka, .bool true, .string vb]) (t := 38) (fr := (0, 0)) (heap_alloc_new x3 _)) (by simp [Value.oneCell'])
                      (by omega) (by simp only [maxLen]; omega) (by omega) (by simp; omega) (x3.heap.size + 1) (by simp) ?_; intro g' cap' w2 hown1 hgrow hat hlt))
                have hbel2 : Below w.heap.size w w2 := HBel3.out.trans ((((Below.refl w.heap.size x3).alloc hwr3 (.cells #[.string ka, .bool true, .string vb] 38)).drew).grown hgrow (by simp; omega) (fun k e => by
                  have : g = k := by simpa [Value.ownBlock] using e
                  omega))
                have hrow2 : w2.ownsRow w.heap.size 38 3 (.slice (some ⟨g', 0, none⟩) (m + 1) cap') (m + 1) (flatC (O ++ [(⟨ka, true, vb⟩ : ChD)])) := by rw [flatC_snoc]; exact hown1
                clear hown1 hgrow hat hlt
                go_wp2_with fail
                have HR2 := Lib.hid (HNext.out (yes (ka, vb)) (i + 1) (k + 1) g' cap' w2 HN2.out hrow2 hbel2)
                go_roundw
                case rel => exact ⟨i + 1, k + 1, m + 1, g', cap', rfl, by go_num, by go_num, by omega, by omega, HR2⟩
                case measure => simp [intOf]; omega
            · have hne := heq
              clear heq
              have hkL : k < B.length := by rw [HNB.out]; omega
              obtain ⟨bb, ob, hpb, b1, b2⟩ := HSB.out wr HBel0.out k hkL
              have hbbw : bb < w.heap.size := HSBlt.out k hkL bb ob hpb
              subst hpb
              have hiL : i < A.length := by rw [HNA.out]; omega
              obtain ⟨ba, oa, rfl, a1, a2⟩ := HSA.out wr HBel0.out i hiL
              have HN := Lib.hid (show picked (bothD (A.drop i) (B.drop k)) = yes B[k] :: picked (bothD (A.drop i) (B.drop (k + 1))) by rw [stepB hkL (.inr ⟨hiL, hl, hne⟩), picked_yes])
              have hl2 : lt B[k].1 A[i].1 = true := by cases e : lt B[k].1 A[i].1 with | true => rfl | false => exact absurd (lt_tri hl e) hne
              obtain ⟨ka, hka⟩ : ∃ x, A[i].1 = x := ⟨_, rfl⟩
              rw [hka] at a1 hl hl2
              obtain ⟨⟨kb, vb⟩, hkb⟩ : ∃ x, B[k] = x := ⟨_, rfl⟩
              rw [hkb] at b1 b2 HN hl hl2
              have hbl : Op.bytesLess ka.toList kb.toList = false := hl
              have hbl2 : Op.bytesLess kb.toList ka.toList = true := hl2
              clear hne
              clear hka hkb hiL hkL a2 hl hl2
              go_wp2_with fail
              go_quiet (fail)
              have b1_1 : (wr.drewN nq).cell? ⟨bb, ob + k * 2, none⟩ = some (.string kb) := b1
              have b2_1 : (wr.drewN nq).cell? ⟨bb, ob + k * 2 + 1, none⟩ = some (.string vb) := b2
              have a1_1 : (wr.drewN nq).cell? ⟨ba, oa + i * 2, none⟩ = some (.string ka) := a1
              have HRow1 := Lib.hid (ownsRow_stays (W' := wr.drewN nq) HRow0.out (fun _ _ => rfl))
              have HBel1 : Hid (Below w.heap.size w (wr.drewN nq)) := HBel0.out.trans ⟨rfl, rfl, rfl, Nat.le_refl _, fun _ _ => rfl⟩
              have hwr1 : w.heap.size ≤ (wr.drewN nq).heap.size := hwr0
              generalize wr.drewN nq = x1 at b1_1 b2_1 a1_1 HRow1 HBel1 hwr1 ⊢
              clear b1 b2 a1
              go_wp2_with fail
              go_quiet (fail)
              have b1_2 : (x1.drewN nq).cell? ⟨bb, ob + k * 2, none⟩ = some (.string kb) := b1_1
              have b2_2 : (x1.drewN nq).cell? ⟨bb, ob + k * 2 + 1, none⟩ = some (.string vb) := b2_1
              have a1_2 : (x1.drewN nq).cell? ⟨ba, oa + i * 2, none⟩ = some (.string ka) := a1_1
              have HRow2 := Lib.hid (ownsRow_stays (W' := x1.drewN nq) HRow1.out (fun _ _ => rfl))
              have HBel2 : Hid (Below w.heap.size w (x1.drewN nq)) := HBel1.out.trans ⟨rfl, rfl, rfl, Nat.le_refl _, fun _ _ => rfl⟩
              have hwr2 : w.heap.size ≤ (x1.drewN nq).heap.size := hwr1
              generalize x1.drewN nq = x2 at b1_2 b2_2 a1_2 HRow2 HBel2 hwr2 ⊢
              clear b1_1 b2_1 a1_1
              go_wp2_with fail
              have hlb := cell_lt b1_2
              have hgB := (HRow2.out.lt g rfl).1
              have ag : (Value.slice (some ⟨g, 0, none⟩) m cap).ownBlock ≠ some bb := by
                have hbw := hbbw
                intro e
                have : g = bb := by simpa [Value.ownBlock] using e
                omega
              go_region_held3 (fun w' => w'.cell? ⟨bb, ob + k * 2, none⟩ = some (.string kb) ∧ w'.cell? ⟨bb, ob + k * 2 + 1, none⟩ = some (.string vb))
                (first
                  | go_keep
                  | (go_split_ands
                     refine ⟨?_, ?_⟩
                     · (rw [hgrow.cell_far _ (by simp; omega) (Ne.symm ag)]; assumption)
                     · (rw [hgrow.cell_far _ (by simp; omega) (Ne.symm ag)]; assumption)))
                ((refine step_append_lies _ (by rfl) _ _ _ (by rfl) w.heap.size 38 i0 _ 3 40 Try.underlying23 hi hz0 hz1 hz2 rfl (by omega) (.slice (some ⟨g, 0, none⟩) m cap) m (flatC O) (by rfl) ((HRow2.out.alloc _).drew)
                    ⟨x2.heap.size, 0, none⟩ 1 1 [.string kb, .bool true, .string vb] (by rfl) (by rfl) (World.news_of_block (cs := #[.string kb, .bool true, .string vb]) (t := 38) (fr := (0, 0)) (heap_alloc_new x2 _)) (by simp [Value.oneCell'])
                    (by omega) (by simp only [maxLen]; omega) (by omega) (by simp; omega) (x2.heap.size + 1) (by simp) ?_; intro g' cap' w2 hown1 hgrow hat hlt))
              have hbel2 : Below w.heap.size w w2 := HBel2.out.trans ((((Below.refl w.heap.size x2).alloc hwr2 (.cells #[.string kb, .bool true, .string vb] 38)).drew).grown hgrow (by simp; omega) (fun k e => by
                have : g = k := by simpa [Value.ownBlock] using e
                omega))
              have hrow2 : w2.ownsRow w.heap.size 38 3 (.slice (some ⟨g', 0, none⟩) (m + 1) cap') (m + 1) (flatC (O ++ [(⟨kb, true, vb⟩ : ChD)])) := by rw [flatC_snoc]; exact hown1
              clear hown1 hgrow hat hlt
              go_wp2_with fail
              have HR2 := Lib.hid (HNext.out (yes (kb, vb)) i (k + 1) g' cap' w2 HN.out hrow2 hbel2)
              go_roundw
              case rel => exact ⟨i, k + 1, m + 1, g', cap', rfl, rfl, by go_num, hin, by omega, HR2⟩
              case measure => simp [intOf]; omega

end Go.Proofs.Ytbddicaabjlbjaa
