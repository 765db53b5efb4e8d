/-
  Alone a read tells what was laid at the epoch, and leaves the heap as it was: the walk.
-/
import Derived.Test.YtpnfbabiibopnaaRaloneh
import Derived.Deep.DeepCutAuto
import Derived.Deep.CutBlock
import Derived.StillTailTactics
namespace Go.Proofs.Ytpnfbabiibopnaa
open Go Go.RowKit
attribute [local go_sem ↓] Go.wp_at_zero Go.wp_at_succ

set_option maxRecDepth 100000 in
set_option maxHeartbeats 8000000 in
theorem ralone_walk (a p s q v x : Int) (ga : Option Addr) (n c : Nat) (M : List ChgD) (ep : Nat) (hep : ep ≤ 255) (W : World) (hM : Sch W ga M) (hm : M.length = n) :
    Calls Try.prog 3 #[cfV a p s q v x, .slice ga n c, .int .u8 (ep : Int)] W (Says true W) := by
  have X0 := Lib.hid (BoxC.start W a p s q v x)
  obtain ⟨c0, c1, c2, c3, c4, c5⟩ := X0.out.six
  have HRr := Lib.hid (fun X : World => cright_any a p s q v x X)
  by_cases hbad : rightC a p s q v = false ∨ 30 < n
  · clear hM hm
    go_enter Try.func3, Try.ntmps3
    go_wp2_with fail
    refine (HRr.out _).mono ?_
    rintro en w1 ⟨rfl, hb⟩
    have B1 := Lib.hid (X0.out.lo.trans (hb.mono X0.out.lo.size))
    clear hb c0 c1 c2 c3 c4 c5 X0
    cases hr : rightC a p s q v with
    | false =>
      clear hbad
      go_wp2_with fail
      refine (rawake_any _).mono ?_
      rintro en w2 ⟨rfl, hb⟩
      have B2 := Lib.hid (B1.out.trans (hb.mono B1.out.size))
      clear hb
      go_wp2_with fail
      go_ret
      exact Says.mk rfl B2.out
    | true =>
      have hz : (30 : Int) < (n : Int) := by
        rcases hbad with e | e
        · rw [hr] at e; cases e
        · omega
      clear hbad
      go_wp2_with fail
      refine (rawake_any _).mono ?_
      rintro en w2 ⟨rfl, hb⟩
      have B2 := Lib.hid (B1.out.trans (hb.mono B1.out.size))
      clear hb
      go_wp2_with fail
      go_ret
      exact Says.mk rfl B2.out
  have hr : rightC a p s q v = true := by
    cases h : rightC a p s q v with
    | true => rfl
    | false => exact absurd (.inl h) hbad
  have hz : ¬ (30 : Int) < (n : Int) := fun h => hbad (.inr (by omega))
  have hn30 : n ≤ 30 := by omega
  rw [hr] at HRr
  have HRs := Lib.hid hr
  have HFl := Lib.hid (fun X : World => field_any X a p s q v x hr)
  have HM := Lib.hid (And.intro hM hm)
  have hmix : Try.prog.follows .mixedOrders = true := by kernel_rfl
  have he0 : (0 : Int) ≤ (ep : Int) := by omega
  have he255 : (ep : Int) ≤ 255 := by omega
  clear hM hm hbad hr hep
  go_enter Try.func3, Try.ntmps3
  go_wp2_with fail
  refine (HRr.out _).mono ?_
  rintro en w1 ⟨rfl, hb⟩
  have X1 := Lib.hid (X0.out.below hb)
  clear hb c0 c1 c2 c3 c4 c5 X0
  obtain ⟨c0, c1, c2, c3, c4, c5⟩ := X1.out.six
  go_wp2_with fail
  refine (HFl.out _).mono ?_
  rintro en w2 ⟨B, hp, f2, rfl, hB, h2, hb⟩
  have R2 := Lib.hid (rnd_begin (X1.out.below hb) h2 (Nat.lt_of_lt_of_le (heap_at_lt X1.out.b) hB))
  have HI := Lib.hid (show AloI W a p s q v x (ep : Int) B hp w2.heap.size [] 0 0 (w2.alloc (.cells #[] 83)) from
    ⟨_, fun _ => 0, fun _ => none, fun _ _ => ⟨0, false, ⟨#[]⟩, 0⟩, fun _ => 0, _, R2.out.add _, fun Y hY j hj => absurd hj (Nat.not_lt_zero _), Laid.start HRs.out x _, ModI.start s (ep : Int) _, rfl, fun _ _ _ => rfl, by show 1 ≤ 1 + 2 * 0; omega, fun _ => Nat.le_refl _, Nat.le_refl _⟩)
  clear hb h2 hB c0 c1 c2 c3 c4 c5 X1 HRr HFl R2
  go_upto_block 0 with fail
  generalize w2.heap.size = g0 at HI ⊢
  generalize w2.alloc (.cells #[] 83) = w3 at HI ⊢
  go_cut [8] (fun s8 wx => ∃ (g cap : Nat) (L : Pairs), s8 = .slice (some ⟨g, 0, none⟩) L.length cap ∧ Hid (∀ C ∈ M, C.key.size ≤ 100) ∧ Hid (AloI W a p s q v x (ep : Int) B hp g L 0 n wx))
  case first => as_aux_lemma =>
    go_wp2_with fail
    go_loopw [8, 9] (fun s8 s9 wr => ∃ (g cap : Nat) (L : Pairs) (i : Nat), s8 = .slice (some ⟨g, 0, none⟩) L.length cap ∧ s9 = .int .i64 (i : Int) ∧ i ≤ n ∧ Hid (∀ C ∈ M.take i, C.key.size ≤ 100) ∧ Hid (AloI W a p s q v x (ep : Int) B hp g L 0 i wr)) (fun _ s9 _ => n - (intOf s9).toNat)
    case atStart => exact ⟨g0, 0, [], 0, rfl, rfl, Nat.zero_le _, Lib.hid (fun C h => by simp at h), HI⟩
    case round => as_aux_lemma =>
      clear HI
      obtain ⟨g, cap, L, i, rfl, rfl, hin, HK, HI⟩ := hrel
      obtain ⟨nl, hnl⟩ : ∃ m, L.length = m := ⟨_, rfl⟩
      have HNl := Lib.hid hnl
      have hi0 : (0 : Int) ≤ (i : Int) := by omega
      have hi30 : (i : Int) ≤ 30 := by omega
      by_cases hlt : i < n
      · have hltz : (i : Int) < (n : Int) := by omega
        obtain ⟨mb, mo, hga, m0, m1, m2⟩ := (HM.out.1.grow HI.out.low) i (by rw [HM.out.2]; exact hlt)
        obtain ⟨C, hC⟩ : ∃ C, M[i]'(by rw [HM.out.2]; exact hlt) = C := ⟨_, rfl⟩
        have HMc := Lib.hid (fun (X : World) (hX : Below W.heap.size W X) => (by
          obtain ⟨mb', mo', hga', m0, m1, m2⟩ := (HM.out.1.grow hX) i (by rw [HM.out.2]; exact hlt)
          rw [hga] at hga'
          cases hga'
          rw [hC] at m0 m1 m2
          exact ⟨m0, m1, m2⟩ : X.cell? ⟨mb, mo + i * 3, none⟩ = some (.string C.key) ∧ X.cell? ⟨mb, mo + i * 3 + 1, none⟩ = some (.bool C.has) ∧ X.cell? ⟨mb, mo + i * 3 + 2, none⟩ = some (.string C.val)))
        rw [hC] at m0 m1 m2
        have HKn := Lib.hid (fun hk : C.key.size ≤ 100 => (by
          intro C' h'
          rw [List.take_add_one, List.mem_append] at h'
          rcases h' with h' | h'
          · exact HK.out C' h'
          · rw [List.getElem?_eq_getElem (by rw [HM.out.2]; exact hlt), Option.toList_some, List.mem_singleton, hC] at h'
            rw [h']; exact hk : ∀ C' ∈ M.take (i + 1), C'.key.size ≤ 100))
        subst hga
        rw [hnl]
        clear hC hnl HK
        by_cases hbig : 100 < C.key.size ∨ 200 < C.val.size
        · have hor : (100 : Int) < (C.key.size : Int) ∨ (¬ (100 : Int) < (C.key.size : Int) ∧ (200 : Int) < (C.val.size : Int)) := by omega
          clear hbig
          rcases hor with h1 | ⟨h1, h2⟩
          all_goals
            go_wp2_with fail
            refine (rawake_any _).mono ?_
            rintro en w5 ⟨rfl, hb⟩
            have B5 := Lib.hid (HI.out.low.trans (hb.mono HI.out.low.size))
            clear hb
            go_wp2_with fail
            go_ret
            exact Says.mk rfl B5.out
        · have h1 : ¬ (100 : Int) < (C.key.size : Int) := by omega
          have h2 : ¬ (200 : Int) < (C.val.size : Int) := by omega
          have hk100 : C.key.size ≤ 100 := by omega
          have hv200 : C.val.size ≤ 200 := by omega
          have hwu : IntKind.u64.wrap (i : Int) = (i : Int) := by
            have : IntKind.u64.wrap (i : Int) = (i : Int) % 18446744073709551616 := by simp [IntKind.wrap, IntKind.bits, IntKind.signed]
            omega
          have hwe : IntKind.i64.wrap (ep : Int) = (ep : Int) := IntWalk.i64_in _ (by omega)
          have HK1 := Lib.hid (HKn.out hk100)
          clear hbig HKn
          go_upto_region 10 with fail
          obtain ⟨c0, c1, c2, c3, c4, c5⟩ := HI.out.six
          go_still_tail 8, hmix
          change wpList _ _ _ _ _ wr.drew
          have HI2 := Lib.hid (HI.out.below (below_drew wr))
          clear c0 c1 c2 c3 c4 c5 HI m0 m1 m2
          generalize wr.drew = w5 at HI2 ⊢
          have HLy := Lib.hid (alo_lay HI2.out (by omega) hk100 C.has hv200)
          go_wp2_with fail
          refine HLy.out.mono ?_
          intro en w6 hLy
          rcases hLy with ⟨rfl, hlow⟩ | ⟨rfl, hH⟩
          · have B6 := Lib.hid hlow
            clear hlow HLy HI2
            go_wp2_with fail
            refine (rawake_any _).mono ?_
            rintro en w7 ⟨rfl, hb⟩
            have B7 := Lib.hid (B6.out.trans (hb.mono B6.out.size))
            clear hb
            go_wp2_with fail
            go_ret
            exact Says.mk rfl B7.out
          · have HH := Lib.hid hH
            clear hH HLy HI2
            obtain ⟨m0, m1, m2⟩ := HMc.out _ HH.out.low
            by_cases hle : i ≤ ep
            · have hlez : ¬ (ep : Int) < (i : Int) := by omega
              have hle' : (i : Int) ≤ (ep : Int) := by omega
              cases hh : C.has with
              | true =>
                rw [hh] at m1 HH
                go_upto_region 14 with fail
                go_still_tail 11, hmix
                change wpList _ _ _ _ _ w6.drew
                have HH2 := Lib.hid (HH.out.below (below_drew w6))
                clear m0 m1 m2 HH
                generalize w6.drew = w7 at HH2 ⊢
                have HPt := Lib.hid (alo_put (cap := cap) HH2.out (by omega) hle')
                rw [HNl.out] at HPt
                go_wp2_with fail
                refine HPt.out.mono ?_
                rintro en w8 ⟨g', cap', rfl, h8⟩
                have HI8 := Lib.hid h8
                clear h8 HPt HH2
                go_wp2_with fail
                go_roundw
                case rel => exact ⟨g', cap', _, i + 1, rfl, by go_num, by omega, HK1, HI8⟩
                case measure => simp [intOf]; omega
              | false =>
                rw [hh] at m1 HH
                have HDl := Lib.hid (alo_del (cap := cap) HH.out (by omega) hle')
                rw [HNl.out] at HDl
                go_wp2_with fail
                refine HDl.out.mono ?_
                rintro en w8 ⟨g', cap', rfl, h8⟩
                have HI8 := Lib.hid h8
                clear h8 HDl HH
                go_wp2_with fail
                go_roundw
                case rel => exact ⟨g', cap', _, i + 1, rfl, by go_num, by omega, HK1, HI8⟩
                case measure => simp [intOf]; omega
            · have hlez : (ep : Int) < (i : Int) := by omega
              have HI8 := Lib.hid (alo_late HH.out (by omega))
              clear HH
              go_wp2_with fail
              go_roundw
              case rel => exact ⟨g, cap, L, i + 1, by rw [HNl.out], by go_num, by omega, HK1, HI8⟩
              case measure => simp [intOf]; omega
      · obtain rfl : n = i := by omega
        have hltz : ¬ (n : Int) < (n : Int) := by omega
        have HKa := Lib.hid (by have := HK.out; rw [List.take_of_length_le (by rw [HM.out.2]; exact Nat.le_refl _)] at this; exact this : ∀ C ∈ M, C.key.size ≤ 100)
        clear hnl HK
        go_wp2_with fail
        go_meet
        case rel => exact ⟨g, cap, L, rfl, HKa, HI⟩
  case rest => as_aux_lemma =>
    clear HI
    obtain ⟨g, cap, L, rfl, HK, HI⟩ := hcut
    have hwu : IntKind.u64.wrap (ep : Int) = (ep : Int) := by
      have : IntKind.u64.wrap (ep : Int) = (ep : Int) % 18446744073709551616 := by simp [IntKind.wrap, IntKind.bits, IntKind.signed]
      omega
    have HSt := Lib.hid (alo_store HI.out ⟨he0, he255⟩)
    clear HI
    go_wp2_with fail
    refine HSt.out.mono ?_
    rintro en w5 ⟨rfl, h5⟩
    have HI5 := Lib.hid h5
    clear h5 HSt
    obtain ⟨nl, hnl⟩ : ∃ m, L.length = m := ⟨_, rfl⟩
    have HNl := Lib.hid hnl
    rw [hnl]
    clear hnl
    go_upto_block 2 with fail
    go_cut [] (fun wx => Hid (AloI W a p s q v x (ep : Int) B hp g L (ep : Int) n wx))
    case first => as_aux_lemma =>
      go_wp2_with fail
      go_loopw [10] (fun s10 wr => ∃ i : Nat, s10 = .int .i64 (i : Int) ∧ i ≤ n ∧ Hid (AloI W a p s q v x (ep : Int) B hp g L (ep : Int) n wr)) (fun s10 _ => n - (intOf s10).toNat)
      case atStart => exact ⟨0, rfl, Nat.zero_le _, HI5⟩
      case round => as_aux_lemma =>
        clear HI5
        obtain ⟨i, rfl, hin, HI⟩ := hrel
        have hi0 : (0 : Int) ≤ (i : Int) := by omega
        have hi30 : (i : Int) ≤ 30 := by omega
        by_cases hlt : i < n
        · have hltz : (i : Int) < (n : Int) := by omega
          obtain ⟨mb, mo, hga, m0, m1, m2⟩ := (HM.out.1.grow HI.out.low) i (by rw [HM.out.2]; exact hlt)
          obtain ⟨C, hC⟩ : ∃ C, M[i]'(by rw [HM.out.2]; exact hlt) = C := ⟨_, rfl⟩
          have HMc := Lib.hid (fun (X : World) (hX : Below W.heap.size W X) => (by
            obtain ⟨mb', mo', hga', m0, m1, m2⟩ := (HM.out.1.grow hX) i (by rw [HM.out.2]; exact hlt)
            rw [hga] at hga'
            cases hga'
            rw [hC] at m0
            exact m0 : X.cell? ⟨mb, mo + i * 3, none⟩ = some (.string C.key)))
          rw [hC] at m0
          have hk100 : C.key.size ≤ 100 := by have := HK.out _ (List.getElem_mem (l := M) (n := i) (by rw [HM.out.2]; exact hlt)); rw [hC] at this; exact this
          subst hga
          clear hC m1 m2
          go_upto_region 20 with fail
          obtain ⟨c0, c1, c2, c3, c4, c5⟩ := HI.out.six
          go_still_tail 7, hmix
          change wpList _ _ _ _ _ wr.drew
          have HI2 := Lib.hid (HI.out.below (below_drew wr))
          clear c0 c1 c2 c3 c4 c5 HI m0
          generalize wr.drew = w6 at HI2 ⊢
          have HNw := Lib.hid (alo_new HI2.out hi0 (key := C.key) (by omega))
          go_wp2_with fail
          refine HNw.out.mono ?_
          rintro en w7 ⟨r, rfl, h7⟩
          have HRn := Lib.hid (alo_run h7 (by omega))
          clear h7 HNw HI2
          go_wp2_with fail
          refine HRn.out.mono ?_
          rintro en w8 ⟨k, rfl, hk5, h8⟩
          have HRe := Lib.hid (alo_res h8)
          have hk5z : ¬ (k : Int) < 5 := by omega
          clear h8 HRn
          go_wp2_with fail
          refine HRe.out.mono ?_
          rintro en w9 ⟨mk, rfl, h9⟩
          obtain ⟨tk, htk⟩ : ∃ t, (getD L C.key).isSome = t := ⟨_, rfl⟩
          obtain ⟨vl, hvl⟩ : ∃ t, (getD L C.key).getD ⟨#[]⟩ = t := ⟨_, rfl⟩
          rw [htk, hvl]
          have HI9 := Lib.hid (h9.below (below_alloc w9 (toldO 0 tk vl mk)))
          have HN9 := Lib.hid (World.alloc_heap_new w9 (toldO 0 tk vl mk))
          have HGt := Lib.hid (by have := alo_get (cap := cap) HI9.out (by omega) C.key; rw [htk, hvl, HNl.out] at this; exact this : Calls Try.prog 15 #[.slice (some ⟨g, 0, none⟩) nl cap, .string C.key] (w9.alloc (toldO 0 tk vl mk)) fun en Y => en = .returned (.tuple #[.string vl, .bool tk]) ∧ w9.alloc (toldO 0 tk vl mk) = Y)
          have m0 := HMc.out _ HI9.out.low
          obtain ⟨⟨u0, u1, u2, u3, u4⟩, u5, u6, u7, u8, u9⟩ := told_at HN9.out
          clear h9 HRe htk hvl
          go_wp2_with fail
          refine HGt.out.mono ?_
          rintro en w10 ⟨rfl, rfl⟩
          go_wp2_with fail
          go_roundw
          case rel => exact ⟨i + 1, by go_num, by omega, HI9⟩
          case measure => simp [intOf]; omega
        · obtain rfl : n = i := by omega
          have hltz : ¬ (n : Int) < (n : Int) := by omega
          go_wp2_with fail
          go_meet
          case rel => exact HI
    case rest => as_aux_lemma =>
      clear HI5
      have HI6 := hcut
      go_upto_block 4 with fail
      go_cut [] (fun wx => Hid (AloI W a p s q v x (ep : Int) B hp g L (ep : Int) n wx))
      case first => as_aux_lemma =>
        go_wp2_with fail
        go_loopw [18] (fun s18 wr => ∃ i : Nat, s18 = .int .i64 (i : Int) ∧ (i : Int) ≤ p ∧ Hid (AloI W a p s q v x (ep : Int) B hp g L (ep : Int) n wr)) (fun s18 _ => p.toNat - (intOf s18).toNat)
        case atStart => exact ⟨0, rfl, by have := rightC_bd HRs.out; omega, HI6⟩
        case round => as_aux_lemma =>
          clear HI6
          obtain ⟨i, rfl, hip, HI⟩ := hrel
          have hbd := (rightC_bd HRs.out).2.1
          have hi0 : (0 : Int) ≤ (i : Int) := by omega
          obtain ⟨c0, c1, c2, c3, c4, c5⟩ := HI.out.six
          by_cases hlt : (i : Int) < p
          · have h8 : (i : Int) < 8 := by omega
            have HPn := Lib.hid (alo_pin HI.out (i : Int))
            obtain ⟨cc, hcc⟩ : ∃ cc, pinW a p s q v (i : Int) = cc := ⟨_, rfl⟩
            have HLd := Lib.hid (fun (X : World) (hX : AloI W a p s q v x (ep : Int) B hp g L (ep : Int) n X) => (by have := alo_load hX hlt; rw [hcc] at this; exact this : Calls Try.prog 16 #[.pointer (some ⟨hp, 0, none⟩), .int .u64 1, .int .i64 cc] X fun en Y => en = .returned (TwoV 0 0) ∧ AloI W a p s q v x (ep : Int) B hp g L (ep : Int) n Y))
            rw [hcc] at HPn
            clear hcc
            go_wp2_with fail
            refine HPn.out.mono ?_
            rintro en w7 ⟨rfl, h7⟩
            have HL7 := Lib.hid (HLd.out _ h7)
            clear h7 HPn HI c0 c1 c2 c3 c4 c5
            go_wp2_with fail
            refine HL7.out.mono ?_
            rintro en w8 ⟨rfl, h8⟩
            have HI8 := Lib.hid h8
            clear h8 HL7
            go_wp2_with fail
            go_roundw
            case rel => exact ⟨i + 1, by go_num, by omega, HI8⟩
            case measure => simp [intOf]; omega
          · have HI8 := HI
            go_wp2_with fail
            go_meet
            case rel => exact HI8
      case rest => as_aux_lemma =>
        clear HI6
        have HI7 := hcut
        have HFa := Lib.hid (alo_faults HI7.out)
        go_wp2_with fail
        refine HFa.out.mono ?_
        rintro en w10 ⟨rfl, rfl⟩
        go_wp2_with fail
        refine (rawake_any _).mono ?_
        rintro en w11 ⟨rfl, hb⟩
        have B11 := Lib.hid (HI7.out.low.trans (hb.mono HI7.out.low.size))
        clear hb
        go_wp2_with fail
        go_ret
        exact Says.mk rfl B11.out

end Go.Proofs.Ytpnfbabiibopnaa
