/-
  Whoever reads takes no more acts than its config's bound, and some for each time that the epoch went on meanwhile: the walk.
-/
import Derived.Test.YtpnfbabiibopnaaRdbw
import Derived.Test.YtpnfbabiibopnaaArgs26
import Derived.Deep.DeepCutAuto
import Derived.Deep.CutBlock
import Derived.StillTailTactics
namespace Go.Proofs.Ytpnfbabiibopnaa
open Go Go.RowKit
attribute [local go_sem ↓] Go.wp_at_zero Go.wp_at_succ

set_option maxRecDepth 100000 in
set_option maxHeartbeats 8000000 in
theorem rbound_walk (a p s q v x : Int) (ga : Option Addr) (n c : Nat) (gb : Option Addr) (nb cb : Nat) (M : List ChgD) (L : List Nat) (W : World)
    (hM : Sch W ga M) (hm : M.length = n) (hS : Su W gb L) (hl : L.length = nb) (hL : ∀ u ∈ L, u ≤ 255) :
    Calls Try.prog 4 #[cfV a p s q v x, .slice ga n c, .slice gb nb cb] W (Says true W) := by
  have X0 := Lib.hid (BoxC.start W a p s q v x)
  obtain ⟨c0, c1, c2, c3, c4, c5⟩ := X0.out.six
  have HRr := Lib.hid (fun X : World => cright_any a p s q v x X)
  by_cases hbad : rightC a p s q v = false ∨ 30 < n
  · clear hM hS hl hL hm
    go_enter Try.func4, Try.ntmps4
    go_wp2_with fail
    refine (HRr.out _).mono ?_
    rintro en w1 ⟨rfl, hb⟩
    have B1 := Lib.hid (X0.out.lo.trans (hb.mono X0.out.lo.size))
    clear hb c0 c1 c2 c3 c4 c5 X0
    cases hr : rightC a p s q v with
    | false =>
      clear hbad
      go_wp2_with fail
      refine (rawake_any _).mono ?_
      rintro en w2 ⟨rfl, hb⟩
      have B2 := Lib.hid (B1.out.trans (hb.mono B1.out.size))
      clear hb
      go_wp2_with fail
      go_ret
      exact Says.mk rfl B2.out
    | true =>
      have hz : (30 : Int) < (n : Int) := by
        rcases hbad with e | e
        · rw [hr] at e; cases e
        · omega
      clear hbad
      go_wp2_with fail
      refine (rawake_any _).mono ?_
      rintro en w2 ⟨rfl, hb⟩
      have B2 := Lib.hid (B1.out.trans (hb.mono B1.out.size))
      clear hb
      go_wp2_with fail
      go_ret
      exact Says.mk rfl B2.out
  have hr : rightC a p s q v = true := by
    cases h : rightC a p s q v with
    | true => rfl
    | false => exact absurd (.inl h) hbad
  have hz : ¬ (30 : Int) < (n : Int) := fun h => hbad (.inr (by omega))
  have hn30 : n ≤ 30 := by omega
  rw [hr] at HRr
  have HRs := Lib.hid hr
  have HFl := Lib.hid (fun X : World => field_any X a p s q v x hr)
  have HM := Lib.hid (And.intro hM hm)
  have HS := Lib.hid (And.intro hS (And.intro hl hL))
  -- the first version
  have hbd := rightC_bd hr
  have HV0 := Lib.hid (show ∀ (B hp : Nat) (X : World), Rnd W a p s q v x B hp (fieldD (sizeW a p s q v).toNat) [] X → Calls Try.prog 8 #[.pointer (some ⟨hp, 0, none⟩), cfV a p s q v x, .int .u64 0, .agg #[.string kA, .bool true, .string ⟨#[48]⟩]] X fun en Y => en = .returned (.bool true) ∧ ∃ D G K V N, Rnd W a p s q v x B hp D [] Y ∧ Bnd a p s q v x kA 0 D G K V N ∧ G (cA p) = 0 ∧ D.L.length ≤ 3 from fun B hp X hX => by
    refine (rnd_lay hX (Laid.start hr x (fun _ _ => ⟨0, false, ⟨#[]⟩, 0⟩)) (by show 1 ≤ 900; omega) (ep := 0) (by omega) (key := kA) (by decide) true (val := ⟨#[48]⟩) (by decide)).mono fun en Y hLy => ?_
    have hE0 := findK_empty (d := newF a p s q v x kA) (show 1 ≤ s by omega)
    rcases hLy with ⟨-, -, hbd3⟩ | ⟨rfl, D', G', sh, bl, hY, hsh, hin, -, hL', hG', hl', -⟩
    · have : (findK (fun _ => none) (newF a p s q v x kA) (newF a p s q v x kA).s.toNat 0).1.k = 3 := hbd3
      rw [hE0.1] at this; cases this
    · have hst : sh = (newF a p s q v x kA).way 0 := by rw [hsh]; exact hE0.2.1
      subst hst
      have hwb := wayP_in 0 p hbd.2.1.1 0
      refine ⟨rfl, D', G', _, _, _, hY, ⟨hL', hG' 0 (by omega), by unfold Shelves.put; rw [if_pos rfl], by unfold pushN; rw [if_pos rfl], fun j hj => ?_, by omega⟩, hG' _ (by unfold cA; omega), hl'⟩
      have : j = 0 := by omega
      subst this
      unfold pushV
      rw [if_pos ⟨rfl, rfl⟩]; rfl)
  clear hM hS hl hL hm hbad hr hbd
  go_enter Try.func4, Try.ntmps4
  go_wp2_with fail
  refine (HRr.out _).mono ?_
  rintro en w1 ⟨rfl, hb⟩
  have X1 := Lib.hid (X0.out.below hb)
  clear hb c0 c1 c2 c3 c4 c5 X0
  obtain ⟨c0, c1, c2, c3, c4, c5⟩ := X1.out.six
  go_wp2_with fail
  refine (HFl.out _).mono ?_
  rintro en w2 ⟨B, hp, f2, rfl, hB, h2, hb⟩
  have R2 := Lib.hid (rnd_begin (X1.out.below hb) h2 (Nat.lt_of_lt_of_le (heap_at_lt X1.out.b) hB))
  clear hb h2 hB c0 c1 c2 c3 c4 c5 X1 HRr HFl
  obtain ⟨c0, c1, c2, c3, c4, c5⟩ := R2.out.six
  go_wp2_with fail
  refine (HV0.out _ _ _ R2.out).mono ?_
  rintro en w3 ⟨rfl, D1, G1, K1, V1, N1, h3, hB1, hG1, hl1⟩
  have R3 := Lib.hid h3
  have HB1 := Lib.hid (And.intro hB1 (And.intro hG1 hl1))
  clear h3 hB1 hG1 hl1 R2 HV0 c0 c1 c2 c3 c4 c5
  obtain ⟨c0, c1, c2, c3, c4, c5⟩ := R3.out.six
  go_wp2_with fail
  refine (rnd_rnew R3.out (m := 20004) (HB1.out.1.laid.ctl.few (by omega)) HRs.out (th := 0) (by omega) (key := kA) (by decide)).mono ?_
  rintro en w4 ⟨r, rfl, h4⟩
  have HI := Lib.hid (show BdI W a p s q v x B hp r 0 0 20004 w4 from ⟨D1, G1, K1, V1, N1, _, 10, h4, HB1.out.1, .s1 ⟨rfl, rfl, rfl, rfl, rfl, rfl, rfl⟩ rfl rfl HB1.out.2.1 rfl rfl, by omega, by have := HB1.out.2.2; omega⟩)
  clear h4 R3 HB1 c0 c1 c2 c3 c4 c5
  go_upto_block 0 with fail
  go_cut [9, 10] (fun s9 s10 wx => ∃ e acts : Nat, s9 = .int .i64 (e : Int) ∧ s10 = .int .i64 (acts : Int) ∧ e ≤ n ∧ Hid (BdI W a p s q v x B hp r e acts 20000 wx))
  case first => as_aux_lemma =>
    go_wp2_with fail
    go_loopw [9, 10, 11, 12] (fun s9 s10 s11 s12 wr => ∃ e acts : Nat, s9 = .int .i64 (e : Int) ∧ s10 = .int .i64 (acts : Int) ∧ s11 = .int .u64 (e : Int) ∧ s12 = .int .i64 (e : Int) ∧ e ≤ n ∧ Hid (BdI W a p s q v x B hp r e acts 20004 wr)) (fun _ _ _ s12 _ => n - (intOf s12).toNat)
    case atStart => exact ⟨0, 0, rfl, rfl, rfl, rfl, Nat.zero_le _, HI⟩
    case round => as_aux_lemma =>
      clear HI
      obtain ⟨e, acts, rfl, rfl, rfl, rfl, hen, HI⟩ := hrel
      have he0 : (0 : Int) ≤ (e : Int) := by omega
      have he30 : (e : Int) ≤ 30 := by omega
      by_cases hlt : e < n
      · have hltz : (e : Int) < (n : Int) := by omega
        obtain ⟨mb, mo, hga, m0, m1, m2⟩ := (HM.out.1.grow HI.out.low) e (by rw [HM.out.2]; exact hlt)
        obtain ⟨C, hC⟩ : ∃ C, M[e]'(by rw [HM.out.2]; exact hlt) = C := ⟨_, rfl⟩
        clear m0 m1 m2
        have HMc := Lib.hid (fun (X : World) (hX : Below W.heap.size W X) => (by
          obtain ⟨mb', mo', hga', m0, m1, m2⟩ := (HM.out.1.grow hX) e (by rw [HM.out.2]; exact hlt)
          rw [hga] at hga'
          cases hga'
          rw [hC] at m0 m1 m2
          exact ⟨m0, m1, m2⟩ : X.cell? ⟨mb, mo + e * 3, none⟩ = some (.string C.key) ∧ X.cell? ⟨mb, mo + e * 3 + 1, none⟩ = some (.bool C.has) ∧ X.cell? ⟨mb, mo + e * 3 + 2, none⟩ = some (.string C.val)))
        subst hga
        clear hC
        go_upto_if 52 with fail
        go_cut [13] (fun s13 wx => ∃ k : Nat, s13 = .int .i64 (k : Int) ∧ k ≤ 4 ∧ wr = wx)
        case first => as_aux_lemma =>
          by_cases hin : e < nb
          · have hinz : (e : Int) < (nb : Int) := by omega
            obtain ⟨wb, wo, hgb, w0⟩ := (HS.out.1.grow HI.out.low) e (by rw [HS.out.2.1]; exact hin)
            obtain ⟨u, hu⟩ : ∃ u, L[e]'(by rw [HS.out.2.1]; exact hin) = u := ⟨_, rfl⟩
            have hu255 : u ≤ 255 := by rw [← hu]; exact HS.out.2.2 _ (List.getElem_mem _)
            rw [hu] at w0
            subst hgb
            have h5 : ((u : Int)).tmod 5 = ((u % 5 : Nat) : Int) := by rw [Int.tmod_eq_emod_of_nonneg (by omega)]; omega
            have hwu : IntKind.u8.wrap (((u % 5 : Nat)) : Int) = ((u % 5 : Nat) : Int) := by
              have : IntKind.u8.wrap (((u % 5 : Nat)) : Int) = (((u % 5 : Nat)) : Int) % 256 := by simp [IntKind.wrap, IntKind.bits, IntKind.signed]
              omega
            have hwi : IntKind.i64.wrap (((u % 5 : Nat)) : Int) = ((u % 5 : Nat) : Int) := IntWalk.i64_in _ (by omega)
            have hk4 : u % 5 ≤ 4 := by omega
            generalize u % 5 = k at h5 hwu hwi hk4
            clear hu
            go_wp2_with fail
            go_meet
            case rel => exact ⟨k, by simp, hk4, rfl⟩
          · have hinz : ¬ (e : Int) < (nb : Int) := by omega
            go_wp2_with fail
            go_meet
            case rel => exact ⟨1, rfl, by omega, rfl⟩
        case rest => as_aux_lemma =>
          obtain ⟨kk, rfl, hkk, rfl⟩ := hcut
          have HI0 := Lib.hid (HI.out.mono (m' := 20000 + kk) (by omega))
          go_upto_block 2 with fail
          go_cut [10] (fun s10 wx => ∃ acts' : Nat, s10 = .int .i64 (acts' : Int) ∧ Hid (BdI W a p s q v x B hp r e acts' 20000 wx))
          case first => as_aux_lemma =>
            go_wp2_with fail
            go_loopw [10, 13] (fun s10 s13 wi => ∃ acts' k : Nat, s10 = .int .i64 (acts' : Int) ∧ s13 = .int .i64 (k : Int) ∧ k ≤ 4 ∧ Hid (BdI W a p s q v x B hp r e acts' (20000 + k) wi)) (fun _ s13 _ => (intOf s13).toNat)
            case atStart => exact ⟨acts, kk, rfl, rfl, hkk, HI0⟩
            case round => as_aux_lemma =>
              clear HI HI0
              obtain ⟨acts', k, rfl, rfl, hk4, HI⟩ := hrel
              have ha0 : (0 : Int) ≤ (acts' : Int) := by omega
              have ha70 : (acts' : Int) ≤ 70 := by have := HI.out.bd; omega
              by_cases hk : 0 < k
              · have hkz : (0 : Int) < (k : Int) := by omega
                have hk4z : (k : Int) ≤ 4 := by omega
                obtain ⟨k', rfl⟩ : ∃ k', k = k' + 1 := ⟨k - 1, by omega⟩
                have HAc := Lib.hid (bdi_act HI.out)
                go_wp2_with fail
                refine HAc.out.mono ?_
                rintro en w5 ⟨y, is, rfl, hy8, h5⟩
                have HI5 := Lib.hid (h5.below (below_alloc w5 (actO y)))
                have HN5 := Lib.hid (World.alloc_heap_new w5 (actO y))
                have hy8b : (y.kind == 8) = false := by simpa using hy8
                clear h5 HI HAc hy8
                obtain ⟨y0, y1, y2, y3, y4, y5⟩ := six_at HN5.out
                have HNx := Lib.hid (bdi_next (m := 20000 + k') HI5.out)
                go_wp2_with fail
                refine HNx.out.mono ?_
                rintro en w6 ⟨st, is2, rfl, h6⟩
                have HI6 := Lib.hid (h6.below (below_alloc w6 (stepO st)))
                clear h6 HI5 HN5 y0 y1 y2 y3 y4 y5 HNx
                cases is2 with
                | true =>
                  go_wp2_with fail
                  go_roundw
                  case rel => exact ⟨acts' + 1, k', by go_num, by go_num, by omega, HI6⟩
                  case measure => simp [intOf]
                | false =>
                  go_wp2_with fail
                  go_roundw
                  case rel => exact ⟨acts', k', rfl, by go_num, by omega, HI6⟩
                  case measure => simp [intOf]
              · have hkz : ¬ (0 : Int) < (k : Int) := by omega
                obtain rfl : k = 0 := by omega
                go_wp2_with fail
                go_meet
                case rel => exact ⟨acts', rfl, HI⟩
          case rest => as_aux_lemma =>
            obtain ⟨acts', rfl, HI5⟩ := hcut
            clear HI HI0
            have HRe := Lib.hid (bdi_res HI5.out)
            go_wp2_with fail
            refine HRe.out.mono ?_
            rintro en w6 ⟨tc, tk, vl, mk, is, rfl, h6⟩
            have HI6 := Lib.hid (h6.below (below_alloc w6 (toldO tc tk vl mk)))
            clear h6 HI5 HRe
            cases is with
            | true =>
              go_wp2_with fail
              go_meet
              case rel => exact ⟨e, acts', rfl, rfl, hen, HI6⟩
            | false =>
              obtain ⟨m0, m1, m2⟩ := HMc.out _ HI6.out.low
              have HI7 := Lib.hid (HI6.out.below (below_alloc (w6.alloc (toldO tc tk vl mk)) (chO kA C.has C.val)))
              have HN7 := Lib.hid (World.alloc_heap_new (w6.alloc (toldO tc tk vl mk)) (chO kA C.has C.val))
              obtain ⟨c0, c1, c2, c3, c4, c5⟩ := HI7.out.six
              obtain ⟨v0, v1, v2⟩ := ch_at HN7.out
              rw [World.size_alloc] at v0 v1 v2
              by_cases hv : 100 < C.val.size
              · have hvz : (100 : Int) < (C.val.size : Int) := by omega
                clear hv
                go_wp2_with fail
                refine (rawake_any _).mono ?_
                rintro en w8 ⟨rfl, hb⟩
                have B8 := Lib.hid (HI7.out.low.trans (hb.mono HI7.out.low.size))
                clear hb
                go_wp2_with fail
                go_ret
                exact Says.mk rfl B8.out
              · have hvz : ¬ (100 : Int) < (C.val.size : Int) := by omega
                have HLy := Lib.hid (bdi_lay HI7.out (by omega) C.has (val := C.val) (by omega))
                have hwe : IntKind.u64.wrap ((e : Int) + 1) = (e : Int) + 1 := by
                  have : IntKind.u64.wrap ((e : Int) + 1) = ((e : Int) + 1) % 18446744073709551616 := by simp [IntKind.wrap, IntKind.bits, IntKind.signed]
                  omega
                have hwi : IntKind.i64.wrap ((e : Int) + 1) = (e : Int) + 1 := IntWalk.i64_in _ (by omega)
                clear hv
                go_wp2_with fail
                refine HLy.out.mono ?_
                intro en w8 hLy
                rcases hLy with ⟨rfl, hlow⟩ | ⟨rfl, hLd⟩
                · have B7 := Lib.hid hlow
                  clear hlow HLy
                  go_wp2_with fail
                  refine (rawake_any _).mono ?_
                  rintro en w9 ⟨rfl, hb⟩
                  have B8 := Lib.hid (B7.out.trans (hb.mono B7.out.size))
                  clear hb
                  go_wp2_with fail
                  go_ret
                  exact Says.mk rfl B8.out
                · have HSt := Lib.hid (bdi_store hLd (by omega))
                  clear hLd HLy c0 c1 c2 c3 c4 c5 v0 v1 v2 m0 m1 m2 HI6 HI7 HN7
                  go_wp2_with fail
                  refine HSt.out.mono ?_
                  rintro en w9 ⟨rfl, h9⟩
                  have HI9 := Lib.hid h9
                  clear h9 HSt
                  go_wp2_with fail
                  go_roundw
                  case rel => exact ⟨e + 1, acts', by go_num, rfl, by go_num, by go_num, by omega, HI9⟩
                  case measure => simp [intOf]; omega
      · obtain rfl : n = e := by omega
        have hltz : ¬ (n : Int) < (n : Int) := by omega
        have HI2 := Lib.hid (HI.out.mono (m' := 20000) (by omega))
        go_wp2_with fail
        go_meet
        case rel => exact ⟨n, acts, rfl, rfl, Nat.le_refl _, HI2⟩
  case rest => as_aux_lemma =>
    clear HI
    obtain ⟨e, acts, rfl, rfl, hen, HI⟩ := hcut
    have he0 : (0 : Int) ≤ (e : Int) := by omega
    have he30 : (e : Int) ≤ 30 := by omega
    have hac := HI.out.bd
    have HAl := Lib.hid (bdi_alone HI.out (by omega) (by omega))
    clear HI
    go_wp2_with fail
    refine HAl.out.mono ?_
    rintro en w5 ⟨k, D', R', m', rfl, hk, h5, hc0, hf, hR⟩
    have R5 := Lib.hid hR
    have HRs5 := Lib.hid (rnf_rres hR)
    have HF := Lib.hid (And.intro h5 (And.intro hc0 (And.intro hf hk)))
    clear hR h5 hc0 hf HAl
    go_wp2_with fail
    refine HRs5.out.mono ?_
    rintro en w6 ⟨⟨cc, tk, vl, mk, is, rfl, hE⟩, h6⟩
    obtain ⟨rfl, rfl⟩ := hE HF.out.1
    rw [HF.out.2.1]
    have R6 := Lib.hid (h6.drop.add (toldO 0 tk vl mk))
    clear h6 R5 HRs5 hE
    obtain ⟨⟨u0, u1, u2, u3, u4⟩, u5, u6, u7, u8, u9⟩ := told_at (R6.out.kept (List.mem_cons_self ..))
    obtain ⟨c0, c1, c2, c3, c4, c5⟩ := R6.out.six
    have hbd := rightC_bd HRs.out
    have hk0 : (0 : Int) ≤ (k : Int) := by omega
    have hk100 : (acts : Int) + (k : Int) ≤ 10 + 2 * (e : Int) := by omega
    have hwr : IntKind.i64.wrap ((acts : Int) + (k : Int)) = (acts : Int) + (k : Int) := IntWalk.i64_in _ (by omega)
    have hle : (acts : Int) + (k : Int) ≤ p + 2 * s + 9 + 4 * (e : Int) := by omega
    have HMo := Lib.hid (fun X => rmost_any X a p s q v x (e : Int) HRs.out (by omega))
    go_wp2_with fail
    refine (HMo.out _).mono ?_
    rintro en w7 ⟨rfl, hb⟩
    have R7 := Lib.hid (R6.out.below hb)
    clear hb R6 u0 u1 u2 u3 u4 u5 u6 u7 u8 u9 c0 c1 c2 c3 c4 c5
    have HFa := Lib.hid (by have := rnd_faults R7.out; rw [HF.out.2.2.1] at this; exact this : Calls Try.prog 18 #[.pointer (some ⟨hp, 0, none⟩)] w7 fun e Y => e = .returned (.int .i64 ((0 : Nat) : Int)) ∧ w7 = Y)
    go_wp2_with fail
    refine HFa.out.mono ?_
    rintro en w8 ⟨rfl, rfl⟩
    go_wp2_with fail
    refine (rawake_any _).mono ?_
    rintro en w9 ⟨rfl, hb⟩
    have B9 := Lib.hid (R7.out.lo.trans (hb.mono R7.out.lo.size))
    clear hb
    go_wp2_with fail
    go_ret
    exact Says.mk rfl B9.out

end Go.Proofs.Ytpnfbabiibopnaa
