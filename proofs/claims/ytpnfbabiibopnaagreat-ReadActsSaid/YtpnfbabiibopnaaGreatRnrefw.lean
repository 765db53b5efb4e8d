/-
  The reference's Pin on a tape: the walk.
-/
import Derived.Test.YtpnfbabiibopnaaGreatRnref
import Derived.Deep.DeepCutAuto
import Derived.Deep.CutBlock
namespace Go.Proofs.YtpnfbabiibopnaaGreat
open Go Go.RowKit
attribute [local go_sem ↓] Go.wp_at_zero Go.wp_at_succ

set_option maxRecDepth 100000 in
set_option maxHeartbeats 8000000 in
theorem rpin_any {σ : Type} {M : Mach σ} {ι : Nat → PinD → σ} {I : PinD → Prop} {em : Emb PinM M ι I} {R0 : σ} (W : World) {b c : Nat} {ga : Option Addr} {G : List (Int × ByteArray)} {TB : TapD} (h : TapAt W b ga c G TB) (hga : ∀ a, ga = some a → a.block < W.heap.size) (hG : ∀ g ∈ G, (0 ≤ g.1 ∧ g.1 < 18446744073709551616))
    (a p s q v x th : Int) (hr : rightC a p s q v = true) (hth : 0 ≤ th) (hF : Foi em G R0 TB (newP a p s q v x th)) :
    Calls Tryz.prog 26 #[.pointer (some ⟨b, 0, none⟩), cfV a p s q v x, .int .i64 th] W (PrefR em R0 a p s q v x th b ga c G W) := by
  obtain ⟨⟨a1, a32⟩, ⟨p1, p8⟩, s1, s64⟩ := rightC_bd hr
  have HRs := Lib.hid hr
  have HGs := Lib.hid hG
  have HGa := Lib.hid hga
  have HLd := Lib.hid (fun (X : World) (T : TapD) (hX : TapAt X b ga c G T) (hs : W.heap.size ≤ X.heap.size) => (by have := tape_load hX (fun y hy => Nat.lt_of_lt_of_le (hga y hy) hs) 1 0; exact this :
    Calls Tryz.prog 57 #[.pointer (some ⟨b, 0, none⟩), .int .u64 1, .int .i64 0] X (TapR b ga c G (onT G T loadE) (.int .u64 (doW' G T)) X)))
  have HSw := Lib.hid (fun (X : World) (T : TapD) (cc : Nat) (e : Int) (hX : TapAt X b ga c G T) (hs : W.heap.size ≤ X.heap.size) => (by have := tape_swap hX (fun y hy => Nat.lt_of_lt_of_le (hga y hy) hs) 1 (cc : Int) 0 (upE e); exact this :
    Calls Tryz.prog 59 #[.pointer (some ⟨b, 0, none⟩), .int .u64 1, .int .i64 (cc : Int), .int .u64 0, .int .u64 (upE e)] X (TapR b ga c G (onT G T (swapE cc e)) (.int .u64 (doW' G T)) X)))
  have HSt := Lib.hid (fun (X : World) (T : TapD) (cc : Nat) (e : Int) (hX : TapAt X b ga c G T) (hs : W.heap.size ≤ X.heap.size) => (by have := tape_store hX (fun y hy => Nat.lt_of_lt_of_le (hga y hy) hs) 1 (cc : Int) (upE e); exact this :
    Calls Tryz.prog 60 #[.pointer (some ⟨b, 0, none⟩), .int .u64 1, .int .i64 (cc : Int), .int .u64 (upE e)] X (TapR b ga c G (onT G T (storeE cc e)) (.tuple #[]) X)))
  have HAt := Lib.hid (fun (i : Int) (X : World) => rat_pin a p s q v x i X hr)
  have HB := show Below W.heap.size W ((W.alloc (.cells #[.int .i64 a, .int .i64 p, .int .i64 s, .int .i64 q, .int .i64 v, .int .u64 x] 24)).alloc (rpnO 0 0 false)) from (below_alloc W _).trans ((below_alloc _ _).mono (by simp))
  have hcf := show ((W.alloc (.cells #[.int .i64 a, .int .i64 p, .int .i64 s, .int .i64 q, .int .i64 v, .int .u64 x] 24)).alloc (rpnO 0 0 false)).heap[W.heap.size]? = some (.cells (cfC a p s q v x) 24 (0, 0)) from
    ((below_alloc (W.alloc (.cells #[.int .i64 a, .int .i64 p, .int .i64 s, .int .i64 q, .int .i64 v, .int .u64 x] 24)) (rpnO 0 0 false)).block _ (by simp)).trans (World.alloc_heap_new W _)
  have hre := show ((W.alloc (.cells #[.int .i64 a, .int .i64 p, .int .i64 s, .int .i64 q, .int .i64 v, .int .u64 x] 24)).alloc (rpnO 0 0 false)).heap[W.heap.size + 1]? = some (rpnO 0 0 false) from by
    have := World.alloc_heap_new (W.alloc (.cells #[.int .i64 a, .int .i64 p, .int .i64 s, .int .i64 q, .int .i64 v, .int .u64 x] 24)) (rpnO 0 0 false); rwa [World.size_alloc] at this
  have HI := Lib.hid (show PrefI W a p s q v x b ga c G TB _ from ⟨h.below HB, hcf, hre, Step.of_below HB, heap_at_lt h.own⟩)
  have hnl := new_load p1 hF hG
  obtain ⟨e0, he0⟩ : ∃ e, doW' G TB = e := ⟨_, rfl⟩
  obtain ⟨T0, hT0⟩ : ∃ T, onT G TB loadE = T := ⟨_, rfl⟩
  rw [he0, hT0] at hnl
  have HL0 := Lib.hid (HLd.out _ TB HI.out.tp HI.out.st.size)
  rw [he0, hT0] at HL0
  have HNl := Lib.hid hnl.2.2
  obtain ⟨m0, hm0⟩ : ∃ m, th % p = m := ⟨_, rfl⟩
  have hmm0 := Int.emod_nonneg th (show p ≠ 0 by omega)
  have hmm1 := Int.emod_lt_of_pos th (show 0 < p by omega)
  have htm := tmod_of (a := p) hth
  rw [hm0] at hmm0 hmm1 htm
  have hwm : IntKind.i64.wrap m0 = m0 := awrap (by omega)
  have HWy := Lib.hid (show ∀ i : Nat, wayP th p i = (m0 + (i : Int)) % p from fun i => by rw [← hm0]; rfl)
  have hp0 : ¬ p = 0 := by omega
  clear h hga hG hr hth hF HB hcf hre hnl he0 hT0 hm0 a1 a32 s1 s64
  go_enter Tryz.func26, Tryz.ntmps26
  go_wp2_with fail
  refine HL0.out.mono ?_
  rintro en w1 ⟨rfl, h1, s1⟩
  have HI1 := Lib.hid (HI.out.next h1 s1)
  clear h1 s1 HI HL0
  go_wp2_with fail
  go_loopw [7, 8] (fun s7 s8 wr => ∃ (e : Int) (i : Nat) (T : TapD), s7 = .int .u64 e ∧ s8 = .int .i64 (i : Int) ∧ (i : Int) ≤ p ∧ Hid (HeadP em R0 a p s q v x th G i e T) ∧ Hid (PrefI W a p s q v x b ga c G T wr)) (fun _ s8 _ => p.toNat - (intOf s8).toNat)
  case atStart => exact ⟨e0, 0, T0, rfl, rfl, by omega, HNl, HI1⟩
  case round => as_aux_lemma =>
    clear HI1 HNl
    obtain ⟨e, i, T, rfl, rfl, hip, HH, HI⟩ := hrel
    have hi0 : (0 : Int) ≤ (i : Int) := by omega
    obtain ⟨c0, c1, c2, c3, c4, c5⟩ := HI.out.six
    have m2 := HI.out.tp.nine.1.2.2.1
    obtain ⟨r0, r1, r2⟩ := pnd_at HI.out.re
    have z0 := pnd_free HI.out.re 0
    have z1 := pnd_free HI.out.re 1
    have z2 := pnd_free HI.out.re 2
    by_cases hlt : (i : Int) < p
    · rcases HH.out with ho | hf
      · rw [ho.on] at m2
        have HR := Lib.hid (show PinR em a p s q v x th G R0 T (0, 0, true) from .inl ho)
        clear ho HH
        go_wp2_with fail
        exact pref_fin HI.out HGa.out HR.out rfl
      · rw [hf.on] at m2
        have hf' := hf
        rw [if_pos hlt] at hf'
        obtain ⟨w0, w1'⟩ := wayP_in th p p1 i
        obtain ⟨wy, hwy⟩ : ∃ wy, wayP th p i = wy := ⟨_, rfl⟩
        have hwy2 := HWy.out i
        rw [hwy] at hwy2 w0 w1'
        obtain ⟨cc, hcc⟩ : ∃ cc, (3 + wy).toNat = cc := ⟨_, rfl⟩
        have hcw : (3 + wayP th p i).toNat = cc := by rw [hwy]; exact hcc
        have htm2 := tmod_of (i := m0 + (i : Int)) (a := p) (by omega)
        rw [← hwy2] at htm2
        have hws : IntKind.i64.wrap (m0 + (i : Int)) = m0 + (i : Int) := awrap (by omega)
        have hwm2 : IntKind.i64.wrap wy = wy := awrap (by omega)
        have hpw : pinW a p s q v wy = (cc : Int) := by rw [pinW_in HRs.out w0 w1']; omega
        have HPw := Lib.hid hpw
        have HHs := Lib.hid (head_swap hf' HRs.out hlt HGs.out hcw)
        have HHst := Lib.hid (fun (T : TapD) (e' : Int) (h : Foi em G R0 T ((tryP a p s q v x th e' i).to 4)) => had_store h HRs.out HGs.out hcw)
        have HHl := Lib.hid (fun (T : TapD) (e' : Int) (h : Foi em G R0 T ((tryP a p s q v x th e' i).to 3)) => (by have := had_load h hlt HGs.out; rw [hwy] at this; exact this :
          Ovr M G R0 (onT G T loadE) ∨
          (doW' G T = e' ∧ (onT G T loadE).over = false ∧ PinR em a p s q v x th G R0 (onT G T loadE) (wy, e', false)) ∨
          (∃ w, doW' G T = w ∧ w ≠ e' ∧ (onT G T loadE).over = false ∧ (onT G T loadE).k = T.k + 1 ∧ Foi em G R0 (onT G T loadE) ((tryP a p s q v x th w i).to 4))))
        have HAw := Lib.hid (fun X : World => (by have := HAt.out wy X; rw [hpw] at this; exact this : Calls Tryz.prog 58 #[cfV a p s q v x, .string ⟨#[112, 105, 110]⟩, .int .i64 wy] X (Tells (cc : Int) X)))
        obtain ⟨up, hup⟩ : ∃ u, upE e = u := ⟨_, rfl⟩
        have hup2 : IntKind.u64.wrap (e + 1) = up := hup
        have HSe := Lib.hid (fun (X : World) (hX : TapAt X b ga c G T) (hs : W.heap.size ≤ X.heap.size) => (by have := HSw.out X T cc e hX hs; rw [hup] at this; exact this :
          Calls Tryz.prog 59 #[.pointer (some ⟨b, 0, none⟩), .int .u64 1, .int .i64 (cc : Int), .int .u64 0, .int .u64 up] X (TapR b ga c G (onT G T (swapE cc e)) (.int .u64 (doW' G T)) X)))
        clear hf hf' hwy hwy2 hcc hcw hpw HH hup r0 r1 r2 z0 z1 z2
        go_upto_region 5 with fail
        go_quiet (fail)
        rename Nat => nq
        have HI2 := Lib.hid (HI.out.below (below_draws wr nq))
        clear c0 c1 c2 c3 c4 c5 m2 HI
        generalize wr.drewN nq = w2 at HI2 ⊢
        obtain ⟨c0, c1, c2, c3, c4, c5⟩ := HI2.out.six
        go_wp2_with fail
        refine (HAw.out _).mono ?_
        rintro en w3 ⟨rfl, hb⟩
        have HI3 := Lib.hid (HI2.out.below hb)
        clear c0 c1 c2 c3 c4 c5 hb HI2
        go_wp2_with fail
        refine (HSe.out _ HI3.out.tp HI3.out.st.size).mono ?_
        rintro en w4 ⟨rfl, h4, s4⟩
        have HI4 := Lib.hid (HI3.out.next h4 s4)
        clear h4 s4 HI3
        rcases HHs.out with ⟨hz, hh⟩ | ⟨w, hz, hw, hh⟩
        · rw [hz]
          have HH2 := Lib.hid hh
          clear hz hh HHs
          go_upto_block 2 with fail
          generalize onT G T (swapE (cc : Int) e) = T2 at HH2 HI4
          go_wp2_with fail
          go_loopw [7] (fun s7 wi => ∃ (e' : Int) (T' : TapD), s7 = .int .u64 e' ∧ Hid (HadP em R0 a p s q v x th G i e' T') ∧ Hid (PrefI W a p s q v x b ga c G T' wi)) (fun _ wi => G.length - kAt b wi)
          case atStart => exact ⟨e, T2, rfl, HH2, HI4⟩
          case round => as_aux_lemma =>
            clear HH2 HI4
            obtain ⟨e', T', rfl, HH, HI⟩ := hrel
            have m2 := HI.out.tp.nine.1.2.2.1
            rcases HH.out with ho | hf
            · rw [ho.on] at m2
              clear HH
              go_wp2_with fail
              go_roundw
              case rel => exact ⟨e', i + 1, T', rfl, by go_num, by omega, Lib.hid (.inl ho), HI⟩
              case measure => simp [intOf]; omega
            · rw [hf.on] at m2
              have HL := Lib.hid (HLd.out _ T' HI.out.tp HI.out.st.size)
              have HKa := Lib.hid HI.out.tp.kAt
              have hcs := HHl.out T' e' hf
              obtain ⟨w, hw⟩ : ∃ w, doW' G T' = w := ⟨_, rfl⟩
              obtain ⟨T1, hT1⟩ : ∃ T, onT G T' loadE = T := ⟨_, rfl⟩
              rw [hw, hT1] at HL
              rw [hw, hT1] at hcs
              clear hf HH hw hT1
              go_wp2_with fail
              refine HL.out.mono ?_
              rintro en w5 ⟨rfl, h5, s5⟩
              have HI5 := Lib.hid (HI.out.next h5 s5)
              clear h5 s5 HL m2
              have m2 := HI5.out.tp.nine.1.2.2.1
              obtain ⟨r0, r1, r2⟩ := pnd_at HI5.out.re
              have z0 := pnd_free HI5.out.re 0
              have z1 := pnd_free HI5.out.re 1
              have z2 := pnd_free HI5.out.re 2
              rcases hcs with ho | ⟨rfl, ho, hr⟩ | ⟨w', rfl, hne, ho, hk, hf⟩
              · rw [ho.on] at m2
                have HR := Lib.hid (show PinR em a p s q v x th G R0 T1 (wy, e', false) from .inl ho)
                clear ho
                go_wp2_with fail
                exact pref_fin HI5.out HGa.out HR.out rfl
              · rw [ho] at m2
                have HR := Lib.hid hr
                clear ho hr
                go_wp2_with fail
                exact pref_fin HI5.out HGa.out HR.out rfl
              · rw [ho] at m2
                have hneb : (w == e') = false := by simpa using hne
                have hst := HHst.out T1 w hf
                have HSs := Lib.hid (HSt.out _ T1 cc w HI5.out.tp HI5.out.st.size)
                obtain ⟨u2, hu2⟩ : ∃ u, upE w = u := ⟨_, rfl⟩
                have hu3 : IntKind.u64.wrap (w + 1) = u2 := hu2
                rw [hu2] at HSs
                have HHs2 := Lib.hid hst.1
                have HK2 := Lib.hid (show T'.k < (onT G T1 (storeE (cc : Int) w)).k ∧ T'.k < G.length from ⟨by have := hst.2; omega, by have := HI5.out.tp.k; omega⟩)
                generalize onT G T1 (storeE (cc : Int) w) = T3 at HSs HHs2 HK2
                clear hne ho hk hf hst hu2 r0 r1 r2 z0 z1 z2
                go_wp2_with fail
                refine HSs.out.mono ?_
                rintro en w6 ⟨rfl, h6, s6⟩
                have HI6 := Lib.hid (HI5.out.next h6 s6)
                clear h6 s6 HI5 HSs m2
                go_wp2_with fail
                go_roundw
                case rel => exact ⟨w, T3, rfl, HHs2, HI6⟩
                case measure => rw [HI6.out.tp.kAt, HKa.out]; have := HK2.out; omega
        · rw [hz]
          have HH2 := Lib.hid hh
          have hwb : (w != 0) = true := by simpa using hw
          clear hz hh HHs hw
          go_wp2_with fail
          go_roundw
          case rel => exact ⟨e, i + 1, _, rfl, by go_num, by omega, HH2, HI4⟩
          case measure => simp [intOf]; omega
    · have HR := Lib.hid (show PinR em a p s q v x th G R0 T (0, 0, true) from HH.out.elim .inl (fun hf => by
        rw [if_neg hlt] at hf
        exact .inr (.inl ⟨hf, rfl⟩)))
      clear HH
      go_wp2_with fail
      exact pref_fin HI.out HGa.out HR.out rfl

end Go.Proofs.YtpnfbabiibopnaaGreat
