/-
  Alone a thread takes a free pin, or finds all taken: the walk.
-/
import Derived.Test.YtgigjbngocfkbaaPnaw
import Derived.Test.YtgigjbngocfkbaaArgsr
import Derived.Deep.DeepCutAuto
import Derived.Deep.CutBlock
namespace Go.Proofs.Ytgigjbngocfkbaa
open Go Go.RowKit
attribute [local go_sem ↓] Go.wp_at_zero Go.wp_at_succ

/-- Between two rounds. -/
def TknI (W : World) (a p s q v x : Int) (B hp : Nat) (tk : Nat → Bool) (j : Nat) (X : World) : Prop :=
  ∃ D, Rnd W a p s q v x B hp D [] X ∧ Ctl (sizeW a p s q v).toNat D (takG tk j)

set_option maxRecDepth 100000 in
set_option maxHeartbeats 8000000 in
theorem palone_walk (a p s q v x : Int) (th : Nat) (hth : th ≤ 255) (ga : Option Addr) (n c : Nat) (L : List Bool) (W : World)
    (hS : Sbl W ga L) (hl : L.length = n) :
    Calls Try.prog 5 #[cfV a p s q v x, .int .u8 (th : Int), .slice ga n c] W (Says true W) := by
  have X0 := Lib.hid (BoxC.start W a p s q v x)
  obtain ⟨c0, c1, c2, c3, c4, c5⟩ := X0.out.six
  have HRr := Lib.hid (fun X : World => cright_any a p s q v x X)
  cases hr : rightC a p s q v with
  | false =>
    rw [hr] at HRr
    clear hS hl hth hr
    go_enter Try.func5, Try.ntmps5
    go_wp2_with fail
    refine (HRr.out _).mono ?_
    rintro en w1 ⟨rfl, hb⟩
    have B1 := Lib.hid (X0.out.lo.trans (hb.mono X0.out.lo.size))
    clear hb c0 c1 c2 c3 c4 c5 X0
    go_wp2_with fail
    refine (pawake_any _).mono ?_
    rintro en w2 ⟨rfl, hb⟩
    have B2 := Lib.hid (B1.out.trans (hb.mono B1.out.size))
    clear hb
    go_wp2_with fail
    go_ret
    exact Says.mk rfl B2.out
  | true =>
  rw [hr] at HRr
  have HRs := Lib.hid hr
  have HFl := Lib.hid (fun X : World => field_any X a p s q v x hr)
  obtain ⟨⟨a1, a32⟩, ⟨p1, p8⟩, s1, s64⟩ := rightC_bd hr
  have hsz : sizeW a p s q v = 3 + p + a + 2 * s := if_pos hr
  have HSz := Lib.hid (show (((sizeW a p s q v).toNat : Nat) : Int) = sizeW a p s q v ∧ 3 + p + 3 ≤ sizeW a p s q v from ⟨by omega, by omega⟩)
  obtain ⟨np, rfl⟩ : ∃ np : Nat, p = np := ⟨p.toNat, by omega⟩
  obtain ⟨tk, htk⟩ : ∃ tk : Nat → Bool, ∀ j, tk j = (decide (j < L.length) && L.getD j false) := ⟨fun j => decide (j < L.length) && L.getD j false, fun j => rfl⟩
  have HTk := Lib.hid (fun (X : World) (hX : Below W.heap.size W X) (j : Nat) (hj : j < n) => (by
    obtain ⟨b, o, e, hc⟩ := (hS.grow hX) j (by omega)
    refine ⟨b, o, e, ?_⟩
    rw [htk j, hc, decide_eq_true (by omega : j < L.length), Bool.true_and, List.getD_eq_getElem?_getD, List.getElem?_eq_getElem (by omega)]
    rfl : ∃ b o, ga = some ⟨b, o, none⟩ ∧ X.cell? ⟨b, o + j, none⟩ = some (.bool (tk j))))
  have HTn := Lib.hid (fun (j : Nat) (hj : ¬ j < n) => (by rw [htk j, decide_eq_false (by omega : ¬ j < L.length)]; rfl : tk j = false))
  have hth0 : (0 : Int) ≤ (th : Int) := by omega
  have hth1 : (th : Int) ≤ 255 := by omega
  clear hS hl hr hsz htk a1 a32 s1 s64 hth
  go_enter Try.func5, Try.ntmps5
  go_wp2_with fail
  refine (HRr.out _).mono ?_
  rintro en w1 ⟨rfl, hb⟩
  have X1 := Lib.hid (X0.out.below hb)
  clear hb c0 c1 c2 c3 c4 c5 X0
  obtain ⟨c0, c1, c2, c3, c4, c5⟩ := X1.out.six
  go_wp2_with fail
  refine (HFl.out _).mono ?_
  rintro en w2 ⟨B, hp, f2, rfl, hB, h2, hb⟩
  have HI := Lib.hid (show TknI W a np s q v x B hp tk 0 w2 from ⟨_, rnd_begin (X1.out.below hb) h2 (Nat.lt_of_lt_of_le (heap_at_lt X1.out.b) hB), (Ctl.start _).same (fun i _ => by unfold takG; rw [if_neg (fun h => by omega)])⟩)
  clear hb h2 hB c0 c1 c2 c3 c4 c5 X1 HRr HFl
  go_upto_block 0 with fail
  go_cut [8] (fun s8 wx => s8 = .int .i64 ((freeN tk np : Nat) : Int) ∧ Hid (TknI W a np s q v x B hp tk np wx))
  case first => as_aux_lemma =>
    go_wp2_with fail
    go_loopw [8, 9] (fun s8 s9 wr => ∃ j : Nat, s8 = .int .i64 ((freeN tk j : Nat) : Int) ∧ s9 = .int .i64 (j : Int) ∧ j ≤ np ∧ Hid (TknI W a np s q v x B hp tk j wr)) (fun _ s9 _ => np - (intOf s9).toNat)
    case atStart => exact ⟨0, rfl, rfl, Nat.zero_le _, HI⟩
    case round => as_aux_lemma =>
      clear HI
      obtain ⟨j, rfl, rfl, hjp, HI⟩ := hrel
      obtain ⟨D, hR, hC⟩ := HI.out
      have HR := Lib.hid hR
      have HC := Lib.hid hC
      obtain ⟨c0, c1, c2, c3, c4, c5⟩ := hR.six
      have hj0 : (0 : Int) ≤ (j : Int) := by omega
      have hfl := freeN_le tk j
      clear hR hC HI
      by_cases hlt : j < np
      · have hltz : (j : Int) < (np : Int) := by omega
        have h8z : (j : Int) < 8 := by omega
        have hfr1 : ∀ t : Bool, tk j = t → freeN tk (j + 1) = freeN tk j + if t = true then 0 else 1 := fun t h => by rw [← h]; rfl
        have HFr := Lib.hid hfr1
        obtain ⟨fr, hfr⟩ : ∃ fr, freeN tk j = fr := ⟨_, rfl⟩
        rw [hfr] at HFr hfl ⊢
        have hf0 : (0 : Int) ≤ (fr : Int) := by omega
        have hf8 : (fr : Int) ≤ 8 := by omega
        clear hfr1 hfr
        have HPn := Lib.hid (fun (X : World) (hX : Rnd W a np s q v x B hp D [] X) => (by
          have h := rnd_pin hX (j : Int)
          rw [pinW_in HRs.out hj0 hltz, show (3 : Int) + (j : Int) = ((3 + j : Nat) : Int) by omega] at h
          exact h : Calls Try.prog 18 #[cfV a np s q v x, .int .i64 (j : Int)] X (fun e Y => e = .returned (.int .i64 ((3 + j : Nat) : Int)) ∧ Rnd W a np s q v x B hp D [] Y)))
        have HSt := Lib.hid (fun (X : World) (hX : Rnd W a np s q v x B hp D [] X) => rnd_cstore hX HC.out (c := 3 + j) (by have := HSz.out; omega) (u := 9) (by omega))
        obtain ⟨cc, hcc⟩ : ∃ cc, 3 + j = cc := ⟨_, rfl⟩
        have hcc2 := hcc
        rw [hcc] at HPn HSt
        have HCc := Lib.hid hcc2
        clear hcc hcc2
        by_cases hjn : j < n
        · have hjnz : (j : Int) < (n : Int) := by omega
          obtain ⟨tb, tw, hga, hct⟩ := HTk.out wr HR.out.lo j hjn
          subst hga
          cases ht : tk j with
          | true =>
            rw [ht] at hct
            have HF1 := Lib.hid (HFr.out _ ht)
            have HTj := Lib.hid ht
            clear ht HFr
            go_wp2_with fail
            refine (HPn.out _ HR.out).mono ?_
            rintro en w3 ⟨rfl, h3⟩
            have R3 := Lib.hid h3
            clear h3
            go_wp2_with fail
            refine (HSt.out _ R3.out).mono ?_
            rintro en w4 ⟨rfl, D', hC', -, h4⟩
            have HI4 := Lib.hid (show TknI W a np s q v x B hp tk (j + 1) w4 from ⟨D', h4, hC'.same (fun i _ => by rw [← HCc.out]; exact (takG_hit HTj.out i).symm)⟩)
            clear h4 hC' R3
            go_wp2_with fail
            go_roundw
            case rel => exact ⟨j + 1, by rw [HF1.out]; rfl, by go_num, by omega, HI4⟩
            case measure => simp [intOf]; omega
          | false =>
            rw [ht] at hct
            have HF1 := Lib.hid (HFr.out _ ht)
            have HI4 := Lib.hid (show TknI W a np s q v x B hp tk (j + 1) wr from ⟨D, HR.out, HC.out.same (fun i _ => takG_miss (by rw [ht]; decide) i)⟩)
            clear ht HFr
            go_wp2_with fail
            go_roundw
            case rel => exact ⟨j + 1, by rw [HF1.out]; rfl, by go_num, by omega, HI4⟩
            case measure => simp [intOf]; omega
        · have hjnz : ¬ (j : Int) < (n : Int) := by omega
          have ht := HTn.out j hjn
          have HF1 := Lib.hid (HFr.out _ ht)
          have HI4 := Lib.hid (show TknI W a np s q v x B hp tk (j + 1) wr from ⟨D, HR.out, HC.out.same (fun i _ => takG_miss (by rw [ht]; decide) i)⟩)
          clear ht HFr
          go_wp2_with fail
          go_roundw
          case rel => exact ⟨j + 1, by rw [HF1.out]; rfl, by go_num, by omega, HI4⟩
          case measure => simp [intOf]; omega
      · obtain rfl : np = j := by omega
        have HI4 := Lib.hid (show TknI W a np s q v x B hp tk np wr from ⟨D, HR.out, HC.out⟩)
        have hltz : ¬ (np : Int) < (np : Int) := by omega
        go_wp2_with fail
        go_meet
        case rel => exact ⟨rfl, HI4⟩
  case rest => as_aux_lemma =>
    clear HI
    obtain ⟨rfl, HI⟩ := hcut
    obtain ⟨D, hR, hC⟩ := HI.out
    have HR := Lib.hid hR
    obtain ⟨c0, c1, c2, c3, c4, c5⟩ := hR.six
    have hfl := freeN_le tk np
    have hff := takG_first (tk := tk) (th := (th : Int)) (p := (np : Int)) ⟨p1, p8⟩
    rw [Int.toNat_natCast] at hff
    have hal := pin_alone (th := (th : Int)) (x := x) HRs.out HSz.out.1 hC 100 (by omega)
    rw [Int.toNat_natCast] at hal
    obtain ⟨fr, hfr⟩ : ∃ fr, freeN tk np = fr := ⟨_, rfl⟩
    rw [hfr] at hff hfl ⊢
    have hf0 : (0 : Int) ≤ (fr : Int) := by omega
    have hf8 : (fr : Int) ≤ 8 := by omega
    have HNw := Lib.hid (rnd_pnew hR (hC.few (m := 1000) (by omega)) HRs.out hth0)
    cases hf : firstP (takG tk np) (th : Int) (np : Int) np 0 with
    | none =>
      have hz : fr = 0 := hff.1 hf
      subst hz
      have HA := Lib.hid (hal.1 hf)
      have hn1 : ((np + 1 : Nat) : Int) = (np : Int) + 1 := by omega
      have hbig : ¬ (np : Int) + 5 < (np : Int) + 1 := by omega
      have hnp0 : (0 : Int) ≤ (np : Int) := by omega
      clear hR hC hff hal hf hfl hfr HI
      go_wp2_with fail
      refine HNw.out.mono ?_
      rintro en w3 ⟨r, rfl, -, -, h3⟩
      have R3 := Lib.hid h3
      clear h3 c0 c1 c2 c3 c4 c5 HNw
      go_wp2_with fail
      refine (rnf_prun R3.out 100 HA.out (by omega) (by omega)).mono ?_
      rintro en w4 ⟨rfl, h4⟩
      rw [hn1]
      have R4 := Lib.hid h4.prest
      clear h4 R3
      go_wp2_with fail
      refine (rnd_pres R4.out (List.mem_cons_self ..)).mono ?_
      rintro en w5 ⟨rfl, h5, -⟩
      rw [show resP (takenP a np s q v x) = ((0, 0, true), true) from rfl]
      have R5 := Lib.hid (h5.add (pndO 0 0 true))
      clear h5 R4 HA
      obtain ⟨v0, v1, v2⟩ := pnd_at (R5.out.kept (List.mem_cons_self ..))
      obtain ⟨c0, c1, c2, c3, c4, c5⟩ := R5.out.six
      go_wp2_with fail
      refine (pawake_any _).mono ?_
      rintro en w6 ⟨rfl, hb⟩
      have B6 := Lib.hid (R5.out.lo.trans (hb.mono R5.out.lo.size))
      clear hb
      go_wp2_with fail
      go_ret
      exact Says.mk rfl B6.out
    | some j =>
      have hz : fr ≠ 0 := fun e => by have := hff.2 e; rw [hf] at this; cases this
      obtain ⟨D', hA'⟩ := hal.2 j hf
      have hjl := (firstP_some hf).2.1
      have hG0 : takG tk np 0 = 0 := by unfold takG; rw [if_neg (fun h => by omega)]
      rw [hG0] at hA'
      obtain ⟨w0, w1'⟩ := wayP_in (th : Int) (np : Int) p1 j
      have HE := Lib.hid (show resP (gotP a np s q v x th 0 j) = ((wayP th np j, 0, false), true) from rfl)
      obtain ⟨wy, hwy⟩ : ∃ wy, wayP (th : Int) (np : Int) j = wy := ⟨_, rfl⟩
      rw [hwy] at hA' w0 w1' HE
      obtain ⟨cc, hcc⟩ : ∃ cc, (3 + wy).toNat = cc := ⟨_, rfl⟩
      have hpw : pinW a np s q v wy = (cc : Int) := by rw [pinW_in HRs.out w0 w1']; omega
      rw [hcc] at hA'
      have HA := Lib.hid hA'
      have HCc := Lib.hid (show cc < (sizeW a np s q v).toNat from by have := HSz.out; omega)
      have HPw := Lib.hid hpw
      obtain ⟨m, hm⟩ : ∃ m, j + 3 = m := ⟨_, rfl⟩
      rw [hm] at HA
      have hbig : ¬ (np : Int) + 5 < (m : Int) := by omega
      have hm0 : (0 : Int) ≤ (m : Int) := by omega
      have hnp0 : (0 : Int) ≤ (np : Int) := by omega
      have hfz : ((fr : Int) == 0) = false := by simp; omega
      have hC' := hA'.ctl
      have hDz := hC'.stores HCc.out (u := 0) (by omega)
      have HC2 := Lib.hid hDz.ctl
      have HDo := Lib.hid (fun (X : World) (ks : List (Nat × Obj)) (hX : Rnd W a np s q v x B hp D' ks X) => (rnd_does hX hC'.faults hC'.small (y := actS 1 cc 0) (by have he := empty_size; unfold ActD.fits actS; simp only; omega) hDz))
      have HFe := Lib.hid (show freeE (pinW a np s q v wy) = actS 1 cc 0 from by rw [hpw]; exact if_neg (by omega))
      clear hR hC hff hal hf hfl hfr HI hwy hcc hpw hA' hG0 hC' hDz hm hjl w0 w1' hz
      go_wp2_with fail
      refine HNw.out.mono ?_
      rintro en w3 ⟨r, rfl, -, -, h3⟩
      have R3 := Lib.hid h3
      clear h3 c0 c1 c2 c3 c4 c5 HNw
      go_wp2_with fail
      refine (rnf_prun R3.out 100 HA.out (by omega) (by omega)).mono ?_
      rintro en w4 ⟨rfl, h4⟩
      have R4 := Lib.hid h4.prest
      clear h4 R3
      go_wp2_with fail
      refine (rnd_pres R4.out (List.mem_cons_self ..)).mono ?_
      rintro en w5 ⟨rfl, h5, -⟩
      rw [HE.out]
      have R5 := Lib.hid (h5.add (pndO wy 0 false))
      clear h5 R4 HA HE
      obtain ⟨v0, v1, v2⟩ := pnd_at (R5.out.kept (List.mem_cons_self ..))
      obtain ⟨c0, c1, c2, c3, c4, c5⟩ := R5.out.six
      go_wp2_with fail
      refine (rnd_free R5.out wy).mono ?_
      rintro en w6 ⟨rfl, h6⟩
      obtain ⟨g, hg⟩ : ∃ g, w5.heap.size = g := ⟨_, rfl⟩
      rw [hg] at h6 ⊢
      rw [HFe.out]
      have R6 := Lib.hid h6
      clear h6 R5 v0 v1 v2 c0 c1 c2 c3 c4 c5 hg
      go_wp2_with fail
      refine (HDo.out _ _ R6.out).mono ?_
      rintro en w7 ⟨rfl, h7⟩
      have R7 := Lib.hid h7
      clear h7 R6 HDo
      obtain ⟨v0, v1, v2⟩ := pnd_at (R7.out.kept (List.mem_cons_self ..))
      obtain ⟨c0, c1, c2, c3, c4, c5⟩ := R7.out.six
      go_wp2_with fail
      refine (rnd_pin R7.out wy).mono ?_
      rintro en w8 ⟨rfl, h8⟩
      rw [HPw.out]
      have R8 := Lib.hid h8
      clear h8 R7 v0 v1 v2 c0 c1 c2 c3 c4 c5
      go_wp2_with fail
      refine (rnd_cload R8.out HC2.out HCc.out).mono ?_
      rintro en w9 ⟨rfl, h9⟩
      rw [upd_self]
      have R9 := Lib.hid h9
      clear h9 R8
      have HFa := Lib.hid (by have := rnd_faults R9.out; rw [HC2.out.faults] at this; exact this : Calls Try.prog 19 #[.pointer (some ⟨hp, 0, none⟩)] w9 fun e Y => e = .returned (.int .i64 ((0 : Nat) : Int)) ∧ w9 = Y)
      go_wp2_with fail
      refine HFa.out.mono ?_
      rintro en w10 ⟨rfl, rfl⟩
      go_wp2_with fail
      refine (pawake_any _).mono ?_
      rintro en w11 ⟨rfl, hb⟩
      have B11 := Lib.hid (R9.out.lo.trans (hb.mono R9.out.lo.size))
      clear hb
      go_wp2_with fail
      go_ret
      exact Says.mk rfl B11.out

end Go.Proofs.Ytgigjbngocfkbaa
