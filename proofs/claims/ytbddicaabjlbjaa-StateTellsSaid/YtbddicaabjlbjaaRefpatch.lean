/-
  The reference's Patch of layer 7; what state's functions and the reference's answer where a row is no state.
-/
import Derived.Test.YtbddicaabjlbjaaRefdiff
namespace Go.Proofs.Ytbddicaabjlbjaa
open Go Go.RowKit

set_option maxRecDepth 100000 in
set_option maxHeartbeats 2000000 in
theorem refdiff_no (pa pb : Option Addr) (na nb ca cb : Nat) (A B : Pairs) (w : World) (hna : A.length = na) (hnb : B.length = nb) (hSA : Sl w pa A) (hSB : Sl w pb B) (hR : ¬ (Rise A ∧ Rise B)) (hla : na ≤ 10000) (hlb : nb ≤ 10000) :
    Calls Try.prog 11 #[.slice pa na ca, .slice pb nb cb] w (CollC [] w) := by
  have hb0 : Below w.heap.size w (w.alloc (.cells #[] 38)) := (Below.refl _ w).alloc (Nat.le_refl _) _
  have hr0 : (w.alloc (.cells #[] 38)).ownsRow w.heap.size 38 3 (.slice (some ⟨w.heap.size, 0, none⟩) 0 0) 0 (flatC []) := World.ownsRow_made w #[] 0 (Nat.le_refl _) (by simp [maxLen]) rfl
  have HE : Hid (∀ q, CollC [] w (.returned (.slice (some ⟨w.heap.size, 0, none⟩) 0 0)) ((w.alloc (.cells #[] 38)).drewN q)) := fun q => ⟨_, rfl, ownsRow_stays hr0 (fun _ _ => rfl), hb0.trans ⟨rfl, rfl, rfl, Nat.le_refl _, fun _ _ => rfl⟩⟩
  have H1 := Lib.hid (refright_any pa ca na A _ (hSA.grow hb0) hna (by omega))
  have H2 := Lib.hid (fun q => refright_any pb cb nb B ((w.alloc (.cells #[] 38)).drewN q) (hSB.grow (hb0.trans ⟨rfl, rfl, rfl, Nat.le_refl _, fun _ _ => rfl⟩)) hnb (by omega))
  have HR := Lib.hid hR
  clear hb0 hr0 hSA hSB hna hnb hR
  go_enter Try.func11, Try.ntmps11
  go_wp2_with fail
  refine H1.out.mono ?_
  rintro e w' ⟨ba, rfl, hba, q1, rfl⟩
  cases ba with
  | false =>
    clear hba
    go_wp2_with fail
    go_ret
    exact HE.out _
  | true =>
    have HA := Lib.hid (hba.1 rfl)
    clear hba
    go_wp2_with fail
    refine (H2.out q1).mono ?_
    rintro e w' ⟨bb, rfl, hbb, q2, rfl⟩
    obtain rfl : bb = false := by
      cases bb with
      | false => rfl
      | true => exact absurd ⟨HA.out, hbb.1 rfl⟩ HR.out
    clear hbb
    go_wp2_with fail
    go_ret
    have := HE.out (q1 + q2)
    simpa using this

set_option maxRecDepth 100000 in
set_option maxHeartbeats 2000000 in
theorem diff_no (pa pb : Option Addr) (na nb ca cb : Nat) (A B : Pairs) (w : World) (hna : A.length = na) (hnb : B.length = nb) (hSA : Sl w pa A) (hSB : Sl w pb B) (hR : ¬ (Rise A ∧ Rise B)) (hla : na ≤ 10000) (hlb : nb ≤ 10000) :
    Calls Try.prog 10 #[.slice pa na ca, .slice pb nb cb] w (CollC [] w) := by
  have HE : Hid (∀ q, CollC [] w (.returned (.slice none 0 0)) (w.drewN q)) := fun q => ⟨_, rfl, World.ownsRow_nil _ _ _ _, ⟨rfl, rfl, rfl, Nat.le_refl _, fun _ _ => rfl⟩⟩
  have H1 := Lib.hid (show Calls Try.prog 7 #[.slice pa na ca] w (Says A w) by rw [← hna]; exact right_any pa ca A w hSA (by omega))
  have H2 := Lib.hid (fun q => show Calls Try.prog 7 #[.slice pb nb cb] (w.drewN q) (Says B (w.drewN q)) by rw [← hnb]; exact right_any pb cb B (w.drewN q) (hSB.grow ⟨rfl, rfl, rfl, Nat.le_refl _, fun _ _ => rfl⟩) (by omega))
  have HR := Lib.hid hR
  clear hSA hSB hna hnb hR
  go_enter Try.func10, Try.ntmps10
  go_wp2_with fail
  refine H1.out.mono ?_
  rintro e w' ⟨ba, rfl, hba, q1, rfl⟩
  cases ba with
  | false =>
    clear hba
    go_wp2_with fail
    go_ret
    exact HE.out _
  | true =>
    have HA := Lib.hid (hba.1 rfl)
    clear hba
    go_wp2_with fail
    refine (H2.out q1).mono ?_
    rintro e w' ⟨bb, rfl, hbb, q2, rfl⟩
    obtain rfl : bb = false := by
      cases bb with
      | false => rfl
      | true => exact absurd ⟨HA.out, hbb.1 rfl⟩ HR.out
    clear hbb
    go_wp2_with fail
    go_ret
    have := HE.out (q1 + q2)
    simpa using this

set_option maxRecDepth 100000 in
set_option maxHeartbeats 2000000 in
theorem patch_no (pa : Option Addr) (na ca : Nat) (vl : Value) (A : Pairs) (w : World) (hna : A.length = na) (hSA : Sl w pa A) (hR : ¬ Rise A) (hla : na ≤ 10000) :
    Calls Try.prog 13 #[.slice pa na ca, vl] w fun e w' => e = .returned (.slice none 0 0) ∧ ∃ q, w' = w.drewN q := by
  have H1 := Lib.hid (show Calls Try.prog 7 #[.slice pa na ca] w (Says A w) by rw [← hna]; exact right_any pa ca A w hSA (by omega))
  have HR := Lib.hid hR
  clear hSA hna hR
  go_enter Try.func13, Try.ntmps13
  go_wp2_with fail
  refine H1.out.mono ?_
  rintro e w' ⟨ba, rfl, hba, q1, rfl⟩
  obtain rfl : ba = false := by
    cases ba with
    | false => rfl
    | true => exact absurd (hba.1 rfl) HR.out
  clear hba
  go_wp2_with fail
  go_ret
  exact ⟨rfl, q1, rfl⟩

theorem undo_no (pa : Option Addr) (na ca : Nat) (vl : Value) (A : Pairs) (w : World) (hna : A.length = na) (hSA : Sl w pa A) (hR : ¬ Rise A) (hla : na ≤ 10000) :
    Calls Try.prog 15 #[.slice pa na ca, vl] w (CollC [] w) := by
  have H1 := Lib.hid (patch_no pa na ca vl A w hna hSA hR hla)
  have H2 := Lib.hid (fun q => diff_no none pa 0 na 0 ca [] A (w.drewN q) rfl hna (Sl.nil _ _) (hSA.grow ⟨rfl, rfl, rfl, Nat.le_refl _, fun _ _ => rfl⟩) (fun h => hR h.2) (by omega) hla)
  clear hSA hna hR
  go_enter Try.func15, Try.ntmps15
  go_wp2_with fail
  refine H1.out.mono ?_
  rintro e w' ⟨rfl, q, rfl⟩
  go_wp2_with fail
  refine (H2.out q).mono ?_
  rintro e w' ⟨v, rfl, hr, hb⟩
  have HE := Lib.hid (show CollC [] w (.returned v) w' from ⟨v, rfl, hr, (⟨rfl, rfl, rfl, Nat.le_refl _, fun _ _ => rfl⟩ : Below w.heap.size w (w.drewN q)).trans hb⟩)
  clear hr hb
  go_wp2_with fail
  go_ret
  exact HE.out

/-- What the reference's Patch answers: a row that lies somewhere. -/
def Lain (D : Pairs) (w : World) (e : Ending) (W' : World) : Prop := ∃ p c, e = .returned (.slice p D.length c) ∧ Sl W' p D ∧ Below w.heap.size w W'

theorem refpatch_no (pa : Option Addr) (na ca : Nat) (vl : Value) (A : Pairs) (w : World) (hna : A.length = na) (hSA : Sl w pa A) (hR : ¬ Rise A) (hla : na ≤ 10000) :
    Calls Try.prog 14 #[.slice pa na ca, vl] w fun e w' => e = .returned (.slice none 0 0) ∧ ∃ q, w' = w.drewN q := by
  have H1 := Lib.hid (refright_any pa ca na A w hSA hna (by omega))
  have HR := Lib.hid hR
  clear hSA hna hR
  go_enter Try.func14, Try.ntmps14
  go_wp2_with fail
  refine H1.out.mono ?_
  rintro e w' ⟨ba, rfl, hba, q1, rfl⟩
  obtain rfl : ba = false := by
    cases ba with
    | false => rfl
    | true => exact absurd (hba.1 rfl) HR.out
  clear hba
  go_wp2_with fail
  go_ret
  exact ⟨rfl, q1, rfl⟩

set_option maxRecDepth 100000 in
set_option maxHeartbeats 4000000 in
theorem refpatch_yes (pa pc : Option Addr) (na nl ca cl : Nat) (A : Pairs) (L : List ChD) (w : World) (hna : A.length = na) (hnl : L.length = nl) (hSA : Sl w pa A) (hSL : Sc w pc L) (hRA : Rise A) (hla : na ≤ 4000) (hll : nl ≤ 4000) :
    Calls Try.prog 14 #[.slice pa na ca, .slice pc nl cl] w (Lain (patchD A L) w) := by
  have hmix : Try.prog.follows .mixedOrders = true := by kernel_rfl
  have H1 := Lib.hid (refright_any pa ca na A w hSA hna (by omega))
  have HA := Lib.hid hRA
  have HSA := Lib.hid hSA
  have HSL := Lib.hid (fun W (h : Below w.heap.size w W) => hSL.grow h)
  have HNL := Lib.hid hnl
  have HNA := Lib.hid hna
  clear hSA hSL hna hnl hRA
  go_enter Try.func14, Try.ntmps14
  go_wp2_with fail
  refine H1.out.mono ?_
  rintro e w' ⟨ba, rfl, hba, q1, rfl⟩
  obtain rfl : ba = true := hba.2 HA.out
  clear hba
  have H0 : Hid (∃ p c D, patchD A (L.take 0) = D ∧ (.slice pa na ca : Value) = .slice p D.length c ∧ Sl (w.drewN q1) p D ∧ Below w.heap.size w (w.drewN q1)) :=
    ⟨pa, ca, A, rfl, by rw [HNA.out], HSA.out.grow ⟨rfl, rfl, rfl, Nat.le_refl _, fun _ _ => rfl⟩, ⟨rfl, rfl, rfl, Nat.le_refl _, fun _ _ => rfl⟩⟩
  go_wp2_with fail
  go_loopw [0, 5] (fun s0 s5 wr => ∃ k : Nat, s5 = .int .i64 k ∧ k ≤ nl ∧ ∃ p c D, patchD A (L.take k) = D ∧ s0 = .slice p D.length c ∧ Sl wr p D ∧ Below w.heap.size w wr) (fun _ s _ => nl - (intOf s).toNat)
  case atStart => exact ⟨0, rfl, Nat.zero_le _, H0.out⟩
  case round =>
    clear H0
    obtain ⟨k, rfl, hk, p, c, D, hD, rfl, hS, hb⟩ := hrel
    have hRD : Rise D := by rw [← hD]; exact Rise.patch _ HA.out
    have hDl : D.length ≤ 10000 := by
      rw [← hD]
      have h1 := length_patch (L.take k) A
      rw [List.length_take] at h1
      have := HNA.out
      omega
    have HB := Lib.hid hb
    by_cases hlt : k < nl
    · have hltz : (k : Int) < (nl : Int) := by omega
      have hkL : k < L.length := by rw [HNL.out]; exact hlt
      obtain ⟨b, o, rfl, d1, d2, d3⟩ := HSL.out wr hb k hkL
      have hnx : patchD A (L.take (k + 1)) = applyC D L[k] := by rw [List.take_succ_eq_append_getElem hkL, patchD_snoc, hD]
      obtain ⟨⟨ck, ch, cv⟩, hc⟩ : ∃ x, L[k] = x := ⟨_, rfl⟩
      rw [hc] at d1 d2 d3 hnx
      have hk0 : (0 : Int) ≤ (k : Int) := by omega
      cases ch with
      | true =>
        have HPut := Lib.hid (refput_sl p c D ck cv wr.drew (hS.grow ⟨rfl, rfl, rfl, Nat.le_refl _, fun _ _ => rfl⟩) hRD hDl)
        have HNx := Lib.hid (show patchD A (L.take (k + 1)) = putD D ck cv from hnx)
        clear hD hS hb hRD hc hkL hnx
        obtain ⟨n, hn⟩ : ∃ n, D.length = n := ⟨_, rfl⟩
        rw [hn] at HPut hDl ⊢
        clear hn
        go_wp2_with fail
        go_still_tail 11, hmix
        change wpList _ _ _ _ _ wr.drew
        go_wp2_with fail
        refine HPut.out.mono ?_
        rintro e w2 ⟨g2, cap2, rfl, hr2, hb2⟩
        have hb3 : Below wr.heap.size wr w2 := ⟨hb2.os, hb2.tape, hb2.output, hb2.size, hb2.block⟩
        have HS2 := Lib.hid (Lies.of_row hr2).sl
        have HB2 := Lib.hid (HB.out.trans (hb3.mono HB.out.size))
        clear hr2 hb2 hb3 HPut d1 d2 d3
        go_wp2_with fail
        go_roundw
        case rel => exact ⟨k + 1, by go_num, by omega, some ⟨g2, 0, none⟩, cap2, _, HNx.out, rfl, HS2.out, HB2.out⟩
        case measure => simp [intOf]; omega
      | false =>
        have HDel := Lib.hid (refdel_sl p c D ck wr hS hDl)
        have HNx := Lib.hid (show patchD A (L.take (k + 1)) = delD D ck from hnx)
        clear hD hS hb hRD hc hkL hnx
        obtain ⟨n, hn⟩ : ∃ n, D.length = n := ⟨_, rfl⟩
        rw [hn] at HDel hDl ⊢
        clear hn
        go_wp2_with fail
        refine HDel.out.mono ?_
        rintro e w2 ⟨g2, cap2, rfl, hr2, hb2⟩
        have HS2 := Lib.hid (Lies.of_row hr2).sl
        have HB2 := Lib.hid (HB.out.trans (hb2.mono HB.out.size))
        clear hr2 hb2 HDel d1 d2 d3
        go_wp2_with fail
        go_roundw
        case rel => exact ⟨k + 1, by go_num, by omega, some ⟨g2, 0, none⟩, cap2, _, HNx.out, rfl, HS2.out, HB2.out⟩
        case measure => simp [intOf]; omega
    · obtain rfl : k = nl := by omega
      rw [List.take_of_length_le (by rw [HNL.out]; exact Nat.le_refl _)] at hD
      have HE := Lib.hid (show Lain (patchD A L) w (.returned (.slice p D.length c)) wr from by rw [hD]; exact ⟨p, c, rfl, hS, hb⟩)
      clear hD hS hb hRD hDl
      go_wp2_with fail
      go_ret
      exact HE.out

end Go.Proofs.Ytbddicaabjlbjaa
