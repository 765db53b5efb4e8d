/-
  The statement StateTells' own function.
-/
import Derived.Test.YtbddicaabjlbjaaRefpatch
import Derived.Test.YtbddicaabjlbjaaBackwalk
namespace Go.Proofs.Ytbddicaabjlbjaa
open Go Go.RowKit

def IsDiff (A B : Pairs) (D : List ChD) : Prop := (Rise A ∧ Rise B ∧ D = diffD A B) ∨ (¬ (Rise A ∧ Rise B) ∧ D = [])
def IsPatch (A : Pairs) (L : List ChD) (P : Pairs) : Prop := (Rise A ∧ P = patchD A L) ∨ (¬ Rise A ∧ P = [])
theorem isDiff (A B : Pairs) : ∃ D, IsDiff A B D := by
  by_cases h : Rise A ∧ Rise B
  · exact ⟨_, .inl ⟨h.1, h.2, rfl⟩⟩
  · exact ⟨_, .inr ⟨h, rfl⟩⟩
theorem isPatch (A : Pairs) (L : List ChD) : ∃ P, IsPatch A L P := by
  by_cases h : Rise A
  · exact ⟨_, .inl ⟨h, rfl⟩⟩
  · exact ⟨_, .inr ⟨h, rfl⟩⟩
theorem IsDiff.len {A B : Pairs} {D : List ChD} (h : IsDiff A B D) : D.length ≤ A.length + B.length := by
  rcases h with ⟨_, _, rfl⟩ | ⟨_, rfl⟩
  · exact diffD_length A B
  · exact Nat.zero_le _
theorem IsPatch.len {A : Pairs} {L : List ChD} {P : Pairs} (h : IsPatch A L P) : P.length ≤ A.length + L.length := by
  rcases h with ⟨_, rfl⟩ | ⟨_, rfl⟩
  · exact length_patch L A
  · exact Nat.zero_le _

/-- What a call that collects changes answers, as a slice that lies. -/
def Told (D : List ChD) (w : World) (e : Ending) (W' : World) : Prop := ∃ p c, e = .returned (.slice p D.length c) ∧ Sc W' p D ∧ Below w.heap.size w W'
theorem CollC.told {D : List ChD} {w W' : World} {e : Ending} (h : CollC D w e W') : Told D w e W' := by
  obtain ⟨v, rfl, hr, hb⟩ := h
  obtain ⟨p, c, rfl, _, hs, _⟩ := Sc.of_row hr
  exact ⟨p, c, rfl, hs, hb⟩

theorem diff_told (pa pb : Option Addr) (na nb ca cb : Nat) (A B : Pairs) (D : List ChD) (w : World) (hna : A.length = na) (hnb : B.length = nb) (hca : na ≤ ca) (hcb : nb ≤ cb) (hSA : Sl w pa A) (hSB : Sl w pb B) (hD : IsDiff A B D) (hla : na ≤ 10000) (hlb : nb ≤ 10000) :
    Calls Try.prog 10 #[.slice pa na ca, .slice pb nb cb] w (Told D w) := by
  rcases hD with ⟨hA, hB, rfl⟩ | ⟨h, rfl⟩
  · exact (diff_calls pa pb na nb ca cb A B w hna hnb hca hcb hSA hSB hA hB hla hlb).mono fun _ _ h => h.told
  · exact (diff_no pa pb na nb ca cb A B w hna hnb hSA hSB h hla hlb).mono fun _ _ h => h.told
theorem refdiff_told (pa pb : Option Addr) (na nb ca cb : Nat) (A B : Pairs) (D : List ChD) (w : World) (hna : A.length = na) (hnb : B.length = nb) (hSA : Sl w pa A) (hSB : Sl w pb B) (hD : IsDiff A B D) (hla : na ≤ 10000) (hlb : nb ≤ 10000) :
    Calls Try.prog 11 #[.slice pa na ca, .slice pb nb cb] w (Told D w) := by
  rcases hD with ⟨hA, hB, rfl⟩ | ⟨h, rfl⟩
  · exact (refdiff_yes pa pb na nb ca cb A B w hna hnb hSA hSB hA hB hla hlb).mono fun _ _ h => h.told
  · exact (refdiff_no pa pb na nb ca cb A B w hna hnb hSA hSB h hla hlb).mono fun _ _ h => h.told
theorem patch_told (pa pc : Option Addr) (na nl ca cl : Nat) (A : Pairs) (L : List ChD) (P : Pairs) (w : World) (hna : A.length = na) (hnl : L.length = nl) (hca : na ≤ ca) (hSA : Sl w pa A) (hSL : Sc w pc L) (hP : IsPatch A L P) (hla : na ≤ 4000) (hll : nl ≤ 4000)
    (hkA : ∀ q ∈ A, q.1.size ≤ 281474976710656) (hkL : ∀ c ∈ L, c.key.size ≤ 281474976710656) :
    Calls Try.prog 13 #[.slice pa na ca, .slice pc nl cl] w (Lain P w) := by
  rcases hP with ⟨hA, rfl⟩ | ⟨h, rfl⟩
  · refine (patch_calls pa pc na nl ca cl A L w hna hnl hca hSA hSL hA hla hll hkA hkL).mono ?_
    rintro e w' ⟨g, cap, rfl, hr, hb⟩
    exact ⟨_, cap, rfl, (Lies.of_row hr).sl, hb⟩
  · refine (patch_no pa na ca _ A w hna hSA h (by omega)).mono ?_
    rintro e w' ⟨rfl, q, rfl⟩
    exact ⟨none, 0, rfl, Sl.nil _ _, ⟨rfl, rfl, rfl, Nat.le_refl _, fun _ _ => rfl⟩⟩
theorem refpatch_told (pa pc : Option Addr) (na nl ca cl : Nat) (A : Pairs) (L : List ChD) (P : Pairs) (w : World) (hna : A.length = na) (hnl : L.length = nl) (hSA : Sl w pa A) (hSL : Sc w pc L) (hP : IsPatch A L P) (hla : na ≤ 4000) (hll : nl ≤ 4000) :
    Calls Try.prog 14 #[.slice pa na ca, .slice pc nl cl] w (Lain P w) := by
  rcases hP with ⟨hA, rfl⟩ | ⟨h, rfl⟩
  · exact refpatch_yes pa pc na nl ca cl A L w hna hnl hSA hSL hA hla hll
  · refine (refpatch_no pa na ca _ A w hna hSA h (by omega)).mono ?_
    rintro e w' ⟨rfl, q, rfl⟩
    exact ⟨none, 0, rfl, Sl.nil _ _, ⟨rfl, rfl, rfl, Nat.le_refl _, fun _ _ => rfl⟩⟩
theorem undo_told (pa pc : Option Addr) (na nl ca cl : Nat) (A : Pairs) (L : List ChD) (P : Pairs) (D : List ChD) (w : World) (hna : A.length = na) (hnl : L.length = nl) (hca : na ≤ ca) (hSA : Sl w pa A) (hSL : Sc w pc L) (hP : IsPatch A L P) (hD : IsDiff P A D) (hla : na ≤ 4000) (hll : nl ≤ 4000)
    (hkA : ∀ q ∈ A, q.1.size ≤ 281474976710656) (hkL : ∀ c ∈ L, c.key.size ≤ 281474976710656) :
    Calls Try.prog 15 #[.slice pa na ca, .slice pc nl cl] w (Told D w) := by
  rcases hP with ⟨hA, rfl⟩ | ⟨h, rfl⟩
  · have hRP : Rise (patchD A L) := Rise.patch L hA
    obtain rfl : D = diffD (patchD A L) A := by
      rcases hD with ⟨_, _, e⟩ | ⟨h, _⟩
      · exact e
      · exact absurd ⟨hRP, hA⟩ h
    exact (undo_any pa pc na nl ca cl A L w hna hnl hca hSA hSL hA hla hll hkA hkL).mono fun _ _ h => h.told
  · obtain rfl : D = [] := by
      rcases hD with ⟨_, h2, _⟩ | ⟨_, e⟩
      · exact absurd h2 h
      · exact e
    exact (undo_no pa na ca _ A w hna hSA h (by omega)).mono fun _ _ h => h.told

set_option maxRecDepth 100000 in
set_option maxHeartbeats 8000000 in
theorem tells_short (pa pb pc : Option Addr) (na nb nl ca cb cl : Nat) (A B : Pairs) (L : List ChD) (w : World) (hA : ArgP w pa A) (hB : ArgP w pb B) (hL : Sc w pc L ∧ ∀ c ∈ L, c.key.size ≤ 281474976710656) (hna : A.length = na) (hnb : B.length = nb) (hnl : L.length = nl)
    (hca : na ≤ ca) (hcb : nb ≤ cb) (hla : na ≤ 60) (hlb : nb ≤ 60) (hll : nl ≤ 60) :
    Calls Try.prog 3 #[.slice pa na ca, .slice pb nb cb, .slice pc nl cl] w (Yes w) := by
  have HA := Lib.hid (fun W (h : Below w.heap.size w W) => hA.1.grow h)
  have HB := Lib.hid (fun W (h : Below w.heap.size w W) => hB.1.grow h)
  have HL := Lib.hid (fun W (h : Below w.heap.size w W) => hL.1.grow h)
  have KA := Lib.hid hA.2
  have KL := Lib.hid hL.2
  have HNA := Lib.hid hna
  have HNB := Lib.hid hnb
  have HNL := Lib.hid hnl
  obtain ⟨D, hD⟩ := isDiff A B
  obtain ⟨P, hP⟩ := isPatch A L
  obtain ⟨U, hU⟩ := isDiff P A
  have lD := hD.len
  have lP := hP.len
  have lU := hU.len
  rw [hna, hnb] at lD
  rw [hna, hnl] at lP
  rw [hna] at lU
  have HD := Lib.hid hD
  have HP := Lib.hid hP
  have HU := Lib.hid hU
  obtain ⟨nd, hnd⟩ : ∃ n, D.length = n := ⟨_, rfl⟩
  obtain ⟨np, hnp⟩ : ∃ n, P.length = n := ⟨_, rfl⟩
  obtain ⟨nu, hnu⟩ : ∃ n, U.length = n := ⟨_, rfl⟩
  rw [hnd] at lD
  rw [hnp] at lP lU
  rw [hnu] at lU
  have HND := Lib.hid hnd
  have HNP := Lib.hid hnp
  have HNU := Lib.hid hnu
  have hna1 : ¬ (na : Int) > 60 := by omega
  have hnb1 : ¬ (nb : Int) > 60 := by omega
  have hnl1 : ¬ (nl : Int) > 60 := by omega
  have HRt := Lib.hid (show Calls Try.prog 7 #[.slice pa na ca] w (Says A w) by rw [← hna]; exact right_any pa ca A w hA.1 (by omega))
  clear hA hB hL hna hnb hnl hD hP hU hnd hnp hnu
  go_enter Try.func3, Try.ntmps3
  go_wp2_with fail
  refine HRt.out.mono ?_
  rintro e w' ⟨b1, rfl, hb1, q1, rfl⟩
  have B1 := Lib.hid (below_drewN w q1)
  have H1 := Lib.hid hb1
  clear hb1 HRt
  go_wp2_with fail
  refine (refright_any pa ca na A _ (HA.out _ B1.out) HNA.out (by omega)).mono ?_
  rintro e w' ⟨b2, rfl, hb2, q2, rfl⟩
  obtain rfl : b2 = b1 := by
    cases b1 <;> cases b2
    · rfl
    · exact absurd (H1.out.2 (hb2.1 rfl)) Bool.false_ne_true
    · exact absurd (hb2.2 (H1.out.1 rfl)) Bool.false_ne_true
    · rfl
  have B2 := Lib.hid (B1.out.trans (below_drewN (w.drewN q1) q2))
  clear hb2 H1 B1
  obtain ⟨w2, hw2⟩ : ∃ w2, (w.drewN q1).drewN q2 = w2 := ⟨_, rfl⟩
  rw [hw2] at B2 ⊢
  clear hw2
  have hbb : (binOp .neq 4 (.bool b2) (.bool b2)).run Try.prog w2 = .ok (.bool false) w2 := by cases b2 <;> rfl
  cases b2
  all_goals (
    clear hbb
    go_wp2_with fail
    refine (diff_told pa pb na nb ca cb A B D w2 HNA.out HNB.out hca hcb (HA.out _ B2.out) (HB.out _ B2.out) HD.out (by omega) (by omega)).mono ?_
    rintro e w3 ⟨p3, c3, rfl, hs, hb⟩
    have B3 := Lib.hid (B2.out.trans (hb.mono B2.out.size))
    have S3 := Lib.hid (fun W (h : Below w3.heap.size w3 W) => hs.grow h)
    clear hs hb B2
    rw [HND.out]
    go_wp2_with fail
    refine (refdiff_told pa pb na nb ca cb A B D w3 HNA.out HNB.out (HA.out _ B3.out) (HB.out _ B3.out) HD.out (by omega) (by omega)).mono ?_
    rintro e w4 ⟨p4, c4, rfl, hs, hb⟩
    have S4 := Lib.hid (S3.out w4 hb)
    have T4 := Lib.hid hs
    have B4 := Lib.hid (B3.out.trans (hb.mono B3.out.size))
    clear hs hb B3 S3
    rw [HND.out]
    go_wp2_with fail
    refine (sameC_yes p3 p4 nd c3 c4 D w4 S4.out T4.out HND.out (by omega)).mono ?_
    rintro e w' ⟨rfl, q, rfl⟩
    have B5 := Lib.hid (B4.out.trans ((below_drewN w4 q).mono B4.out.size))
    obtain ⟨w5, hw5⟩ : ∃ w5, w4.drewN q = w5 := ⟨_, rfl⟩
    rw [hw5] at B5 ⊢
    clear hw5 B4 S4 T4
    go_wp2_with fail
    refine (patch_told pa pc na nl ca cl A L P w5 HNA.out HNL.out hca (HA.out _ B5.out) (HL.out _ B5.out) HP.out (by omega) (by omega) KA.out KL.out).mono ?_
    rintro e w6 ⟨p6, c6, rfl, hs, hb⟩
    have B6 := Lib.hid (B5.out.trans (hb.mono B5.out.size))
    have S6 := Lib.hid (fun W (h : Below w6.heap.size w6 W) => hs.grow h)
    clear hs hb B5
    rw [HNP.out]
    go_wp2_with fail
    refine (refpatch_told pa pc na nl ca cl A L P w6 HNA.out HNL.out (HA.out _ B6.out) (HL.out _ B6.out) HP.out (by omega) (by omega)).mono ?_
    rintro e w7 ⟨p7, c7, rfl, hs, hb⟩
    have S7 := Lib.hid (S6.out w7 hb)
    have T7 := Lib.hid hs
    have B7 := Lib.hid (B6.out.trans (hb.mono B6.out.size))
    clear hs hb B6 S6
    rw [HNP.out]
    go_wp2_with fail
    have HSm := same_sl p6 p7 c6 c7 P w7 S7.out T7.out (by have := HNP.out; omega)
    rw [HNP.out] at HSm
    refine HSm.mono ?_
    rintro e w' ⟨rfl, q, rfl⟩
    have B8 := Lib.hid (B7.out.trans ((below_drewN w7 q).mono B7.out.size))
    obtain ⟨w8, hw8⟩ : ∃ w8, w7.drewN q = w8 := ⟨_, rfl⟩
    rw [hw8] at B8 ⊢
    clear hw8 B7 S7 T7 HSm
    go_wp2_with fail
    refine (undo_told pa pc na nl ca cl A L P U w8 HNA.out HNL.out hca (HA.out _ B8.out) (HL.out _ B8.out) HP.out HU.out (by omega) (by omega) KA.out KL.out).mono ?_
    rintro e w9 ⟨p9, c9, rfl, hs, hb⟩
    have B9 := Lib.hid (B8.out.trans (hb.mono B8.out.size))
    have S9 := Lib.hid hs
    clear hs hb B8
    rw [HNU.out]
    go_wp2_with fail
    refine (refpatch_told pa pc na nl ca cl A L P w9 HNA.out HNL.out (HA.out _ B9.out) (HL.out _ B9.out) HP.out (by omega) (by omega)).mono ?_
    rintro e w10 ⟨p10, c10, rfl, hs, hb⟩
    have S10 := Lib.hid (S9.out.grow hb)
    have T10 := Lib.hid hs
    have B10 := Lib.hid (B9.out.trans (hb.mono B9.out.size))
    clear hs hb B9 S9
    rw [HNP.out]
    go_wp2_with fail
    refine (refdiff_told p10 pa np na c10 ca P A U w10 HNP.out HNA.out T10.out (HA.out _ B10.out) HU.out (by omega) (by omega)).mono ?_
    rintro e w11 ⟨p11, c11, rfl, hs, hb⟩
    have S11 := Lib.hid (S10.out.grow hb)
    have T11 := Lib.hid hs
    have B11 := Lib.hid (B10.out.trans (hb.mono B10.out.size))
    clear hs hb B10 S10 T10
    rw [HNU.out]
    go_wp2_with fail
    refine (sameC_yes p9 p11 nu c9 c11 U w11 S11.out T11.out HNU.out (by omega)).mono ?_
    rintro e w' ⟨rfl, q, rfl⟩
    have B12 := Lib.hid (B11.out.trans ((below_drewN w11 q).mono B11.out.size))
    obtain ⟨w12, hw12⟩ : ∃ w12, w11.drewN q = w12 := ⟨_, rfl⟩
    rw [hw12] at B12 ⊢
    clear hw12 B11 S11 T11
    go_wp2_with fail
    go_loopw [7] (fun s7 wr => ∃ i : Nat, s7 = .int .i64 i ∧ i ≤ nb ∧ Hid (Below w.heap.size w wr)) (fun s _ => nb - (intOf s).toNat)
    case atStart => exact ⟨0, rfl, Nat.zero_le _, B12⟩
    case round =>
      clear B12
      obtain ⟨i, rfl, hib, hbr⟩ := hrel
      by_cases hlt : i < nb
      · have hltz : (i : Int) < (nb : Int) := by omega
        have hi0 : (0 : Int) ≤ (i : Int) := by omega
        have hiB : i < B.length := by rw [HNB.out]; exact hlt
        obtain ⟨bb, ob, rfl, d1, d2⟩ := HB.out wr hbr.out i hiB
        clear d2
        obtain ⟨x, hx⟩ : ∃ x, B[i].1 = x := ⟨_, rfl⟩
        rw [hx] at d1
        have HG := Lib.hid (get_any pa na ca A x wr (HA.out _ hbr.out) HNA.out (by omega))
        clear hx hiB
        go_wp2_with fail
        refine HG.out.mono ?_
        rintro e w13 ⟨rfl, hb⟩
        have B13 := Lib.hid (hbr.out.trans (hb.mono hbr.out.size))
        have hbw := cell_lt d1
        have d1' := (hb.cell (p := ⟨bb, _, none⟩) hbw).trans d1
        have HRG : Hid (Calls Try.prog 17 #[.slice pa na ca, .string x] w13 (RefGot A x w13)) := by
          have := refget_sl pa ca A x w13 (HA.out _ B13.out) (by have := HNA.out; omega)
          rw [HNA.out] at this
          exact this
        clear hb hbw d1 HG hbr
        obtain ⟨v, hv⟩ : ∃ v, (getD A x).getD ⟨#[]⟩ = v := ⟨_, rfl⟩
        obtain ⟨is, his⟩ : ∃ v, hasD A x = v := ⟨_, rfl⟩
        unfold RefGot at HRG
        rw [hv, his] at HRG ⊢
        clear hv his
        go_wp2_with fail
        refine HRG.out.mono ?_
        rintro e w' ⟨rfl, rfl⟩
        have hvv : (v.toList == v.toList) = true := by simp
        cases is
        all_goals (
          go_wp2_with fail
          go_roundw
          case rel => exact ⟨i + 1, by go_num, by omega, B13⟩
          case measure => simp [intOf]; omega)
      · have hltz : ¬ (i : Int) < (nb : Int) := by omega
        go_wp2_with fail
        refine (awake_any wr).mono ?_
        rintro e w14 ⟨rfl, hb⟩
        have B14 := Lib.hid (hbr.out.trans (hb.mono hbr.out.size))
        clear hb
        go_wp2_with fail
        go_ret
        exact ⟨rfl, B14.out⟩)

set_option maxRecDepth 100000 in
set_option maxHeartbeats 4000000 in
theorem tells_long (pa pb pc : Option Addr) (na nb nl ca cb cl : Nat) (w : World) (h : 60 < na ∨ 60 < nb ∨ 60 < nl) (ha63 : na ≤ 9223372036854775807) (hb63 : nb ≤ 9223372036854775807) (hl63 : nl ≤ 9223372036854775807) :
    Calls Try.prog 3 #[.slice pa na ca, .slice pb nb cb, .slice pc nl cl] w (Yes w) := by
  have hAw := Lib.hid (awake_any w)
  by_cases h1 : 60 < na
  · have h1z : (na : Int) > 60 := by omega
    go_enter Try.func3, Try.ntmps3
    go_wp2_with fail
    refine hAw.out.mono ?_
    rintro e w1 ⟨rfl, hb⟩
    have HB := Lib.hid hb
    clear hb
    go_wp2_with fail
    go_ret
    exact ⟨rfl, HB.out⟩
  · have h1z : ¬ (na : Int) > 60 := by omega
    by_cases h2 : 60 < nb
    · have h2z : (nb : Int) > 60 := by omega
      go_enter Try.func3, Try.ntmps3
      go_wp2_with fail
      refine hAw.out.mono ?_
      rintro e w1 ⟨rfl, hb⟩
      have HB := Lib.hid hb
      clear hb
      go_wp2_with fail
      go_ret
      exact ⟨rfl, HB.out⟩
    · have h2z : ¬ (nb : Int) > 60 := by omega
      have h3z : (nl : Int) > 60 := by omega
      go_enter Try.func3, Try.ntmps3
      go_wp2_with fail
      refine hAw.out.mono ?_
      rintro e w1 ⟨rfl, hb⟩
      have HB := Lib.hid hb
      clear hb
      go_wp2_with fail
      go_ret
      exact ⟨rfl, HB.out⟩

end Go.Proofs.Ytbddicaabjlbjaa
