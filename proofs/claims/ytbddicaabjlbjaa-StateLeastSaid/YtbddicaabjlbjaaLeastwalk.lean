/-
  The statement StateLeast's own function.
-/
import Derived.Test.YtbddicaabjlbjaaArgs7
namespace Go.Proofs.Ytbddicaabjlbjaa
open Go Go.RowKit

/-- How often a key has been told. -/
theorem told_snoc (L : List ChD) (key : ByteArray) (k : Nat) (h : k < L.length) : (ofK key (L.take (k + 1))).length = (ofK key (L.take k)).length + (if L[k].key = key then 1 else 0) := by
  rw [List.take_succ_eq_append_getElem h, ofK_append, List.length_append]
  by_cases e : L[k].key = key <;> simp [ofK, e]

theorem told_chg (A B : Pairs) (key : ByteArray) (hA : Rise A) (hB : Rise B) :
    (ofK key (diffD A B)).length ≤ 1 ∧ (decide ((ofK key (diffD A B)).length = 1) = (!decide ((getD A key).getD ⟨#[]⟩ = (getD B key).getD ⟨#[]⟩) || !decide (hasD A key = hasD B key))) := by
  rw [(good A B hA hB).2 key]
  unfold chg hasD
  by_cases e : getD A key = getD B key
  · rw [if_pos e, e]; simp
  · rw [if_neg e]
    refine ⟨by simp, ?_⟩
    cases h1 : getD A key <;> cases h2 : getD B key <;> simp_all

set_option maxRecDepth 100000 in
set_option maxHeartbeats 4000000 in
theorem least_short (pa pb : Option Addr) (na nb ca cb : Nat) (X Y : Pairs) (key : ByteArray) (w : World) (hX : ArgP w pa X) (hY : ArgP w pb Y) (hna : X.length = na) (hnb : Y.length = nb) (hla : na ≤ 60) (hlb : nb ≤ 60) :
    Calls Try.prog 5 #[.slice pa na ca, .slice pb nb cb, .string key] w (Yes w) := by
  have HX := Lib.hid hX
  have HY := Lib.hid hY
  have HNX := Lib.hid hna
  have HNY := Lib.hid hnb
  have hna1 : ¬ (na : Int) > 60 := by omega
  have hnb1 : ¬ (nb : Int) > 60 := by omega
  obtain ⟨A, hA⟩ : ∃ A, stateD X = A := ⟨_, rfl⟩
  obtain ⟨B, hB⟩ : ∃ B, stateD Y = B := ⟨_, rfl⟩
  have RA := Lib.hid (show Rise A by rw [← hA]; exact stateD_rise X)
  have RB := Lib.hid (show Rise B by rw [← hB]; exact stateD_rise Y)
  have lA : A.length ≤ 60 := by rw [← hA]; exact Nat.le_trans (stateD_length X) (by omega)
  have lB : B.length ≤ 60 := by rw [← hB]; exact Nat.le_trans (stateD_length Y) (by omega)
  have lL := diffD_length A B
  have HPw := Lib.hid ((good A B RA.out RB.out).1)
  have HTold := Lib.hid (told_chg A B key RA.out RB.out)
  have HA := Lib.hid hA
  have HB := Lib.hid hB
  clear hX hY hna hnb hA hB
  go_enter Try.func5, Try.ntmps5
  go_wp2_with fail
  refine (state_any pa na ca X w HX.out.1 HNX.out (by omega)).mono ?_
  rintro e w1 ⟨ga, ka, rfl, hr, hb⟩
  rw [HA.out] at hr ⊢
  have A1 := Lib.hid (Kept.of hr)
  have B1 := Lib.hid hb
  clear hr hb
  obtain ⟨a, ha⟩ : ∃ a, A.length = a := ⟨_, rfl⟩
  have Ha := Lib.hid ha
  rw [ha] at lA lL ⊢
  clear ha
  go_wp2_with fail
  refine (state_any pb nb cb Y w1 (HY.out.1.grow B1.out) HNY.out (by omega)).mono ?_
  rintro e w2 ⟨gb, kb, rfl, hr, hb⟩
  rw [HB.out] at hr ⊢
  have A2 := Lib.hid (A1.out.grow hb)
  have C2 := Lib.hid (Kept.of hr)
  have B2 := Lib.hid (B1.out.trans (hb.mono B1.out.size))
  clear hr hb A1 B1
  obtain ⟨b, hb⟩ : ∃ b, B.length = b := ⟨_, rfl⟩
  have Hb := Lib.hid hb
  rw [hb] at lB lL ⊢
  clear hb
  go_wp2_with fail
  refine (diff_calls (some ⟨ga, 0, none⟩) (some ⟨gb, 0, none⟩) a b ka kb A B w2 Ha.out Hb.out (by rw [← Ha.out]; exact A2.out.2.2) (by rw [← Hb.out]; exact C2.out.2.2) A2.out.1.sl C2.out.1.sl RA.out RB.out (by omega) (by omega)).mono ?_
  rintro e w3 ⟨v3, rfl, hr, hb⟩
  obtain ⟨p3, c3, rfl, hc3, hs3, _⟩ := Sc.of_row hr
  have A3 := Lib.hid (A2.out.grow hb)
  have C3 := Lib.hid (C2.out.grow hb)
  have B3 := Lib.hid (B2.out.trans (hb.mono B2.out.size))
  have L3 := Lib.hid hs3
  clear hr hb hs3 hc3 A2 C2 B2
  obtain ⟨L, hL⟩ : ∃ L, diffD A B = L := ⟨_, rfl⟩
  rw [hL] at L3 HPw HTold lL ⊢
  clear hL
  obtain ⟨l, hl⟩ : ∃ l, L.length = l := ⟨_, rfl⟩
  have Hl := Lib.hid hl
  rw [hl] at lL ⊢
  clear hl
  go_wp2_with fail
  go_loopw [10, 11] (fun s10 s11 wr => ∃ k q : Nat, s10 = .int .i64 ((ofK key (L.take k)).length : Nat) ∧ s11 = .int .i64 k ∧ k ≤ l ∧ wr = w3.drewN q) (fun _ s _ => l - (intOf s).toNat)
  case atStart => exact ⟨0, 0, rfl, rfl, Nat.zero_le _, rfl⟩
  case round =>
    obtain ⟨k, q, rfl, rfl, hk, rfl⟩ := hrel
    by_cases hlt : k < l
    · have hltz : (k : Int) < (l : Int) := by omega
      have hkL : k < L.length := by rw [Hl.out]; exact hlt
      obtain ⟨b0, o0, rfl, d1, r1, r2⟩ := L3.out k hkL
      clear r1 r2
      have htl := told_snoc L key k hkL
      have HT := Lib.hid htl
      obtain ⟨t, ht⟩ : ∃ t, (ofK key (L.take k)).length = t := ⟨_, rfl⟩
      have ht60 : t ≤ 200 := by
        rw [← ht]
        have h1 : (ofK key (L.take k)).length ≤ (L.take k).length := List.length_filter_le _ _
        rw [List.length_take] at h1; omega
      rw [ht] at HT ⊢
      have hkey : ∀ (x : Nat) (hx : x < L.length), ∃ kk, L[x].key = kk := fun x hx => ⟨_, rfl⟩
      obtain ⟨kk, hkk⟩ := hkey k hkL
      rw [hkk] at d1 HT
      by_cases hk0 : k = 0
      · subst hk0
        have d1' : w3.cell? ⟨b0, o0, none⟩ = some (.string kk) := by simpa using d1
        clear d1
        rw [show ((0 : Nat) : Int) = (0 : Int) from rfl]
        by_cases he : kk = key
        · have hbe : (kk.toList == key.toList) = true := by rw [bytes_eq]; exact decide_eq_true he
          have HT2 := Lib.hid (show (ofK key (L.take (0 + 1))).length = t + 1 by rw [HT.out, if_pos he])
          subst he
          clear HT htl ht hkk hkL hkey
          go_wp2_with fail
          go_quiet (fail)
          go_wp2
          go_roundw
          case rel => exact ⟨0 + 1, _, by rw [HT2.out]; go_num, by go_num, by omega, rfl⟩
          case measure => simp [intOf]; omega
        · have hbe := ne_bytes he
          have HT2 := Lib.hid (show (ofK key (L.take (0 + 1))).length = t by rw [HT.out, if_neg he, Nat.add_zero])
          clear HT htl ht hkk hkL he hkey
          go_wp2_with fail
          go_quiet (fail)
          go_wp2
          go_roundw
          case rel => exact ⟨0 + 1, _, by rw [HT2.out], by go_num, by omega, rfl⟩
          case measure => simp [intOf]; omega
      · obtain ⟨j, rfl⟩ : ∃ j, k = j + 1 := ⟨k - 1, by omega⟩
        have hjL : j < L.length := by omega
        obtain ⟨b1, o1, he1, d0, r1, r2⟩ := L3.out j hjL
        clear r1 r2
        obtain ⟨rfl, rfl⟩ : b0 = b1 ∧ o0 = o1 := by simpa using he1
        have hlt0 : lt L[j].key kk = true := by rw [← hkk]; exact List.pairwise_iff_getElem.1 HPw.out j (j + 1) hjL hkL (by omega)
        obtain ⟨kj, hkj⟩ := hkey j hjL
        rw [hkj] at d0 hlt0
        have hbl : Op.bytesLess kj.toList kk.toList = true := hlt0
        have hi0 : (0 : Int) < (j : Int) + 1 := by omega
        have hi1 : (0 : Int) ≤ (j : Int) := by omega
        have hi2 : (j : Int) < (l : Int) := by omega
        have hi3 : (j : Int) + 1 < (l : Int) := by omega
        have hi4 : (0 : Int) ≤ (j : Int) + 1 := by omega
        have hwr : IntKind.i64.wrap (j : Int) = (j : Int) := by rw [IntKind.wrap_i64]; omega
        have ei : ((j : Int) + 1).toNat = j + 1 := by omega
        by_cases he : kk = key
        · have hbe : (kk.toList == key.toList) = true := by rw [bytes_eq]; exact decide_eq_true he
          have HT2 := Lib.hid (show (ofK key (L.take (j + 1 + 1))).length = t + 1 by rw [HT.out, if_pos he])
          subst he
          clear HT htl ht hkk hkL hjL he1 hkj hlt0 hkey hk0
          go_wp2_with fail
          go_quiet (fail)
          go_wp2
          go_roundw
          case rel => exact ⟨j + 1 + 1, _, by rw [HT2.out]; go_num, by go_num, by omega, rfl⟩
          case measure => simp [intOf]; omega
        · have hbe := ne_bytes he
          have HT2 := Lib.hid (show (ofK key (L.take (j + 1 + 1))).length = t by rw [HT.out, if_neg he, Nat.add_zero])
          clear HT htl ht hkk hkL hjL he1 hkj hlt0 he hkey hk0
          go_wp2_with fail
          go_quiet (fail)
          go_wp2
          go_roundw
          case rel => exact ⟨j + 1 + 1, _, by rw [HT2.out], by go_num, by omega, rfl⟩
          case measure => simp [intOf]; omega
    · obtain rfl : k = l := by omega
      rw [List.take_of_length_le (by rw [Hl.out]; exact Nat.le_refl _)]
      obtain ⟨t, ht⟩ : ∃ t, (ofK key L).length = t := ⟨_, rfl⟩
      rw [ht] at HTold ⊢
      clear ht
      have hd := below_drewN w3 q
      have A4 := Lib.hid (A3.out.grow hd)
      have C4 := Lib.hid (C3.out.grow hd)
      have B4 := Lib.hid (B3.out.trans (hd.mono B3.out.size))
      obtain ⟨w4, hw4⟩ : ∃ w4, w3.drewN q = w4 := ⟨_, rfl⟩
      rw [hw4] at A4 C4 B4 ⊢
      clear hw4 hd A3 C3 B3
      go_wp2_with fail
      refine (get_any (some ⟨ga, 0, none⟩) a ka A key w4 A4.out.1.sl Ha.out (by omega)).mono ?_
      rintro e w5 ⟨rfl, hb⟩
      have C5 := Lib.hid (C4.out.grow hb)
      have B5 := Lib.hid (B4.out.trans (hb.mono B4.out.size))
      clear hb A4 C4 B4
      obtain ⟨v, hv⟩ : ∃ v, (getD A key).getD ⟨#[]⟩ = v := ⟨_, rfl⟩
      obtain ⟨is, his⟩ : ∃ v, hasD A key = v := ⟨_, rfl⟩
      rw [hv, his] at HTold ⊢
      clear hv his
      go_wp2_with fail
      refine (get_any (some ⟨gb, 0, none⟩) b kb B key w5 C5.out.1.sl Hb.out (by omega)).mono ?_
      rintro e w6 ⟨rfl, hb⟩
      have B6 := Lib.hid (B5.out.trans (hb.mono B5.out.size))
      clear hb C5 B5
      obtain ⟨u, hu⟩ : ∃ v, (getD B key).getD ⟨#[]⟩ = v := ⟨_, rfl⟩
      obtain ⟨had, hhad⟩ : ∃ v, hasD B key = v := ⟨_, rfl⟩
      rw [hu, hhad] at HTold ⊢
      clear hu hhad
      obtain ⟨ht1, hte⟩ := HTold.out
      have hle : (t : Int) ≤ 1 := by omega
      have hAw := Lib.hid (awake_any w6)
      by_cases hvu : v = u
      · subst hvu
        by_cases hih : is = had
        · subst hih
          obtain rfl : t = 0 := by
            rw [decide_eq_true rfl, decide_eq_true rfl] at hte
            have := of_decide_eq_false (hte.trans rfl)
            omega
          clear hte HTold hle
          go_wp2_with fail
          refine hAw.out.mono ?_
          rintro e w7 ⟨rfl, hb⟩
          have B7 := Lib.hid (B6.out.trans (hb.mono B6.out.size))
          clear hb
          go_wp2_with fail
          go_ret
          exact ⟨rfl, B7.out⟩
        · obtain rfl : t = 1 := by
            rw [decide_eq_true rfl, decide_eq_false hih] at hte
            exact of_decide_eq_true (hte.trans rfl)
          have hihb : (is == had) = false := by simpa using hih
          clear hte HTold hle hih
          go_wp2_with fail
          refine hAw.out.mono ?_
          rintro e w7 ⟨rfl, hb⟩
          have B7 := Lib.hid (B6.out.trans (hb.mono B6.out.size))
          clear hb
          go_wp2_with fail
          go_ret
          exact ⟨rfl, B7.out⟩
      · obtain rfl : t = 1 := by
          rw [decide_eq_false hvu] at hte
          exact of_decide_eq_true (hte.trans rfl)
        have hvub := ne_bytes hvu
        clear hte HTold hle hvu
        go_wp2_with fail
        refine hAw.out.mono ?_
        rintro e w7 ⟨rfl, hb⟩
        have B7 := Lib.hid (B6.out.trans (hb.mono B6.out.size))
        clear hb
        go_wp2_with fail
        go_ret
        exact ⟨rfl, B7.out⟩

set_option maxRecDepth 100000 in
set_option maxHeartbeats 4000000 in
theorem least_any (pa pb : Option Addr) (na nb ca cb : Nat) (X Y : Pairs) (key : ByteArray) (w : World) (hX : ArgP w pa X) (hY : ArgP w pb Y) (hna : X.length = na) (hnb : Y.length = nb) (ha63 : na ≤ 9223372036854775807) (hb63 : nb ≤ 9223372036854775807) :
    Calls Try.prog 5 #[.slice pa na ca, .slice pb nb cb, .string key] w (Yes w) := by
  by_cases h1 : 60 < na
  · have h1z : (na : Int) > 60 := by omega
    clear hX hY hna hnb
    go_enter Try.func5, Try.ntmps5
    go_wp2_with fail
    refine (awake_any w).mono ?_
    rintro e w1 ⟨rfl, hb⟩
    have HB := Lib.hid hb
    clear hb
    go_wp2_with fail
    go_ret
    exact ⟨rfl, HB.out⟩
  · by_cases h2 : 60 < nb
    · have h1z : ¬ (na : Int) > 60 := by omega
      have h2z : (nb : Int) > 60 := by omega
      clear hX hY hna hnb
      go_enter Try.func5, Try.ntmps5
      go_wp2_with fail
      refine (awake_any w).mono ?_
      rintro e w1 ⟨rfl, hb⟩
      have HB := Lib.hid hb
      clear hb
      go_wp2_with fail
      go_ret
      exact ⟨rfl, HB.out⟩
    · exact least_short pa pb na nb ca cb X Y key w hX hY hna hnb (by omega) (by omega)

end Go.Proofs.Ytbddicaabjlbjaa
