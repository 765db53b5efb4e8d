/-
  The statement on copies: the walk.
-/
import Derived.Test.YtkjkedaifdgjoaaCopiesSt
namespace Go.Proofs.Ytkjkedaifdgjoaa
open Go Go.RowKit

set_option maxRecDepth 100000 in
set_option maxHeartbeats 8000000 in
theorem copies_any (pa pb : Option Addr) (ca cb : Nat) (l m : List OpD) (w : World) (ha : Args w pa l) (hb : Args w pb m) (hll : l.length ≤ 9223372036854775807) (hml : m.length ≤ 9223372036854775807) :
    Calls Try.prog 4 #[.slice pa l.length ca, .slice pb m.length cb] w (Yes w) := by
  obtain ⟨n, hn⟩ : ∃ n, l.length = n := ⟨_, rfl⟩
  obtain ⟨n2, hn2⟩ : ∃ n, m.length = n := ⟨_, rfl⟩
  have HN := Lib.hid hn
  have HN2 := Lib.hid hn2
  have HA := Lib.hid ha
  have HB := Lib.hid hb
  rw [hn] at hll ⊢
  rw [hn2] at hml ⊢
  clear hn hn2 ha hb
  have hmix : Try.prog.follows .mixedOrders = true := by kernel_rfl
  by_cases hlong : 60 < n
  · go_enter Try.func4, Try.ntmps4
    go_wp2_with fail
    refine (awake_any _).mono ?_
    rintro e w' ⟨rfl, hb⟩
    have HB := Lib.hid hb
    clear hb
    go_wp2_with fail
    go_ret
    exact ⟨rfl, HB.out⟩
  · by_cases hlong2 : 60 < n2
    · go_enter Try.func4, Try.ntmps4
      go_wp2_with fail
      refine (awake_any _).mono ?_
      rintro e w' ⟨rfl, hb⟩
      have HB := Lib.hid hb
      clear hb
      go_wp2_with fail
      go_ret
      exact ⟨rfl, HB.out⟩
    · go_enter Try.func4, Try.ntmps4
      go_wp2_with fail
      refine (new_any w).mono ?_
      rintro e w0 ⟨rfl, hw0⟩
      have H0 := Lib.hid (Held.new w)
      have B0 := Lib.hid (show Bare w0 w.heap.size [] from fun _ => by rw [hw0]; exact heap_alloc_new w _)
      rw [← hw0] at H0
      clear hw0
      obtain ⟨p, hp⟩ : ∃ p, w.heap.size = p := ⟨_, rfl⟩
      have HP := Lib.hid hp
      rw [hp] at H0 B0 ⊢
      clear hp
      go_wp2_with fail
      go_loopw [6] (One p n w p (fun k => puts (l.take k))) (fun i _ => n - (intOf i).toNat)
      case atStart => exact ⟨0, _, Nat.zero_le _, rfl, H0.out, B0.out⟩
      case round =>
        obtain ⟨k, f, hk, rfl, hh, hbare⟩ := hrel
        have HH := Lib.hid hh
        have HBare := Lib.hid hbare
        clear hh hbare
        obtain ⟨D, hD⟩ : ∃ D, (fun k => puts (l.take k)) k = D := ⟨_, rfl⟩
        rw [hD] at HH HBare
        replace hD : puts (l.take k) = D := hD
        have hR : Hid (Rise D) := by rw [← hD]; exact puts_rise _
        have hdl : D.length ≤ 60 := by rw [← hD]; exact Nat.le_trans (puts_length _) (by rw [List.length_take]; omega)
        have HDL := Lib.hid hdl
        have HD := Lib.hid hD
        clear hD hdl
        by_cases hlt : k < n
        · have hltL : k < l.length := by rw [HN.out]; exact hlt
          obtain ⟨b, o, rfl, hbw, hc0, hc1, hc2⟩ := HA.out.at' k hltL
          have hsh := HA.out.short k hltL
          have HS := Lib.hid (puts_snoc l k hltL)
          obtain ⟨q, hq⟩ : ∃ q, l[k] = q := ⟨_, rfl⟩
          rw [hq] at hc1 hc2 hsh HS
          clear hq hltL hc0
          have HBW := HP.out
          have e1 := (HH.out.below.cell (p := ⟨b, o + k * 3 + 1, none⟩) (by show b < p; omega)).trans hc1
          have e2 := (HH.out.below.cell (p := ⟨b, o + k * 3 + 2, none⟩) (by show b < p; omega)).trans hc2
          have hi0 : (0 : Int) ≤ (k : Int) := by omega
          have hi1 : (k : Int) < (n : Int) := by omega
          clear hc1 hc2 HBW
          go_wp2_with fail
          go_still_tail 11, hmix
          change wpList _ _ _ _ _ wr.drew
          have hh1 := held_drew HH.out
          go_wp2_with fail
          refine (put_any p D f q.key q.val wr.drew hh1.tab hR.out (by have := HDL.out; omega) hsh).mono ?_
          rintro e w1 ⟨f1, rfl, ht1, hs1⟩
          have H1 := Lib.hid (hh1.turned ht1 hs1)
          clear ht1 hs1 hh1
          have HS2 := Lib.hid (show puts (l.take (k + 1)) = putD D q.key q.val by rw [HS.out, HD.out])
          go_wp2_with fail
          go_roundw
          case rel =>
            refine ⟨k + 1, f1, by omega, by go_num, ?_, ?_⟩
            · show Held p w _ p (puts (l.take (k + 1))) f1
              rw [HS2.out]; exact H1.out
            · show Bare _ p (puts (l.take (k + 1)))
              rw [HS2.out]; exact fun h => absurd h (putD_ne _ _ _)
          case measure => simp [intOf]; omega
        · obtain rfl : k = n := by omega
          go_wp2_with fail
          refine (copy_any p D f wr HH.out.tab hR.out (by have := HDL.out; omega) (fun h => HBare.out.cells h)).mono ?_
          rintro e w1 ⟨pc, fc, rfl, hT1, hb1, hfc⟩
          have D1 : Hid (Duo p w w1 p pc D D f fc) := by
            have h1 := HH.out.grow hb1
            exact ⟨h1.tab, hT1, fun k hk hk' => absurd (HH.out.tab.lt k hk) (Nat.not_lt.2 (hfc k hk')), h1.below, h1.mine, fun k hk => Nat.le_trans HH.out.room (hfc k hk), h1.size⟩
          clear hT1 hb1 hfc
          go_wp2_with fail
          refine (lawall_any p D f w1 D1.out.fst hR.out (by have := HDL.out; omega)).mono ?_
          rintro e w2 ⟨g, cap, rfl, hr2, hb2⟩
          have T2 : Hid (Trio p w w2 p pc D D f fc g D) :=
            ⟨D1.out.grow hb2, (Collected.lies hr2).1, D1.out.free (Collected.lies hr2).2.1 (Collected.lies hr2).2.2⟩
          clear hr2 hb2 HH HBare HD H0 B0
          obtain ⟨d, hd⟩ : ∃ d, D.length = d := ⟨_, rfl⟩
          have HDn := Lib.hid hd
          have hd60 : d ≤ 60 := by have := HDL.out; omega
          rw [hd]
          clear hd
          go_wp2_with fail
          go_loopw [9] (Two p n2 w p pc (fun k => mores D (m.take k)) D fc g) (fun i _ => n2 - (intOf i).toNat)
          case atStart => exact ⟨0, f, Nat.zero_le _, rfl, T2.out⟩
          case round =>
            obtain ⟨k2, f2, hk2, rfl, hh⟩ := hrel
            have T3 := Lib.hid hh
            clear hh
            obtain ⟨E, hE⟩ : ∃ E, (fun k => mores D (m.take k)) k2 = E := ⟨_, rfl⟩
            rw [hE] at T3
            replace hE : mores D (m.take k2) = E := hE
            have hRE : Hid (Rise E) := by rw [← hE]; exact mores_rise _ hR.out
            have hel : E.length ≤ 120 := by
              rw [← hE]
              have h1 := mores_length (m.take k2) D
              have h2 : (m.take k2).length ≤ k2 := by rw [List.length_take]; omega
              have h3 := HDn.out
              omega
            have HEL := Lib.hid hel
            have HE := Lib.hid hE
            clear hE hel
            by_cases hlt2 : k2 < n2
            · have hltL : k2 < m.length := by rw [HN2.out]; exact hlt2
              obtain ⟨b, o, rfl, hbw, hc0, hc1, hc2⟩ := HB.out.at' k2 hltL
              have hsh := HB.out.short k2 hltL
              have hki := HB.out.kinds k2 hltL
              have HS := Lib.hid (mores_snoc D m k2 hltL)
              obtain ⟨⟨kd, key, val⟩, hq⟩ : ∃ q, m[k2] = q := ⟨_, rfl⟩
              rw [hq] at hc0 hc1 hc2 hsh hki HS
              simp only at hc0 hc1 hc2 hsh hki
              clear hq hltL
              have HBW := HP.out
              have e0 := (T3.out.duo.below.cell (p := ⟨b, o + k2 * 3, none⟩) (by show b < p; omega)).trans hc0
              have e1 := (T3.out.duo.below.cell (p := ⟨b, o + k2 * 3 + 1, none⟩) (by show b < p; omega)).trans hc1
              have e2 := (T3.out.duo.below.cell (p := ⟨b, o + k2 * 3 + 2, none⟩) (by show b < p; omega)).trans hc2
              have hi0 : (0 : Int) ≤ (k2 : Int) := by omega
              have hi1 : (k2 : Int) < (n2 : Int) := by omega
              clear hc0 hc1 hc2 HBW
              by_cases hkd : kd = 2
              · subst hkd
                have HS1 := Lib.hid (show mores D (m.take (k2 + 1)) = delD E key by rw [HS.out, HE.out]; simp [doM])
                go_wp2_with fail
                refine (del_any p E f2 key wr T3.out.duo.fst hRE.out (by have := HEL.out; omega)).mono ?_
                rintro e w3 ⟨f3, rfl, ht1, hs1⟩
                have T4 := Lib.hid (T3.out.turn ht1 hs1)
                obtain ⟨b0, hb0⟩ : ∃ b0, hasD E key = b0 := ⟨_, rfl⟩
                rw [hb0]
                clear ht1 hs1 hb0
                go_wp2_with fail
                go_roundw
                case rel =>
                  refine ⟨k2 + 1, f3, by omega, by go_num, ?_⟩
                  show Trio p w _ p pc (mores D (m.take (k2 + 1))) D f3 fc g D
                  rw [HS1.out]; exact T4.out
                case measure => simp [intOf]; omega
              · have hq2 : (kd == 2) = false := by simpa using hkd
                have HS1 := Lib.hid (show mores D (m.take (k2 + 1)) = putD E key val by rw [HS.out, HE.out]; simp [doM, hkd])
                clear hkd
                go_wp2_with fail
                go_still_tail 11, hmix
                change wpList _ _ _ _ _ wr.drew
                have T3d := Lib.hid T3.out.drew
                go_wp2_with fail
                refine (put_any p E f2 key val wr.drew T3d.out.duo.fst hRE.out (by have := HEL.out; omega) hsh).mono ?_
                rintro e w3 ⟨f3, rfl, ht1, hs1⟩
                have T4 := Lib.hid (T3d.out.turn ht1 hs1)
                clear ht1 hs1
                go_wp2_with fail
                go_roundw
                case rel =>
                  refine ⟨k2 + 1, f3, by omega, by go_num, ?_⟩
                  show Trio p w _ p pc (mores D (m.take (k2 + 1))) D f3 fc g D
                  rw [HS1.out]; exact T4.out
                case measure => simp [intOf]; omega
            · obtain rfl : k2 = n2 := by omega
              go_wp2_with fail
              refine (lawall_any p E f2 wr T3.out.duo.fst hRE.out (by have := HEL.out; omega)).mono ?_
              rintro e w3 ⟨gn, capn, rfl, hr3, hb3⟩
              have T4 := Lib.hid (T3.out.grow hb3)
              have U4 : Hid (Trio p w w3 p pc E D f2 fc gn E) :=
                ⟨T4.out.duo, (Collected.lies hr3).1, T3.out.duo.free (Collected.lies hr3).2.1 (Collected.lies hr3).2.2⟩
              clear hr3 hb3
              obtain ⟨en, hen⟩ : ∃ en, E.length = en := ⟨_, rfl⟩
              have HEn := Lib.hid hen
              rw [hen]
              clear hen
              go_wp2_with fail
              refine (lawall_any pc D fc w3 T4.out.duo.snd hR.out (by have := HDL.out; omega)).mono ?_
              rintro e w4 ⟨gc, capc, rfl, hr4, hb4⟩
              have T5 := Lib.hid (T4.out.grow hb4)
              have U5 := Lib.hid (U4.out.grow hb4)
              have K5 := Lib.hid (Collected.lies hr4)
              clear hr4 hb4
              rw [HDn.out]
              go_wp2_with fail
              have hSa := same_yes gc capc g cap D w4 K5.out.1 T5.out.lies (by have := HDL.out; omega)
              rw [HDn.out] at hSa
              refine hSa.mono ?_
              rintro e w' ⟨rfl, q5, rfl⟩
              clear hSa
              have T6 := Lib.hid (T5.out.drewN q5)
              have U6 := Lib.hid (U5.out.drewN q5)
              obtain ⟨w6, hw6⟩ : ∃ w6, w4.drewN q5 = w6 := ⟨_, rfl⟩
              rw [hw6] at T6 U6
              rw [hw6]
              clear hw6
              go_wp2_with fail
              go_loopw [11] (Three p d w p pc E D f2 g gn) (fun i _ => d - (intOf i).toNat)
              case atStart => exact ⟨0, fc, Nat.zero_le _, rfl, T6.out, U6.out⟩
              case round =>
                obtain ⟨j, fu, hj, rfl, hh1, hh2⟩ := hrel
                have T7 := Lib.hid hh1
                have U7 := Lib.hid hh2
                clear hh1 hh2
                by_cases hjd : j < d
                · have hjl : j < D.length := by rw [HDn.out]; exact hjd
                  have a1 := (T7.out.lies j hjl).1
                  have HDD := Lib.hid (del_drop hR.out j hjl)
                  obtain ⟨ka, hka⟩ : ∃ ka, D[j].1 = ka := ⟨_, rfl⟩
                  rw [hka] at a1 HDD
                  clear hka hjl
                  have hRj : Hid (Rise (D.drop j)) := hR.out.sublist (List.drop_sublist _ _)
                  have hi0 : (0 : Int) ≤ (j : Int) := by omega
                  have hi1 : (j : Int) < (d : Int) := by omega
                  go_wp2_with fail
                  refine (del_any pc (D.drop j) fu ka wr T7.out.duo.snd hRj.out (by have := HDL.out; rw [List.length_drop]; omega)).mono ?_
                  rintro e w8 ⟨f8, rfl, ht1, hs1⟩
                  rw [HDD.out] at ht1
                  have T8 := Lib.hid (T7.out.swap.turn ht1 hs1).swap
                  have U8 := Lib.hid (U7.out.swap.turn ht1 hs1).swap
                  obtain ⟨b0, hb0⟩ : ∃ b0, hasD (D.drop j) ka = b0 := ⟨_, rfl⟩
                  rw [hb0]
                  clear ht1 hs1 hb0
                  go_wp2_with fail
                  go_roundw
                  case rel => exact ⟨j + 1, f8, by omega, by go_num, T8.out, U8.out⟩
                  case measure => simp [intOf]; omega
                · obtain rfl : j = d := by omega
                  have hnil : D.drop j = [] := List.drop_eq_nil_of_le (by have := HDn.out; omega)
                  have hL := len_any pc (D.drop j) fu wr T7.out.duo.snd
                  rw [hnil] at hL
                  have HL := Lib.hid hL
                  clear hL hnil
                  go_wp2_with fail
                  refine HL.out.mono ?_
                  rintro e w' ⟨rfl, rfl⟩
                  go_wp2_with fail
                  refine (lawall_any p E f2 wr U7.out.duo.fst hRE.out (by have := HEL.out; omega)).mono ?_
                  rintro e w8 ⟨g8, cap8, rfl, hr8, hb8⟩
                  have U8 := Lib.hid (U7.out.grow hb8)
                  have K8 := Lib.hid (Collected.lies hr8)
                  clear hr8 hb8
                  rw [HEn.out]
                  go_wp2_with fail
                  have hSa := same_yes g8 cap8 gn capn E w8 K8.out.1 U8.out.lies (by have := HEL.out; omega)
                  rw [HEn.out] at hSa
                  refine hSa.mono ?_
                  rintro e w' ⟨rfl, q8, rfl⟩
                  clear hSa
                  go_wp2_with fail
                  refine (awake_any _).mono ?_
                  rintro e w9 ⟨rfl, hb9⟩
                  have HE9 := Lib.hid (show Below w.heap.size w w9 from by
                    have h4 := U8.out.duo.below
                    rw [← HP.out] at h4
                    exact h4.trans ((Below.mono (B := w8.heap.size) ⟨hb9.os, hb9.tape, hb9.output, hb9.size, hb9.block⟩ h4.size)))
                  clear hb9
                  go_wp2_with fail
                  go_ret
                  exact ⟨rfl, HE9.out⟩

end Go.Proofs.Ytkjkedaifdgjoaa
