/-
  The statement on any row of puts, deletes and looks: the walk.
-/
import Derived.Test.YtkjkedaifdgjoaaLivesSt
namespace Go.Proofs.Ytkjkedaifdgjoaa
open Go Go.RowKit

theorem has_bool (D : Pairs) (x : ByteArray) : hasD D x = (getD D x).isSome := rfl

set_option maxRecDepth 100000 in
set_option maxHeartbeats 8000000 in
theorem lives_any (pa : Option Addr) (c : Nat) (l : List OpD) (w : World) (ha : Args w pa l) (hll : l.length ≤ 9223372036854775807) :
    Calls Try.prog 3 #[.slice pa l.length c] w (Yes w) := by
  obtain ⟨n, hn⟩ : ∃ n, l.length = n := ⟨_, rfl⟩
  have HN := Lib.hid hn
  have HA := Lib.hid ha
  rw [hn] at hll ⊢
  clear hn ha
  by_cases hlong : 150 < n
  · go_enter Try.func3, Try.ntmps3
    go_wp2_with fail
    refine (awake_any _).mono ?_
    rintro e w' ⟨rfl, hb⟩
    have HB := Lib.hid hb
    clear hb
    go_wp2_with fail
    go_ret
    exact ⟨rfl, HB.out⟩
  · go_enter Try.func3, Try.ntmps3
    go_wp2_with fail
    refine (new_any w).mono ?_
    rintro e w0 ⟨rfl, hw0⟩
    have H0 := Lib.hid (Held.new w)
    rw [← hw0] at H0
    clear hw0
    obtain ⟨p, hp⟩ : ∃ p, w.heap.size = p := ⟨_, rfl⟩
    have HP := Lib.hid hp
    rw [hp] at H0 ⊢
    clear hp
    go_wp2_with fail
    go_loopw [5, 6] (Round p n w p w0.heap.size (fun k => lives (l.take k))) (fun _ i _ => n - (intOf i).toNat)
    case atStart =>
      have h0 := H0.out
      have b1 : Below w0.heap.size w0 (w0.alloc (.cells #[.slice none 0 0, .slice none 0 0] 28)) := (Below.refl _ w0).alloc (Nat.le_refl _) _
      have h1 := h0.grow b1
      have t1 := tab_new w0
      have d1 : Duo p w (w0.alloc (.cells #[.slice none 0 0, .slice none 0 0] 28)) p w0.heap.size [] [] (fun k => k = p) (fun k => k = w0.heap.size) :=
        ⟨h1.tab, t1, fun k hk hk' => by have := h0.tab.lt p rfl; omega, h1.below, fun k hk => Nat.le_of_eq hk.symm, fun k hk => by have := h0.room; omega, h0.size⟩
      have d2 := d1.grow ((Below.refl _ _).alloc (Nat.le_refl _) (.cells #[] 42))
      exact ⟨0, w0.heap.size + 1, 0, _, _, Nat.zero_le _, rfl, by simp [lives], d2, fun j hj => absurd hj (Nat.not_lt_zero _), d1.free (by simp) (by simp)⟩
    case round =>
      obtain ⟨k, g, cap, d, D, f, fu, hD, hk, rfl, hd, rfl, hh⟩ := hrel.out
      replace hD : lives (l.take k) = D := hD
      have hR : Hid (Rise D) := by rw [← hD]; exact lives_rise _
      have hdl : D.length ≤ 150 := by rw [← hD]; exact Nat.le_trans (lives_length _) (by rw [List.length_take]; omega)
      have HDL := Lib.hid hdl
      have HD := Lib.hid hD
      clear hD hdl hrel
      by_cases hlt : k < n
      · have hltL : k < l.length := by rw [HN.out]; exact hlt
        obtain ⟨b, o, rfl, hbw, hc0, hc1, hc2⟩ := HA.out.at' k hltL
        have hsh := HA.out.short k hltL
        have hki := HA.out.kinds k hltL
        have HS := Lib.hid (lives_snoc l k hltL)
        obtain ⟨⟨kd, key, val⟩, hq⟩ : ∃ q, l[k] = q := ⟨_, rfl⟩
        rw [hq] at hc0 hc1 hc2 hsh hki HS
        simp only at hc0 hc1 hc2 hsh hki
        clear hq hltL
        have HBW := HP.out
        have e0 := (hh.out.1.below.cell (p := ⟨b, o + k * 3, none⟩) (by show b < p; omega)).trans hc0
        have e1 := (hh.out.1.below.cell (p := ⟨b, o + k * 3 + 1, none⟩) (by show b < p; omega)).trans hc1
        have e2 := (hh.out.1.below.cell (p := ⟨b, o + k * 3 + 2, none⟩) (by show b < p; omega)).trans hc2
        have hi0 : (0 : Int) ≤ (k : Int) := by omega
        have hi1 : (k : Int) < (n : Int) := by omega
        clear hc0 hc1 hc2 HBW
        have S0 : Hid (St p w (wr.alloc (.cells #[.int .i64 kd, .string key, .string val] 31)) p w0.heap.size D D f fu g D wr.heap.size ⟨kd, key, val⟩) := by
          have hb := (Below.refl _ wr).alloc (Nat.le_refl _) (.cells #[.int .i64 kd, .string key, .string val] 31)
          exact ⟨hh.out.1.grow hb, hh.out.2.1.stays (hh.out.2.2.grow hb).2, (hh.out.2.2.grow hb).1, heap_alloc_new wr _, hh.out.1.free (Nat.le_refl _) (by simp)⟩
        have hdd := hd.out
        subst hdd
        go_wp2_with fail
        refine (refget_any g cap D key _ S0.out.lies (by have := HDL.out; omega)).mono ?_
        rintro e w' ⟨rfl, rfl⟩
        obtain ⟨s0, hs0⟩ : ∃ s0, (getD D key).getD ⟨#[]⟩ = s0 := ⟨_, rfl⟩
        obtain ⟨b0, hb0⟩ : ∃ b0, hasD D key = b0 := ⟨_, rfl⟩
        rw [hs0, hb0]
        have HS0 := Lib.hid hs0
        have HB0 := Lib.hid hb0
        obtain ⟨bo, hbo⟩ : ∃ bo, wr.heap.size = bo := ⟨_, rfl⟩
        obtain ⟨w1, hw1⟩ : ∃ w1, wr.alloc (.cells #[.int .i64 kd, .string key, .string val] 31) = w1 := ⟨_, rfl⟩
        rw [hw1, hbo] at S0
        rw [hw1, hbo]
        clear hs0 hb0 hbo hw1 e0 e1 e2
        have c1 := S0.out.c1
        go_wp2_with fail
        refine (get_any p D f key w1 S0.out.duo.fst hR.out (by have := HDL.out; omega)).mono ?_
        rintro e w' ⟨rfl, q, rfl⟩
        rw [HS0.out, HB0.out]
        have S1 := Lib.hid (S0.out.drewN q)
        obtain ⟨w2, hw2⟩ : ∃ w2, w1.drewN q = w2 := ⟨_, rfl⟩
        rw [hw2] at S1
        rw [hw2]
        clear hw2 c1
        have c0 := S1.out.c0
        have c1 := S1.out.c1
        have c2 := S1.out.c2
        by_cases hk1 : kd = 1
        · subst hk1
          have HS1 := Lib.hid (show lives (l.take (k + 1)) = putD D key val by rw [HS.out, HD.out]; simp [doD])
          go_wp2_with fail
          refine (put_any p D f key val w2 S1.out.duo.fst hR.out (by have := HDL.out; omega) hsh).mono ?_
          rintro e w3 ⟨f1, rfl, ht1, hs1⟩
          have S2 := Lib.hid (S1.out.turn ht1 hs1)
          clear ht1 hs1 c0 c1 c2
          have c0 := S2.out.c0
          have c1 := S2.out.c1
          have c2 := S2.out.c2
          go_wp2_with fail
          refine (put_any w0.heap.size D fu key val w3 S2.out.duo.snd hR.out (by have := HDL.out; omega) hsh).mono ?_
          rintro e w4 ⟨fu1, rfl, ht2, hs2⟩
          have S3 := Lib.hid (S2.out.swap.turn ht2 hs2).swap
          clear ht2 hs2 c0 c1 c2
          have c0 := S3.out.c0
          have c1 := S3.out.c1
          have c2 := S3.out.c2
          go_wp2_with fail
          refine (refput_any g cap D key val w4 S3.out.lies S3.out.fg.1 hR.out (by have := HDL.out; omega)).mono ?_
          rintro e w5 ⟨g2, cap2, rfl, hr2, hb2⟩
          have S4 := Lib.hid (S3.out.row hr2 hb2)
          clear hr2 hb2 c0 c1 c2
          have c0 := S4.out.c0
          have hLen := Lib.hid (len_any p (putD D key val) _ _ S4.out.duo.fst)
          obtain ⟨dn, hdn⟩ : ∃ dn, (putD D key val).length = dn := ⟨_, rfl⟩
          rw [hdn] at hLen ⊢
          have HDN := Lib.hid hdn
          clear hdn
          go_wp2_with fail
          refine hLen.out.mono ?_
          rintro e w' ⟨rfl, rfl⟩
          go_wp2_with fail
          go_roundw
          case rel => exact Round.mk HS1.out HDN.out rfl rfl (by omega) (by go_num) rfl S4.out
          case measure => simp [intOf]; omega
        · by_cases hk2 : kd = 2
          · subst hk2
            clear hk1
            have HS1 := Lib.hid (show lives (l.take (k + 1)) = delD D key by rw [HS.out, HD.out]; simp [doD])
            go_wp2_with fail
            refine (del_any p D f key w2 S1.out.duo.fst hR.out (by have := HDL.out; omega)).mono ?_
            rintro e w3 ⟨f1, rfl, ht1, hs1⟩
            have S2 := Lib.hid (S1.out.turn ht1 hs1)
            rw [HB0.out]
            clear ht1 hs1 c0 c1 c2
            have c1 := S2.out.c1
            go_wp2_with fail
            refine (del_any w0.heap.size D fu key w3 S2.out.duo.snd hR.out (by have := HDL.out; omega)).mono ?_
            rintro e w4 ⟨fu1, rfl, ht2, hs2⟩
            have S3 := Lib.hid (S2.out.swap.turn ht2 hs2).swap
            rw [HB0.out]
            clear ht2 hs2 c1
            have c1 := S3.out.c1
            go_wp2_with fail
            refine (refdel_any g cap D key w4 S3.out.lies S3.out.fg.1 (by have := HDL.out; omega)).mono ?_
            rintro e w5 ⟨g2, cap2, rfl, hr2, hb2⟩
            have S4 := Lib.hid (S3.out.row hr2 hb2)
            clear hr2 hb2 c1
            have hLen := Lib.hid (len_any p (delD D key) _ _ S4.out.duo.fst)
            obtain ⟨dn, hdn⟩ : ∃ dn, (delD D key).length = dn := ⟨_, rfl⟩
            rw [hdn] at hLen ⊢
            have HDN := Lib.hid hdn
            clear hdn
            go_wp2_with fail
            refine hLen.out.mono ?_
            rintro e w' ⟨rfl, rfl⟩
            go_wp2_with fail
            go_roundw
            case rel => exact Round.mk HS1.out HDN.out rfl rfl (by omega) (by go_num) rfl S4.out
            case measure => simp [intOf]; omega
          · have hq1 : (kd == 1) = false := by simpa using hk1
            have hq2 : (kd == 2) = false := by simpa using hk2
            have HS1 := Lib.hid (show lives (l.take (k + 1)) = D by rw [HS.out, HD.out]; simp [doD, hk1, hk2])
            clear hk1 hk2
            have hLen := Lib.hid (len_any p (D) _ _ S1.out.duo.fst)
            obtain ⟨dn, hdn⟩ : ∃ dn, (D).length = dn := ⟨_, rfl⟩
            rw [hdn] at hLen ⊢
            have HDN := Lib.hid hdn
            clear hdn
            go_wp2_with fail
            refine hLen.out.mono ?_
            rintro e w' ⟨rfl, rfl⟩
            go_wp2_with fail
            go_roundw
            case rel => exact Round.mk HS1.out HDN.out rfl rfl (by omega) (by go_num) rfl S1.out
            case measure => simp [intOf]; omega
      · obtain rfl : k = n := by omega
        have hdd := hd.out
        subst hdd
        obtain ⟨dn, hdn⟩ : ∃ dn, D.length = dn := ⟨_, rfl⟩
        have HDN := Lib.hid hdn
        have hdn150 : dn ≤ 150 := by have := HDL.out; omega
        rw [hdn]
        clear hdn hd
        go_wp2_with fail
        go_loop [12] (fun i => ∃ j : Nat, j ≤ dn ∧ i = .int .i64 j) (fun i => dn - (intOf i).toNat)
        case atStart => exact ⟨0, Nat.zero_le _, rfl⟩
        case round =>
          obtain ⟨j, hj, rfl⟩ := hrel
          by_cases hjl : j < dn
          · have h1 : j < D.length := by rw [HDN.out]; exact hjl
            have a1 := (hh.out.2.1 j h1).1
            have HK := Lib.hid (key_in p D f j wr hh.out.1.fst (by have := HDL.out; omega) h1)
            obtain ⟨ka, hka⟩ : ∃ ka, D[j].1 = ka := ⟨_, rfl⟩
            rw [hka] at a1 HK
            clear hka h1
            have hi0 : (0 : Int) ≤ (j : Int) := by omega
            have hi1 : (j : Int) < (dn : Int) := by omega
            go_wp2_with fail
            refine HK.out.mono ?_
            rintro e w' ⟨rfl, rfl⟩
            go_wp2_with fail
            go_round
            case rel => exact ⟨j + 1, by omega, by go_num⟩
            case measure => simp [intOf]; omega
          · obtain rfl : j = dn := by omega
            go_wp2_with fail
            refine (key_behind p D f j wr hh.out.1.fst (by have := HDL.out; omega) (by have := HDN.out; omega)).mono ?_
            rintro e w' ⟨rfl, rfl⟩
            go_wp2_with fail
            refine (key_ahead _ _).mono ?_
            rintro e w' ⟨rfl, rfl⟩
            go_wp2_with fail
            refine (lawall_any p D f wr hh.out.1.fst hR.out (by have := HDL.out; omega)).mono ?_
            rintro e w5 ⟨g5, cap5, rfl, hr5, hb5⟩
            have D5 := Lib.hid (hh.out.1.grow hb5)
            have L5 := Lib.hid (hh.out.2.1.stays (hh.out.2.2.grow hb5).2)
            have G5 := Lib.hid ((hh.out.2.2.grow hb5).1)
            have K5 := Lib.hid (Collected.lies hr5)
            clear hr5 hb5
            rw [HDN.out]
            go_wp2_with fail
            have hSa := same_yes g5 cap5 g cap D w5 K5.out.1 L5.out (by have := HDL.out; omega)
            rw [HDN.out] at hSa
            refine hSa.mono ?_
            rintro e w' ⟨rfl, q5, rfl⟩
            clear hSa
            have b6 : Below w5.heap.size w5 (w5.drewN q5) := ⟨rfl, rfl, rfl, Nat.le_refl _, fun _ _ => rfl⟩
            have D6 := Lib.hid (D5.out.grow b6)
            have L6 := Lib.hid (L5.out.stays (G5.out.grow b6).2)
            have G6 := Lib.hid ((G5.out.grow b6).1)
            clear b6
            obtain ⟨w6, hw6⟩ : ∃ w6, w5.drewN q5 = w6 := ⟨_, rfl⟩
            rw [hw6] at D6 L6 G6
            rw [hw6]
            clear hw6
            go_wp2_with fail
            refine (lawall_any w0.heap.size D fu w6 D6.out.snd hR.out (by have := HDL.out; omega)).mono ?_
            rintro e w7 ⟨g7, cap7, rfl, hr7, hb7⟩
            have D7 := Lib.hid (D6.out.grow hb7)
            have L7 := Lib.hid (L6.out.stays (G6.out.grow hb7).2)
            have K7 := Lib.hid (Collected.lies hr7)
            clear hr7 hb7
            rw [HDN.out]
            go_wp2_with fail
            have hSa := same_yes g7 cap7 g cap D w7 K7.out.1 L7.out (by have := HDL.out; omega)
            rw [HDN.out] at hSa
            refine hSa.mono ?_
            rintro e w' ⟨rfl, q7, rfl⟩
            clear hSa
            go_wp2_with fail
            refine (awake_any _).mono ?_
            rintro e w8 ⟨rfl, hb8⟩
            have HE := Lib.hid (show Below w.heap.size w w8 from by
              have h4 := D7.out.below
              rw [← HP.out] at h4
              exact h4.trans ((Below.mono (B := w7.heap.size) ⟨hb8.os, hb8.tape, hb8.output, hb8.size, hb8.block⟩ h4.size)))
            clear hb8
            go_wp2_with fail
            go_ret
            exact ⟨rfl, HE.out⟩

end Go.Proofs.Ytkjkedaifdgjoaa
