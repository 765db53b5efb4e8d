/-
  The reference's Put, Delete, Get and Same of rows wherever they lie.
-/
import Derived.Test.YtbddicaabjlbjaaAwake7
namespace Go.Proofs.Ytbddicaabjlbjaa
open Go Go.RowKit

set_option maxHeartbeats 4000000 in
set_option maxRecDepth 100000 in
theorem refput_sl (p : Option Addr) (c : Nat) (L : Pairs) (x v : ByteArray) (w : World) (h : Sl w p L) (hR : Rise L) (hn : L.length ≤ 10000) :
    Calls Try.prog 28 #[.slice p L.length c, .string x, .string v] w (Collected (putD L x v) w) := by
  obtain ⟨i0, hi, hz0, hz1, hz2⟩ := info_parts info_pair
  have H := Lib.hid h
  have HRise := Lib.hid hR
  obtain ⟨n, hnn⟩ : ∃ n, L.length = n := ⟨_, rfl⟩
  rw [hnn] at hn ⊢
  have HN := Lib.hid hnn
  clear h hnn hR
  obtain ⟨B, hB⟩ : ∃ B, w.heap.size = B := ⟨_, rfl⟩
  have HB := Lib.hid hB
  have H0 := Lib.hid (Grows.mk0 (w := w) rfl)
  go_enter Try.func28, Try.ntmps28
  go_wp2
  go_loopw [7, 8, 9] (UptoP n B w (fun k => putFold x v (L.take k))) (fun _ _ i _ => n - (intOf i).toNat)
  case atStart => exact ⟨0, Nat.zero_le _, rfl, rfl, by rw [← HB.out]; exact H0.out⟩
  case round =>
    obtain ⟨k, g', cap, m, O, dn, hF, hk, rfl, rfl, rfl, hm, hrow, hbel⟩ := hrel.out
    have hF : putFold x v (L.take k) = (O, dn) := hF
    have hBw := HB.out
    have hwr : B ≤ wr.heap.size := by have := hbel.size; omega
    clear hBw
    have hm20 : m ≤ 20000 := by
      have h1 := putFold_len x v (L.take k)
      rw [hF, List.length_take] at h1
      have h2 := hm.out
      simp only at h1
      omega
    by_cases hlt : k < n
    · have hltL : k < L.length := by rw [HN.out]; exact hlt
      obtain ⟨gb, go, rfl, c1, c2⟩ := H.out k hltL
      have hgB : gb < B := by have h1 := cell_lt c1; have h2 := HB.out; omega
      have hs : putFold x v (L.take (k + 1)) = putStep x v (O, dn) L[k] := by rw [List.take_succ_eq_append_getElem hltL, putFold_snoc, hF]
      obtain ⟨⟨a, b⟩, hq⟩ : ∃ q, L[k] = q := ⟨_, rfl⟩
      rw [hq] at hs c1 c2
      have hcell : Hid (∀ W, Below B w W → W.cell? ⟨gb, go + k * 2, none⟩ = some (.string a) ∧ W.cell? ⟨gb, go + k * 2 + 1, none⟩ = some (.string b)) := fun W hW => ⟨(hW.cell (p := ⟨gb, go + k * 2, none⟩) hgB).trans c1, (hW.cell (p := ⟨gb, go + k * 2 + 1, none⟩) hgB).trans c2⟩
      obtain ⟨d1, d2⟩ := hcell.out wr hbel
      have HBEL := Lib.hid hbel
      have HROW := Lib.hid hrow
      clear hq hltL c1 c2 hF hbel
      cases dn with
      | true =>
        by_cases hax : a = x
        · subst hax
          have HS := Lib.hid (show putFold a v (L.take (k + 1)) = (O, true) by rw [hs]; simp [putStep])
          clear hs hrow
          go_wp2
          go_roundw
          case rel => exact UptoP.mk HS.out (by omega) (by go_num) rfl (Grows.of hm rfl HROW.out HBEL.out)
          case measure => simp [intOf]; omega
        · have hl' := ne_bytes hax
          have HS := Lib.hid (show putFold x v (L.take (k + 1)) = (O ++ [(a, b)], true) by rw [hs]; simp [putStep, hax])
          clear hs hax
          go_wp2_with (at_builtin; refine wpList_append_own_at _ rfl _ _ 22 rfl B 34 i0 (.agg #[.string ⟨#[]⟩, .string ⟨#[]⟩]) 2 32 Try.underlying22 hi hz0 hz1 hz2 rfl (by decide) (.slice (some ⟨g', 0, none⟩) m cap) m (flat O) rfl (hrow.alloc _) ⟨wr.heap.size, 0, none⟩ 1 1 [.string a, .string b] rfl rfl (pair_news _ _ _ _) (pair_one _ _) (by simp only [maxLen]; omega) (by omega) (by simp; omega) ?_; intro v' w1 hown' hgrow _ hat; obtain ⟨g2, cap2, rfl, hrow2, hbel2, hm2⟩ := grown_pair hm hwr hrow HBEL.out hown' hgrow; clear hown' hgrow hat)
          go_roundw
          case rel => exact UptoP.mk HS.out (by omega) (by go_num) rfl (Grows.of hm2 rfl hrow2 hbel2)
          case measure => simp [intOf]; omega
      | false =>
        cases hl : lt a x with
        | true =>
          have hl1 : Op.bytesLess a.toList x.toList = true := hl
          have hax := lt_ne hl
          have hl' := ne_bytes hax
          have HS := Lib.hid (show putFold x v (L.take (k + 1)) = (O ++ [(a, b)], false) by rw [hs]; simp [putStep, hax, hl])
          clear hs hax hl
          go_wp2_with (at_builtin; refine wpList_append_own_at _ rfl _ _ 22 rfl B 34 i0 (.agg #[.string ⟨#[]⟩, .string ⟨#[]⟩]) 2 32 Try.underlying22 hi hz0 hz1 hz2 rfl (by decide) (.slice (some ⟨g', 0, none⟩) m cap) m (flat O) rfl (hrow.alloc _) ⟨wr.heap.size, 0, none⟩ 1 1 [.string a, .string b] rfl rfl (pair_news _ _ _ _) (pair_one _ _) (by simp only [maxLen]; omega) (by omega) (by simp; omega) ?_; intro v' w1 hown' hgrow _ hat; obtain ⟨g2, cap2, rfl, hrow2, hbel2, hm2⟩ := grown_pair hm hwr hrow HBEL.out hown' hgrow; clear hown' hgrow hat)
          go_roundw
          case rel => exact UptoP.mk HS.out (by omega) (by go_num) rfl (Grows.of hm2 rfl hrow2 hbel2)
          case measure => simp [intOf]; omega
        | false =>
          have hl1 : Op.bytesLess a.toList x.toList = false := hl
          by_cases hax : a = x
          · subst hax
            have HS := Lib.hid (show putFold a v (L.take (k + 1)) = (O ++ [(a, v)], true) by rw [hs]; simp [putStep, hl])
            clear hs hl
            go_wp2_with (at_builtin; refine wpList_append_own_at _ rfl _ _ 22 rfl B 34 i0 (.agg #[.string ⟨#[]⟩, .string ⟨#[]⟩]) 2 32 Try.underlying22 hi hz0 hz1 hz2 rfl (by decide) (.slice (some ⟨g', 0, none⟩) m cap) m (flat O) rfl (hrow.alloc _) ⟨wr.heap.size, 0, none⟩ 1 1 [.string a, .string v] rfl rfl (pair_news _ _ _ _) (pair_one _ _) (by simp only [maxLen]; omega) (by omega) (by simp; omega) ?_; intro v' w1 hown' hgrow _ hat; obtain ⟨g2, cap2, rfl, hrow2, hbel2, hm2⟩ := grown_pair hm hwr hrow HBEL.out hown' hgrow; obtain ⟨e1, e2⟩ := hcell.out w1 hbel2; clear hown' hgrow hat)
            go_roundw
            case rel => exact UptoP.mk HS.out (by omega) (by go_num) rfl (Grows.of hm2 rfl hrow2 hbel2)
            case measure => simp [intOf]; omega
          · have hl' := ne_bytes hax
            have HS := Lib.hid (show putFold x v (L.take (k + 1)) = (O ++ [(x, v)] ++ [(a, b)], true) by rw [hs]; simp [putStep, hax, hl])
            clear hs hax hl
            go_wp2_with (first
              | (at_builtin; refine wpList_append_own_at _ rfl _ _ 22 rfl B 34 i0 (.agg #[.string ⟨#[]⟩, .string ⟨#[]⟩]) 2 32 Try.underlying22 hi hz0 hz1 hz2 rfl (by decide) (.slice (some ⟨g', 0, none⟩) m cap) m (flat O) rfl (hrow.alloc _) ⟨wr.heap.size, 0, none⟩ 1 1 [.string x, .string v] rfl rfl (pair_news _ _ _ _) (pair_one _ _) (by simp only [maxLen]; omega) (by omega) (by simp; omega) ?_; intro v' w1 hown' hgrow _ hat; obtain ⟨g2, cap2, rfl, hrow2, hbel2, hm2⟩ := grown_pair hm hwr hrow HBEL.out hown' hgrow; obtain ⟨e1, e2⟩ := hcell.out w1 hbel2; have hw1 : B ≤ w1.heap.size := (by have h1 := hbel2.size; have h2 := HB.out; omega); have HBEL2 := Lib.hid hbel2; clear hown' hgrow hat hbel2)
              | (at_builtin; refine wpList_append_own_at _ rfl _ _ 22 rfl B 34 i0 (.agg #[.string ⟨#[]⟩, .string ⟨#[]⟩]) 2 32 Try.underlying22 hi hz0 hz1 hz2 rfl (by decide) (.slice (some ⟨g2, 0, none⟩) (m + 1) cap2) (m + 1) (flat (O ++ [(x, v)])) rfl (hrow2.alloc _) ⟨w1.heap.size, 0, none⟩ 1 1 [.string a, .string b] rfl rfl (pair_news _ _ _ _) (pair_one _ _) (by simp only [maxLen]; omega) (by omega) (by simp; omega) ?_; intro v' w3 hown' hgrow _ hat; obtain ⟨g3, cap3, rfl, hrow3, hbel3, hm3⟩ := grown_pair hm2 hw1 hrow2 HBEL2.out hown' hgrow; clear hown' hgrow hat))
            go_roundw
            case rel => exact UptoP.mk HS.out (by omega) (by go_num) rfl (Grows.of hm3 rfl hrow3 hbel3)
            case measure => simp [intOf]; omega
    · obtain rfl : k = n := by omega
      have hE := putEnd_of HN.out hF HRise.out
      have hB' := HB.out
      have HROW := Lib.hid hrow
      have HBEL := Lib.hid hbel
      clear hF hB'
      cases dn with
      | true =>
        have HE := Lib.hid (show Collected (putD L x v) w (.returned (.slice (some ⟨g', 0, none⟩) m cap)) wr from by
          rw [← HB.out] at hrow hbel
          exact Grows.done (Grows.of hm rfl hrow hbel) (by rw [hE]; rfl))
        clear hE hrow hbel
        go_wp2
        go_ret
        exact HE.out
      | false =>
        have HE := Lib.hid (show putD L x v = O ++ [(x, v)] by rw [hE]; rfl)
        clear hE hbel
        go_wp2_with (at_builtin; refine wpList_append_own_at _ rfl _ _ 22 rfl B 34 i0 (.agg #[.string ⟨#[]⟩, .string ⟨#[]⟩]) 2 32 Try.underlying22 hi hz0 hz1 hz2 rfl (by decide) (.slice (some ⟨g', 0, none⟩) m cap) m (flat O) rfl (hrow.alloc _) ⟨wr.heap.size, 0, none⟩ 1 1 [.string x, .string v] rfl rfl (pair_news _ _ _ _) (pair_one _ _) (by simp only [maxLen]; omega) (by omega) (by simp; omega) ?_; intro v' w1 hown' hgrow _ hat; obtain ⟨g2, cap2, rfl, hrow2, hbel2, hm2⟩ := grown_pair hm hwr hrow HBEL.out hown' hgrow; clear hown' hgrow hat)
        go_ret
        have hB' := HB.out
        subst hB'
        exact Grows.done (Grows.of hm2 rfl hrow2 hbel2) HE.out.symm

set_option maxHeartbeats 2000000 in
set_option maxRecDepth 100000 in
theorem refdel_sl (p : Option Addr) (c : Nat) (L : Pairs) (x : ByteArray) (w : World) (h : Sl w p L) (hn : L.length ≤ 10000) :
    Calls Try.prog 29 #[.slice p L.length c, .string x] w (Collected (delD L x) w) := by
  obtain ⟨i0, hi, hz0, hz1, hz2⟩ := info_parts info_pair
  have H := Lib.hid h
  obtain ⟨n, hnn⟩ : ∃ n, L.length = n := ⟨_, rfl⟩
  rw [hnn] at hn ⊢
  have HN := Lib.hid hnn
  clear h hnn
  obtain ⟨B, hB⟩ : ∃ B, w.heap.size = B := ⟨_, rfl⟩
  have HB := Lib.hid hB
  have H0 := Lib.hid (Grows.mk0 (w := w) rfl)
  go_enter Try.func29, Try.ntmps29
  go_wp2
  go_loopw [5, 6] (Upto n B w (fun k => delD (L.take k) x)) (fun _ i _ => n - (intOf i).toNat)
  case atStart => exact ⟨0, Nat.zero_le _, rfl, by rw [← HB.out]; exact H0.out⟩
  case round =>
    obtain ⟨k, g', cap, O, hO, hk, rfl, rfl, hrow, hbel⟩ := hrel.out
    have hO : delD (L.take k) x = O := hO
    by_cases hlt : k < n
    · have hltL : k < L.length := by rw [HN.out]; exact hlt
      obtain ⟨gb, go, rfl, c1, c2⟩ := H.out k hltL
      have hgB : gb < B := by have h1 := cell_lt c1; have h2 := HB.out; omega
      have c1' := (hbel.cell (p := ⟨gb, go + k * 2, none⟩) hgB).trans c1
      have c2' := (hbel.cell (p := ⟨gb, go + k * 2 + 1, none⟩) hgB).trans c2
      have hs := delD_snoc L x k hltL
      have hlen : (delD (L.take k) x).length ≤ 10000 := Nat.le_trans (length_delD _ _) (by rw [List.length_take]; omega)
      obtain ⟨O', hO'⟩ : ∃ O, delD (L.take (k + 1)) x = O := ⟨_, rfl⟩
      have HO' := Lib.hid hO'
      obtain ⟨q, hq⟩ : ∃ q, L[k] = q := ⟨_, rfl⟩
      obtain ⟨a, b⟩ := q
      rw [hO, hO', hq] at hs
      rw [hO] at hlen
      rw [hq] at c1' c2'
      have hwr : B ≤ wr.heap.size := by have := hbel.size; omega
      clear c1 c2 hq hO hO' hltL
      by_cases hl : a = x
      · subst hl
        have HS := Lib.hid (show O' = O by rw [hs]; simp)
        clear hs
        have HR := Lib.hid (show Grows B w O (.slice (some ⟨g', 0, none⟩) O.length cap) wr from ⟨g', cap, rfl, hrow, hbel⟩)
        go_wp2
        go_roundw
        case rel => exact ⟨k + 1, by omega, by go_num, by show Grows B w (delD (L.take (k + 1)) a) _ _; rw [HO'.out, HS.out]; exact HR.out⟩
        case measure => simp [intOf]; omega
      · have hl' := ne_bytes hl
        have HS := Lib.hid (show O' = O ++ [(a, b)] by rw [hs]; simp [hl])
        clear hs hl
        obtain ⟨m, hm⟩ : ∃ m, O.length = m := ⟨_, rfl⟩
        have HM := Lib.hid hm
        rw [hm] at hlen
        have hrow' := hrow
        rw [hm] at hrow'
        clear hm
        have HROW := Lib.hid hrow
        have HBEL := Lib.hid hbel
        clear hrow hbel
        rw [HM.out]
        go_wp2_with (at_builtin; refine wpList_append_own_at _ rfl _ _ 22 rfl B 34 i0 (.agg #[.string ⟨#[]⟩, .string ⟨#[]⟩]) 2 32 Try.underlying22 hi hz0 hz1 hz2 rfl (by decide) (.slice (some ⟨g', 0, none⟩) m cap) m (flat O) rfl (hrow'.alloc _) ⟨wr.heap.size, 0, none⟩ 1 1 [.string a, .string b] rfl rfl (pair_news _ _ _ _) (pair_one _ _) (by simp only [maxLen]; omega) (by omega) (by simp; omega) ?_; intro v' w1 hown' hgrow _ hat)
        go_roundw
        case rel =>
          refine ⟨k + 1, by omega, by go_num, ?_⟩
          show Grows B w (delD (L.take (k + 1)) x) _ _
          rw [HO'.out, HS.out]
          rw [← HM.out] at hown' hgrow
          exact (Grows.next hwr HROW.out HBEL.out hown' hgrow).1
        case measure => simp [intOf]; omega
    · obtain rfl : k = n := by omega
      have HE := Lib.hid (show Collected (delD L x) w (.returned (.slice (some ⟨g', 0, none⟩) O.length cap)) wr from by
        rw [← HB.out] at hrow hbel
        exact Grows.done ⟨g', cap, rfl, hrow, hbel⟩ (by rw [← hO, List.take_of_length_le (by rw [HN.out]; exact Nat.le_refl _)]))
      clear hO
      go_wp2
      go_ret
      exact HE.out

set_option maxHeartbeats 2000000 in
set_option maxRecDepth 100000 in
theorem same_sl (p1 p2 : Option Addr) (c1 c2 : Nat) (L : Pairs) (w : World) (h1 : Sl w p1 L) (h2 : Sl w p2 L) (hn : L.length ≤ 10000) :
    Calls Try.prog 12 #[.slice p1 L.length c1, .slice p2 L.length c2] w fun e w' => e = .returned (.bool true) ∧ ∃ q, w' = w.drewN q := by
  have H1 := Lib.hid h1
  have H2 := Lib.hid h2
  obtain ⟨n, hnn⟩ : ∃ n, L.length = n := ⟨_, rfl⟩
  rw [hnn] at hn ⊢
  have HN := Lib.hid hnn
  clear h1 h2 hnn
  go_enter Try.func12, Try.ntmps12
  go_wp2
  go_loopw [5] (fun i wr => ∃ k q : Nat, k ≤ n ∧ i = .int .i64 k ∧ wr = w.drewN q) (fun i _ => n - (intOf i).toNat)
  case atStart => exact ⟨0, 0, Nat.zero_le _, rfl, rfl⟩
  case round =>
    obtain ⟨k, q, hk, rfl, rfl⟩ := hrel
    by_cases hlt : k < n
    · have hltL : k < L.length := by rw [HN.out]; exact hlt
      obtain ⟨e1, o1, rfl, a1, a2⟩ := H1.out k hltL
      obtain ⟨e2, o2, rfl, b1, b2⟩ := H2.out k hltL
      obtain ⟨⟨a, b⟩, hq⟩ : ∃ q, L[k] = q := ⟨_, rfl⟩
      rw [hq] at a1 a2 b1 b2
      have hneq := neq_pair a b
      clear hq hltL
      go_wp2_with fail
      go_quiet (fail)
      go_wp2
      go_roundw
      case rel => exact ⟨k + 1, _, by omega, by go_num, rfl⟩
      case measure => simp [intOf]; omega
    · go_wp2
      go_ret
      exact ⟨rfl, q, rfl⟩

set_option maxHeartbeats 1000000 in
theorem refget_sl (p : Option Addr) (c : Nat) (L : Pairs) (x : ByteArray) (w : World) (h : Sl w p L) (hn : L.length ≤ 10000) :
    Calls Try.prog 17 #[.slice p L.length c, .string x] w (RefGot L x w) := by
  have H := Lib.hid h
  obtain ⟨n, hnn⟩ : ∃ n, L.length = n := ⟨_, rfl⟩
  rw [hnn] at hn ⊢
  have HN := Lib.hid hnn
  clear h hnn
  go_enter Try.func17, Try.ntmps17
  go_wp2
  go_loop [6] (fun i => ∃ k : Nat, k ≤ n ∧ i = .int .i64 k ∧ NoneYet L x k) (fun i => n - (intOf i).toNat)
  case atStart => exact ⟨0, Nat.zero_le _, rfl, fun t ht h0 => absurd h0 (Nat.not_lt_zero _)⟩
  case round =>
    obtain ⟨k, hk, rfl, hnone⟩ := hrel
    have HNo := Lib.hid hnone
    clear hnone
    by_cases hlt : k < n
    · have hltL : k < L.length := by rw [HN.out]; exact hlt
      obtain ⟨gb, go, rfl, c1, c2⟩ := H.out k hltL
      by_cases he : L[k].1 = x
      · have hg := getD_first L x k hltL HNo.out he
        have HE := Lib.hid (show RefGot L x w (.returned (.tuple #[.string L[k].2, .bool true])) w from ⟨by unfold hasD; rw [hg]; rfl, rfl⟩)
        obtain ⟨u, hu⟩ : ∃ u, L[k].2 = u := ⟨_, rfl⟩
        rw [hu] at c2 HE
        rw [he] at c1
        clear hu he hg hltL
        go_wp2
        go_ret2
        exact HE.out
      · have hne := ne_bytes he
        have HX := Lib.hid (HNo.out.next hltL he)
        obtain ⟨u, hu⟩ : ∃ u, L[k].1 = u := ⟨_, rfl⟩
        rw [hu] at c1 hne
        clear hu he hltL c2
        go_wp2
        go_round
        case rel => exact ⟨k + 1, by omega, by go_num, HX.out⟩
        case measure => simp [intOf]; omega
    · have HE := Lib.hid (show RefGot L x w (.returned (.tuple #[.string ⟨#[]⟩, .bool false])) w from by
        have hg : getD L x = none := getD_ne L x (fun q hq => by
          obtain ⟨t, ht, rfl⟩ := List.getElem_of_mem hq
          exact HNo.out t ht (by have := HN.out; omega))
        exact ⟨by unfold hasD; rw [hg]; rfl, rfl⟩)
      go_wp2
      go_ret2
      exact HE.out

end Go.Proofs.Ytbddicaabjlbjaa
