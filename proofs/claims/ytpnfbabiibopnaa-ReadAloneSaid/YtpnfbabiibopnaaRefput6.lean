/-
  The reference's Put.
-/
import Derived.Test.YtpnfbabiibopnaaRefs6
namespace Go.Proofs.Ytpnfbabiibopnaa
open Go Go.RowKit

theorem grown_pair {B m : Nat} {w0 W w1 : World} {O : Pairs} {g cap : Nat} {v' : Value} {a b : ByteArray} {tmp : Obj} (hm : Hid (O.length = m)) (hB : B ≤ W.heap.size) (hr : W.ownsRow B 83 2 (.slice (some ⟨g, 0, none⟩) m cap) m (flat O)) (hb : Below B w0 W)
    (hown' : w1.ownsRow B 83 2 v' (m + 1) (flat O ++ [.string a, .string b])) (hgrow : (W.alloc tmp).grownBy w1 (Value.ownBlock (.slice (some ⟨g, 0, none⟩) m cap))) :
    ∃ g' cap', v' = .slice (some ⟨g', 0, none⟩) (m + 1) cap' ∧ w1.ownsRow B 83 2 (.slice (some ⟨g', 0, none⟩) (m + 1) cap') (m + 1) (flat (O ++ [(a, b)])) ∧ Below B w0 w1 ∧ Hid ((O ++ [(a, b)]).length = m + 1) := by
  have hm' := hm.out
  subst hm'
  obtain ⟨⟨g', cap', rfl, hrow, hbel⟩, _⟩ := Grows.next hB hr hb hown' hgrow
  refine ⟨g', cap', by simp, ?_, hbel, by show (O ++ [(a, b)]).length = _; simp⟩
  simpa using hrow

theorem Grows.of {B m : Nat} {w0 W : World} {O O' : Pairs} {g cap : Nat} (hm : Hid (O.length = m)) (e : O = O') (hr : W.ownsRow B 83 2 (.slice (some ⟨g, 0, none⟩) m cap) m (flat O)) (hb : Below B w0 W) : Grows B w0 O' (.slice (some ⟨g, 0, none⟩) m cap) W := by
  have hm' := hm.out
  subst hm' e
  exact ⟨g, cap, rfl, hr, hb⟩

/-- How much has come of a put. -/
def UptoP (n B : Nat) (w : World) (F : Nat → Pairs × Bool) (o d i : Value) (W : World) : Prop := ∃ k : Nat, k ≤ n ∧ i = .int .i64 k ∧ d = .bool (F k).2 ∧ Grows B w (F k).1 o W

theorem UptoP.out {n B : Nat} {w : World} {F : Nat → Pairs × Bool} {o d i : Value} {W : World} (h : UptoP n B w F o d i W) : ∃ (k g cap m : Nat) (O : Pairs) (dn : Bool), F k = (O, dn) ∧ k ≤ n ∧ i = .int .i64 k ∧ d = .bool dn ∧ o = .slice (some ⟨g, 0, none⟩) m cap ∧ Hid (O.length = m) ∧
    W.ownsRow B 83 2 (.slice (some ⟨g, 0, none⟩) m cap) m (flat O) ∧ Below B w W := by
  obtain ⟨k, hk, hi, hd, g, cap, ho, hr, hb⟩ := h
  exact ⟨k, g, cap, (F k).1.length, (F k).1, (F k).2, rfl, hk, hi, hd, ho, rfl, hr, hb⟩
theorem UptoP.mk {n B : Nat} {w : World} {F : Nat → Pairs × Bool} {o d i : Value} {W : World} {k : Nat} {O : Pairs} {dn : Bool} (hF : F k = (O, dn)) (hk : k ≤ n) (hi : i = .int .i64 k) (hd : d = .bool dn) (hG : Grows B w O o W) : UptoP n B w F o d i W :=
  ⟨k, hk, hi, by rw [hF]; exact hd, by rw [hF]; exact hG⟩

theorem putEnd_of {x v : ByteArray} {L : Pairs} {n : Nat} {O : Pairs} {dn : Bool} (hn : L.length = n) (hF : putFold x v (L.take n) = (O, dn)) (hR : Rise L) : prD L x v = if dn then O else O ++ [(x, v)] := by
  rw [List.take_of_length_le (by omega)] at hF
  have := putFold_eq x v hR
  rw [hF] at this
  exact this.symm

set_option maxHeartbeats 4000000 in
set_option maxRecDepth 100000 in
theorem refput_any (g c : Nat) (L : Pairs) (x v : ByteArray) (w : World) (h : Lies w g L) (hgw : g < w.heap.size) (hR : Rise L) (hn : L.length ≤ 10000) :
    Calls Try.prog 9 #[.slice (some ⟨g, 0, none⟩) L.length c, .string x, .string v] w (Collected (prD L x v) w) := by
  obtain ⟨i0, hi, hz0, hz1, hz2⟩ := info_parts info_pair
  have H := Lib.hid h
  have HRise := Lib.hid hR
  obtain ⟨n, hnn⟩ : ∃ n, L.length = n := ⟨_, rfl⟩
  rw [hnn] at hn ⊢
  have HN := Lib.hid hnn
  clear h hnn hR
  obtain ⟨B, hB⟩ : ∃ B, w.heap.size = B := ⟨_, rfl⟩
  have HB := Lib.hid hB
  have hgB : g < B := by omega
  have H0 := Lib.hid (Grows.mk0 (w := w) rfl)
  clear hgw
  go_enter Try.func9, Try.ntmps9
  go_wp2
  go_loopw [7, 8, 9] (UptoP n B w (fun k => putFold x v (L.take k))) (fun _ _ i _ => n - (intOf i).toNat)
  case atStart => exact ⟨0, Nat.zero_le _, rfl, rfl, by rw [← HB.out]; exact H0.out⟩
  case round =>
    obtain ⟨k, g', cap, m, O, dn, hF, hk, rfl, rfl, rfl, hm, hrow, hbel⟩ := hrel.out
    have hF : putFold x v (L.take k) = (O, dn) := hF
    have hBw := HB.out
    have hwr : B ≤ wr.heap.size := by have := hbel.size; omega
    clear hBw
    have hm20 : m ≤ 20000 := by
      have h1 := putFold_len x v (L.take k)
      rw [hF, List.length_take] at h1
      have h2 := hm.out
      simp only at h1
      omega
    by_cases hlt : k < n
    · have hltL : k < L.length := by rw [HN.out]; exact hlt
      obtain ⟨c1, c2⟩ := H.out k hltL
      have hs : putFold x v (L.take (k + 1)) = putStep x v (O, dn) L[k] := by rw [List.take_succ_eq_append_getElem hltL, putFold_snoc, hF]
      obtain ⟨⟨a, b⟩, hq⟩ : ∃ q, L[k] = q := ⟨_, rfl⟩
      rw [hq] at hs c1 c2
      have hcell : Hid (∀ W, Below B w W → W.cell? ⟨g, k * 2, none⟩ = some (.string a) ∧ W.cell? ⟨g, k * 2 + 1, none⟩ = some (.string b)) := fun W hW => ⟨(hW.cell (p := ⟨g, k * 2, none⟩) hgB).trans c1, (hW.cell (p := ⟨g, k * 2 + 1, none⟩) hgB).trans c2⟩
      obtain ⟨d1, d2⟩ := hcell.out wr hbel
      have HBEL := Lib.hid hbel
      have HROW := Lib.hid hrow
      clear hq hltL c1 c2 hF hbel
      cases dn with
      | true =>
        by_cases hax : a = x
        · subst hax
          have HS := Lib.hid (show putFold a v (L.take (k + 1)) = (O, true) by rw [hs]; simp [putStep])
          clear hs hrow
          go_wp2
          go_roundw
          case rel => exact UptoP.mk HS.out (by omega) (by go_num) rfl (Grows.of hm rfl HROW.out HBEL.out)
          case measure => simp [intOf]; omega
        · have hl' := ne_bytes hax
          have HS := Lib.hid (show putFold x v (L.take (k + 1)) = (O ++ [(a, b)], true) by rw [hs]; simp [putStep, hax])
          clear hs hax
          go_wp2_with (at_builtin; refine wpList_append_own_at _ rfl _ _ 30 rfl B 83 i0 (.agg #[.string ⟨#[]⟩, .string ⟨#[]⟩]) 2 32 Try.underlying30 hi hz0 hz1 hz2 rfl (by decide) (.slice (some ⟨g', 0, none⟩) m cap) m (flat O) rfl (hrow.alloc _) ⟨wr.heap.size, 0, none⟩ 1 1 [.string a, .string b] rfl rfl (pair_news _ _ _ _) (pair_one _ _) (by simp only [maxLen]; omega) (by omega) (by simp; omega) ?_; intro v' w1 hown' hgrow _ hat; obtain ⟨g2, cap2, rfl, hrow2, hbel2, hm2⟩ := grown_pair hm hwr hrow HBEL.out hown' hgrow; clear hown' hgrow hat)
          go_roundw
          case rel => exact UptoP.mk HS.out (by omega) (by go_num) rfl (Grows.of hm2 rfl hrow2 hbel2)
          case measure => simp [intOf]; omega
      | false =>
        cases hl : lt a x with
        | true =>
          have hl1 : Op.bytesLess a.toList x.toList = true := hl
          have hax := lt_ne hl
          have hl' := ne_bytes hax
          have HS := Lib.hid (show putFold x v (L.take (k + 1)) = (O ++ [(a, b)], false) by rw [hs]; simp [putStep, hax, hl])
          clear hs hax hl
          go_wp2_with (at_builtin; refine wpList_append_own_at _ rfl _ _ 30 rfl B 83 i0 (.agg #[.string ⟨#[]⟩, .string ⟨#[]⟩]) 2 32 Try.underlying30 hi hz0 hz1 hz2 rfl (by decide) (.slice (some ⟨g', 0, none⟩) m cap) m (flat O) rfl (hrow.alloc _) ⟨wr.heap.size, 0, none⟩ 1 1 [.string a, .string b] rfl rfl (pair_news _ _ _ _) (pair_one _ _) (by simp only [maxLen]; omega) (by omega) (by simp; omega) ?_; intro v' w1 hown' hgrow _ hat; obtain ⟨g2, cap2, rfl, hrow2, hbel2, hm2⟩ := grown_pair hm hwr hrow HBEL.out hown' hgrow; clear hown' hgrow hat)
          go_roundw
          case rel => exact UptoP.mk HS.out (by omega) (by go_num) rfl (Grows.of hm2 rfl hrow2 hbel2)
          case measure => simp [intOf]; omega
        | false =>
          have hl1 : Op.bytesLess a.toList x.toList = false := hl
          by_cases hax : a = x
          · subst hax
            have HS := Lib.hid (show putFold a v (L.take (k + 1)) = (O ++ [(a, v)], true) by rw [hs]; simp [putStep, hl])
            clear hs hl
            go_wp2_with (at_builtin; refine wpList_append_own_at _ rfl _ _ 30 rfl B 83 i0 (.agg #[.string ⟨#[]⟩, .string ⟨#[]⟩]) 2 32 Try.underlying30 hi hz0 hz1 hz2 rfl (by decide) (.slice (some ⟨g', 0, none⟩) m cap) m (flat O) rfl (hrow.alloc _) ⟨wr.heap.size, 0, none⟩ 1 1 [.string a, .string v] rfl rfl (pair_news _ _ _ _) (pair_one _ _) (by simp only [maxLen]; omega) (by omega) (by simp; omega) ?_; intro v' w1 hown' hgrow _ hat; obtain ⟨g2, cap2, rfl, hrow2, hbel2, hm2⟩ := grown_pair hm hwr hrow HBEL.out hown' hgrow; obtain ⟨e1, e2⟩ := hcell.out w1 hbel2; clear hown' hgrow hat)
            go_roundw
            case rel => exact UptoP.mk HS.out (by omega) (by go_num) rfl (Grows.of hm2 rfl hrow2 hbel2)
            case measure => simp [intOf]; omega
          · have hl' := ne_bytes hax
            have HS := Lib.hid (show putFold x v (L.take (k + 1)) = (O ++ [(x, v)] ++ [(a, b)], true) by rw [hs]; simp [putStep, hax, hl])
            clear hs hax hl
            go_wp2_with (first
              | (at_builtin; refine wpList_append_own_at _ rfl _ _ 30 rfl B 83 i0 (.agg #[.string ⟨#[]⟩, .string ⟨#[]⟩]) 2 32 Try.underlying30 hi hz0 hz1 hz2 rfl (by decide) (.slice (some ⟨g', 0, none⟩) m cap) m (flat O) rfl (hrow.alloc _) ⟨wr.heap.size, 0, none⟩ 1 1 [.string x, .string v] rfl rfl (pair_news _ _ _ _) (pair_one _ _) (by simp only [maxLen]; omega) (by omega) (by simp; omega) ?_; intro v' w1 hown' hgrow _ hat; obtain ⟨g2, cap2, rfl, hrow2, hbel2, hm2⟩ := grown_pair hm hwr hrow HBEL.out hown' hgrow; obtain ⟨e1, e2⟩ := hcell.out w1 hbel2; have hw1 : B ≤ w1.heap.size := (by have h1 := hbel2.size; have h2 := HB.out; omega); have HBEL2 := Lib.hid hbel2; clear hown' hgrow hat hbel2)
              | (at_builtin; refine wpList_append_own_at _ rfl _ _ 30 rfl B 83 i0 (.agg #[.string ⟨#[]⟩, .string ⟨#[]⟩]) 2 32 Try.underlying30 hi hz0 hz1 hz2 rfl (by decide) (.slice (some ⟨g2, 0, none⟩) (m + 1) cap2) (m + 1) (flat (O ++ [(x, v)])) rfl (hrow2.alloc _) ⟨w1.heap.size, 0, none⟩ 1 1 [.string a, .string b] rfl rfl (pair_news _ _ _ _) (pair_one _ _) (by simp only [maxLen]; omega) (by omega) (by simp; omega) ?_; intro v' w3 hown' hgrow _ hat; obtain ⟨g3, cap3, rfl, hrow3, hbel3, hm3⟩ := grown_pair hm2 hw1 hrow2 HBEL2.out hown' hgrow; clear hown' hgrow hat))
            go_roundw
            case rel => exact UptoP.mk HS.out (by omega) (by go_num) rfl (Grows.of hm3 rfl hrow3 hbel3)
            case measure => simp [intOf]; omega
    · obtain rfl : k = n := by omega
      have hE := putEnd_of HN.out hF HRise.out
      have hB' := HB.out
      have HROW := Lib.hid hrow
      have HBEL := Lib.hid hbel
      clear hF hB'
      cases dn with
      | true =>
        have HE := Lib.hid (show Collected (prD L x v) w (.returned (.slice (some ⟨g', 0, none⟩) m cap)) wr from by
          rw [← HB.out] at hrow hbel
          exact Grows.done (Grows.of hm rfl hrow hbel) (by rw [hE]; rfl))
        clear hE hrow hbel
        go_wp2
        go_ret
        exact HE.out
      | false =>
        have HE := Lib.hid (show prD L x v = O ++ [(x, v)] by rw [hE]; rfl)
        clear hE hbel
        go_wp2_with (at_builtin; refine wpList_append_own_at _ rfl _ _ 30 rfl B 83 i0 (.agg #[.string ⟨#[]⟩, .string ⟨#[]⟩]) 2 32 Try.underlying30 hi hz0 hz1 hz2 rfl (by decide) (.slice (some ⟨g', 0, none⟩) m cap) m (flat O) rfl (hrow.alloc _) ⟨wr.heap.size, 0, none⟩ 1 1 [.string x, .string v] rfl rfl (pair_news _ _ _ _) (pair_one _ _) (by simp only [maxLen]; omega) (by omega) (by simp; omega) ?_; intro v' w1 hown' hgrow _ hat; obtain ⟨g2, cap2, rfl, hrow2, hbel2, hm2⟩ := grown_pair hm hwr hrow HBEL.out hown' hgrow; clear hown' hgrow hat)
        go_ret
        have hB' := HB.out
        subst hB'
        exact Grows.done (Grows.of hm2 rfl hrow2 hbel2) HE.out.symm

end Go.Proofs.Ytpnfbabiibopnaa
