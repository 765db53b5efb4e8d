/-
  The reference's Writes, Keys, Texts, Right; the law's own helpers.
-/
import Derived.Test.YtoflgkbjmbpdjaaRefkeys
namespace Go.Proofs.Ytoflgkbjmbpdjaa
open Go Go.RowKit

theorem onceD_nil : onceD [] = [] := rfl
theorem onceD_add (K : List ByteArray) (x : ByteArray) : onceD (onceD K ++ [x]) = onceD (K ++ [x]) :=
  onceD_congr fun k => by simp only [List.mem_append, mem_onceD]
theorem Keyed.base {R : List ByteArray} {B B' : Nat} {w0 w : World} {e : Ending} {w' : World} (h : Keyed R B w e w') (hB : B' ≤ B) (hb : Below B' w0 w) : Keyed R B' w0 e w' := by
  obtain ⟨g, cap, he, hr, hbb⟩ := h
  exact ⟨g, cap, he, ownsRow_base hr hB, hb.trans (hbb.mono hB)⟩

set_option maxRecDepth 100000 in
set_option maxHeartbeats 2000000 in
theorem refwrites_any (pg ps : Option Addr) (ng ns cg cs : Nat) (S : List SD) (w : World) (hS : Ss w ps S) (hns : S.length = ns) (hs : ns ≤ 100) :
    Calls Try.prog 18 #[.agg #[.slice pg ng cg, .slice ps ns cs]] w (Keyed (onceD (keysS S)) w.heap.size w) := by
  have HB1 := Lib.hid (below_alloc w (.cells #[.slice pg ng cg, .slice ps ns cs] 25))
  have HS := Lib.hid (fun W (h : Below w.heap.size w W) => hS.grow h)
  have HNS := Lib.hid hns
  have F0 := Lib.hid (show ∀ W, Below (w.alloc (.cells #[.slice pg ng cg, .slice ps ns cs] 25)).heap.size (w.alloc (.cells #[.slice pg ng cg, .slice ps ns cs] 25)) W → W.cell? ⟨w.heap.size, 1, none⟩ = some (.slice ps ns cs) from fun W h =>
    (cell_of ((h.block w.heap.size (by simp)).trans (World.alloc_heap_new w _))).trans rfl)
  have HSZ := Lib.hid (show (w.alloc (.cells #[.slice pg ng cg, .slice ps ns cs] 25)).heap.size = w.heap.size + 1 by simp)
  clear hS hns
  go_enter Try.func18, Try.ntmps18
  go_wp2_with fail
  obtain ⟨W1, hW1⟩ : ∃ W1, w.alloc (.cells #[.slice pg ng cg, .slice ps ns cs] 25) = W1 := ⟨_, rfl⟩
  rw [hW1] at HB1 F0 HSZ ⊢
  clear hW1
  have H0 := Lib.hid (show GrowsK W1.heap.size W1 (onceD (keysS (S.take 0))) (.slice (some ⟨W1.heap.size, 0, none⟩) 0 0) (W1.alloc (.cells #[] 9)) from GrowsK.mk0 (w := W1))
  rw [← HSZ.out]
  have HWB := Lib.hid (fun wr (h : Below W1.heap.size W1 wr) => HB1.out.trans (h.mono HB1.out.size))
  go_loopw [3, 4] (fun l s wr => ∃ k : Nat, s = .int .i64 k ∧ k ≤ ns ∧ Hid (GrowsK W1.heap.size W1 (onceD (keysS (S.take k))) l wr)) (fun _ s _ => ns - (intOf s).toNat)
  case atStart => exact ⟨0, rfl, Nat.zero_le _, H0⟩
  case round =>
    clear H0
    obtain ⟨k, rfl, hkn, hG⟩ := hrel
    obtain ⟨g, cap, rfl, hrow, hb⟩ := hG.out
    have f0 := F0.out wr hb
    by_cases hlt : k < ns
    · have hkS : k < S.length := by rw [HNS.out]; exact hlt
      obtain ⟨b, o, rfl, c1, c2, c3, c4, c5⟩ := HS.out wr (HWB.out wr hb) k hkS
      have HX := Lib.hid (show onceD (onceD (keysS (S.take k)) ++ [S[k].key]) = onceD (keysS (S.take (k + 1))) by rw [onceD_add, keysS_snoc hkS])
      have hl := onceD_length (keysS (S.take k))
      have hl2 : (keysS (S.take k)).length = min k S.length := by unfold keysS; rw [List.length_map, List.length_take]
      have HI := Lib.hid (refinsert_any (some ⟨g, 0, none⟩) _ cap (onceD (keysS (S.take k))) S[k].key wr (Sk.of_row hrow) rfl (onceD_rise _) (by omega))
      obtain ⟨x, hx⟩ : ∃ x, S[k].key = x := ⟨_, rfl⟩
      rw [hx] at c2 HX HI
      rw [HX.out] at HI
      have HBb := Lib.hid hb
      clear hx hkS c1 c3 c4 c5 hrow hl hl2 hb
      have hltz : (k : Int) < (ns : Int) := by omega
      have h0 : (0 : Int) ≤ (k : Int) := by omega
      go_wp2_with fail
      refine HI.out.mono ?_
      rintro e w3 ⟨g3, cap3, rfl, hr3, hb3⟩
      have HN := Lib.hid (show GrowsK W1.heap.size W1 (onceD (keysS (S.take (k + 1)))) (.slice (some ⟨g3, 0, none⟩) (onceD (keysS (S.take (k + 1)))).length cap3) w3 from ⟨g3, cap3, rfl, ownsRow_base hr3 HBb.out.size, HBb.out.trans (hb3.mono HBb.out.size)⟩)
      clear hr3 hb3
      go_wp2_with fail
      go_roundw
      case rel => exact ⟨k + 1, by go_num, by omega, HN⟩
      case measure => simp [intOf]; omega
    · obtain rfl : k = ns := by omega
      have HE := Lib.hid (show Keyed (onceD (keysS S)) w.heap.size w (.returned (.slice (some ⟨g, 0, none⟩) (onceD (keysS (S.take k))).length cap)) wr from by
        have := GrowsK.done hG.out rfl
        rw [List.take_of_length_le (by rw [HNS.out]; exact Nat.le_refl _)] at this ⊢
        exact this.base (by rw [HSZ.out]; omega) HB1.out)
      clear hrow hb
      go_wp2_with fail
      go_ret
      exact HE.out

set_option maxRecDepth 100000 in
set_option maxHeartbeats 2000000 in
theorem refkeys_any (pg ps : Option Addr) (ng ns cg cs : Nat) (G : List GD) (S : List SD) (w : World) (hG : Sg w pg G) (hS : Ss w ps S) (hng : G.length = ng) (hns : S.length = ns) (hg : ng ≤ 100) (hs : ns ≤ 100) :
    Calls Try.prog 16 #[.agg #[.slice pg ng cg, .slice ps ns cs]] w (Keyed (onceD (keysG G ++ keysS S)) w.heap.size w) := by
  have HB1 := Lib.hid (below_alloc w (.cells #[.slice pg ng cg, .slice ps ns cs] 25))
  have HS := Lib.hid (fun W (h : Below w.heap.size w W) => hG.grow h)
  have HNS := Lib.hid hng
  have HNT := Lib.hid hns
  have F0 := Lib.hid (show ∀ W, Below (w.alloc (.cells #[.slice pg ng cg, .slice ps ns cs] 25)).heap.size (w.alloc (.cells #[.slice pg ng cg, .slice ps ns cs] 25)) W → W.cell? ⟨w.heap.size, 0, none⟩ = some (.slice pg ng cg) from fun W h =>
    (cell_of ((h.block w.heap.size (by simp)).trans (World.alloc_heap_new w _))).trans rfl)
  have HSZ := Lib.hid (show (w.alloc (.cells #[.slice pg ng cg, .slice ps ns cs] 25)).heap.size = w.heap.size + 1 by simp)
  have HW := Lib.hid (refwrites_any pg ps ng ns cg cs S (w.alloc (.cells #[.slice pg ng cg, .slice ps ns cs] 25)) (hS.grow HB1.out) hns hs)
  clear hG hS hng hns
  go_enter Try.func16, Try.ntmps16
  go_wp2_with fail
  refine HW.out.mono ?_
  rintro e w2 ⟨g2, cap2, rfl, hr2, hb2⟩
  obtain ⟨W1, hW1⟩ : ∃ W1, w.alloc (.cells #[.slice pg ng cg, .slice ps ns cs] 25) = W1 := ⟨_, rfl⟩
  rw [hW1] at HB1 F0 HSZ hr2 hb2
  have H0 := Lib.hid (show GrowsK W1.heap.size W1 (onceD (keysS S ++ keysG (G.take 0))) (.slice (some ⟨g2, 0, none⟩) (onceD (keysS S)).length cap2) w2 from by
    have e : keysS S ++ keysG (G.take 0) = keysS S := by simp [keysG]
    rw [e]
    exact ⟨g2, cap2, rfl, hr2, hb2⟩)
  clear hW1 hr2 hb2 HW
  have HWB := Lib.hid (fun wr (h : Below W1.heap.size W1 wr) => HB1.out.trans (h.mono HB1.out.size))
  go_wp2_with fail
  go_loopw [3, 4] (fun l s wr => ∃ k : Nat, s = .int .i64 k ∧ k ≤ ng ∧ Hid (GrowsK W1.heap.size W1 (onceD (keysS S ++ keysG (G.take k))) l wr)) (fun _ s _ => ng - (intOf s).toNat)
  case atStart => exact ⟨0, rfl, Nat.zero_le _, H0⟩
  case round =>
    clear H0
    obtain ⟨k, rfl, hkn, hG⟩ := hrel
    obtain ⟨g, cap, rfl, hrow, hb⟩ := hG.out
    have f0 := F0.out wr hb
    by_cases hlt : k < ng
    · have hkS : k < G.length := by rw [HNS.out]; exact hlt
      obtain ⟨b, o, rfl, c1, c2, c3⟩ := HS.out wr (HWB.out wr hb) k hkS
      have HX := Lib.hid (show onceD (onceD (keysS S ++ keysG (G.take k)) ++ [G[k].key]) = onceD (keysS S ++ keysG (G.take (k + 1))) by rw [onceD_add, keysG_snoc hkS, List.append_assoc])
      have hl := onceD_length (keysS S ++ keysG (G.take k))
      have hl2 : (keysS S ++ keysG (G.take k)).length = S.length + min k G.length := by unfold keysS keysG; rw [List.length_append, List.length_map, List.length_map, List.length_take]
      have HI := Lib.hid (refinsert_any (some ⟨g, 0, none⟩) _ cap (onceD (keysS S ++ keysG (G.take k))) G[k].key wr (Sk.of_row hrow) rfl (onceD_rise _) (by have := HNT.out; omega))
      obtain ⟨x, hx⟩ : ∃ x, G[k].key = x := ⟨_, rfl⟩
      rw [hx] at c2 HX HI
      rw [HX.out] at HI
      have HBb := Lib.hid hb
      clear hx hkS c1 c3 hrow hl hl2 hb
      have hltz : (k : Int) < (ng : Int) := by omega
      have h0 : (0 : Int) ≤ (k : Int) := by omega
      go_wp2_with fail
      refine HI.out.mono ?_
      rintro e w3 ⟨g3, cap3, rfl, hr3, hb3⟩
      have HN := Lib.hid (show GrowsK W1.heap.size W1 (onceD (keysS S ++ keysG (G.take (k + 1)))) (.slice (some ⟨g3, 0, none⟩) (onceD (keysS S ++ keysG (G.take (k + 1)))).length cap3) w3 from ⟨g3, cap3, rfl, ownsRow_base hr3 HBb.out.size, HBb.out.trans (hb3.mono HBb.out.size)⟩)
      clear hr3 hb3
      go_wp2_with fail
      go_roundw
      case rel => exact ⟨k + 1, by go_num, by omega, HN⟩
      case measure => simp [intOf]; omega
    · obtain rfl : k = ng := by omega
      have HE := Lib.hid (show Keyed (onceD (keysG G ++ keysS S)) w.heap.size w (.returned (.slice (some ⟨g, 0, none⟩) (onceD (keysS S ++ keysG (G.take k))).length cap)) wr from by
        have := GrowsK.done hG.out rfl
        rw [List.take_of_length_le (by rw [HNS.out]; exact Nat.le_refl _)] at this ⊢
        rw [onceD_congr (K := keysG G ++ keysS S) (L := keysS S ++ keysG G) (fun k => by simp only [List.mem_append]; exact or_comm)]
        exact this.base (by rw [HSZ.out]; omega) HB1.out)
      clear hrow hb
      go_wp2_with fail
      go_ret
      exact HE.out

set_option maxHeartbeats 2000000 in
theorem texts_any (pa pb : Option Addr) (na nb ca cb : Nat) (A B : List ByteArray) (w : World) (hA : Sk w pa A) (hB : Sk w pb B) (hna : A.length = na) (hnb : B.length = nb) (hla : na ≤ 1000) (hlb : nb ≤ 1000) :
    Calls Try.prog 14 #[.slice pa na ca, .slice pb nb cb] w (Says (eqD A B) w) := by
  by_cases hnn : na = nb
  · subst hnn
    have HA := Lib.hid (fun W (h : Below w.heap.size w W) => hA.grow h)
    have HB := Lib.hid (fun W (h : Below w.heap.size w W) => hB.grow h)
    have HNA := Lib.hid hna
    have HNB := Lib.hid hnb
    clear hA hB hna hnb
    go_enter Try.func14, Try.ntmps14
    go_wp2_with fail
    go_loopw [5] (fun s wr => ∃ k : Nat, s = .int .i64 k ∧ k ≤ na ∧ Hid (Below w.heap.size w wr) ∧ Hid (A.take k = B.take k)) (fun s _ => na - (intOf s).toNat)
    case atStart => exact ⟨0, rfl, Nat.zero_le _, Below.refl _ _, rfl⟩
    case round =>
      obtain ⟨k, rfl, hkn, hW, hE⟩ := hrel
      by_cases hlt : k < na
      · have hkA : k < A.length := by rw [HNA.out]; exact hlt
        have hkB : k < B.length := by rw [HNB.out]; exact hlt
        obtain ⟨b, o, rfl, c1⟩ := HA.out wr hW.out k hkA
        obtain ⟨b', o', rfl, d1⟩ := HB.out wr hW.out k hkB
        have HT := Lib.hid (fun (e : eqD A[k] B[k] = true) => take_eq_snoc hkA hkB hE.out (eqD_true e))
        have HF := Lib.hid (fun (e : eqD A[k] B[k] = false) => (show eqD A B = false from eqD_ne (fun h => eqD_false e (by subst h; rfl))))
        obtain ⟨a, ha⟩ : ∃ g, A[k] = g := ⟨_, rfl⟩
        obtain ⟨b1, hb⟩ : ∃ g, B[k] = g := ⟨_, rfl⟩
        rw [ha] at c1 HT HF
        rw [hb] at d1 HT HF
        have hq := toList_inj (a := a) (b := b1)
        obtain ⟨r, hr⟩ : ∃ r, eqD a b1 = r := ⟨_, rfl⟩
        rw [hr] at HT HF hq
        clear ha hb hr hkA hkB
        have hltz : (k : Int) < (na : Int) := by omega
        have h0 : (0 : Int) ≤ (k : Int) := by omega
        cases r
        · have HE := Lib.hid (HF.out rfl)
          go_wp2_with fail
          go_quiet (fail)
          go_wp2
          go_ret
          exact Says.mk HE.out.symm (below_drewN' hW.out _)
        · have HE := Lib.hid (HT.out rfl)
          go_wp2_with fail
          go_quiet (fail)
          go_wp2
          go_roundw
          case rel => exact ⟨k + 1, by go_num, by omega, below_drewN' hW.out _, HE⟩
          case measure => simp [intOf]; omega
      · obtain rfl : k = na := by omega
        have HE := Lib.hid (show Says (eqD A B) w (.returned (.bool true)) wr from Says.mk (eqD_of (take_eq_all HNA.out HNB.out hE.out)).symm hW.out)
        go_wp2_with fail
        go_ret
        exact HE.out
  · have HE := Lib.hid (show Says (eqD A B) w (.returned (.bool false)) w from Says.mk (eqD_ne (fun h => hnn (by rw [← hna, ← hnb, h]))).symm (Below.refl _ _))
    have hz : ¬ (na : Int) = (nb : Int) := by omega
    clear hA hB hna hnb hnn
    go_enter Try.func14, Try.ntmps14
    go_wp2_with fail
    go_ret
    exact HE.out

/-- The law's helper finds a text that is there. -/
theorem has_yes (p : Option Addr) (n c : Nat) (L : List ByteArray) (x : ByteArray) (w : World) (h : Sk w p L) (hn : L.length = n) (hl : n ≤ 1000) (hx : x ∈ L) :
    Calls Try.prog 21 #[.slice p n c, .string x] w fun e w' => e = .returned (.bool true) ∧ w = w' := by
  have H := Lib.hid h
  have HN := Lib.hid hn
  have HX := Lib.hid hx
  clear h hn hx
  go_enter Try.func21, Try.ntmps21
  go_wp2
  go_loop [5] (fun i => ∃ k : Nat, k ≤ n ∧ i = .int .i64 k ∧ Hid (∀ t (ht : t < L.length), t < k → L[t] ≠ x)) (fun i => n - (intOf i).toNat)
  case atStart => exact ⟨0, Nat.zero_le _, rfl, fun t ht h0 => absurd h0 (Nat.not_lt_zero _)⟩
  case round =>
    obtain ⟨k, hk, rfl, hnone⟩ := hrel
    by_cases hlt : k < n
    · have hltL : k < L.length := by rw [HN.out]; exact hlt
      obtain ⟨b, o, rfl, c1⟩ := H.out k hltL
      have hltz : (k : Int) < (n : Int) := by omega
      have h0 : (0 : Int) ≤ (k : Int) := by omega
      by_cases he : L[k] = x
      · rw [he] at c1
        clear he hltL
        go_wp2
        go_ret
        exact ⟨rfl, rfl⟩
      · have hne := ne_bytes he
        have HM := Lib.hid (show ∀ t (ht : t < L.length), t < k + 1 → L[t] ≠ x from fun t ht h1 => by
          by_cases e : t = k
          · subst e; exact he
          · exact hnone.out t ht (by omega))
        obtain ⟨u, hu⟩ : ∃ u, L[k] = u := ⟨_, rfl⟩
        rw [hu] at c1 hne
        clear hu he hltL
        go_wp2
        go_round
        case rel => exact ⟨k + 1, by omega, by go_num, HM⟩
        case measure => simp [intOf]; omega
    · exfalso
      obtain ⟨t, ht, e⟩ := List.getElem_of_mem HX.out
      exact hnone.out t ht (by have := HN.out; omega) e

theorem few_yes (pg ps : Option Addr) (ng ns cg cs : Nat) (w : World) (h : ng ≤ 30 ∧ ns ≤ 30) :
    Calls Try.prog 6 #[.agg #[.slice pg ng cg, .slice ps ns cs]] w (Says true w) := by
  have z1 : (ng : Int) ≤ 30 := by omega
  have z2 : (ns : Int) ≤ 30 := by omega
  clear h
  go_enter Try.func6, Try.ntmps6
  go_wp2
  go_ret
  exact Says.mk (by simp; try omega) (below_alloc _ _)
theorem few_no (pg ps : Option Addr) (ng ns cg cs : Nat) (w : World) (b1 : ng ≤ 9223372036854775807) (b2 : ns ≤ 9223372036854775807) (h : ¬ (ng ≤ 30 ∧ ns ≤ 30)) :
    Calls Try.prog 6 #[.agg #[.slice pg ng cg, .slice ps ns cs]] w (Says false w) := by
  by_cases h1 : ng ≤ 30
  · have z1 : (ng : Int) ≤ 30 := by omega
    have z2 : ¬ (ns : Int) ≤ 30 := by omega
    clear h
    go_enter Try.func6, Try.ntmps6
    go_wp2
    go_ret
    exact Says.mk (by simp; try omega) (below_alloc _ _)
  · have z1 : ¬ (ng : Int) ≤ 30 := by omega
    clear h
    go_enter Try.func6, Try.ntmps6
    go_wp2
    go_ret
    exact Says.mk (by simp; try omega) (below_alloc _ _)

end Go.Proofs.Ytoflgkbjmbpdjaa
