/-
  The statement StepKeys' own function.
-/
import Derived.Test.YtoflgkbjmbpdjaaPartswalk
import Derived.Deep.RegionHeld3
namespace Go.Proofs.Ytoflgkbjmbpdjaa
open Go Go.RowKit

theorem Sk.at {W : World} {g : Nat} {L : List ByteArray} (h : Sk W (some ⟨g, 0, none⟩) L) (j : Nat) (hj : j < L.length) : W.cell? ⟨g, j, none⟩ = some (.string L[j]) := by
  obtain ⟨b, o, e, c⟩ := h j hj
  simp only [Option.some.injEq, Addr.mk.injEq, and_true] at e
  obtain ⟨rfl, rfl⟩ := e
  rwa [Nat.zero_add] at c
theorem has_any (p : Option Addr) (n c : Nat) (L : List ByteArray) (x : ByteArray) (w : World) (h : Sk w p L) (hn : L.length = n) (hl : n ≤ 1000) (hx : x ∈ L) :
    Calls Try.prog 21 #[.slice p n c, .string x] w fun e w' => e = .returned (.bool true) ∧ w' = w :=
  (has_yes p n c L x w h hn hl hx).mono fun _ _ h => ⟨h.1, h.2.symm⟩
theorem drew_below' {B : Nat} {a w : World} (h : Below B a w) : Below B a w.drew := ⟨h.os, h.tape, h.output, h.size, h.block⟩
theorem drew_below {a w : World} (h : Below a.heap.size a w) : Below a.heap.size a w.drew := ⟨h.os, h.tape, h.output, h.size, h.block⟩

set_option maxRecDepth 100000 in
set_option maxHeartbeats 4000000 in
theorem skeys_few (pg ps : Option Addr) (ng ns cg cs : Nat) (G : List GD) (S : List SD) (w : World) (h : ArgO w pg ps ng ns G S) (hf : ng ≤ 30 ∧ ns ≤ 30) :
    Calls Try.prog 4 #[.agg #[.slice pg ng cg, .slice ps ns cs]] w (Says true w) := by
  have HB1 := Lib.hid (below_alloc w (.cells #[.slice pg ng cg, .slice ps ns cs] 25))
  have HG := Lib.hid (fun W (hb : Below w.heap.size w W) => h.g.grow hb)
  have HS := Lib.hid (fun W (hb : Below w.heap.size w W) => h.s.grow hb)
  have HNG := Lib.hid h.ng
  have HNS := Lib.hid h.ns
  have F0 := Lib.hid (show ∀ W, Below (w.alloc (.cells #[.slice pg ng cg, .slice ps ns cs] 25)).heap.size (w.alloc (.cells #[.slice pg ng cg, .slice ps ns cs] 25)) W → W.cell? ⟨w.heap.size, 0, none⟩ = some (.slice pg ng cg) ∧ W.cell? ⟨w.heap.size, 1, none⟩ = some (.slice ps ns cs) from fun W h => by
    have h1 := (h.block w.heap.size (by simp)).trans (World.alloc_heap_new w _)
    exact ⟨(cell_of h1).trans rfl, (cell_of h1).trans rfl⟩)
  have HKeys := Lib.hid (fun W (hb : Below w.heap.size w W) => keys_any pg ps ng ns cg cs G S W (h.g.grow hb) (h.s.grow hb) h.ng h.ns (by omega) (by omega) h.fg h.fs)
  have HWrites := Lib.hid (fun W (hb : Below w.heap.size w W) => writes_any pg ps ng ns cg cs S W (h.s.grow hb) h.ns (by omega) h.fs)
  have RK := Lib.hid (onceD_rise (keysG G ++ keysS S))
  have RW := Lib.hid (onceD_rise (keysS S))
  have MK := Lib.hid (show ∀ x ∈ onceD (keysS S), x ∈ onceD (keysG G ++ keysS S) from fun x hx => mem_onceD.2 (List.mem_append_right _ (mem_onceD.1 hx)))
  have MG := Lib.hid (show ∀ k (hk : k < G.length), G[k].key ∈ onceD (keysG G ++ keysS S) from fun k hk => mem_onceD.2 (List.mem_append_left _ (List.mem_map.2 ⟨G[k], List.getElem_mem hk, rfl⟩)))
  have MS := Lib.hid (show ∀ k (hk : k < S.length), S[k].key ∈ onceD (keysS S) from fun k hk => mem_onceD.2 (List.mem_map.2 ⟨S[k], List.getElem_mem hk, rfl⟩))
  have lk := onceD_length (keysG G ++ keysS S)
  have lw := onceD_length (keysS S)
  have ek : (keysG G ++ keysS S).length = ng + ns := by unfold keysG keysS; rw [List.length_append, List.length_map, List.length_map, h.ng, h.ns]
  have ew : (keysS S).length = ns := by unfold keysS; rw [List.length_map, h.ns]
  rw [ek] at lk
  rw [ew] at lw
  obtain ⟨hg30, hs30⟩ := hf
  clear h ek ew
  obtain ⟨KK, hKK⟩ : ∃ K, onceD (keysG G ++ keysS S) = K := ⟨_, rfl⟩
  obtain ⟨WW, hWW⟩ : ∃ K, onceD (keysS S) = K := ⟨_, rfl⟩
  rw [hKK] at HKeys RK MK MG lk
  rw [hWW] at HWrites RW MK MS lw
  clear hKK hWW
  obtain ⟨nk, hnk⟩ : ∃ n, KK.length = n := ⟨_, rfl⟩
  obtain ⟨nw, hnw⟩ : ∃ n, WW.length = n := ⟨_, rfl⟩
  have HNK := Lib.hid hnk
  have HNW := Lib.hid hnw
  rw [hnk] at lk
  rw [hnw] at lw
  clear hnk hnw
  go_enter Try.func4, Try.ntmps4
  go_wp2_with fail
  refine (few_yes pg ps ng ns cg cs _ ⟨hg30, hs30⟩).mono ?_
  rintro e w2 ⟨rfl, hb⟩
  obtain ⟨W1, hW1⟩ : ∃ W1, w.alloc (.cells #[.slice pg ng cg, .slice ps ns cs] 25) = W1 := ⟨_, rfl⟩
  rw [hW1] at HB1 F0 hb
  have B2 := Lib.hid hb
  obtain ⟨f0, f1⟩ := F0.out w2 hb
  clear hW1 hb
  have HWB := Lib.hid (fun wr (h : Below W1.heap.size W1 wr) => HB1.out.trans (h.mono HB1.out.size))
  go_wp2_with fail
  go_region_held3 (fun w' => w'.cell? ⟨w.heap.size, 0, none⟩ = some (.slice pg ng cg) ∧ w'.cell? ⟨w.heap.size, 1, none⟩ = some (.slice ps ns cs))
    (first
      | exact F0.out _ B2.out
      | exact F0.out _ (drew_below' B2.out)
      | exact F0.out _ B3.out
      | exact F0.out _ B4.out)
    (first
      | (go_at_call 15; refine (HKeys.out _ (HWB.out _ (drew_below' B2.out))).mono ?_; rintro e w3 ⟨g3, c3, rfl, r3, b3⟩; have B3 := Lib.hid ((drew_below' B2.out).trans (b3.mono (drew_below' B2.out).size)); have K3 := Lib.hid (Sk.of_row r3); clear r3 b3)
      | (go_at_call 17; refine (HWrites.out _ (HWB.out _ B3.out)).mono ?_; rintro e w4 ⟨g4, c4, rfl, r4, b4⟩; have B4 := Lib.hid (B3.out.trans (b4.mono B3.out.size)); have K4 := Lib.hid (K3.out.grow b4); have M4 := Lib.hid (Sk.of_row r4); clear r4 b4))
  rw [HNK.out, HNW.out]
  obtain ⟨f0', f1'⟩ := F0.out w4 B4.out
  clear f0 f1 B2 K3 B3 HKeys HWrites
  have HW4 := Lib.hid (HWB.out w4 B4.out)
  have HWC := Lib.hid (fun wr (h : Below w4.heap.size w4 wr) => HW4.out.trans (h.mono HW4.out.size))
  have FC := Lib.hid (fun wr (h : Below w4.heap.size w4 wr) => F0.out wr (B4.out.trans (h.mono B4.out.size)))
  clear f0' f1'
  go_wp2_with fail
  go_loopw [5] (fun s wr => ∃ j : Nat, s = .int .i64 ((j : Int) + 1) ∧ (j + 1 ≤ nk ∨ j = 0) ∧ Hid (Below w4.heap.size w4 wr)) (fun s _ => nk + 1 - (intOf s).toNat)
  case atStart => exact ⟨0, by simp, Or.inr rfl, Below.refl _ _⟩
  case round =>
    obtain ⟨j, rfl, hj, hW⟩ := hrel
    by_cases hlt : j + 1 < nk
    · have hkL : j + 1 < KK.length := by rw [HNK.out]; exact hlt
      have hjL : j < KK.length := by omega
      have d1 := (K4.out.grow hW.out).at (j + 1) hkL
      have d0 := (K4.out.grow hW.out).at j hjL
      have hlt0 : lt KK[j] KK[j + 1] = true := List.pairwise_iff_getElem.1 RK.out j (j + 1) hjL hkL (by omega)
      obtain ⟨kj, hkj⟩ : ∃ x, KK[j] = x := ⟨_, rfl⟩
      obtain ⟨kk, hkk⟩ : ∃ x, KK[j + 1] = x := ⟨_, rfl⟩
      rw [hkj] at d0 hlt0
      rw [hkk] at d1 hlt0
      have hbl : Op.bytesLess kj.toList kk.toList = true := hlt0
      have hi1 : (0 : Int) ≤ (j : Int) := by omega
      have hi2 : (j : Int) < (nk : Int) := by omega
      have hi3 : (j : Int) + 1 < (nk : Int) := by omega
      have hi4 : (0 : Int) ≤ (j : Int) + 1 := by omega
      have hwr : IntKind.i64.wrap (j : Int) = (j : Int) := by rw [IntKind.wrap_i64]; omega
      have ei : ((j : Int) + 1).toNat = j + 1 := by omega
      clear hkj hkk hlt0 hkL hjL
      go_wp2_with fail
      go_quiet (fail)
      go_wp2
      go_roundw
      case rel => exact ⟨j + 1, by go_num, by omega, below_drewN' hW.out _⟩
      case measure => simp [intOf]; omega
    · have hz : ¬ ((j : Int) + 1 < (nk : Int)) := by omega
      clear hj
      go_wp2_with fail
      go_loopw [6] (fun s wr => ∃ k : Nat, s = .int .i64 k ∧ k ≤ nw ∧ Hid (Below w4.heap.size w4 wr)) (fun s _ => nw - (intOf s).toNat)
      case atStart => exact ⟨0, rfl, Nat.zero_le _, hW⟩
      case round =>
        clear hW hz hlt
        obtain ⟨k, rfl, hkn, hW⟩ := hrel
        by_cases hlt : k < nw
        · have hkL : k < WW.length := by rw [HNW.out]; exact hlt
          have d1 := (M4.out.grow hW.out).at k hkL
          have HH := Lib.hid (fun W (hb : Below w4.heap.size w4 W) => has_any (some ⟨g3, 0, none⟩) nk c3 KK WW[k] W (K4.out.grow hb) HNK.out (by omega) (MK.out _ (List.getElem_mem hkL)))
          have hltz : (k : Int) < (nw : Int) := by omega
          have h0 : (0 : Int) ≤ (k : Int) := by omega
          by_cases hk0 : k = 0
          · subst hk0
            obtain ⟨kk, hkk⟩ : ∃ x, WW[0] = x := ⟨_, rfl⟩
            rw [hkk] at d1 HH
            rw [show ((0 : Nat) : Int) = (0 : Int) from rfl] at *
            clear hkk hkL
            go_wp2_with fail
            go_quiet (exact Calls.quiet_of_same (HH.out _ (below_drewN' hW.out _)))
            go_wp2
            go_roundw
            case rel => exact ⟨0 + 1, by go_num, by omega, below_drewN' hW.out _⟩
            case measure => simp [intOf]; omega
          · obtain ⟨i, rfl⟩ : ∃ i, k = i + 1 := ⟨k - 1, by omega⟩
            have hiL : i < WW.length := by omega
            have d0 := (M4.out.grow hW.out).at i hiL
            have hlt0 : lt WW[i] WW[i + 1] = true := List.pairwise_iff_getElem.1 RW.out i (i + 1) hiL hkL (by omega)
            obtain ⟨ki, hki⟩ : ∃ x, WW[i] = x := ⟨_, rfl⟩
            obtain ⟨kk, hkk⟩ : ∃ x, WW[i + 1] = x := ⟨_, rfl⟩
            rw [hki] at d0 hlt0
            rw [hkk] at d1 hlt0 HH
            have hbl : Op.bytesLess ki.toList kk.toList = true := hlt0
            have hi0 : (0 : Int) < (i : Int) + 1 := by omega
            have hi1 : (0 : Int) ≤ (i : Int) := by omega
            have hi2 : (i : Int) < (nw : Int) := by omega
            have hi3 : (i : Int) + 1 < (nw : Int) := by omega
            have hi4 : (0 : Int) ≤ (i : Int) + 1 := by omega
            have hwr : IntKind.i64.wrap (i : Int) = (i : Int) := by rw [IntKind.wrap_i64]; omega
            have ei : ((i : Int) + 1).toNat = i + 1 := by omega
            clear hki hkk hlt0 hkL hiL hk0
            go_wp2_with fail
            go_quiet (exact Calls.quiet_of_same (HH.out _ (below_drewN' hW.out _)))
            go_wp2
            go_roundw
            case rel => exact ⟨i + 1 + 1, by go_num, by omega, below_drewN' hW.out _⟩
            case measure => simp [intOf]; omega
        · obtain rfl : k = nw := by omega
          clear hkn hlt
          go_wp2_with fail
          go_loopw [7] (fun s wr => ∃ k : Nat, s = .int .i64 k ∧ k ≤ ng ∧ Hid (Below w4.heap.size w4 wr)) (fun s _ => ng - (intOf s).toNat)
          case atStart => exact ⟨0, rfl, Nat.zero_le _, hW⟩
          case round =>
            clear hW
            obtain ⟨i, rfl, hin, hW⟩ := hrel
            obtain ⟨f0, f1⟩ := FC.out _ hW.out
            by_cases hlt : i < ng
            · have hiG : i < G.length := by rw [HNG.out]; exact hlt
              obtain ⟨b, o, rfl, c1, c2, c3'⟩ := HG.out _ (HWC.out _ hW.out) i hiG
              have HH := Lib.hid (has_any (some ⟨g3, 0, none⟩) nk c3 KK G[i].key wr (K4.out.grow hW.out) HNK.out (by omega) (MG.out i hiG))
              obtain ⟨x, hx⟩ : ∃ x, G[i].key = x := ⟨_, rfl⟩
              rw [hx] at c2 HH
              clear hx hiG c1 c3' f1
              have hltz : (i : Int) < (ng : Int) := by omega
              have h0 : (0 : Int) ≤ (i : Int) := by omega
              go_wp2_with fail
              refine HH.out.mono ?_
              rintro e w5 ⟨rfl, rfl⟩
              go_wp2_with fail
              go_roundw
              case rel => exact ⟨i + 1, by go_num, by omega, hW⟩
              case measure => simp [intOf]; omega
            · obtain rfl : i = ng := by omega
              clear hin hlt f1
              go_wp2_with fail
              go_loopw [8] (fun s wr => ∃ k : Nat, s = .int .i64 k ∧ k ≤ ns ∧ Hid (Below w4.heap.size w4 wr)) (fun s _ => ns - (intOf s).toNat)
              case atStart => exact ⟨0, rfl, Nat.zero_le _, hW⟩
              case round =>
                clear hW f0
                obtain ⟨q, rfl, hqn, hW⟩ := hrel
                obtain ⟨f0, f1⟩ := FC.out _ hW.out
                by_cases hlt : q < ns
                · have hqS : q < S.length := by rw [HNS.out]; exact hlt
                  obtain ⟨b, o, rfl, c1, c2, c3', c4', c5⟩ := HS.out _ (HWC.out _ hW.out) q hqS
                  have HH := Lib.hid (has_any (some ⟨g4, 0, none⟩) k c4 WW S[q].key wr (M4.out.grow hW.out) HNW.out (by omega) (MS.out q hqS))
                  obtain ⟨x, hx⟩ : ∃ x, S[q].key = x := ⟨_, rfl⟩
                  rw [hx] at c2 HH
                  clear hx hqS c1 c3' c4' c5 f0
                  have hltz : (q : Int) < (ns : Int) := by omega
                  have h0 : (0 : Int) ≤ (q : Int) := by omega
                  go_wp2_with fail
                  refine HH.out.mono ?_
                  rintro e w5 ⟨rfl, rfl⟩
                  go_wp2_with fail
                  go_roundw
                  case rel => exact ⟨q + 1, by go_num, by omega, hW⟩
                  case measure => simp [intOf]; omega
                · obtain rfl : q = ns := by omega
                  have hz1 : (nk : Int) ≤ (i : Int) + (q : Int) := by omega
                  have hz2 : (k : Int) ≤ (q : Int) := by omega
                  have hz3 : IntKind.i64.wrap ((i : Int) + (q : Int)) = (i : Int) + (q : Int) := by rw [IntKind.wrap_i64]; omega
                  clear hqn hlt
                  go_wp2_with fail
                  refine (awake_any _).mono ?_
                  rintro e w6 ⟨rfl, hb6⟩
                  have HE := Lib.hid (show Says true w (.returned (.bool true)) w6 from ⟨rfl, (HWC.out _ hW.out).trans (hb6.mono (HWC.out _ hW.out).size)⟩)
                  clear hb6
                  go_wp2_with fail
                  go_ret
                  exact HE.out

set_option maxRecDepth 100000 in
set_option maxHeartbeats 2000000 in
theorem skeys_many (pg ps : Option Addr) (ng ns cg cs : Nat) (w : World) (b1 : ng ≤ 9223372036854775807) (b2 : ns ≤ 9223372036854775807) (hf : ¬ (ng ≤ 30 ∧ ns ≤ 30)) :
    Calls Try.prog 4 #[.agg #[.slice pg ng cg, .slice ps ns cs]] w (Says true w) := by
  have HB1 := Lib.hid (below_alloc w (.cells #[.slice pg ng cg, .slice ps ns cs] 25))
  have HF := Lib.hid (few_no pg ps ng ns cg cs (w.alloc (.cells #[.slice pg ng cg, .slice ps ns cs] 25)) b1 b2 hf)
  clear hf
  go_enter Try.func4, Try.ntmps4
  go_wp2_with fail
  refine HF.out.mono ?_
  rintro e w2 ⟨rfl, hb⟩
  have HB2 := Lib.hid (HB1.out.trans (hb.mono HB1.out.size))
  clear hb
  go_wp2_with fail
  refine (awake_any _).mono ?_
  rintro e w3 ⟨rfl, hb⟩
  have HB3 := Lib.hid (HB2.out.trans (hb.mono HB2.out.size))
  clear hb
  go_wp2_with fail
  go_ret
  exact Says.mk rfl HB3.out

theorem skeys_any (pg ps : Option Addr) (ng ns cg cs : Nat) (G : List GD) (S : List SD) (w : World) (h : ArgO w pg ps ng ns G S) (b1 : ng ≤ 9223372036854775807) (b2 : ns ≤ 9223372036854775807) :
    Calls Try.prog 4 #[.agg #[.slice pg ng cg, .slice ps ns cs]] w (Says true w) := by
  by_cases hf : ng ≤ 30 ∧ ns ≤ 30
  · exact skeys_few pg ps ng ns cg cs G S w h hf
  · exact skeys_many pg ps ng ns cg cs w b1 b2 hf

end Go.Proofs.Ytoflgkbjmbpdjaa
