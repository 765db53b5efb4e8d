/-
  The statement StepParts' own function.
-/
import Derived.Test.YtoflgkbjmbpdjaaAwake8
namespace Go.Proofs.Ytoflgkbjmbpdjaa
open Go Go.RowKit

/-- An operation that came in: its guards and steps lie, and are values of the language. -/
structure ArgO (w : World) (pg ps : Option Addr) (ng ns : Nat) (G : List GD) (S : List SD) : Prop where
  g : Sg w pg G
  s : Ss w ps S
  ng : G.length = ng
  ns : S.length = ns
  fg : ∀ x ∈ G, x.fits
  fs : ∀ x ∈ S, x.fits

set_option maxRecDepth 100000 in
set_option maxHeartbeats 4000000 in
theorem parts_few (pg ps : Option Addr) (ng ns cg cs : Nat) (G : List GD) (S : List SD) (w : World) (h : ArgO w pg ps ng ns G S) (hf : ng ≤ 30 ∧ ns ≤ 30) :
    Calls Try.prog 5 #[.agg #[.slice pg ng cg, .slice ps ns cs]] w (Says true w) := by
  have HB1 := Lib.hid (below_alloc w (.cells #[.slice pg ng cg, .slice ps ns cs] 25))
  have HG := Lib.hid (fun W (hb : Below w.heap.size w W) => h.g.grow hb)
  have HS := Lib.hid (fun W (hb : Below w.heap.size w W) => h.s.grow hb)
  have HNG := Lib.hid h.ng
  have HNS := Lib.hid h.ns
  have FG := Lib.hid h.fg
  have FStep := Lib.hid h.fs
  have F0 := Lib.hid (show ∀ W, Below (w.alloc (.cells #[.slice pg ng cg, .slice ps ns cs] 25)).heap.size (w.alloc (.cells #[.slice pg ng cg, .slice ps ns cs] 25)) W → W.cell? ⟨w.heap.size, 0, none⟩ = some (.slice pg ng cg) ∧ W.cell? ⟨w.heap.size, 1, none⟩ = some (.slice ps ns cs) from fun W h => by
    have h1 := (h.block w.heap.size (by simp)).trans (World.alloc_heap_new w _)
    exact ⟨(cell_of h1).trans rfl, (cell_of h1).trans rfl⟩)
  have HRight := Lib.hid (fun W (hb : Below w.heap.size w W) => right_any pg ps ng ns cg cs G S W (h.g.grow hb) (h.s.grow hb) h.ng h.ns (by omega) (by omega) h.fg h.fs)
  have HSame := Lib.hid (fun W (hb : Below w.heap.size w W) => same_any pg ps pg ps ng ns ng ns cg cs cg cs G G S S W (h.g.grow hb) (h.s.grow hb) (h.g.grow hb) (h.s.grow hb) h.ng h.ns h.ng h.ns (by omega) (by omega) (by omega) (by omega))
  rw [show sameD G G S S = true by unfold sameD; rw [eqD_self, eqD_self]; rfl] at HSame
  obtain ⟨hg30, hs30⟩ := hf
  clear h
  go_enter Try.func5, Try.ntmps5
  go_wp2_with fail
  refine (few_yes pg ps ng ns cg cs _ ⟨hg30, hs30⟩).mono ?_
  rintro e w2 ⟨rfl, hb⟩
  obtain ⟨W1, hW1⟩ : ∃ W1, w.alloc (.cells #[.slice pg ng cg, .slice ps ns cs] 25) = W1 := ⟨_, rfl⟩
  rw [hW1] at HB1 F0 hb
  have B2 := Lib.hid hb
  obtain ⟨f0, f1⟩ := F0.out w2 hb
  clear hW1 hb
  have HWB := Lib.hid (fun wr (h : Below W1.heap.size W1 wr) => HB1.out.trans (h.mono HB1.out.size))
  obtain ⟨b0, hb0⟩ : ∃ b, decide (ng ≤ 4 ∧ 1 ≤ ns ∧ ns ≤ 4) = b := ⟨_, rfl⟩
  have HB0 := Lib.hid hb0
  have hend : Hid (∀ b, (b0 && (G.all rgD && S.all rsD)) = b → rightD G S = b) := fun b hb => by
    unfold rightD; rw [HNG.out, HNS.out, HB0.out]; exact hb
  go_wp2_with fail
  all_goals
    have hst : Hid (∀ c : Bool, decide (ng ≤ 4 ∧ 1 ≤ ns ∧ ns ≤ 4) = c → c = (b0 && (G.take 0).all rgD)) := fun c hc => by
      rw [← hc, HB0.out]; simp
    go_loopw [3, 4] (fun r s wr => ∃ k : Nat, s = .int .i64 k ∧ k ≤ ng ∧ Hid (Below W1.heap.size W1 wr) ∧ r = .bool (b0 && (G.take k).all rgD)) (fun _ s _ => ng - (intOf s).toNat)
    case atStart =>
      refine ⟨0, rfl, Nat.zero_le _, B2, congrArg Value.bool (hst.out _ ?_)⟩
      rw [Bool.eq_iff_iff]
      simp only [decide_eq_true_eq, Bool.false_eq_true, iff_false]
      omega
    case round =>
      clear hst f0 f1 B2
      obtain ⟨k, rfl, hkn, hB, rfl⟩ := hrel
      obtain ⟨f0, f1⟩ := F0.out _ hB.out
      by_cases hlt : k < ng
      · have hkG : k < G.length := by rw [HNG.out]; exact hlt
        obtain ⟨b, o, rfl, c1, c2, c3⟩ := HG.out _ (HWB.out _ hB.out) k hkG
        have HR := Lib.hid (fun W => rg_any G[k] W (FG.out _ (List.getElem_mem hkG)))
        have HT := Lib.hid (show (b0 && (G.take (k + 1)).all rgD) = ((b0 && (G.take k).all rgD) && rgD G[k]) by rw [all_snoc _ hkG, Bool.and_assoc])
        obtain ⟨⟨gk, gs, gv⟩, hg'⟩ : ∃ g, G[k] = g := ⟨_, rfl⟩
        rw [hg'] at c1 c2 c3 HR HT
        simp only at c1 c2 c3
        obtain ⟨r, hr⟩ : ∃ r, rgD ⟨gk, gs, gv⟩ = r := ⟨_, rfl⟩
        rw [hr] at HR HT
        obtain ⟨x, hx⟩ : ∃ x, (b0 && (G.take k).all rgD) = x := ⟨_, rfl⟩
        rw [hx] at HT ⊢
        clear hg' hr hkG hx
        have hltz : (k : Int) < (ng : Int) := by omega
        have h0 : (0 : Int) ≤ (k : Int) := by omega
        cases x
        · have HE := Lib.hid (show Value.bool false = .bool (b0 && (G.take (k + 1)).all rgD) from congrArg Value.bool (HT.out.trans (Bool.false_and _)).symm)
          go_wp2_with fail
          go_roundw
          case rel => exact ⟨k + 1, by go_num, by omega, hB, HE.out⟩
          case measure => simp [intOf]; omega
        · have HE := Lib.hid (show Value.bool r = .bool (b0 && (G.take (k + 1)).all rgD) from congrArg Value.bool (HT.out.trans (Bool.true_and _)).symm)
          go_wp2_with fail
          refine (HR.out _).mono ?_
          rintro e w3 ⟨rfl, hb3⟩
          have HB3 := Lib.hid (hB.out.trans (hb3.mono hB.out.size))
          clear hb3
          go_wp2_with fail
          go_roundw
          case rel => exact ⟨k + 1, by go_num, by omega, HB3, HE.out⟩
          case measure => simp [intOf]; omega
      · obtain rfl : k = ng := by omega
        have HAG := Lib.hid (show (G.take k).all rgD = G.all rgD by rw [List.take_of_length_le (by rw [HNG.out]; exact Nat.le_refl _)])
        rw [HAG.out]
        obtain ⟨b1, hb1⟩ : ∃ b, (b0 && G.all rgD) = b := ⟨_, rfl⟩
        have HBB := Lib.hid hb1
        rw [hb1]
        clear hb1
        go_wp2_with fail
        go_loopw [3, 5] (fun r s wr => ∃ j : Nat, s = .int .i64 j ∧ j ≤ ns ∧ Hid (Below W1.heap.size W1 wr) ∧ r = .bool (b1 && (S.take j).all rsD)) (fun _ s _ => ns - (intOf s).toNat)
        case atStart => exact ⟨0, rfl, Nat.zero_le _, hB, by simp⟩
        case round =>
          clear f0 f1 hB hlt
          obtain ⟨j, rfl, hjn, hB, rfl⟩ := hrel
          obtain ⟨f0, f1⟩ := F0.out _ hB.out
          by_cases hlt : j < ns
          · first
            | (exfalso; omega)
            | have hkS : j < S.length := by rw [HNS.out]; exact hlt
              obtain ⟨b, o, rfl, c1, c2, c3, c4, c5⟩ := HS.out _ (HWB.out _ hB.out) j hkS
              have HR := Lib.hid (fun W => rs_any S[j] W (FStep.out _ (List.getElem_mem hkS)))
              have HT := Lib.hid (show (b1 && (S.take (j + 1)).all rsD) = ((b1 && (S.take j).all rsD) && rsD S[j]) by rw [all_snoc _ hkS, Bool.and_assoc])
              obtain ⟨⟨gk, gs, gv, go, gn⟩, hg'⟩ : ∃ g, S[j] = g := ⟨_, rfl⟩
              rw [hg'] at c1 c2 c3 c4 c5 HR HT
              simp only at c1 c2 c3 c4 c5
              obtain ⟨r, hr⟩ : ∃ r, rsD ⟨gk, gs, gv, go, gn⟩ = r := ⟨_, rfl⟩
              rw [hr] at HR HT
              obtain ⟨x, hx⟩ : ∃ x, (b1 && (S.take j).all rsD) = x := ⟨_, rfl⟩
              rw [hx] at HT ⊢
              clear hg' hr hkS hx
              have hltz : (j : Int) < (ns : Int) := by omega
              have h0 : (0 : Int) ≤ (j : Int) := by omega
              cases x
              · have HE := Lib.hid (show Value.bool false = .bool (b1 && (S.take (j + 1)).all rsD) from congrArg Value.bool (HT.out.trans (Bool.false_and _)).symm)
                go_wp2_with fail
                go_roundw
                case rel => exact ⟨j + 1, by go_num, by omega, hB, HE.out⟩
                case measure => simp [intOf]; omega
              · have HE := Lib.hid (show Value.bool r = .bool (b1 && (S.take (j + 1)).all rsD) from congrArg Value.bool (HT.out.trans (Bool.true_and _)).symm)
                go_wp2_with fail
                refine (HR.out _).mono ?_
                rintro e w3 ⟨rfl, hb3⟩
                have HB3 := Lib.hid (hB.out.trans (hb3.mono hB.out.size))
                clear hb3
                go_wp2_with fail
                go_roundw
                case rel => exact ⟨j + 1, by go_num, by omega, HB3, HE.out⟩
                case measure => simp [intOf]; omega
          · obtain rfl : j = ns := by omega
            have HE := Lib.hid (show (b1 && (S.take j).all rsD) = rightD G S by
              rw [List.take_of_length_le (by rw [HNS.out]; exact Nat.le_refl _)]
              refine (hend.out _ ?_).symm
              rw [← HBB.out, Bool.and_assoc])
            rw [HE.out]
            obtain ⟨x, hx⟩ : ∃ x, rightD G S = x := ⟨_, rfl⟩
            rw [hx] at HRight ⊢
            have HW := Lib.hid (HWB.out _ hB.out)
            clear hx HE hB
            have hbb : (x == x) = true := by cases x <;> rfl
            go_wp2_with fail
            refine (HRight.out _ HW.out).mono ?_
            rintro e w4 ⟨rfl, hb4⟩
            have HW4 := Lib.hid (HW.out.trans (hb4.mono HW.out.size))
            have hc0 := (hb4.cell (p := ⟨w.heap.size, 0, none⟩) (cell_lt f0)).trans f0
            have hc1 := (hb4.cell (p := ⟨w.heap.size, 1, none⟩) (cell_lt f1)).trans f1
            clear hb4 f0 f1
            cases x
            all_goals
              go_wp2_with fail
              refine (HSame.out _ HW4.out).mono ?_
              rintro e w5 ⟨rfl, hb5⟩
              have HW5 := Lib.hid (HW4.out.trans (hb5.mono HW4.out.size))
              clear hb5
              go_wp2_with fail
              refine (awake_any _).mono ?_
              rintro e w6 ⟨rfl, hb6⟩
              have HW6 := Lib.hid (HW5.out.trans (hb6.mono HW5.out.size))
              clear hb6
              go_wp2_with fail
              go_ret
              exact Says.mk rfl HW6.out

set_option maxRecDepth 100000 in
set_option maxHeartbeats 2000000 in
theorem parts_many (pg ps : Option Addr) (ng ns cg cs : Nat) (w : World) (b1 : ng ≤ 9223372036854775807) (b2 : ns ≤ 9223372036854775807) (hf : ¬ (ng ≤ 30 ∧ ns ≤ 30)) :
    Calls Try.prog 5 #[.agg #[.slice pg ng cg, .slice ps ns cs]] w (Says true w) := by
  have HB1 := Lib.hid (below_alloc w (.cells #[.slice pg ng cg, .slice ps ns cs] 25))
  have HF := Lib.hid (few_no pg ps ng ns cg cs (w.alloc (.cells #[.slice pg ng cg, .slice ps ns cs] 25)) b1 b2 hf)
  clear hf
  go_enter Try.func5, Try.ntmps5
  go_wp2_with fail
  refine HF.out.mono ?_
  rintro e w2 ⟨rfl, hb⟩
  have HB2 := Lib.hid (HB1.out.trans (hb.mono HB1.out.size))
  clear hb
  go_wp2_with fail
  refine (awake_any _).mono ?_
  rintro e w3 ⟨rfl, hb⟩
  have HB3 := Lib.hid (HB2.out.trans (hb.mono HB2.out.size))
  clear hb
  go_wp2_with fail
  go_ret
  exact Says.mk rfl HB3.out

theorem parts_any (pg ps : Option Addr) (ng ns cg cs : Nat) (G : List GD) (S : List SD) (w : World) (h : ArgO w pg ps ng ns G S) (b1 : ng ≤ 9223372036854775807) (b2 : ns ≤ 9223372036854775807) :
    Calls Try.prog 5 #[.agg #[.slice pg ng cg, .slice ps ns cs]] w (Says true w) := by
  by_cases hf : ng ≤ 30 ∧ ns ≤ 30
  · exact parts_few pg ps ng ns cg cs G S w h hf
  · exact parts_many pg ps ng ns cg cs w b1 b2 hf

end Go.Proofs.Ytoflgkbjmbpdjaa
