/-
  The reference's Right; the chapter's example.
-/
import Derived.Test.YtoflgkbjmbpdjaaRefs8
namespace Go.Proofs.Ytoflgkbjmbpdjaa
open Go Go.RowKit

set_option maxRecDepth 100000 in
set_option maxHeartbeats 4000000 in
theorem refright_any (pg ps : Option Addr) (ng ns cg cs : Nat) (G : List GD) (S : List SD) (w : World) (hG : Sg w pg G) (hS : Ss w ps S) (hng : G.length = ng) (hns : S.length = ns) (hg : ng ≤ 100) (hs : ns ≤ 100)
    (fG : ∀ g ∈ G, g.fits) (fS : ∀ s ∈ S, s.fits) :
    Calls Try.prog 13 #[.agg #[.slice pg ng cg, .slice ps ns cs]] w (Says (rightD G S) w) := by
  have HB1 := Lib.hid (below_alloc w (.cells #[.slice pg ng cg, .slice ps ns cs] 25))
  have HG := Lib.hid (fun W (h : Below w.heap.size w W) => hG.grow h)
  have HS := Lib.hid (fun W (h : Below w.heap.size w W) => hS.grow h)
  have HNG := Lib.hid hng
  have HNS := Lib.hid hns
  have FG := Lib.hid fG
  have FStep := Lib.hid fS
  have F0 := Lib.hid (show ∀ W, Below (w.alloc (.cells #[.slice pg ng cg, .slice ps ns cs] 25)).heap.size (w.alloc (.cells #[.slice pg ng cg, .slice ps ns cs] 25)) W → W.cell? ⟨w.heap.size, 0, none⟩ = some (.slice pg ng cg) ∧ W.cell? ⟨w.heap.size, 1, none⟩ = some (.slice ps ns cs) from fun W h => by
    have h1 := (h.block w.heap.size (by simp)).trans (World.alloc_heap_new w _)
    exact ⟨(cell_of h1).trans rfl, (cell_of h1).trans rfl⟩)
  clear hG hS hng hns fG fS
  go_enter Try.func13, Try.ntmps13
  go_wp2_with fail
  obtain ⟨W1, hW1⟩ : ∃ W1, w.alloc (.cells #[.slice pg ng cg, .slice ps ns cs] 25) = W1 := ⟨_, rfl⟩
  rw [hW1] at HB1 F0 ⊢
  clear hW1
  have HWB := Lib.hid (fun wr (h : Below W1.heap.size W1 wr) => HB1.out.trans (h.mono HB1.out.size))
  go_loopw [3] (fun s wr => ∃ k : Nat, s = .int .i64 k ∧ k ≤ ng ∧ Hid (Below W1.heap.size W1 wr) ∧ Hid ((G.take k).all rgD = true)) (fun s _ => ng - (intOf s).toNat)
  case atStart => exact ⟨0, rfl, Nat.zero_le _, Below.refl _ _, by show (G.take 0).all rgD = true; simp⟩
  case round =>
    obtain ⟨k, rfl, hkn, hB, hA⟩ := hrel
    obtain ⟨f0, f1⟩ := F0.out wr hB.out
    by_cases hlt : k < ng
    · have hkG : k < G.length := by rw [HNG.out]; exact hlt
      obtain ⟨b, o, rfl, c1, c2, c3⟩ := HG.out wr (HWB.out wr hB.out) k hkG
      have HR := Lib.hid (fun W => refrg_any G[k] W (FG.out _ (List.getElem_mem hkG)))
      have HT := Lib.hid (fun (e : rgD G[k] = true) => (show (G.take (k + 1)).all rgD = true by rw [all_snoc _ hkG, hA.out, e]; rfl))
      have HF := Lib.hid (fun (e : rgD G[k] = false) => (show rightD G S = false by unfold rightD; rw [all_not (f := rgD) hkG e, Bool.false_and, Bool.and_false]))
      obtain ⟨⟨gk, gs, gv⟩, hg'⟩ : ∃ g, G[k] = g := ⟨_, rfl⟩
      rw [hg'] at c1 c2 c3 HR HT HF
      simp only at c1 c2 c3
      obtain ⟨r, hr⟩ : ∃ r, rgD ⟨gk, gs, gv⟩ = r := ⟨_, rfl⟩
      rw [hr] at HR HT HF
      clear hg' hr hkG f1
      have hltz : (k : Int) < (ng : Int) := by omega
      have h0 : (0 : Int) ≤ (k : Int) := by omega
      go_wp2_with fail
      refine (HR.out _).mono ?_
      rintro e w3 ⟨rfl, hb3⟩
      have HB3 := Lib.hid (hB.out.trans (hb3.mono hB.out.size))
      clear hb3
      cases r
      · have HE := Lib.hid (show Says (rightD G S) w (.returned (.bool false)) w3 from Says.mk (HF.out rfl).symm (HWB.out _ HB3.out))
        go_wp2_with fail
        go_ret
        exact HE.out
      · have HE := Lib.hid (HT.out rfl)
        go_wp2_with fail
        go_roundw
        case rel => exact ⟨k + 1, by go_num, by omega, HB3, HE⟩
        case measure => simp [intOf]; omega
    · obtain rfl : k = ng := by omega
      have HAG := Lib.hid (show G.all rgD = true by rw [← hA.out, List.take_of_length_le (by rw [HNG.out]; exact Nat.le_refl _)])
      clear f1 hA
      go_wp2_with fail
      go_loopw [4] (fun s wr => ∃ k : Nat, s = .int .i64 k ∧ k ≤ ns ∧ Hid (Below W1.heap.size W1 wr) ∧ Hid ((S.take k).all rsD = true)) (fun s _ => ns - (intOf s).toNat)
      case atStart => exact ⟨0, rfl, Nat.zero_le _, hB, by show (S.take 0).all rsD = true; simp⟩
      case round =>
        clear f0 hB hlt
        obtain ⟨j, rfl, hjn, hB, hA⟩ := hrel
        obtain ⟨f0, f1⟩ := F0.out _ hB.out
        by_cases hlt : j < ns
        · have hkS : j < S.length := by rw [HNS.out]; exact hlt
          obtain ⟨b, o, rfl, c1, c2, c3, c4, c5⟩ := HS.out _ (HWB.out _ hB.out) j hkS
          have HR := Lib.hid (fun W => refrs_any S[j] W (FStep.out _ (List.getElem_mem hkS)))
          have HT := Lib.hid (fun (e : rsD S[j] = true) => (show (S.take (j + 1)).all rsD = true by rw [all_snoc _ hkS, hA.out, e]; rfl))
          have HF := Lib.hid (fun (e : rsD S[j] = false) => (show rightD G S = false by unfold rightD; rw [all_not (f := rsD) hkS e, Bool.and_false, Bool.and_false]))
          obtain ⟨⟨gk, gs, gv, go, gn⟩, hg'⟩ : ∃ g, S[j] = g := ⟨_, rfl⟩
          rw [hg'] at c1 c2 c3 c4 c5 HR HT HF
          simp only at c1 c2 c3 c4 c5
          obtain ⟨r, hr⟩ : ∃ r, rsD ⟨gk, gs, gv, go, gn⟩ = r := ⟨_, rfl⟩
          rw [hr] at HR HT HF
          clear hg' hr hkS f0
          have hltz : (j : Int) < (ns : Int) := by omega
          have h0 : (0 : Int) ≤ (j : Int) := by omega
          go_wp2_with fail
          refine (HR.out _).mono ?_
          rintro e w3 ⟨rfl, hb3⟩
          have HB3 := Lib.hid (hB.out.trans (hb3.mono hB.out.size))
          clear hb3
          cases r
          · have HE := Lib.hid (show Says (rightD G S) w (.returned (.bool false)) w3 from Says.mk (HF.out rfl).symm (HWB.out _ HB3.out))
            go_wp2_with fail
            go_ret
            exact HE.out
          · have HE := Lib.hid (HT.out rfl)
            go_wp2_with fail
            go_roundw
            case rel => exact ⟨j + 1, by go_num, by omega, HB3, HE⟩
            case measure => simp [intOf]; omega
        · obtain rfl : j = ns := by omega
          have HE := Lib.hid (show rightD G S = decide (k ≤ 4 ∧ 1 ≤ j ∧ j ≤ 4) by
            have h1 : S.all rsD = true := by rw [← hA.out, List.take_of_length_le (by rw [HNS.out]; exact Nat.le_refl _)]
            unfold rightD
            rw [HAG.out, h1, HNG.out, HNS.out]; simp)
          have HW := Lib.hid (HWB.out _ hB.out)
          clear hA hB
          go_wp2
          all_goals
            go_ret
            refine Says.mk ?_ HW.out
            rw [HE.out, Bool.eq_iff_iff]
            simp only [decide_eq_true_eq, Bool.false_eq_true, false_iff]
            omega

theorem steps_one (w : World) : Ss (w.alloc (.cells #[.int .i64 3, .string ⟨#[110]⟩, .string ⟨#[]⟩, .string ⟨#[]⟩, .int .i64 5] 33)) (some ⟨w.heap.size, 0, none⟩) [⟨3, ⟨#[110]⟩, ⟨#[]⟩, ⟨#[]⟩, 5⟩] := by
  intro j hj
  obtain rfl : j = 0 := by simpa using hj
  have h1 := World.alloc_heap_new w (.cells #[.int .i64 3, .string ⟨#[110]⟩, .string ⟨#[]⟩, .string ⟨#[]⟩, .int .i64 5] 33)
  exact ⟨w.heap.size, 0, rfl, (cell_of h1).trans rfl, (cell_of h1).trans rfl, (cell_of h1).trans rfl, (cell_of h1).trans rfl, (cell_of h1).trans rfl⟩

theorem fits_one : ∀ s ∈ [(⟨3, ⟨#[110]⟩, ⟨#[]⟩, ⟨#[]⟩, 5⟩ : SD)], s.fits := by
  intro s hs
  rw [List.mem_singleton.1 hs]
  exact ⟨by decide, by decide, by decide, by decide, by decide, by decide, by decide⟩
theorem fits_none : ∀ g ∈ ([] : List GD), g.fits := fun _ h => by cases h
theorem fits_none' : ∀ g ∈ ([] : List SD), g.fits := fun _ h => by cases h

set_option maxRecDepth 100000 in
set_option maxHeartbeats 4000000 in
theorem awake_any (w : World) : Calls Try.prog 7 #[] w (Says true w) := by
  have F0 := Lib.hid (show ∀ W, Below (w.alloc (.cells #[.int .i64 3, .string ⟨#[110]⟩, .string ⟨#[]⟩, .string ⟨#[]⟩, .int .i64 5] 33)).heap.size (w.alloc (.cells #[.int .i64 3, .string ⟨#[110]⟩, .string ⟨#[]⟩, .string ⟨#[]⟩, .int .i64 5] 33)) W → W.cell? ⟨w.heap.size, 0, none⟩ = some (.int .i64 3) ∧ W.cell? ⟨w.heap.size, 1, none⟩ = some (.string ⟨#[110]⟩) ∧ W.cell? ⟨w.heap.size, 2, none⟩ = some (.string ⟨#[]⟩) ∧ W.cell? ⟨w.heap.size, 3, none⟩ = some (.string ⟨#[]⟩) ∧ W.cell? ⟨w.heap.size, 4, none⟩ = some (.int .i64 5) from fun W h => by
    have h1 := (h.block w.heap.size (by simp)).trans (World.alloc_heap_new w _)
    exact ⟨(cell_of h1).trans rfl, (cell_of h1).trans rfl, (cell_of h1).trans rfl, (cell_of h1).trans rfl, (cell_of h1).trans rfl⟩)
  have HB1 := Lib.hid (below_alloc w (.cells #[.int .i64 3, .string ⟨#[110]⟩, .string ⟨#[]⟩, .string ⟨#[]⟩, .int .i64 5] 33))
  have R1 := Lib.hid (fun W => rs_any ⟨3, ⟨#[110]⟩, ⟨#[]⟩, ⟨#[]⟩, 5⟩ W (fits_one _ (by simp)))
  have R2 := Lib.hid (fun W => rs_any ⟨3, ⟨#[110]⟩, ⟨#[53]⟩, ⟨#[]⟩, 0⟩ W ⟨by decide, by decide, by decide, by decide, by decide, by decide, by decide⟩)
  have R3 := Lib.hid (fun W => right_any none (some ⟨W.heap.size, 0, none⟩) 0 1 0 1 [] [⟨3, ⟨#[110]⟩, ⟨#[]⟩, ⟨#[]⟩, 5⟩] (W.alloc (.cells #[.int .i64 3, .string ⟨#[110]⟩, .string ⟨#[]⟩, .string ⟨#[]⟩, .int .i64 5] 33)) (Sg.nil _ _) (steps_one W) rfl rfl (by omega) (by omega) fits_none fits_one)
  have R4 := Lib.hid (fun W => right_any none none 0 0 0 0 [] [] W (Sg.nil _ _) (Ss.nil _ _) rfl rfl (by omega) (by omega) fits_none fits_none')
  have R5 := Lib.hid (fun W => rg_any ⟨1, ⟨#[]⟩, ⟨#[]⟩⟩ W ⟨by decide, by decide, by decide, by decide⟩)
  have R6 := Lib.hid (fun W => keys_any none (some ⟨W.heap.size, 0, none⟩) 0 1 0 1 [] [⟨3, ⟨#[110]⟩, ⟨#[]⟩, ⟨#[]⟩, 5⟩] (W.alloc (.cells #[.int .i64 3, .string ⟨#[110]⟩, .string ⟨#[]⟩, .string ⟨#[]⟩, .int .i64 5] 33)) (Sg.nil _ _) (steps_one W) rfl rfl (by omega) (by omega) fits_none fits_one)
  rw [show rsD ⟨3, ⟨#[110]⟩, ⟨#[]⟩, ⟨#[]⟩, 5⟩ = true by decide] at R1
  rw [show rsD ⟨3, ⟨#[110]⟩, ⟨#[53]⟩, ⟨#[]⟩, 0⟩ = false by decide] at R2
  rw [show rightD [] [⟨3, ⟨#[110]⟩, ⟨#[]⟩, ⟨#[]⟩, 5⟩] = true by decide] at R3
  rw [show rightD [] [] = false by decide] at R4
  rw [show rgD ⟨1, ⟨#[]⟩, ⟨#[]⟩⟩ = true by decide] at R5
  have hone : (onceD (keysG [] ++ keysS [⟨3, ⟨#[110]⟩, ⟨#[]⟩, ⟨#[]⟩, 5⟩])).length = 1 := rfl
  go_enter Try.func7, Try.ntmps7
  go_wp2_with fail
  refine (R1.out _).mono ?_
  rintro e w2 ⟨rfl, hb⟩
  have B2 := Lib.hid hb
  clear hb
  go_wp2_with fail
  refine (R2.out _).mono ?_
  rintro e w3 ⟨rfl, hb⟩
  have B3 := Lib.hid (B2.out.trans (hb.mono B2.out.size))
  obtain ⟨c0, c1, c2, c3, c4⟩ := F0.out w3 B3.out
  clear hb B2
  go_wp2_with fail
  refine (R3.out _).mono ?_
  rintro e w4 ⟨rfl, hb⟩
  have B4 := Lib.hid (B3.out.trans ((below_alloc w3 _).trans (hb.mono (by simp)) |>.mono B3.out.size))
  clear hb B3 c0 c1 c2 c3 c4
  go_wp2_with fail
  refine (R4.out _).mono ?_
  rintro e w5 ⟨rfl, hb⟩
  have B5 := Lib.hid (B4.out.trans (hb.mono B4.out.size))
  clear hb B4
  go_wp2_with fail
  refine (R5.out _).mono ?_
  rintro e w6 ⟨rfl, hb⟩
  have B6 := Lib.hid (B5.out.trans (hb.mono B5.out.size))
  obtain ⟨c0, c1, c2, c3, c4⟩ := F0.out w6 B6.out
  clear hb B5
  go_wp2_with fail
  refine (R6.out _).mono ?_
  rintro e w7 ⟨g, cap, rfl, hr, hb⟩
  have B7 := Lib.hid (B6.out.trans ((below_alloc w6 _).trans (hb.mono (by simp)) |>.mono B6.out.size))
  clear hb B6 c0 c1 c2 c3 c4 hr
  rw [hone]
  go_wp2_with fail
  go_ret
  exact Says.mk rfl (HB1.out.trans (B7.out.mono HB1.out.size))

end Go.Proofs.Ytoflgkbjmbpdjaa
