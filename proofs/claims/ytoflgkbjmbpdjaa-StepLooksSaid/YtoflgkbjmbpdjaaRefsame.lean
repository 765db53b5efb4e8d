/-
  The reference's Same; Right, of the program and of the reference.
-/
import Derived.Test.YtoflgkbjmbpdjaaSame
namespace Go.Proofs.Ytoflgkbjmbpdjaa
open Go Go.RowKit

set_option maxRecDepth 100000 in
set_option maxHeartbeats 4000000 in
theorem refsame_any (pg ps ph pt : Option Addr) (ng ns nh nt cg cs ch ct : Nat) (G H : List GD) (S T : List SD) (w : World) (hG : Sg w pg G) (hS : Ss w ps S) (hH : Sg w ph H) (hT : Ss w pt T)
    (hng : G.length = ng) (hns : S.length = ns) (hnh : H.length = nh) (hnt : T.length = nt) (b1 : ng ≤ 1000) (b2 : ns ≤ 1000) (b3 : nh ≤ 1000) (b4 : nt ≤ 1000) :
    Calls Try.prog 20 #[.agg #[.slice pg ng cg, .slice ps ns cs], .agg #[.slice ph nh ch, .slice pt nt ct]] w (Says (sameD G H S T) w) := by
  have HB2 := Lib.hid (show Below w.heap.size w ((w.alloc (.cells #[.slice pg ng cg, .slice ps ns cs] 25)).alloc (.cells #[.slice ph nh ch, .slice pt nt ct] 25)) from (below_alloc w _).alloc (by simp) _)
  by_cases hg : ng = nh
  · by_cases hs : ns = nt
    · subst hg hs
      have HG := Lib.hid (fun W (h : Below w.heap.size w W) => hG.grow h)
      have HH := Lib.hid (fun W (h : Below w.heap.size w W) => hH.grow h)
      have HS := Lib.hid (fun W (h : Below w.heap.size w W) => hS.grow h)
      have HT' := Lib.hid (fun W (h : Below w.heap.size w W) => hT.grow h)
      have HNG := Lib.hid hng
      have HNH := Lib.hid hnh
      have HNS := Lib.hid hns
      have HNT := Lib.hid hnt
      clear hG hS hH hT hng hns hnh hnt
      go_enter Try.func20, Try.ntmps20
      go_wp2_with fail
      have f0 : ((w.alloc (.cells #[.slice pg ng cg, .slice ps ns cs] 25)).alloc (.cells #[.slice ph ng ch, .slice pt ns ct] 25)).heap[w.heap.size]? = some (.cells #[.slice pg ng cg, .slice ps ns cs] 25 (0, 0)) :=
        (Below.heap_alloc (w.alloc (.cells #[.slice pg ng cg, .slice ps ns cs] 25)) _ w.heap.size (by simp)).trans (World.alloc_heap_new w _)
      have f1 : ((w.alloc (.cells #[.slice pg ng cg, .slice ps ns cs] 25)).alloc (.cells #[.slice ph ng ch, .slice pt ns ct] 25)).heap[w.heap.size + 1]? = some (.cells #[.slice ph ng ch, .slice pt ns ct] 25 (0, 0)) := by
        have h1 := World.alloc_heap_new (w.alloc (.cells #[.slice pg ng cg, .slice ps ns cs] 25)) (.cells #[.slice ph ng ch, .slice pt ns ct] 25)
        rwa [World.size_alloc] at h1
      have fs : ((w.alloc (.cells #[.slice pg ng cg, .slice ps ns cs] 25)).alloc (.cells #[.slice ph ng ch, .slice pt ns ct] 25)).heap.size = w.heap.size + 2 := by simp
      obtain ⟨W2, hW2⟩ : ∃ W2, ((w.alloc (.cells #[.slice pg ng cg, .slice ps ns cs] 25)).alloc (.cells #[.slice ph ng ch, .slice pt ns ct] 25)) = W2 := ⟨_, rfl⟩
      rw [hW2] at HB2 f0 f1 fs ⊢
      have HWB := Lib.hid (fun wr (h : Below W2.heap.size W2 wr) => HB2.out.trans (h.mono HB2.out.size))
      have HC := Lib.hid (show ∀ wr, Below W2.heap.size W2 wr → wr.cell? ⟨w.heap.size, 0, none⟩ = some (.slice pg ng cg) ∧ wr.cell? ⟨w.heap.size, 1, none⟩ = some (.slice ps ns cs) ∧ wr.cell? ⟨w.heap.size + 1, 0, none⟩ = some (.slice ph ng ch) ∧ wr.cell? ⟨w.heap.size + 1, 1, none⟩ = some (.slice pt ns ct) from fun wr h => by
        have g0 := (h.block w.heap.size (by omega)).trans f0
        have g1 := (h.block (w.heap.size + 1) (by omega)).trans f1
        exact ⟨(cell_of g0).trans rfl, (cell_of g0).trans rfl, (cell_of g1).trans rfl, (cell_of g1).trans rfl⟩)
      clear hW2 f0 f1 fs HB2
      go_loopw [5] (fun s wr => ∃ k : Nat, s = .int .i64 k ∧ k ≤ ng ∧ Hid (Below W2.heap.size W2 wr) ∧ Hid (G.take k = H.take k)) (fun s _ => ng - (intOf s).toNat)
      case atStart => exact ⟨0, rfl, Nat.zero_le _, Below.refl _ _, rfl⟩
      case round =>
        obtain ⟨k, rfl, hkn, hW, hE⟩ := hrel
        obtain ⟨e0, e1, e2, e3⟩ := HC.out wr hW.out
        by_cases hlt : k < ng
        · have hkA : k < G.length := by rw [HNG.out]; exact hlt
          have hkB : k < H.length := by rw [HNH.out]; exact hlt
          obtain ⟨b, o, rfl, c1, c2, c3⟩ := HG.out wr (HWB.out wr hW.out) k hkA
          obtain ⟨b', o', rfl, d1, d2, d3⟩ := HH.out wr (HWB.out wr hW.out) k hkB
          have HT := Lib.hid (fun (e : eqD G[k] H[k] = true) => take_eq_snoc hkA hkB hE.out (eqD_true e))
          have HF := Lib.hid (fun (e : eqD G[k] H[k] = false) => (show sameD G H S T = false from by unfold sameD; rw [eqD_ne (fun h => eqD_false e (by subst h; rfl))]; rfl))
          have hq := fun w => neqG G[k] H[k] w
          have hgd := guardG
          obtain ⟨⟨a1, a2, a3⟩, ha⟩ : ∃ g, G[k] = g := ⟨_, rfl⟩
          obtain ⟨⟨b1, b2, b3⟩, hb⟩ : ∃ g, H[k] = g := ⟨_, rfl⟩
          rw [ha] at c1 c2 c3 HT HF hq
          rw [hb] at d1 d2 d3 HT HF hq
          simp only at c1 c2 c3 d1 d2 d3 hq
          obtain ⟨r, hr⟩ : ∃ r, eqD (⟨a1, a2, a3⟩ : GD) ⟨b1, b2, b3⟩ = r := ⟨_, rfl⟩
          rw [hr] at HT HF hq
          clear ha hb hr hkA hkB
          have hltz : (k : Int) < (ng : Int) := by omega
          have h0 : (0 : Int) ≤ (k : Int) := by omega
          cases r
          · have HE := Lib.hid (HF.out rfl)
            go_wp2_with fail
            go_quiet (fail)
            go_wp2
            go_ret
            exact Says.mk HE.out.symm (below_drewN (HWB.out wr hW.out) _)
          · have HE := Lib.hid (HT.out rfl)
            go_wp2_with fail
            go_quiet (fail)
            go_wp2
            go_roundw
            case rel => exact ⟨k + 1, by go_num, by omega, below_drewN' hW.out _, HE⟩
            case measure => simp [intOf]; omega
        · obtain rfl : k = ng := by omega
          have HGH := Lib.hid (take_eq_all HNG.out HNH.out hE.out)
          clear hE
          go_wp2_with fail
          go_loopw [6] (fun s wr => ∃ k : Nat, s = .int .i64 k ∧ k ≤ ns ∧ Hid (Below W2.heap.size W2 wr) ∧ Hid (S.take k = T.take k)) (fun s _ => ns - (intOf s).toNat)
          case atStart => exact ⟨0, rfl, Nat.zero_le _, hW, rfl⟩
          case round =>
            clear e0 e1 e2 e3 hlt hW
            obtain ⟨k, rfl, hkn2, hW, hE⟩ := hrel
            obtain ⟨e0, e1, e2, e3⟩ := HC.out wr hW.out
            by_cases hlt : k < ns
            · have hkA : k < S.length := by rw [HNS.out]; exact hlt
              have hkB : k < T.length := by rw [HNT.out]; exact hlt
              obtain ⟨b, o, rfl, c1, c2, c3, c4, c5⟩ := HS.out wr (HWB.out wr hW.out) k hkA
              obtain ⟨b', o', rfl, d1, d2, d3, d4, d5⟩ := HT'.out wr (HWB.out wr hW.out) k hkB
              have HT := Lib.hid (fun (e : eqD S[k] T[k] = true) => take_eq_snoc hkA hkB hE.out (eqD_true e))
              have HF := Lib.hid (fun (e : eqD S[k] T[k] = false) => (show sameD G H S T = false from by unfold sameD; rw [eqD_ne (a := S) (b := T) (fun h => eqD_false e (by subst h; rfl)), Bool.and_false]))
              have hq := fun w => neqS S[k] T[k] w
              have hgd := guardS
              obtain ⟨⟨a1, a2, a3, a4, a5⟩, ha⟩ : ∃ g, S[k] = g := ⟨_, rfl⟩
              obtain ⟨⟨b1, b2, b3, b4, b5⟩, hb⟩ : ∃ g, T[k] = g := ⟨_, rfl⟩
              rw [ha] at c1 c2 c3 c4 c5 HT HF hq
              rw [hb] at d1 d2 d3 d4 d5 HT HF hq
              simp only at c1 c2 c3 c4 c5 d1 d2 d3 d4 d5 hq
              obtain ⟨r, hr⟩ : ∃ r, eqD (⟨a1, a2, a3, a4, a5⟩ : SD) ⟨b1, b2, b3, b4, b5⟩ = r := ⟨_, rfl⟩
              rw [hr] at HT HF hq
              clear ha hb hr hkA hkB
              have hltz : (k : Int) < (ns : Int) := by omega
              have h0 : (0 : Int) ≤ (k : Int) := by omega
              cases r
              · have HE := Lib.hid (HF.out rfl)
                go_wp2_with fail
                go_quiet (fail)
                go_wp2
                go_ret
                exact Says.mk HE.out.symm (below_drewN (HWB.out wr hW.out) _)
              · have HE := Lib.hid (HT.out rfl)
                go_wp2_with fail
                go_quiet (fail)
                go_wp2
                go_roundw
                case rel => exact ⟨k + 1, by go_num, by omega, below_drewN' hW.out _, HE⟩
                case measure => simp [intOf]; omega
            · obtain rfl : k = ns := by omega
              have HE := Lib.hid (show sameD G H S T = true from by unfold sameD; rw [eqD_of HGH.out, eqD_of (take_eq_all HNS.out HNT.out hE.out)]; rfl)
              have HW := Lib.hid (HWB.out wr hW.out)
              go_wp2_with fail
              go_ret
              exact Says.mk HE.out.symm HW.out
    · have HE := Lib.hid (show sameD G H S T = false from by unfold sameD; rw [eqD_ne (a := S) (b := T) (fun h => hs (by rw [← hns, ← hnt, h])), Bool.and_false])
      have hz : ¬ (ns : Int) = (nt : Int) := by omega
      subst hg
      clear hG hS hH hT hng hns hnh hnt hs
      go_enter Try.func20, Try.ntmps20
      go_wp2_with fail
      go_ret
      exact Says.mk HE.out.symm HB2.out
  · have HE := Lib.hid (show sameD G H S T = false from by unfold sameD; rw [eqD_ne (fun h => hg (by rw [← hng, ← hnh, h]))]; rfl)
    have hz : ¬ (ng : Int) = (nh : Int) := by omega
    clear hG hS hH hT hng hns hnh hnt hg
    go_enter Try.func20, Try.ntmps20
    go_wp2_with fail
    go_ret
    exact Says.mk HE.out.symm HB2.out

/-- May the operation be? -/
def rightD (G : List GD) (S : List SD) : Bool := decide (G.length ≤ 4 ∧ 1 ≤ S.length ∧ S.length ≤ 4) && (G.all rgD && S.all rsD)

set_option maxHeartbeats 2000000 in
theorem right_any (pg ps : Option Addr) (ng ns cg cs : Nat) (G : List GD) (S : List SD) (w : World) (hG : Sg w pg G) (hS : Ss w ps S) (hng : G.length = ng) (hns : S.length = ns) (b1 : ng ≤ 9223372036854775807) (b2 : ns ≤ 9223372036854775807)
    (fG : ∀ g ∈ G, g.fits) (fS : ∀ s ∈ S, s.fits) :
    Calls Try.prog 12 #[.agg #[.slice pg ng cg, .slice ps ns cs]] w (Says (rightD G S) w) := by
  have HB := Lib.hid (below_alloc w (.cells #[.slice pg ng cg, .slice ps ns cs] 25))
  have HX := Lib.hid (fun (h : ng ≤ 1000) => each_g pg ng cg G (w.alloc (.cells #[.slice pg ng cg, .slice ps ns cs] 25)) (hG.grow HB.out) hng h fG)
  have HY := Lib.hid (fun (h : ns ≤ 1000) W (hb : Below w.heap.size w W) => each_s ps ns cs S W (hS.grow hb) hns h fS)
  unfold rightD
  rw [hng, hns]
  have F0 := Lib.hid (show ∀ W, Below (w.heap.size + 1) (w.alloc (.cells #[.slice pg ng cg, .slice ps ns cs] 25)) W → W.cell? ⟨w.heap.size, 1, none⟩ = some (.slice ps ns cs) from fun W h =>
    (cell_of ((h.block w.heap.size (by omega)).trans (World.alloc_heap_new w _))).trans rfl)
  obtain ⟨r1, hr1⟩ : ∃ r, G.all rgD = r := ⟨_, rfl⟩
  obtain ⟨r2, hr2⟩ : ∃ r, S.all rsD = r := ⟨_, rfl⟩
  rw [hr1] at HX ⊢
  rw [hr2] at HY ⊢
  clear hG hS hng hns fG fS hr1 hr2
  by_cases hd : ng ≤ 4 ∧ 1 ≤ ns ∧ ns ≤ 4
  · rw [decide_eq_true hd, Bool.true_and]
    obtain ⟨h1, h2, h3⟩ := hd
    have z1 : ¬ (ng : Int) > 4 := by omega
    have z2 : ¬ (ns : Int) = 0 := by omega
    have z3 : ¬ (ns : Int) > 4 := by omega
    have z4 : ((ns : Int) == 0) = false := by rw [beq_eq_false_iff_ne]; omega
    go_enter Try.func12, Try.ntmps12
    go_wp2_with fail
    refine (HX.out (by omega)).mono ?_
    rintro e w3 ⟨rfl, hb3⟩
    have HE := Lib.hid (HB.out.trans (hb3.mono (by simp)))
    have g0 := F0.out w3 (by simpa using hb3)
    clear hb3
    cases r1
    · go_wp2_with fail
      go_ret
      exact Says.mk (by simp) HE.out
    · go_wp2_with fail
      refine (HY.out (by omega) w3 HE.out).mono ?_
      rintro e w4 ⟨rfl, hb4⟩
      have HE4 := Lib.hid (HE.out.trans (hb4.mono HE.out.size))
      clear hb4
      go_wp2_with fail
      go_ret
      exact Says.mk (by simp) HE4.out
  · rw [decide_eq_false hd, Bool.false_and]
    by_cases h1 : 4 < ng
    · have z1 : (ng : Int) > 4 := by omega
      go_enter Try.func12, Try.ntmps12
      go_wp2_with fail
      go_ret
      exact Says.mk rfl HB.out
    · have z1 : ¬ (ng : Int) > 4 := by omega
      by_cases h2 : ns = 0
      · subst h2
        go_enter Try.func12, Try.ntmps12
        go_wp2_with fail
        go_ret
        exact Says.mk rfl HB.out
      · have z2 : ¬ (ns : Int) = 0 := by omega
        have z4 : ((ns : Int) == 0) = false := by rw [beq_eq_false_iff_ne]; omega
        have z3 : (ns : Int) > 4 := by omega
        go_enter Try.func12, Try.ntmps12
        go_wp2_with fail
        go_ret
        exact Says.mk rfl HB.out

end Go.Proofs.Ytoflgkbjmbpdjaa
