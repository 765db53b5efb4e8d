/-
  Few: few entries, with few parts.
-/
import Derived.Test.YtkfnndhoccjffaaArgs14
import Derived.Test.YtkfnndhoccjffaaRefs14
namespace Go.Proofs.Ytkfnndhoccjffaa
open Go Go.RowKit
attribute [local go_sem ↓] Go.wp_at_zero Go.wp_at_succ

/-- What Few tells. -/
def FewR (R : List EV) (n : Nat) (w : World) (e : Ending) (w' : World) : Prop := ∃ r, e = .returned (.bool r) ∧ Below w.heap.size w w' ∧ (r = true → n ≤ 24 ∧ ∀ v ∈ R, v.ng ≤ 10 ∧ v.ns ≤ 10)
theorem FewR.no {R : List EV} {n : Nat} {w w' : World} (h : Below w.heap.size w w') : FewR R n w (.returned (.bool false)) w' := ⟨false, rfl, h, fun e => by cases e⟩

def FewV (v : EV) : Prop := v.ng ≤ 10 ∧ v.ns ≤ 10

set_option maxRecDepth 100000 in
set_option maxHeartbeats 8000000 in
theorem few_any (pa : Option Addr) (n c : Nat) (R : List EV) (E : List ED) (w : World) (h : Se w pa R) (hn : R.length = n) (hE : Each (EntA w) R E) (hm : n ≤ 9223372036854775807) :
    Calls Try.prog 6 #[.slice pa n c] w (FewR R n w) := by
  have HS := Lib.hid (fun X (hX : Below w.heap.size w X) => h.grow hX)
  have HN := Lib.hid hn
  have HX := Lib.hid (show ∀ k (hk : k < R.length), ∃ e, (∀ X, Below w.heap.size w X → Ent X R[k] e) ∧ (∀ x ∈ e.g, x.fits) ∧ (∀ x ∈ e.s, x.fits) ∧ R[k].ng ≤ 9223372036854775807 ∧ R[k].ns ≤ 9223372036854775807 from fun k hk => by
    have hk2 : k < E.length := by rw [← hE.1]; exact hk
    have h2 := hE.2 k hk hk2
    exact ⟨E[k], fun X hX => h2.ent.grow hX, h2.g, h2.s, by have := h2.mg; simpa [maxLen] using this, by have := h2.ms; simpa [maxLen] using this⟩)
  have H0 := Lib.hid (show ∀ v ∈ R.take 0, FewV v from fun v h => by cases h)
  clear h hn hE
  go_enter Try.func6, Try.ntmps6
  go_wp2_with fail
  go_loopw [3] (fun s wr => ∃ k : Nat, s = .int .i64 k ∧ k ≤ n ∧ k ≤ 30 ∧ Hid (Below w.heap.size w wr) ∧ Hid (∀ v ∈ R.take k, FewV v)) (fun s _ => 30 - (intOf s).toNat)
  case atStart => exact ⟨0, rfl, Nat.zero_le _, by omega, Below.refl _ _, H0⟩
  case round =>
    clear H0
    obtain ⟨k, rfl, hkn, hk30, hB, hA⟩ := hrel
    by_cases hlt : k < n
    · have hltz : (k : Int) < (n : Int) := by omega
      have h0 : (0 : Int) ≤ (k : Int) := by omega
      by_cases h30 : k < 30
      · have h30z : (k : Int) < 30 := by omega
        have hkR : k < R.length := by rw [HN.out]; exact hlt
        obtain ⟨b, o, rfl, c1, c2, c3, c4⟩ := HS.out wr hB.out k hkR
        obtain ⟨e, hEnt, fG, fS, mg, ms⟩ := HX.out k hkR
        have hsn := List.take_succ_eq_append_getElem hkR
        obtain ⟨⟨id, pg, ng, cg, ps, ns, cs⟩, hv⟩ : ∃ v, R[k] = v := ⟨_, rfl⟩
        rw [hv] at c3 c4 hEnt hsn mg ms
        simp only at c3 c4 mg ms
        have HSn := Lib.hid (show FewV ⟨id, pg, ng, cg, ps, ns, cs⟩ → ∀ v ∈ R.take (k + 1), FewV v from fun h v hv => by
          rw [hsn, List.mem_append, List.mem_singleton] at hv
          rcases hv with hv | rfl
          · exact hA.out v hv
          · exact h)
        clear c1 c2 hv hsn
        have HEnt := Lib.hid hEnt
        have FG := Lib.hid fG
        have FStep := Lib.hid fS
        clear hEnt fG fS hkR
        have hb1 := below_alloc wr (.cells #[.slice pg ng cg, .slice ps ns cs] 38)
        have k1 := World.alloc_heap_new wr (.cells #[.slice pg ng cg, .slice ps ns cs] 38)
        have hz : (wr.alloc (.cells #[.slice pg ng cg, .slice ps ns cs] 38)).heap.size = wr.heap.size + 1 := by simp
        have HB1 := Lib.hid (fun X (hX : Below (wr.alloc (.cells #[.slice pg ng cg, .slice ps ns cs] 38)).heap.size (wr.alloc (.cells #[.slice pg ng cg, .slice ps ns cs] 38)) X) => hB.out.trans ((hb1.trans (hX.mono hb1.size)).mono hB.out.size))
        have HC := Lib.hid (show ∀ X, Below (wr.alloc (.cells #[.slice pg ng cg, .slice ps ns cs] 38)).heap.size (wr.alloc (.cells #[.slice pg ng cg, .slice ps ns cs] 38)) X → X.cell? ⟨wr.heap.size, 0, none⟩ = some (.slice pg ng cg) ∧ X.cell? ⟨wr.heap.size, 1, none⟩ = some (.slice ps ns cs) from fun X hX => by
          have e1 := (hX.block wr.heap.size (by omega)).trans k1
          exact ⟨(cell_of e1).trans rfl, (cell_of e1).trans rfl⟩)
        have HNo := Lib.hid (fun X hX => FewR.no (R := R) (n := n) (HB1.out X hX))
        clear hb1 k1 hz
        by_cases hg : ng ≤ 10
        · have hgz : ¬ (ng : Int) > 10 := by omega
          by_cases hs : ns ≤ 10
          · have hsz : ¬ (ns : Int) > 10 := by omega
            have HSn2 := Lib.hid (HSn.out ⟨hg, hs⟩)
            clear HSn
            go_wp2_with fail
            clear c3 c4
            obtain ⟨W5, hW5⟩ : ∃ W5, wr.alloc (.cells #[.slice pg ng cg, .slice ps ns cs] 38) = W5 := ⟨_, rfl⟩
            rw [hW5] at HC HNo HB1 ⊢
            clear hW5
            go_loopw [5] (fun s wx => ∃ i : Nat, s = .int .i64 i ∧ i ≤ ng ∧ Hid (Below W5.heap.size W5 wx)) (fun s _ => ng - (intOf s).toNat)
            case atStart => exact ⟨0, rfl, Nat.zero_le _, Below.refl _ _⟩
            case round =>
              obtain ⟨i, rfl, hin, hI⟩ := hrel
              obtain ⟨e0, e1⟩ := HC.out _ hI.out
              clear e1
              have hEn := HEnt.out _ (HB1.out _ hI.out)
              by_cases hil : i < ng
              · have hiG : i < e.g.length := by rw [hEn.ng]; exact hil
                obtain ⟨bb, oo, rfl, d1, d2, d3⟩ := hEn.g i hiG
                have hfg := FG.out _ (List.getElem_mem hiG)
                obtain ⟨⟨gk, gs, gv⟩, hgg⟩ : ∃ g, e.g[i] = g := ⟨_, rfl⟩
                rw [hgg] at d2 d3 hfg
                simp only at d2 d3
                have hs1 : gs.size ≤ 281474976710656 := hfg.2.2.1
                have hs2 : gv.size ≤ 281474976710656 := hfg.2.2.2
                clear hfg hgg hiG hEn d1
                have hiz : (i : Int) < (ng : Int) := by omega
                have hi0 : (0 : Int) ≤ (i : Int) := by omega
                by_cases hbig : (gs.size : Int) + (gv.size : Int) > 200
                · go_wp2_with fail
                  go_quiet (fail)
                  go_wp2
                  go_ret
                  exact HNo.out _ (below_drewN' hI.out _)
                · go_wp2_with fail
                  go_quiet (fail)
                  go_wp2
                  go_roundw
                  case rel => exact ⟨i + 1, by go_num, by omega, below_drewN' hI.out _⟩
                  case measure => simp [intOf]; omega
              · obtain rfl : ng = i := by omega
                clear hEn hin
                go_wp2_with fail
                clear e0
                go_loopw [6] (fun s wx => ∃ i : Nat, s = .int .i64 i ∧ i ≤ ns ∧ Hid (Below W5.heap.size W5 wx)) (fun s _ => ns - (intOf s).toNat)
                case atStart => exact ⟨0, rfl, Nat.zero_le _, hI⟩
                case round =>
                  clear hI
                  obtain ⟨i, rfl, hin, hI⟩ := hrel
                  obtain ⟨e0, e1⟩ := HC.out _ hI.out
                  clear e0
                  have hEn := HEnt.out _ (HB1.out _ hI.out)
                  by_cases hil : i < ns
                  · have hiS : i < e.s.length := by rw [hEn.ns]; exact hil
                    obtain ⟨bb, oo, rfl, d1, d2, d3, d4, d5⟩ := hEn.s i hiS
                    have hfg := FStep.out _ (List.getElem_mem hiS)
                    obtain ⟨⟨gk, gs, gv, go, gn⟩, hgg⟩ : ∃ g, e.s[i] = g := ⟨_, rfl⟩
                    rw [hgg] at d2 d3 d4 hfg
                    simp only at d2 d3 d4
                    have hs1 : gs.size ≤ 281474976710656 := hfg.2.2.1
                    have hs2 : gv.size ≤ 281474976710656 := hfg.2.2.2.1
                    have hs3 : go.size ≤ 281474976710656 := hfg.2.2.2.2.1
                    clear hfg hgg d1 d5 hiS hEn
                    have hiz : (i : Int) < (ns : Int) := by omega
                    have hi0 : (0 : Int) ≤ (i : Int) := by omega
                    by_cases hbig : (gs.size : Int) + (gv.size : Int) + (go.size : Int) > 200
                    · go_wp2_with fail
                      go_quiet (fail)
                      go_wp2
                      go_ret
                      exact HNo.out _ (below_drewN' hI.out _)
                    · go_wp2_with fail
                      go_quiet (fail)
                      go_wp2
                      go_roundw
                      case rel => exact ⟨i + 1, by go_num, by omega, below_drewN' hI.out _⟩
                      case measure => simp [intOf]; omega
                  · obtain rfl : ns = i := by omega
                    clear hEn hin
                    go_wp2_with fail
                    go_roundw
                    case rel => exact ⟨k + 1, by go_num, by omega, by omega, HB1.out _ hI.out, HSn2⟩
                    case measure => simp [intOf]; omega
          · have hsz : (ns : Int) > 10 := by omega
            have HE := Lib.hid (HNo.out _ (Below.refl _ _))
            go_wp2_with fail
            go_ret
            exact HE.out
        · have hgz : (ng : Int) > 10 := by omega
          have HE := Lib.hid (HNo.out _ (Below.refl _ _))
          go_wp2_with fail
          go_ret
          exact HE.out
      · obtain rfl : k = 30 := by omega
        have h24 : ¬ (n : Int) ≤ 24 := by omega
        have HE := Lib.hid (FewR.no (R := R) (n := n) hB.out)
        go_wp2_with fail
        go_ret
        exact HE.out
    · obtain rfl : n = k := by omega
      have hall := hA.out
      rw [List.take_of_length_le (by rw [HN.out]; exact Nat.le_refl _)] at hall
      by_cases h24 : n ≤ 24
      · have h24z : (n : Int) ≤ 24 := by omega
        have HE := Lib.hid (show FewR R n w (.returned (.bool true)) wr from ⟨true, rfl, hB.out, fun _ => ⟨h24, hall⟩⟩)
        clear hall
        go_wp2_with fail
        go_ret
        exact HE.out
      · have h24z : ¬ (n : Int) ≤ 24 := by omega
        have HE := Lib.hid (FewR.no (R := R) (n := n) hB.out)
        clear hall
        go_wp2_with fail
        go_ret
        exact HE.out

end Go.Proofs.Ytkfnndhoccjffaa
