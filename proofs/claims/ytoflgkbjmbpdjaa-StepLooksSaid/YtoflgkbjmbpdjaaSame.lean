/-
  Which operations are the same, and which may be: the program and the reference.
-/
import Derived.Test.YtoflgkbjmbpdjaaLooks
namespace Go.Proofs.Ytoflgkbjmbpdjaa
open Go Go.RowKit

theorem below_drewN {B : Nat} {a w : World} (h : Below B a w) (q : Nat) : Below B a (w.drewN q) := ⟨h.os, h.tape, h.output, h.size, h.block⟩
theorem below_drewN' {a w : World} (h : Below a.heap.size a w) (q : Nat) : Below a.heap.size a (w.drewN q) := below_drewN h q
theorem take_eq_all {α : Type} {A B : List α} {n : Nat} (ha : A.length = n) (hb : B.length = n) (h : A.take n = B.take n) : A = B := by
  rwa [List.take_of_length_le (by omega), List.take_of_length_le (by omega)] at h
theorem take_eq_snoc {α : Type} {A B : List α} {k : Nat} (ha : k < A.length) (hb : k < B.length) (h : A.take k = B.take k) (e : A[k] = B[k]) : A.take (k + 1) = B.take (k + 1) := by
  rw [List.take_succ_eq_append_getElem ha, List.take_succ_eq_append_getElem hb, h, e]

theorem cell_of {W : World} {b i : Nat} {cs : Array Value} {t : TypeId} (h : W.heap[b]? = some (.cells cs t (0, 0))) : W.cell? ⟨b, i, none⟩ = cs[i]? := by simp [World.cell?, h]
theorem guardG (op : BinOp) (a b : Operand) (xs ys : Array Value) (w : World) : (eqGuard op 30 a b (.agg xs) (.agg ys)).run Try.prog w = .ok () w := run_eqGuard_agg w op _ a b xs ys (by kernel_rfl)
theorem guardS (op : BinOp) (a b : Operand) (xs ys : Array Value) (w : World) : (eqGuard op 33 a b (.agg xs) (.agg ys)).run Try.prog w = .ok () w := run_eqGuard_agg w op _ a b xs ys (by kernel_rfl)

set_option maxHeartbeats 2000000 in
theorem equal_g (pa pb : Option Addr) (na nb ca cb : Nat) (A B : List GD) (w : World) (hA : Sg w pa A) (hB : Sg w pb B) (hna : A.length = na) (hnb : B.length = nb) (hla : na ≤ 1000) (hlb : nb ≤ 1000) :
    Calls Try.prog 27 #[.slice pa na ca, .slice pb nb cb] w (Says (eqD A B) w) := by
  by_cases hnn : na = nb
  · subst hnn
    have HA := Lib.hid (fun W (h : Below w.heap.size w W) => hA.grow h)
    have HB := Lib.hid (fun W (h : Below w.heap.size w W) => hB.grow h)
    have HNA := Lib.hid hna
    have HNB := Lib.hid hnb
    clear hA hB hna hnb
    go_enter Try.func27, Try.ntmps27
    go_wp2_with fail
    go_loopw [13] (fun s wr => ∃ k : Nat, s = .int .i64 k ∧ k ≤ na ∧ Hid (Below w.heap.size w wr) ∧ Hid (A.take k = B.take k)) (fun s _ => na - (intOf s).toNat)
    case atStart => exact ⟨0, rfl, Nat.zero_le _, Below.refl _ _, rfl⟩
    case round =>
      obtain ⟨k, rfl, hkn, hW, hE⟩ := hrel
      by_cases hlt : k < na
      · have hkA : k < A.length := by rw [HNA.out]; exact hlt
        have hkB : k < B.length := by rw [HNB.out]; exact hlt
        obtain ⟨b, o, rfl, c1, c2, c3⟩ := HA.out wr hW.out k hkA
        obtain ⟨b', o', rfl, d1, d2, d3⟩ := HB.out wr hW.out k hkB
        have HT := Lib.hid (fun (e : eqD A[k] B[k] = true) => take_eq_snoc hkA hkB hE.out (eqD_true e))
        have HF := Lib.hid (fun (e : eqD A[k] B[k] = false) => (show eqD A B = false from eqD_ne (fun h => eqD_false e (by subst h; rfl))))
        have hq := fun w => neqG A[k] B[k] w
        have hgd := guardG
        obtain ⟨⟨a1, a2, a3⟩, ha⟩ : ∃ g, A[k] = g := ⟨_, rfl⟩
        obtain ⟨⟨b1, b2, b3⟩, hb⟩ : ∃ g, B[k] = g := ⟨_, rfl⟩
        rw [ha] at c1 c2 c3 HT HF hq
        rw [hb] at d1 d2 d3 HT HF hq
        simp only at c1 c2 c3 d1 d2 d3 hq
        obtain ⟨r, hr⟩ : ∃ r, eqD (⟨a1, a2, a3⟩ : GD) ⟨b1, b2, b3⟩ = r := ⟨_, rfl⟩
        rw [hr] at HT HF hq
        clear ha hb hr hkA hkB
        have hltz : (k : Int) < (na : Int) := by omega
        have h0 : (0 : Int) ≤ (k : Int) := by omega
        cases r
        · have HE := Lib.hid (HF.out rfl)
          go_wp2_with fail
          go_quiet (fail)
          go_wp2
          go_ret
          exact Says.mk HE.out.symm (below_drewN' hW.out _)
        · have HE := Lib.hid (HT.out rfl)
          go_wp2_with fail
          go_quiet (fail)
          go_wp2
          go_roundw
          case rel => exact ⟨k + 1, by go_num, by omega, below_drewN' hW.out _, HE⟩
          case measure => simp [intOf]; omega
      · obtain rfl : k = na := by omega
        have HE := Lib.hid (show Says (eqD A B) w (.returned (.bool true)) wr from Says.mk (eqD_of (take_eq_all HNA.out HNB.out hE.out)).symm hW.out)
        go_wp2_with fail
        go_ret
        exact HE.out
  · have HE := Lib.hid (show Says (eqD A B) w (.returned (.bool false)) w from Says.mk (eqD_ne (fun h => hnn (by rw [← hna, ← hnb, h]))).symm (Below.refl _ _))
    have hz : ¬ (na : Int) = (nb : Int) := by omega
    clear hA hB hna hnb hnn
    go_enter Try.func27, Try.ntmps27
    go_wp2_with fail
    go_ret
    exact HE.out

set_option maxHeartbeats 2000000 in
theorem equal_s (pa pb : Option Addr) (na nb ca cb : Nat) (A B : List SD) (w : World) (hA : Ss w pa A) (hB : Ss w pb B) (hna : A.length = na) (hnb : B.length = nb) (hla : na ≤ 1000) (hlb : nb ≤ 1000) :
    Calls Try.prog 28 #[.slice pa na ca, .slice pb nb cb] w (Says (eqD A B) w) := by
  by_cases hnn : na = nb
  · subst hnn
    have HA := Lib.hid (fun W (h : Below w.heap.size w W) => hA.grow h)
    have HB := Lib.hid (fun W (h : Below w.heap.size w W) => hB.grow h)
    have HNA := Lib.hid hna
    have HNB := Lib.hid hnb
    clear hA hB hna hnb
    go_enter Try.func28, Try.ntmps28
    go_wp2_with fail
    go_loopw [13] (fun s wr => ∃ k : Nat, s = .int .i64 k ∧ k ≤ na ∧ Hid (Below w.heap.size w wr) ∧ Hid (A.take k = B.take k)) (fun s _ => na - (intOf s).toNat)
    case atStart => exact ⟨0, rfl, Nat.zero_le _, Below.refl _ _, rfl⟩
    case round =>
      obtain ⟨k, rfl, hkn, hW, hE⟩ := hrel
      by_cases hlt : k < na
      · have hkA : k < A.length := by rw [HNA.out]; exact hlt
        have hkB : k < B.length := by rw [HNB.out]; exact hlt
        obtain ⟨b, o, rfl, c1, c2, c3, c4, c5⟩ := HA.out wr hW.out k hkA
        obtain ⟨b', o', rfl, d1, d2, d3, d4, d5⟩ := HB.out wr hW.out k hkB
        have HT := Lib.hid (fun (e : eqD A[k] B[k] = true) => take_eq_snoc hkA hkB hE.out (eqD_true e))
        have HF := Lib.hid (fun (e : eqD A[k] B[k] = false) => (show eqD A B = false from eqD_ne (fun h => eqD_false e (by subst h; rfl))))
        have hq := fun w => neqS A[k] B[k] w
        have hgd := guardS
        obtain ⟨⟨a1, a2, a3, a4, a5⟩, ha⟩ : ∃ g, A[k] = g := ⟨_, rfl⟩
        obtain ⟨⟨b1, b2, b3, b4, b5⟩, hb⟩ : ∃ g, B[k] = g := ⟨_, rfl⟩
        rw [ha] at c1 c2 c3 c4 c5 HT HF hq
        rw [hb] at d1 d2 d3 d4 d5 HT HF hq
        simp only at c1 c2 c3 c4 c5 d1 d2 d3 d4 d5 hq
        obtain ⟨r, hr⟩ : ∃ r, eqD (⟨a1, a2, a3, a4, a5⟩ : SD) ⟨b1, b2, b3, b4, b5⟩ = r := ⟨_, rfl⟩
        rw [hr] at HT HF hq
        clear ha hb hr hkA hkB
        have hltz : (k : Int) < (na : Int) := by omega
        have h0 : (0 : Int) ≤ (k : Int) := by omega
        cases r
        · have HE := Lib.hid (HF.out rfl)
          go_wp2_with fail
          go_quiet (fail)
          go_wp2
          go_ret
          exact Says.mk HE.out.symm (below_drewN' hW.out _)
        · have HE := Lib.hid (HT.out rfl)
          go_wp2_with fail
          go_quiet (fail)
          go_wp2
          go_roundw
          case rel => exact ⟨k + 1, by go_num, by omega, below_drewN' hW.out _, HE⟩
          case measure => simp [intOf]; omega
      · obtain rfl : k = na := by omega
        have HE := Lib.hid (show Says (eqD A B) w (.returned (.bool true)) wr from Says.mk (eqD_of (take_eq_all HNA.out HNB.out hE.out)).symm hW.out)
        go_wp2_with fail
        go_ret
        exact HE.out
  · have HE := Lib.hid (show Says (eqD A B) w (.returned (.bool false)) w from Says.mk (eqD_ne (fun h => hnn (by rw [← hna, ← hnb, h]))).symm (Below.refl _ _))
    have hz : ¬ (na : Int) = (nb : Int) := by omega
    clear hA hB hna hnb hnn
    go_enter Try.func28, Try.ntmps28
    go_wp2_with fail
    go_ret
    exact HE.out

/-- The value of an operation. -/
def opV (pg ps : Option Addr) (ng ns cg cs : Nat) : Value := .agg #[.slice pg ng cg, .slice ps ns cs]
/-- Are two operations the same? -/
noncomputable def sameD (G H : List GD) (S T : List SD) : Bool := eqD G H && eqD S T

theorem same_any (pg ps ph pt : Option Addr) (ng ns nh nt cg cs ch ct : Nat) (G H : List GD) (S T : List SD) (w : World) (hG : Sg w pg G) (hS : Ss w ps S) (hH : Sg w ph H) (hT : Ss w pt T)
    (hng : G.length = ng) (hns : S.length = ns) (hnh : H.length = nh) (hnt : T.length = nt) (b1 : ng ≤ 1000) (b2 : ns ≤ 1000) (b3 : nh ≤ 1000) (b4 : nt ≤ 1000) :
    Calls Try.prog 19 #[.agg #[.slice pg ng cg, .slice ps ns cs], .agg #[.slice ph nh ch, .slice pt nt ct]] w (Says (sameD G H S T) w) := by
  have hb1 : Below w.heap.size w ((w.alloc (.cells #[.slice pg ng cg, .slice ps ns cs] 25)).alloc (.cells #[.slice ph nh ch, .slice pt nt ct] 25)) := (below_alloc w _).alloc (by simp) _
  have HX := Lib.hid (equal_g pg ph ng nh cg ch G H _ (hG.grow hb1) (hH.grow hb1) hng hnh b1 b3)
  have HY := Lib.hid (fun W (h : Below w.heap.size w W) => equal_s ps pt ns nt cs ct S T W (hS.grow h) (hT.grow h) hns hnt b2 b4)
  have HB1 := Lib.hid hb1
  unfold sameD
  obtain ⟨r1, hr1⟩ : ∃ r, eqD G H = r := ⟨_, rfl⟩
  obtain ⟨r2, hr2⟩ : ∃ r, eqD S T = r := ⟨_, rfl⟩
  rw [hr1] at HX ⊢
  rw [hr2] at HY ⊢
  clear hG hS hH hT hng hns hnh hnt hr1 hr2 hb1
  have f0 : ((w.alloc (.cells #[.slice pg ng cg, .slice ps ns cs] 25)).alloc (.cells #[.slice ph nh ch, .slice pt nt ct] 25)).cell? ⟨w.heap.size, 1, none⟩ = some (.slice ps ns cs) := by
    have h1 := World.alloc_heap_new w (.cells #[.slice pg ng cg, .slice ps ns cs] 25)
    have h2 := Below.heap_alloc (w.alloc (.cells #[.slice pg ng cg, .slice ps ns cs] 25)) (.cells #[.slice ph nh ch, .slice pt nt ct] 25) w.heap.size (by simp)
    exact (cell_of (h2.trans h1)).trans rfl
  have f1 : ((w.alloc (.cells #[.slice pg ng cg, .slice ps ns cs] 25)).alloc (.cells #[.slice ph nh ch, .slice pt nt ct] 25)).cell? ⟨w.heap.size + 1, 1, none⟩ = some (.slice pt nt ct) := by
    have h1 := World.alloc_heap_new (w.alloc (.cells #[.slice pg ng cg, .slice ps ns cs] 25)) (.cells #[.slice ph nh ch, .slice pt nt ct] 25)
    rw [World.size_alloc] at h1
    exact (cell_of h1).trans rfl
  have fs : ((w.alloc (.cells #[.slice pg ng cg, .slice ps ns cs] 25)).alloc (.cells #[.slice ph nh ch, .slice pt nt ct] 25)).heap.size = w.heap.size + 2 := by simp
  have F0 := Lib.hid f0
  have F1 := Lib.hid f1
  have FSize := Lib.hid fs
  clear f0 f1 fs
  go_enter Try.func19, Try.ntmps19
  go_wp2_with fail
  refine HX.out.mono ?_
  rintro e w3 ⟨rfl, hb3⟩
  cases r1
  · have HE := Lib.hid (HB1.out.trans (hb3.mono (by rw [FSize.out]; omega)))
    clear hb3
    go_wp2_with fail
    go_ret
    exact Says.mk rfl HE.out
  · have HE := Lib.hid (HB1.out.trans (hb3.mono (by rw [FSize.out]; omega)))
    have g0 := (hb3.cell (p := ⟨w.heap.size, 1, none⟩) (by rw [FSize.out]; show w.heap.size < _; omega)).trans F0.out
    have g1 := (hb3.cell (p := ⟨w.heap.size + 1, 1, none⟩) (by rw [FSize.out]; show w.heap.size + 1 < _; omega)).trans F1.out
    clear hb3
    go_wp2_with fail
    refine (HY.out w3 HE.out).mono ?_
    rintro e w4 ⟨rfl, hb4⟩
    have HE4 := Lib.hid (HE.out.trans (hb4.mono HE.out.size))
    clear hb4
    go_wp2_with fail
    go_ret
    exact Says.mk (by simp) HE4.out

end Go.Proofs.Ytoflgkbjmbpdjaa
