/-
  Foif, Chn, Chn2, in one text.
-/
import Derived.Test.YtpnfbabiibopnaaGreatQ15
import Derived.Test.YtpnfbabiibopnaaGreatQ13
import Derived.Test.YtpnfbabiibopnaaGreatQ09
import Derived.Test.YtpnfbabiibopnaaGreatQ04
import Derived.Test.YtpnfbabiibopnaaGreatQ07
import Derived.WalkMore
/-! The reference's Find on a tape, followed by a routine that has find's within it. Plain. -/
namespace Go.Proofs.YtpnfbabiibopnaaGreat
open Go Go.RowKit

section
variable {σ : Type} {M : Mach σ} {ι : Nat → FindR → σ} {I : FindR → Prop} {em : Emb FindM M ι I} {R0 : σ} {G : List (Int × ByteArray)}
/-- What a reference's Find comes to. -/
def FndR (em : Emb FindM M ι I) (G : List (Int × ByteArray)) (R0 : σ) (R : (Int × Int) × TapD) : Prop :=
  (Ovr M G R0 R.2 ∧ R.1 = (0, 0)) ∨ (∃ E, Foi em G R0 R.2 E ∧ E.k ≠ 0 ∧ (E.k = 1 → 0 ≤ E.sh ∧ E.sh < E.s) ∧ R.1 = (E.k, E.sh))
theorem foi_find (hG : ∀ g ∈ G, (0 ≤ g.1 ∧ g.1 < 18446744073709551616)) (d : FindR) : ∀ (m i : Nat) (T : TapD), (m : Int) + (i : Int) = d.s → Foi em G R0 T (lookN d i) → FndR em G R0 (refF G d m i T)
  | 0, i, T, hmi, h => by
    have e : lookN d i = d.to i noAct 3 0 := by unfold lookN; rw [if_neg (by omega)]
    rw [e] at h
    exact .inr ⟨_, h, by show (3 : Int) ≠ 0; decide, fun h => absurd (show (3 : Int) = 1 from h) (by decide), rfl⟩
  | m + 1, i, T, hmi, h => by
    have hi : (i : Int) < d.s := by omega
    have e : lookN d i = d.to i (loadF d i) 0 0 := by unfold lookN; rw [if_pos hi]
    rw [e] at h
    unfold refF
    rcases h.next (x := loadF d i) rfl hG with ⟨h1, -, -⟩ | ⟨w, t, hw, -, hr, -, h4, -⟩
    · rw [if_pos h1.on]; exact .inl ⟨h1, rfl⟩
    · rw [if_neg (by rw [h4.on]; decide), hw]
      have et : FindM.take (d.to i (loadF d i) 0 0) w t = if w.toNat = 0 then d.to i noAct 2 (d.way i) else d.to i (wordsF w.toNat) 0 0 := by
        show lookY d w.toNat t ((i : Int)).toNat (loadF d i) = _
        unfold lookY
        rw [Int.toNat_natCast, if_pos hi, if_neg (by show ¬ (1 : Int) = 0; decide), if_pos (by rfl)]
      rw [et] at h4
      by_cases h0 : w.toNat = 0
      · rw [if_pos h0] at h4 ⊢
        exact .inr ⟨_, h4, by show (2 : Int) ≠ 0; decide, fun h => absurd (show (2 : Int) = 1 from h) (by decide), rfl⟩
      · rw [if_neg h0] at h4 ⊢
        rcases h4.next (x := wordsF w.toNat) rfl hG with ⟨h1, -, -⟩ | ⟨w', t', -, ht, -, -, h5, -⟩
        · rw [if_pos h1.on]; exact .inl ⟨h1, rfl⟩
        · rw [if_neg (by rw [h5.on]; decide), ht]
          have et2 : FindM.take (d.to i (wordsF w.toNat) 0 0) w' t' = if t'.toList = d.key.toList then d.to i noAct 1 (d.way i) else lookN d (i + 1) := by
            show lookY d w'.toNat t' ((i : Int)).toNat (wordsF w.toNat) = _
            unfold lookY
            rw [Int.toNat_natCast, if_pos hi, if_neg (by show ¬ (6 : Int) = 0; decide), if_neg (by show ¬ (6 : Int) = 1; decide)]
          rw [et2] at h5
          by_cases hk : t'.toList = d.key.toList
          · rw [if_pos hk] at h5 ⊢
            exact .inr ⟨_, h5, by show (1 : Int) ≠ 0; decide, fun _ => place_bd d.n d.s i hi, rfl⟩
          · rw [if_neg hk] at h5 ⊢
            exact foi_find hG d m (i + 1) _ (by omega) h5
/-- On a tape that is at its end nothing is found. -/
theorem find_over {d : FindR} {m i : Nat} {T : TapD} (h : T.over = true) : refF G d (m + 1) i T = ((0, 0), T) := by
  have e : onT G T (loadF d i) = T := by unfold onT; rw [if_pos h]
  unfold refF
  rw [e, if_pos h]
end

end Go.Proofs.YtpnfbabiibopnaaGreat

/-! chain's routine: what it does next, and where it stands behind an answer; its methods. -/
namespace Go.Proofs.YtpnfbabiibopnaaGreat
open Go Go.RowKit
attribute [local go_sem ↓] Go.wp_at_zero Go.wp_at_succ

/-- A chain that is read: the shelf's cell, the epoch, what is asked next (1 to 5; 6: nothing more), how many were passed, what was read. -/
structure ChnD where
  head : Int
  ep : Int
  asks : Nat
  passed : Int
  has : Bool
  text : ByteArray
  block : Nat
def ChnD.fits (v : ChnD) : Prop := (-9223372036854775808 ≤ v.head ∧ v.head ≤ 9223372036854775807) ∧ (0 ≤ v.ep ∧ v.ep < 18446744073709551616) ∧ (1 ≤ v.asks ∧ v.asks ≤ 6) ∧ (-9223372036854775808 ≤ v.passed ∧ v.passed ≤ 9223372036854775807) ∧ v.block < 18446744073709551616
def loadC (b : Nat) (c : Int) : ActD := ⟨1, b, c, 0, 0, ⟨#[]⟩⟩
def textC (b : Nat) : ActD := ⟨6, b, 0, 0, 0, ⟨#[]⟩⟩
def nextC (v : ChnD) : Option ActD := match v.asks with
  | 1 => some (loadC 1 v.head)
  | 2 => some (loadC v.block 0)
  | 3 => some (loadC v.block 1)
  | 4 => some (loadC v.block 2)
  | 5 => some (textC v.block)
  | _ => none
def anyC (w : Int) (n : Nat) : Nat := if w = 0 then 6 else n
def takeC (v : ChnD) (w : Int) (t : ByteArray) : ChnD := match v.asks with
  | 1 => ⟨v.head, v.ep, anyC w 2, v.passed, v.has, v.text, w.toNat⟩
  | 2 => ⟨v.head, v.ep, if v.ep < w then 3 else 4, v.passed, v.has, v.text, v.block⟩
  | 3 => ⟨v.head, v.ep, anyC w 2, wrap64 (v.passed + 1), v.has, v.text, w.toNat⟩
  | 4 => ⟨v.head, v.ep, anyC w 5, v.passed, !(w == 0), v.text, v.block⟩
  | 5 => ⟨v.head, v.ep, 6, v.passed, v.has, t, v.block⟩
  | _ => v
theorem loadC_fits {b : Nat} {c : Int} (hb : b < 18446744073709551616) (hc : -9223372036854775808 ≤ c ∧ c ≤ 9223372036854775807) : (loadC b c).fits := by
  have he : (⟨#[]⟩ : ByteArray).size = 0 := rfl
  unfold ActD.fits loadC; simp only; omega
theorem textC_fits {b : Nat} (hb : b < 18446744073709551616) : (textC b).fits := by
  have he : (⟨#[]⟩ : ByteArray).size = 0 := rfl
  unfold ActD.fits textC; simp only; omega
theorem nextC_fits {v : ChnD} {x : ActD} (hv : v.fits) (h : nextC v = some x) : x.fits ∧ (x.kind = 1 ∨ x.kind = 6) := by
  obtain ⟨h1, h2, h3, h4, h5⟩ := hv
  unfold nextC at h
  split at h
  · cases h; exact ⟨loadC_fits (by omega) h1, .inl rfl⟩
  · cases h; exact ⟨loadC_fits h5 (by omega), .inl rfl⟩
  · cases h; exact ⟨loadC_fits h5 (by omega), .inl rfl⟩
  · cases h; exact ⟨loadC_fits h5 (by omega), .inl rfl⟩
  · cases h; exact ⟨textC_fits h5, .inr rfl⟩
  · cases h
theorem wrap_i64_in (a : Int) : -9223372036854775808 ≤ wrap64 a ∧ wrap64 a ≤ 9223372036854775807 := by
  unfold wrap64; omega
theorem anyC_in (w : Int) {n : Nat} (hn : 1 ≤ n ∧ n ≤ 6) : 1 ≤ anyC w n ∧ anyC w n ≤ 6 := by
  unfold anyC; split <;> omega
theorem takeC_fits {v : ChnD} {w : Int} {t : ByteArray} (hv : v.fits) (hw : 0 ≤ w ∧ w < 18446744073709551616) : (takeC v w t).fits := by
  obtain ⟨h1, h2, h3, h4, h5⟩ := hv
  unfold takeC
  split
  · exact ⟨h1, h2, anyC_in w (by omega), h4, by show w.toNat < _; omega⟩
  · exact ⟨h1, h2, by show 1 ≤ (if v.ep < w then 3 else 4) ∧ (if v.ep < w then 3 else 4) ≤ 6; split <;> omega, h4, h5⟩
  · exact ⟨h1, h2, anyC_in w (by omega), wrap_i64_in _, by show w.toNat < _; omega⟩
  · exact ⟨h1, h2, anyC_in w (by omega), h4, h5⟩
  · exact ⟨h1, h2, by show 1 ≤ 6 ∧ 6 ≤ 6; omega, h4, h5⟩
  · exact ⟨h1, h2, h3, h4, h5⟩

/-! ### in memory -/
abbrev chnC (v : ChnD) : Array Value := #[.int .i64 v.head, .int .u64 v.ep, .int .i64 (v.asks : Int), .int .i64 v.passed, .bool v.has, .string v.text, .int .u64 (v.block : Int)]
abbrev chnO (v : ChnD) : Obj := .cells (chnC v) 117 (0, 0)
section
variable {X : World} {r : Nat} {v : ChnD}
theorem chn_at (h : X.heap[r]? = some (chnO v)) :
    X.cell? ⟨r, 0, none⟩ = some (.int .i64 v.head) ∧ X.cell? ⟨r, 1, none⟩ = some (.int .u64 v.ep) ∧ X.cell? ⟨r, 2, none⟩ = some (.int .i64 (v.asks : Int)) ∧ X.cell? ⟨r, 3, none⟩ = some (.int .i64 v.passed) ∧ X.cell? ⟨r, 4, none⟩ = some (.bool v.has) ∧ X.cell? ⟨r, 5, none⟩ = some (.string v.text) ∧ X.cell? ⟨r, 6, none⟩ = some (.int .u64 (v.block : Int)) :=
  ⟨(cell_of h).trans rfl, (cell_of h).trans rfl, (cell_of h).trans rfl, (cell_of h).trans rfl, (cell_of h).trans rfl, (cell_of h).trans rfl, (cell_of h).trans rfl⟩
theorem chn_free (h : X.heap[r]? = some (chnO v)) (i : Nat) : X.frozen? ⟨r, i, none⟩ = false := by simp [World.frozen?, h]
end

/-! ### Act -/
theorem cload_any (W : World) (b : Nat) (c : Int) : Calls Tryz.prog 55 #[.int .u64 (b : Int), .int .i64 c] W fun e W' => e = .returned (actOf (loadC b c)) ∧ Below W.heap.size W W' := by
  have HN := Lib.hid (World.alloc_heap_new W noO)
  obtain ⟨z0, z1, z2, z3, z4, z5⟩ := six_free HN.out
  obtain ⟨m0, m1, m2, m3, m4, m5⟩ := six_at HN.out
  go_enter Tryz.func55, Tryz.ntmps55
  go_wp2_with fail
  refine bodyPost_ret (v := actOf (loadC b c)) (by rw [results_cell1 (by rfl)]; go_simp; exact ⟨rfl, rfl, rfl, rfl, rfl, rfl⟩) rfl ⟨rfl, ?_⟩
  exact below_alloc _ _

def CactE (y : ActD) (q : Bool) (W : World) (e : Ending) (W' : World) : Prop := e = .returned (.tuple #[actOf y, .bool q]) ∧ Below W.heap.size W W'
theorem cact_end {W X : World} {n : Nat} {x : ActD} {is : Bool} {T : Array Value} (h : X.heap[n]? = some (.cells (actCells x) 31 (0, 0))) (hb : Below W.heap.size W X) (h2 : T.getD 2 undef = .pointer (some ⟨n, 0, none⟩)) (h3 : T.getD 3 undef = .bool is) :
    bodyPost Tryz.prog Tryz.f23 (CactE x is W) .ret { tmps := T, defers := [] } X :=
  bodyPost_ret (v := .tuple #[actOf x, .bool is]) (by rw [results_cell2 (by rfl), h2, h3]; simp only [asAddr, Sem.run_pure, Result.andThen_ok, load_act h]) rfl ⟨rfl, hb⟩
theorem cact_mid {W w1 : World} (HN : (W.alloc noO).heap[W.heap.size]? = some noO) (hb : Below (W.alloc noO).heap.size (W.alloc noO) w1) :
    w1.heap[W.heap.size]? = some noO ∧ Below W.heap.size W w1 :=
  ⟨(hb.block _ (heap_at_lt HN)).trans HN, (below_alloc W noO).trans (hb.mono (below_alloc W noO).size)⟩

set_option maxRecDepth 100000 in
set_option maxHeartbeats 4000000 in
theorem cact_any (W : World) {r : Nat} {v : ChnD} (h : W.heap[r]? = some (chnO v)) (hv : v.fits) :
    Calls Tryz.prog 23 #[.pointer (some ⟨r, 0, none⟩)] W (CactE ((nextC v).getD noAct) (nextC v).isSome W) := by
  have HB := Lib.hid (below_alloc W noO)
  have HN := Lib.hid (World.alloc_heap_new W noO)
  obtain ⟨c0, c1, c2, c3, c4, c5, c6⟩ := chn_at ((HB.out.block r (heap_at_lt h)).trans h)
  have hp := hv.2.2.1
  have HL := Lib.hid (fun (X : World) (b : Nat) (c : Int) => cload_any X b c)
  obtain ⟨hd, ep, ak, pa, hs, tx, bl⟩ := v
  simp only at c0 c1 c2 c3 c4 c5 c6 hp
  have hne : W.heap.size ≠ r := by have := heap_at_lt h; omega
  clear h hv
  have h6 : ak = 1 ∨ ak = 2 ∨ ak = 3 ∨ ak = 4 ∨ ak = 5 ∨ ak = 6 := by omega
  clear hp
  rcases h6 with rfl | rfl | rfl | rfl | rfl | rfl
  · show Calls _ _ _ _ (CactE (loadC 1 hd) true W)
    go_enter Tryz.func23, Tryz.ntmps23
    go_wp2_with fail
    refine (HL.out _ 1 hd).mono ?_
    rintro en w1 ⟨rfl, hb⟩
    obtain ⟨h1, hb1⟩ := cact_mid HN.out hb
    have HB1 := Lib.hid hb1
    have H1 := Lib.hid h1
    obtain ⟨z0, z1, z2, z3, z4, z5⟩ := six_free h1
    obtain ⟨m0, m1, m2, m3, m4, m5⟩ := six_at h1
    clear hb h1 hb1 c0 c1 c2 c3 c4 c5 c6
    go_wp2_with fail
    exact cact_end (set6 H1.out _ _ _ _ _ _) (below6 HB1.out (Nat.le_refl _) _ _ _ _ _ _) rfl rfl
  · show Calls _ _ _ _ (CactE (loadC bl 0) true W)
    go_enter Tryz.func23, Tryz.ntmps23
    go_wp2_with fail
    refine (HL.out _ bl 0).mono ?_
    rintro en w1 ⟨rfl, hb⟩
    obtain ⟨h1, hb1⟩ := cact_mid HN.out hb
    have HB1 := Lib.hid hb1
    have H1 := Lib.hid h1
    obtain ⟨z0, z1, z2, z3, z4, z5⟩ := six_free h1
    obtain ⟨m0, m1, m2, m3, m4, m5⟩ := six_at h1
    clear hb h1 hb1 c0 c1 c2 c3 c4 c5 c6
    go_wp2_with fail
    exact cact_end (set6 H1.out _ _ _ _ _ _) (below6 HB1.out (Nat.le_refl _) _ _ _ _ _ _) rfl rfl
  · show Calls _ _ _ _ (CactE (loadC bl 1) true W)
    go_enter Tryz.func23, Tryz.ntmps23
    go_wp2_with fail
    refine (HL.out _ bl 1).mono ?_
    rintro en w1 ⟨rfl, hb⟩
    obtain ⟨h1, hb1⟩ := cact_mid HN.out hb
    have HB1 := Lib.hid hb1
    have H1 := Lib.hid h1
    obtain ⟨z0, z1, z2, z3, z4, z5⟩ := six_free h1
    obtain ⟨m0, m1, m2, m3, m4, m5⟩ := six_at h1
    clear hb h1 hb1 c0 c1 c2 c3 c4 c5 c6
    go_wp2_with fail
    exact cact_end (set6 H1.out _ _ _ _ _ _) (below6 HB1.out (Nat.le_refl _) _ _ _ _ _ _) rfl rfl
  · show Calls _ _ _ _ (CactE (loadC bl 2) true W)
    go_enter Tryz.func23, Tryz.ntmps23
    go_wp2_with fail
    refine (HL.out _ bl 2).mono ?_
    rintro en w1 ⟨rfl, hb⟩
    obtain ⟨h1, hb1⟩ := cact_mid HN.out hb
    have HB1 := Lib.hid hb1
    have H1 := Lib.hid h1
    obtain ⟨z0, z1, z2, z3, z4, z5⟩ := six_free h1
    obtain ⟨m0, m1, m2, m3, m4, m5⟩ := six_at h1
    clear hb h1 hb1 c0 c1 c2 c3 c4 c5 c6
    go_wp2_with fail
    exact cact_end (set6 H1.out _ _ _ _ _ _) (below6 HB1.out (Nat.le_refl _) _ _ _ _ _ _) rfl rfl
  · show Calls _ _ _ _ (CactE (textC bl) true W)
    obtain ⟨z0, z1, z2, z3, z4, z5⟩ := six_free HN.out
    obtain ⟨m0, m1, m2, m3, m4, m5⟩ := six_at HN.out
    go_enter Tryz.func23, Tryz.ntmps23
    go_wp2_with fail
    refine bodyPost_ret (v := .tuple #[actOf (textC bl), .bool true]) (by rw [results_cell2 (by rfl)]; go_simp; exact ⟨rfl, rfl, rfl, rfl, rfl, rfl⟩) rfl ⟨rfl, ?_⟩
    exact below_alloc _ _
  · show Calls _ _ _ _ (CactE noAct false W)
    obtain ⟨z0, z1, z2, z3, z4, z5⟩ := six_free HN.out
    obtain ⟨m0, m1, m2, m3, m4, m5⟩ := six_at HN.out
    go_enter Tryz.func23, Tryz.ntmps23
    go_wp2_with fail
    refine bodyPost_ret (v := .tuple #[actOf noAct, .bool false]) (by rw [results_cell2 (by rfl)]; go_simp; exact ⟨rfl, rfl, rfl, rfl, rfl, rfl⟩) rfl ⟨rfl, ?_⟩
    exact HB.out
set_option maxRecDepth 100000 in
set_option maxHeartbeats 800000 in
/-- No routine. -/
theorem cact_nil (W : World) : Calls Tryz.prog 23 #[.pointer none] W (CactE noAct false W) := by
  have HB := Lib.hid (below_alloc W noO)
  have HN := Lib.hid (World.alloc_heap_new W noO)
  obtain ⟨z0, z1, z2, z3, z4, z5⟩ := six_free HN.out
  obtain ⟨m0, m1, m2, m3, m4, m5⟩ := six_at HN.out
  go_enter Tryz.func23, Tryz.ntmps23
  go_wp2_with fail
  refine bodyPost_ret (v := .tuple #[actOf noAct, .bool false]) (by rw [results_cell2 (by rfl)]; go_simp; exact ⟨rfl, rfl, rfl, rfl, rfl, rfl⟩) rfl ⟨rfl, ?_⟩
  exact HB.out

end Go.Proofs.YtpnfbabiibopnaaGreat

/-! chain's routine: Take, Result, Passed, New. -/
namespace Go.Proofs.YtpnfbabiibopnaaGreat
open Go Go.RowKit
attribute [local go_sem ↓] Go.wp_at_zero Go.wp_at_succ

theorem ifany_any (X : World) (w : Int) (n : Nat) : Calls Tryz.prog 67 #[.int .u64 w, .int .i64 (n : Int)] X fun e X' => e = .returned (.int .i64 (anyC w n : Nat)) ∧ X' = X := by
  by_cases h : w = 0
  · subst h
    go_enter Tryz.func67, Tryz.ntmps67
    go_wp2_with fail
    go_ret
    exact ⟨rfl, rfl⟩
  · have hb : (w == 0) = false := by simpa using h
    have e : anyC w n = n := if_neg h
    rw [e]
    clear h e
    go_enter Tryz.func67, Tryz.ntmps67
    go_wp2_with fail
    go_ret
    exact ⟨rfl, rfl⟩

/-! ### Take -/
def CtakeE (v : ChnD) (r : Nat) (W : World) (e : Ending) (W' : World) : Prop := e = .returned (.tuple #[]) ∧ W'.heap[r]? = some (chnO v) ∧ Step (fun k => k = r) (fun k => k = r) W W'
/-- In the middle of Take. -/
structure CMid (W : World) (r : Nat) (v : ChnD) (w : Int) (t : ByteArray) (X : World) : Prop where
  own : X.heap[r]? = some (chnO v)
  got : X.heap[W.heap.size]? = some (gotO w t)
  ne : W.heap.size ≠ r
  st : Step (fun k => k = r) (fun k => k = r) W X
section
variable {W X Y : World} {r : Nat} {v : ChnD} {w : Int} {t : ByteArray}
theorem CMid.below (h : CMid W r v w t X) (hb : Below X.heap.size X Y) : CMid W r v w t Y :=
  ⟨(hb.block _ (heap_at_lt h.own)).trans h.own, (hb.block _ (heap_at_lt h.got)).trans h.got, h.ne, h.st.trans (Step.of_below hb)⟩
theorem CMid.set (h : CMid W r v w t X) (i : Nat) (u : Value) {v' : ChnD} (e : (chnC v).setIfInBounds i u = chnC v') : CMid W r v' w t (X.setCell ⟨r, i, none⟩ u) :=
  ⟨(heap_setAt h.own).trans (by rw [e]), (Below.heap_setCell _ _ _ _ h.ne).trans h.got, h.ne, h.st.trans (Step.setCell u rfl)⟩
theorem CMid.end (h : CMid W r v w t X) : CtakeE v r W (.returned (.tuple #[])) X := ⟨rfl, h.own, h.st⟩
end

set_option maxRecDepth 100000 in
set_option maxHeartbeats 4000000 in
theorem ctake_any (W : World) {r : Nat} {v : ChnD} (h : W.heap[r]? = some (chnO v)) (hv : v.fits) (hs : (nextC v).isSome = true) (w : Int) (t : ByteArray) (hg : Good w t) :
    Calls Tryz.prog 39 #[.pointer (some ⟨r, 0, none⟩), gotV w t] W (CtakeE (takeC v w t) r W) := by
  have HM := Lib.hid (show CMid W r v w t (W.alloc (gotO w t)) from ⟨((below_alloc W _).block r (heap_at_lt h)).trans h, World.alloc_heap_new W _, by have := heap_at_lt h; omega, Step.of_below (below_alloc W _)⟩)
  have HI := Lib.hid (fun (X : World) (n : Nat) => ifany_any X w n)
  have HC := Lib.hid (fun (X : World) => clone_any t X hg.2)
  have hw0 := hg.1.1
  obtain ⟨g0, g1⟩ := two_at HM.out.got
  obtain ⟨c0, c1, c2, c3, c4, c5, c6⟩ := chn_at HM.out.own
  have zz := chn_free HM.out.own
  have z2 := zz 2
  have z3 := zz 3
  have z4 := zz 4
  have z5 := zz 5
  have z6 := zz 6
  have hp := hv.2.2.1
  have hep := hv.2.1
  have hps := hv.2.2.2.1
  obtain ⟨hd, ep, ak, pa, has, tx, bl⟩ := v
  simp only at c0 c1 c2 c3 c4 c5 c6 hp hep hps
  have h5 : ak = 1 ∨ ak = 2 ∨ ak = 3 ∨ ak = 4 ∨ ak = 5 := by
    have : ak ≠ 6 := fun e => by subst e; cases hs
    omega
  have ewt : ((w.toNat : Nat) : Int) = w := by omega
  clear h hv hs hg zz hp
  rcases h5 with rfl | rfl | rfl | rfl | rfl
  · show Calls _ _ _ _ (CtakeE ⟨hd, ep, anyC w 2, pa, has, tx, w.toNat⟩ r W)
    have HA := Lib.hid (show CMid W r ⟨hd, ep, 1, pa, has, tx, w.toNat⟩ w t ((W.alloc (gotO w t)).setCell ⟨r, 6, none⟩ (.int .u64 w)) from HM.out.set 6 _ (by rw [← ewt]; rfl))
    go_enter Tryz.func39, Tryz.ntmps39
    go_wp2_with fail
    refine (HI.out _ 2).mono ?_
    rintro en w1 ⟨rfl, rfl⟩
    have HF := Lib.hid ((HA.out.set 2 (.int .i64 ((anyC w 2 : Nat) : Int)) (v' := ⟨hd, ep, anyC w 2, pa, has, tx, w.toNat⟩) rfl).end)
    generalize ((anyC w 2 : Nat) : Int) = k at HF ⊢
    go_wp2_with fail
    go_end0
    exact HF.out
  · show Calls _ _ _ _ (CtakeE ⟨hd, ep, if ep < w then 3 else 4, pa, has, tx, bl⟩ r W)
    have HA := Lib.hid (show CMid W r ⟨hd, ep, 4, pa, has, tx, bl⟩ w t ((W.alloc (gotO w t)).setCell ⟨r, 2, none⟩ (.int .i64 4)) from HM.out.set 2 _ rfl)
    by_cases hl : ep < w
    · rw [if_pos hl]
      go_enter Tryz.func39, Tryz.ntmps39
      go_wp2_with fail
      generalize (W.alloc (gotO w t)).setCell ⟨r, 2, none⟩ (.int .i64 4) = w1 at HA ⊢
      clear g0 g1 c0 c1 c2 c3 c4 c5 c6 z2 z3 z4 z5 z6
      obtain ⟨g0, g1⟩ := two_at HA.out.got
      obtain ⟨c0, c1, c2, c3, c4, c5, c6⟩ := chn_at HA.out.own
      go_quiet (fail)
      rename Nat => nq
      have HB := Lib.hid (HA.out.below (below_draws w1 nq))
      generalize w1.drewN nq = w2 at HB ⊢
      have z2 := chn_free HB.out.own 2
      have c2 := (chn_at HB.out.own).2.2.1
      have HF := Lib.hid ((HB.out.set 2 (.int .i64 3) (v' := ⟨hd, ep, 3, pa, has, tx, bl⟩) rfl).end)
      go_wp2_with fail
      go_end0
      exact HF.out
    · rw [if_neg hl]
      go_enter Tryz.func39, Tryz.ntmps39
      go_wp2_with fail
      generalize (W.alloc (gotO w t)).setCell ⟨r, 2, none⟩ (.int .i64 4) = w1 at HA ⊢
      clear g0 g1 c0 c1 c2 c3 c4 c5 c6 z2 z3 z4 z5 z6
      obtain ⟨g0, g1⟩ := two_at HA.out.got
      obtain ⟨c0, c1, c2, c3, c4, c5, c6⟩ := chn_at HA.out.own
      go_quiet (fail)
      rename Nat => nq
      have HB := Lib.hid (HA.out.below (below_draws w1 nq))
      generalize w1.drewN nq = w2 at HB ⊢
      have HF := Lib.hid HB.out.end
      go_wp2_with fail
      go_end0
      exact HF.out
  · show Calls _ _ _ _ (CtakeE ⟨hd, ep, anyC w 2, wrap64 (pa + 1), has, tx, w.toNat⟩ r W)
    obtain ⟨pw, hpw⟩ : ∃ z, wrap64 (pa + 1) = z := ⟨_, rfl⟩
    rw [hpw]
    have HA := Lib.hid (show CMid W r ⟨hd, ep, 3, pw, has, tx, w.toNat⟩ w t (((W.alloc (gotO w t)).setCell ⟨r, 3, none⟩ (.int .i64 pw)).setCell ⟨r, 6, none⟩ (.int .u64 w)) from (HM.out.set 3 (.int .i64 pw) (v' := ⟨hd, ep, 3, pw, has, tx, bl⟩) rfl).set 6 _ (by rw [← ewt]; rfl))
    go_enter Tryz.func39, Tryz.ntmps39
    go_wp2_with fail
    refine (HI.out _ 2).mono ?_
    rintro en w1 ⟨rfl, rfl⟩
    have HF := Lib.hid ((HA.out.set 2 (.int .i64 ((anyC w 2 : Nat) : Int)) (v' := ⟨hd, ep, anyC w 2, pw, has, tx, w.toNat⟩) rfl).end)
    generalize ((anyC w 2 : Nat) : Int) = k at HF ⊢
    go_wp2_with fail
    go_end0
    exact HF.out
  · show Calls _ _ _ _ (CtakeE ⟨hd, ep, anyC w 5, pa, !(w == 0), tx, bl⟩ r W)
    obtain ⟨hb, hhb⟩ : ∃ z, (!(w == 0)) = z := ⟨_, rfl⟩
    have hhb2 : (w != 0) = hb := hhb
    rw [hhb]
    have HA := Lib.hid (show CMid W r ⟨hd, ep, 4, pa, hb, tx, bl⟩ w t ((W.alloc (gotO w t)).setCell ⟨r, 4, none⟩ (.bool hb)) from HM.out.set 4 _ rfl)
    go_enter Tryz.func39, Tryz.ntmps39
    go_wp2_with fail
    refine (HI.out _ 5).mono ?_
    rintro en w1 ⟨rfl, rfl⟩
    have HF := Lib.hid ((HA.out.set 2 (.int .i64 ((anyC w 5 : Nat) : Int)) (v' := ⟨hd, ep, anyC w 5, pa, hb, tx, bl⟩) rfl).end)
    generalize ((anyC w 5 : Nat) : Int) = k at HF ⊢
    go_wp2_with fail
    go_end0
    exact HF.out
  · show Calls _ _ _ _ (CtakeE ⟨hd, ep, 6, pa, has, t, bl⟩ r W)
    go_enter Tryz.func39, Tryz.ntmps39
    go_wp2_with fail
    refine (HC.out _).mono ?_
    rintro en w1 ⟨rfl, hb⟩
    have HA := Lib.hid (HM.out.below hb)
    have HF := Lib.hid (((HA.out.set 5 (.string t) (v' := ⟨hd, ep, 5, pa, has, t, bl⟩) rfl).set 2 (.int .i64 6) (v' := ⟨hd, ep, 6, pa, has, t, bl⟩) rfl).end)
    clear g0 g1 c0 c1 c2 c3 c4 c5 c6 z2 z3 z4 z5 z6 hb
    obtain ⟨c0, c1, c2, c3, c4, c5, c6⟩ := chn_at HA.out.own
    have z5 := chn_free HA.out.own 5
    have z2 := chn_free HA.out.own 2
    go_wp2_with fail
    go_end0
    exact HF.out

/-! ### Result, Passed -/
abbrev valV (h : Bool) (t : ByteArray) (b : Int) : Value := .agg #[.bool h, .string t, .int .u64 b]
abbrev valO (h : Bool) (t : ByteArray) (b : Int) : Obj := .cells #[.bool h, .string t, .int .u64 b] 93 (0, 0)
theorem val_at {X : World} {n : Nat} {h : Bool} {t : ByteArray} {b : Int} (hX : X.heap[n]? = some (valO h t b)) : X.cell? ⟨n, 0, none⟩ = some (.bool h) ∧ X.cell? ⟨n, 1, none⟩ = some (.string t) ∧ X.cell? ⟨n, 2, none⟩ = some (.int .u64 b) :=
  ⟨(cell_of hX).trans rfl, (cell_of hX).trans rfl, (cell_of hX).trans rfl⟩
theorem val_free {X : World} {n : Nat} {h : Bool} {t : ByteArray} {b : Int} (hX : X.heap[n]? = some (valO h t b)) (i : Nat) : X.frozen? ⟨n, i, none⟩ = false := by simp [World.frozen?, hX]
theorem load_val {X : World} {n : Nat} {k : Bool} {t : ByteArray} {b : Int} (h : X.heap[n]? = some (valO k t b)) : (loadVar 93 ⟨n, 0, none⟩).run Tryz.prog X = .ok (valV k t b) X := by
  obtain ⟨m0, m1, m2⟩ := val_at h
  go_simp

set_option maxRecDepth 100000 in
set_option maxHeartbeats 2000000 in
theorem cres_any (W : World) {r : Nat} {v : ChnD} (h : W.heap[r]? = some (chnO v)) (h6 : v.asks = 6) :
    Calls Tryz.prog 40 #[.pointer (some ⟨r, 0, none⟩)] W fun e W' => e = .returned (.tuple #[valV v.has v.text v.block, .bool true]) ∧ Below W.heap.size W W' := by
  have HB := Lib.hid (below_alloc W (valO false ⟨#[]⟩ 0))
  have HN := Lib.hid (World.alloc_heap_new W (valO false ⟨#[]⟩ 0))
  obtain ⟨m0, m1, m2⟩ := val_at HN.out
  have z0 := val_free HN.out 0
  have z1 := val_free HN.out 1
  have z2 := val_free HN.out 2
  obtain ⟨c0, c1, c2, c3, c4, c5, c6⟩ := chn_at ((HB.out.block r (heap_at_lt h)).trans h)
  have hne : W.heap.size ≠ r := by have := heap_at_lt h; omega
  obtain ⟨hd, ep, ak, pa, hs, tx, bl⟩ := v
  simp only at c0 c1 c2 c3 c4 c5 c6 h6
  subst h6
  clear h
  go_enter Tryz.func40, Tryz.ntmps40
  go_wp2_with fail
  refine bodyPost_ret (v := .tuple #[valV hs tx bl, .bool true]) (by rw [results_cell2 (by rfl)]; go_simp) rfl ⟨rfl, ?_⟩
  exact below_alloc _ _

/-! ### New -/
def CnewE (v : ChnD) (W : World) (e : Ending) (W' : World) : Prop := ∃ r, e = .returned (.pointer (some ⟨r, 0, none⟩)) ∧ W.heap.size ≤ r ∧ W'.heap[r]? = some (chnO v) ∧ Below W.heap.size W W'
/-- A chain that is read, at its beginning. -/
def newC (h ep : Int) : ChnD := ⟨h, ep, 1, 0, false, ⟨#[]⟩, 0⟩

set_option maxRecDepth 100000 in
set_option maxHeartbeats 2000000 in
theorem cnew_any (W : World) (a p s q v x sh ep : Int) (hh : 0 ≤ headW a p s q v sh) :
    Calls Tryz.prog 38 #[cfV a p s q v x, .int .i64 sh, .int .u64 ep] W (CnewE (newC (headW a p s q v sh) ep) W) := by
  have HH := Lib.hid (fun X : World => head_any a p s q v x sh X)
  generalize headW a p s q v sh = h at HH hh ⊢
  have X0 := Lib.hid (BoxC.start W a p s q v x)
  obtain ⟨c0, c1, c2, c3, c4, c5⟩ := X0.out.six
  have hn : ¬ h < 0 := by omega
  go_enter Tryz.func38, Tryz.ntmps38
  go_wp2_with fail
  refine (HH.out _).mono ?_
  rintro en w1 ⟨rfl, hb⟩
  have HB := Lib.hid (X0.out.lo.trans (hb.mono X0.out.lo.size))
  clear hb c0 c1 c2 c3 c4 c5
  go_wp2_with fail
  go_ret
  exact ⟨_, rfl, HB.out.size, World.alloc_heap_new w1 (chnO (newC h ep)), HB.out.trans ((below_alloc w1 _).mono HB.out.size)⟩

end Go.Proofs.YtpnfbabiibopnaaGreat
