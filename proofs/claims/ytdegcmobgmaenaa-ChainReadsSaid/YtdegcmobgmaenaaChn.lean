/-
  chain's routine: what it does next, and where it stands behind an answer; its methods.
-/
import Derived.Test.YtdegcmobgmaenaaMrun
import Derived.Test.YtdegcmobgmaenaaClone17
import Derived.Test.YtdegcmobgmaenaaCfg
namespace Go.Proofs.Ytdegcmobgmaenaa
open Go Go.RowKit
attribute [local go_sem ↓] Go.wp_at_zero Go.wp_at_succ

/-- A chain that is read: the shelf's cell, the epoch, what is asked next (1 to 5; 6: nothing more), how many were passed, what was read. -/
structure ChnD where
  head : Int
  ep : Int
  asks : Nat
  passed : Int
  has : Bool
  text : ByteArray
  block : Nat
def ChnD.fits (v : ChnD) : Prop := (-9223372036854775808 ≤ v.head ∧ v.head ≤ 9223372036854775807) ∧ (0 ≤ v.ep ∧ v.ep < 18446744073709551616) ∧ (1 ≤ v.asks ∧ v.asks ≤ 6) ∧ (-9223372036854775808 ≤ v.passed ∧ v.passed ≤ 9223372036854775807) ∧ v.block < 18446744073709551616
def loadC (b : Nat) (c : Int) : ActD := ⟨1, b, c, 0, 0, ⟨#[]⟩⟩
def textC (b : Nat) : ActD := ⟨6, b, 0, 0, 0, ⟨#[]⟩⟩
def nextC (v : ChnD) : Option ActD := match v.asks with
  | 1 => some (loadC 1 v.head)
  | 2 => some (loadC v.block 0)
  | 3 => some (loadC v.block 1)
  | 4 => some (loadC v.block 2)
  | 5 => some (textC v.block)
  | _ => none
def anyC (w : Int) (n : Nat) : Nat := if w = 0 then 6 else n
def takeC (v : ChnD) (w : Int) (t : ByteArray) : ChnD := match v.asks with
  | 1 => ⟨v.head, v.ep, anyC w 2, v.passed, v.has, v.text, w.toNat⟩
  | 2 => ⟨v.head, v.ep, if v.ep < w then 3 else 4, v.passed, v.has, v.text, v.block⟩
  | 3 => ⟨v.head, v.ep, anyC w 2, wrap64 (v.passed + 1), v.has, v.text, w.toNat⟩
  | 4 => ⟨v.head, v.ep, anyC w 5, v.passed, !(w == 0), v.text, v.block⟩
  | 5 => ⟨v.head, v.ep, 6, v.passed, v.has, t, v.block⟩
  | _ => v
theorem loadC_fits {b : Nat} {c : Int} (hb : b < 18446744073709551616) (hc : -9223372036854775808 ≤ c ∧ c ≤ 9223372036854775807) : (loadC b c).fits := by
  have he : (⟨#[]⟩ : ByteArray).size = 0 := rfl
  unfold ActD.fits loadC; simp only; omega
theorem textC_fits {b : Nat} (hb : b < 18446744073709551616) : (textC b).fits := by
  have he : (⟨#[]⟩ : ByteArray).size = 0 := rfl
  unfold ActD.fits textC; simp only; omega
theorem nextC_fits {v : ChnD} {x : ActD} (hv : v.fits) (h : nextC v = some x) : x.fits ∧ (x.kind = 1 ∨ x.kind = 6) := by
  obtain ⟨h1, h2, h3, h4, h5⟩ := hv
  unfold nextC at h
  split at h
  · cases h; exact ⟨loadC_fits (by omega) h1, .inl rfl⟩
  · cases h; exact ⟨loadC_fits h5 (by omega), .inl rfl⟩
  · cases h; exact ⟨loadC_fits h5 (by omega), .inl rfl⟩
  · cases h; exact ⟨loadC_fits h5 (by omega), .inl rfl⟩
  · cases h; exact ⟨textC_fits h5, .inr rfl⟩
  · cases h
theorem wrap_i64_in (a : Int) : -9223372036854775808 ≤ wrap64 a ∧ wrap64 a ≤ 9223372036854775807 := by
  unfold wrap64; omega
theorem anyC_in (w : Int) {n : Nat} (hn : 1 ≤ n ∧ n ≤ 6) : 1 ≤ anyC w n ∧ anyC w n ≤ 6 := by
  unfold anyC; split <;> omega
theorem takeC_fits {v : ChnD} {w : Int} {t : ByteArray} (hv : v.fits) (hw : 0 ≤ w ∧ w < 18446744073709551616) : (takeC v w t).fits := by
  obtain ⟨h1, h2, h3, h4, h5⟩ := hv
  unfold takeC
  split
  · exact ⟨h1, h2, anyC_in w (by omega), h4, by show w.toNat < _; omega⟩
  · exact ⟨h1, h2, by show 1 ≤ (if v.ep < w then 3 else 4) ∧ (if v.ep < w then 3 else 4) ≤ 6; split <;> omega, h4, h5⟩
  · exact ⟨h1, h2, anyC_in w (by omega), wrap_i64_in _, by show w.toNat < _; omega⟩
  · exact ⟨h1, h2, anyC_in w (by omega), h4, h5⟩
  · exact ⟨h1, h2, by show 1 ≤ 6 ∧ 6 ≤ 6; omega, h4, h5⟩
  · exact ⟨h1, h2, h3, h4, h5⟩

/-! ### in memory -/
abbrev chnC (v : ChnD) : Array Value := #[.int .i64 v.head, .int .u64 v.ep, .int .i64 (v.asks : Int), .int .i64 v.passed, .bool v.has, .string v.text, .int .u64 (v.block : Int)]
abbrev chnO (v : ChnD) : Obj := .cells (chnC v) 64 (0, 0)
section
variable {X : World} {r : Nat} {v : ChnD}
theorem chn_at (h : X.heap[r]? = some (chnO v)) :
    X.cell? ⟨r, 0, none⟩ = some (.int .i64 v.head) ∧ X.cell? ⟨r, 1, none⟩ = some (.int .u64 v.ep) ∧ X.cell? ⟨r, 2, none⟩ = some (.int .i64 (v.asks : Int)) ∧ X.cell? ⟨r, 3, none⟩ = some (.int .i64 v.passed) ∧ X.cell? ⟨r, 4, none⟩ = some (.bool v.has) ∧ X.cell? ⟨r, 5, none⟩ = some (.string v.text) ∧ X.cell? ⟨r, 6, none⟩ = some (.int .u64 (v.block : Int)) :=
  ⟨(cell_of h).trans rfl, (cell_of h).trans rfl, (cell_of h).trans rfl, (cell_of h).trans rfl, (cell_of h).trans rfl, (cell_of h).trans rfl, (cell_of h).trans rfl⟩
theorem chn_free (h : X.heap[r]? = some (chnO v)) (i : Nat) : X.frozen? ⟨r, i, none⟩ = false := by simp [World.frozen?, h]
end

/-! ### Act -/
theorem cload_any (W : World) (b : Nat) (c : Int) : Calls Try.prog 26 #[.int .u64 (b : Int), .int .i64 c] W fun e W' => e = .returned (actOf (loadC b c)) ∧ Below W.heap.size W W' := by
  have HN := Lib.hid (World.alloc_heap_new W noO)
  obtain ⟨z0, z1, z2, z3, z4, z5⟩ := six_free HN.out
  obtain ⟨m0, m1, m2, m3, m4, m5⟩ := six_at HN.out
  go_enter Try.func26, Try.ntmps26
  go_wp2_with fail
  refine bodyPost_ret (v := actOf (loadC b c)) (by rw [results_cell1 (by rfl)]; go_simp; exact ⟨rfl, rfl, rfl, rfl, rfl, rfl⟩) rfl ⟨rfl, ?_⟩
  exact below_alloc _ _

def CactE (y : ActD) (q : Bool) (W : World) (e : Ending) (W' : World) : Prop := e = .returned (.tuple #[actOf y, .bool q]) ∧ Below W.heap.size W W'
theorem cact_end {W X : World} {n : Nat} {x : ActD} {is : Bool} {T : Array Value} (h : X.heap[n]? = some (.cells (actCells x) 48 (0, 0))) (hb : Below W.heap.size W X) (h2 : T.getD 2 undef = .pointer (some ⟨n, 0, none⟩)) (h3 : T.getD 3 undef = .bool is) :
    bodyPost Try.prog Try.f15 (CactE x is W) .ret { tmps := T, defers := [] } X :=
  bodyPost_ret (v := .tuple #[actOf x, .bool is]) (by rw [results_cell2 (by rfl), h2, h3]; simp only [asAddr, Sem.run_pure, Result.andThen_ok, load_act h]) rfl ⟨rfl, hb⟩
theorem cact_mid {W w1 : World} (HN : (W.alloc noO).heap[W.heap.size]? = some noO) (hb : Below (W.alloc noO).heap.size (W.alloc noO) w1) :
    w1.heap[W.heap.size]? = some noO ∧ Below W.heap.size W w1 :=
  ⟨(hb.block _ (heap_at_lt HN)).trans HN, (below_alloc W noO).trans (hb.mono (below_alloc W noO).size)⟩

set_option maxRecDepth 100000 in
set_option maxHeartbeats 4000000 in
theorem cact_any (W : World) {r : Nat} {v : ChnD} (h : W.heap[r]? = some (chnO v)) (hv : v.fits) :
    Calls Try.prog 15 #[.pointer (some ⟨r, 0, none⟩)] W (CactE ((nextC v).getD noAct) (nextC v).isSome W) := by
  have HB := Lib.hid (below_alloc W noO)
  have HN := Lib.hid (World.alloc_heap_new W noO)
  obtain ⟨c0, c1, c2, c3, c4, c5, c6⟩ := chn_at ((HB.out.block r (heap_at_lt h)).trans h)
  have hp := hv.2.2.1
  have HL := Lib.hid (fun (X : World) (b : Nat) (c : Int) => cload_any X b c)
  obtain ⟨hd, ep, ak, pa, hs, tx, bl⟩ := v
  simp only at c0 c1 c2 c3 c4 c5 c6 hp
  have hne : W.heap.size ≠ r := by have := heap_at_lt h; omega
  clear h hv
  have h6 : ak = 1 ∨ ak = 2 ∨ ak = 3 ∨ ak = 4 ∨ ak = 5 ∨ ak = 6 := by omega
  clear hp
  rcases h6 with rfl | rfl | rfl | rfl | rfl | rfl
  · show Calls _ _ _ _ (CactE (loadC 1 hd) true W)
    go_enter Try.func15, Try.ntmps15
    go_wp2_with fail
    refine (HL.out _ 1 hd).mono ?_
    rintro en w1 ⟨rfl, hb⟩
    obtain ⟨h1, hb1⟩ := cact_mid HN.out hb
    have HB1 := Lib.hid hb1
    have H1 := Lib.hid h1
    obtain ⟨z0, z1, z2, z3, z4, z5⟩ := six_free h1
    obtain ⟨m0, m1, m2, m3, m4, m5⟩ := six_at h1
    clear hb h1 hb1 c0 c1 c2 c3 c4 c5 c6
    go_wp2_with fail
    exact cact_end (set6 H1.out _ _ _ _ _ _) (below6 HB1.out (Nat.le_refl _) _ _ _ _ _ _) rfl rfl
  · show Calls _ _ _ _ (CactE (loadC bl 0) true W)
    go_enter Try.func15, Try.ntmps15
    go_wp2_with fail
    refine (HL.out _ bl 0).mono ?_
    rintro en w1 ⟨rfl, hb⟩
    obtain ⟨h1, hb1⟩ := cact_mid HN.out hb
    have HB1 := Lib.hid hb1
    have H1 := Lib.hid h1
    obtain ⟨z0, z1, z2, z3, z4, z5⟩ := six_free h1
    obtain ⟨m0, m1, m2, m3, m4, m5⟩ := six_at h1
    clear hb h1 hb1 c0 c1 c2 c3 c4 c5 c6
    go_wp2_with fail
    exact cact_end (set6 H1.out _ _ _ _ _ _) (below6 HB1.out (Nat.le_refl _) _ _ _ _ _ _) rfl rfl
  · show Calls _ _ _ _ (CactE (loadC bl 1) true W)
    go_enter Try.func15, Try.ntmps15
    go_wp2_with fail
    refine (HL.out _ bl 1).mono ?_
    rintro en w1 ⟨rfl, hb⟩
    obtain ⟨h1, hb1⟩ := cact_mid HN.out hb
    have HB1 := Lib.hid hb1
    have H1 := Lib.hid h1
    obtain ⟨z0, z1, z2, z3, z4, z5⟩ := six_free h1
    obtain ⟨m0, m1, m2, m3, m4, m5⟩ := six_at h1
    clear hb h1 hb1 c0 c1 c2 c3 c4 c5 c6
    go_wp2_with fail
    exact cact_end (set6 H1.out _ _ _ _ _ _) (below6 HB1.out (Nat.le_refl _) _ _ _ _ _ _) rfl rfl
  · show Calls _ _ _ _ (CactE (loadC bl 2) true W)
    go_enter Try.func15, Try.ntmps15
    go_wp2_with fail
    refine (HL.out _ bl 2).mono ?_
    rintro en w1 ⟨rfl, hb⟩
    obtain ⟨h1, hb1⟩ := cact_mid HN.out hb
    have HB1 := Lib.hid hb1
    have H1 := Lib.hid h1
    obtain ⟨z0, z1, z2, z3, z4, z5⟩ := six_free h1
    obtain ⟨m0, m1, m2, m3, m4, m5⟩ := six_at h1
    clear hb h1 hb1 c0 c1 c2 c3 c4 c5 c6
    go_wp2_with fail
    exact cact_end (set6 H1.out _ _ _ _ _ _) (below6 HB1.out (Nat.le_refl _) _ _ _ _ _ _) rfl rfl
  · show Calls _ _ _ _ (CactE (textC bl) true W)
    obtain ⟨z0, z1, z2, z3, z4, z5⟩ := six_free HN.out
    obtain ⟨m0, m1, m2, m3, m4, m5⟩ := six_at HN.out
    go_enter Try.func15, Try.ntmps15
    go_wp2_with fail
    refine bodyPost_ret (v := .tuple #[actOf (textC bl), .bool true]) (by rw [results_cell2 (by rfl)]; go_simp; exact ⟨rfl, rfl, rfl, rfl, rfl, rfl⟩) rfl ⟨rfl, ?_⟩
    exact below_alloc _ _
  · show Calls _ _ _ _ (CactE noAct false W)
    obtain ⟨z0, z1, z2, z3, z4, z5⟩ := six_free HN.out
    obtain ⟨m0, m1, m2, m3, m4, m5⟩ := six_at HN.out
    go_enter Try.func15, Try.ntmps15
    go_wp2_with fail
    refine bodyPost_ret (v := .tuple #[actOf noAct, .bool false]) (by rw [results_cell2 (by rfl)]; go_simp; exact ⟨rfl, rfl, rfl, rfl, rfl, rfl⟩) rfl ⟨rfl, ?_⟩
    exact HB.out
set_option maxRecDepth 100000 in
set_option maxHeartbeats 800000 in
/-- No routine. -/
theorem cact_nil (W : World) : Calls Try.prog 15 #[.pointer none] W (CactE noAct false W) := by
  have HB := Lib.hid (below_alloc W noO)
  have HN := Lib.hid (World.alloc_heap_new W noO)
  obtain ⟨z0, z1, z2, z3, z4, z5⟩ := six_free HN.out
  obtain ⟨m0, m1, m2, m3, m4, m5⟩ := six_at HN.out
  go_enter Try.func15, Try.ntmps15
  go_wp2_with fail
  refine bodyPost_ret (v := .tuple #[actOf noAct, .bool false]) (by rw [results_cell2 (by rfl)]; go_simp; exact ⟨rfl, rfl, rfl, rfl, rfl, rfl⟩) rfl ⟨rfl, ?_⟩
  exact HB.out

end Go.Proofs.Ytdegcmobgmaenaa
