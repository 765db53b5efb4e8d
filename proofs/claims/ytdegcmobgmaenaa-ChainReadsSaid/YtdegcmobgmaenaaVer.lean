/-
  shelf's routine: what it does next, and where it stands behind an answer; its methods.
-/
import Derived.Test.YtdegcmobgmaenaaMalone
import Derived.Test.YtdegcmobgmaenaaClone17
namespace Go.Proofs.Ytdegcmobgmaenaa
open Go Go.RowKit
attribute [local go_sem ↓] Go.wp_at_zero Go.wp_at_succ

/-- A version that is made: what it will have, where the routine stands, the block. -/
structure VerD where
  epoch : Int
  next : Int
  has : Bool
  text : ByteArray
  place : Nat
  block : Nat
def VerD.fits (v : VerD) : Prop := (0 ≤ v.epoch ∧ v.epoch < 18446744073709551616) ∧ (0 ≤ v.next ∧ v.next < 18446744073709551616) ∧ v.text.size ≤ 281474976710656 ∧ (1 ≤ v.place ∧ v.place ≤ 5) ∧ v.block < 18446744073709551616
def storeV (b : Nat) (c w : Int) : Option ActD := if b = 0 then none else some ⟨2, b, c, 0, w, ⟨#[]⟩⟩
/-- What is to be done at a place. -/
def todoV (v : VerD) : Nat → Option ActD
  | 1 => some ⟨5, 0, 3, 0, 0, v.text⟩
  | 2 => storeV v.block 0 v.epoch
  | 3 => if v.next = 0 then none else storeV v.block 1 v.next
  | 4 => if v.has then storeV v.block 2 1 else none
  | _ => none
def nextV (v : VerD) : Option ActD := todoV v v.place
/-- The first place from a on where there is something to be done. -/
def firstV (v : VerD) (a : Nat) : Nat :=
  if a ≤ 2 ∧ (todoV v 2).isSome then 2 else if a ≤ 3 ∧ (todoV v 3).isSome then 3 else if a ≤ 4 ∧ (todoV v 4).isSome then 4 else 5
def VerD.to (v : VerD) (a : Nat) : VerD := ⟨v.epoch, v.next, v.has, v.text, a, v.block⟩
def VerD.of (v : VerD) (b : Nat) : VerD := ⟨v.epoch, v.next, v.has, v.text, v.place, b⟩
def takeV (v : VerD) (w : Int) (_ : ByteArray) : VerD :=
  let v1 := if v.place = 1 then v.of w.toNat else v
  v1.to (firstV v1 (v.place + 1))
theorem storeV_kind {b : Nat} {c w : Int} {x : ActD} (h : storeV b c w = some x) : x = ⟨2, b, c, 0, w, ⟨#[]⟩⟩ ∧ b ≠ 0 := by
  unfold storeV at h
  split at h
  · cases h
  · exact ⟨(Option.some.inj h).symm, by assumption⟩
theorem todoV_kind {v : VerD} {a : Nat} {x : ActD} (h : todoV v a = some x) : x.kind = 5 ∨ x.kind = 2 := by
  unfold todoV at h
  split at h
  · cases h; exact .inl rfl
  · obtain ⟨rfl, _⟩ := storeV_kind h; exact .inr rfl
  · split at h
    · cases h
    · obtain ⟨rfl, _⟩ := storeV_kind h; exact .inr rfl
  · split at h
    · obtain ⟨rfl, _⟩ := storeV_kind h; exact .inr rfl
    · cases h
  · cases h
theorem todoV_fits {v : VerD} {a : Nat} {x : ActD} (hv : v.fits) (h : todoV v a = some x) : x.fits := by
  obtain ⟨h1, h2, h3, h4, h5⟩ := hv
  have he : (⟨#[]⟩ : ByteArray).size = 0 := rfl
  unfold todoV at h
  split at h
  · cases h; unfold ActD.fits; simp only; omega
  · obtain ⟨rfl, _⟩ := storeV_kind h; unfold ActD.fits; simp only; omega
  · split at h
    · cases h
    · obtain ⟨rfl, _⟩ := storeV_kind h; unfold ActD.fits; simp only; omega
  · split at h
    · obtain ⟨rfl, _⟩ := storeV_kind h; unfold ActD.fits; simp only; omega
    · cases h
  · cases h
theorem firstV_le (v : VerD) {a : Nat} (ha : 2 ≤ a) (ha5 : a ≤ 5) : a ≤ firstV v a ∧ firstV v a ≤ 5 := by
  unfold firstV
  split
  · omega
  split
  · omega
  split <;> omega
theorem firstV_at {v : VerD} {a : Nat} (ha : 2 ≤ a) (h : (todoV v a).isSome = true) : firstV v a = a := by
  unfold firstV
  have h5 : a = 2 ∨ a = 3 ∨ a = 4 := by
    rcases Nat.lt_or_ge a 5 with h5 | h5
    · omega
    · unfold todoV at h; split at h <;> first | omega | cases h
  rcases h5 with rfl | rfl | rfl <;> simp [h]
theorem firstV_on {v : VerD} {a : Nat} (ha : 2 ≤ a) (ha5 : a < 5) (h : todoV v a = none) : firstV v a = firstV v (a + 1) := by
  have h5 : a = 2 ∨ a = 3 ∨ a = 4 := by omega
  unfold firstV
  rcases h5 with rfl | rfl | rfl <;> simp [h]
theorem takeV_fits {v : VerD} {w : Int} {t : ByteArray} (hv : v.fits) (hw : 0 ≤ w ∧ w < 18446744073709551616) : (takeV v w t).fits := by
  obtain ⟨h1, h2, h3, h4, h5⟩ := hv
  unfold takeV
  rcases Nat.lt_or_ge v.place 5 with hlt | hge
  · have := firstV_le (if v.place = 1 then v.of w.toNat else v) (a := v.place + 1) (by omega) (by omega)
    by_cases hp : v.place = 1
    · rw [if_pos hp] at this ⊢; exact ⟨h1, h2, h3, ⟨by simp only [VerD.to]; omega, by simp only [VerD.to]; omega⟩, by simp only [VerD.to, VerD.of]; omega⟩
    · rw [if_neg hp] at this ⊢; exact ⟨h1, h2, h3, ⟨by simp only [VerD.to]; omega, by simp only [VerD.to]; omega⟩, h5⟩
  · have e : v.place = 5 := by omega
    rw [if_neg (by omega), e]
    exact ⟨h1, h2, h3, ⟨by simp [VerD.to, firstV], by simp [VerD.to, firstV]⟩, h5⟩

/-! ### in memory -/
abbrev verO (v : VerD) : Obj := .cells #[.int .u64 v.epoch, .int .u64 v.next, .bool v.has, .string v.text, .int .i64 (v.place : Int), .int .u64 (v.block : Int)] 83 (0, 0)
structure VerAt (W : World) (B r : Nat) (v : VerD) (f : Nat → Prop) : Prop where
  own : W.heap[r]? = some (verO v)
  foot : f = fun k => k = r
  base : B ≤ r
  fits : v.fits
section
variable {W W' : World} {B r : Nat} {v : VerD} {f : Nat → Prop}
theorem VerAt.stays (h : VerAt W B r v f) (hs : ∀ k, f k → W'.heap[k]? = W.heap[k]?) : VerAt W' B r v f := ⟨(hs r (by rw [h.foot])).trans h.own, h.foot, h.base, h.fits⟩
theorem VerAt.lt (h : VerAt W B r v f) : ∀ k, f k → k < W.heap.size := fun k hk => by
  rw [h.foot] at hk; subst hk; exact heap_at_lt h.own
theorem VerAt.cells (h : VerAt W B r v f) : W.cell? ⟨r, 0, none⟩ = some (.int .u64 v.epoch) ∧ W.cell? ⟨r, 1, none⟩ = some (.int .u64 v.next) ∧ W.cell? ⟨r, 2, none⟩ = some (.bool v.has) ∧ W.cell? ⟨r, 3, none⟩ = some (.string v.text) ∧ W.cell? ⟨r, 4, none⟩ = some (.int .i64 (v.place : Int)) ∧ W.cell? ⟨r, 5, none⟩ = some (.int .u64 (v.block : Int)) :=
  six_at h.own
theorem VerAt.free (h : VerAt W B r v f) : W.frozen? ⟨r, 0, none⟩ = false ∧ W.frozen? ⟨r, 1, none⟩ = false ∧ W.frozen? ⟨r, 2, none⟩ = false ∧ W.frozen? ⟨r, 3, none⟩ = false ∧ W.frozen? ⟨r, 4, none⟩ = false ∧ W.frozen? ⟨r, 5, none⟩ = false := six_free h.own
theorem VerAt.below (h : VerAt W B r v f) (hb : Below W.heap.size W W') : VerAt W' B r v f := h.stays (fun k hk => hb.block k (h.lt k hk))
theorem VerAt.setPlace (h : VerAt W B r v f) (a : Nat) (ha : 1 ≤ a ∧ a ≤ 5) : VerAt (W.setCell ⟨r, 4, none⟩ (.int .i64 (a : Int))) B r (v.to a) f ∧ Step f f W (W.setCell ⟨r, 4, none⟩ (.int .i64 (a : Int))) :=
  ⟨⟨(heap_setAt h.own).trans rfl, h.foot, h.base, ⟨h.fits.1, h.fits.2.1, h.fits.2.2.1, ha, h.fits.2.2.2.2⟩⟩, Step.setCell _ (by rw [h.foot])⟩
theorem VerAt.setBlock (h : VerAt W B r v f) (b : Nat) (hb : b < 18446744073709551616) : VerAt (W.setCell ⟨r, 5, none⟩ (.int .u64 (b : Int))) B r (v.of b) f ∧ Step f f W (W.setCell ⟨r, 5, none⟩ (.int .u64 (b : Int))) :=
  ⟨⟨(heap_setAt h.own).trans rfl, h.foot, h.base, ⟨h.fits.1, h.fits.2.1, h.fits.2.2.1, h.fits.2.2.2.1, hb⟩⟩, Step.setCell _ (by rw [h.foot])⟩
end

/-! ### its methods -/
def actE (x : Option ActD) (W : World) (e : Ending) (W' : World) : Prop := e = .returned (actOf (x.getD noAct)) ∧ Below W.heap.size W W'

set_option maxRecDepth 100000 in
set_option maxHeartbeats 2000000 in
theorem store_is {B r : Nat} {v : VerD} {f : Nat → Prop} (W : World) (h : VerAt W B r v f) (c w : Int) : Calls Try.prog 71 #[.pointer (some ⟨r, 0, none⟩), .int .i64 c, .int .u64 w] W (actE (storeV v.block c w) W) := by
  obtain ⟨-, -, -, -, -, c5⟩ := h.cells
  have hlt := heap_at_lt h.own
  have HC := Lib.hid (fun X (hX : Below W.heap.size W X) => (hX.cell (p := ⟨r, 5, none⟩) hlt).trans c5)
  have HB := Lib.hid (below_alloc W noO)
  have HN := Lib.hid (World.alloc_heap_new W noO)
  obtain ⟨b, hb⟩ : ∃ b, v.block = b := ⟨_, rfl⟩
  rw [hb] at HC c5 ⊢
  clear h hlt hb
  by_cases h0 : b = 0
  · subst h0
    have e1 : storeV 0 c w = none := rfl
    rw [e1]
    have c6 := HC.out _ HB.out
    obtain ⟨z0, z1, z2, z3, z4, z5⟩ := six_free HN.out
    obtain ⟨m0, m1, m2, m3, m4, m5⟩ := six_at HN.out
    go_enter Try.func71, Try.ntmps71
    go_wp2_with fail
    refine bodyPost_ret (v := zeroV) (by rw [results_cell1 (by rfl)]; go_simp) rfl ⟨rfl, ?_⟩
    exact HB.out
  · have e1 : storeV b c w = some ⟨2, b, c, 0, w, ⟨#[]⟩⟩ := by unfold storeV; rw [if_neg h0]
    rw [e1]
    have hb0 : ((b : Int) == 0) = false := by simp; omega
    have c6 := HC.out _ HB.out
    obtain ⟨z0, z1, z2, z3, z4, z5⟩ := six_free HN.out
    obtain ⟨m0, m1, m2, m3, m4, m5⟩ := six_at HN.out
    clear h0
    go_enter Try.func71, Try.ntmps71
    go_wp2_with fail
    refine bodyPost_ret (v := actOf ⟨2, b, c, 0, w, ⟨#[]⟩⟩) (by rw [results_cell1 (by rfl)]; go_simp) rfl ⟨rfl, ?_⟩
    exact below_alloc _ _

theorem todo_end {W X : World} {n : Nat} {x : ActD} {o : Option ActD} {T : Array Value} (h : X.heap[n]? = some (.cells (actCells x) 48 (0, 0))) (hb : Below W.heap.size W X) (h2 : T.getD 2 undef = .pointer (some ⟨n, 0, none⟩)) (ho : o.getD noAct = x) :
    bodyPost Try.prog Try.f70 (actE o W) .ret { tmps := T, defers := [] } X :=
  bodyPost_ret (v := actOf x) (by rw [results_cell1 (by rfl), h2]; simp only [asAddr, Sem.run_pure, Result.andThen_ok, load_act h]) rfl ⟨by rw [ho], hb⟩
/-- The three ways on from a store. -/
theorem todo_mid {W w1 : World} (HN : (W.alloc noO).heap[W.heap.size]? = some noO) (hb : Below (W.alloc noO).heap.size (W.alloc noO) w1) :
    w1.heap[W.heap.size]? = some noO ∧ Below W.heap.size W w1 :=
  ⟨(hb.block _ (heap_at_lt HN)).trans HN, (below_alloc W noO).trans (hb.mono (below_alloc W noO).size)⟩

set_option maxRecDepth 100000 in
set_option maxHeartbeats 4000000 in
theorem todo_is {B r : Nat} {v : VerD} {f : Nat → Prop} (W : World) (h : VerAt W B r v f) : Calls Try.prog 70 #[.pointer (some ⟨r, 0, none⟩)] W (actE (nextV v) W) := by
  have HB := Lib.hid (below_alloc W noO)
  have HN := Lib.hid (World.alloc_heap_new W noO)
  have HV := Lib.hid (h.below HB.out)
  have HS := Lib.hid (fun X (hX : Below W.heap.size W X) (c w : Int) => store_is X (h.below hX) c w)
  have hp := h.fits.2.2.2.1
  obtain ⟨c0, c1, c2, c3, c4, c5⟩ := HV.out.cells
  obtain ⟨ep, nx, hs, tx, pl, bl⟩ := v
  simp only at c0 c1 c2 c3 c4 c5 HS hp
  unfold nextV
  clear h HV
  have h5 : pl = 1 ∨ pl = 2 ∨ pl = 3 ∨ pl = 4 ∨ pl = 5 := by omega
  clear hp
  rcases h5 with rfl | rfl | rfl | rfl | rfl
  · obtain ⟨z0, z1, z2, z3, z4, z5⟩ := six_free HN.out
    obtain ⟨m0, m1, m2, m3, m4, m5⟩ := six_at HN.out
    show Calls _ _ _ _ (actE (some ⟨5, 0, 3, 0, 0, tx⟩) W)
    go_enter Try.func70, Try.ntmps70
    go_wp2_with fail
    refine bodyPost_ret (v := actOf ⟨5, 0, 3, 0, 0, tx⟩) (by rw [results_cell1 (by rfl)]; go_simp) rfl ⟨rfl, ?_⟩
    exact below_alloc _ _
  · show Calls _ _ _ _ (actE (storeV bl 0 ep) W)
    obtain ⟨y, hy⟩ : ∃ y, (storeV bl 0 ep).getD noAct = y := ⟨_, rfl⟩
    have HY := Lib.hid hy
    go_enter Try.func70, Try.ntmps70
    go_wp2_with fail
    refine (HS.out _ HB.out _ _).mono ?_
    rintro en w1 ⟨rfl, hb⟩
    rw [hy]
    obtain ⟨h1, hb1⟩ := todo_mid HN.out hb
    have HB1 := Lib.hid hb1
    have H1 := Lib.hid h1
    obtain ⟨z0, z1, z2, z3, z4, z5⟩ := six_free h1
    obtain ⟨m0, m1, m2, m3, m4, m5⟩ := six_at h1
    clear hb h1 hb1 hy c0 c1 c2 c3 c4 c5
    go_wp2_with fail
    exact todo_end (set6 H1.out _ _ _ _ _ _) (below6 HB1.out (Nat.le_refl _) _ _ _ _ _ _) rfl HY.out
  · by_cases hn : nx = 0
    · subst hn
      show Calls _ _ _ _ (actE none W)
      go_enter Try.func70, Try.ntmps70
      obtain ⟨z0, z1, z2, z3, z4, z5⟩ := six_free HN.out
      obtain ⟨m0, m1, m2, m3, m4, m5⟩ := six_at HN.out
      go_wp2_with fail
      refine bodyPost_ret (v := zeroV) (by rw [results_cell1 (by rfl)]; go_simp) rfl ⟨rfl, ?_⟩
      exact below_alloc _ _
    · have hn0 : (nx == 0) = false := by simpa using hn
      have e1 : todoV ⟨ep, nx, hs, tx, 3, bl⟩ 3 = storeV bl 1 nx := by unfold todoV; simp only; rw [if_neg hn]
      rw [e1]
      clear hn e1
      obtain ⟨y, hy⟩ : ∃ y, (storeV bl 1 nx).getD noAct = y := ⟨_, rfl⟩
      have HY := Lib.hid hy
      go_enter Try.func70, Try.ntmps70
      go_wp2_with fail
      refine (HS.out _ HB.out _ _).mono ?_
      rintro en w1 ⟨rfl, hb⟩
      rw [hy]
      obtain ⟨h1, hb1⟩ := todo_mid HN.out hb
      have HB1 := Lib.hid hb1
      have H1 := Lib.hid h1
      obtain ⟨z0, z1, z2, z3, z4, z5⟩ := six_free h1
      obtain ⟨m0, m1, m2, m3, m4, m5⟩ := six_at h1
      clear hb h1 hb1 hy c0 c1 c2 c3 c4 c5
      go_wp2_with fail
      exact todo_end (set6 H1.out _ _ _ _ _ _) (below6 HB1.out (Nat.le_refl _) _ _ _ _ _ _) rfl HY.out
  · cases hs with
    | false =>
      show Calls _ _ _ _ (actE none W)
      go_enter Try.func70, Try.ntmps70
      obtain ⟨z0, z1, z2, z3, z4, z5⟩ := six_free HN.out
      obtain ⟨m0, m1, m2, m3, m4, m5⟩ := six_at HN.out
      go_wp2_with fail
      refine bodyPost_ret (v := zeroV) (by rw [results_cell1 (by rfl)]; go_simp) rfl ⟨rfl, ?_⟩
      exact below_alloc _ _
    | true =>
      show Calls _ _ _ _ (actE (storeV bl 2 1) W)
      obtain ⟨y, hy⟩ : ∃ y, (storeV bl 2 1).getD noAct = y := ⟨_, rfl⟩
      have HY := Lib.hid hy
      go_enter Try.func70, Try.ntmps70
      go_wp2_with fail
      refine (HS.out _ HB.out _ _).mono ?_
      rintro en w1 ⟨rfl, hb⟩
      rw [hy]
      obtain ⟨h1, hb1⟩ := todo_mid HN.out hb
      have HB1 := Lib.hid hb1
      have H1 := Lib.hid h1
      obtain ⟨z0, z1, z2, z3, z4, z5⟩ := six_free h1
      obtain ⟨m0, m1, m2, m3, m4, m5⟩ := six_at h1
      clear hb h1 hb1 hy c0 c1 c2 c3 c4 c5
      go_wp2_with fail
      exact todo_end (set6 H1.out _ _ _ _ _ _) (below6 HB1.out (Nat.le_refl _) _ _ _ _ _ _) rfl HY.out
  · show Calls _ _ _ _ (actE none W)
    go_enter Try.func70, Try.ntmps70
    obtain ⟨z0, z1, z2, z3, z4, z5⟩ := six_free HN.out
    obtain ⟨m0, m1, m2, m3, m4, m5⟩ := six_at HN.out
    go_wp2_with fail
    refine bodyPost_ret (v := zeroV) (by rw [results_cell1 (by rfl)]; go_simp) rfl ⟨rfl, ?_⟩
    exact below_alloc _ _

end Go.Proofs.Ytdegcmobgmaenaa
