/-
  Ver, Ver2, Verm, Cmath, in one text.
-/
import Derived.Test.YtpnfbabiibopnaaQ06
import Derived.Test.YtpnfbabiibopnaaQ03
import Derived.Test.YtpnfbabiibopnaaQ09
/-! shelf's routine: what it does next, and where it stands behind an answer; its methods. -/
namespace Go.Proofs.Ytpnfbabiibopnaa
open Go Go.RowKit
attribute [local go_sem ↓] Go.wp_at_zero Go.wp_at_succ

/-- A version that is made: what it will have, where the routine stands, the block. -/
structure VerD where
  epoch : Int
  next : Int
  has : Bool
  text : ByteArray
  place : Nat
  block : Nat
def VerD.fits (v : VerD) : Prop := (0 ≤ v.epoch ∧ v.epoch < 18446744073709551616) ∧ (0 ≤ v.next ∧ v.next < 18446744073709551616) ∧ v.text.size ≤ 281474976710656 ∧ (1 ≤ v.place ∧ v.place ≤ 5) ∧ v.block < 18446744073709551616
def storeV (b : Nat) (c w : Int) : Option ActD := if b = 0 then none else some ⟨2, b, c, 0, w, ⟨#[]⟩⟩
/-- What is to be done at a place. -/
def todoV (v : VerD) : Nat → Option ActD
  | 1 => some ⟨5, 0, 3, 0, 0, v.text⟩
  | 2 => storeV v.block 0 v.epoch
  | 3 => if v.next = 0 then none else storeV v.block 1 v.next
  | 4 => if v.has then storeV v.block 2 1 else none
  | _ => none
def nextV (v : VerD) : Option ActD := todoV v v.place
/-- The first place from a on where there is something to be done. -/
def firstV (v : VerD) (a : Nat) : Nat :=
  if a ≤ 2 ∧ (todoV v 2).isSome then 2 else if a ≤ 3 ∧ (todoV v 3).isSome then 3 else if a ≤ 4 ∧ (todoV v 4).isSome then 4 else 5
def VerD.to (v : VerD) (a : Nat) : VerD := ⟨v.epoch, v.next, v.has, v.text, a, v.block⟩
def VerD.of (v : VerD) (b : Nat) : VerD := ⟨v.epoch, v.next, v.has, v.text, v.place, b⟩
def takeV (v : VerD) (w : Int) (_ : ByteArray) : VerD :=
  let v1 := if v.place = 1 then v.of w.toNat else v
  v1.to (firstV v1 (v.place + 1))
theorem storeV_kind {b : Nat} {c w : Int} {x : ActD} (h : storeV b c w = some x) : x = ⟨2, b, c, 0, w, ⟨#[]⟩⟩ ∧ b ≠ 0 := by
  unfold storeV at h
  split at h
  · cases h
  · exact ⟨(Option.some.inj h).symm, by assumption⟩
theorem todoV_kind {v : VerD} {a : Nat} {x : ActD} (h : todoV v a = some x) : x.kind = 5 ∨ x.kind = 2 := by
  unfold todoV at h
  split at h
  · cases h; exact .inl rfl
  · obtain ⟨rfl, _⟩ := storeV_kind h; exact .inr rfl
  · split at h
    · cases h
    · obtain ⟨rfl, _⟩ := storeV_kind h; exact .inr rfl
  · split at h
    · obtain ⟨rfl, _⟩ := storeV_kind h; exact .inr rfl
    · cases h
  · cases h
theorem todoV_fits {v : VerD} {a : Nat} {x : ActD} (hv : v.fits) (h : todoV v a = some x) : x.fits := by
  obtain ⟨h1, h2, h3, h4, h5⟩ := hv
  have he : (⟨#[]⟩ : ByteArray).size = 0 := rfl
  unfold todoV at h
  split at h
  · cases h; unfold ActD.fits; simp only; omega
  · obtain ⟨rfl, _⟩ := storeV_kind h; unfold ActD.fits; simp only; omega
  · split at h
    · cases h
    · obtain ⟨rfl, _⟩ := storeV_kind h; unfold ActD.fits; simp only; omega
  · split at h
    · obtain ⟨rfl, _⟩ := storeV_kind h; unfold ActD.fits; simp only; omega
    · cases h
  · cases h
theorem firstV_le (v : VerD) {a : Nat} (ha : 2 ≤ a) (ha5 : a ≤ 5) : a ≤ firstV v a ∧ firstV v a ≤ 5 := by
  unfold firstV
  split
  · omega
  split
  · omega
  split <;> omega
theorem firstV_at {v : VerD} {a : Nat} (ha : 2 ≤ a) (h : (todoV v a).isSome = true) : firstV v a = a := by
  unfold firstV
  have h5 : a = 2 ∨ a = 3 ∨ a = 4 := by
    rcases Nat.lt_or_ge a 5 with h5 | h5
    · omega
    · unfold todoV at h; split at h <;> first | omega | cases h
  rcases h5 with rfl | rfl | rfl <;> simp [h]
theorem firstV_on {v : VerD} {a : Nat} (ha : 2 ≤ a) (ha5 : a < 5) (h : todoV v a = none) : firstV v a = firstV v (a + 1) := by
  have h5 : a = 2 ∨ a = 3 ∨ a = 4 := by omega
  unfold firstV
  rcases h5 with rfl | rfl | rfl <;> simp [h]
theorem takeV_fits {v : VerD} {w : Int} {t : ByteArray} (hv : v.fits) (hw : 0 ≤ w ∧ w < 18446744073709551616) : (takeV v w t).fits := by
  obtain ⟨h1, h2, h3, h4, h5⟩ := hv
  unfold takeV
  rcases Nat.lt_or_ge v.place 5 with hlt | hge
  · have := firstV_le (if v.place = 1 then v.of w.toNat else v) (a := v.place + 1) (by omega) (by omega)
    by_cases hp : v.place = 1
    · rw [if_pos hp] at this ⊢; exact ⟨h1, h2, h3, ⟨by simp only [VerD.to]; omega, by simp only [VerD.to]; omega⟩, by simp only [VerD.to, VerD.of]; omega⟩
    · rw [if_neg hp] at this ⊢; exact ⟨h1, h2, h3, ⟨by simp only [VerD.to]; omega, by simp only [VerD.to]; omega⟩, h5⟩
  · have e : v.place = 5 := by omega
    rw [if_neg (by omega), e]
    exact ⟨h1, h2, h3, ⟨by simp [VerD.to, firstV], by simp [VerD.to, firstV]⟩, h5⟩

/-! ### in memory -/
abbrev verO (v : VerD) : Obj := .cells #[.int .u64 v.epoch, .int .u64 v.next, .bool v.has, .string v.text, .int .i64 (v.place : Int), .int .u64 (v.block : Int)] 143 (0, 0)
structure VerAt (W : World) (B r : Nat) (v : VerD) (f : Nat → Prop) : Prop where
  own : W.heap[r]? = some (verO v)
  foot : f = fun k => k = r
  base : B ≤ r
  fits : v.fits
section
variable {W W' : World} {B r : Nat} {v : VerD} {f : Nat → Prop}
theorem VerAt.stays (h : VerAt W B r v f) (hs : ∀ k, f k → W'.heap[k]? = W.heap[k]?) : VerAt W' B r v f := ⟨(hs r (by rw [h.foot])).trans h.own, h.foot, h.base, h.fits⟩
theorem VerAt.lt (h : VerAt W B r v f) : ∀ k, f k → k < W.heap.size := fun k hk => by
  rw [h.foot] at hk; subst hk; exact heap_at_lt h.own
theorem VerAt.cells (h : VerAt W B r v f) : W.cell? ⟨r, 0, none⟩ = some (.int .u64 v.epoch) ∧ W.cell? ⟨r, 1, none⟩ = some (.int .u64 v.next) ∧ W.cell? ⟨r, 2, none⟩ = some (.bool v.has) ∧ W.cell? ⟨r, 3, none⟩ = some (.string v.text) ∧ W.cell? ⟨r, 4, none⟩ = some (.int .i64 (v.place : Int)) ∧ W.cell? ⟨r, 5, none⟩ = some (.int .u64 (v.block : Int)) :=
  six_at h.own
theorem VerAt.free (h : VerAt W B r v f) : W.frozen? ⟨r, 0, none⟩ = false ∧ W.frozen? ⟨r, 1, none⟩ = false ∧ W.frozen? ⟨r, 2, none⟩ = false ∧ W.frozen? ⟨r, 3, none⟩ = false ∧ W.frozen? ⟨r, 4, none⟩ = false ∧ W.frozen? ⟨r, 5, none⟩ = false := six_free h.own
theorem VerAt.below (h : VerAt W B r v f) (hb : Below W.heap.size W W') : VerAt W' B r v f := h.stays (fun k hk => hb.block k (h.lt k hk))
theorem VerAt.setPlace (h : VerAt W B r v f) (a : Nat) (ha : 1 ≤ a ∧ a ≤ 5) : VerAt (W.setCell ⟨r, 4, none⟩ (.int .i64 (a : Int))) B r (v.to a) f ∧ Step f f W (W.setCell ⟨r, 4, none⟩ (.int .i64 (a : Int))) :=
  ⟨⟨(heap_setAt h.own).trans rfl, h.foot, h.base, ⟨h.fits.1, h.fits.2.1, h.fits.2.2.1, ha, h.fits.2.2.2.2⟩⟩, Step.setCell _ (by rw [h.foot])⟩
theorem VerAt.setBlock (h : VerAt W B r v f) (b : Nat) (hb : b < 18446744073709551616) : VerAt (W.setCell ⟨r, 5, none⟩ (.int .u64 (b : Int))) B r (v.of b) f ∧ Step f f W (W.setCell ⟨r, 5, none⟩ (.int .u64 (b : Int))) :=
  ⟨⟨(heap_setAt h.own).trans rfl, h.foot, h.base, ⟨h.fits.1, h.fits.2.1, h.fits.2.2.1, h.fits.2.2.2.1, hb⟩⟩, Step.setCell _ (by rw [h.foot])⟩
end

/-! ### its methods -/
def actE (x : Option ActD) (W : World) (e : Ending) (W' : World) : Prop := e = .returned (actOf (x.getD noAct)) ∧ Below W.heap.size W W'

set_option maxRecDepth 100000 in
set_option maxHeartbeats 2000000 in
theorem store_is {B r : Nat} {v : VerD} {f : Nat → Prop} (W : World) (h : VerAt W B r v f) (c w : Int) : Calls Try.prog 105 #[.pointer (some ⟨r, 0, none⟩), .int .i64 c, .int .u64 w] W (actE (storeV v.block c w) W) := by
  obtain ⟨-, -, -, -, -, c5⟩ := h.cells
  have hlt := heap_at_lt h.own
  have HC := Lib.hid (fun X (hX : Below W.heap.size W X) => (hX.cell (p := ⟨r, 5, none⟩) hlt).trans c5)
  have HB := Lib.hid (below_alloc W noO)
  have HN := Lib.hid (World.alloc_heap_new W noO)
  obtain ⟨b, hb⟩ : ∃ b, v.block = b := ⟨_, rfl⟩
  rw [hb] at HC c5 ⊢
  clear h hlt hb
  by_cases h0 : b = 0
  · subst h0
    have e1 : storeV 0 c w = none := rfl
    rw [e1]
    have c6 := HC.out _ HB.out
    obtain ⟨z0, z1, z2, z3, z4, z5⟩ := six_free HN.out
    obtain ⟨m0, m1, m2, m3, m4, m5⟩ := six_at HN.out
    go_enter Try.func105, Try.ntmps105
    go_wp2_with fail
    refine bodyPost_ret (v := zeroV) (by rw [results_cell1 (by rfl)]; go_simp) rfl ⟨rfl, ?_⟩
    exact HB.out
  · have e1 : storeV b c w = some ⟨2, b, c, 0, w, ⟨#[]⟩⟩ := by unfold storeV; rw [if_neg h0]
    rw [e1]
    have hb0 : ((b : Int) == 0) = false := by simp; omega
    have c6 := HC.out _ HB.out
    obtain ⟨z0, z1, z2, z3, z4, z5⟩ := six_free HN.out
    obtain ⟨m0, m1, m2, m3, m4, m5⟩ := six_at HN.out
    clear h0
    go_enter Try.func105, Try.ntmps105
    go_wp2_with fail
    refine bodyPost_ret (v := actOf ⟨2, b, c, 0, w, ⟨#[]⟩⟩) (by rw [results_cell1 (by rfl)]; go_simp) rfl ⟨rfl, ?_⟩
    exact below_alloc _ _

theorem todo_end {W X : World} {n : Nat} {x : ActD} {o : Option ActD} {T : Array Value} (h : X.heap[n]? = some (.cells (actCells x) 59 (0, 0))) (hb : Below W.heap.size W X) (h2 : T.getD 2 undef = .pointer (some ⟨n, 0, none⟩)) (ho : o.getD noAct = x) :
    bodyPost Try.prog Try.f104 (actE o W) .ret { tmps := T, defers := [] } X :=
  bodyPost_ret (v := actOf x) (by rw [results_cell1 (by rfl), h2]; simp only [asAddr, Sem.run_pure, Result.andThen_ok, load_act h]) rfl ⟨by rw [ho], hb⟩
/-- The three ways on from a store. -/
theorem todo_mid {W w1 : World} (HN : (W.alloc noO).heap[W.heap.size]? = some noO) (hb : Below (W.alloc noO).heap.size (W.alloc noO) w1) :
    w1.heap[W.heap.size]? = some noO ∧ Below W.heap.size W w1 :=
  ⟨(hb.block _ (heap_at_lt HN)).trans HN, (below_alloc W noO).trans (hb.mono (below_alloc W noO).size)⟩

set_option maxRecDepth 100000 in
set_option maxHeartbeats 4000000 in
theorem todo_is {B r : Nat} {v : VerD} {f : Nat → Prop} (W : World) (h : VerAt W B r v f) : Calls Try.prog 104 #[.pointer (some ⟨r, 0, none⟩)] W (actE (nextV v) W) := by
  have HB := Lib.hid (below_alloc W noO)
  have HN := Lib.hid (World.alloc_heap_new W noO)
  have HV := Lib.hid (h.below HB.out)
  have HS := Lib.hid (fun X (hX : Below W.heap.size W X) (c w : Int) => store_is X (h.below hX) c w)
  have hp := h.fits.2.2.2.1
  obtain ⟨c0, c1, c2, c3, c4, c5⟩ := HV.out.cells
  obtain ⟨ep, nx, hs, tx, pl, bl⟩ := v
  simp only at c0 c1 c2 c3 c4 c5 HS hp
  unfold nextV
  clear h HV
  have h5 : pl = 1 ∨ pl = 2 ∨ pl = 3 ∨ pl = 4 ∨ pl = 5 := by omega
  clear hp
  rcases h5 with rfl | rfl | rfl | rfl | rfl
  · obtain ⟨z0, z1, z2, z3, z4, z5⟩ := six_free HN.out
    obtain ⟨m0, m1, m2, m3, m4, m5⟩ := six_at HN.out
    show Calls _ _ _ _ (actE (some ⟨5, 0, 3, 0, 0, tx⟩) W)
    go_enter Try.func104, Try.ntmps104
    go_wp2_with fail
    refine bodyPost_ret (v := actOf ⟨5, 0, 3, 0, 0, tx⟩) (by rw [results_cell1 (by rfl)]; go_simp) rfl ⟨rfl, ?_⟩
    exact below_alloc _ _
  · show Calls _ _ _ _ (actE (storeV bl 0 ep) W)
    obtain ⟨y, hy⟩ : ∃ y, (storeV bl 0 ep).getD noAct = y := ⟨_, rfl⟩
    have HY := Lib.hid hy
    go_enter Try.func104, Try.ntmps104
    go_wp2_with fail
    refine (HS.out _ HB.out _ _).mono ?_
    rintro en w1 ⟨rfl, hb⟩
    rw [hy]
    obtain ⟨h1, hb1⟩ := todo_mid HN.out hb
    have HB1 := Lib.hid hb1
    have H1 := Lib.hid h1
    obtain ⟨z0, z1, z2, z3, z4, z5⟩ := six_free h1
    obtain ⟨m0, m1, m2, m3, m4, m5⟩ := six_at h1
    clear hb h1 hb1 hy c0 c1 c2 c3 c4 c5
    go_wp2_with fail
    exact todo_end (set6 H1.out _ _ _ _ _ _) (below6 HB1.out (Nat.le_refl _) _ _ _ _ _ _) rfl HY.out
  · by_cases hn : nx = 0
    · subst hn
      show Calls _ _ _ _ (actE none W)
      go_enter Try.func104, Try.ntmps104
      obtain ⟨z0, z1, z2, z3, z4, z5⟩ := six_free HN.out
      obtain ⟨m0, m1, m2, m3, m4, m5⟩ := six_at HN.out
      go_wp2_with fail
      refine bodyPost_ret (v := zeroV) (by rw [results_cell1 (by rfl)]; go_simp) rfl ⟨rfl, ?_⟩
      exact below_alloc _ _
    · have hn0 : (nx == 0) = false := by simpa using hn
      have e1 : todoV ⟨ep, nx, hs, tx, 3, bl⟩ 3 = storeV bl 1 nx := by unfold todoV; simp only; rw [if_neg hn]
      rw [e1]
      clear hn e1
      obtain ⟨y, hy⟩ : ∃ y, (storeV bl 1 nx).getD noAct = y := ⟨_, rfl⟩
      have HY := Lib.hid hy
      go_enter Try.func104, Try.ntmps104
      go_wp2_with fail
      refine (HS.out _ HB.out _ _).mono ?_
      rintro en w1 ⟨rfl, hb⟩
      rw [hy]
      obtain ⟨h1, hb1⟩ := todo_mid HN.out hb
      have HB1 := Lib.hid hb1
      have H1 := Lib.hid h1
      obtain ⟨z0, z1, z2, z3, z4, z5⟩ := six_free h1
      obtain ⟨m0, m1, m2, m3, m4, m5⟩ := six_at h1
      clear hb h1 hb1 hy c0 c1 c2 c3 c4 c5
      go_wp2_with fail
      exact todo_end (set6 H1.out _ _ _ _ _ _) (below6 HB1.out (Nat.le_refl _) _ _ _ _ _ _) rfl HY.out
  · cases hs with
    | false =>
      show Calls _ _ _ _ (actE none W)
      go_enter Try.func104, Try.ntmps104
      obtain ⟨z0, z1, z2, z3, z4, z5⟩ := six_free HN.out
      obtain ⟨m0, m1, m2, m3, m4, m5⟩ := six_at HN.out
      go_wp2_with fail
      refine bodyPost_ret (v := zeroV) (by rw [results_cell1 (by rfl)]; go_simp) rfl ⟨rfl, ?_⟩
      exact below_alloc _ _
    | true =>
      show Calls _ _ _ _ (actE (storeV bl 2 1) W)
      obtain ⟨y, hy⟩ : ∃ y, (storeV bl 2 1).getD noAct = y := ⟨_, rfl⟩
      have HY := Lib.hid hy
      go_enter Try.func104, Try.ntmps104
      go_wp2_with fail
      refine (HS.out _ HB.out _ _).mono ?_
      rintro en w1 ⟨rfl, hb⟩
      rw [hy]
      obtain ⟨h1, hb1⟩ := todo_mid HN.out hb
      have HB1 := Lib.hid hb1
      have H1 := Lib.hid h1
      obtain ⟨z0, z1, z2, z3, z4, z5⟩ := six_free h1
      obtain ⟨m0, m1, m2, m3, m4, m5⟩ := six_at h1
      clear hb h1 hb1 hy c0 c1 c2 c3 c4 c5
      go_wp2_with fail
      exact todo_end (set6 H1.out _ _ _ _ _ _) (below6 HB1.out (Nat.le_refl _) _ _ _ _ _ _) rfl HY.out
  · show Calls _ _ _ _ (actE none W)
    go_enter Try.func104, Try.ntmps104
    obtain ⟨z0, z1, z2, z3, z4, z5⟩ := six_free HN.out
    obtain ⟨m0, m1, m2, m3, m4, m5⟩ := six_at HN.out
    go_wp2_with fail
    refine bodyPost_ret (v := zeroV) (by rw [results_cell1 (by rfl)]; go_simp) rfl ⟨rfl, ?_⟩
    exact below_alloc _ _

end Go.Proofs.Ytpnfbabiibopnaa

/-! shelf's routine: Act, Take, Result, New; it is a kind of routine. -/
namespace Go.Proofs.Ytpnfbabiibopnaa
open Go Go.RowKit
attribute [local go_sem ↓] Go.wp_at_zero Go.wp_at_succ
attribute [local go_sem] neqA_run eqA_run

theorem vact_end {W X : World} {n : Nat} {x : ActD} {is : Bool} {T : Array Value} (h : X.heap[n]? = some noO) (hb : Below W.heap.size W X) (hn : W.heap.size ≤ n) (h2 : T.getD 2 undef = .pointer (some ⟨n, 0, none⟩)) (h3 : T.getD 3 undef = .bool is) :
    bodyPost Try.prog Try.f102 (fun e W' => e = .returned (.tuple #[actOf x, .bool is]) ∧ Below W.heap.size W W') .ret { tmps := T, defers := [] }
      (((((((X.setCell ⟨n, 0, none⟩ (.int .i64 x.kind)).setCell ⟨n, 1, none⟩ (.int .u64 (x.block : Int))).setCell ⟨n, 2, none⟩ (.int .i64 x.cell)).setCell ⟨n, 3, none⟩ (.int .u64 x.old)).setCell ⟨n, 4, none⟩ (.int .u64 x.new)).setCell ⟨n, 5, none⟩ (.string x.text)).drew) := by
  have h6 := set6 h (.int .i64 x.kind) (.int .u64 (x.block : Int)) (.int .i64 x.cell) (.int .u64 x.old) (.int .u64 x.new) (.string x.text)
  have hb6 := below_turned (below6 hb hn (.int .i64 x.kind) (.int .u64 (x.block : Int)) (.int .i64 x.cell) (.int .u64 x.old) (.int .u64 x.new) (.string x.text))
  generalize ((((((X.setCell ⟨n, 0, none⟩ (.int .i64 x.kind)).setCell ⟨n, 1, none⟩ (.int .u64 (x.block : Int))).setCell ⟨n, 2, none⟩ (.int .i64 x.cell)).setCell ⟨n, 3, none⟩ (.int .u64 x.old)).setCell ⟨n, 4, none⟩ (.int .u64 x.new)).setCell ⟨n, 5, none⟩ (.string x.text)) = Y at h6 hb6 ⊢
  have h7 : Y.drew.heap[n]? = some (.cells (actCells x) 59 (0, 0)) := h6
  exact bodyPost_ret (v := .tuple #[actOf x, .bool is]) (by rw [results_cell2 (by rfl), h2, h3]; simp only [asAddr, Sem.run_pure, Result.andThen_ok, load_act h7]) rfl ⟨rfl, hb6⟩

set_option maxRecDepth 100000 in
set_option maxHeartbeats 4000000 in
theorem act_is {B r : Nat} {v : VerD} {f : Nat → Prop} (W : World) (h : VerAt W B r v f) : Calls Try.prog 102 #[.pointer (some ⟨r, 0, none⟩)] W fun e W' => e = .returned (.tuple #[actOf ((nextV v).getD noAct), .bool (nextV v).isSome]) ∧ Below W.heap.size W W' := by
  have HB := Lib.hid (below_alloc W noO)
  have HN := Lib.hid (World.alloc_heap_new W noO)
  have HT := Lib.hid (fun X (hX : Below W.heap.size W X) => todo_is X (h.below hX))
  obtain ⟨o, ho⟩ : ∃ o, nextV v = o := ⟨_, rfl⟩
  have hk : ∀ x, o = some x → x.kind = 5 ∨ x.kind = 2 := fun x hx => todoV_kind (ho.trans hx)
  rw [ho] at HT ⊢
  obtain ⟨y, hy⟩ : ∃ y, o.getD noAct = y := ⟨_, rfl⟩
  obtain ⟨q, hq⟩ : ∃ q, o.isSome = q := ⟨_, rfl⟩
  have hrun : ∀ w : World, (binOp .neq 59 (actV y.kind y.block y.cell y.old y.new y.text) (actV 0 0 0 0 0 ⟨#[]⟩)).run Try.prog w = .ok (.bool q) w := fun w => by
    rw [neqA_run, ← hq, ← hy]
    cases o with
    | none => simp [noAct]
    | some x =>
      have : (x.kind == 0) = false := by rcases hk x rfl with e | e <;> rw [e] <;> rfl
      simp [this]
  have HY := Lib.hid hy
  rw [hy, hq]
  clear h hk hq ho hy
  go_enter Try.func102, Try.ntmps102
  go_wp2_with fail
  refine (HT.out _ HB.out).mono ?_
  rintro en w1 ⟨rfl, hb⟩
  rw [HY.out]
  obtain ⟨h1, hb1⟩ := todo_mid HN.out hb
  have hne := heap_at_lt h1
  have HB1 := Lib.hid (hb1.trans ((below_alloc w1 (actO y)).mono hb1.size))
  have H1 := Lib.hid (((below_alloc w1 (actO y)).block _ hne).trans h1)
  have HA1 := Lib.hid (World.alloc_heap_new w1 (actO y))
  obtain ⟨n1, hn1⟩ : ∃ n, w1.heap.size = n := ⟨_, rfl⟩
  go_wp2_with fail
  rw [hn1] at HA1 hne
  generalize w1.alloc (actO y) = w2 at HB1 H1 HA1 ⊢
  have hne' : W.heap.size ≠ n1 := by omega
  obtain ⟨z0, z1, z2, z3, z4, z5⟩ := six_free H1.out
  obtain ⟨m0, m1, m2, m3, m4, m5⟩ := six_at H1.out
  obtain ⟨a0, a1, a2, a3, a4, a5⟩ := six_at HA1.out
  clear hb h1 hb1 hne hn1
  go_region
  all_goals
    go_wp2_with fail
    exact vact_end H1.out HB1.out (Nat.le_refl _) rfl rfl

/-! ### Result -/
theorem result_any {B r : Nat} {v : VerD} {f : Nat → Prop} (W : World) (h : VerAt W B r v f) : Calls Try.prog 56 #[.pointer (some ⟨r, 0, none⟩)] W fun e W' => e = .returned (.tuple #[.int .u64 (if v.place = 5 then (v.block : Int) else 0), .bool (decide (v.place = 5))]) ∧ W' = W := by
  obtain ⟨-, -, -, -, c4, c5⟩ := h.cells
  obtain ⟨ep, nx, hs, tx, pl, bl⟩ := v
  simp only at c4 c5 ⊢
  clear h
  by_cases hp : pl = 5
  · subst hp
    go_enter Try.func56, Try.ntmps56
    go_wp2_with fail
    exact bodyPost_ret (results_tmp2 rfl _ _ _) rfl ⟨rfl, rfl⟩
  · have hp0 : ((pl : Int) == 5) = false := by simp; omega
    rw [if_neg hp, decide_eq_false hp]
    clear hp
    go_enter Try.func56, Try.ntmps56
    go_wp2_with fail
    exact bodyPost_ret (results_tmp2 rfl _ _ _) rfl ⟨rfl, rfl⟩
theorem result_nil (W : World) : Calls Try.prog 56 #[.pointer none] W fun e W' => e = .returned (.tuple #[.int .u64 0, .bool false]) ∧ W' = W := by
  go_enter Try.func56, Try.ntmps56
  go_wp2_with fail
  exact bodyPost_ret (results_tmp2 rfl _ _ _) rfl ⟨rfl, rfl⟩

/-! ### New -/
theorem setText {X : World} {n : Nat} {t : TypeId} {a0 a1 a2 a3 a4 a5 : Value} (h : X.heap[n]? = some (.cells #[a0, a1, a2, a3, a4, a5] t (0, 0))) (v : Value) :
    (X.setCell ⟨n, 3, none⟩ v).heap[n]? = some (.cells #[a0, a1, a2, v, a4, a5] t (0, 0)) := (heap_setAt h).trans rfl
abbrev chO (key : ByteArray) (has : Bool) (val : ByteArray) : Obj := .cells #[.string key, .bool has, .string val] 32 (0, 0)
/-- What New makes of a change. -/
def newV (ep nx : Int) (has : Bool) (val : ByteArray) : VerD := ⟨ep, nx, has, if has then val else ⟨#[]⟩, 1, 0⟩
def NewVE (v : VerD) (W : World) (e : Ending) (W' : World) : Prop := ∃ r, e = .returned (.pointer (some ⟨r, 0, none⟩)) ∧ W.heap.size ≤ r ∧ W'.heap[r]? = some (verO v) ∧ Below W.heap.size W W'

set_option maxRecDepth 100000 in
set_option maxHeartbeats 2000000 in
theorem newv_any (W : World) (ep nx : Int) (key : ByteArray) (has : Bool) (val : ByteArray) (hv : val.size ≤ 281474976710656) :
    Calls Try.prog 55 #[.int .u64 ep, .int .u64 nx, .agg #[.string key, .bool has, .string val]] W (NewVE (newV ep nx has val) W) := by
  have HC := Lib.hid (fun X => clone_any val X hv)
  clear hv
  cases has with
  | false =>
    go_enter Try.func55, Try.ntmps55
    go_wp2_with fail
    go_ret
    refine ⟨_, rfl, by omega, (by have h := World.alloc_heap_new (W.alloc (chO key false val)) (verO (newV ep nx false val)); rw [World.size_alloc] at h; exact h), (below_alloc W _).trans ((below_alloc _ _).mono (by simp))⟩
  | true =>
    go_enter Try.func55, Try.ntmps55
    go_wp2_with fail
    have HB := Lib.hid (show Below W.heap.size W ((W.alloc (chO key true val)).alloc (verO ⟨ep, nx, true, ⟨#[]⟩, 1, 0⟩)) from (below_alloc W _).trans ((below_alloc _ _).mono (by simp)))
    have HN := Lib.hid (show ((W.alloc (chO key true val)).alloc (verO ⟨ep, nx, true, ⟨#[]⟩, 1, 0⟩)).heap[W.heap.size + 1]? = some (verO ⟨ep, nx, true, ⟨#[]⟩, 1, 0⟩) from by
      have h := World.alloc_heap_new (W.alloc (chO key true val)) (verO ⟨ep, nx, true, ⟨#[]⟩, 1, 0⟩); rw [World.size_alloc] at h; exact h)
    refine (HC.out _).mono ?_
    rintro en w1 ⟨rfl, hb⟩
    have HB1 := Lib.hid (HB.out.trans (hb.mono HB.out.size))
    have HN1 := Lib.hid ((hb.block _ (heap_at_lt HN.out)).trans HN.out)
    clear hb
    obtain ⟨m0, m1, m2, m3, m4, m5⟩ := six_at HN1.out
    obtain ⟨z0, z1, z2, z3, z4, z5⟩ := six_free HN1.out
    go_wp2_with fail
    go_ret
    exact ⟨_, rfl, by omega, setText HN1.out _, HB1.out.setCell (by show W.heap.size ≤ W.heap.size + 1; omega) _⟩

/-! ### Take -/
/-- In the middle of Take: the routine at place a. -/
structure VTake (W : World) (B r : Nat) (v : VerD) (a : Nat) (f : Nat → Prop) (X : World) : Prop where
  at_ : VerAt X B r (v.to a) f
  st : Step f f W X
theorem VTake.below {W X Y : World} {B r a : Nat} {v : VerD} {f : Nat → Prop} (h : VTake W B r v a f X) (hb : Below X.heap.size X Y) : VTake W B r v a f Y := ⟨h.at_.below hb, h.st.trans (Step.of_below hb)⟩
theorem VTake.on {W X : World} {B r a : Nat} {v : VerD} {f : Nat → Prop} (h : VTake W B r v a f X) (b : Nat) (hb : 1 ≤ b ∧ b ≤ 5) : VTake W B r v b f (X.setCell ⟨r, 4, none⟩ (.int .i64 (b : Int))) :=
  ⟨(h.at_.setPlace b hb).1, h.st.trans (h.at_.setPlace b hb).2⟩

theorem todoV_to (v : VerD) (a : Nat) : nextV (v.to a) = todoV v a := by
  show todoV (v.to a) a = todoV v a
  unfold todoV
  rfl
def placeAt (r : Nat) (X : World) : Nat := match X.cell? ⟨r, 4, none⟩ with | some (.int _ n) => 5 - n.toNat | _ => 0
theorem VTake.place {W X : World} {B r a : Nat} {v : VerD} {f : Nat → Prop} (h : VTake W B r v a f X) : placeAt r X = 5 - a := by
  unfold placeAt
  rw [h.at_.cells.2.2.2.2.1]
  simp [VerD.to]
theorem VTake.free {W X : World} {B r a : Nat} {v : VerD} {f : Nat → Prop} (h : VTake W B r v a f X) : X.cell? ⟨r, 4, none⟩ = some (.int .i64 (a : Int)) ∧ X.frozen? ⟨r, 4, none⟩ = false ∧ X.frozen? ⟨r, 5, none⟩ = false :=
  ⟨h.at_.cells.2.2.2.2.1, h.at_.free.2.2.2.2.1, h.at_.free.2.2.2.2.2⟩
def TakeVE (W : World) (B r : Nat) (v : VerD) (f : Nat → Prop) (e : Ending) (W' : World) : Prop := e = .returned (.tuple #[]) ∧ VerAt W' B r v f ∧ Step f f W W'

set_option maxRecDepth 100000 in
set_option maxHeartbeats 4000000 in
theorem take_is {B r : Nat} {v : VerD} {f : Nat → Prop} (W : World) (h : VerAt W B r v f) (hs : (nextV v).isSome = true) (w : Nat) (hw : w < 18446744073709551616) (t : ByteArray) :
    Calls Try.prog 103 #[.pointer (some ⟨r, 0, none⟩), gotV w t] W (TakeVE W B r (takeV v w t) f) := by
  have HA := Lib.hid (fun X (hX : Below W.heap.size W X) => act_is X (h.below hX))
  rw [hs] at HA
  obtain ⟨y, hy⟩ : ∃ y, (nextV v).getD noAct = y := ⟨_, rfl⟩
  rw [hy] at HA
  have HG := Lib.hid (World.alloc_heap_new W (gotO w t))
  have HBg := Lib.hid (below_alloc W (gotO w t))
  have hp5 : v.place < 5 := by
    rcases Nat.lt_or_ge v.place 5 with h5 | h5
    · exact h5
    · have := h.fits.2.2.2.1.2
      have e : v.place = 5 := by omega
      unfold nextV at hs; rw [e] at hs; cases hs
  have hp1 := h.fits.2.2.2.1.1
  obtain ⟨pl, hpl⟩ : ∃ pl, v.place = pl := ⟨_, rfl⟩
  have HV := Lib.hid (show VTake W B r v pl f W from ⟨by rw [← hpl]; exact h, Step.refl _ _⟩)
  have HWt := Lib.hid hw
  obtain ⟨v1, hv1⟩ : ∃ v1, (if v.place = 1 then v.of w else v) = v1 := ⟨_, rfl⟩
  have hEnd : takeV v w t = v1.to (firstV v1 (pl + 1)) := by unfold takeV; rw [← hv1, ← hpl, Int.toNat_natCast]
  rw [hEnd]
  have HFin := Lib.hid (fun X (hX : VTake W B r v1 (firstV v1 (pl + 1)) f X) => (show TakeVE W B r (v1.to (firstV v1 (pl + 1))) f (.returned (.tuple #[])) X from ⟨rfl, hX.at_, hX.st⟩))
  have HT := Lib.hid (fun X a (hX : VTake W B r v1 a f X) => (by have := todo_is X hX.at_; rw [todoV_to] at this; exact this : Calls Try.prog 104 #[.pointer (some ⟨r, 0, none⟩)] X (actE (todoV v1 a) X)))
  rw [hpl] at hp5 hp1 hv1
  have HV1 := Lib.hid hv1
  obtain ⟨g0, g1⟩ := two_at HG.out
  clear h hs hy hv1 hEnd hw hpl
  go_enter Try.func103, Try.ntmps103
  go_wp2_with fail
  refine (HA.out _ HBg.out).mono ?_
  rintro en w1 ⟨rfl, hb⟩
  have HB2 := Lib.hid (((HBg.out.trans (hb.mono HBg.out.size))).trans ((below_alloc w1 (actO y)).mono (Nat.le_trans HBg.out.size hb.size)))
  have HG2 := Lib.hid (((below_alloc w1 (actO y)).block _ (Nat.lt_of_lt_of_le (heap_at_lt HG.out) hb.size)).trans ((hb.block _ (heap_at_lt HG.out)).trans HG.out))
  have HV2 := Lib.hid (HV.out.below HB2.out)
  obtain ⟨c4, z4, z5⟩ := HV2.out.free
  have c5 := HV2.out.at_.cells.2.2.2.2.2
  clear hb g0 g1
  obtain ⟨g0, g1⟩ := two_at HG2.out
  by_cases hp : pl = 1
  · subst hp
    rw [if_pos rfl] at HV1
    have HV3 := Lib.hid (show VTake W B r v1 2 f (((w1.alloc (actO y)).setCell ⟨r, 5, none⟩ (.int .u64 (w : Int))).setCell ⟨r, 4, none⟩ (.int .i64 2)) from by
      have h5 := HV2.out.at_.setBlock w HWt.out
      have h6 := h5.1.setPlace 2 (by omega)
      exact ⟨by rw [← HV1.out]; exact h6.1, (HV2.out.st.trans h5.2).trans h6.2⟩)
    go_wp2_with fail
    go_loopw [] (fun wr => ∃ a : Nat, 2 ≤ a ∧ a ≤ 5 ∧ firstV v1 a = firstV v1 (1 + 1) ∧ Hid (VTake W B r v1 a f wr)) (fun wr => placeAt r wr)
    case atStart => exact ⟨2, by omega, by omega, rfl, HV3⟩
    case round =>
      clear HV3
      obtain ⟨a, ha2, ha5, hfa, HR⟩ := hrel
      have hm := HR.out.place
      obtain ⟨c4, z4, -⟩ := HR.out.free
      have hwa : (a : Int) ≤ 5 := by omega
      by_cases hlt : a < 5
      · have hltz : (a : Int) < 5 := by omega
        have hnn : (0 : Int) ≤ (a : Int) := by omega
        have HTa := Lib.hid (HT.out _ a HR.out)
        have HF := Lib.hid hfa
        clear hfa
        cases hn : todoV v1 a with
        | none =>
          rw [hn] at HTa
          have HTb := Lib.hid (show Calls Try.prog 104 #[.pointer (some ⟨r, 0, none⟩)] wr (fun e W' => e = .returned zeroV ∧ Below wr.heap.size wr W') from HTa.out)
          have HN := Lib.hid hn
          have HM := Lib.hid hm
          clear hn hm HTa
          go_wp2_with fail
          refine HTb.out.mono ?_
          rintro en w2 ⟨rfl, hb2⟩
          have HR2 := Lib.hid (HR.out.below hb2)
          clear hb2 c4 z4
          obtain ⟨c4, z4, -⟩ := HR2.out.free
          go_wp2_with fail
          go_roundw
          case rel => exact ⟨a + 1, by omega, by omega, by rw [← HF.out]; exact (firstV_on ha2 hlt HN.out).symm, Lib.hid (HR2.out.on (a + 1) (by omega))⟩
          case measure =>
            have hq : placeAt r (w2.setCell ⟨r, 4, none⟩ (.int .i64 ((a : Int) + 1))) = 5 - (a + 1) := (HR2.out.on (a + 1) (by omega)).place
            rw [hq, HM.out]; omega
        | some x =>
          rw [hn] at HTa
          have hk : (x.kind == 0) = false := by rcases todoV_kind hn with e | e <;> rw [e] <;> rfl
          have HN := Lib.hid (firstV_at ha2 (by rw [hn]; rfl))
          clear hn hm
          go_wp2_with fail
          refine HTa.out.mono ?_
          rintro en w2 ⟨rfl, hb2⟩
          have HR2 := Lib.hid (HR.out.below hb2)
          clear hb2 c4 z4
          go_wp2_with fail
          go_end0
          exact HFin.out _ (by rw [← HF.out, HN.out]; exact HR2.out)
      · obtain rfl : a = 5 := by omega
        have HF := Lib.hid hfa
        clear hfa hm
        go_wp2_with fail
        go_end0
        exact HFin.out _ (by rw [← HF.out]; exact HR.out)
  · have hp0 : ((pl : Int) == 1) = false := by simp; omega
    rw [if_neg hp] at HV1
    have hnn : (0 : Int) ≤ (pl : Int) := by omega
    have hlt5 : (pl : Int) < 5 := by omega
    have HV3 := Lib.hid (show VTake W B r v1 (pl + 1) f ((w1.alloc (actO y)).setCell ⟨r, 4, none⟩ (.int .i64 ((pl : Int) + 1))) from by
      have h6 := HV2.out.on (pl + 1) (by omega)
      rw [← HV1.out]; exact h6)
    go_wp2_with fail
    go_loopw [] (fun wr => ∃ a : Nat, 2 ≤ a ∧ a ≤ 5 ∧ firstV v1 a = firstV v1 (pl + 1) ∧ Hid (VTake W B r v1 a f wr)) (fun wr => placeAt r wr)
    case atStart => exact ⟨pl + 1, by omega, by omega, rfl, HV3⟩
    case round =>
      clear HV3
      obtain ⟨a, ha2, ha5, hfa, HR⟩ := hrel
      have hm := HR.out.place
      obtain ⟨c4, z4, -⟩ := HR.out.free
      have hwa : (a : Int) ≤ 5 := by omega
      by_cases hlt : a < 5
      · have hltz : (a : Int) < 5 := by omega
        have hnn : (0 : Int) ≤ (a : Int) := by omega
        have HTa := Lib.hid (HT.out _ a HR.out)
        have HF := Lib.hid hfa
        clear hfa
        cases hn : todoV v1 a with
        | none =>
          rw [hn] at HTa
          have HTb := Lib.hid (show Calls Try.prog 104 #[.pointer (some ⟨r, 0, none⟩)] wr (fun e W' => e = .returned zeroV ∧ Below wr.heap.size wr W') from HTa.out)
          have HN := Lib.hid hn
          have HM := Lib.hid hm
          clear hn hm HTa
          go_wp2_with fail
          refine HTb.out.mono ?_
          rintro en w2 ⟨rfl, hb2⟩
          have HR2 := Lib.hid (HR.out.below hb2)
          clear hb2 c4 z4
          obtain ⟨c4, z4, -⟩ := HR2.out.free
          go_wp2_with fail
          go_roundw
          case rel => exact ⟨a + 1, by omega, by omega, by rw [← HF.out]; exact (firstV_on ha2 hlt HN.out).symm, Lib.hid (HR2.out.on (a + 1) (by omega))⟩
          case measure =>
            have hq : placeAt r (w2.setCell ⟨r, 4, none⟩ (.int .i64 ((a : Int) + 1))) = 5 - (a + 1) := (HR2.out.on (a + 1) (by omega)).place
            rw [hq, HM.out]; omega
        | some x =>
          rw [hn] at HTa
          have hk : (x.kind == 0) = false := by rcases todoV_kind hn with e | e <;> rw [e] <;> rfl
          have HN := Lib.hid (firstV_at ha2 (by rw [hn]; rfl))
          clear hn hm
          go_wp2_with fail
          refine HTa.out.mono ?_
          rintro en w2 ⟨rfl, hb2⟩
          have HR2 := Lib.hid (HR.out.below hb2)
          clear hb2 c4 z4
          go_wp2_with fail
          go_end0
          exact HFin.out _ (by rw [← HF.out, HN.out]; exact HR2.out)
      · obtain rfl : a = 5 := by omega
        have HF := Lib.hid hfa
        clear hfa hm
        go_wp2_with fail
        go_end0
        exact HFin.out _ (by rw [← HF.out]; exact HR.out)

end Go.Proofs.Ytpnfbabiibopnaa

/-! shelf's routine as a kind of routine; alone, beside a heap: what it makes. -/
namespace Go.Proofs.Ytpnfbabiibopnaa
open Go Go.RowKit

theorem ver_metA (n r : Nat) (w : World) : (method (n + 1) 123 (.pointer (some ⟨r, 0, none⟩)) "Act").run Try.prog w = .ok (102, .pointer (some ⟨r, 0, none⟩)) w := by kernel_rfl
theorem ver_metT (n r : Nat) (w : World) : (method (n + 1) 123 (.pointer (some ⟨r, 0, none⟩)) "Take").run Try.prog w = .ok (103, .pointer (some ⟨r, 0, none⟩)) w := by kernel_rfl
theorem ver_entA (args : Array Value) (w : World) : (callFunc 102 args).run Try.prog w = .ok (.enter 102 args) w := enters_of Try.func102 (by kernel_rfl) rfl args w
theorem ver_entT (args : Array Value) (w : World) : (callFunc 103 args).run Try.prog w = .ok (.enter 103 args) w := enters_of Try.func103 (by kernel_rfl) rfl args w
def VerM : Mach VerD where
  tid := 123
  fA := 102
  fT := 103
  next := nextV
  take := takeV
  At := VerAt
  metA := ver_metA
  metT := ver_metT
  entA := ver_entA
  entT := ver_entT
  stays := fun h hs => h.stays hs
  lt := fun h => h.lt
  base := fun h k hk => by rw [h.foot] at hk; subst hk; exact h.base
  self := fun h => by rw [h.foot]
  fits := fun h hx => todoV_fits h.fits hx
  act := fun h => act_is _ h
  takes := fun {W B r s f w t} h hs hg => by
    have e : ((w.toNat : Nat) : Int) = w := by have := hg.1; omega
    refine (show Calls Try.prog 103 #[.pointer (some ⟨r, 0, none⟩), gotV w t] W (TakeVE W B r (takeV s w t) f) from by
      have h1 := take_is W h hs w.toNat (by have := hg.1; omega) t
      rw [e] at h1; exact h1).mono fun e W' he => ⟨f, he.1, he.2.1, he.2.2⟩

theorem ready_ver (D : HpD) {x : ActD} (hk : x.kind = 5 ∨ x.kind = 2) : readyA D x = true := by
  unfold readyA
  split
  · rw [if_neg (by omega), if_neg (by omega)]
  · rfl
theorem adv_ver {D : HpD} {v : VerD} {x : ActD} (h : nextV v = some x) : advM VerM ⟨D, v⟩ = ⟨doN D x, takeV v (doW D x) (doT D x)⟩ ∧ stepM VerM ⟨D, v⟩ = some ⟨x, doW D x, doT D x⟩ := by
  have hr := ready_ver D (todoV_kind h)
  have hs : stepM VerM ⟨D, v⟩ = some ⟨x, doW D x, doT D x⟩ := by
    unfold stepM
    show (match nextV v with | some x => if readyA D x then some (⟨x, doW D x, doT D x⟩ : StepD) else none | none => none) = _
    rw [h]; simp [hr]
  refine ⟨?_, hs⟩
  unfold advM
  rw [hs]
  exact nextM_some (M := VerM) (S := ⟨D, v⟩) h
/-- What stands behind the first act. -/
def blkV (ws : List Int) (t : ByteArray) : BlkD := ⟨ws, t, false⟩
theorem right_make {t : ByteArray} (ht : t.size ≤ 4096) : rightA ⟨5, 0, 3, 0, 0, t⟩ = true := by
  have : ((t.size : Nat) : Int) ≤ 4096 := by omega
  simp [rightA, zeroA, restA, this]
theorem right_store (b : Nat) (c w : Int) (hc : 0 ≤ c) : rightA ⟨2, b, c, 0, w, ⟨#[]⟩⟩ = true := by
  have : (((⟨#[]⟩ : ByteArray).size : Nat) : Int) ≤ 4096 := by decide
  simp [rightA, zeroA, restA, hc, this]
theorem adv_make {D : HpD} {v : VerD} (hp : v.place = 1) (ht : v.text.size ≤ 4096) :
    advM VerM ⟨D, v⟩ = ⟨D.add (blkV [0, 0, 0] v.text), (v.of (D.L.length + 1)).to (firstV (v.of (D.L.length + 1)) 2)⟩ ∧ (stepM VerM ⟨D, v⟩).isSome = true := by
  have hn : nextV v = some ⟨5, 0, 3, 0, 0, v.text⟩ := by unfold nextV; rw [hp]; rfl
  obtain ⟨h1, h2⟩ := adv_ver (D := D) hn
  have hr := right_make ht
  have w1 : doW D ⟨5, 0, 3, 0, 0, v.text⟩ = ((D.L.length + 1 : Nat) : Int) := by unfold doW; rw [hr]; rfl
  have n1 : doN D ⟨5, 0, 3, 0, 0, v.text⟩ = D.add (blkV [0, 0, 0] v.text) := by unfold doN; rw [hr]; rfl
  rw [h2]
  refine ⟨?_, rfl⟩
  rw [h1, w1, n1]
  have : takeV v ((D.L.length + 1 : Nat) : Int) (doT D ⟨5, 0, 3, 0, 0, v.text⟩) = (v.of (D.L.length + 1)).to (firstV (v.of (D.L.length + 1)) 2) := by
    unfold takeV; rw [if_pos hp, hp, Int.toNat_natCast]
  rw [this]
theorem live_last (D : HpD) (ws : List Int) (t : ByteArray) : liveAt (D.add (blkV ws t)).L (D.L.length + 1) = some (blkV ws t) := by
  show liveAt (D.L ++ [blkV ws t]) (D.L.length + 1) = _
  rw [liveAt_snoc, if_pos rfl]; rfl
theorem word_last (D : HpD) (ws : List Int) (t : ByteArray) (c w : Int) : (D.add (blkV ws t)).word (D.L.length + 1) c w = D.add (blkV (ws.set c.toNat w) t) := by
  unfold HpD.word
  rw [live_last]
  show (⟨(D.L ++ [blkV ws t]).set (D.L.length + 1 - 1) _, D.locked, D.faults⟩ : HpD) = ⟨D.L ++ [_], D.locked, D.faults⟩
  rw [Nat.add_sub_cancel, List.set_append_right _ _ (Nat.le_refl _), Nat.sub_self]; rfl
theorem adv_store {D : HpD} {v : VerD} {t : ByteArray} {ws : List Int} {c w : Int} (hn : nextV v = some ⟨2, D.L.length + 1, c, 0, w, ⟨#[]⟩⟩) (hp : v.place ≠ 1) (hc : 0 ≤ c) (hl : c < (ws.length : Int)) :
    advM VerM ⟨D.add (blkV ws t), v⟩ = ⟨D.add (blkV (ws.set c.toNat w) t), v.to (firstV v (v.place + 1))⟩ ∧ (stepM VerM ⟨D.add (blkV ws t), v⟩).isSome = true := by
  obtain ⟨h1, h2⟩ := adv_ver (D := D.add (blkV ws t)) hn
  have hr := right_store (D.L.length + 1) c w hc
  have hs : spot (D.add (blkV ws t)).L (D.L.length + 1) c = 0 := by
    unfold spot; rw [live_last]; simp only; rw [if_neg]; show ¬ (c < 0 ∨ (ws.length : Int) ≤ c); omega
  have n1 : doN (D.add (blkV ws t)) ⟨2, D.L.length + 1, c, 0, w, ⟨#[]⟩⟩ = D.add (blkV (ws.set c.toNat w) t) := by
    unfold doN; rw [hr]
    show storeD (D.add (blkV ws t)) (D.L.length + 1) c w = _
    unfold storeD
    rw [if_pos hs, word_last]
  rw [h2]
  refine ⟨?_, rfl⟩
  rw [h1, n1]
  congr 1
  unfold takeV; rw [if_neg hp]

/-- How many acts a version takes. -/
def actsV (nx : Int) (has : Bool) : Nat := 2 + (if nx = 0 then 0 else 1) + (if has then 1 else 0)
/-- Alone: what is made. -/
theorem ver_alone (D : HpD) (ep nx : Int) (has : Bool) (t : ByteArray) (ht : t.size ≤ 4096) (m : Nat) (hm : 4 ≤ m) :
    stM VerM ⟨D, ⟨ep, nx, has, t, 1, 0⟩⟩ m = ⟨D.add (blkV [ep, nx, if has then 1 else 0] t), ⟨ep, nx, has, t, 5, D.L.length + 1⟩⟩ ∧ (toM VerM ⟨D, ⟨ep, nx, has, t, 1, 0⟩⟩ m).length = actsV nx has := by
  have hst : ∀ (b : Nat) (c w : Int), b ≠ 0 → storeV b c w = some ⟨2, b, c, 0, w, ⟨#[]⟩⟩ := fun b c w hb => by unfold storeV; rw [if_neg hb]
  have key : ∃ n, n ≤ 4 ∧ n = actsV nx has ∧ stM VerM ⟨D, ⟨ep, nx, has, t, 1, 0⟩⟩ n = ⟨D.add (blkV [ep, nx, if has then 1 else 0] t), ⟨ep, nx, has, t, 5, D.L.length + 1⟩⟩ ∧ (toM VerM ⟨D, ⟨ep, nx, has, t, 1, 0⟩⟩ n).length = n := by
    have s0 : stM VerM ⟨D, ⟨ep, nx, has, t, 1, 0⟩⟩ 0 = ⟨D, ⟨ep, nx, has, t, 1, 0⟩⟩ ∧ (toM VerM ⟨D, ⟨ep, nx, has, t, 1, 0⟩⟩ 0).length = 0 := ⟨rfl, rfl⟩
    have s1 := stM_succ s0 (adv_make (D := D) (v := ⟨ep, nx, has, t, 1, 0⟩) rfl ht)
    have hb : D.L.length + 1 ≠ 0 := by omega
    have f2 : firstV (VerD.of ⟨ep, nx, has, t, 1, 0⟩ (D.L.length + 1)) 2 = 2 := firstV_at (by omega) (by show (storeV (D.L.length + 1) 0 ep).isSome = true; rw [hst _ _ _ hb]; rfl)
    rw [f2] at s1
    have s2 := stM_succ s1 (adv_store (D := D) (v := ⟨ep, nx, has, t, 2, D.L.length + 1⟩) (t := t) (ws := [0, 0, 0]) (c := 0) (w := ep) (by show storeV (D.L.length + 1) 0 ep = _; exact hst _ _ _ hb) (by simp) (by decide) (by decide))
    by_cases hx : nx = 0
    · subst hx
      have n3 : todoV ⟨ep, 0, has, t, 2, D.L.length + 1⟩ 3 = none := rfl
      have f3 := firstV_on (v := ⟨ep, 0, has, t, 2, D.L.length + 1⟩) (a := 3) (by omega) (by omega) n3
      cases has with
      | false =>
        have n4 : todoV ⟨ep, 0, false, t, 2, D.L.length + 1⟩ 4 = none := rfl
        have f4 := firstV_on (v := ⟨ep, 0, false, t, 2, D.L.length + 1⟩) (a := 4) (by omega) (by omega) n4
        exact ⟨2, by omega, rfl, by rw [s2.1]; show (⟨_, VerD.to _ (firstV _ 3)⟩ : PmS VerD) = _; rw [f3, f4]; rfl, s2.2⟩
      | true =>
        have f4 : firstV (⟨ep, 0, true, t, 2, D.L.length + 1⟩ : VerD) 4 = 4 := firstV_at (by omega) (by show (storeV (D.L.length + 1) 2 1).isSome = true; rw [hst _ _ _ hb]; rfl)
        have s2' : stM VerM ⟨D, ⟨ep, 0, true, t, 1, 0⟩⟩ 2 = ⟨D.add (blkV [ep, 0, 0] t), ⟨ep, 0, true, t, 4, D.L.length + 1⟩⟩ ∧ (toM VerM ⟨D, ⟨ep, 0, true, t, 1, 0⟩⟩ 2).length = 2 := ⟨by rw [s2.1]; show (⟨_, VerD.to _ (firstV _ 3)⟩ : PmS VerD) = _; rw [f3, f4]; rfl, s2.2⟩
        have s3 := stM_succ s2' (adv_store (D := D) (v := ⟨ep, 0, true, t, 4, D.L.length + 1⟩) (t := t) (ws := [ep, 0, 0]) (c := 2) (w := 1) (by show storeV (D.L.length + 1) 2 1 = _; exact hst _ _ _ hb) (by simp) (by decide) (by simp))
        exact ⟨3, by omega, rfl, by rw [s3.1]; rfl, s3.2⟩
    · have f3 : firstV (⟨ep, nx, has, t, 2, D.L.length + 1⟩ : VerD) 3 = 3 := firstV_at (by omega) (by show (if nx = 0 then none else storeV (D.L.length + 1) 1 nx).isSome = true; rw [if_neg hx, hst _ _ _ hb]; rfl)
      have s2' : stM VerM ⟨D, ⟨ep, nx, has, t, 1, 0⟩⟩ 2 = ⟨D.add (blkV [ep, 0, 0] t), ⟨ep, nx, has, t, 3, D.L.length + 1⟩⟩ ∧ (toM VerM ⟨D, ⟨ep, nx, has, t, 1, 0⟩⟩ 2).length = 2 := ⟨by rw [s2.1]; show (⟨_, VerD.to _ (firstV _ 3)⟩ : PmS VerD) = _; rw [f3]; rfl, s2.2⟩
      have s3 := stM_succ s2' (adv_store (D := D) (v := ⟨ep, nx, has, t, 3, D.L.length + 1⟩) (t := t) (ws := [ep, 0, 0]) (c := 1) (w := nx) (by show (if nx = 0 then none else storeV (D.L.length + 1) 1 nx) = _; rw [if_neg hx]; exact hst _ _ _ hb) (by simp) (by decide) (by simp))
      cases has with
      | false =>
        have n4 : todoV ⟨ep, nx, false, t, 3, D.L.length + 1⟩ 4 = none := rfl
        have f4 := firstV_on (v := ⟨ep, nx, false, t, 3, D.L.length + 1⟩) (a := 4) (by omega) (by omega) n4
        exact ⟨3, by omega, by simp [actsV, hx], by rw [s3.1]; show (⟨_, VerD.to _ (firstV _ 4)⟩ : PmS VerD) = _; rw [f4]; rfl, s3.2⟩
      | true =>
        have f4 : firstV (⟨ep, nx, true, t, 3, D.L.length + 1⟩ : VerD) 4 = 4 := firstV_at (by omega) (by show (storeV (D.L.length + 1) 2 1).isSome = true; rw [hst _ _ _ hb]; rfl)
        have s3' : stM VerM ⟨D, ⟨ep, nx, true, t, 1, 0⟩⟩ 3 = ⟨D.add (blkV [ep, nx, 0] t), ⟨ep, nx, true, t, 4, D.L.length + 1⟩⟩ ∧ (toM VerM ⟨D, ⟨ep, nx, true, t, 1, 0⟩⟩ 3).length = 3 := ⟨by rw [s3.1]; show (⟨_, VerD.to _ (firstV _ 4)⟩ : PmS VerD) = _; rw [f4]; rfl, s3.2⟩
        have s4 := stM_succ s3' (adv_store (D := D) (v := ⟨ep, nx, true, t, 4, D.L.length + 1⟩) (t := t) (ws := [ep, nx, 0]) (c := 2) (w := 1) (by show storeV (D.L.length + 1) 2 1 = _; exact hst _ _ _ hb) (by simp) (by decide) (by simp))
        exact ⟨4, by omega, by simp [actsV, hx], by rw [s4.1]; rfl, s4.2⟩
  obtain ⟨n, hn4, hna, h1, h2⟩ := key
  have hno : stepM VerM (stM VerM ⟨D, ⟨ep, nx, has, t, 1, 0⟩⟩ n) = none := by rw [h1]; rfl
  obtain ⟨q1, q2⟩ := mstop_stays hno (m - n)
  rw [show n + (m - n) = m from by omega] at q1 q2
  exact ⟨by rw [q2, h1], by rw [q1, h2, hna]⟩

end Go.Proofs.Ytpnfbabiibopnaa

/-! A shelf's chain on a heap: its versions, the newest first; one more is put at its head; what is read at an epoch, and by how many acts. Plain. -/
namespace Go.Proofs.Ytpnfbabiibopnaa
open Go Go.RowKit

/-- A version: its epoch, whether it has a value, its text, its block. -/
structure VsnD where
  ep : Int
  has : Bool
  text : ByteArray
  block : Nat
def wordV (has : Bool) : Int := if has then 1 else 0
/-- From b down lie the versions V (n - 1), V (n - 2) and so on. -/
def Down (D : HpD) (V : Nat → VsnD) : Nat → Nat → Prop
  | 0, b => b = 0
  | n + 1, b => b = (V n).block ∧ 2 ≤ b ∧ (0 ≤ (V n).ep ∧ (V n).ep < 18446744073709551616) ∧ ∃ nx : Nat, liveAt D.L b = some (blkV [(V n).ep, (nx : Int), wordV (V n).has] (V n).text) ∧ Down D V n nx
/-- The version that is read: the newest one that is not newer than at. -/
def lastAt (V : Nat → VsnD) (at_ : Int) : Nat → Option Nat
  | 0 => none
  | n + 1 => if (V n).ep ≤ at_ then some n else lastAt V at_ n
theorem lastAt_lt {V : Nat → VsnD} {at_ : Int} : ∀ {n j : Nat}, lastAt V at_ n = some j → j < n
  | 0, _, h => by cases h
  | n + 1, j, h => by
    unfold lastAt at h
    split at h
    · cases h; omega
    · have := lastAt_lt h; omega
/-- How many are passed of n. -/
def passN (V : Nat → VsnD) (at_ : Int) (n : Nat) : Nat := match lastAt V at_ n with | none => n | some j => n - 1 - j
theorem passN_le (V : Nat → VsnD) (at_ : Int) (n : Nat) : passN V at_ n ≤ n := by unfold passN; split <;> omega
/-- What is read. -/
def seenC (V : Nat → VsnD) (at_ : Int) (n : Nat) : Bool × ByteArray × Nat := match lastAt V at_ n with | none => (false, ⟨#[]⟩, 0) | some j => ((V j).has, if (V j).has then (V j).text else ⟨#[]⟩, (V j).block)
/-- The acts behind the head's load. -/
def actsC (V : Nat → VsnD) (at_ : Int) (n : Nat) : Nat := 2 * passN V at_ n + match lastAt V at_ n with | none => 0 | some j => if (V j).has then 3 else 2
def endC (h : Int) (V : Nat → VsnD) (at_ : Int) (n p : Nat) : ChnD := ⟨h, at_, 6, ((p + passN V at_ n : Nat) : Int), (seenC V at_ n).1, (seenC V at_ n).2.1, (seenC V at_ n).2.2⟩

/-- Where it stands behind a load of the head, or of a Next. -/
def atC (h at_ : Int) (p b : Nat) : ChnD := ⟨h, at_, if b = 0 then 6 else 2, (p : Int), false, ⟨#[]⟩, b⟩
theorem anyC_nat (b n : Nat) : anyC (b : Int) n = if b = 0 then 6 else n := by
  unfold anyC
  by_cases h : b = 0
  · subst h; rfl
  · rw [if_neg (by omega), if_neg h]

theorem spot_live {D : HpD} {b : Nat} {ws : List Int} {t : ByteArray} {c : Int} (h : liveAt D.L b = some (blkV ws t)) (h0 : 0 ≤ c) (h1 : c < (ws.length : Int)) : spot D.L b c = 0 := by
  rw [spot_some h, if_neg (by show ¬ (c < 0 ∨ (ws.length : Int) ≤ c); omega)]
theorem word_live {D : HpD} {b : Nat} {ws : List Int} {t : ByteArray} {c : Int} (h : liveAt D.L b = some (blkV ws t)) : wordAt D.L b c = ws.getD c.toNat 0 := by
  unfold wordAt; rw [h]; rfl

theorem chain_runs {D : HpD} {V : Nat → VsnD} {h at_ : Int} (S0 : PmS ChnD) : ∀ (n b p n0 : Nat), Down D V n b → p + n ≤ 1000000 → stM ChnM S0 n0 = ⟨D, atC h at_ p b⟩ ∧ (toM ChnM S0 n0).length = n0 →
    stM ChnM S0 (n0 + actsC V at_ n) = ⟨D, endC h V at_ n p⟩ ∧ (toM ChnM S0 (n0 + actsC V at_ n)).length = n0 + actsC V at_ n
  | 0, b, p, n0, hd, hp, h0 => by
    obtain rfl : b = 0 := hd
    exact h0
  | n + 1, b, p, n0, hd, hp, h0 => by
    obtain ⟨hb, hb2, he, nx, hl, hd2⟩ := hd
    have hb0 : b ≠ 0 := by omega
    have e0 : atC h at_ p b = ⟨h, at_, 2, (p : Int), false, ⟨#[]⟩, b⟩ := by unfold atC; rw [if_neg hb0]
    rw [e0] at h0
    have s1 := stM_succ h0 (adv_loads (M := ChnM) (D := D) (E := (⟨h, at_, 2, (p : Int), false, ⟨#[]⟩, b⟩ : ChnD)) (b := b) (c := 0) rfl (by decide) (spot_live hl (by decide) (by simp)))
    rw [word_live hl] at s1
    by_cases hle : (V n).ep ≤ at_
    · have e1 : takeC ⟨h, at_, 2, (p : Int), false, ⟨#[]⟩, b⟩ (V n).ep ⟨#[]⟩ = ⟨h, at_, 4, (p : Int), false, ⟨#[]⟩, b⟩ := by
        show (⟨h, at_, if at_ < (V n).ep then 3 else 4, _, _, _, _⟩ : ChnD) = _
        rw [if_neg (by omega)]
      have s1' : stM ChnM S0 (n0 + 1) = ⟨D, ⟨h, at_, 4, (p : Int), false, ⟨#[]⟩, b⟩⟩ ∧ (toM ChnM S0 (n0 + 1)).length = n0 + 1 := ⟨s1.1.trans (by rw [← e1]; rfl), s1.2⟩
      have s2 := stM_succ s1' (adv_loads (M := ChnM) (D := D) (E := (⟨h, at_, 4, (p : Int), false, ⟨#[]⟩, b⟩ : ChnD)) (b := b) (c := 2) rfl (by decide) (spot_live hl (by decide) (by simp)))
      rw [word_live hl] at s2
      have eL : lastAt V at_ (n + 1) = some n := by unfold lastAt; rw [if_pos hle]
      have eP : passN V at_ (n + 1) = 0 := by unfold passN; rw [eL]; show n + 1 - 1 - n = 0; omega
      have eS : seenC V at_ (n + 1) = ((V n).has, if (V n).has then (V n).text else ⟨#[]⟩, (V n).block) := by unfold seenC; rw [eL]
      have eA : actsC V at_ (n + 1) = if (V n).has then 3 else 2 := by unfold actsC; rw [eL, eP]; simp
      have eE : endC h V at_ (n + 1) p = ⟨h, at_, 6, (p : Int), (V n).has, if (V n).has then (V n).text else ⟨#[]⟩, b⟩ := by unfold endC; rw [eP, eS, hb]; rfl
      rw [eA, eE]
      cases hh : (V n).has with
      | false =>
        rw [hh] at s2
        exact s2
      | true =>
        rw [hh] at s2
        have s2' : stM ChnM S0 (n0 + 1 + 1) = ⟨D, ⟨h, at_, 5, (p : Int), true, ⟨#[]⟩, b⟩⟩ ∧ (toM ChnM S0 (n0 + 1 + 1)).length = n0 + 1 + 1 := s2
        have s3 := stM_succ s2' (adv_texts (M := ChnM) (D := D) (E := (⟨h, at_, 5, (p : Int), true, ⟨#[]⟩, b⟩ : ChnD)) (b := b) rfl (there_hit hl))
        rw [textAt_hit hl] at s3
        exact s3
    · have e1 : takeC ⟨h, at_, 2, (p : Int), false, ⟨#[]⟩, b⟩ (V n).ep ⟨#[]⟩ = ⟨h, at_, 3, (p : Int), false, ⟨#[]⟩, b⟩ := by
        show (⟨h, at_, if at_ < (V n).ep then 3 else 4, _, _, _, _⟩ : ChnD) = _
        rw [if_pos (by omega)]
      have s1' : stM ChnM S0 (n0 + 1) = ⟨D, ⟨h, at_, 3, (p : Int), false, ⟨#[]⟩, b⟩⟩ ∧ (toM ChnM S0 (n0 + 1)).length = n0 + 1 := ⟨s1.1.trans (by rw [← e1]; rfl), s1.2⟩
      have s2 := stM_succ s1' (adv_loads (M := ChnM) (D := D) (E := (⟨h, at_, 3, (p : Int), false, ⟨#[]⟩, b⟩ : ChnD)) (b := b) (c := 1) rfl (by decide) (spot_live hl (by decide) (by simp)))
      rw [word_live hl] at s2
      have e2 : takeC ⟨h, at_, 3, (p : Int), false, ⟨#[]⟩, b⟩ (nx : Int) ⟨#[]⟩ = atC h at_ (p + 1) nx := by
        show (⟨h, at_, anyC (nx : Int) 2, wrap64 ((p : Int) + 1), false, ⟨#[]⟩, ((nx : Int)).toNat⟩ : ChnD) = _
        rw [anyC_nat, IntWalk.wrap64_in _ (by omega), Int.toNat_natCast]
        rfl
      have s2' : stM ChnM S0 (n0 + 1 + 1) = ⟨D, atC h at_ (p + 1) nx⟩ ∧ (toM ChnM S0 (n0 + 1 + 1)).length = n0 + 1 + 1 := ⟨s2.1.trans (by rw [← e2]; rfl), s2.2⟩
      have ih := chain_runs S0 n nx (p + 1) (n0 + 1 + 1) hd2 (by omega) s2'
      have eL : lastAt V at_ (n + 1) = lastAt V at_ n := by
        show (if (V n).ep ≤ at_ then some n else lastAt V at_ n) = _
        rw [if_neg hle]
      have eP : passN V at_ (n + 1) = passN V at_ n + 1 := by
        unfold passN; rw [eL]
        split
        · rfl
        · rename_i j hj; have := lastAt_lt hj; omega
      have eA : actsC V at_ (n + 1) = actsC V at_ n + 2 := by unfold actsC; rw [eL, eP]; omega
      have eS : seenC V at_ (n + 1) = seenC V at_ n := by unfold seenC; rw [eL]
      have eE : endC h V at_ (n + 1) p = endC h V at_ n (p + 1) := by
        unfold endC; rw [eS, eP, show p + (passN V at_ n + 1) = p + 1 + passN V at_ n from by omega]
      rw [eA, eE, show n0 + (actsC V at_ n + 2) = n0 + 1 + 1 + actsC V at_ n from by omega]
      exact ih

/-- Alone: what is read. -/
theorem actsC_le (V : Nat → VsnD) (at_ : Int) (n : Nat) : actsC V at_ n ≤ 2 * passN V at_ n + 3 := by
  unfold actsC
  split
  · omega
  · split <;> omega
theorem chain_alone {D : HpD} {V : Nat → VsnD} {h at_ : Int} {n b : Nat} (hc : 0 ≤ h) (hs : spot D.L 1 h = 0) (hw : wordAt D.L 1 h = (b : Int)) (hd : Down D V n b) (hn : n ≤ 1000) (m : Nat) (hm : 2 * n + 4 ≤ m) :
    stM ChnM ⟨D, newC h at_⟩ m = ⟨D, endC h V at_ n 0⟩ ∧ (toM ChnM ⟨D, newC h at_⟩ m).length = 1 + actsC V at_ n := by
  have s1 := stM_succ (M := ChnM) (S := ⟨D, newC h at_⟩) (T := ⟨D, newC h at_⟩) (n := 0) ⟨rfl, rfl⟩ (adv_loads (M := ChnM) (D := D) (E := newC h at_) (b := 1) (c := h) rfl hc hs)
  rw [hw] at s1
  have e1 : takeC (newC h at_) (b : Int) ⟨#[]⟩ = atC h at_ 0 b := by
    show (⟨h, at_, anyC (b : Int) 2, 0, false, ⟨#[]⟩, ((b : Int)).toNat⟩ : ChnD) = _
    rw [anyC_nat, Int.toNat_natCast]
    rfl
  have s1' : stM ChnM ⟨D, newC h at_⟩ (0 + 1) = ⟨D, atC h at_ 0 b⟩ ∧ (toM ChnM ⟨D, newC h at_⟩ (0 + 1)).length = 0 + 1 := ⟨s1.1.trans (by rw [← e1]; rfl), s1.2⟩
  obtain ⟨r1, r2⟩ := chain_runs ⟨D, newC h at_⟩ n b 0 (0 + 1) hd (by omega) s1'
  have hno : stepM ChnM (stM ChnM ⟨D, newC h at_⟩ (0 + 1 + actsC V at_ n)) = none := by
    rw [r1]; rfl
  have hl := actsC_le V at_ n
  have hp := passN_le V at_ n
  obtain ⟨q1, q2⟩ := mstop_stays hno (m - (0 + 1 + actsC V at_ n))
  rw [show 0 + 1 + actsC V at_ n + (m - (0 + 1 + actsC V at_ n)) = m from by omega] at q1 q2
  exact ⟨by rw [q2, r1], by rw [q1, r2]⟩

/-! ### one more at the head -/
/-- The control block of z cells; in its cell k stands the head of a chain of the first n of V. -/
structure Shl (k z : Int) (D : HpD) (V : Nat → VsnD) (n : Nat) : Prop where
  faults : D.faults = 0
  fine : Fine D
  ctrl : ∃ ws t, liveAt D.L 1 = some (blkV ws t) ∧ (ws.length : Int) = z
  inn : 0 ≤ k ∧ k < z
  down : ∃ b : Nat, wordAt D.L 1 k = (b : Int) ∧ Down D V n b
  len : D.L.length = 1 + n
def pushD (D : HpD) (k ep : Int) (has : Bool) (t : ByteArray) : HpD := storeD (D.add (blkV [ep, wordAt D.L 1 k, wordV has] t)) 1 k ((D.L.length + 1 : Nat) : Int)
section
variable {k z : Int} {D : HpD} {V : Nat → VsnD} {n : Nat}
theorem Shl.spot (h : Shl k z D V n) : spot D.L 1 k = 0 := by
  obtain ⟨ws, t, h1, h2⟩ := h.ctrl
  have := h.inn
  exact spot_live h1 this.1 (by omega)
theorem Shl.few (h : Shl k z D V n) {m : Nat} (hm : m ≤ 800000) (hn : n ≤ 1000) : FewD D m := ⟨by rw [h.faults]; omega, by rw [h.len]; omega, h.fine⟩
theorem Shl.start (V : Nat → VsnD) (h0 : 0 ≤ k) (h1 : k < z) : Shl k z (fieldD z.toNat) V 0 := by
  have hl : liveAt (fieldD z.toNat).L 1 = some (blkV (List.replicate z.toNat 0) ⟨#[]⟩) := rfl
  refine ⟨rfl, (field_few (z := z) (n := 0) (by omega)).fine, ⟨_, _, hl, by simp; omega⟩, ⟨h0, h1⟩, ⟨0, ?_, rfl⟩, rfl⟩
  rw [word_live hl, List.getD_eq_getElem?_getD, List.getElem?_replicate]
  split <;> rfl
theorem Down.stays {D' : HpD} : ∀ {n b : Nat}, Down D V n b → (∀ j, 2 ≤ j → j ≤ D.L.length → liveAt D'.L j = liveAt D.L j) → Down D' V n b
  | 0, _, h, _ => h
  | _ + 1, b, ⟨h1, h2, h3, nx, h4, h5⟩, hs => ⟨h1, h2, h3, nx, (hs b h2 (liveAt_some h4).2.1).trans h4, h5.stays hs⟩
theorem Shl.pushed (h : Shl k z D V n) (ep : Int) (has : Bool) (t : ByteArray) : ∃ ws u, liveAt D.L 1 = some (blkV ws u) ∧ (ws.length : Int) = z ∧ Go.Proofs.Ytpnfbabiibopnaa.spot (D.add (blkV [ep, wordAt D.L 1 k, wordV has] t)).L 1 k = 0 ∧
    pushD D k ep has t = ⟨(D.L ++ [blkV [ep, wordAt D.L 1 k, wordV has] t]).set 0 (blkV (ws.set k.toNat ((D.L.length + 1 : Nat) : Int)) u), D.locked, D.faults⟩ := by
  obtain ⟨ws, u, hb, hl⟩ := h.ctrl
  have hlen := (liveAt_some hb).2.1
  have hin := h.inn
  have hb1 : liveAt (D.add (blkV [ep, wordAt D.L 1 k, wordV has] t)).L 1 = some (blkV ws u) := by
    show liveAt (D.L ++ [_]) 1 = _
    rw [liveAt_snoc, if_neg (by omega), hb]
  have hsp := spot_live (D := D.add (blkV [ep, wordAt D.L 1 k, wordV has] t)) (c := k) hb1 hin.1 (by omega)
  refine ⟨ws, u, hb, hl, hsp, ?_⟩
  unfold pushD storeD
  rw [if_pos hsp]
  unfold HpD.word
  rw [hb1]
  rfl
/-- The control block of z cells, and k one of them. -/
structure Sho (k z : Int) (D : HpD) : Prop where
  faults : D.faults = 0
  fine : Fine D
  ctrl : ∃ ws t, liveAt D.L 1 = some (blkV ws t) ∧ (ws.length : Int) = z
  inn : 0 ≤ k ∧ k < z
  len : D.L.length ≤ 1001
theorem Shl.sho (h : Shl k z D V n) (hn : n ≤ 1000) : Sho k z D := ⟨h.faults, h.fine, h.ctrl, h.inn, by rw [h.len]; omega⟩
theorem Sho.spot (h : Sho k z D) : Go.Proofs.Ytpnfbabiibopnaa.spot D.L 1 k = 0 := by
  obtain ⟨ws, t, h1, h2⟩ := h.ctrl
  have := h.inn
  exact spot_live h1 this.1 (by omega)
theorem Sho.few (h : Sho k z D) {m : Nat} (hm : m ≤ 800000) : FewD D m := ⟨by rw [h.faults]; omega, by have := h.len; omega, h.fine⟩
theorem Sho.pushed (h : Sho k z D) (ep : Int) (has : Bool) (t : ByteArray) : Go.Proofs.Ytpnfbabiibopnaa.spot (D.add (blkV [ep, wordAt D.L 1 k, wordV has] t)).L 1 k = 0 := by
  obtain ⟨ws, u, hb, hl⟩ := h.ctrl
  have hlen := (liveAt_some hb).2.1
  have hin := h.inn
  have hb1 : liveAt (D.add (blkV [ep, wordAt D.L 1 k, wordV has] t)).L 1 = some (blkV ws u) := by
    show liveAt (D.L ++ [_]) 1 = _
    rw [liveAt_snoc, if_neg (by omega), hb]
  exact spot_live (D := D.add (blkV [ep, wordAt D.L 1 k, wordV has] t)) (c := k) hb1 hin.1 (by omega)
/-- The next one of V is put at the head. -/
theorem Shl.push (h : Shl k z D V n) (hb : (V n).block = D.L.length + 1) (he : 0 ≤ (V n).ep ∧ (V n).ep < 18446744073709551616) (ht : (V n).text.size ≤ 281474976710656) (hn : n ≤ 1000) :
    Shl k z (pushD D k (V n).ep (V n).has (V n).text) V (n + 1) := by
  obtain ⟨ws, u, hl1, hlw, -, e⟩ := h.pushed (V n).ep (V n).has (V n).text
  obtain ⟨b0, hw, hd⟩ := h.down
  have hin := h.inn
  have hlen := h.len
  rw [e, hw]
  have hL : ∀ j, liveAt ((D.L ++ [blkV [(V n).ep, (b0 : Int), wordV (V n).has] (V n).text]).set 0 (blkV (ws.set k.toNat ((D.L.length + 1 : Nat) : Int)) u)) j =
      if j = 1 then some (blkV (ws.set k.toNat ((D.L.length + 1 : Nat) : Int)) u) else if j = D.L.length + 1 then some (blkV [(V n).ep, (b0 : Int), wordV (V n).has] (V n).text) else liveAt D.L j := fun j => by
    have := liveAt_set (D.L ++ [blkV [(V n).ep, (b0 : Int), wordV (V n).has] (V n).text]) 1 j (blkV (ws.set k.toNat ((D.L.length + 1 : Nat) : Int)) u) (Nat.le_refl _) (by simp)
    rw [show (1 : Nat) - 1 = 0 from rfl] at this
    rw [this, liveAt_snoc]
    rfl
  have h1L := hL 1
  rw [if_pos rfl] at h1L
  have hnL := hL (D.L.length + 1)
  rw [if_neg (by omega), if_pos rfl] at hnL
  refine ⟨h.faults, fun x hx => ?_, ⟨_, _, h1L, by rw [← hlw]; simp⟩, hin, ⟨D.L.length + 1, ?_, hb.symm, by omega, he, b0, hnL, hd.stays (fun j h2 hj => ?_)⟩, by simp; omega⟩
  · have hb0 := h.fine.wordAt 1 k
    rw [hw] at hb0
    rcases List.mem_or_eq_of_mem_set hx with hx | rfl
    · rcases List.mem_append.1 hx with hx | hx
      · exact h.fine x hx
      · obtain rfl := List.mem_singleton.1 hx
        refine ⟨fun w hw => ?_, ht⟩
        have hw' : w = (V n).ep ∨ w = (b0 : Int) ∨ w = wordV (V n).has := by simpa [blkV] using hw
        rcases hw' with rfl | rfl | rfl
        · exact he
        · exact hb0
        · unfold wordV; split <;> omega
    · have hbf := h.fine.at hl1
      refine ⟨fun w hw => ?_, hbf.2⟩
      rcases List.mem_or_eq_of_mem_set hw with hw | rfl
      · exact hbf.1 w hw
      · omega
  · rw [word_live (D := ⟨_, D.locked, D.faults⟩) h1L, List.getD_eq_getElem?_getD, List.getElem?_set_self (by omega)]; rfl
  · show liveAt _ j = _
    rw [hL j, if_neg (by omega), if_neg (by omega)]
end

end Go.Proofs.Ytpnfbabiibopnaa
