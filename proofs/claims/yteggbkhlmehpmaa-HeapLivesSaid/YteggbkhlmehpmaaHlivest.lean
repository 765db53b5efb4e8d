/-
  HeapLives' states: two heaps, each beside a heap of the reference.
-/
import Derived.Test.YteggbkhlmehpmaaHcopwalk
import Derived.Test.YteggbkhlmehpmaaHblocks
namespace Go.Proofs.Yteggbkhlmehpmaa
open Go Go.RowKit

section
variable {W X Y : World} {B p q p' q' : Nat} {D D' E E' : HpD}
theorem Four.below (h : Four B W p q p' q' D D' E E' X) (hb : Below X.heap.size X Y) : Four B W p q p' q' D D' E E' Y := by
  obtain ⟨f, f', g, g', h1, h2, h3, h4⟩ := h
  exact ⟨f, f', g, g', h1.below hb, h2.below hb, h3, h4.trans (hb.mono h1.hp.size)⟩
theorem Four.low (h : Four B W p q p' q' D D' E E' X) : Below B W X := by obtain ⟨_, _, _, _, _, _, _, h4⟩ := h; exact h4
theorem Four.size (h : Four B W p q p' q' D D' E E' X) : B ≤ X.heap.size := by obtain ⟨_, _, _, _, h1, _⟩ := h; exact h1.hp.size
theorem Four.cells (h : Four B W p q p' q' D D' E E' X) : X.cell? ⟨q, 1, none⟩ = some (.bool D'.locked) ∧ X.cell? ⟨q, 2, none⟩ = some (.int .i64 D'.faults) := by
  obtain ⟨_, _, _, _, h1, _⟩ := h
  obtain ⟨v, g, cp, hr⟩ := h1.rf
  exact ⟨hr.cells.2.1, hr.cells.2.2.1⟩
theorem locked_told {lk : Bool} (h : Four B W p q p' q' D D' E E' X) (hk : D.locked = lk) : Calls Try.prog 12 #[.pointer (some ⟨p, 0, none⟩)] X fun e W' => e = .returned (.bool lk) ∧ X = W' := by
  obtain ⟨_, _, _, _, h1, _⟩ := h
  subst hk; exact locked_any X h1.hp
theorem faults_four {k : Nat} (h : Four B W p q p' q' D D' E E' X) (hk : D.faults = k) : Calls Try.prog 11 #[.pointer (some ⟨p, 0, none⟩)] X fun e W' => e = .returned (.int .i64 k) ∧ X = W' := by
  obtain ⟨_, _, _, _, h1, _⟩ := h
  exact faults_told X h1.hp hk
theorem size_four {k s : Nat} (h : Four B W p q p' q' D D' E E' X) (hk : k < 18446744073709551616) (hs : sizeAt D.L k = s) : Calls Try.prog 13 #[.pointer (some ⟨p, 0, none⟩), .int .u64 (k : Int)] X fun e W' => e = .returned (.int .i64 (s : Int)) ∧ X = W' := by
  obtain ⟨_, _, _, _, h1, _⟩ := h
  subst hs
  exact size_any X h1.hp k hk
theorem rsize_four {k s : Nat} (h : Four B W p q p' q' D D' E E' X) (hk : k < 18446744073709551616) (hs : sizeAt D'.L k = s) : Calls Try.prog 14 #[.pointer (some ⟨q, 0, none⟩), .int .u64 (k : Int)] X fun e W' => e = .returned (.int .i64 (s : Int)) ∧ X = W' := by
  obtain ⟨_, _, _, _, h1, _⟩ := h
  subst hs
  exact rsize_any X h1.rf k hk
theorem blocks_four {n : Nat} (h : Four B W p q p' q' D D' E E' X) (hl : D.L.length ≤ 200) (hn : (rowN 0 D.L).length = n) : Calls Try.prog 16 #[.pointer (some ⟨p, 0, none⟩)] X fun e W' => ∃ a c, e = .returned (.slice a n c) ∧ Lot W' 28 1 (.slice a n c) n ((rowN 0 D.L).map uval) ∧ Below X.heap.size X W' := by
  obtain ⟨_, _, _, _, h1, _⟩ := h
  exact blocks_told blocks_ok X h1.hp hl hn
theorem rblocks_four {n : Nat} (h : Four B W p q p' q' D D' E E' X) (hn : (rowN 0 D'.L).length = n) : Calls Try.prog 17 #[.pointer (some ⟨q, 0, none⟩)] X fun e W' => ∃ q c, e = .returned (.slice (some ⟨q, 0, none⟩) n c) ∧ Lot W' 28 1 (.slice (some ⟨q, 0, none⟩) n c) n ((rowN 0 D'.L).map uval) ∧ Below X.heap.size X W' := by
  obtain ⟨_, _, _, _, h1, _⟩ := h
  exact rblocks_told X h1.rf hn
end

/-- Their beginnings. -/
theorem four_start {B p : Nat} {W X : World} {f : Nat → Prop} (h : Hp X B p emptyD f) (hb : Below B W X) (Y1 Y2 Y3 : World)
    (e1 : Y1 = X.alloc (.cells #[.map none, .int .u64 0, .bool false, .int .i64 0] 30)) (e2 : Y2 = Y1.alloc (.cells #[.slice none 0 0, .bool false, .int .i64 0] 34)) (e3 : Y3 = Y2.alloc (.cells #[.slice none 0 0, .bool false, .int .i64 0] 34)) :
    Four B W p (X.heap.size + 1) X.heap.size (X.heap.size + 2) emptyD emptyD emptyD emptyD Y3 := by
  have b1 : Below X.heap.size X Y1 := by rw [e1]; exact below_alloc _ _
  have b2 : Below Y1.heap.size Y1 Y2 := by rw [e2]; exact below_alloc _ _
  have b3 : Below Y2.heap.size Y2 Y3 := by rw [e3]; exact below_alloc _ _
  have s1 : Y1.heap.size = X.heap.size + 1 := by rw [e1]; simp
  have s2 : Y2.heap.size = X.heap.size + 2 := by rw [e2]; simp; omega
  have hu := plain_heap X
  rw [← e1] at hu
  have hx := plain_ref Y1
  rw [← e2, s1] at hx
  have hy := plain_ref Y2
  rw [← e3, s2] at hy
  have hB := h.size
  have fu : ∀ k, (k = X.heap.size ∨ (none : Option Nat) = some k ∨ ∃ (j : Nat) (b : BlkD), liveAt [] j = some b ∧ (0 : Nat) = k) → k = X.heap.size := fun k hk => by
    rcases hk with h0 | h0 | ⟨j, b, hj, _⟩
    · exact h0
    · cases h0
    · rw [liveAt_nil] at hj; cases hj
  have fx : ∀ k, (k = X.heap.size + 1 ∨ (Value.slice none 0 0).ownBlock = some k ∨ ∃ (j : Nat) (b : BlkD), ([] : List BlkD)[j]? = some b ∧ (0 : Nat) = k) → k = X.heap.size + 1 := fun k hk => by
    rcases hk with h0 | h0 | ⟨j, b, hj, _⟩
    · exact h0
    · cases h0
    · simp at hj
  have fy : ∀ k, (k = X.heap.size + 2 ∨ (Value.slice none 0 0).ownBlock = some k ∨ ∃ (j : Nat) (b : BlkD), ([] : List BlkD)[j]? = some b ∧ (0 : Nat) = k) → k = X.heap.size + 2 := fun k hk => by
    rcases hk with h0 | h0 | ⟨j, b, hj, _⟩
    · exact h0
    · cases h0
    · simp at hj
  have bX : Below X.heap.size X Y3 := b1.trans ((b2.mono (by omega)).trans (b3.mono (by omega)))
  have b13 : Below Y1.heap.size Y1 Y3 := b2.trans (b3.mono (by omega))
  refine ⟨f, _, _, _, ⟨h.below bX, (hx.below b3).widen (by omega), fun k hk hk' => ?_⟩, ⟨(hu.below b13).widen (by omega), hy.widen (by omega), fun k hk hk' => ?_⟩, fun k hk hk' => ?_, hb.trans (bX.mono hB)⟩
  · have := fx k hk'; have := h.lt k hk; omega
  · have := fu k hk; have := fy k hk'; omega
  · rcases hk with hk | hk <;> rcases hk' with hk' | hk'
    · have := h.lt k hk; have := fu k hk'; omega
    · have := h.lt k hk; have := fy k hk'; omega
    · have := fx k hk; have := fu k hk'; omega
    · have := fx k hk; have := fy k hk'; omega
end Go.Proofs.Yteggbkhlmehpmaa
