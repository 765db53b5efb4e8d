/-
  A row of calls: the heap behind it; how great it is. A plain heap of the reference.
-/
import Derived.Test.YteggbkhlmehpmaaHrefblk
namespace Go.Proofs.Yteggbkhlmehpmaa
open Go Go.RowKit

/-- No more blocks than one more, no more faults than one more. -/
def Near (D D' : HpD) : Prop := D'.L.length ≤ D.L.length + 1 ∧ D'.faults ≤ D.faults + 1
theorem Near.same (D : HpD) : Near D D := ⟨by omega, by omega⟩
theorem Near.fault (D : HpD) : Near D D.fault := ⟨Nat.le_succ _, Nat.le_refl _⟩
theorem Near.word (D : HpD) (k : Nat) (i u : Int) : Near D (D.word k i u) := by
  unfold HpD.word
  split
  · exact Near.same D
  · exact ⟨by simp [HpD.at], by simp [HpD.at]⟩
theorem Near.lose (D : HpD) (k : Nat) : Near D (D.lose k) := by
  unfold HpD.lose
  split
  · exact Near.same D
  · exact ⟨by simp [HpD.at], by simp [HpD.at]⟩
theorem next_near (D : HpD) (o : OpD) : Near D (nextD D o) := by
  unfold nextD
  split
  · unfold loadD; split
    · exact Near.same D
    · exact Near.fault D
  split
  · unfold storeD; split
    · exact Near.word ..
    · exact Near.fault D
  split
  · unfold swapD; split
    · split
      · exact Near.word ..
      · exact Near.same D
    · exact Near.fault D
  split
  · unfold bumpD; split
    · exact Near.word ..
    · exact Near.fault D
  split
  · unfold makeD; split
    · exact ⟨by simp [HpD.add], by simp [HpD.add]⟩
    · exact Near.same D
  split
  · unfold wordsD; split
    · exact Near.same D
    · exact Near.fault D
  split
  · unfold dropD; split
    · exact Near.lose ..
    · exact Near.fault D
  split
  · exact ⟨by simp [HpD.lock], by simp [HpD.lock]⟩
  split
  · unfold unlockD; split
    · exact ⟨by simp [HpD.lock], by simp [HpD.lock]⟩
    · exact Near.fault D
  · exact Near.same D

/-- The heap behind the first calls of a row. -/
def runD (D : HpD) (L : List OpD) (k : Nat) : HpD := (L.take k).foldl nextD D
theorem runD_zero (D : HpD) (L : List OpD) : runD D L 0 = D := rfl
theorem runD_succ (D : HpD) {L : List OpD} {k : Nat} {o : OpD} (h : L[k]? = some o) : runD D L (k + 1) = nextD (runD D L k) o := by
  unfold runD
  rw [List.take_add_one, h, Option.toList_some, List.foldl_append]
  rfl
theorem runD_few (D : HpD) (L : List OpD) (k : Nat) : (runD D L k).L.length ≤ D.L.length + k ∧ (runD D L k).faults ≤ D.faults + k := by
  induction k with
  | zero => exact ⟨Nat.le_refl _, Nat.le_refl _⟩
  | succ k ih =>
    cases h : L[k]? with
    | none =>
      have e : runD D L (k + 1) = runD D L k := by
        unfold runD
        rw [List.take_add_one, h]; simp
      rw [e]; omega
    | some o =>
      rw [runD_succ D h]
      have := next_near (runD D L k) o
      unfold Near at this
      omega

/-- A plain heap of the reference. -/
theorem plain_ref (W : World) : Rf (W.alloc (.cells #[.slice none 0 0, .bool false, .int .i64 0] 34)) W.heap.size W.heap.size emptyD (fun k => k = W.heap.size ∨ (Value.slice none 0 0).ownBlock = some k ∨ ∃ (j : Nat) (b : BlkD), ([] : List BlkD)[j]? = some b ∧ (0 : Nat) = k) :=
  ⟨.slice none 0 0, fun _ => 0, fun _ => 0, World.alloc_heap_new W _, Lot.nil _ _ _, fun j b hb => (by simp [emptyD] at hb), fun j k b c hb => (by simp [emptyD] at hb), rfl,
    fun k hk => (by
      rcases hk with h0 | h0 | ⟨j, b, hj, _⟩
      · exact Nat.le_of_eq h0.symm
      · cases h0
      · simp at hj),
    ⟨Nat.zero_le _, Nat.zero_le _⟩, fun j b hb => (by simp [emptyD] at hb)⟩
end Go.Proofs.Yteggbkhlmehpmaa
