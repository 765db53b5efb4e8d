/-
  Guards and steps: which of them may be, as the program and as the reference answer.
-/
import Derived.Test.YtoflgkbjmbpdjaaProg
import Derived.Tactics
import Derived.WalkKit
import Derived.WalkLawsBesides
import Derived.LoopTactic
import Derived.BigQuiet
import Derived.Deep.QuietTactic
import Derived.Outline
import Derived.WalkSpells
import Derived.Lib.Hide
namespace Go.Proofs.Ytoflgkbjmbpdjaa
open Go Go.RowKit

/-- A guard by its values. -/
structure GD where
  kind : Int
  key : ByteArray
  val : ByteArray
/-- A step by its values. -/
structure SD where
  kind : Int
  key : ByteArray
  val : ByteArray
  old : ByteArray
  n : Int
/-- Its cells. -/
def GD.cells (g : GD) : List Value := [.int .i64 g.kind, .string g.key, .string g.val]
def SD.cells (s : SD) : List Value := [.int .i64 s.kind, .string s.key, .string s.val, .string s.old, .int .i64 s.n]
/-- It is a value of the language. -/
def GD.fits (g : GD) : Prop := -9223372036854775808 ≤ g.kind ∧ g.kind ≤ 9223372036854775807 ∧ g.key.size ≤ 281474976710656 ∧ g.val.size ≤ 281474976710656
def SD.fits (s : SD) : Prop := -9223372036854775808 ≤ s.kind ∧ s.kind ≤ 9223372036854775807 ∧ s.key.size ≤ 281474976710656 ∧ s.val.size ≤ 281474976710656 ∧ s.old.size ≤ 281474976710656 ∧ -9223372036854775808 ≤ s.n ∧ s.n ≤ 9223372036854775807

theorem size_toList (s : ByteArray) : s.toList.length = s.size := by
  rw [ByteArray.toList_eq]; exact Array.length_toList
theorem isEmpty_size (s : ByteArray) : s.toList.isEmpty = decide (s.size = 0) := by
  rw [← size_toList]; cases s.toList <;> simp

theorem nil_size (s : ByteArray) : s.toList = [] ↔ s.size = 0 := by
  rw [← size_toList]; exact List.length_eq_zero_iff.symm

/-- May the guard be? -/
def rgD (g : GD) : Bool := decide (g.key.size ≤ 16 ∧ (((g.kind = 1 ∨ g.kind = 2) ∧ g.val.size = 0) ∨ (g.kind = 3 ∧ g.val.size ≤ 32)))
/-- May the step be? -/
def rsD (s : SD) : Bool := decide (s.key.size ≤ 16 ∧ s.val.size ≤ 32 ∧ s.old.size ≤ 32 ∧
  ((s.kind = 4 ∧ s.n = 0) ∨ (s.kind = 1 ∧ s.old.size = 0 ∧ s.n = 0) ∨ (s.kind = 3 ∧ s.val.size = 0 ∧ s.old.size = 0) ∨ (s.kind = 2 ∧ s.val.size = 0 ∧ s.old.size = 0 ∧ s.n = 0)))

/-- An answer; what lay lies as it lay. -/
def Says (b : Bool) (w : World) (e : Ending) (w' : World) : Prop := e = .returned (.bool b) ∧ Below w.heap.size w w'
theorem Says.mk {b c : Bool} {w w' : World} (h : c = b) (hb : Below w.heap.size w w') : Says b w (.returned (.bool c)) w' := by subst h; exact ⟨rfl, hb⟩

theorem below_alloc (w : World) (o : Obj) : Below w.heap.size w (w.alloc o) := (Below.refl _ w).alloc (Nat.le_refl _) o
theorem below_set (w : World) (o : Obj) (i : Nat) (u : Value) : Below w.heap.size w ((w.alloc o).setCell ⟨w.heap.size, i, none⟩ u) := (below_alloc w o).setCell (Nat.le_refl _) u
theorem below_set2 (w : World) (o : Obj) (i j : Nat) (u v : Value) : Below w.heap.size w (((w.alloc o).setCell ⟨w.heap.size, i, none⟩ u).setCell ⟨w.heap.size, j, none⟩ v) := (below_set w o i u).setCell (Nat.le_refl _) v

set_option maxHeartbeats 1000000 in
theorem rg_any (g : GD) (w : World) (h : g.fits) : Calls Try.prog 8 #[.agg g.cells.toArray] w (Says (rgD g) w) := by
  obtain ⟨k, s, v⟩ := g
  obtain ⟨h1, h2, h3, h4⟩ := h
  simp only at h1 h2 h3 h4
  simp only [GD.cells]
  go_enter Try.func8, Try.ntmps8
  go_wp2
  all_goals
    go_ret
    refine Says.mk ?_ (below_alloc _ _)
    simp only [isEmpty_size, beq_iff_eq, beq_eq_false_iff_ne, rgD] at *
    rw [Bool.eq_iff_iff]
    simp only [decide_eq_true_eq, Bool.false_eq_true, false_iff]
    omega

set_option maxHeartbeats 1000000 in
theorem refrg_any (g : GD) (w : World) (h : g.fits) : Calls Try.prog 9 #[.agg g.cells.toArray] w (Says (rgD g) w) := by
  obtain ⟨k, s, v⟩ := g
  obtain ⟨h1, h2, h3, h4⟩ := h
  simp only at h1 h2 h3 h4
  simp only [GD.cells]
  go_enter Try.func9, Try.ntmps9
  go_wp2
  all_goals
    go_ret
    refine Says.mk ?_ (below_alloc _ _)
    simp only [isEmpty_size, rgD]
    rw [Bool.eq_iff_iff]
    simp only [decide_eq_true_eq, Bool.false_eq_true, false_iff, true_iff, Bool.or_eq_true, beq_iff_eq]
    omega

set_option maxHeartbeats 2000000 in
theorem rs_any (s : SD) (w : World) (h : s.fits) : Calls Try.prog 10 #[.agg s.cells.toArray] w (Says (rsD s) w) := by
  obtain ⟨k, s, v, o, n⟩ := s
  obtain ⟨h1, h2, h3, h4, h5, h6, h7⟩ := h
  simp only at h1 h2 h3 h4 h5 h6 h7
  simp only [SD.cells]
  go_enter Try.func10, Try.ntmps10
  go_wp2
  all_goals
    go_ret
    refine Says.mk ?_ (by first | exact below_alloc _ _ | exact below_set _ _ _ _ | exact below_set2 _ _ _ _ _ _)
    simp only [nil_size, beq_iff_eq, beq_eq_false_iff_ne, rsD] at *
    rw [Bool.eq_iff_iff]
    simp only [decide_eq_true_eq, Bool.false_eq_true, false_iff, true_iff, beq_iff_eq]
    omega

set_option maxHeartbeats 4000000 in
theorem refrs_any (s : SD) (w : World) (h : s.fits) : Calls Try.prog 11 #[.agg s.cells.toArray] w (Says (rsD s) w) := by
  obtain ⟨k, s, v, o, n⟩ := s
  obtain ⟨h1, h2, h3, h4, h5, h6, h7⟩ := h
  simp only at h1 h2 h3 h4 h5 h6 h7
  simp only [SD.cells]
  go_enter Try.func11, Try.ntmps11
  go_wp2
  all_goals
    go_ret
    refine Says.mk ?_ (below_alloc _ _)
    simp only [nil_size, rsD] at *
    rw [Bool.eq_iff_iff]
    simp only [decide_eq_true_eq, Bool.false_eq_true, false_iff, true_iff, Bool.or_eq_true, beq_iff_eq]
    omega

end Go.Proofs.Ytoflgkbjmbpdjaa
