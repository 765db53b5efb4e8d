/-
  The chapter's example.
-/
import Derived.Test.YtidnkjedhlaibaaDoorPopen
namespace Go.Proofs.YtidnkjedhlaibaaDoor
open Go Go.RowKit

theorem eqC_run (a p s q v x a' p' s' q' v' x' : Int) (w : World) : (binOp .eql 24 (cfV a p s q v x) (cfV a' p' s' q' v' x')).run Tryd.prog w = .ok (.bool (a == a' && (p == p' && (s == s' && (q == q' && (v == v' && x == x')))))) w := by
  have u3 := Tryd.underlying3
  have u32 := Tryd.underlying22
  have hS : Tryd.prog.underlying 24 = some (.struct (Tryd.prog.fieldsOf 24)) := by kernel_rfl
  have hp : Tryd.prog.stoodInHeld 24 = false := by kernel_rfl
  rw [run_eql_struct, show (10000 : Nat) = 9999 + 1 from rfl, run_equalIn_agg w 9999 24 _ _ hS hp]
  simp only [Program.fieldsOf, Tryd.underlying24]
  have a3 := Tryd.isAgg3
  have z3 := Tryd.sizeOf3
  have a32 := Tryd.isAgg22
  have z32 := Tryd.sizeOf22
  go_simp
  by_cases h1 : a = a' <;> by_cases h2 : p = p' <;> by_cases h3 : s = s' <;> by_cases h4 : q = q' <;> by_cases h5 : v = v' <;> by_cases h6 : x = x' <;> simp [h1, h2, h3, h4, h5, h6]

theorem aw_open (X : World) : Calls Tryd.prog 9 #[cfV 2 1 1 0 0 0] X fun e X' => Below X.heap.size X X' ∧ ∃ o, e = .returned (.pointer (some ⟨o, 0, none⟩)) ∧ OfficeIs 2 1 1 0 0 0 o X' := by
  refine (open_any 2 1 1 0 0 0 X).mono fun e X' h => ?_
  obtain ⟨hb, h⟩ := h
  refine ⟨hb, ?_⟩
  rcases h with ⟨_, h⟩ | ⟨h, _⟩
  · exact h
  · exact absurd h (by decide)
theorem aw_open0 (X : World) : Calls Tryd.prog 9 #[cfV 0 0 0 0 0 0] X fun e X' => e = .returned (.pointer none) ∧ Below X.heap.size X X' := by
  refine (open_any 0 0 0 0 0 0 X).mono fun e X' h => ?_
  obtain ⟨hb, h⟩ := h
  rcases h with ⟨h, _⟩ | ⟨_, h⟩
  · exact absurd h (by decide)
  · exact ⟨h, hb⟩
theorem aw_size (X : World) : Calls Tryd.prog 7 #[cfV 2 1 1 0 0 0] X (Tells 8 X) := by
  have h := size_any 2 1 1 0 0 0 X
  rwa [show sizeW 2 1 1 0 0 = 8 by decide] at h
theorem aw_key (X : World) : Calls Tryd.prog 14 #[cfV 2 1 1 0 0 0, .int .i64 0] X (Tells 6 X) := by
  have h := key_any 2 1 1 0 0 0 0 X
  rwa [show keyW 2 1 1 0 0 0 = 6 by decide] at h

/-- The example's config in its box, and the office that was opened of it. -/
structure Aw (W : World) (o m : Nat) (X : World) : Prop where
  bx : BoxC W 2 1 1 0 0 0 X
  of : X.heap[o]? = some (.cells (officeC 2 1 1 0 0 0 m) 46 (0, 0))
  md : ModelIs X m
theorem Aw.below {W X Y : World} {o m : Nat} (h : Aw W o m X) (hb : Below X.heap.size X Y) : Aw W o m Y := ⟨h.bx.below hb, (hb.block o (heap_lt h.of)).trans h.of, h.md.below hb⟩
theorem Aw.drew {W X : World} {o m : Nat} (h : Aw W o m X) : Aw W o m X.drew := h.below (below_drew X)
theorem Aw.cells {W X : World} {o m : Nat} (h : Aw W o m X) : X.cell? ⟨W.heap.size, 0, none⟩ = some (.int .i64 2) ∧ X.cell? ⟨W.heap.size, 1, none⟩ = some (.int .i64 1) ∧ X.cell? ⟨W.heap.size, 2, none⟩ = some (.int .i64 1) ∧ X.cell? ⟨W.heap.size, 3, none⟩ = some (.int .i64 0) ∧ X.cell? ⟨W.heap.size, 4, none⟩ = some (.int .i64 0) ∧ X.cell? ⟨W.heap.size, 5, none⟩ = some (.int .u64 0) ∧ X.cell? ⟨o, 0, none⟩ = some (.int .i64 2) ∧ X.cell? ⟨o, 1, none⟩ = some (.int .i64 1) ∧ X.cell? ⟨o, 2, none⟩ = some (.int .i64 1) ∧ X.cell? ⟨o, 3, none⟩ = some (.int .i64 0) ∧ X.cell? ⟨o, 4, none⟩ = some (.int .i64 0) ∧ X.cell? ⟨o, 5, none⟩ = some (.int .u64 0) ∧ X.cell? ⟨o, 6, none⟩ = some (.pointer (some ⟨m, 0, none⟩)) ∧ X.cell? ⟨o, 7, none⟩ = some (.int .i64 0) ∧ X.cell? ⟨o, 8, none⟩ = some (.slice none 0 0) := by
  obtain ⟨c0, c1, c2, c3, c4, c5⟩ := h.bx.six
  exact ⟨c0, c1, c2, c3, c4, c5, (cell_of h.of).trans rfl, (cell_of h.of).trans rfl, (cell_of h.of).trans rfl, (cell_of h.of).trans rfl, (cell_of h.of).trans rfl, (cell_of h.of).trans rfl, (cell_of h.of).trans rfl, (cell_of h.of).trans rfl, (cell_of h.of).trans rfl⟩

set_option maxRecDepth 100000 in
set_option maxHeartbeats 4000000 in
theorem awake_any (W : World) : Calls Tryd.prog 17 #[] W (Says true W) := by
  have hq := eqC_run 2 1 1 0 0 0 2 1 1 0 0 0
  have X0 := Lib.hid (BoxC.start W 2 1 1 0 0 0)
  go_enter Tryd.func17, Tryd.ntmps17
  go_wp2_with fail
  refine (aw_open _).mono ?_
  rintro e w1 ⟨hb, o, rfl, m, hO, hM⟩
  have A0 : Hid (Aw W o m w1) := Lib.hid ⟨X0.out.below hb, hO, hM⟩
  clear hb hO hM X0
  go_wp2_with fail
  go_region_held3 (fun w' => w'.cell? ⟨W.heap.size, 0, none⟩ = some (.int .i64 2) ∧ w'.cell? ⟨W.heap.size, 1, none⟩ = some (.int .i64 1) ∧ w'.cell? ⟨W.heap.size, 2, none⟩ = some (.int .i64 1) ∧ w'.cell? ⟨W.heap.size, 3, none⟩ = some (.int .i64 0) ∧ w'.cell? ⟨W.heap.size, 4, none⟩ = some (.int .i64 0) ∧ w'.cell? ⟨W.heap.size, 5, none⟩ = some (.int .u64 0) ∧ w'.cell? ⟨o, 0, none⟩ = some (.int .i64 2) ∧ w'.cell? ⟨o, 1, none⟩ = some (.int .i64 1) ∧ w'.cell? ⟨o, 2, none⟩ = some (.int .i64 1) ∧ w'.cell? ⟨o, 3, none⟩ = some (.int .i64 0) ∧ w'.cell? ⟨o, 4, none⟩ = some (.int .i64 0) ∧ w'.cell? ⟨o, 5, none⟩ = some (.int .u64 0) ∧ w'.cell? ⟨o, 6, none⟩ = some (.pointer (some ⟨m, 0, none⟩)) ∧ w'.cell? ⟨o, 7, none⟩ = some (.int .i64 0) ∧ w'.cell? ⟨o, 8, none⟩ = some (.slice none 0 0))
    (first
      | exact A4.out.cells
      | exact A3.out.cells
      | exact A2.out.cells
      | exact A1.out.cells
      | exact A0.out.drew.cells
      | exact A0.out.cells)
    (first
      | (go_at_call 7; refine (aw_size _).mono ?_; rintro e x1 ⟨rfl, hb⟩; have A1 := Lib.hid (A0.out.drew.below hb); clear hb)
      | (go_at_call 14; refine (aw_key _).mono ?_; rintro e x2 ⟨rfl, hb⟩; have A2 := Lib.hid (A1.out.below hb); clear hb)
      | (go_at_call 22; refine (issued_any m _ A2.out.md).mono ?_; rintro e x3 ⟨rfl, hb⟩; have A3 := Lib.hid (A2.out.below hb); clear hb)
      | (go_at_call 9; refine (aw_open0 _).mono ?_; rintro e x4 ⟨rfl, hb⟩; have A4 := Lib.hid (A3.out.below hb); clear hb))
  all_goals
    go_wp2_with fail
    go_ret
    exact ⟨rfl, A4.out.bx.lo⟩
end Go.Proofs.YtidnkjedhlaibaaDoor
