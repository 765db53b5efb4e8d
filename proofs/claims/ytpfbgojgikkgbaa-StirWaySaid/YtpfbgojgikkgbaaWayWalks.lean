/-
  The statement that a way comes by each place just once: the walk.
-/
import Derived.Test.YtpfbgojgikkgbaaPlaces
import Derived.BigQuiet
import Derived.Deep.QuietTactic
import Derived.Laws.NewBlocks
namespace Go.Proofs.Ytpfbgojgikkgbaa
open Go Go.RowKit Go.Shelf

/-- What a new slice of 256 numbers holds. -/
def zeros256 : Array Value := Array.replicate 256 (.int .i64 0)
theorem zeros_get (j : Nat) (h : j < 256) : zeros256[j]? = some (.int .i64 0) := by
  unfold zeros256
  rw [Array.getElem?_replicate, if_pos h]
theorem make256 (w : World) : (Instr.makeSlice 29 (.int .i64 256) (.int .i64 256)).run Try.prog w = .ok (.slice (some ⟨w.heap.size, 0, none⟩) 256 256) (w.alloc (.cells zeros256 3)) := by kernel_rfl

/-- Between two rounds: the collected places in block g; how often each has come in block B. -/
def WayRel (n : Int) (M : Nat) (g B : Nat) (w : World) (k : Nat) (wr : World) : Prop :=
  k ≤ M ∧ Below w.heap.size w wr ∧ (∀ j : Nat, j < M → wr.cell? ⟨g, j, none⟩ = some (.int .i64 (placeOf n M j))) ∧
    (∀ j : Nat, j < 256 → wr.cell? ⟨B, j, none⟩ = some (.int .i64 (seenOf n M k j))) ∧ (∀ j : Nat, wr.frozen? ⟨B, j, none⟩ = false)

theorem WayRel.drewN {n : Int} {M g B : Nat} {w : World} {k : Nat} {wr : World} (h : WayRel n M g B w k wr) (m : Nat) : WayRel n M g B w k (wr.drewN m) :=
  ⟨h.1, ⟨h.2.1.os, h.2.1.tape, h.2.1.output, h.2.1.size, h.2.1.block⟩, h.2.2⟩

theorem WayRel.next {n : Int} {M g B X : Nat} {w : World} {k : Nat} {wr : World} (h : WayRel n M g B w k wr) (hk : k < M) (hX : placeOf n M k = (X : Int)) (hgB : g < B) (hwB : w.heap.size ≤ B) :
    WayRel n M g B w (k + 1) (wr.setCell ⟨B, X, none⟩ (.int .i64 1)) := by
  obtain ⟨_, hbel, hcl, hcs, hfr⟩ := h
  refine ⟨hk, hbel.setCell (p := ⟨B, X, none⟩) hwB _, fun j hj => ?_, fun j hj => ?_, fun j => ?_⟩
  · exact (World.cell?_setCell_other wr ⟨B, X, none⟩ ⟨g, j, none⟩ (.int .i64 1) (by intro e; injection e; omega)).trans (hcl j hj)
  · by_cases e : X = j
    · subst e
      rw [World.cell?_setCell_same' _ _ _ (by rw [hcs X hj]; rfl), ← hX, seenOf_same]
    · rw [World.cell?_setCell_other wr ⟨B, X, none⟩ ⟨B, j, none⟩ (.int .i64 1) (by intro e'; injection e' with _ e2; exact e e2), hcs j hj, seenOf_other _ _ _ _ (by rw [hX]; omega)]
  · rw [World.frozen?_setCell]; exact hfr j

theorem place_is (n : Int) (M k X : Nat) (h0 : 0 ≤ n) (h1 : n ≤ 18446744073709551615) (hM : M ≤ 100000) (hk : k ≤ 100000) (hX : placeOf n M k = (X : Int)) (w : World) :
    Calls Try.prog 13 #[.int .u64 n, .int .i64 M, .int .i64 k] w fun e w' => e = .returned (.int .i64 X) ∧ w' = w :=
  (place_any n M k w h0 h1 (by omega) (by omega)).mono fun _ _ ⟨he, hw⟩ => ⟨by rw [he, hX], hw.symm⟩

set_option maxRecDepth 100000 in
set_option maxHeartbeats 1000000 in
theorem way_any (n : Int) (M : Nat) (w : World) (h0 : 0 ≤ n) (h1 : n ≤ 18446744073709551615) (hM : M ≤ 255) :
    Calls Try.prog 4 #[.int .u64 n, .int .u8 M] w (Yes w) := by
  have HW : Hid (Calls Try.prog 15 #[.int .u64 n, .int .i64 M, .int .i64 300] w (Collected (wayList (startOf n M) M) w)) := by
    have h := lawway_any n M 300 w h0 h1 (by omega) (by omega)
    rw [List.take_of_length_le (by rw [wayList_length]; omega)] at h
    exact h
  have hmk := make256
  go_enter Try.func4, Try.ntmps4
  go_wp2_with fail
  refine HW.out.mono ?_
  rintro e w1 ⟨g, cap, rfl, hr, hb⟩
  have hlen : (wayList (startOf n M) M).length = M := by rw [wayList_length]; omega
  have hgB : g < w1.heap.size := (hr.lt g rfl).2
  have hcells : ∀ j : Nat, j < M → w1.cell? ⟨g, j, none⟩ = some (.int .i64 (placeOf n M j)) := fun j hj => collected_cell hr (wayList_get n M j (by omega))
  have hwB : w.heap.size ≤ w1.heap.size := hb.size
  rw [hlen]
  have HREL : Hid (WayRel n M g w1.heap.size w 0 (w1.alloc (.cells zeros256 3))) := by
    refine ⟨Nat.zero_le _, hb.alloc hwB _, fun j hj => ?_, fun j hj => ?_, fun j => ?_⟩
    · rw [World.cell?_alloc_lt _ _ _ hgB]; exact hcells j hj
    · rw [World.cell?_alloc_at _ _ _ _ rfl, zeros_get j hj, seenOf_zero]
    · rw [frozen?_alloc_cells]; simp [World.frozen?]
  clear hr hb hcells hlen
  go_wp2_with fail
  obtain ⟨W0, hW0⟩ : ∃ W0, w1.alloc (.cells zeros256 3) = W0 := ⟨_, rfl⟩
  rw [hW0] at HREL ⊢
  clear hW0
  obtain ⟨B, hB⟩ : ∃ B, w1.heap.size = B := ⟨_, rfl⟩
  rw [hB] at HREL hgB hwB ⊢
  clear hB hmk HW
  go_loopw [7] (fun i wr => ∃ k : Nat, i = .int .i64 k ∧ WayRel n M g B w k wr) (fun i _ => M - (intOf i).toNat)
  case atStart => exact ⟨0, rfl, HREL.out⟩
  case round =>
    obtain ⟨k, rfl, hrel⟩ := hrel
    have HR := Lib.hid hrel
    obtain ⟨hk, hbel, hcl, hcs, hfr⟩ := hrel
    by_cases hlt : k < M
    · obtain ⟨hx0, hx1⟩ := place_bd n M k (by omega)
      obtain ⟨X, hX⟩ : ∃ X : Nat, placeOf n M k = (X : Int) := ⟨(placeOf n M k).toNat, by omega⟩
      rw [hX] at hx0 hx1
      have c1 : wr.cell? ⟨g, k, none⟩ = some (.int .i64 (X : Int)) := by rw [hcl k hlt, hX]
      have c2 : wr.cell? ⟨B, X, none⟩ = some (.int .i64 0) := by rw [hcs X (by omega), ← hX, seenOf_new _ _ _ (by omega)]
      have f2 := hfr X
      have HX := Lib.hid hX
      have hX256 : X < 256 := by omega
      clear hX hcl hcs hfr hbel hx0 HREL
      go_wp2_with fail
      have d1 : (wr.setCell ⟨B, X, none⟩ (.int .i64 1)).cell? ⟨g, k, none⟩ = some (.int .i64 (X : Int)) := (World.cell?_setCell_other wr ⟨B, X, none⟩ ⟨g, k, none⟩ (.int .i64 1) (by intro e; injection e; omega)).trans c1
      have d2 : (wr.setCell ⟨B, X, none⟩ (.int .i64 1)).cell? ⟨B, X, none⟩ = some (.int .i64 1) := World.cell?_setCell_same' _ _ _ (by rw [c2]; rfl)
      obtain ⟨W9, hW9⟩ : ∃ W9, wr.setCell ⟨B, X, none⟩ (.int .i64 1) = W9 := ⟨_, rfl⟩
      rw [hW9] at d1 d2 ⊢
      have HW9 := Lib.hid hW9
      clear hW9 c1 c2 f2
      go_quiet ((go_at_call 13; exact Calls.quiet_of_same (place_is n M k X h0 h1 (by omega) (by omega) HX.out _)))
      go_wp2_with fail
      go_roundw
      case rel => exact ⟨k + 1, by go_num, (HW9.out ▸ (HR.out.next hlt HX.out hgB hwB)).drewN _⟩
      case measure => simp [intOf]; omega
    · obtain rfl : k = M := by omega
      have HBEL := Lib.hid hbel
      clear hcl hcs hfr hbel HREL
      go_wp2_with fail
      refine (awake_any _).mono ?_
      rintro e w' ⟨rfl, hb⟩
      have HB := Lib.hid hb
      clear hb
      go_wp2_with fail
      go_ret
      exact ⟨rfl, HBEL.out.trans (HB.out.mono HBEL.out.size)⟩

end Go.Proofs.Ytpfbgojgikkgbaa
