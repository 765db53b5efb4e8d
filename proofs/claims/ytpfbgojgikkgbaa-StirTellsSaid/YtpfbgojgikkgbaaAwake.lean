/-
  The chapter's examples, as each of the statements asks them: they come out as the document says.
-/
import Derived.Test.YtpfbgojgikkgbaaLawway
namespace Go.Proofs.Ytpfbgojgikkgbaa
open Go Go.RowKit Go.Shelf

theorem lawway_any (u m : Int) (most : Nat) (w : World) (h0 : 0 ≤ u) (h1 : u ≤ 18446744073709551615) (hm : m ≤ 9223372036854775807) (hmost : most ≤ 100000) :
    Calls Try.prog 15 #[.int .u64 u, .int .i64 m, .int .i64 most] w (Collected ((wayList (startOf u m) m).take most) w) :=
  callsIn_wide.1 (lawway_in Fence.wide 9 (fun _ => trivial) rfl rfl (fun _ _ _ _ _ h => callsIn_wide.2 h) (Nat.le_refl _) u m most w h0 h1 hm hmost)

theorem collected_cell {xs : List Int} {w W' : World} {g cap : Nat} (hr : W'.ownsRow w.heap.size 3 1 (.slice (some ⟨g, 0, none⟩) xs.length cap) xs.length (xs.map (Value.int .i64))) {j : Nat} {x : Int} (h : xs[j]? = some x) :
    W'.cell? ⟨g, j, none⟩ = some (.int .i64 x) := by
  have := hr.cells (g := g) rfl j (.int .i64 x) (by simp [h])
  have hadd : (⟨g, 0, none⟩ : Addr).add j = ⟨g, j, none⟩ := by unfold Addr.add; split <;> simp_all
  rwa [hadd] at this

theorem example_way : (wayList (startOf 5 3) 3).take 9 = [2, 0, 1] := by decide

theorem sum_empty (w : World) : Calls Try.prog 7 #[.int .u64 0, .string ⟨#[]⟩] w fun e w' => e = .returned (.int .u64 14695981039346656037) ∧ w = w' := by
  have h := sum_any 0 ⟨#[]⟩ w (by simp [ByteArray.size])
  rw [show (⟨#[]⟩ : ByteArray).data.toList = [] from rfl, sumU_zero] at h
  exact h

/-- What may be said of the world behind the call: true comes, and nothing that lay has turned. -/
def Yes (w : World) (e : Ending) (W' : World) : Prop := e = .returned (.bool true) ∧ Below w.heap.size w W'

set_option maxRecDepth 100000 in
set_option maxHeartbeats 1000000 in
theorem awake_any (w : World) : Calls Try.prog 6 #[] w (Yes w) := by
  have HW : Hid (Calls Try.prog 15 #[.int .u64 5, .int .i64 3, .int .i64 9] w (Collected [2, 0, 1] w)) := by
    have h := lawway_any 5 3 9 w (by omega) (by omega) (by omega) (by omega)
    rw [example_way] at h
    exact h
  go_enter Try.func6, Try.ntmps6
  go_wp2_with fail
  refine HW.out.mono ?_
  rintro e w1 ⟨g, cap, rfl, hr, hb⟩
  have hc0 := collected_cell hr (j := 0) rfl
  have hc1 := collected_cell hr (j := 1) rfl
  have hc2 := collected_cell hr (j := 2) rfl
  have HB := Lib.hid hb
  clear hr hb
  go_wp2_with fail
  refine (sum_empty _).mono ?_
  rintro e w' ⟨rfl, rfl⟩
  go_wp2_with fail
  go_ret
  exact ⟨rfl, HB.out⟩

end Go.Proofs.Ytpfbgojgikkgbaa
