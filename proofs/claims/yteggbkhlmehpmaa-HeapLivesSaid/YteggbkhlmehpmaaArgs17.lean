/-
  The arguments of heap's statements: slices of bools, of bytes, of texts.
-/
import Derived.Test.YteggbkhlmehpmaaOpen
import Derived.Test.YteggbkhlmehpmaaHlocks
import Derived.Deep.Grids
import Derived.SliceStrings
import Derived.ChangeSlices
namespace Go.Proofs.Yteggbkhlmehpmaa
open Go.ChangeShapes Go.WideShapes Go.ChangeAt Go.RowKit Go.Deep
open Go.ChangeMaps (open_string shut_string)

/-- An address at which a cell lies is plain. -/
theorem plain_add {W : World} {a : Addr} {v0 : Value} (h0 : W.cell? (a.add 0) = some v0) {i : Nat} {v : Value} (h : W.cell? (a.add i) = some v) : a = ⟨a.block, a.off, none⟩ ∧ W.cell? ⟨a.block, a.off + i, none⟩ = some v := by
  rw [add_zero'] at h0
  have ha := (addr_plain h0).1
  refine ⟨ha, ?_⟩
  rw [ha, Addr.add_lit] at h
  exact h

theorem bools_open {H : Type} {enc : TypeId × Value → H} {W : World} {fuel : Nat} {cs : List Value} {x : DataW H × List MemPlace} (hf : DataW.trod enc Try.prog W 0 (fun _ => true) true fuel 58 cs = some x) :
    ∃ (pa : Option Addr) (len cap : Nat) (L : List Bool), cs = [.slice pa len cap] ∧ L.length = len ∧ Sbl W pa L ∧ len ≤ maxLen := by
  rcases open_bools Try.underlying58 Try.underlying4 (by kernel_rfl) hf with ⟨hcs, _⟩ | ⟨a, len, cap, Bf, hcs, hb, hl, hm, hx, hi⟩
  · exact ⟨none, 0, 0, [], hcs, rfl, fun _ h => absurd h (Nat.not_lt_zero _), Nat.zero_le _⟩
  · refine ⟨some a, len, cap, (List.range len).map Bf, hcs, by simp, fun j hj => ?_, by omega⟩
    have hj' : j < len := by simpa using hj
    obtain ⟨h1, h2⟩ := plain_add (hi 0 (by omega)) (hi j (by omega))
    exact ⟨a.block, a.off, by rw [← h1], by simpa using h2⟩

end Go.Proofs.Yteggbkhlmehpmaa
