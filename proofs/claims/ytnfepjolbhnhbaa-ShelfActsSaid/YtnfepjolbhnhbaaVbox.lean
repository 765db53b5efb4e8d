/-
  A pair of words and a change, boxed when a law begins.
-/
import Derived.Test.YtnfepjolbhnhbaaVer2
namespace Go.Proofs.Ytnfepjolbhnhbaa
open Go Go.RowKit

/-- The two boxes, and what lies behind them. -/
structure Boxes (W : World) (ep nx : Int) (key : ByteArray) (has : Bool) (val : ByteArray) (X : World) : Prop where
  low : Below W.heap.size W X
  b0 : X.heap[W.heap.size]? = some (.cells #[.int .u64 ep, .int .u64 nx] 23 (0, 0))
  b1 : X.heap[W.heap.size + 1]? = some (chO key has val)
theorem Boxes.start (W : World) (ep nx : Int) (key : ByteArray) (has : Bool) (val : ByteArray) : Boxes W ep nx key has val ((W.alloc (.cells #[.int .u64 ep, .int .u64 nx] 23)).alloc (chO key has val)) := by
  have b1 := below_alloc W (.cells #[.int .u64 ep, .int .u64 nx] 23)
  have b2 := below_alloc (W.alloc (.cells #[.int .u64 ep, .int .u64 nx] 23)) (chO key has val)
  have n1 := World.alloc_heap_new W (.cells #[.int .u64 ep, .int .u64 nx] 23)
  have n2 := World.alloc_heap_new (W.alloc (.cells #[.int .u64 ep, .int .u64 nx] 23)) (chO key has val)
  rw [World.size_alloc] at n2
  exact ⟨b1.trans (b2.mono (by simp)), (b2.block _ (heap_at_lt n1)).trans n1, n2⟩
section
variable {W X Y : World} {ep nx : Int} {key val : ByteArray} {has : Bool}
theorem Boxes.below (h : Boxes W ep nx key has val X) {B : Nat} (hB : W.heap.size + 2 ≤ B) (hb : Below B X Y) : Boxes W ep nx key has val Y :=
  ⟨h.low.trans (hb.mono (by omega)), (hb.block _ (by omega)).trans h.b0, (hb.block _ (by omega)).trans h.b1⟩
theorem Boxes.many (h : Boxes W ep nx key has val X) : W.heap.size + 2 ≤ X.heap.size := heap_at_lt h.b1
theorem Boxes.cells (h : Boxes W ep nx key has val X) : X.cell? ⟨W.heap.size, 0, none⟩ = some (.int .u64 ep) ∧ X.cell? ⟨W.heap.size, 1, none⟩ = some (.int .u64 nx) ∧ X.cell? ⟨W.heap.size + 1, 0, none⟩ = some (.string key) ∧ X.cell? ⟨W.heap.size + 1, 1, none⟩ = some (.bool has) ∧ X.cell? ⟨W.heap.size + 1, 2, none⟩ = some (.string val) :=
  ⟨(cell_of h.b0).trans rfl, (cell_of h.b0).trans rfl, (cell_of h.b1).trans rfl, (cell_of h.b1).trans rfl, (cell_of h.b1).trans rfl⟩
end
end Go.Proofs.Ytnfepjolbhnhbaa
