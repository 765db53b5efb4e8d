/-
  What a call may turn, by the blocks that it may write to; small words on memory. Nothing of this is of one program but the imports.
-/
import Derived.Test.YtgigjbngocfkbaaProg
import Derived.Tactics
import Derived.WalkKit
import Derived.WalkLawsBesides
import Derived.LoopTactic
import Derived.BigQuiet
import Derived.Deep.QuietTactic
import Derived.Outline
import Derived.WalkSpells
import Derived.Lib.Hide
import Derived.Laws.StructEq
import Derived.Laws.ResultCell
import Derived.LoopN
import Derived.RangeFuncBox
import Derived.RangeFuncCalls
import Derived.Deep.RegionHeld3
import Derived.Deep.RegionLaw
import Derived.Deep.DrawnRows
import Derived.StillTailTactics
import Derived.Maps.OwnIn
import Derived.Maps.OwnSet
import Derived.Maps.RangeWalk
import Derived.KernelRfl
import Derived.Test.YtgigjbngocfkbaaLot
namespace Go.Proofs.Ytgigjbngocfkbaa
open Go Go.RowKit

/-- An answer; what lay lies as it lay. -/
def Says (b : Bool) (w : World) (e : Ending) (w' : World) : Prop := e = .returned (.bool b) ∧ Below w.heap.size w w'
theorem Says.mk {b c : Bool} {w w' : World} (h : c = b) (hb : Below w.heap.size w w') : Says b w (.returned (.bool c)) w' := by subst h; exact ⟨rfl, hb⟩
theorem below_alloc (w : World) (o : Obj) : Below w.heap.size w (w.alloc o) := (Below.refl _ w).alloc (Nat.le_refl _) o
theorem below_draws (w : World) (q : Nat) : Below w.heap.size w (w.drewN q) := ⟨rfl, rfl, rfl, Nat.le_refl _, fun _ _ => rfl⟩
theorem below_drew (w : World) : Below w.heap.size w w.drew := below_draws w 1
theorem cell_lt {W : World} {b o : Nat} {v : Value} (h : W.cell? ⟨b, o, none⟩ = some v) : b < W.heap.size := World.block_lt_of_cell? W ⟨b, o, none⟩ h
theorem cell_of {W : World} {b i : Nat} {cs : Array Value} {t : TypeId} (h : W.heap[b]? = some (.cells cs t (0, 0))) : W.cell? ⟨b, i, none⟩ = cs[i]? := by simp [World.cell?, h]
theorem heap_setAt {W : World} {p o : Nat} {u : Value} {cs : Array Value} {t : TypeId} {fr : Nat × Nat} (h : W.heap[p]? = some (.cells cs t fr)) : (W.setCell ⟨p, o, none⟩ u).heap[p]? = some (.cells (cs.setIfInBounds o u) t fr) := by
  obtain ⟨hlt, hk⟩ := Array.getElem?_eq_some_iff.1 h
  show (W.heap.modify p _)[p]? = _
  rw [Array.getElem?_eq_getElem (by rw [Array.size_modify]; exact hlt), Array.getElem_modify_self, hk]
  rfl
theorem heap_at_lt {W : World} {p : Nat} {o : Obj} (h : W.heap[p]? = some o) : p < W.heap.size := (Array.getElem?_eq_some_iff.1 h).1

/-- From W to W' no block that lay has turned but those of f; what is owned then (f') was owned, or is new. -/
structure Step (f f' : Nat → Prop) (W W' : World) : Prop where
  os : W'.os = W.os
  tape : W'.tape = W.tape
  output : W'.output = W.output
  size : W.heap.size ≤ W'.heap.size
  block : ∀ k, k < W.heap.size → ¬ f k → W'.heap[k]? = W.heap[k]?
  foot : ∀ k, f' k → f k ∨ W.heap.size ≤ k
theorem Step.trans {f g h : Nat → Prop} {A B C : World} (p : Step f g A B) (q : Step g h B C) : Step f h A C :=
  ⟨q.os.trans p.os, q.tape.trans p.tape, q.output.trans p.output, Nat.le_trans p.size q.size,
    fun k hk hf => (q.block k (Nat.lt_of_lt_of_le hk p.size) (fun hg => (p.foot k hg).elim hf (fun h => absurd hk (Nat.not_lt.2 h)))).trans (p.block k hk hf),
    fun k hk => (q.foot k hk).elim (fun hg => p.foot k hg) (fun h => .inr (Nat.le_trans p.size h))⟩
theorem Step.of_below {f : Nat → Prop} {A B : World} (h : Below A.heap.size A B) : Step f f A B := ⟨h.os, h.tape, h.output, h.size, fun k hk _ => h.block k hk, fun _ h => .inl h⟩
theorem Step.below {f f' : Nat → Prop} {A B : World} (p : Step f f' A B) {n : Nat} (hn : n ≤ A.heap.size) (h : ∀ k, k < n → ¬ f k) : Below n A B :=
  ⟨p.os, p.tape, p.output, p.size, fun k hk => p.block k (by omega) (h k hk)⟩
theorem Step.refl (f : Nat → Prop) (W : World) : Step f f W W := Step.of_below (Below.refl _ _)
theorem Step.off {f f' : Nat → Prop} {A B : World} (h : Step f f' A B) {k : Nat} (hk : k < A.heap.size) (hf : ¬ f k) : ¬ f' k := fun h' => by
  rcases h.foot k h' with h0 | h0
  · exact hf h0
  · omega
/-- One block alone was written. -/
theorem Step.of_grown {f : Nat → Prop} {A B : World} {r : Nat} (h : A.grownBy B (some r)) (hr : f r) : Step f f A B :=
  ⟨h.os, h.tape, h.output, h.size, fun k hk hn => h.block k hk (fun e => hn (by cases e; exact hr)), fun _ h => .inl h⟩
theorem Step.setCell {f : Nat → Prop} {A : World} {r o : Nat} (u : Value) (hr : f r) : Step f f A (A.setCell ⟨r, o, none⟩ u) :=
  ⟨rfl, rfl, rfl, by simp [World.setCell], fun k _ hn => Below.heap_setCell _ _ _ _ (fun e => hn (by rw [e]; exact hr)), fun _ h => .inl h⟩

end Go.Proofs.Ytgigjbngocfkbaa
