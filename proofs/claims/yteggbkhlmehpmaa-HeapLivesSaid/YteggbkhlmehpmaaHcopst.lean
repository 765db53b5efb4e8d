/-
  HeapCopies' states: their beginnings.
-/
import Derived.Test.YteggbkhlmehpmaaHtwo
import Derived.Test.YteggbkhlmehpmaaHcopy
namespace Go.Proofs.Yteggbkhlmehpmaa
open Go Go.RowKit

theorem Rf.widen {W : World} {B B' p : Nat} {D : HpD} {f : Nat → Prop} (h : Rf W B' p D f) (hB : B ≤ B') : Rf W B p D f := by
  obtain ⟨v, g, cp, h⟩ := h
  exact ⟨v, g, cp, h.own, h.row, h.lie, h.apart, h.foot, fun k hk => Nat.le_trans hB (h.base k hk), h.many, h.fits⟩
theorem Hp.widen {W : World} {B B' p : Nat} {D : HpD} {f : Nat → Prop} (h : Hp W B' p D f) (hB : B ≤ B') : Hp W B p D f := by
  obtain ⟨mb, g, cp, h⟩ := h
  exact ⟨mb, g, cp, h.own, h.map, h.lie, h.apart, h.foot, fun k hk => Nat.le_trans hB (h.base k hk), h.many, h.fits⟩
theorem plain_foot (X : World) : ∀ k, (k = X.heap.size ∨ (Value.slice none 0 0).ownBlock = some k ∨ ∃ (j : Nat) (b : BlkD), ([] : List BlkD)[j]? = some b ∧ (0 : Nat) = k) → k = X.heap.size := fun k hk => by
  rcases hk with h0 | h0 | ⟨j, b, hj, _⟩
  · exact h0
  · cases h0
  · simp at hj

/-- A heap and a plain reference. -/
theorem two_start {B p : Nat} {W X : World} {f : Nat → Prop} (h : Hp X B p emptyD f) (hb : Below B W X) :
    Two B W p X.heap.size emptyD emptyD (X.alloc (.cells #[.slice none 0 0, .bool false, .int .i64 0] 34)) := by
  have hb2 := below_alloc X (.cells #[.slice none 0 0, .bool false, .int .i64 0] 34)
  exact ⟨f, _, ⟨h.below hb2, (plain_ref X).widen h.size, fun k hk hk' => by have := plain_foot X k hk'; have := h.lt k hk; omega⟩, hb.trans (hb2.mono h.size)⟩

/-- A copy beside them. -/
theorem tri_copy {B p q : Nat} {W X : World} {D : HpD} (h : Two B W p q D D X) :
    Calls Try.prog 24 #[.pointer (some ⟨p, 0, none⟩)] X fun e Y => ∃ c, e = .returned (.pointer (some ⟨c, 0, none⟩)) ∧ Tri B W c q p D D D Y := by
  obtain ⟨f, f', h1, h2⟩ := h
  refine (copy_any h1.hp).mono fun e Y hr => ?_
  obtain ⟨c, fc, rfl, hc, hb⟩ := hr
  have hge : ∀ k, fc k → X.heap.size ≤ k := fun k hk => Nat.le_of_not_lt (fun hlt => hc.base k hlt hk)
  refine ⟨c, rfl, fc, f', f, ⟨hc.widen h1.hp.size, h1.rf.below hb, fun k hk hk' => ?_⟩, h1.hp.below hb, fun k hk hk' => ?_, h2.trans (hb.mono h1.hp.size)⟩
  · have := hge k hk; have := h1.rf.lt k hk'; omega
  · rcases hk' with hk' | hk'
    · have := hge k hk'; have := h1.hp.lt k hk; omega
    · exact h1.dis k hk hk'

/-- The program's Blocks, as HeapCopies and HeapLives want it (to be proved: slices.Sort at uint64). -/
def BlocksOk : Prop := ∀ (W : World) (B p : Nat) (D : HpD) (f : Nat → Prop), Hp W B p D f → D.L.length ≤ 200 →
  Calls Try.prog 16 #[.pointer (some ⟨p, 0, none⟩)] W fun e W' => ∃ a n c, e = .returned (.slice a n c) ∧ Lot W' 28 1 (.slice a n c) n ((rowN 0 D.L).map uval) ∧ Below W.heap.size W W'
end Go.Proofs.Yteggbkhlmehpmaa
