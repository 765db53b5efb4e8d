/-
  Heaps beside one another: what one's turn leaves of the others.
-/
import Derived.Test.YteggbkhlmehpmaaHruns
namespace Go.Proofs.Yteggbkhlmehpmaa
open Go Go.RowKit

section
variable {W X Y : World} {B B' p q r : Nat} {D D' E E' : HpD} {f f' f1 f1' g g' g1 : Nat → Prop} {o : OpD}
theorem Pair.lt (h : Pair X B B' p q D D' f f') : ∀ k, Or2 f f' k → k < X.heap.size := fun k hk => hk.elim (h.hp.lt k) (h.rf.lt k)
theorem Pair.base (h : Pair X B B p q D D' f f') : ∀ k, k < B → ¬ Or2 f f' k := fun k hk ho => ho.elim (h.hp.base k hk) (h.rf.base k hk)
theorem Pair.stays (h : Pair X B B' p q D D' f f') (hs : ∀ k, Or2 f f' k → Y.heap[k]? = X.heap[k]?) : Pair Y B B' p q D D' f f' :=
  ⟨h.hp.stays (fun k hk => hs k (.inl hk)), h.rf.stays (fun k hk => hs k (.inr hk)), h.dis⟩
/-- What lies apart is left, and stays apart. -/
theorem apart_turn (ha : ∀ k, f k → ¬ g k) (hg : ∀ k, g k → k < X.heap.size) (s : Step f f1 X Y) : ∀ k, f1 k → ¬ g k := fun k hk hk' =>
  (s.foot k hk).elim (fun h => ha k h hk') (fun h => by have := hg k hk'; omega)
theorem Pair.off (h : Pair X B B' p q D D' g g') (ha : ∀ k, f k → ¬ Or2 g g' k) (s : Step f f1 X Y) : Pair Y B B' p q D D' g g' :=
  h.stays (fun k hk => s.block k (h.lt k hk) (fun hf => ha k hf hk))
theorem Pair.low (h : Pair X B B p q D D' f f') (hl : Below B W X) (s : Step (Or2 f f') g1 X Y) : Below B W Y :=
  hl.trans (s.below h.hp.size h.base)

/-- One pair, and that nothing that lay at first has turned. -/
def Two (B : Nat) (W : World) (p q : Nat) (D D' : HpD) (X : World) : Prop := ∃ f f', Pair X B B p q D D' f f' ∧ Below B W X
theorem Two.below (h : Two B W p q D D' X) (hb : Below X.heap.size X Y) : Two B W p q D D' Y := by
  obtain ⟨f, f', h1, h2⟩ := h
  exact ⟨f, f', h1.below hb, h2.trans (hb.mono h1.hp.size)⟩

/-- One pair, a heap apart from both. -/
def Tri (B : Nat) (W : World) (p q r : Nat) (D D' E : HpD) (X : World) : Prop := ∃ f f' g, Pair X B B p q D D' f f' ∧ Hp X B r E g ∧ (∀ k, g k → ¬ Or2 f f' k) ∧ Below B W X
theorem Tri.two (h : Tri B W p q r D D' E X) : Two B W p q D D' X := by
  obtain ⟨f, f', g, h1, _, _, h4⟩ := h; exact ⟨f, f', h1, h4⟩

/-- Two pairs, apart. -/
def Four (B : Nat) (W : World) (p q p' q' : Nat) (D D' E E' : HpD) (X : World) : Prop :=
  ∃ f f' g g', Pair X B B p q D D' f f' ∧ Pair X B B p' q' E E' g g' ∧ (∀ k, Or2 f f' k → ¬ Or2 g g' k) ∧ Below B W X
theorem Four.swap {p' q' : Nat} (h : Four B W p q p' q' D D' E E' X) : Four B W p' q' p q E E' D D' X := by
  obtain ⟨f, f', g, g', h1, h2, h3, h4⟩ := h
  exact ⟨g, g', f, f', h2, h1, fun k hk hk' => h3 k hk' hk, h4⟩
theorem Four.two {p' q' : Nat} (h : Four B W p q p' q' D D' E E' X) : Two B W p q D D' X := by
  obtain ⟨f, f', g, g', h1, _, _, h4⟩ := h; exact ⟨f, f', h1, h4⟩
end

/-- What a call held against the reference's leaves, of one pair. -/
theorem two_same {B : Nat} {W X : World} {p q : Nat} {D D' : HpD} (h : Two B W p q D D' X) (o : OpD) (ho : o.fits) (hf : D.faults < 1000000) (hf' : D'.faults < 1000000) (hl : D.L.length < 1000000) (hl' : D'.L.length < 1000000) :
    Calls Try.prog 10 #[.pointer (some ⟨p, 0, none⟩), .pointer (some ⟨q, 0, none⟩), .agg #[.int .i64 o.kind, .int .u64 (o.block : Int), .int .i64 o.cell, .int .u64 o.a, .int .u64 o.b, .string o.text]] X
      fun e Y => ∃ b, e = .returned (.bool b) ∧ (D = D' → b = true) ∧ Two B W p q (nextD D o) (nextD D' o) Y := by
  obtain ⟨f, f', h1, h2⟩ := h
  refine (same_any X h1 o ho hf hf' hl hl').mono fun e Y hr => ?_
  obtain ⟨b, f1, f1', rfl, hb, hp, hs⟩ := hr
  exact ⟨b, rfl, hb, f1, f1', hp, h1.low h2 hs⟩

/-- .. of one pair beside another. -/
theorem four_same {B : Nat} {W X : World} {p q p' q' : Nat} {D D' E E' : HpD} (h : Four B W p q p' q' D D' E E' X) (o : OpD) (ho : o.fits) (hf : D.faults < 1000000) (hf' : D'.faults < 1000000) (hl : D.L.length < 1000000) (hl' : D'.L.length < 1000000) :
    Calls Try.prog 10 #[.pointer (some ⟨p, 0, none⟩), .pointer (some ⟨q, 0, none⟩), .agg #[.int .i64 o.kind, .int .u64 (o.block : Int), .int .i64 o.cell, .int .u64 o.a, .int .u64 o.b, .string o.text]] X
      fun e Y => ∃ b, e = .returned (.bool b) ∧ (D = D' → b = true) ∧ Four B W p q p' q' (nextD D o) (nextD D' o) E E' Y := by
  obtain ⟨f, f', g, g', h1, h2, h3, h4⟩ := h
  refine (same_any X h1 o ho hf hf' hl hl').mono fun e Y hr => ?_
  obtain ⟨b, f1, f1', rfl, hb, hp, hs⟩ := hr
  exact ⟨b, rfl, hb, f1, f1', g, g', hp, h2.off h3 hs, apart_turn h3 h2.lt hs, h1.low h4 hs⟩

/-- .. of a heap against a plain reference that nobody holds, beside a pair. -/
theorem tri_same {B : Nat} {W X : World} {p q r : Nat} {D D' E : HpD} (h : Tri B W p q r D D' E X) (o : OpD) (ho : o.fits) (hf : E.faults < 1000000) (hl : E.L.length < 1000000) :
    Calls Try.prog 10 #[.pointer (some ⟨r, 0, none⟩), .pointer (some ⟨X.heap.size, 0, none⟩), .agg #[.int .i64 o.kind, .int .u64 (o.block : Int), .int .i64 o.cell, .int .u64 o.a, .int .u64 o.b, .string o.text]] (X.alloc (.cells #[.slice none 0 0, .bool false, .int .i64 0] 34))
      fun e Y => ∃ b, e = .returned (.bool b) ∧ Tri B W p q r D D' (nextD E o) Y := by
  obtain ⟨f, f', g, h1, h2, h3, h4⟩ := h
  have hb := below_alloc X (.cells #[.slice none 0 0, .bool false, .int .i64 0] 34)
  have hz := plain_ref X
  have hzf : ∀ k, (k = X.heap.size ∨ (Value.slice none 0 0).ownBlock = some k ∨ ∃ (j : Nat) (b : BlkD), ([] : List BlkD)[j]? = some b ∧ (0 : Nat) = k) → k = X.heap.size := fun k hk => by
    rcases hk with h0 | h0 | ⟨j, b, hj, _⟩
    · exact h0
    · cases h0
    · simp at hj
  have h1' := h1.below hb
  have hp : Pair (X.alloc (.cells #[.slice none 0 0, .bool false, .int .i64 0] 34)) B X.heap.size r X.heap.size E emptyD g _ := ⟨h2.below hb, hz, fun k hk hk' => by
    have := hzf k hk'; have := h2.lt k hk; omega⟩
  refine (same_any _ hp o ho hf (by decide) hl (by decide)).mono fun e Y hr => ?_
  obtain ⟨b, f1, f1', rfl, _, hp2, hs⟩ := hr
  have ha : ∀ k, Or2 g (fun k => k = X.heap.size ∨ (Value.slice none 0 0).ownBlock = some k ∨ ∃ (j : Nat) (b : BlkD), ([] : List BlkD)[j]? = some b ∧ (0 : Nat) = k) k → ¬ Or2 f f' k := fun k hk hk' => by
    rcases hk with hk | hk
    · exact h3 k hk hk'
    · have := hzf k hk; have := h1.lt k hk'; omega
  have hbase : ∀ k, k < B → ¬ Or2 g (fun k => k = X.heap.size ∨ (Value.slice none 0 0).ownBlock = some k ∨ ∃ (j : Nat) (b : BlkD), ([] : List BlkD)[j]? = some b ∧ (0 : Nat) = k) k := fun k hk hk' => by
    rcases hk' with hk' | hk'
    · exact h2.base k hk hk'
    · have := hzf k hk'; have := h2.size; omega
  have hl2 : Below B W (X.alloc (.cells #[.slice none 0 0, .bool false, .int .i64 0] 34)) := h4.trans (hb.mono h2.size)
  exact ⟨b, rfl, f, f', f1, h1'.off ha hs, hp2.hp, fun k hk hk' => apart_turn ha h1'.lt hs k (.inl hk) hk', hl2.trans (hs.below (by have := h2.size; simp; omega) hbase)⟩
end Go.Proofs.Yteggbkhlmehpmaa
