/-
  A box and beside it the reference's: what stays when one of them is turned.
-/
import Derived.Test.YtofkllokmecfgaaRefs15b
namespace Go.Proofs.Ytofkllokmecfgaa
open Go Go.RowKit

/-- A row of the reference's, at an address that is none of the box's blocks and none of the block pm. -/
structure RL (pm : Nat) (q : Option Addr) (L : List ChD) (f : Nat → Prop) (X : World) : Prop where
  sc : Sc X q L
  off : L ≠ [] → ∀ a, q = some a → ¬ f a.block ∧ a.block ≠ pm ∧ a.block < X.heap.size
theorem Sc.stays {X Y : World} {q : Option Addr} {L : List ChD} (h : Sc X q L) (hs : L ≠ [] → ∀ a, q = some a → Y.heap[a.block]? = X.heap[a.block]?) : Sc Y q L := fun j hj => by
  obtain ⟨b, o, rfl, c1, c2, c3⟩ := h j hj
  have hk := hs (List.ne_nil_of_length_pos (by omega)) _ rfl
  dsimp only at hk
  exact ⟨b, o, rfl, by simpa [World.cell?, hk] using c1, by simpa [World.cell?, hk] using c2, by simpa [World.cell?, hk] using c3⟩
section
variable {pm : Nat} {q : Option Addr} {L : List ChD} {f f' : Nat → Prop} {X Y : World}
theorem RL.step (h : RL pm q L f X) (hs : Step f f' X Y) : RL pm q L f' Y :=
  ⟨h.sc.stays (fun hL a ha => hs.block _ (h.off hL a ha).2.2 (h.off hL a ha).1), fun hL a ha => ⟨fun hf => by
    rcases hs.foot _ hf with h0 | h0
    · exact (h.off hL a ha).1 h0
    · have := (h.off hL a ha).2.2; omega, (h.off hL a ha).2.1, Nat.lt_of_lt_of_le (h.off hL a ha).2.2 hs.size⟩⟩
theorem RL.below (h : RL pm q L f X) (hb : Below X.heap.size X Y) : RL pm q L f Y := h.step (Step.of_below hb)
theorem RL.set (h : RL pm q L f X) (o : Nat) (u : Value) : RL pm q L f (X.setCell ⟨pm, o, none⟩ u) :=
  ⟨h.sc.stays (fun hL a ha => Below.heap_setCell _ _ _ _ (h.off hL a ha).2.1), fun hL a ha => by
    have := h.off hL a ha
    rw [World.size_setCell]
    exact this⟩
theorem RL.mk' (h : Sc Y q L) (hf : ∀ k, f k → k < X.heap.size) (hp : pm < X.heap.size) (hfr : L ≠ [] → Fresh X q) : RL pm q L f Y :=
  ⟨h, fun hL a ha => by
    have h1 := hfr hL a ha
    refine ⟨fun hk => by have := hf _ hk; omega, by omega, ?_⟩
    obtain ⟨b, o, e, c1, _⟩ := h 0 (List.length_pos_iff.2 hL)
    rw [ha] at e
    cases e
    exact cell_lt c1⟩
end

/-- The reference's box lies at pm. -/
structure MI (r pm : Nat) (ov : Bool) (L : List ChD) (q : Option Addr) (n c : Nat) (f : Nat → Prop) (X : World) : Prop where
  cell : X.heap[pm]? = some (.cells #[.int .i64 r, .slice q n c, .bool ov] 28 (0, 0))
  row : RL pm q L f X
  len : L.length = n
  pf : ¬ f pm
section
variable {r pm n c n' c' : Nat} {ov ov' : Bool} {L L' : List ChD} {q q' : Option Addr} {f f' : Nat → Prop} {X Y : World}
theorem MI.plt (h : MI r pm ov L q n c f X) : pm < X.heap.size := (Array.getElem?_eq_some_iff.1 h.cell).1
theorem MI.step (h : MI r pm ov L q n c f X) (hs : Step f f' X Y) : MI r pm ov L q n c f' Y :=
  ⟨(hs.block _ h.plt h.pf).trans h.cell, h.row.step hs, h.len, fun hf => by
    rcases hs.foot _ hf with h0 | h0
    · exact h.pf h0
    · have := h.plt; omega⟩
theorem MI.below (h : MI r pm ov L q n c f X) (hb : Below X.heap.size X Y) : MI r pm ov L q n c f Y := h.step (Step.of_below hb)
theorem MI.cells (h : MI r pm ov L q n c f X) : X.cell? ⟨pm, 0, none⟩ = some (.int .i64 r) ∧ X.cell? ⟨pm, 1, none⟩ = some (.slice q n c) ∧ X.cell? ⟨pm, 2, none⟩ = some (.bool ov) ∧ X.frozen? ⟨pm, 0, none⟩ = false ∧ X.frozen? ⟨pm, 1, none⟩ = false ∧ X.frozen? ⟨pm, 2, none⟩ = false :=
  ⟨(cell_of h.cell).trans rfl, (cell_of h.cell).trans rfl, (cell_of h.cell).trans rfl, by simp [World.frozen?, h.cell], by simp [World.frozen?, h.cell], by simp [World.frozen?, h.cell]⟩
theorem MI.set (h : MI r pm ov L q n c f X) (hR : RL pm q' L' f X) (hl : L'.length = n') :
    MI r pm ov' L' q' n' c' f (((X.setCell ⟨pm, 0, none⟩ (.int .i64 r)).setCell ⟨pm, 1, none⟩ (.slice q' n' c')).setCell ⟨pm, 2, none⟩ (.bool ov')) :=
  ⟨(heap_setAt (heap_setAt (heap_setAt h.cell))).trans rfl, ((hR.set _ _).set _ _).set _ _, hl, h.pf⟩
end

/-- Between two rounds of InboxLives. -/
structure LvI (B p r pm : Nat) (W : World) (ov : Bool) (L : List ChD) (q : Option Addr) (n c : Nat) (f : Nat → Prop) (X : World) : Prop where
  box : Boxp X B p r ov L f
  mod : MI r pm ov L q n c f X
  pB : B ≤ pm
  low : Below B W X
section
variable {B p r pm n c n' c' : Nat} {ov ov' : Bool} {L L' : List ChD} {q q' : Option Addr} {f f' : Nat → Prop} {W X Y : World}
theorem LvI.below (h : LvI B p r pm W ov L q n c f X) (hb : Below X.heap.size X Y) : LvI B p r pm W ov L q n c f Y :=
  ⟨h.box.below hb, h.mod.below hb, h.pB, h.low.trans (hb.mono h.box.size)⟩
/-- The box has been turned, and then the reference's is stored. -/
theorem LvI.turn (h : LvI B p r pm W ov L q n c f X) (hB : Boxp Y B p r ov' L' f') (hs : Step f f' X Y) (hR : RL pm q' L' f X) (hl : L'.length = n') :
    (Y.cell? ⟨pm, 0, none⟩ = some (.int .i64 r) ∧ Y.cell? ⟨pm, 1, none⟩ = some (.slice q n c) ∧ Y.cell? ⟨pm, 2, none⟩ = some (.bool ov) ∧ Y.frozen? ⟨pm, 0, none⟩ = false ∧ Y.frozen? ⟨pm, 1, none⟩ = false ∧ Y.frozen? ⟨pm, 2, none⟩ = false) ∧
    LvI B p r pm W ov' L' q' n' c' f' (((Y.setCell ⟨pm, 0, none⟩ (.int .i64 r)).setCell ⟨pm, 1, none⟩ (.slice q' n' c')).setCell ⟨pm, 2, none⟩ (.bool ov')) := by
  have hm := h.mod.step hs
  refine ⟨hm.cells, hB.stays (fun k hk => ?_), hm.set (hR.step hs) hl, h.pB, (((h.low.trans (hs.below h.box.size h.box.base)).setCell h.pB _).setCell h.pB _).setCell h.pB _⟩
  have hne : k ≠ pm := fun e => hm.pf (by rw [← e]; exact hk)
  iterate 3 rw [Below.heap_setCell _ _ _ _ hne]
/-- A block beside them stays. -/
theorem other_keeps {k : Nat} {o : Obj} (hk : X.heap[k]? = some o) (hf : ¬ f k) (hp : k ≠ pm) (hs : Step f f' X Y) (u0 u1 u2 : Value) :
    Y.heap[k]? = some o ∧ (((Y.setCell ⟨pm, 0, none⟩ u0).setCell ⟨pm, 1, none⟩ u1).setCell ⟨pm, 2, none⟩ u2).heap[k]? = some o := by
  have h1 := (hs.block k (Array.getElem?_eq_some_iff.1 hk).1 hf).trans hk
  refine ⟨h1, ?_⟩
  iterate 3 rw [Below.heap_setCell _ _ _ _ hp]
  exact h1
theorem LvI.start {w1 w2 : World} {cl : Nat} (h : Boxp w1 W.heap.size p cl false [] f) (hb : Below W.heap.size W w1) (hb2 : Below w1.heap.size w1 w2) :
    LvI W.heap.size p cl w2.heap.size W false [] none 0 0 f (w2.alloc (.cells #[.int .i64 cl, .slice none 0 0, .bool false] 28)) := by
  have h3 := hb2.alloc hb2.size (.cells #[.int .i64 cl, .slice none 0 0, .bool false] 28)
  refine ⟨h.below h3, ⟨World.alloc_heap_new _ _, ⟨Sc.nil _ _, fun hL => absurd rfl hL⟩, rfl, fun hf => ?_⟩, Nat.le_trans hb.size hb2.size, hb.trans (h3.mono hb.size)⟩
  have := h.lt _ hf
  have := hb2.size
  omega
theorem LvI.free {k : Nat} (h : LvI B p r pm W ov L q n c f X) (hk : X.heap.size ≤ k) : ¬ f k ∧ k ≠ pm :=
  ⟨fun hf => by have := h.box.lt k hf; omega, fun e => by have := h.mod.plt; omega⟩
end

end Go.Proofs.Ytofkllokmecfgaa
