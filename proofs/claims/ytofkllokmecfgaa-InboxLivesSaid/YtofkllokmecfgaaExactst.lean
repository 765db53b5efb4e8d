/-
  A box, and beside it two rows of changes in blocks of their own: what stays when one of them is turned.
-/
import Derived.Test.YtofkllokmecfgaaOps15
namespace Go.Proofs.Ytofkllokmecfgaa
open Go Go.RowKit

theorem BoxAt.stays {W W' : World} {B p most : Nat} {ov : Bool} {L : List ChD} {f : Nat → Prop} {ev : Value} (h : BoxAt W B p most ov L f ev) (hs : ∀ k, f k → W'.heap[k]? = W.heap[k]?) : BoxAt W' B p most ov L f ev :=
  ⟨(hs p h.self).trans h.own, h.lot.stays (fun k hk => hs k (by rw [h.foot]; exact .inr hk)), h.foot, h.bp, h.be, h.most64, h.len⟩
theorem Boxp.stays {W W' : World} {B p most : Nat} {ov : Bool} {L : List ChD} {f : Nat → Prop} (h : Boxp W B p most ov L f) (hs : ∀ k, f k → W'.heap[k]? = W.heap[k]?) : Boxp W' B p most ov L f := by
  obtain ⟨ev, h⟩ := h; exact ⟨ev, h.stays hs⟩

/-- A box with L, and beside it the rows P and G. -/
structure ExI (B p most : Nat) (W : World) (ov : Bool) (P G L : List ChD) (pv gv : Value) (f : Nat → Prop) (X : World) : Prop where
  box : Boxp X B p most ov L f
  pl : Lot X 31 3 pv P.length (flatC P)
  gl : Lot X 31 3 gv G.length (flatC G)
  pb : ∀ k, pv.ownBlock = some k → B ≤ k ∧ ¬ f k
  gb : ∀ k, gv.ownBlock = some k → B ≤ k ∧ ¬ f k
  pg : ∀ k, pv.ownBlock = some k → gv.ownBlock ≠ some k
  low : Below B W X

section
variable {B p most : Nat} {W X Y : World} {ov ov' : Bool} {P G L L' T : List ChD} {pv gv : Value} {f f' : Nat → Prop}
theorem ExI.size (h : ExI B p most W ov P G L pv gv f X) : B ≤ X.heap.size := h.box.size
theorem ExI.below (h : ExI B p most W ov P G L pv gv f X) (hb : Below X.heap.size X Y) : ExI B p most W ov P G L pv gv f Y :=
  ⟨h.box.below hb, h.pl.below hb, h.gl.below hb, h.pb, h.gb, h.pg, h.low.trans (hb.mono h.size)⟩
theorem ExI.start {w1 : World} (h : Boxp w1 W.heap.size p most false [] f) (hb : Below W.heap.size W w1) :
    ExI W.heap.size p most W false [] [] [] (.slice (some ⟨w1.heap.size, 0, none⟩) 0 0) (.slice (some ⟨w1.heap.size + 1, 0, none⟩) 0 0) f ((w1.alloc (.cells #[] 31)).alloc (.cells #[] 31)) := by
  have b1 := below_alloc w1 (.cells #[] 31)
  have b2 := b1.alloc (by simp) (.cells #[] 31)
  have l2 := Lot.none' (w1.alloc (.cells #[] 31)) 31 3
  rw [World.size_alloc] at l2
  refine ⟨h.below b2, (Lot.none' w1 _ 3).below (below_alloc _ _), l2, fun k hk => ?_, fun k hk => ?_, fun k hk e => ?_, hb.trans (b2.mono hb.size)⟩
  · obtain rfl : w1.heap.size = k := by simpa [Value.ownBlock] using hk
    exact ⟨hb.size, fun hf => absurd (h.lt _ hf) (Nat.lt_irrefl _)⟩
  · obtain rfl : w1.heap.size + 1 = k := by simpa [Value.ownBlock] using hk
    exact ⟨Nat.le_succ_of_le hb.size, fun hf => by have := h.lt _ hf; omega⟩
  · obtain rfl : w1.heap.size = k := by simpa [Value.ownBlock] using hk
    simp [Value.ownBlock] at e
/-- The box is turned. -/
theorem ExI.turn (h : ExI B p most W ov P G L pv gv f X) (hB : Boxp Y B p most ov' L' f') (hs : Step f f' X Y) : ExI B p most W ov' P G L' pv gv f' Y := by
  refine ⟨hB, h.pl.stays (fun k hk => hs.block k (h.pl.lt k hk) (h.pb k hk).2), h.gl.stays (fun k hk => hs.block k (h.gl.lt k hk) (h.gb k hk).2), fun k hk => ⟨(h.pb k hk).1, fun hf => ?_⟩, fun k hk => ⟨(h.gb k hk).1, fun hf => ?_⟩, h.pg, h.low.trans (hs.below h.size h.box.base)⟩
  · rcases hs.foot k hf with h0 | h0
    · exact (h.pb k hk).2 h0
    · exact absurd (h.pl.lt k hk) (Nat.not_lt.2 h0)
  · rcases hs.foot k hf with h0 | h0
    · exact (h.gb k hk).2 h0
    · exact absurd (h.gl.lt k hk) (Nat.not_lt.2 h0)
/-- The first row grows. -/
theorem ExI.growP {g n cap : Nat} (h : ExI B p most W ov P G L pv gv f X) (hn : (P ++ T).length = n) (hL : Lot Y 31 3 (.slice (some ⟨g, 0, none⟩) n cap) n (flatC P ++ flatC T)) (hg : X.grownBy Y pv.ownBlock) (hat : pv.ownBlock = some g ∨ g = X.heap.size) :
    ExI B p most W ov (P ++ T) G L (.slice (some ⟨g, 0, none⟩) n cap) gv f Y := by
  subst hn
  have hbk : ∀ k, (Value.slice (some ⟨g, 0, none⟩) (P ++ T).length cap).ownBlock = some k → pv.ownBlock = some k ∨ k = X.heap.size := fun k hk => by
    obtain rfl : g = k := by simpa [Value.ownBlock] using hk
    exact hat
  refine ⟨h.box.stays (fun k hf => hg.block k (h.box.lt k hf) (fun e => (h.pb k e.symm).2 hf)), by rw [flatC_append]; exact hL, h.gl.stays (fun k hk => hg.block k (h.gl.lt k hk) (fun e => h.pg k e.symm hk)), fun k hk => ?_, h.gb, fun k hk e => ?_, h.low.grown hg h.size (fun k e => (h.pb k e).1)⟩
  · rcases hbk k hk with h0 | h0
    · exact h.pb k h0
    · subst h0; exact ⟨h.size, fun hf => absurd (h.box.lt _ hf) (Nat.lt_irrefl _)⟩
  · rcases hbk k hk with h0 | h0
    · exact h.pg k h0 e
    · subst h0; exact absurd (h.gl.lt _ e) (Nat.lt_irrefl _)
/-- The second row grows. -/
theorem ExI.growG {g n cap : Nat} (h : ExI B p most W ov P G L pv gv f X) (hn : (G ++ T).length = n) (hL : Lot Y 31 3 (.slice (some ⟨g, 0, none⟩) n cap) n (flatC G ++ flatC T)) (hg : X.grownBy Y gv.ownBlock) (hat : gv.ownBlock = some g ∨ g = X.heap.size) :
    ExI B p most W ov P (G ++ T) L pv (.slice (some ⟨g, 0, none⟩) n cap) f Y := by
  subst hn
  have hbk : ∀ k, (Value.slice (some ⟨g, 0, none⟩) (G ++ T).length cap).ownBlock = some k → gv.ownBlock = some k ∨ k = X.heap.size := fun k hk => by
    obtain rfl : g = k := by simpa [Value.ownBlock] using hk
    exact hat
  refine ⟨h.box.stays (fun k hf => hg.block k (h.box.lt k hf) (fun e => (h.gb k e.symm).2 hf)), h.pl.stays (fun k hk => hg.block k (h.pl.lt k hk) (fun e => h.pg k hk e.symm)), by rw [flatC_append]; exact hL, h.pb, fun k hk => ?_, fun k hk e => ?_, h.low.grown hg h.size (fun k e => (h.gb k e).1)⟩
  · rcases hbk k hk with h0 | h0
    · exact h.gb k h0
    · subst h0; exact ⟨h.size, fun hf => absurd (h.box.lt _ hf) (Nat.lt_irrefl _)⟩
  · rcases hbk k e with h0 | h0
    · exact h.pg k hk h0
    · subst h0; exact absurd (h.pl.lt _ hk) (Nat.lt_irrefl _)
end

end Go.Proofs.Ytofkllokmecfgaa
