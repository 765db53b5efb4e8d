/-
  What is known between two rounds of PendingLives: the row, the reference's row, and a row that New did not make.
-/
import Derived.Test.YtkfnndhoccjffaaRefs14b
namespace Go.Proofs.Ytkfnndhoccjffaa
open Go Go.RowKit

/-- Names that came in, one slice of many. -/
structure DV where
  q : Option Addr
  m : Nat
  c : Nat
  L : List IdD
/-- At p, a slice's address, lie the slices of names Ds. -/
def Sd (W : World) (p : Option Addr) (Ds : List DV) : Prop :=
  ∀ j (h : j < Ds.length), ∃ b o, p = some ⟨b, o, none⟩ ∧ W.cell? ⟨b, o + j, none⟩ = some (.slice Ds[j].q Ds[j].m Ds[j].c) ∧ Si W Ds[j].q Ds[j].L ∧ Ds[j].L.length = Ds[j].m ∧ (∀ a ∈ Ds[j].L, a.fits) ∧ Ds[j].m ≤ 9223372036854775807
theorem Sd.keep {W X : World} {p : Option Addr} {Ds : List DV} (h : Sd W p Ds) (hb : ∀ k, k < W.heap.size → X.heap[k]? = W.heap[k]?) : Sd X p Ds := fun j hj => by
  obtain ⟨b, o, rfl, c1, c2, c3, c4, c5⟩ := h j hj
  exact ⟨b, o, rfl, (World.cell?_of_block (hb b (cell_lt c1))).trans c1, c2.keep hb, c3, c4, c5⟩

def plainCells : Array Value := #[.int .i64 0, .slice none 0 0, .map none]

structure LiveI (w W0 : World) (B p pu cl k : Nat) (E : List ED) (f : Nat → Prop) (lv : Value) (Rm : List EV) (Em : List ED) (X : World) : Prop where
  row : Rowp X B p cl k E f
  lot : Lot X 40 4 lv Em.length (flatE Rm)
  each : Each (Ent w) Rm Em
  apart : ∀ j, lv.ownBlock = some j → ¬ f j
  plain : X.heap[pu]? = some (.cells plainCells 30 (0, 0))
  pap : ¬ f pu
  low : Below B W0 X

theorem Rowp.lt {W : World} {B p most n : Nat} {E : List ED} {f : Nat → Prop} (h : Rowp W B p most n E f) : ∀ k, f k → k < W.heap.size := by
  obtain ⟨R, ev, b, h⟩ := h; exact h.lt
theorem Rowp.fits {W : World} {B p most n : Nat} {E : List ED} {f : Nat → Prop} (h : Rowp W B p most n E f) : ∀ e ∈ E, e.fits := by
  obtain ⟨R, ev, b, h⟩ := h; exact h.fits
theorem Rowp.len {W : World} {B p most n : Nat} {E : List ED} {f : Nat → Prop} (h : Rowp W B p most n E f) : E.length ≤ most ∧ most ≤ 32 := by
  obtain ⟨R, ev, b, h⟩ := h; exact ⟨h.len, h.most32⟩

section
variable {w W0 X Y : World} {B p pu cl k : Nat} {E Em : List ED} {f : Nat → Prop} {lv : Value} {Rm : List EV}
theorem LiveI.below (h : LiveI w W0 B p pu cl k E f lv Rm Em X) (hb : Below X.heap.size X Y) : LiveI w W0 B p pu cl k E f lv Rm Em Y :=
  ⟨h.row.below hb, h.lot.below hb, h.each, h.apart, (hb.block pu (Array.getElem?_eq_some_iff.1 h.plain).1).trans h.plain, h.pap, h.low.trans (hb.mono h.row.size)⟩
theorem LiveI.turn {k' : Nat} {E' : List ED} {f' : Nat → Prop} (h : LiveI w W0 B p pu cl k E f lv Rm Em X) (hr : Rowp Y B p cl k' E' f') (hs : Step f f' X Y) : LiveI w W0 B p pu cl k' E' f' lv Rm Em Y := by
  have hpu := (Array.getElem?_eq_some_iff.1 h.plain).1
  refine ⟨hr, h.lot.stays (fun j hj => hs.block j (h.lot.lt j hj) (h.apart j hj)), h.each, fun j hj hf => ?_, (hs.block pu hpu h.pap).trans h.plain, fun hf => ?_, h.low.trans (hs.below h.row.size h.row.base)⟩
  · rcases hs.foot j hf with h0 | h0
    · exact h.apart j hj h0
    · have := h.lot.lt j hj; omega
  · rcases hs.foot pu hf with h0 | h0
    · exact h.pap h0
    · omega
/-- The reference's row is another one. -/
theorem LiveI.other {lv' : Value} {Rm' : List EV} {Em' : List ED} (h : LiveI w W0 B p pu cl k E f lv Rm Em Y) (hX : ∀ j, f j → j < X.heap.size) (hO : OutE X.heap.size X Rm' lv' Y) (he : Each (Ent w) Rm' Em') : LiveI w W0 B p pu cl k E f lv' Rm' Em' Y :=
  ⟨h.row, by rw [← he.1]; exact hO.lot, he, fun j hj hf => by have := hO.base j hj; have := hX j hf; omega, h.plain, h.pap, h.low⟩
theorem each_ids {R : List EV} {E : List ED} (h : Each (Ent w) R E) : R.map (·.id) = idsD E := by
  apply List.ext_getElem?
  intro j
  simp only [idsD, List.getElem?_map]
  by_cases hj : j < R.length
  · have hj2 : j < E.length := by rw [← h.1]; exact hj
    rw [List.getElem?_eq_getElem hj, List.getElem?_eq_getElem hj2]
    simp [(h.2 j hj hj2).id]
  · rw [List.getElem?_eq_none (by omega), List.getElem?_eq_none (by rw [← h.1]; omega)]; rfl

theorem LiveI.added {pm : Option Addr} {cm : Nat} {v : EV} {e : ED} {en : Ending} (h : LiveI w W0 B p pu cl k E f (.slice pm Em.length cm) Rm Em X) (hv : Ent w v e) (hR : RefAddR pm Em.length cm Rm v (okD cl Em e) X en Y) :
    ∃ q c' Rm', en = .returned (.tuple #[.slice q (addD cl Em e).length c', .bool (okD cl Em e)]) ∧ LiveI w W0 B p pu cl k E f (.slice q (addD cl Em e).length c') Rm' (addD cl Em e) Y := by
  unfold addD
  rcases hR with ⟨h1, rfl, hb⟩ | ⟨h1, q, c', rfl, hO⟩
  · rw [h1]
    exact ⟨pm, cm, Rm, rfl, h.below hb⟩
  · rw [h1]
    have hl : (Em ++ [e]).length = Em.length + 1 := by simp
    refine ⟨q, c', Rm ++ [v], ?_, ?_⟩
    · simp
    · have := (h.below hO.low).other (X := X) (fun j hj => h.row.lt j hj) hO (h.each.snoc hv)
      rw [if_pos rfl, hl]
      exact this

theorem LiveI.less {pm : Option Addr} {cm : Nat} {L : List IdD} {en : Ending} (h : LiveI w W0 B p pu cl k E f (.slice pm Em.length cm) Rm Em X) (hR : RefLessR Rm L X en Y) :
    ∃ q c', en = .returned (.slice q (withoutD Em L).length c') ∧ LiveI w W0 B p pu cl k E f (.slice pm Em.length cm) Rm Em Y ∧ LiveI w W0 B p pu cl k E f (.slice q (withoutD Em L).length c') (lessV Rm L) (withoutD Em L) Y := by
  obtain ⟨q, c', rfl, hO⟩ := hR
  have hE := each_less (Q := Ent w) (fun _ _ h => h.id) L Rm Em h.each
  have h2 := h.below hO.low
  have hl := hE.1
  refine ⟨q, c', by rw [hl], h2, ?_⟩
  have := h2.other (X := X) (fun j hj => h.row.lt j hj) hO hE
  rw [← hl]
  exact this
theorem LiveI.se {pm : Option Addr} {cm : Nat} (h : LiveI w W0 B p pu cl k E f (.slice pm Em.length cm) Rm Em X) : Se X pm Rm := h.lot.se h.each.1
end

end Go.Proofs.Ytkfnndhoccjffaa
