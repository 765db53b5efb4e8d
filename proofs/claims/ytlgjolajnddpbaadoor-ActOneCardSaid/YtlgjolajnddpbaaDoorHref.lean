/-
  The reference's heap, as it lies in memory; what a change of it leaves.
-/
import Derived.Test.YtlgjolajnddpbaaDoorHops4
import Derived.Test.YtlgjolajnddpbaaDoorHmake2
namespace Go.Proofs.YtlgjolajnddpbaaDoor
open Go Go.RowKit

/-- A block's three cells. -/
def rowB (g cp : Nat → Nat) (i : Nat) (b : BlkD) : List Value := [.slice (some ⟨g i, 0, none⟩) b.ws.length (cp i), .string b.text, .bool b.gone]
def flatB (g cp : Nat → Nat) : Nat → List BlkD → List Value
  | _, [] => []
  | i, b :: t => rowB g cp i b ++ flatB g cp (i + 1) t

section
variable {g cp : Nat → Nat}
theorem flatB_length (i : Nat) (L : List BlkD) : (flatB g cp i L).length = L.length * 3 := by
  induction L generalizing i with
  | nil => rfl
  | cons b t ih => simp [flatB, rowB, ih]; omega
theorem flatB_get (i : Nat) (L : List BlkD) (j : Nat) (b : BlkD) (h : L[j]? = some b) :
    (flatB g cp i L)[j * 3]? = some (.slice (some ⟨g (i + j), 0, none⟩) b.ws.length (cp (i + j))) ∧ (flatB g cp i L)[j * 3 + 1]? = some (.string b.text) ∧ (flatB g cp i L)[j * 3 + 2]? = some (.bool b.gone) := by
  induction L generalizing i j with
  | nil => simp at h
  | cons a t ih =>
    cases j with
    | zero =>
      simp at h; subst h
      simp [flatB, rowB]
    | succ j =>
      have := ih (i + 1) j (by simpa using h)
      have e0 : (j + 1) * 3 = (j * 3) + 3 := by omega
      have e1 : (j + 1) * 3 + 1 = (j * 3 + 1) + 3 := by omega
      have e2 : (j + 1) * 3 + 2 = (j * 3 + 2) + 3 := by omega
      have e3 : i + (j + 1) = i + 1 + j := by omega
      rw [e1, e2, e0, e3]
      simpa [flatB, rowB] using this
theorem flatB_snoc (i : Nat) (L : List BlkD) (x : BlkD) : flatB g cp i (L ++ [x]) = flatB g cp i L ++ rowB g cp (i + L.length) x := by
  induction L generalizing i with
  | nil => simp [flatB]
  | cons b t ih =>
    have e3 : i + (t.length + 1) = i + 1 + t.length := by omega
    simp [flatB, ih, e3]
theorem flatB_same {g' cp' : Nat → Nat} (i : Nat) (L : List BlkD) (h : ∀ j, j < L.length → g (i + j) = g' (i + j) ∧ cp (i + j) = cp' (i + j)) : flatB g cp i L = flatB g' cp' i L := by
  induction L generalizing i with
  | nil => rfl
  | cons b t ih =>
    have h0 := h 0 (by simp)
    simp only [Nat.add_zero] at h0
    simp only [flatB, rowB, h0.1, h0.2]
    rw [ih (i + 1) (fun j hj => by have := h (j + 1) (by simpa using hj); rw [show i + (j + 1) = i + 1 + j from by omega] at this; exact this)]
theorem flatB_gone (i : Nat) (L : List BlkD) (j : Nat) (b : BlkD) (h : L[j]? = some b) : (flatB g cp i L).set (j * 3 + 2) (.bool true) = flatB g cp i (L.set j ⟨b.ws, b.text, true⟩) := by
  induction L generalizing i j with
  | nil => simp at h
  | cons a t ih =>
    cases j with
    | zero => simp at h; subst h; simp [flatB, rowB]
    | succ j =>
      have := ih (i + 1) j (by simpa using h)
      have e2 : (j + 1) * 3 + 2 = (j * 3 + 2) + 3 := by omega
      rw [e2]
      simpa [flatB, rowB] using this
theorem flatB_ws (i : Nat) (L : List BlkD) (j : Nat) (b : BlkD) (ws : List Int) (h : L[j]? = some b) (hl : ws.length = b.ws.length) : flatB g cp i (L.set j ⟨ws, b.text, b.gone⟩) = flatB g cp i L := by
  induction L generalizing i j with
  | nil => simp at h
  | cons a t ih =>
    cases j with
    | zero => simp at h; subst h; simp [flatB, rowB, hl]
    | succ j =>
      have := ih (i + 1) j (by simpa using h)
      simpa [flatB, rowB] using this
end

/-- At p lies the reference's heap D; what it writes to are f's blocks. -/
structure RfAt (W : World) (B p : Nat) (D : HpD) (f : Nat → Prop) (v : Value) (g cp : Nat → Nat) : Prop where
  own : W.heap[p]? = some (.cells #[v, .bool D.locked, .int .i64 D.faults] 30 (0, 0))
  row : Lot W 79 3 v D.L.length (flatB g cp 0 D.L)
  lie : ∀ (j : Nat) (b : BlkD), D.L[j]? = some b → Lot W 32 1 (.slice (some ⟨g j, 0, none⟩) b.ws.length (cp j)) b.ws.length (b.ws.map uval)
  apart : ∀ (j k : Nat) (b c : BlkD), D.L[j]? = some b → D.L[k]? = some c → g j = g k → j = k
  foot : f = fun k => k = p ∨ v.ownBlock = some k ∨ ∃ (j : Nat) (b : BlkD), D.L[j]? = some b ∧ g j = k
  base : ∀ k, f k → B ≤ k
  many : D.L.length ≤ 1000000 ∧ D.faults ≤ 1000000
  fits : ∀ (j : Nat) (b : BlkD), D.L[j]? = some b → b.ws.length ≤ 256
def Rf (W : World) (B p : Nat) (D : HpD) (f : Nat → Prop) : Prop := ∃ v g cp, RfAt W B p D f v g cp

section
variable {W W' : World} {B p : Nat} {D : HpD} {f : Nat → Prop} {v : Value} {g cp : Nat → Nat}
theorem RfAt.self (h : RfAt W B p D f v g cp) : f p := by rw [h.foot]; exact .inl rfl
theorem RfAt.fv (h : RfAt W B p D f v g cp) {m : Nat} (hm : v.ownBlock = some m) : f m := by rw [h.foot]; exact .inr (.inl hm)
theorem RfAt.fg (h : RfAt W B p D f v g cp) {j : Nat} {b : BlkD} (hb : D.L[j]? = some b) : f (g j) := by rw [h.foot]; exact .inr (.inr ⟨j, b, hb, rfl⟩)
theorem RfAt.gtag (h : RfAt W B p D f v g cp) {j : Nat} {b : BlkD} (hb : D.L[j]? = some b) : ∃ cur, W.heap[g j]? = some (.cells cur 32 (0, 0)) := (h.lie j b hb).tag rfl
theorem RfAt.lt (h : RfAt W B p D f v g cp) : ∀ k, f k → k < W.heap.size := by
  intro k hk
  rw [h.foot] at hk
  rcases hk with rfl | hk | ⟨j, b, hj, rfl⟩
  · exact heap_at_lt h.own
  · exact h.row.lt k hk
  · obtain ⟨cur, hc⟩ := h.gtag hj; exact heap_at_lt hc
theorem RfAt.gp (h : RfAt W B p D f v g cp) {j : Nat} {b : BlkD} (hb : D.L[j]? = some b) : g j ≠ p := fun e => by
  obtain ⟨cur, h1⟩ := h.gtag hb
  rw [e, h.own] at h1
  exact absurd (Obj.cells.inj (Option.some.inj h1)).2.1 (by decide)
theorem RfAt.vp (h : RfAt W B p D f v g cp) {m : Nat} (hm : v.ownBlock = some m) : m ≠ p := fun e => by
  obtain ⟨cur, h1⟩ := h.row.tag hm
  rw [e, h.own] at h1
  exact absurd (Obj.cells.inj (Option.some.inj h1)).2.1 (by decide)
theorem RfAt.gv (h : RfAt W B p D f v g cp) {j : Nat} {b : BlkD} (hb : D.L[j]? = some b) {m : Nat} (hm : v.ownBlock = some m) : m ≠ g j := fun e => by
  obtain ⟨cur, h1⟩ := h.row.tag hm
  obtain ⟨cur2, h2⟩ := h.gtag hb
  rw [e, h2] at h1
  exact absurd (Obj.cells.inj (Option.some.inj h1)).2.1 (by decide)
theorem RfAt.stays (h : RfAt W B p D f v g cp) (hs : ∀ k, f k → W'.heap[k]? = W.heap[k]?) : RfAt W' B p D f v g cp := by
  refine ⟨(hs p h.self).trans h.own, h.row.stays (fun k hk => hs k (h.fv hk)), fun j b hb => (h.lie j b hb).stays (fun q hq => ?_), h.apart, h.foot, h.base, h.many, h.fits⟩
  obtain rfl : g j = q := by simpa [Value.ownBlock] using hq
  exact hs _ (h.fg hb)
theorem RfAt.below (h : RfAt W B p D f v g cp) (hb : Below W.heap.size W W') : RfAt W' B p D f v g cp := h.stays (fun k hk => hb.block k (h.lt k hk))
theorem RfAt.cells (h : RfAt W B p D f v g cp) : W.cell? ⟨p, 0, none⟩ = some v ∧ W.cell? ⟨p, 1, none⟩ = some (.bool D.locked) ∧ W.cell? ⟨p, 2, none⟩ = some (.int .i64 D.faults) ∧
    W.frozen? ⟨p, 0, none⟩ = false ∧ W.frozen? ⟨p, 1, none⟩ = false ∧ W.frozen? ⟨p, 2, none⟩ = false :=
  ⟨(cell_of h.own).trans rfl, (cell_of h.own).trans rfl, (cell_of h.own).trans rfl, by simp [World.frozen?, h.own], by simp [World.frozen?, h.own], by simp [World.frozen?, h.own]⟩
/-- The cells of a block. -/
theorem RfAt.blk (h : RfAt W B p D f v g cp) {j : Nat} {b : BlkD} (hb : D.L[j]? = some b) :
    ∃ q cap, v = .slice (some ⟨q, 0, none⟩) D.L.length cap ∧ W.cell? ⟨q, j * 3, none⟩ = some (.slice (some ⟨g j, 0, none⟩) b.ws.length (cp j)) ∧ W.cell? ⟨q, j * 3 + 1, none⟩ = some (.string b.text) ∧ W.cell? ⟨q, j * 3 + 2, none⟩ = some (.bool b.gone) ∧ W.frozen? ⟨q, j * 3 + 2, none⟩ = false := by
  have hj := (List.getElem?_eq_some_iff.1 hb).1
  obtain ⟨q, cap, hv, hat⟩ := h.row.cells (by omega)
  obtain ⟨e1, e2, e3⟩ := flatB_get (g := g) (cp := cp) 0 D.L j b hb
  rw [Nat.zero_add] at e1
  obtain ⟨cur, hc⟩ := h.row.tag (k := q) (by rw [hv]; rfl)
  exact ⟨q, cap, hv, hat _ _ e1, hat _ _ e2, hat _ _ e3, by simp [World.frozen?, hc]⟩

/-- A cell of the heap's own record is stored. -/
theorem RfAt.rec_ (h : RfAt W B p D f v g cp) (o : Nat) (u : Value) (lk : Bool) (fl : Nat) (hu : (#[v, .bool D.locked, .int .i64 D.faults] : Array Value).setIfInBounds o u = #[v, .bool lk, .int .i64 fl]) (hf : fl ≤ 1000000) :
    RfAt (W.setCell ⟨p, o, none⟩ u) B p ⟨D.L, lk, fl⟩ f v g cp ∧ Step f f W (W.setCell ⟨p, o, none⟩ u) := by
  refine ⟨⟨(heap_setAt h.own).trans (by rw [hu]), h.row.stays (fun k hk => Below.heap_setCell _ _ _ _ (h.vp hk)), fun j b hb => (h.lie j b hb).stays (fun q hq => ?_), h.apart, h.foot, h.base, ⟨h.many.1, hf⟩, h.fits⟩, Step.setCell u h.self⟩
  obtain rfl : g j = q := by simpa [Value.ownBlock] using hq
  exact Below.heap_setCell _ _ _ _ (h.gp hb)
theorem RfAt.setFaults (h : RfAt W B p D f v g cp) (hf : D.faults < 1000000) : RfAt (W.setCell ⟨p, 2, none⟩ (.int .i64 ((D.faults : Int) + 1))) B p D.fault f v g cp ∧ Step f f W (W.setCell ⟨p, 2, none⟩ (.int .i64 ((D.faults : Int) + 1))) :=
  h.rec_ 2 _ D.locked (D.faults + 1) rfl hf
theorem RfAt.setLock (h : RfAt W B p D f v g cp) (b : Bool) : RfAt (W.setCell ⟨p, 1, none⟩ (.bool b)) B p (D.lock b) f v g cp ∧ Step f f W (W.setCell ⟨p, 1, none⟩ (.bool b)) :=
  h.rec_ 1 _ b D.faults rfl h.many.2

/-- Blocks that change without a change of where they lie. -/
theorem RfAt.foot_set (h : RfAt W B p D f v g cp) (j : Nat) (x : BlkD) : f = fun k => k = p ∨ v.ownBlock = some k ∨ ∃ i b, (D.L.set j x)[i]? = some b ∧ g i = k := by
  rw [h.foot]
  funext k
  apply propext
  have e : ∀ i, (∃ b, (D.L.set j x)[i]? = some b) ↔ ∃ b, D.L[i]? = some b := fun i => by
    constructor
    · rintro ⟨b, hb⟩
      have := (List.getElem?_eq_some_iff.1 hb).1
      exact ⟨_, List.getElem?_eq_getElem (by simpa using this)⟩
    · rintro ⟨b, hb⟩
      have := (List.getElem?_eq_some_iff.1 hb).1
      exact ⟨_, List.getElem?_eq_getElem (by simpa using this)⟩
  constructor
  · rintro (hq | hq | ⟨i, b, hi, hq⟩)
    · exact .inl hq
    · exact .inr (.inl hq)
    · obtain ⟨c, hc⟩ := (e i).2 ⟨b, hi⟩; exact .inr (.inr ⟨i, c, hc, hq⟩)
  · rintro (hq | hq | ⟨i, b, hi, hq⟩)
    · exact .inl hq
    · exact .inr (.inl hq)
    · obtain ⟨c, hc⟩ := (e i).1 ⟨b, hi⟩; exact .inr (.inr ⟨i, c, hc, hq⟩)
theorem RfAt.apart_set (h : RfAt W B p D f v g cp) (j : Nat) (x : BlkD) : ∀ i k b c, (D.L.set j x)[i]? = some b → (D.L.set j x)[k]? = some c → g i = g k → i = k := by
  intro i k b c hi hk hg
  have h1 := (List.getElem?_eq_some_iff.1 hi).1
  have h2 := (List.getElem?_eq_some_iff.1 hk).1
  simp only [List.length_set] at h1 h2
  exact h.apart i k _ _ (List.getElem?_eq_getElem h1) (List.getElem?_eq_getElem h2) hg

/-- A cell of a block is stored. -/
theorem RfAt.setWord (h : RfAt W B p D f v g cp) {j : Nat} {b : BlkD} (hb : D.L[j]? = some b) (i : Nat) (hi : i < b.ws.length) (u : Int) :
    W.cell? ⟨g j, i, none⟩ = some (uval b.ws[i]) ∧ W.frozen? ⟨g j, i, none⟩ = false ∧
    RfAt (W.setCell ⟨g j, i, none⟩ (uval u)) B p (D.at (j + 1) ⟨b.ws.set i u, b.text, b.gone⟩) f v g cp ∧ Step f f W (W.setCell ⟨g j, i, none⟩ (uval u)) := by
  have hl := h.lie j b hb
  obtain ⟨cur, hc⟩ := h.gtag hb
  have hcell : W.cell? ⟨g j, i, none⟩ = some (uval b.ws[i]) := by
    obtain ⟨g', cap', hv, hat⟩ := hl.cells (by omega)
    have := hat i (uval b.ws[i]) (by simp [hi])
    simp only [Value.slice.injEq, Option.some.injEq, Addr.mk.injEq] at hv
    rw [hv.1.1]; exact this
  have hL : (D.at (j + 1) ⟨b.ws.set i u, b.text, b.gone⟩).L = D.L.set j ⟨b.ws.set i u, b.text, b.gone⟩ := rfl
  refine ⟨hcell, by simp [World.frozen?, hc], ⟨?_, ?_, fun k b' hk => ?_, ?_, ?_, h.base, ⟨by rw [hL]; simpa using h.many.1, h.many.2⟩, fun k b' hk => ?_⟩, Step.setCell _ (h.fg hb)⟩
  · rw [Below.heap_setCell _ _ _ _ (Ne.symm (h.gp hb))]; exact h.own
  · rw [hL, List.length_set, flatB_ws 0 D.L j b _ hb (by simp)]
    exact h.row.stays (fun k hk => Below.heap_setCell _ _ _ _ (h.gv hb hk))
  · rw [hL, List.getElem?_set] at hk
    by_cases hjk : j = k
    · subst hjk
      have hj := (List.getElem?_eq_some_iff.1 hb).1
      rw [if_pos rfl, if_pos hj] at hk
      cases hk
      rcases hl.2 with ⟨hv, _⟩ | ⟨g', cap', cur', hv, hg, q1, q2, q3, q4⟩
      · cases hv
      · simp only [Value.slice.injEq, Option.some.injEq, Addr.mk.injEq, true_and, and_true] at hv
        obtain ⟨rfl, rfl⟩ := hv
        refine ⟨by simp, .inr ⟨g j, cp j, _, by simp, heap_setAt hg, by simpa using q1, q2, by simpa using q3, ?_⟩⟩
        simp only [Array.toList_setIfInBounds, List.length_set, List.map_set]
        rw [List.take_set, q4]
    · rw [if_neg hjk] at hk
      refine (h.lie k b' hk).stays (fun q hq => ?_)
      obtain rfl : g k = q := by simpa [Value.ownBlock] using hq
      exact Below.heap_setCell _ _ _ _ (fun e => hjk (h.apart _ _ _ _ hb hk e.symm))
  · rw [hL]; exact h.apart_set j _
  · rw [hL]; exact h.foot_set j _
  · rw [hL, List.getElem?_set] at hk
    by_cases hjk : j = k
    · subst hjk
      have hj := (List.getElem?_eq_some_iff.1 hb).1
      rw [if_pos rfl, if_pos hj] at hk
      cases hk
      simpa using h.fits j b hb
    · rw [if_neg hjk] at hk; exact h.fits k b' hk

/-- A block is marked as dropped. -/
theorem RfAt.setGone (h : RfAt W B p D f v g cp) {j : Nat} {b : BlkD} (hb : D.L[j]? = some b) {q : Nat} (hq : v.ownBlock = some q) :
    RfAt (W.setCell ⟨q, j * 3 + 2, none⟩ (.bool true)) B p (D.at (j + 1) ⟨b.ws, b.text, true⟩) f v g cp ∧ Step f f W (W.setCell ⟨q, j * 3 + 2, none⟩ (.bool true)) := by
  have hL : (D.at (j + 1) ⟨b.ws, b.text, true⟩).L = D.L.set j ⟨b.ws, b.text, true⟩ := rfl
  have hj := (List.getElem?_eq_some_iff.1 hb).1
  refine ⟨⟨?_, ?_, fun k b' hk => ?_, ?_, ?_, h.base, ⟨by rw [hL]; simpa using h.many.1, h.many.2⟩, fun k b' hk => ?_⟩, Step.setCell _ (h.fv hq)⟩
  · rw [Below.heap_setCell _ _ _ _ (Ne.symm (h.vp hq))]; exact h.own
  · rw [hL, List.length_set, ← flatB_gone 0 D.L j b hb]
    refine ⟨by rw [List.length_set]; exact h.row.1, .inr ?_⟩
    rcases h.row.2 with ⟨hv, _⟩ | ⟨g', cap', cur', hv, hg, q1, q2, q3, q4⟩
    · rw [hv] at hq; cases hq
    · rw [hv] at hq
      obtain rfl : g' = q := by simpa [Value.ownBlock] using hq
      refine ⟨g', cap', _, hv, heap_setAt hg, q1, q2, by simpa using q3, ?_⟩
      rw [Array.toList_setIfInBounds, List.take_set, q4]
  · refine (?_ : Lot W 32 1 (.slice (some ⟨g k, 0, none⟩) b'.ws.length (cp k)) b'.ws.length (b'.ws.map uval)).stays (fun m hm => ?_)
    · rw [hL, List.getElem?_set] at hk
      by_cases hjk : j = k
      · subst hjk
        rw [if_pos rfl, if_pos hj] at hk
        cases hk
        exact h.lie j b hb
      · rw [if_neg hjk] at hk; exact h.lie k b' hk
    · obtain rfl : g k = m := by simpa [Value.ownBlock] using hm
      have hk2 := (List.getElem?_eq_some_iff.1 hk).1
      rw [hL, List.length_set] at hk2
      exact Below.heap_setCell _ _ _ _ (Ne.symm (h.gv (List.getElem?_eq_getElem hk2) hq))
  · rw [hL]; exact h.apart_set j _
  · rw [hL]; exact h.foot_set j _
  · rw [hL, List.getElem?_set] at hk
    by_cases hjk : j = k
    · subst hjk
      rw [if_pos rfl, if_pos hj] at hk
      cases hk
      exact h.fits j b hb
    · rw [if_neg hjk] at hk; exact h.fits k b' hk
end

/-- What a call of the reference's heap leaves. -/
def RfR (B p : Nat) (f : Nat → Prop) (W : World) (v : Value) (D' : HpD) (e : Ending) (W' : World) : Prop := ∃ f', e = .returned v ∧ Rf W' B p D' f' ∧ Step f f' W W'
theorem Rf.below {W W' : World} {B p : Nat} {D : HpD} {f : Nat → Prop} (h : Rf W B p D f) (hb : Below W.heap.size W W') : Rf W' B p D f := by
  obtain ⟨v, g, cp, h⟩ := h; exact ⟨v, g, cp, h.below hb⟩
theorem Rf.stays {W W' : World} {B p : Nat} {D : HpD} {f : Nat → Prop} (h : Rf W B p D f) (hs : ∀ k, f k → W'.heap[k]? = W.heap[k]?) : Rf W' B p D f := by
  obtain ⟨v, g, cp, h⟩ := h; exact ⟨v, g, cp, h.stays hs⟩
theorem Rf.lt {W : World} {B p : Nat} {D : HpD} {f : Nat → Prop} (h : Rf W B p D f) : ∀ k, f k → k < W.heap.size := by
  obtain ⟨v, g, cp, h⟩ := h; exact h.lt
theorem Rf.base {W : World} {B p : Nat} {D : HpD} {f : Nat → Prop} (h : Rf W B p D f) : ∀ k, k < B → ¬ f k := by
  obtain ⟨v, g, cp, h⟩ := h; intro k hk hf; have := h.base k hf; omega

end Go.Proofs.YtlgjolajnddpbaaDoor
