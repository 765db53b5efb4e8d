/-
  What an act is answered, and the heap behind it; what lies in the middle of Do.
-/
import Derived.Test.YtgigjbngocfkbaaAct
import Derived.Test.YtgigjbngocfkbaaHmake2
namespace Go.Proofs.Ytgigjbngocfkbaa
open Go Go.RowKit

theorem okay_nat {c : Int} (h : okay c = true) : ∃ n : Nat, c = (n : Int) ∧ n ≤ 256 := by
  unfold okay at h
  have := of_decide_eq_true h
  exact ⟨c.toNat, by omega, by omega⟩
theorem make_all {B p : Nat} {D : HpD} {f : Nat → Prop} (W : World) (h : Hp W B p D f) (hm : D.L.length < 1000000) (c : Int) (s : ByteArray) (hs : s.size ≤ 281474976710656) :
    Calls Try.prog 33 #[.pointer (some ⟨p, 0, none⟩), .int .i64 c, .string s] W (HpR B p f W (.int .u64 (makeV D c)) (makeD D c s)) := by
  cases hc : okay c with
  | true =>
    obtain ⟨n, rfl, hn⟩ := okay_nat hc
    have := make_good W h hm n hn s hs
    unfold makeV makeD
    rw [if_pos hc, if_pos hc]
    exact this
  | false =>
    refine (make_bad (p := p) W c s hc).mono fun e W' he => ?_
    obtain ⟨rfl, rfl⟩ := he
    unfold makeV makeD
    rw [if_neg (by rw [hc]; decide), if_neg (by rw [hc]; decide)]
    exact ⟨f, rfl, h, Step.refl _ _⟩

/-- The word of an answer, of an act that may be. -/
def actW (D : HpD) (x : ActD) : Int :=
  if x.kind = 1 ∨ x.kind = 10 ∨ x.kind = 3 ∨ x.kind = 4 then loadV D x.block x.cell else if x.kind = 5 then makeV D x.cell else if x.kind = 8 then (if D.locked then 0 else 1) else 0
/-- Its text. -/
def actT (D : HpD) (x : ActD) : ByteArray := if x.kind = 6 then textAt D.L x.block else ⟨#[]⟩
/-- The heap behind an act that may be. -/
def actN (D : HpD) (x : ActD) : HpD :=
  if x.kind = 1 ∨ x.kind = 10 then loadD D x.block x.cell else if x.kind = 2 then storeD D x.block x.cell x.new else if x.kind = 3 then swapD D x.block x.cell x.old x.new
  else if x.kind = 4 then bumpD D x.block x.cell x.new else if x.kind = 5 then makeD D x.cell x.text else if x.kind = 6 then wordsD D x.block
  else if x.kind = 7 then dropD D x.block else if x.kind = 8 then D.lock true else if x.kind = 9 then unlockD D else D
def doW (D : HpD) (x : ActD) : Int := if rightA x then actW D x else 0
def doT (D : HpD) (x : ActD) : ByteArray := if rightA x then actT D x else ⟨#[]⟩
def doN (D : HpD) (x : ActD) : HpD := if rightA x then actN D x else D
abbrev gotV (w : Int) (t : ByteArray) : Value := .agg #[.int .u64 w, .string t]

def actCells (x : ActD) : Array Value := #[.int .i64 x.kind, .int .u64 (x.block : Int), .int .i64 x.cell, .int .u64 x.old, .int .u64 x.new, .string x.text]
abbrev gotCells (w : Int) (t : ByteArray) : Array Value := #[.int .u64 w, .string t]

/-- In the middle of Do: the heap, what was asked, the result's own place, the answer so far. -/
structure Doi (W : World) (f0 : Nat → Prop) (H : World → HpD → (Nat → Prop) → Prop) (n : Nat) (x : ActD) (D : HpD) (f : Nat → Prop) (w : Int) (t : ByteArray) (X : World) : Prop where
  hp : H X D f
  bx : X.heap[n]? = some (.cells (actCells x) 31 (0, 0))
  rs : X.heap[n + 1]? = some (.cells (gotCells 0 ⟨#[]⟩) 45 (0, 0))
  gt : X.heap[n + 2]? = some (.cells (gotCells w t) 45 (0, 0))
  lo : ∀ k, f k → k < X.heap.size
  off : ¬ f n ∧ ¬ f (n + 1) ∧ ¬ f (n + 2)
  st : Step f0 f W X
  nn : n = W.heap.size
section
variable {W X Y : World} {f0 f f1 : Nat → Prop} {H : World → HpD → (Nat → Prop) → Prop} {n : Nat} {x : ActD} {D D1 : HpD} {w : Int} {t : ByteArray}
theorem Doi.below (h : Doi W f0 H n x D f w t X) (hH : ∀ {A B : World}, H A D f → Below A.heap.size A B → H B D f) (hb : Below X.heap.size X Y) : Doi W f0 H n x D f w t Y :=
  ⟨hH h.hp hb, (hb.block n (heap_at_lt h.bx)).trans h.bx, (hb.block _ (heap_at_lt h.rs)).trans h.rs, (hb.block _ (heap_at_lt h.gt)).trans h.gt, fun k hk => Nat.lt_of_lt_of_le (h.lo k hk) hb.size, h.off, h.st.trans (Step.of_below hb), h.nn⟩
theorem Doi.turn (h : Doi W f0 H n x D f w t X) (h1 : H Y D1 f1) (s1 : Step f f1 X Y) (hl : ∀ k, f1 k → k < Y.heap.size) : Doi W f0 H n x D1 f1 w t Y :=
  ⟨h1, (s1.block n (heap_at_lt h.bx) h.off.1).trans h.bx, (s1.block _ (heap_at_lt h.rs) h.off.2.1).trans h.rs, (s1.block _ (heap_at_lt h.gt) h.off.2.2).trans h.gt, hl,
    ⟨s1.off (heap_at_lt h.bx) h.off.1, s1.off (heap_at_lt h.rs) h.off.2.1, s1.off (heap_at_lt h.gt) h.off.2.2⟩, h.st.trans s1, h.nn⟩
theorem Doi.cells (h : Doi W f0 H n x D f w t X) : X.cell? ⟨n, 0, none⟩ = some (.int .i64 x.kind) ∧ X.cell? ⟨n, 1, none⟩ = some (.int .u64 (x.block : Int)) ∧ X.cell? ⟨n, 2, none⟩ = some (.int .i64 x.cell) ∧ X.cell? ⟨n, 3, none⟩ = some (.int .u64 x.old) ∧ X.cell? ⟨n, 4, none⟩ = some (.int .u64 x.new) ∧ X.cell? ⟨n, 5, none⟩ = some (.string x.text) ∧
    X.cell? ⟨n + 1, 0, none⟩ = some (.int .u64 0) ∧ X.cell? ⟨n + 1, 1, none⟩ = some (.string ⟨#[]⟩) ∧ X.frozen? ⟨n + 1, 0, none⟩ = false ∧ X.frozen? ⟨n + 1, 1, none⟩ = false ∧
    X.cell? ⟨n + 2, 0, none⟩ = some (.int .u64 w) ∧ X.cell? ⟨n + 2, 1, none⟩ = some (.string t) ∧ X.frozen? ⟨n + 2, 0, none⟩ = false ∧ X.frozen? ⟨n + 2, 1, none⟩ = false :=
  ⟨(cell_of h.bx).trans rfl, (cell_of h.bx).trans rfl, (cell_of h.bx).trans rfl, (cell_of h.bx).trans rfl, (cell_of h.bx).trans rfl, (cell_of h.bx).trans rfl, (cell_of h.rs).trans rfl, (cell_of h.rs).trans rfl, by simp [World.frozen?, h.rs], by simp [World.frozen?, h.rs], (cell_of h.gt).trans rfl, (cell_of h.gt).trans rfl, by simp [World.frozen?, h.gt], by simp [World.frozen?, h.gt]⟩
/-- A store into one of the call's own places is of no matter to the heap. -/
theorem Step.own {A : World} {b o : Nat} {u : Value} (hb : A.heap.size ≤ b) (h : Step f0 f A X) : Step f0 f A (X.setCell ⟨b, o, none⟩ u) :=
  ⟨h.os, h.tape, h.output, by simp only [World.setCell]; simpa using h.size, fun k hk hn => (Below.heap_setCell _ _ _ _ (fun e => by have : k = b := e; omega)).trans (h.block k hk hn), fun k hk => h.foot k hk⟩
theorem Doi.word (h : Doi W f0 H n x D f w t X) (hH : ∀ {A B : World}, H A D f → (∀ k, f k → B.heap[k]? = A.heap[k]?) → H B D f) (w' : Int) : Doi W f0 H n x D f w' t (X.setCell ⟨n + 2, 0, none⟩ (.int .u64 w')) := by
  have hk : ∀ k, k ≠ n + 2 → (X.setCell ⟨n + 2, 0, none⟩ (.int .u64 w')).heap[k]? = X.heap[k]? := fun k hk => Below.heap_setCell _ _ _ _ (fun e => hk e)
  refine ⟨hH h.hp (fun k hf => hk k (fun e => h.off.2.2 (e ▸ hf))), (hk _ (by omega)).trans h.bx, (hk _ (by omega)).trans h.rs, (heap_setAt h.gt).trans rfl, fun k hf => ?_, h.off, ?_, h.nn⟩
  · have := h.lo k hf; simp [World.setCell]; exact this
  · exact Step.own (by have := h.nn; omega) h.st
theorem Doi.text (h : Doi W f0 H n x D f w t X) (hH : ∀ {A B : World}, H A D f → (∀ k, f k → B.heap[k]? = A.heap[k]?) → H B D f) (t' : ByteArray) : Doi W f0 H n x D f w t' (X.setCell ⟨n + 2, 1, none⟩ (.string t')) := by
  have hk : ∀ k, k ≠ n + 2 → (X.setCell ⟨n + 2, 1, none⟩ (.string t')).heap[k]? = X.heap[k]? := fun k hk => Below.heap_setCell _ _ _ _ (fun e => hk e)
  refine ⟨hH h.hp (fun k hf => hk k (fun e => h.off.2.2 (e ▸ hf))), (hk _ (by omega)).trans h.bx, (hk _ (by omega)).trans h.rs, (heap_setAt h.gt).trans rfl, fun k hf => ?_, h.off, ?_, h.nn⟩
  · have := h.lo k hf; simp [World.setCell]; exact this
  · exact Step.own (by have := h.nn; omega) h.st
/-- The answer goes to the result's own place. -/
theorem Doi.done (h : Doi W f0 H n x D f w t X) (hH : ∀ {A B : World}, H A D f → (∀ k, f k → B.heap[k]? = A.heap[k]?) → H B D f) (u u' : Value) :
    H ((X.setCell ⟨n + 1, 0, none⟩ u).setCell ⟨n + 1, 1, none⟩ u') D f ∧ Step f0 f W ((X.setCell ⟨n + 1, 0, none⟩ u).setCell ⟨n + 1, 1, none⟩ u') := by
  refine ⟨hH h.hp (fun k hf => ?_), ?_⟩
  · have hk : k ≠ n + 1 := fun e => h.off.2.1 (e ▸ hf)
    rw [Below.heap_setCell _ _ _ _ (fun e => hk e), Below.heap_setCell _ _ _ _ (fun e => hk e)]
  · exact Step.own (by have := h.nn; omega) (Step.own (by have := h.nn; omega) h.st)
theorem Doi.start (h : H W D f) (hl : ∀ k, f k → k < W.heap.size) (hH : ∀ {A B : World}, H A D f → Below A.heap.size A B → H B D f) :
    Doi W f H W.heap.size x D f 0 ⟨#[]⟩ (((W.alloc (.cells (actCells x) 31)).alloc (.cells (gotCells 0 ⟨#[]⟩) 45)).alloc (.cells (gotCells 0 ⟨#[]⟩) 45)) := by
  have b1 := below_alloc W (.cells (actCells x) 31)
  have b2 := below_alloc (W.alloc (.cells (actCells x) 31)) (.cells (gotCells 0 ⟨#[]⟩) 45)
  have b3 := below_alloc ((W.alloc (.cells (actCells x) 31)).alloc (.cells (gotCells 0 ⟨#[]⟩) 45)) (.cells (gotCells 0 ⟨#[]⟩) 45)
  have h1 := World.alloc_heap_new W (.cells (actCells x) 31)
  have h2 := World.alloc_heap_new (W.alloc (.cells (actCells x) 31)) (.cells (gotCells 0 ⟨#[]⟩) 45)
  have h3 := World.alloc_heap_new ((W.alloc (.cells (actCells x) 31)).alloc (.cells (gotCells 0 ⟨#[]⟩) 45)) (.cells (gotCells 0 ⟨#[]⟩) 45)
  have z1 : (W.alloc (.cells (actCells x) 31)).heap.size = W.heap.size + 1 := by simp
  have z2 : ((W.alloc (.cells (actCells x) 31)).alloc (.cells (gotCells 0 ⟨#[]⟩) 45)).heap.size = W.heap.size + 2 := by simp
  rw [z1] at h2 b2
  rw [z2] at h3 b3
  have b12 := b1.trans (b2.mono (by omega))
  have b123 := b12.trans (b3.mono (by omega))
  refine ⟨hH h b123, ?_, ?_, h3, fun k hk => by have := hl k hk; simp; omega, ⟨fun hf => ?_, fun hf => ?_, fun hf => ?_⟩, Step.of_below b123, rfl⟩
  · rw [b3.block _ (by omega), b2.block _ (by omega)]; exact h1
  · rw [b3.block _ (by omega)]; exact h2
  · have := hl _ hf; omega
  · have := hl _ hf; omega
  · have := hl _ hf; omega
end

end Go.Proofs.Ytgigjbngocfkbaa
