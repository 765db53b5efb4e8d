/-
  A contract for an iterator ('for x := range seq') by the blocks that its caller owns, and the law of the statement over it: nothing of this is of one program.
  Why: the kit's contracts let the iterator turn nothing but a walk's object while the caller's invariant stands. An iterator whose own body ranges over another iterator turns that loop's record too, and reads boxes of its own behind each round: so here the caller names the blocks that are its own (its footprint), each party leaves the other's alone.
-/
import Derived.RangeFuncNested
import Derived.RangeFuncBound
import Derived.RangeFuncCalls
import Derived.RangeFuncLeaves
namespace Go.Proofs.Ytoflgkbjmbpdjaa
open Go Go.RowKit

/-- From W to W' no block that lay has turned but those of f; what is owned then (f') was owned, or is new. -/
structure Step (f f' : Nat → Prop) (W W' : World) : Prop where
  os : W'.os = W.os
  tape : W'.tape = W.tape
  output : W'.output = W.output
  size : W.heap.size ≤ W'.heap.size
  block : ∀ k, k < W.heap.size → ¬ f k → W'.heap[k]? = W.heap[k]?
  foot : ∀ k, f' k → f k ∨ W.heap.size ≤ k

theorem Step.refl (f : Nat → Prop) (W : World) : Step f f W W := ⟨rfl, rfl, rfl, Nat.le_refl _, fun _ _ _ => rfl, fun _ h => .inl h⟩

theorem Step.trans {f g h : Nat → Prop} {A B C : World} (p : Step f g A B) (q : Step g h B C) : Step f h A C :=
  ⟨q.os.trans p.os, q.tape.trans p.tape, q.output.trans p.output, Nat.le_trans p.size q.size,
    fun k hk hf => (q.block k (Nat.lt_of_lt_of_le hk p.size) (fun hg => (p.foot k hg).elim hf (fun h => absurd hk (Nat.not_lt.2 h)))).trans (p.block k hk hf),
    fun k hk => (q.foot k hk).elim (fun hg => p.foot k hg) (fun h => .inr (Nat.le_trans p.size h))⟩

/-- More owned at both ends. -/
theorem Step.or {f f' : Nat → Prop} {A B : World} (p : Step f f' A B) (O : Nat → Prop) : Step (fun k => f k ∨ O k) (fun k => f' k ∨ O k) A B :=
  ⟨p.os, p.tape, p.output, p.size, fun k hk h => p.block k hk (fun hf => h (.inl hf)), fun k hk => hk.elim (fun h => (p.foot k h).elim (fun h => .inl (.inl h)) .inr) (fun h => .inl (.inr h))⟩

/-- What was owned besides lay not in A: it may be struck at both ends. -/
theorem Step.strike {f f' g g' : Nat → Prop} {A B : World} (p : Step f f' A B) (h : ∀ k, k < A.heap.size → f k → g k) (h' : ∀ k, g' k → f' k) (hg : ∀ k, f k → g k ∨ A.heap.size ≤ k) : Step g g' A B :=
  ⟨p.os, p.tape, p.output, p.size, fun k hk hn => p.block k hk (fun hf => hn (h k hk hf)), fun k hk => (p.foot k (h' k hk)).elim (fun hf => hg k hf) .inr⟩

/-- Blocks that did not lie in A may turn besides. -/
theorem Step.own {f f' : Nat → Prop} {A B C : World} (p : Step f f' A B) (ho : C.os = B.os) (ht : C.tape = B.tape) (hp : C.output = B.output) (hs : B.heap.size ≤ C.heap.size)
    (hb : ∀ k, k < A.heap.size → C.heap[k]? = B.heap[k]?) : Step f f' A C :=
  ⟨ho.trans p.os, ht.trans p.tape, hp.trans p.output, Nat.le_trans p.size hs, fun k hk hn => (hb k hk).trans (p.block k hk hn), p.foot⟩

theorem Step.alloc {f f' : Nat → Prop} {A B : World} (p : Step f f' A B) (o : Obj) : Step f f' A (B.alloc o) :=
  p.own rfl rfl rfl (by simp) (fun k hk => Below.heap_alloc _ _ _ (Nat.lt_of_lt_of_le hk p.size))

theorem Step.putObj {f f' : Nat → Prop} {A B : World} (p : Step f f' A B) {l : Nat} (hl : A.heap.size ≤ l) (o : Obj) : Step f f' A (B.putObj l o) :=
  p.own rfl rfl rfl (by simp) (fun k hk => World.putObj_heap_other (by omega))

theorem Step.drew {f f' : Nat → Prop} {A B : World} (p : Step f f' A B) : Step f f' A B.drew := p.own rfl rfl rfl (Nat.le_refl _) (fun _ _ => rfl)

theorem Step.of_below {f : Nat → Prop} {A B : World} (h : Below A.heap.size A B) : Step f f A B := ⟨h.os, h.tape, h.output, h.size, fun k hk _ => h.block k hk, fun _ h => .inl h⟩

/-- Where nothing that lay was owned nothing that lay has turned. -/
theorem Step.below {f f' : Nat → Prop} {A B : World} (p : Step f f' A B) {n : Nat} (hn : n ≤ A.heap.size) (h : ∀ k, k < n → ¬ f k) : Below n A B :=
  ⟨p.os, p.tape, p.output, p.size, fun k hk => p.block k (by omega) (h k hk)⟩

/-- The invariant hangs on the blocks of its footprint alone. -/
def Stable {β : Type} (J : β → (Nat → Prop) → World → Prop) : Prop :=
  ∀ s f W W', J s f W → W.heap.size ≤ W'.heap.size → (∀ k, f k → W'.heap[k]? = W.heap[k]?) → J s f W'

theorem Stable.putObj {β : Type} {J : β → (Nat → Prop) → World → Prop} (hJ : Stable J) {s : β} {f : Nat → Prop} {W : World} (h : J s f W) {l : Nat} (o : Obj) (hn : ¬ f l) : J s f (W.putObj l o) :=
  hJ _ _ _ _ h (by simp) (fun k hk => World.putObj_heap_other (fun e => hn (e ▸ hk)))

/-- The footprint lies within the heap. -/
def Bound {β : Type} (J : β → (Nat → Prop) → World → Prop) : Prop := ∀ s f W, J s f W → ∀ k, f k → k < W.heap.size

variable {F : Fence} {n : Nat} {P : Program}

/-- How a round may end: 'go on', or 'no more'. -/
def RoundEnds {α : Type} (J Jx : List α → (Nat → Prop) → World → Prop) (ys : List α) (f : Nat → Prop) (W : World) (e : Ending) (W' : World) : Prop :=
  (e = .returned (.bool true) ∧ ∃ f', Step f f' W W' ∧ J ys f' W') ∨ (e = .returned (.bool false) ∧ ∃ f', Step f f' W W' ∧ Jx ys f' W')

/-- How the iterator may end: all have come, or it was stopped. -/
def IterEnds {α : Type} (J Jx : List α → (Nat → Prop) → World → Prop) (xs : List α) (f : Nat → Prop) (W : World) (e : Ending) (W' : World) : Prop :=
  (∃ v, e = .returned v) ∧ ((∃ f', Step f f' W W' ∧ J xs f' W') ∨ (∃ pre f', pre <+: xs ∧ Step f f' W W' ∧ Jx pre f' W'))

/-- **THE CONTRACT OF AN ITERATOR**, function gf with the captured values lb: it hands out xs, one behind the other, in whatever world in which 'Pre' holds of the caller's footprint and the world. -/
def Iter {α : Type} (F : Fence) (n : Nat) (P : Program) (gf : Nat) (lb : Array Value) (encs : α → Array Value) (xs : List α) (Pre : (Nat → Prop) → World → Prop) : Prop :=
  ∀ (l : Nat) (J Jx : List α → (Nat → Prop) → World → Prop) (W : World) (f : Nat → Prop), Stable J → Stable Jx → Bound J → Pre f W →
    (∀ pre x post f1 W1, xs = pre ++ x :: post → J pre f1 W1 → YieldAt F (n - 1) P l (encs x) W1 (RoundEnds J Jx (pre ++ [x]) f1 W1)) →
    J [] f W →
    CallsIn F n P gf (#[.func (.yield l) #[] #[]] ++ lb) W (IterEnds J Jx xs f W)

/-- How the body of a round may be left. -/
def footPost {α : Type} (I : List α → (Nat → Prop) → World → Prop) (Ix : Code → List α → (Nat → Prop) → World → Prop) (ys : List α) (f : Nat → Prop) (W : World) : Exit → Act → World → Prop
  | .normal, _, W' => ∃ f', Step f f' W W' ∧ I ys f' W'
  | .ret, _, W' => ∃ f', Step f f' W W' ∧ Ix .ret ys f' W'
  | .exit id, _, W' => ∃ f', Step f f' W W' ∧ Ix (.exit id) ys f' W'
  | .goto t, _, W' => ∃ f', Step f f' W W' ∧ Ix (.goto t) ys f' W'
  | .panic _, _, _ => False
  | .outgrown, _, _ => False

/-- **THE STATEMENT 'for x := range seq { body }' OVER SUCH AN ITERATOR.** -/
theorem wpIn_rangeFunc_foot {α : Type} {g : Operand} {ps : Array Tmp} {assign body : Code} {Q : Exit → Act → World → Prop} {a : Act} {w : World}
    (hro : F.round = none) (h1 : 1 ≤ n) {gf : Nat} {lb : Array Value} (hg : a.eval g = .func (.func gf) #[] lb) (hFg : F.fn gf) (eg : ∀ args w, (callFunc gf args).run P w = .ok (.enter gf args) w)
    {encs : α → Array Value} {xs : List α} {Pre : (Nat → Prop) → World → Prop} (hseq : Iter F (n - 1) P gf lb encs xs Pre) (hps : ∀ x, (encs x).size = ps.size)
    (I : List α → (Nat → Prop) → World → Prop) (Ix : Code → List α → (Nat → Prop) → World → Prop) (hI : Stable I) (hIx : ∀ c, Stable (Ix c)) (bI : Bound I) (f : Nat → Prop) (h0 : I [] f w)
    (hpre : ∀ W1, Below w.heap.size w W1 → Pre (fun k => f k ∨ k = w.heap.size ∨ k = w.heap.size + 1) W1) (a₁ : α → Act)
    (hassign : ∀ (l : Nat) (x : α) (W : World) (K : Act → World → Prop), K (a₁ x) W →
      assign.wpIn (F.inRound l) (n - 1 - 1) P (Exit.then K (fun _ _ _ => False)) { tmps := (ps.zip (encs x)).foldl (fun t (p, v) => t.setIfInBounds p v) a.tmps, defers := [] } W)
    (hbody : ∀ (l : Nat) (pre : List α) (x : α) (post : List α) (f1 : Nat → Prop) (W : World), xs = pre ++ x :: post → I pre f1 W → w.heap.size ≤ W.heap.size →
      body.wpIn (F.inRound l) (n - 1 - 1) P (footPost I Ix (pre ++ [x]) f1 W) (a₁ x) W)
    (hdone : ∀ (D : Nat) (f' : Nat → Prop) (W : World), w.heap.size ≤ D → ¬ f' D → Step f f' w W → I xs f' W → W.heap[D]? = some (.deferred (some [])) → Q .normal { a with defers := { target := .collected D, args := #[] } :: a.defers } W)
    (hstop : ∀ (D : Nat) (c : Code) (pre : List α) (f' : Nat → Prop) (W : World), w.heap.size ≤ D → ¬ f' D → Step f f' w W → pre <+: xs → Ix c pre f' W → W.heap[D]? = some (.deferred (some [])) →
      c.wpIn F n P Q { a with defers := { target := .collected D, args := #[] } :: a.defers } W) :
    (Code.rangeFunc g ps assign body).wpIn F n P Q a w := by
  refine wpIn_rangeFunc ?_
  intro fn hfn
  rw [hro]
  obtain ⟨rec, hrec⟩ : ∃ rec : LoopState → Option Code → Loop, rec = fun st pe => { state := st, pending := pe, fn, tmps := a.tmps, params := ps, assign, body, defers := w.heap.size } := ⟨_, rfl⟩
  obtain ⟨W1, hW1⟩ : ∃ W1, (w.alloc (.deferred (some []))).alloc (.loop (rec .ready none)) = W1 := ⟨_, rfl⟩
  have hL1 : W1.heap[w.heap.size + 1]? = some (.loop (rec .ready none)) := by
    rw [← hW1]; have := World.alloc_heap_new (w.alloc (.deferred (some []))) (.loop (rec .ready none)); rwa [World.size_alloc] at this
  have hK1 : W1.heap[w.heap.size]? = some (.deferred (some [])) := by
    rw [← hW1]; exact (Below.heap_alloc _ _ _ (by simp)).trans (World.alloc_heap_new w _)
  have hB1 : Below w.heap.size w W1 := by rw [← hW1]; exact ((Below.refl _ w).alloc (Nat.le_refl _) _).alloc (by simp) _
  have hI1 : I [] f W1 := hI _ _ _ _ h0 hB1.size (fun k hk => hB1.block k (bI _ _ _ h0 k hk))
  have hnD : ∀ k, w.heap.size ≤ k → ¬ f k := fun k hk hf => absurd (bI _ _ _ h0 k hf) (Nat.not_lt.2 hk)
  have hs1 : W1.heap.size = w.heap.size + 1 + 1 := by rw [← hW1]; simp
  refine ⟨w.heap.size + 1, [{ target := .collected w.heap.size, args := #[] }], W1, { target := .fn (.func gf) lb, args := #[.func (.yield (w.heap.size + 1)) #[] #[]] }, W1, gf,
    #[.func (.yield (w.heap.size + 1)) #[] #[]] ++ lb, W1, ?_, ?_, ?_, ?_, fun _ => h1, ?_⟩
  · rw [← hW1, hrec]; exact run_enterLoop_outer _ _ _ _ _
  · simp only [resolve, hg]
    simp [go_sem]
  · intro f' hf'; simp [Target.leads] at hf'; subst hf'; exact hFg
  · simp [invoke, go_sem, eg]
  · refine (hseq (w.heap.size + 1)
      (fun pre fp W => ∃ f1, fp = (fun k => f1 k ∨ k = w.heap.size ∨ k = w.heap.size + 1) ∧ I pre f1 W ∧ W.heap[w.heap.size + 1]? = some (.loop (rec .ready none)) ∧ W.heap[w.heap.size]? = some (.deferred (some [])) ∧ ¬ f1 w.heap.size ∧ ¬ f1 (w.heap.size + 1))
      (fun pre fp W => ∃ c f1, fp = (fun k => f1 k ∨ k = w.heap.size ∨ k = w.heap.size + 1) ∧ Ix c pre f1 W ∧ W.heap[w.heap.size + 1]? = some (.loop (rec .done (some c))) ∧ W.heap[w.heap.size]? = some (.deferred (some [])) ∧ ¬ f1 w.heap.size ∧ ¬ f1 (w.heap.size + 1))
      W1 (fun k => f k ∨ k = w.heap.size ∨ k = w.heap.size + 1) ?_ ?_ ?_ (hpre W1 hB1) ?_ ⟨f, rfl, hI1, hL1, hK1, hnD _ (Nat.le_refl _), hnD _ (by omega)⟩).mono ?_
    · rintro s fp A B ⟨f1, rfl, hi, hl, hk, n1, n2⟩ hsz hbl
      exact ⟨f1, rfl, hI _ _ _ _ hi hsz (fun k hk => hbl k (.inl hk)), (hbl _ (.inr (.inr rfl))).trans hl, (hbl _ (.inr (.inl rfl))).trans hk, n1, n2⟩
    · rintro s fp A B ⟨c, f1, rfl, hi, hl, hk, n1, n2⟩ hsz hbl
      exact ⟨c, f1, rfl, hIx c _ _ _ _ hi hsz (fun k hk => hbl k (.inl hk)), (hbl _ (.inr (.inr rfl))).trans hl, (hbl _ (.inr (.inl rfl))).trans hk, n1, n2⟩
    · rintro s fp A ⟨f1, rfl, hi, hl, hk, n1, n2⟩ k hk'
      rcases hk' with h | rfl | rfl
      · exact bI _ _ _ hi k h
      · exact (Array.getElem?_eq_some_iff.1 hk).1
      · exact (Array.getElem?_eq_some_iff.1 hl).1
    · -- ONE ROUND
      rintro pre x post fp W hxs ⟨f1, rfl, hi, hl, hk, n1, n2⟩
      have hlt : w.heap.size + 1 < W.heap.size := (Array.getElem?_eq_some_iff.1 hl).1
      have hy := run_yield (P := P) (args := encs x) hl (by rw [hrec]; exact hps x)
      rw [hrec] at hy
      refine ⟨fn, _, assign, body, hy, roundIn_of_wpIn hfn (hassign _ x W _ ⟨_, run_beginRound hl (by rw [hrec]), ?_⟩)⟩
      have hl2 : (W.putObj (w.heap.size + 1) (.loop { rec .ready none with state := .busy })).heap[w.heap.size + 1]? = some (.loop { rec .ready none with state := .busy }) := World.putObj_heap_same hlt
      have hk2 : (W.putObj (w.heap.size + 1) (.loop { rec .ready none with state := .busy })).heap[w.heap.size]? = some (.deferred (some [])) := (World.putObj_heap_other (by omega)).trans hk
      have hi2 : I pre f1 (W.putObj (w.heap.size + 1) (.loop { rec .ready none with state := .busy })) := hI _ _ _ _ hi (by simp) (fun k hkf => World.putObj_heap_other (fun e => n2 (e ▸ hkf)))
      have hw2 : Step f1 f1 W W := Step.refl _ _
      refine wpIn_mono (hbody _ pre x post f1 _ hxs hi2 (by simp; omega)) ?_
      have fin : ∀ (jump : Option Code) (f2 : Nat → Prop) (W3 : World), Step f1 f2 (W.putObj (w.heap.size + 1) (.loop { rec .ready none with state := .busy })) W3 →
          (Instr.endRound (w.heap.size + 1) jump).run P W3 = .ok (.bool jump.isNone) (W3.putObj (w.heap.size + 1) (.loop (rec (if jump.isNone then .ready else .done) jump))) ∧
          (W3.putObj (w.heap.size + 1) (.loop (rec (if jump.isNone then .ready else .done) jump))).heap[w.heap.size + 1]? = some (.loop (rec (if jump.isNone then .ready else .done) jump)) ∧
          (W3.putObj (w.heap.size + 1) (.loop (rec (if jump.isNone then .ready else .done) jump))).heap[w.heap.size]? = some (.deferred (some [])) ∧
          ¬ f2 w.heap.size ∧ ¬ f2 (w.heap.size + 1) ∧
          Step (fun k => f1 k ∨ k = w.heap.size ∨ k = w.heap.size + 1) (fun k => f2 k ∨ k = w.heap.size ∨ k = w.heap.size + 1) W (W3.putObj (w.heap.size + 1) (.loop (rec (if jump.isNone then .ready else .done) jump))) := fun jump f2 W3 hs3 => by
        have hl3 := (hs3.block _ (by simp; omega) n2).trans hl2
        have hk3 := (hs3.block _ (by simp; omega) n1).trans hk2
        have hs3' := hs3.size
        have := run_endRound (P := P) jump hl3
        rw [hrec] at this ⊢
        refine ⟨this, World.putObj_heap_same (Array.getElem?_eq_some_iff.1 hl3).1, (World.putObj_heap_other (by omega)).trans hk3, fun h => ?_, fun h => ?_, hs3.os, hs3.tape, hs3.output, ?_, fun k hk' hn => ?_, fun k hk' => ?_⟩
        · rcases hs3.foot _ h with h | h
          · exact n1 h
          · simp at h; omega
        · rcases hs3.foot _ h with h | h
          · exact n2 h
          · simp at h; omega
        · simp at hs3' ⊢; omega
        · have hne : k ≠ w.heap.size + 1 := fun e => hn (.inr (.inr e))
          exact (World.putObj_heap_other hne).trans ((hs3.block k (by simpa using hk') (fun h => hn (.inl h))).trans (World.putObj_heap_other hne))
        · rcases hk' with h | h
          · rcases hs3.foot _ h with h | h
            · exact .inl (.inl h)
            · exact .inr (by simpa using h)
          · exact .inl (.inr h)
      rintro e a3 W3 hp
      cases e with
      | normal =>
        obtain ⟨f2, hs3, hi3⟩ := hp
        obtain ⟨hr, hl4, hk4, m1, m2, hst⟩ := fin none f2 W3 hs3
        exact ⟨_, _, hr, .inl ⟨rfl, _, hst, f2, rfl, hI _ _ _ _ hi3 (by simp) (fun k hkf => World.putObj_heap_other (fun e => m2 (e ▸ hkf))), hl4, hk4, m1, m2⟩⟩
      | ret =>
        obtain ⟨f2, hs3, hi3⟩ := hp
        obtain ⟨hr, hl4, hk4, m1, m2, hst⟩ := fin (some .ret) f2 W3 hs3
        exact ⟨_, _, hr, .inr ⟨rfl, _, hst, .ret, f2, rfl, hIx _ _ _ _ _ hi3 (by simp) (fun k hkf => World.putObj_heap_other (fun e => m2 (e ▸ hkf))), hl4, hk4, m1, m2⟩⟩
      | exit id =>
        obtain ⟨f2, hs3, hi3⟩ := hp
        obtain ⟨hr, hl4, hk4, m1, m2, hst⟩ := fin (some (.exit id)) f2 W3 hs3
        exact ⟨_, _, hr, .inr ⟨rfl, _, hst, .exit id, f2, rfl, hIx _ _ _ _ _ hi3 (by simp) (fun k hkf => World.putObj_heap_other (fun e => m2 (e ▸ hkf))), hl4, hk4, m1, m2⟩⟩
      | goto t =>
        obtain ⟨f2, hs3, hi3⟩ := hp
        obtain ⟨hr, hl4, hk4, m1, m2, hst⟩ := fin (some (.goto t)) f2 W3 hs3
        exact ⟨_, _, hr, .inr ⟨rfl, _, hst, .goto t, f2, rfl, hIx _ _ _ _ _ hi3 (by simp) (fun k hkf => World.putObj_heap_other (fun e => m2 (e ▸ hkf))), hl4, hk4, m1, m2⟩⟩
      | panic ch => exact hp.elim
      | outgrown => exact hp.elim
    · -- BEHIND THE ITERATOR
      have back : ∀ (fp : Nat → Prop) (f1 : Nat → Prop) (W2 : World) (o : Obj), fp = (fun k => f1 k ∨ k = w.heap.size ∨ k = w.heap.size + 1) → Step (fun k => f k ∨ k = w.heap.size ∨ k = w.heap.size + 1) fp W1 W2 → Step f f1 w (W2.putObj (w.heap.size + 1) o) := fun fp f1 W2 o e hst => by
        subst e
        refine Step.putObj ⟨hst.os.trans hB1.os, hst.tape.trans hB1.tape, hst.output.trans hB1.output, Nat.le_trans hB1.size hst.size, fun k hk hn => ?_, fun k hk => ?_⟩ (by omega) o
        · exact (hst.block k (Nat.lt_of_lt_of_le hk hB1.size) (fun h => h.elim hn (fun h => by omega))).trans (hB1.block k hk)
        · rcases hst.foot k (.inl hk) with h | h
          · rcases h with h | rfl | rfl
            · exact .inl h
            · exact .inr (Nat.le_refl _)
            · exact .inr (by omega)
          · exact .inr (by omega)
      rintro e W2 ⟨⟨v, rfl⟩, (⟨fp, hst, f1, rfl, hi, hl, hk, n1, n2⟩ | ⟨pre, fp, hpx, hst, c, f1, rfl, hi, hl, hk, n1, n2⟩)⟩
      · exact ⟨none, _, by have := run_endLoop (P := P) hl (by rw [hrec]; simp); rw [hrec] at this; exact this,
          hdone _ f1 _ (Nat.le_refl _) n1 (back _ _ _ _ rfl hst) (hI _ _ _ _ hi (by simp) (fun k hkf => World.putObj_heap_other (fun e => n2 (e ▸ hkf)))) ((World.putObj_heap_other (by omega)).trans hk)⟩
      · exact ⟨some c, _, by have := run_endLoop (P := P) hl (by rw [hrec]; simp); rw [hrec] at this; exact this,
          hstop _ c pre f1 _ (Nat.le_refl _) n1 (back _ _ _ _ rfl hst) hpx (hIx c _ _ _ _ hi (by simp) (fun k hkf => World.putObj_heap_other (fun e => n2 (e ▸ hkf)))) ((World.putObj_heap_other (by omega)).trans hk)⟩

/-! ### An iterator that goes over another one and hands on what that one hands out -/

/-- Between two rounds: what the caller said of its own blocks; the iterator's own blocks O lie as they lay in w0. -/
def InI {α : Type} (J : List α → (Nat → Prop) → World → Prop) (p0 : List α) (O : Nat → Prop) (w0 : World) (pre : List α) (f1 : Nat → Prop) (W : World) : Prop :=
  ∃ fJ : Nat → Prop, f1 = (fun k => fJ k ∨ O k) ∧ J (p0 ++ pre) fJ W ∧ ∀ k, O k → k < W.heap.size ∧ W.heap[k]? = w0.heap[k]? ∧ ¬ fJ k

theorem InI.stable {α : Type} {J : List α → (Nat → Prop) → World → Prop} (hJ : Stable J) (p0 : List α) (O : Nat → Prop) (w0 : World) : Stable (InI J p0 O w0) := by
  rintro s f1 A B ⟨fJ, rfl, hj, hO⟩ hsz hbl
  exact ⟨fJ, rfl, hJ _ _ _ _ hj hsz (fun k hk => hbl k (.inl hk)), fun k hk => ⟨Nat.lt_of_lt_of_le (hO k hk).1 hsz, (hbl k (.inr hk)).trans (hO k hk).2.1, (hO k hk).2.2⟩⟩

theorem InI.bound {α : Type} {J : List α → (Nat → Prop) → World → Prop} (bJ : Bound J) (p0 : List α) (O : Nat → Prop) (w0 : World) : Bound (InI J p0 O w0) := by
  rintro s f1 A ⟨fJ, rfl, hj, hO⟩ k hk
  exact hk.elim (fun h => bJ _ _ _ hj k h) (fun h => (hO k h).1)

theorem InI.next {α : Type} {J : List α → (Nat → Prop) → World → Prop} {p0 pre : List α} {O : Nat → Prop} {w0 W W3 : World} {fJ f3 : Nat → Prop}
    (hO : ∀ k, O k → k < W.heap.size ∧ W.heap[k]? = w0.heap[k]? ∧ ¬ fJ k) (hs : Step fJ f3 W W3) (hj : J (p0 ++ pre) f3 W3) :
    ∃ f', Step (fun k => fJ k ∨ O k) f' W W3 ∧ InI J p0 O w0 pre f' W3 :=
  ⟨fun k => f3 k ∨ O k, hs.or O, f3, rfl, hj, fun k hk => ⟨Nat.lt_of_lt_of_le (hO k hk).1 hs.size, (hs.block k (hO k hk).1 (hO k hk).2.2).trans (hO k hk).2.1,
    fun h => (hs.foot k h).elim (hO k hk).2.2 (fun h' => absurd (hO k hk).1 (Nat.not_lt.2 h'))⟩⟩

/-- Where the iterator's own blocks did not lie when it was called. -/
theorem Step.join {f f1 f' O : Nat → Prop} {A B C : World} (p : Step f f1 A B) (q : Step (fun k => f1 k ∨ O k) (fun k => f' k ∨ O k) B C) (hO : ∀ k, O k → A.heap.size ≤ k) : Step f f' A C :=
  ⟨q.os.trans p.os, q.tape.trans p.tape, q.output.trans p.output, Nat.le_trans p.size q.size,
    fun k hk hn => (q.block k (Nat.lt_of_lt_of_le hk p.size) (fun h => h.elim (fun h => (p.foot k h).elim hn (fun h' => absurd hk (Nat.not_lt.2 h'))) (fun h => absurd hk (Nat.not_lt.2 (hO k h))))).trans (p.block k hk hn),
    fun k hk => (q.foot k (.inl hk)).elim (fun h => h.elim (fun h => p.foot k h) (fun h => .inr (hO k h))) (fun h => .inr (Nat.le_trans p.size h))⟩

theorem yieldAt_any {m : Nat} {l : Nat} {args : Array Value} {W : World} {R : Ending → World → Prop} (hd : F.depth = none) (m' : Nat) (h : YieldAt F m P l args W R) : YieldAt F m' P l args W R := by
  obtain ⟨fn, tmps, assign, body, hy, hF, hR⟩ := h
  exact ⟨fn, tmps, assign, body, hy, hF, fun c cs _ => hR c cs (fun d hd' => by rw [hd] at hd'; cases hd')⟩

end Go.Proofs.Ytoflgkbjmbpdjaa
