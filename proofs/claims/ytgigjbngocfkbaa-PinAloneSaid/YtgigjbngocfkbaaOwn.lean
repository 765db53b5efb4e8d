/-
  An iterator that has things of its own which it turns between its rounds (a heap, a routine), and the law of 'for x := range seq' over it: nothing of this is of one program.
  The caller names the blocks that are its own (f), the iterator those that are its own (g) and those that it reads (ro): each party leaves the other's alone.
-/
import Derived.Test.YtgigjbngocfkbaaFoot
import Derived.RangeFuncNested
import Derived.RangeFuncBound
import Derived.RangeFuncLeaves
namespace Go.Proofs.Ytgigjbngocfkbaa
open Go Go.RowKit

theorem Step.putObj {f f' : Nat → Prop} {A B : World} (p : Step f f' A B) {l : Nat} (hl : A.heap.size ≤ l) (o : Obj) : Step f f' A (B.putObj l o) :=
  ⟨p.os, p.tape, p.output, Nat.le_trans p.size (by simp), fun k hk hn => (World.putObj_heap_other (by omega)).trans (p.block k hk hn), p.foot⟩

/-- The invariant hangs on the blocks of its footprint alone. -/
def Stable {β : Type} (J : β → (Nat → Prop) → World → Prop) : Prop :=
  ∀ s f W W', J s f W → W.heap.size ≤ W'.heap.size → (∀ k, f k → W'.heap[k]? = W.heap[k]?) → J s f W'

/-- The footprint lies within the heap. -/
def Bound {β : Type} (J : β → (Nat → Prop) → World → Prop) : Prop := ∀ s f W, J s f W → ∀ k, f k → k < W.heap.size

variable {F : Fence} {n : Nat} {P : Program}

/-- How a round may end: 'go on', or 'no more'. -/
def RoundEnds {α : Type} (J Jx : List α → (Nat → Prop) → World → Prop) (ys : List α) (f : Nat → Prop) (W : World) (e : Ending) (W' : World) : Prop :=
  (e = .returned (.bool true) ∧ ∃ f', Step f f' W W' ∧ J ys f' W') ∨ (e = .returned (.bool false) ∧ ∃ f', Step f f' W W' ∧ Jx ys f' W')

/-- How the body of a round may be left. -/
def footPost {α : Type} (I : List α → (Nat → Prop) → World → Prop) (Ix : Code → List α → (Nat → Prop) → World → Prop) (ys : List α) (f : Nat → Prop) (W : World) : Exit → Act → World → Prop
  | .normal, _, W' => ∃ f', Step f f' W W' ∧ I ys f' W'
  | .ret, _, W' => ∃ f', Step f f' W W' ∧ Ix .ret ys f' W'
  | .exit id, _, W' => ∃ f', Step f f' W W' ∧ Ix (.exit id) ys f' W'
  | .goto t, _, W' => ∃ f', Step f f' W W' ∧ Ix (.goto t) ys f' W'
  | .panic _, _, _ => False
  | .outgrown, _, _ => False

/-- What the iterator has hangs on its own blocks, and on those that it reads. -/
def StableO (Own : Nat → (Nat → Prop) → World → Prop) (ro : Nat → Prop) : Prop :=
  ∀ j g W W', Own j g W → W.heap.size ≤ W'.heap.size → (∀ k, g k ∨ ro k → W'.heap[k]? = W.heap[k]?) → Own j g W'
def BoundO (Own : Nat → (Nat → Prop) → World → Prop) (ro : Nat → Prop) : Prop := ∀ j g W, Own j g W → ∀ k, g k ∨ ro k → k < W.heap.size

/-- How the iterator may end: all have come, or it was stopped; what it has then. -/
def OwnEnds {α : Type} (J Jx : List α → (Nat → Prop) → World → Prop) (Own : Nat → (Nat → Prop) → World → Prop) (ro : Nat → Prop) (xs : List α) (f g : Nat → Prop) (W : World) (e : Ending) (W' : World) : Prop :=
  (∃ v, e = .returned v) ∧ ∃ pre f' g', Step (fun k => f k ∨ g k) (fun k => f' k ∨ g' k) W W' ∧ (∀ k, f' k → ¬ g' k ∧ ¬ ro k) ∧ Own pre.length g' W' ∧ ((pre = xs ∧ J pre f' W') ∨ (pre <+: xs ∧ Jx pre f' W'))

/-- **THE CONTRACT OF SUCH AN ITERATOR**, function gf with the captured values lb: it hands out xs, one behind the other; behind j of them it has Own j. -/
def IterO {α : Type} (F : Fence) (n : Nat) (P : Program) (gf : Nat) (lb : Array Value) (encs : α → Array Value) (xs : List α) (Own : Nat → (Nat → Prop) → World → Prop) (ro : Nat → Prop) : Prop :=
  ∀ (l : Nat) (J Jx : List α → (Nat → Prop) → World → Prop) (W : World) (f g : Nat → Prop), Stable J → Stable Jx → Bound J → Own 0 g W → (∀ k, f k → ¬ g k ∧ ¬ ro k) →
    (∀ pre x post f1 W1, xs = pre ++ x :: post → J pre f1 W1 → YieldAt F (n - 1) P l (encs x) W1 (RoundEnds J Jx (pre ++ [x]) f1 W1)) →
    J [] f W →
    CallsIn F n P gf (#[.func (.yield l) #[] #[]] ++ lb) W (OwnEnds J Jx Own ro xs f g W)

/-- **THE STATEMENT 'for x := range seq { body }' OVER SUCH AN ITERATOR, whose variables are boxed: the assignment lays blocks.** -/
theorem wpIn_rangeFunc_own {α : Type} {go : Operand} {ps : Array Tmp} {assign body : Code} {Q : Exit → Act → World → Prop} {a : Act} {w : World}
    (hro : F.round = none) (h1 : 1 ≤ n) {gf : Nat} {lb : Array Value} (hg : a.eval go = .func (.func gf) #[] lb) (hFg : F.fn gf) (eg : ∀ args w, (callFunc gf args).run P w = .ok (.enter gf args) w)
    {encs : α → Array Value} {xs : List α} {Own : Nat → (Nat → Prop) → World → Prop} {ro : Nat → Prop} (hOS : StableO Own ro) (hOB : BoundO Own ro) (hseq : IterO F (n - 1) P gf lb encs xs Own ro) (hps : ∀ x, (encs x).size = ps.size)
    (I : List α → (Nat → Prop) → World → Prop) (Ix : Code → List α → (Nat → Prop) → World → Prop) (hI : Stable I) (hIx : ∀ c, Stable (Ix c)) (bI : Bound I) (f g : Nat → Prop) (h0 : I [] f w) (hO0 : Own 0 g w) (hap : ∀ k, f k → ¬ g k ∧ ¬ ro k) (A₁ : α → Nat → Act → World → Prop)
    (hA : ∀ x m a' W W', A₁ x m a' W → W'.heap.size = W.heap.size → (∀ k, m ≤ k → W'.heap[k]? = W.heap[k]?) → A₁ x m a' W')
    (hassign : ∀ (l : Nat) (x : α) (W : World) (K : Act → World → Prop), (∀ a' W', Below W.heap.size W W' → A₁ x W.heap.size a' W' → K a' W') →
      assign.wpIn (F.inRound l) (n - 1 - 1) P (Exit.then K (fun _ _ _ => False)) { tmps := (ps.zip (encs x)).foldl (fun t (p, v) => t.setIfInBounds p v) a.tmps, defers := [] } W)
    (hbody : ∀ (l : Nat) (pre : List α) (x : α) (post : List α) (f1 : Nat → Prop) (a' : Act) (W : World) (m : Nat), xs = pre ++ x :: post → I pre f1 W → A₁ x m a' W → w.heap.size ≤ m → m ≤ W.heap.size → (∀ k, f1 k → k < m) →
      body.wpIn (F.inRound l) (n - 1 - 1) P (footPost I Ix (pre ++ [x]) f1 W) a' W)
    (hdone : ∀ (D : Nat) (f' g' : Nat → Prop) (W : World), w.heap.size ≤ D → ¬ f' D → ¬ g' D → ¬ ro D → Step (fun k => f k ∨ g k) (fun k => f' k ∨ g' k) w W → (∀ k, f' k → ¬ g' k ∧ ¬ ro k) → I xs f' W → Own xs.length g' W → W.heap[D]? = some (.deferred (some [])) → Q .normal { a with defers := { target := .collected D, args := #[] } :: a.defers } W)
    (hstop : ∀ (D : Nat) (c : Code) (pre : List α) (f' g' : Nat → Prop) (W : World), w.heap.size ≤ D → ¬ f' D → ¬ g' D → ¬ ro D → Step (fun k => f k ∨ g k) (fun k => f' k ∨ g' k) w W → (∀ k, f' k → ¬ g' k ∧ ¬ ro k) → pre <+: xs → Ix c pre f' W → Own pre.length g' W → W.heap[D]? = some (.deferred (some [])) →
      c.wpIn F n P Q { a with defers := { target := .collected D, args := #[] } :: a.defers } W) :
    (Code.rangeFunc go ps assign body).wpIn F n P Q a w := by
  refine wpIn_rangeFunc ?_
  intro fn hfn
  rw [hro]
  obtain ⟨rec, hrec⟩ : ∃ rec : LoopState → Option Code → Loop, rec = fun st pe => { state := st, pending := pe, fn, tmps := a.tmps, params := ps, assign, body, defers := w.heap.size } := ⟨_, rfl⟩
  obtain ⟨W1, hW1⟩ : ∃ W1, (w.alloc (.deferred (some []))).alloc (.loop (rec .ready none)) = W1 := ⟨_, rfl⟩
  have hL1 : W1.heap[w.heap.size + 1]? = some (.loop (rec .ready none)) := by
    rw [← hW1]; have := World.alloc_heap_new (w.alloc (.deferred (some []))) (.loop (rec .ready none)); rwa [World.size_alloc] at this
  have hK1 : W1.heap[w.heap.size]? = some (.deferred (some [])) := by
    rw [← hW1]; exact (Below.heap_alloc _ _ _ (by simp)).trans (World.alloc_heap_new w _)
  have hB1 : Below w.heap.size w W1 := by rw [← hW1]; exact ((Below.refl _ w).alloc (Nat.le_refl _) _).alloc (by simp) _
  have hI1 : I [] f W1 := hI _ _ _ _ h0 hB1.size (fun k hk => hB1.block k (bI _ _ _ h0 k hk))
  have hnD : ∀ k, w.heap.size ≤ k → ¬ f k := fun k hk hf => absurd (bI _ _ _ h0 k hf) (Nat.not_lt.2 hk)
  have hs1 : W1.heap.size = w.heap.size + 1 + 1 := by rw [← hW1]; simp
  have hO1 : Own 0 g W1 := hOS _ _ _ _ hO0 hB1.size (fun k hk => hB1.block k (hOB _ _ _ hO0 k hk))
  have hgl : ∀ k, g k ∨ ro k → k < w.heap.size := hOB _ _ _ hO0
  refine ⟨w.heap.size + 1, [{ target := .collected w.heap.size, args := #[] }], W1, { target := .fn (.func gf) lb, args := #[.func (.yield (w.heap.size + 1)) #[] #[]] }, W1, gf,
    #[.func (.yield (w.heap.size + 1)) #[] #[]] ++ lb, W1, ?_, ?_, ?_, ?_, fun _ => h1, ?_⟩
  · rw [← hW1, hrec]; exact run_enterLoop_outer _ _ _ _ _
  · simp only [resolve, hg]
    simp [go_sem]
  · intro f' hf'; simp [Target.leads] at hf'; subst hf'; exact hFg
  · simp [invoke, go_sem, eg]
  · refine (hseq (w.heap.size + 1)
      (fun pre fp W => ∃ f1, fp = (fun k => f1 k ∨ k = w.heap.size ∨ k = w.heap.size + 1) ∧ I pre f1 W ∧ W.heap[w.heap.size + 1]? = some (.loop (rec .ready none)) ∧ W.heap[w.heap.size]? = some (.deferred (some [])) ∧ ¬ f1 w.heap.size ∧ ¬ f1 (w.heap.size + 1))
      (fun pre fp W => ∃ c f1, fp = (fun k => f1 k ∨ k = w.heap.size ∨ k = w.heap.size + 1) ∧ Ix c pre f1 W ∧ W.heap[w.heap.size + 1]? = some (.loop (rec .done (some c))) ∧ W.heap[w.heap.size]? = some (.deferred (some [])) ∧ ¬ f1 w.heap.size ∧ ¬ f1 (w.heap.size + 1))
      W1 (fun k => f k ∨ k = w.heap.size ∨ k = w.heap.size + 1) g ?_ ?_ ?_ hO1 ?_ ?_ ⟨f, rfl, hI1, hL1, hK1, hnD _ (Nat.le_refl _), hnD _ (by omega)⟩).mono ?_
    · rintro s fp A B ⟨f1, rfl, hi, hl, hk, n1, n2⟩ hsz hbl
      exact ⟨f1, rfl, hI _ _ _ _ hi hsz (fun k hk => hbl k (.inl hk)), (hbl _ (.inr (.inr rfl))).trans hl, (hbl _ (.inr (.inl rfl))).trans hk, n1, n2⟩
    · rintro s fp A B ⟨c, f1, rfl, hi, hl, hk, n1, n2⟩ hsz hbl
      exact ⟨c, f1, rfl, hIx c _ _ _ _ hi hsz (fun k hk => hbl k (.inl hk)), (hbl _ (.inr (.inr rfl))).trans hl, (hbl _ (.inr (.inl rfl))).trans hk, n1, n2⟩
    · rintro s fp A ⟨f1, rfl, hi, hl, hk, n1, n2⟩ k hk'
      rcases hk' with h | rfl | rfl
      · exact bI _ _ _ hi k h
      · exact (Array.getElem?_eq_some_iff.1 hk).1
      · exact (Array.getElem?_eq_some_iff.1 hl).1
    · rintro k (hk | rfl | rfl)
      · exact hap k hk
      · exact ⟨fun h => by have := hgl _ (.inl h); omega, fun h => by have := hgl _ (.inr h); omega⟩
      · exact ⟨fun h => by have := hgl _ (.inl h); omega, fun h => by have := hgl _ (.inr h); omega⟩
    · -- ONE ROUND
      rintro pre x post fp W hxs ⟨f1, rfl, hi, hl, hk, n1, n2⟩
      have hlt : w.heap.size + 1 < W.heap.size := (Array.getElem?_eq_some_iff.1 hl).1
      have hy := run_yield (P := P) (args := encs x) hl (by rw [hrec]; exact hps x)
      rw [hrec] at hy
      refine ⟨fn, _, assign, body, hy, roundIn_of_wpIn hfn (hassign _ x W _ ?_)⟩
      intro a' W' hbel hA'
      have hI0 := hi
      have hlW := hl
      replace hl : W'.heap[w.heap.size + 1]? = some (.loop (rec .ready none)) := (hbel.block _ hlt).trans hl
      replace hk : W'.heap[w.heap.size]? = some (.deferred (some [])) := (hbel.block _ (by omega)).trans hk
      replace hi : I pre f1 W' := hI _ _ _ _ hi hbel.size (fun k hkf => hbel.block k (bI _ _ _ hI0 k hkf))
      have hlt' : w.heap.size + 1 < W'.heap.size := Nat.lt_of_lt_of_le hlt hbel.size
      refine ⟨_, run_beginRound hl (by rw [hrec]), ?_⟩
      have hl2 : (W'.putObj (w.heap.size + 1) (.loop { rec .ready none with state := .busy })).heap[w.heap.size + 1]? = some (.loop { rec .ready none with state := .busy }) := World.putObj_heap_same hlt'
      have hk2 : (W'.putObj (w.heap.size + 1) (.loop { rec .ready none with state := .busy })).heap[w.heap.size]? = some (.deferred (some [])) := (World.putObj_heap_other (by omega)).trans hk
      have hi2 : I pre f1 (W'.putObj (w.heap.size + 1) (.loop { rec .ready none with state := .busy })) := hI _ _ _ _ hi (by simp) (fun k hkf => World.putObj_heap_other (fun e => n2 (e ▸ hkf)))
      have hA2 : A₁ x W.heap.size a' (W'.putObj (w.heap.size + 1) (.loop { rec .ready none with state := .busy })) := hA _ _ _ _ _ hA' (by simp) (fun k hk' => World.putObj_heap_other (by omega))
      refine wpIn_mono (hbody _ pre x post f1 a' _ W.heap.size hxs hi2 hA2 (by omega) (by simpa using hbel.size) (bI _ _ _ hI0)) ?_
      have fin : ∀ (jump : Option Code) (f2 : Nat → Prop) (W3 : World), Step f1 f2 (W'.putObj (w.heap.size + 1) (.loop { rec .ready none with state := .busy })) W3 →
          (Instr.endRound (w.heap.size + 1) jump).run P W3 = .ok (.bool jump.isNone) (W3.putObj (w.heap.size + 1) (.loop (rec (if jump.isNone then .ready else .done) jump))) ∧
          (W3.putObj (w.heap.size + 1) (.loop (rec (if jump.isNone then .ready else .done) jump))).heap[w.heap.size + 1]? = some (.loop (rec (if jump.isNone then .ready else .done) jump)) ∧
          (W3.putObj (w.heap.size + 1) (.loop (rec (if jump.isNone then .ready else .done) jump))).heap[w.heap.size]? = some (.deferred (some [])) ∧
          ¬ f2 w.heap.size ∧ ¬ f2 (w.heap.size + 1) ∧
          Step (fun k => f1 k ∨ k = w.heap.size ∨ k = w.heap.size + 1) (fun k => f2 k ∨ k = w.heap.size ∨ k = w.heap.size + 1) W (W3.putObj (w.heap.size + 1) (.loop (rec (if jump.isNone then .ready else .done) jump))) := fun jump f2 W3 hs3 => by
        refine (show _ ∧ _ ∧ _ ∧ _ ∧ _ ∧ Step (fun k => f1 k ∨ k = w.heap.size ∨ k = w.heap.size + 1) (fun k => f2 k ∨ k = w.heap.size ∨ k = w.heap.size + 1) W' _ → _ from fun ⟨p1, p2, p3, p4, p5, p6⟩ => ⟨p1, p2, p3, p4, p5, (Step.of_below (f := fun k => f1 k ∨ k = w.heap.size ∨ k = w.heap.size + 1) hbel).trans p6⟩) ?_
        have hl3 := (hs3.block _ (by simp; omega) n2).trans hl2
        have hk3 := (hs3.block _ (by simp; omega) n1).trans hk2
        have hs3' := hs3.size
        have := run_endRound (P := P) jump hl3
        rw [hrec] at this ⊢
        refine ⟨this, World.putObj_heap_same (Array.getElem?_eq_some_iff.1 hl3).1, (World.putObj_heap_other (by omega)).trans hk3, fun h => ?_, fun h => ?_, hs3.os, hs3.tape, hs3.output, ?_, fun k hk' hn => ?_, fun k hk' => ?_⟩
        · rcases hs3.foot _ h with h | h
          · exact n1 h
          · simp at h; omega
        · rcases hs3.foot _ h with h | h
          · exact n2 h
          · simp at h; omega
        · simp at hs3' ⊢; omega
        · have hne : k ≠ w.heap.size + 1 := fun e => hn (.inr (.inr e))
          exact (World.putObj_heap_other hne).trans ((hs3.block k (by simpa using hk') (fun h => hn (.inl h))).trans (World.putObj_heap_other hne))
        · rcases hk' with h | h
          · rcases hs3.foot _ h with h | h
            · exact .inl (.inl h)
            · exact .inr (by simpa using h)
          · exact .inl (.inr h)
      rintro e a3 W3 hp
      cases e with
      | normal =>
        obtain ⟨f2, hs3, hi3⟩ := hp
        obtain ⟨hr, hl4, hk4, m1, m2, hst⟩ := fin none f2 W3 hs3
        exact ⟨_, _, hr, .inl ⟨rfl, _, hst, f2, rfl, hI _ _ _ _ hi3 (by simp) (fun k hkf => World.putObj_heap_other (fun e => m2 (e ▸ hkf))), hl4, hk4, m1, m2⟩⟩
      | ret =>
        obtain ⟨f2, hs3, hi3⟩ := hp
        obtain ⟨hr, hl4, hk4, m1, m2, hst⟩ := fin (some .ret) f2 W3 hs3
        exact ⟨_, _, hr, .inr ⟨rfl, _, hst, .ret, f2, rfl, hIx _ _ _ _ _ hi3 (by simp) (fun k hkf => World.putObj_heap_other (fun e => m2 (e ▸ hkf))), hl4, hk4, m1, m2⟩⟩
      | exit id =>
        obtain ⟨f2, hs3, hi3⟩ := hp
        obtain ⟨hr, hl4, hk4, m1, m2, hst⟩ := fin (some (.exit id)) f2 W3 hs3
        exact ⟨_, _, hr, .inr ⟨rfl, _, hst, .exit id, f2, rfl, hIx _ _ _ _ _ hi3 (by simp) (fun k hkf => World.putObj_heap_other (fun e => m2 (e ▸ hkf))), hl4, hk4, m1, m2⟩⟩
      | goto t =>
        obtain ⟨f2, hs3, hi3⟩ := hp
        obtain ⟨hr, hl4, hk4, m1, m2, hst⟩ := fin (some (.goto t)) f2 W3 hs3
        exact ⟨_, _, hr, .inr ⟨rfl, _, hst, .goto t, f2, rfl, hIx _ _ _ _ _ hi3 (by simp) (fun k hkf => World.putObj_heap_other (fun e => m2 (e ▸ hkf))), hl4, hk4, m1, m2⟩⟩
      | panic ch => exact hp.elim
      | outgrown => exact hp.elim
    · -- BEHIND THE ITERATOR
      have back : ∀ (fp f1 g1 : Nat → Prop) (W2 : World) (o : Obj), fp = (fun k => f1 k ∨ k = w.heap.size ∨ k = w.heap.size + 1) → Step (fun k => (f k ∨ k = w.heap.size ∨ k = w.heap.size + 1) ∨ g k) (fun k => fp k ∨ g1 k) W1 W2 →
          Step (fun k => f k ∨ g k) (fun k => f1 k ∨ g1 k) w (W2.putObj (w.heap.size + 1) o) := fun fp f1 g1 W2 o e hst => by
        subst e
        refine Step.putObj ⟨hst.os.trans hB1.os, hst.tape.trans hB1.tape, hst.output.trans hB1.output, Nat.le_trans hB1.size hst.size, fun k hk hn => ?_, fun k hk => ?_⟩ (by omega) o
        · refine (hst.block k (Nat.lt_of_lt_of_le hk hB1.size) (fun h => ?_)).trans (hB1.block k hk)
          rcases h with (h | h | h) | h
          · exact hn (.inl h)
          · omega
          · omega
          · exact hn (.inr h)
        · rcases hst.foot k (hk.elim (fun h => .inl (.inl h)) .inr) with ((h | rfl | rfl) | h) | h
          · exact .inl (.inl h)
          · exact .inr (Nat.le_refl _)
          · exact .inr (by omega)
          · exact .inl (.inr h)
          · exact .inr (by omega)
      rintro e W2 ⟨⟨v, rfl⟩, pre, fp, g1, hst, happ, hown, (⟨rfl, f1, rfl, hi, hl, hk, n1, n2⟩ | ⟨hpx, c, f1, rfl, hi, hl, hk, n1, n2⟩)⟩
      · have hgD := happ w.heap.size (.inr (.inl rfl))
        have hgl1 := happ (w.heap.size + 1) (.inr (.inr rfl))
        exact ⟨none, _, by have := run_endLoop (P := P) hl (by rw [hrec]; simp); rw [hrec] at this; exact this,
          hdone _ f1 g1 _ (Nat.le_refl _) n1 hgD.1 hgD.2 (back _ _ _ _ _ rfl hst) (fun k hk' => happ k (.inl hk')) (hI _ _ _ _ hi (by simp) (fun k hkf => World.putObj_heap_other (fun e => n2 (e ▸ hkf))))
            (hOS _ _ _ _ hown (by simp) (fun k hkg => World.putObj_heap_other (fun e => by subst e; exact hkg.elim hgl1.1 hgl1.2))) ((World.putObj_heap_other (by omega)).trans hk)⟩
      · have hgD := happ w.heap.size (.inr (.inl rfl))
        have hgl1 := happ (w.heap.size + 1) (.inr (.inr rfl))
        exact ⟨some c, _, by have := run_endLoop (P := P) hl (by rw [hrec]; simp); rw [hrec] at this; exact this,
          hstop _ c pre f1 g1 _ (Nat.le_refl _) n1 hgD.1 hgD.2 (back _ _ _ _ _ rfl hst) (fun k hk' => happ k (.inl hk')) hpx (hIx c _ _ _ _ hi (by simp) (fun k hkf => World.putObj_heap_other (fun e => n2 (e ▸ hkf))))
            (hOS _ _ _ _ hown (by simp) (fun k hkg => World.putObj_heap_other (fun e => by subst e; exact hkg.elim hgl1.1 hgl1.2))) ((World.putObj_heap_other (by omega)).trans hk)⟩

theorem yieldAt_any {m : Nat} {l : Nat} {args : Array Value} {W : World} {R : Ending → World → Prop} (hd : F.depth = none) (m' : Nat) (h : YieldAt F m P l args W R) : YieldAt F m' P l args W R := by
  obtain ⟨fn, tmps, assign, body, hy, hF, hR⟩ := h
  exact ⟨fn, tmps, assign, body, hy, hF, fun c cs _ => hR c cs (fun d hd' => by rw [hd] at hd'; cases hd')⟩

end Go.Proofs.Ytgigjbngocfkbaa
