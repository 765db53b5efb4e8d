/-
  The law of 'for x := range seq' over an iterator (Iter) whose round's variables are boxed: what the assignment lays is new. Nothing of one program.
-/
import Derived.Test.YtbddicaabjlbjaaIter
namespace Go.Proofs.Ytbddicaabjlbjaa
open Go Go.RowKit
variable {F : Fence} {n : Nat} {P : Program}

/-- **THE STATEMENT 'for x := range seq { body }' OVER SUCH AN ITERATOR, whose variables are boxed: the assignment lays blocks.** -/
theorem wpIn_rangeFunc_boxed {α : Type} {g : Operand} {ps : Array Tmp} {assign body : Code} {Q : Exit → Act → World → Prop} {a : Act} {w : World}
    (hro : F.round = none) (h1 : 1 ≤ n) {gf : Nat} {lb : Array Value} (hg : a.eval g = .func (.func gf) #[] lb) (hFg : F.fn gf) (eg : ∀ args w, (callFunc gf args).run P w = .ok (.enter gf args) w)
    {encs : α → Array Value} {xs : List α} {Pre : (Nat → Prop) → World → Prop} (hseq : Iter F (n - 1) P gf lb encs xs Pre) (hps : ∀ x, (encs x).size = ps.size)
    (I : List α → (Nat → Prop) → World → Prop) (Ix : Code → List α → (Nat → Prop) → World → Prop) (hI : Stable I) (hIx : ∀ c, Stable (Ix c)) (bI : Bound I) (f : Nat → Prop) (h0 : I [] f w)
    (hpre : ∀ W1, Below w.heap.size w W1 → Pre (fun k => f k ∨ k = w.heap.size ∨ k = w.heap.size + 1) W1) (A₁ : α → Nat → Act → World → Prop)
    (hA : ∀ x m a' W W', A₁ x m a' W → W'.heap.size = W.heap.size → (∀ k, m ≤ k → W'.heap[k]? = W.heap[k]?) → A₁ x m a' W')
    (hassign : ∀ (l : Nat) (x : α) (W : World) (K : Act → World → Prop), (∀ a' W', Below W.heap.size W W' → A₁ x W.heap.size a' W' → K a' W') →
      assign.wpIn (F.inRound l) (n - 1 - 1) P (Exit.then K (fun _ _ _ => False)) { tmps := (ps.zip (encs x)).foldl (fun t (p, v) => t.setIfInBounds p v) a.tmps, defers := [] } W)
    (hbody : ∀ (l : Nat) (pre : List α) (x : α) (post : List α) (f1 : Nat → Prop) (a' : Act) (W : World) (m : Nat), xs = pre ++ x :: post → I pre f1 W → A₁ x m a' W → w.heap.size ≤ m → m ≤ W.heap.size → (∀ k, f1 k → k < m) →
      body.wpIn (F.inRound l) (n - 1 - 1) P (footPost I Ix (pre ++ [x]) f1 W) a' W)
    (hdone : ∀ (D : Nat) (f' : Nat → Prop) (W : World), w.heap.size ≤ D → ¬ f' D → Step f f' w W → I xs f' W → W.heap[D]? = some (.deferred (some [])) → Q .normal { a with defers := { target := .collected D, args := #[] } :: a.defers } W)
    (hstop : ∀ (D : Nat) (c : Code) (pre : List α) (f' : Nat → Prop) (W : World), w.heap.size ≤ D → ¬ f' D → Step f f' w W → pre <+: xs → Ix c pre f' W → W.heap[D]? = some (.deferred (some [])) →
      c.wpIn F n P Q { a with defers := { target := .collected D, args := #[] } :: a.defers } W) :
    (Code.rangeFunc g ps assign body).wpIn F n P Q a w := by
  refine wpIn_rangeFunc ?_
  intro fn hfn
  rw [hro]
  obtain ⟨rec, hrec⟩ : ∃ rec : LoopState → Option Code → Loop, rec = fun st pe => { state := st, pending := pe, fn, tmps := a.tmps, params := ps, assign, body, defers := w.heap.size } := ⟨_, rfl⟩
  obtain ⟨W1, hW1⟩ : ∃ W1, (w.alloc (.deferred (some []))).alloc (.loop (rec .ready none)) = W1 := ⟨_, rfl⟩
  have hL1 : W1.heap[w.heap.size + 1]? = some (.loop (rec .ready none)) := by
    rw [← hW1]; have := World.alloc_heap_new (w.alloc (.deferred (some []))) (.loop (rec .ready none)); rwa [World.size_alloc] at this
  have hK1 : W1.heap[w.heap.size]? = some (.deferred (some [])) := by
    rw [← hW1]; exact (Below.heap_alloc _ _ _ (by simp)).trans (World.alloc_heap_new w _)
  have hB1 : Below w.heap.size w W1 := by rw [← hW1]; exact ((Below.refl _ w).alloc (Nat.le_refl _) _).alloc (by simp) _
  have hI1 : I [] f W1 := hI _ _ _ _ h0 hB1.size (fun k hk => hB1.block k (bI _ _ _ h0 k hk))
  have hnD : ∀ k, w.heap.size ≤ k → ¬ f k := fun k hk hf => absurd (bI _ _ _ h0 k hf) (Nat.not_lt.2 hk)
  have hs1 : W1.heap.size = w.heap.size + 1 + 1 := by rw [← hW1]; simp
  refine ⟨w.heap.size + 1, [{ target := .collected w.heap.size, args := #[] }], W1, { target := .fn (.func gf) lb, args := #[.func (.yield (w.heap.size + 1)) #[] #[]] }, W1, gf,
    #[.func (.yield (w.heap.size + 1)) #[] #[]] ++ lb, W1, ?_, ?_, ?_, ?_, fun _ => h1, ?_⟩
  · rw [← hW1, hrec]; exact run_enterLoop_outer _ _ _ _ _
  · simp only [resolve, hg]
    simp [go_sem]
  · intro f' hf'; simp [Target.leads] at hf'; subst hf'; exact hFg
  · simp [invoke, go_sem, eg]
  · refine (hseq (w.heap.size + 1)
      (fun pre fp W => ∃ f1, fp = (fun k => f1 k ∨ k = w.heap.size ∨ k = w.heap.size + 1) ∧ I pre f1 W ∧ W.heap[w.heap.size + 1]? = some (.loop (rec .ready none)) ∧ W.heap[w.heap.size]? = some (.deferred (some [])) ∧ ¬ f1 w.heap.size ∧ ¬ f1 (w.heap.size + 1))
      (fun pre fp W => ∃ c f1, fp = (fun k => f1 k ∨ k = w.heap.size ∨ k = w.heap.size + 1) ∧ Ix c pre f1 W ∧ W.heap[w.heap.size + 1]? = some (.loop (rec .done (some c))) ∧ W.heap[w.heap.size]? = some (.deferred (some [])) ∧ ¬ f1 w.heap.size ∧ ¬ f1 (w.heap.size + 1))
      W1 (fun k => f k ∨ k = w.heap.size ∨ k = w.heap.size + 1) ?_ ?_ ?_ (hpre W1 hB1) ?_ ⟨f, rfl, hI1, hL1, hK1, hnD _ (Nat.le_refl _), hnD _ (by omega)⟩).mono ?_
    · rintro s fp A B ⟨f1, rfl, hi, hl, hk, n1, n2⟩ hsz hbl
      exact ⟨f1, rfl, hI _ _ _ _ hi hsz (fun k hk => hbl k (.inl hk)), (hbl _ (.inr (.inr rfl))).trans hl, (hbl _ (.inr (.inl rfl))).trans hk, n1, n2⟩
    · rintro s fp A B ⟨c, f1, rfl, hi, hl, hk, n1, n2⟩ hsz hbl
      exact ⟨c, f1, rfl, hIx c _ _ _ _ hi hsz (fun k hk => hbl k (.inl hk)), (hbl _ (.inr (.inr rfl))).trans hl, (hbl _ (.inr (.inl rfl))).trans hk, n1, n2⟩
    · rintro s fp A ⟨f1, rfl, hi, hl, hk, n1, n2⟩ k hk'
      rcases hk' with h | rfl | rfl
      · exact bI _ _ _ hi k h
      · exact (Array.getElem?_eq_some_iff.1 hk).1
      · exact (Array.getElem?_eq_some_iff.1 hl).1
    · -- ONE ROUND
      rintro pre x post fp W hxs ⟨f1, rfl, hi, hl, hk, n1, n2⟩
      have hlt : w.heap.size + 1 < W.heap.size := (Array.getElem?_eq_some_iff.1 hl).1
      have hy := run_yield (P := P) (args := encs x) hl (by rw [hrec]; exact hps x)
      rw [hrec] at hy
      refine ⟨fn, _, assign, body, hy, roundIn_of_wpIn hfn (hassign _ x W _ ?_)⟩
      intro a' W' hbel hA'
      have hI0 := hi
      have hlW := hl
      replace hl : W'.heap[w.heap.size + 1]? = some (.loop (rec .ready none)) := (hbel.block _ hlt).trans hl
      replace hk : W'.heap[w.heap.size]? = some (.deferred (some [])) := (hbel.block _ (by omega)).trans hk
      replace hi : I pre f1 W' := hI _ _ _ _ hi hbel.size (fun k hkf => hbel.block k (bI _ _ _ hI0 k hkf))
      have hlt' : w.heap.size + 1 < W'.heap.size := Nat.lt_of_lt_of_le hlt hbel.size
      refine ⟨_, run_beginRound hl (by rw [hrec]), ?_⟩
      have hl2 : (W'.putObj (w.heap.size + 1) (.loop { rec .ready none with state := .busy })).heap[w.heap.size + 1]? = some (.loop { rec .ready none with state := .busy }) := World.putObj_heap_same hlt'
      have hk2 : (W'.putObj (w.heap.size + 1) (.loop { rec .ready none with state := .busy })).heap[w.heap.size]? = some (.deferred (some [])) := (World.putObj_heap_other (by omega)).trans hk
      have hi2 : I pre f1 (W'.putObj (w.heap.size + 1) (.loop { rec .ready none with state := .busy })) := hI _ _ _ _ hi (by simp) (fun k hkf => World.putObj_heap_other (fun e => n2 (e ▸ hkf)))
      have hA2 : A₁ x W.heap.size a' (W'.putObj (w.heap.size + 1) (.loop { rec .ready none with state := .busy })) := hA _ _ _ _ _ hA' (by simp) (fun k hk' => World.putObj_heap_other (by omega))
      refine wpIn_mono (hbody _ pre x post f1 a' _ W.heap.size hxs hi2 hA2 (by omega) (by simpa using hbel.size) (bI _ _ _ hI0)) ?_
      have fin : ∀ (jump : Option Code) (f2 : Nat → Prop) (W3 : World), Step f1 f2 (W'.putObj (w.heap.size + 1) (.loop { rec .ready none with state := .busy })) W3 →
          (Instr.endRound (w.heap.size + 1) jump).run P W3 = .ok (.bool jump.isNone) (W3.putObj (w.heap.size + 1) (.loop (rec (if jump.isNone then .ready else .done) jump))) ∧
          (W3.putObj (w.heap.size + 1) (.loop (rec (if jump.isNone then .ready else .done) jump))).heap[w.heap.size + 1]? = some (.loop (rec (if jump.isNone then .ready else .done) jump)) ∧
          (W3.putObj (w.heap.size + 1) (.loop (rec (if jump.isNone then .ready else .done) jump))).heap[w.heap.size]? = some (.deferred (some [])) ∧
          ¬ f2 w.heap.size ∧ ¬ f2 (w.heap.size + 1) ∧
          Step (fun k => f1 k ∨ k = w.heap.size ∨ k = w.heap.size + 1) (fun k => f2 k ∨ k = w.heap.size ∨ k = w.heap.size + 1) W (W3.putObj (w.heap.size + 1) (.loop (rec (if jump.isNone then .ready else .done) jump))) := fun jump f2 W3 hs3 => by
        refine (show _ ∧ _ ∧ _ ∧ _ ∧ _ ∧ Step (fun k => f1 k ∨ k = w.heap.size ∨ k = w.heap.size + 1) (fun k => f2 k ∨ k = w.heap.size ∨ k = w.heap.size + 1) W' _ → _ from fun ⟨p1, p2, p3, p4, p5, p6⟩ => ⟨p1, p2, p3, p4, p5, (Step.of_below (f := fun k => f1 k ∨ k = w.heap.size ∨ k = w.heap.size + 1) hbel).trans p6⟩) ?_
        have hl3 := (hs3.block _ (by simp; omega) n2).trans hl2
        have hk3 := (hs3.block _ (by simp; omega) n1).trans hk2
        have hs3' := hs3.size
        have := run_endRound (P := P) jump hl3
        rw [hrec] at this ⊢
        refine ⟨this, World.putObj_heap_same (Array.getElem?_eq_some_iff.1 hl3).1, (World.putObj_heap_other (by omega)).trans hk3, fun h => ?_, fun h => ?_, hs3.os, hs3.tape, hs3.output, ?_, fun k hk' hn => ?_, fun k hk' => ?_⟩
        · rcases hs3.foot _ h with h | h
          · exact n1 h
          · simp at h; omega
        · rcases hs3.foot _ h with h | h
          · exact n2 h
          · simp at h; omega
        · simp at hs3' ⊢; omega
        · have hne : k ≠ w.heap.size + 1 := fun e => hn (.inr (.inr e))
          exact (World.putObj_heap_other hne).trans ((hs3.block k (by simpa using hk') (fun h => hn (.inl h))).trans (World.putObj_heap_other hne))
        · rcases hk' with h | h
          · rcases hs3.foot _ h with h | h
            · exact .inl (.inl h)
            · exact .inr (by simpa using h)
          · exact .inl (.inr h)
      rintro e a3 W3 hp
      cases e with
      | normal =>
        obtain ⟨f2, hs3, hi3⟩ := hp
        obtain ⟨hr, hl4, hk4, m1, m2, hst⟩ := fin none f2 W3 hs3
        exact ⟨_, _, hr, .inl ⟨rfl, _, hst, f2, rfl, hI _ _ _ _ hi3 (by simp) (fun k hkf => World.putObj_heap_other (fun e => m2 (e ▸ hkf))), hl4, hk4, m1, m2⟩⟩
      | ret =>
        obtain ⟨f2, hs3, hi3⟩ := hp
        obtain ⟨hr, hl4, hk4, m1, m2, hst⟩ := fin (some .ret) f2 W3 hs3
        exact ⟨_, _, hr, .inr ⟨rfl, _, hst, .ret, f2, rfl, hIx _ _ _ _ _ hi3 (by simp) (fun k hkf => World.putObj_heap_other (fun e => m2 (e ▸ hkf))), hl4, hk4, m1, m2⟩⟩
      | exit id =>
        obtain ⟨f2, hs3, hi3⟩ := hp
        obtain ⟨hr, hl4, hk4, m1, m2, hst⟩ := fin (some (.exit id)) f2 W3 hs3
        exact ⟨_, _, hr, .inr ⟨rfl, _, hst, .exit id, f2, rfl, hIx _ _ _ _ _ hi3 (by simp) (fun k hkf => World.putObj_heap_other (fun e => m2 (e ▸ hkf))), hl4, hk4, m1, m2⟩⟩
      | goto t =>
        obtain ⟨f2, hs3, hi3⟩ := hp
        obtain ⟨hr, hl4, hk4, m1, m2, hst⟩ := fin (some (.goto t)) f2 W3 hs3
        exact ⟨_, _, hr, .inr ⟨rfl, _, hst, .goto t, f2, rfl, hIx _ _ _ _ _ hi3 (by simp) (fun k hkf => World.putObj_heap_other (fun e => m2 (e ▸ hkf))), hl4, hk4, m1, m2⟩⟩
      | panic ch => exact hp.elim
      | outgrown => exact hp.elim
    · -- BEHIND THE ITERATOR
      have back : ∀ (fp : Nat → Prop) (f1 : Nat → Prop) (W2 : World) (o : Obj), fp = (fun k => f1 k ∨ k = w.heap.size ∨ k = w.heap.size + 1) → Step (fun k => f k ∨ k = w.heap.size ∨ k = w.heap.size + 1) fp W1 W2 → Step f f1 w (W2.putObj (w.heap.size + 1) o) := fun fp f1 W2 o e hst => by
        subst e
        refine Step.putObj ⟨hst.os.trans hB1.os, hst.tape.trans hB1.tape, hst.output.trans hB1.output, Nat.le_trans hB1.size hst.size, fun k hk hn => ?_, fun k hk => ?_⟩ (by omega) o
        · exact (hst.block k (Nat.lt_of_lt_of_le hk hB1.size) (fun h => h.elim hn (fun h => by omega))).trans (hB1.block k hk)
        · rcases hst.foot k (.inl hk) with h | h
          · rcases h with h | rfl | rfl
            · exact .inl h
            · exact .inr (Nat.le_refl _)
            · exact .inr (by omega)
          · exact .inr (by omega)
      rintro e W2 ⟨⟨v, rfl⟩, (⟨fp, hst, f1, rfl, hi, hl, hk, n1, n2⟩ | ⟨pre, fp, hpx, hst, c, f1, rfl, hi, hl, hk, n1, n2⟩)⟩
      · exact ⟨none, _, by have := run_endLoop (P := P) hl (by rw [hrec]; simp); rw [hrec] at this; exact this,
          hdone _ f1 _ (Nat.le_refl _) n1 (back _ _ _ _ rfl hst) (hI _ _ _ _ hi (by simp) (fun k hkf => World.putObj_heap_other (fun e => n2 (e ▸ hkf)))) ((World.putObj_heap_other (by omega)).trans hk)⟩
      · exact ⟨some c, _, by have := run_endLoop (P := P) hl (by rw [hrec]; simp); rw [hrec] at this; exact this,
          hstop _ c pre f1 _ (Nat.le_refl _) n1 (back _ _ _ _ rfl hst) hpx (hIx c _ _ _ _ hi (by simp) (fun k hkf => World.putObj_heap_other (fun e => n2 (e ▸ hkf)))) ((World.putObj_heap_other (by omega)).trans hk)⟩

end Go.Proofs.Ytbddicaabjlbjaa
