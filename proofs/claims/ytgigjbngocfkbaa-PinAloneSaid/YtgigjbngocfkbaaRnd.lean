/-
  Between two runs of routines: the config's box, a heap with a control block, blocks beside them that stay; the heap's calls, and a routine alone.
-/
import Derived.Test.YtgigjbngocfkbaaFld
namespace Go.Proofs.Ytgigjbngocfkbaa
open Go Go.RowKit

/-- The config's box, the heap, blocks beside it that stay. -/
structure Rnd (W : World) (a p s q v x : Int) (B hp : Nat) (D : HpD) (ks : List (Nat × Obj)) (X : World) : Prop where
  cf : X.heap[W.heap.size]? = some (.cells (cfC a p s q v x) 24 (0, 0))
  lo : Below W.heap.size W X
  hB : W.heap.size < B
  hh : ∃ f, Hp X B hp D f ∧ ∀ u ∈ ks, X.heap[u.1]? = some u.2 ∧ W.heap.size < u.1 ∧ ¬ f u.1

/-- A routine stands beside them. -/
structure Rnf {σ : Type} (M : Mach σ) (W : World) (a p s q v x : Int) (B hp : Nat) (D : HpD) (ks : List (Nat × Obj)) (r n : Nat) (E : σ) (X : World) : Prop where
  cf : X.heap[W.heap.size]? = some (.cells (cfC a p s q v x) 24 (0, 0))
  lo : Below W.heap.size W X
  hB : W.heap.size < B
  pl : ∃ f, PlM M X B hp r ⟨D, E⟩ n f ∧ ∀ u ∈ ks, X.heap[u.1]? = some u.2 ∧ W.heap.size < u.1 ∧ ¬ f u.1

section
variable {σ : Type} {M : Mach σ} {W X Y : World} {a p s q v x : Int} {B hp r n : Nat} {D D' : HpD} {ks : List (Nat × Obj)} {o : Obj} {E : σ}

theorem kept_below {f : Nat → Prop} (h : ∀ u ∈ ks, X.heap[u.1]? = some u.2 ∧ W.heap.size < u.1 ∧ ¬ f u.1) (hb : Below X.heap.size X Y) : ∀ u ∈ ks, Y.heap[u.1]? = some u.2 ∧ W.heap.size < u.1 ∧ ¬ f u.1 := fun u hu => by
  obtain ⟨h1, h2⟩ := h u hu
  exact ⟨(hb.block _ (heap_at_lt h1)).trans h1, h2⟩

theorem kept_step {f f' : Nat → Prop} (h : ∀ u ∈ ks, X.heap[u.1]? = some u.2 ∧ W.heap.size < u.1 ∧ ¬ f u.1) (st : Step f f' X Y) : ∀ u ∈ ks, Y.heap[u.1]? = some u.2 ∧ W.heap.size < u.1 ∧ ¬ f' u.1 := fun u hu => by
  obtain ⟨h1, h2, h3⟩ := h u hu
  have hlt := heap_at_lt h1
  exact ⟨(st.block _ hlt h3).trans h1, h2, fun hf => (st.foot _ hf).elim h3 (fun hge => by omega)⟩

theorem Rnd.below (h : Rnd W a p s q v x B hp D ks X) (hb : Below X.heap.size X Y) : Rnd W a p s q v x B hp D ks Y := by
  obtain ⟨f, h1, h2⟩ := h.hh
  exact ⟨(hb.block _ (heap_at_lt h.cf)).trans h.cf, h.lo.trans (hb.mono h.lo.size), h.hB, f, h1.below hb, kept_below h2 hb⟩

theorem Rnd.six (h : Rnd W a p s q v x B hp D ks X) : SixC W.heap.size a p s q v x X :=
  ⟨(cell_of h.cf).trans rfl, (cell_of h.cf).trans rfl, (cell_of h.cf).trans rfl, (cell_of h.cf).trans rfl, (cell_of h.cf).trans rfl, (cell_of h.cf).trans rfl⟩

theorem Rnd.kept (h : Rnd W a p s q v x B hp D ks X) {g : Nat} (hg : (g, o) ∈ ks) : X.heap[g]? = some o := by
  obtain ⟨f, _, h2⟩ := h.hh
  exact (h2 _ hg).1

theorem Rnd.few {ks' : List (Nat × Obj)} (h : Rnd W a p s q v x B hp D ks X) (hs : ∀ u ∈ ks', u ∈ ks) : Rnd W a p s q v x B hp D ks' X := by
  obtain ⟨f, h1, h2⟩ := h.hh
  exact ⟨h.cf, h.lo, h.hB, f, h1, fun u hu => h2 u (hs u hu)⟩

theorem Rnd.add (h : Rnd W a p s q v x B hp D ks X) (o : Obj) : Rnd W a p s q v x B hp D ((X.heap.size, o) :: ks) (X.alloc o) := by
  have hb := below_alloc X o
  have hsz := heap_at_lt h.cf
  obtain ⟨f, h1, h2⟩ := h.hh
  refine ⟨(hb.block _ (heap_at_lt h.cf)).trans h.cf, h.lo.trans (hb.mono h.lo.size), h.hB, f, h1.below hb, fun u hu => ?_⟩
  rcases List.mem_cons.1 hu with rfl | hu
  · exact ⟨World.alloc_heap_new X o, hsz, fun hf => by have := h1.lt _ hf; simp only at this; omega⟩
  · exact kept_below h2 hb u hu

/-- The heap turns. -/
theorem Rnd.turn (h : Rnd W a p s q v x B hp D ks X) {f f' : Nat → Prop} (h1 : Hp X B hp D f) (h2 : ∀ u ∈ ks, X.heap[u.1]? = some u.2 ∧ W.heap.size < u.1 ∧ ¬ f u.1) (h3 : Hp Y B hp D' f') (st : Step f f' X Y) : Rnd W a p s q v x B hp D' ks Y :=
  ⟨(st.block _ (heap_at_lt h.cf) (h1.base _ h.hB)).trans h.cf, h.lo.trans (st.below h.lo.size (fun k hk => h1.base k (Nat.lt_trans hk h.hB))), h.hB, f', h3, kept_step h2 st⟩

/-- A row is written to. -/
theorem Rnd.write {cs : Array Value} {t : TypeId} {g : Nat} (h : Rnd W a p s q v x B hp D ((g, .cells cs t (0, 0)) :: ks) X) (hg : ∀ u ∈ ks, u.1 ≠ g) (i : Nat) (u : Value) : Rnd W a p s q v x B hp D ((g, .cells (cs.setIfInBounds i u) t (0, 0)) :: ks) (X.setCell ⟨g, i, none⟩ u) := by
  obtain ⟨f, h1, h2⟩ := h.hh
  obtain ⟨g1, g2, g3⟩ := h2 _ (List.mem_cons_self ..)
  simp only at g1 g2 g3
  have hk : ∀ k, k ≠ g → (X.setCell ⟨g, i, none⟩ u).heap[k]? = X.heap[k]? := fun k hk => Below.heap_setCell _ _ _ _ hk
  refine ⟨(hk _ (by omega)).trans h.cf, h.lo.setCell (p := ⟨g, i, none⟩) (Nat.le_of_lt g2) u, h.hB, f, h1.stays (fun k hf => hk k (fun e => g3 (e ▸ hf))), fun w hw => ?_⟩
  rcases List.mem_cons.1 hw with rfl | hw
  · exact ⟨heap_setAt g1, g2, g3⟩
  · obtain ⟨w1, w2⟩ := h2 w (List.mem_cons_of_mem _ hw)
    exact ⟨(hk _ (hg w hw)).trans w1, w2⟩

theorem Rnf.below (h : Rnf M W a p s q v x B hp D ks r n E X) (hb : Below X.heap.size X Y) : Rnf M W a p s q v x B hp D ks r n E Y := by
  obtain ⟨f, h1, h2⟩ := h.pl
  exact ⟨(hb.block _ (heap_at_lt h.cf)).trans h.cf, h.lo.trans (hb.mono h.lo.size), h.hB, f, h1.below hb, kept_below h2 hb⟩

theorem Rnf.drop (h : Rnf M W a p s q v x B hp D ks r n E X) : Rnd W a p s q v x B hp D ks X := by
  obtain ⟨f, h1, h2⟩ := h.pl
  obtain ⟨fh, h3, h4⟩ := plm_heap h1
  exact ⟨h.cf, h.lo, h.hB, fh, h3, fun u hu => ⟨(h2 u hu).1, (h2 u hu).2.1, fun hf => (h2 u hu).2.2 (h4 _ hf)⟩⟩

/-- A routine is made. -/
theorem Rnd.start {fr : Nat → Prop} (h : Rnd W a p s q v x B hp D ks X) (hF : FewD D n) (hA : M.At Y B r E fr) (hge : ∀ k, fr k → X.heap.size ≤ k) (hb : Below X.heap.size X Y) : Rnf M W a p s q v x B hp D ks r n E Y := by
  have h' := h.below hb
  obtain ⟨f, h1, h2⟩ := h.hh
  refine ⟨h'.cf, h'.lo, h.hB, _, plm_start h1 hF hA hge hb, fun u hu => ?_⟩
  have hlt := heap_at_lt (h2 u hu).1
  exact ⟨(kept_below h2 hb u hu).1, (h2 u hu).2.1, fun hf => hf.elim (h2 u hu).2.2 (fun e => by have := hge _ e; omega)⟩

/-- Alone. -/
theorem rnf_alone (h : Rnf M W a p s q v x B hp D ks r n E X) (m : Nat) (hm : m ≤ 1000000) (hmn : m ≤ n) :
    Calls Try.prog 21 #[.pointer (some ⟨hp, 0, none⟩), rowV M.tid r, .int .i64 (m : Int)] X
      (fun e Y => e = .returned (.tuple #[.int .i64 (((toM M ⟨D, E⟩ m).length : Nat) : Int), .bool (!(M.next (stM M ⟨D, E⟩ m).s).isSome)]) ∧ Rnf M W a p s q v x B hp (stM M ⟨D, E⟩ m).D ks r (n - m) (stM M ⟨D, E⟩ m).s Y) := by
  obtain ⟨f, h1, h2⟩ := h.pl
  refine (malone_any h1 m hm hmn).mono fun e Y he => ?_
  obtain ⟨rfl, f', h3, st⟩ := he
  exact ⟨rfl, (st.block _ (heap_at_lt h.cf) (h1.base _ h.hB)).trans h.cf, h.lo.trans (st.below h.lo.size (fun k hk => h1.base k (Nat.lt_trans hk h.hB))), h.hB, f', h3, kept_step h2 st⟩

theorem rnd_make (h : Rnd W a p s q v x B hp D ks X) (hm : D.L.length ≤ 1000) {t : ByteArray} (ht : t.size ≤ 100) :
    Calls Try.prog 33 #[.pointer (some ⟨hp, 0, none⟩), .int .i64 0, .string t] X (fun e Y => e = .returned (.int .u64 ((D.L.length + 1 : Nat) : Int)) ∧ Rnd W a p s q v x B hp (makeD D 0 t) ks Y) := by
  obtain ⟨f, h1, h2⟩ := h.hh
  refine (make_all X h1 (by omega) 0 t (by omega)).mono fun e Y he => ?_
  have hv : makeV D 0 = ((D.L.length + 1 : Nat) : Int) := by unfold makeV; rw [if_pos (by decide)]
  rw [hv] at he
  obtain ⟨f', e1, h3, st⟩ := he
  exact ⟨e1, h.turn h1 h2 h3 st⟩

theorem rnd_store (h : Rnd W a p s q v x B hp D ks X) (hf : D.faults < 1000000) (c u : Int) :
    Calls Try.prog 20 #[.pointer (some ⟨hp, 0, none⟩), .int .u64 1, .int .i64 c, .int .u64 u] X (fun e Y => e = .returned (.int .i64 (spot D.L 1 c)) ∧ Rnd W a p s q v x B hp (storeD D 1 c u) ks Y) := by
  obtain ⟨f, h1, h2⟩ := h.hh
  refine (show Calls Try.prog 20 #[.pointer (some ⟨hp, 0, none⟩), .int .u64 ((1 : Nat) : Int), .int .i64 c, .int .u64 u] X _ from store_any X h1 hf 1 (by omega) c u).mono fun e Y he => ?_
  obtain ⟨f', e1, h3, st⟩ := he
  exact ⟨e1, h.turn h1 h2 h3 st⟩

theorem rnd_faults (h : Rnd W a p s q v x B hp D ks X) : Calls Try.prog 19 #[.pointer (some ⟨hp, 0, none⟩)] X fun e Y => e = .returned (.int .i64 D.faults) ∧ X = Y := by
  obtain ⟨f, h1, _⟩ := h.hh
  exact faults_any X h1

theorem rnd_load (h : Rnd W a p s q v x B hp D ks X) (hf : D.faults < 1000000) (k : Nat) (hk : k < 18446744073709551616) (c : Int) :
    Calls Try.prog 16 #[.pointer (some ⟨hp, 0, none⟩), .int .u64 (k : Int), .int .i64 c] X (fun e Y => e = .returned (TwoV (loadV D k c) (spot D.L k c)) ∧ Rnd W a p s q v x B hp (loadD D k c) ks Y) := by
  obtain ⟨f, h1, h2⟩ := h.hh
  refine (load_any X h1 hf k hk c).mono fun e Y he => ?_
  obtain ⟨f', e1, h3, st⟩ := he
  exact ⟨e1, h.turn h1 h2 h3 st⟩

theorem rnd_words (h : Rnd W a p s q v x B hp D ks X) (hf : D.faults < 1000000) (k : Nat) (hk : k < 18446744073709551616) :
    Calls Try.prog 38 #[.pointer (some ⟨hp, 0, none⟩), .int .u64 (k : Int)] X (fun e Y => e = .returned (.tuple #[.string (textAt D.L k), .int .i64 (there D.L k)]) ∧ Rnd W a p s q v x B hp (wordsD D k) ks Y) := by
  obtain ⟨f, h1, h2⟩ := h.hh
  refine (words_any X h1 hf k hk).mono fun e Y he => ?_
  obtain ⟨f', e1, h3, st⟩ := he
  exact ⟨e1, h.turn h1 h2 h3 st⟩

end

/-- A heap beside the config's box, and nothing else. -/
theorem rnd_begin {W X : World} {a p s q v x : Int} {B hp : Nat} {D : HpD} {f : Nat → Prop} (h : BoxC W a p s q v x X) (hh : Hp X B hp D f) (hB : W.heap.size < B) : Rnd W a p s q v x B hp D [] X :=
  ⟨h.b, h.lo, hB, f, hh, fun u hu => by cases hu⟩

end Go.Proofs.Ytgigjbngocfkbaa
