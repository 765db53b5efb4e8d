/-
  Between two looks for a key: the config's box, a heap with a control block, a row beside them; a look, from New to Result; a key is put.
-/
import Derived.Test.YtdnjlpccopeagaaFaw
import Derived.Test.YtdnjlpccopeagaaArgs23
namespace Go.Proofs.Ytdnjlpccopeagaa
open Go Go.RowKit
attribute [local go_sem ↓] Go.wp_at_zero Go.wp_at_succ

theorem plm_heap {X : World} {B p r n : Nat} {D : HpD} {f : Nat → Prop} {E : FindR} (h : PlM FindM X B p r ⟨D, E⟩ n f) : ∃ fh, Hp X B p D fh ∧ ∀ k, fh k → f k := by
  obtain ⟨fh, fr, h1, h2, _, rfl, _⟩ := h
  exact ⟨fh, h1, fun k hk => .inl hk⟩
/-- The config's box, the heap, blocks beside it that stay. -/
structure Rnd (W : World) (a p s q v x : Int) (B hp : Nat) (D : HpD) (ks : List (Nat × Obj)) (X : World) : Prop where
  cf : X.heap[W.heap.size]? = some (.cells (cfC a p s q v x) 24 (0, 0))
  lo : Below W.heap.size W X
  hB : W.heap.size < B
  hh : ∃ f, Hp X B hp D f ∧ ∀ u ∈ ks, X.heap[u.1]? = some u.2 ∧ W.heap.size < u.1 ∧ ¬ f u.1
/-- A look is under way. -/
structure Rnf (W : World) (a p s q v x : Int) (B hp : Nat) (D : HpD) (ks : List (Nat × Obj)) (r n : Nat) (E : FindR) (X : World) : Prop where
  cf : X.heap[W.heap.size]? = some (.cells (cfC a p s q v x) 24 (0, 0))
  lo : Below W.heap.size W X
  hB : W.heap.size < B
  pl : ∃ f, PlM FindM X B hp r ⟨D, E⟩ n f ∧ ∀ u ∈ ks, X.heap[u.1]? = some u.2 ∧ W.heap.size < u.1 ∧ ¬ f u.1
section
variable {W X Y : World} {a p s q v x : Int} {B hp r n : Nat} {D D' : HpD} {ks : List (Nat × Obj)} {o : Obj} {E : FindR}
theorem kept_below {f : Nat → Prop} (h : ∀ u ∈ ks, X.heap[u.1]? = some u.2 ∧ W.heap.size < u.1 ∧ ¬ f u.1) (hb : Below X.heap.size X Y) : ∀ u ∈ ks, Y.heap[u.1]? = some u.2 ∧ W.heap.size < u.1 ∧ ¬ f u.1 := fun u hu => by
  obtain ⟨h1, h2⟩ := h u hu
  exact ⟨(hb.block _ (heap_at_lt h1)).trans h1, h2⟩
theorem kept_step {f f' : Nat → Prop} (h : ∀ u ∈ ks, X.heap[u.1]? = some u.2 ∧ W.heap.size < u.1 ∧ ¬ f u.1) (st : Step f f' X Y) : ∀ u ∈ ks, Y.heap[u.1]? = some u.2 ∧ W.heap.size < u.1 ∧ ¬ f' u.1 := fun u hu => by
  obtain ⟨h1, h2, h3⟩ := h u hu
  have hlt := heap_at_lt h1
  exact ⟨(st.block _ hlt h3).trans h1, h2, fun hf => (st.foot _ hf).elim h3 (fun hge => by omega)⟩
theorem Rnd.below (h : Rnd W a p s q v x B hp D ks X) (hb : Below X.heap.size X Y) : Rnd W a p s q v x B hp D ks Y := by
  obtain ⟨f, h1, h2⟩ := h.hh
  exact ⟨(hb.block _ (heap_at_lt h.cf)).trans h.cf, h.lo.trans (hb.mono h.lo.size), h.hB, f, h1.below hb, kept_below h2 hb⟩
theorem Rnd.six (h : Rnd W a p s q v x B hp D ks X) : SixC W.heap.size a p s q v x X :=
  ⟨(cell_of h.cf).trans rfl, (cell_of h.cf).trans rfl, (cell_of h.cf).trans rfl, (cell_of h.cf).trans rfl, (cell_of h.cf).trans rfl, (cell_of h.cf).trans rfl⟩
theorem Rnd.kept (h : Rnd W a p s q v x B hp D ks X) {g : Nat} (hg : (g, o) ∈ ks) : X.heap[g]? = some o := by
  obtain ⟨f, _, h2⟩ := h.hh
  exact (h2 _ hg).1
theorem Rnd.few {ks' : List (Nat × Obj)} (h : Rnd W a p s q v x B hp D ks X) (hs : ∀ u ∈ ks', u ∈ ks) : Rnd W a p s q v x B hp D ks' X := by
  obtain ⟨f, h1, h2⟩ := h.hh
  exact ⟨h.cf, h.lo, h.hB, f, h1, fun u hu => h2 u (hs u hu)⟩
theorem Rnd.add (h : Rnd W a p s q v x B hp D ks X) (o : Obj) : Rnd W a p s q v x B hp D ((X.heap.size, o) :: ks) (X.alloc o) := by
  have hb := below_alloc X o
  have hsz := heap_at_lt h.cf
  obtain ⟨f, h1, h2⟩ := h.hh
  refine ⟨(hb.block _ (heap_at_lt h.cf)).trans h.cf, h.lo.trans (hb.mono h.lo.size), h.hB, f, h1.below hb, fun u hu => ?_⟩
  rcases List.mem_cons.1 hu with rfl | hu
  · exact ⟨World.alloc_heap_new X o, hsz, fun hf => by have := h1.lt _ hf; simp only at this; omega⟩
  · exact kept_below h2 hb u hu
/-- The heap turns. -/
theorem Rnd.turn (h : Rnd W a p s q v x B hp D ks X) {f f' : Nat → Prop} (h1 : Hp X B hp D f) (h2 : ∀ u ∈ ks, X.heap[u.1]? = some u.2 ∧ W.heap.size < u.1 ∧ ¬ f u.1) (h3 : Hp Y B hp D' f') (st : Step f f' X Y) : Rnd W a p s q v x B hp D' ks Y :=
  ⟨(st.block _ (heap_at_lt h.cf) (h1.base _ h.hB)).trans h.cf, h.lo.trans (st.below h.lo.size (fun k hk => h1.base k (Nat.lt_trans hk h.hB))), h.hB, f', h3, kept_step h2 st⟩
/-- A row is written to. -/
theorem Rnd.write {cs : Array Value} {t : TypeId} {g : Nat} (h : Rnd W a p s q v x B hp D ((g, .cells cs t (0, 0)) :: ks) X) (hg : ∀ u ∈ ks, u.1 ≠ g) (i : Nat) (u : Value) : Rnd W a p s q v x B hp D ((g, .cells (cs.setIfInBounds i u) t (0, 0)) :: ks) (X.setCell ⟨g, i, none⟩ u) := by
  obtain ⟨f, h1, h2⟩ := h.hh
  obtain ⟨g1, g2, g3⟩ := h2 _ (List.mem_cons_self ..)
  simp only at g1 g2 g3
  have hk : ∀ k, k ≠ g → (X.setCell ⟨g, i, none⟩ u).heap[k]? = X.heap[k]? := fun k hk => Below.heap_setCell _ _ _ _ hk
  refine ⟨(hk _ (by omega)).trans h.cf, h.lo.setCell (p := ⟨g, i, none⟩) (Nat.le_of_lt g2) u, h.hB, f, h1.stays (fun k hf => hk k (fun e => g3 (e ▸ hf))), fun w hw => ?_⟩
  rcases List.mem_cons.1 hw with rfl | hw
  · exact ⟨heap_setAt g1, g2, g3⟩
  · obtain ⟨w1, w2⟩ := h2 w (List.mem_cons_of_mem _ hw)
    exact ⟨(hk _ (hg w hw)).trans w1, w2⟩
theorem Rnf.below (h : Rnf W a p s q v x B hp D ks r n E X) (hb : Below X.heap.size X Y) : Rnf W a p s q v x B hp D ks r n E Y := by
  obtain ⟨f, h1, h2⟩ := h.pl
  exact ⟨(hb.block _ (heap_at_lt h.cf)).trans h.cf, h.lo.trans (hb.mono h.lo.size), h.hB, f, h1.below hb, kept_below h2 hb⟩
theorem Rnf.drop (h : Rnf W a p s q v x B hp D ks r n E X) : Rnd W a p s q v x B hp D ks X := by
  obtain ⟨f, h1, h2⟩ := h.pl
  obtain ⟨fh, h3, h4⟩ := plm_heap h1
  exact ⟨h.cf, h.lo, h.hB, fh, h3, fun u hu => ⟨(h2 u hu).1, (h2 u hu).2.1, fun hf => (h2 u hu).2.2 (h4 _ hf)⟩⟩
theorem Rnd.find (h : Rnd W a p s q v x B hp D ks X) (hF : FewD D n) (hv : E.fits) (hr : X.heap.size ≤ r) (ho : Y.heap[r]? = some (fndO E)) (hb : Below X.heap.size X Y) : Rnf W a p s q v x B hp D ks r n E Y := by
  have h' := h.below hb
  obtain ⟨f, h1, h2⟩ := h.hh
  refine ⟨h'.cf, h'.lo, h.hB, _, plm_find h1 hF hv hr ho hb, fun u hu => ?_⟩
  have hlt := heap_at_lt (h2 u hu).1
  exact ⟨(kept_below h2 hb u hu).1, (h2 u hu).2.1, fun hf => hf.elim (h2 u hu).2.2 (fun e => by omega)⟩
theorem Field.key {key key' : ByteArray} {K : Shelves} (h : Field (newF a p s q v x key) D K) : Field (newF a p s q v x key') D K := ⟨h.faults, h.ctrl, h.fine, h.keys⟩

/-! ### the calls -/
def NewQ (W : World) (a p s q v x : Int) (B hp : Nat) (D : HpD) (ks : List (Nat × Obj)) (n : Nat) (E : FindR) (X : World) (e : Ending) (Y : World) : Prop := ∃ r, e = .returned (.pointer (some ⟨r, 0, none⟩)) ∧ Rnf W a p s q v x B hp D ks r n E Y ∧ Below X.heap.size X Y
theorem rnd_new (h : Rnd W a p s q v x B hp D ks X) {key : ByteArray} {K : Shelves} (hr : rightC a p s q v = true) (hk : key.size ≤ 100) (hK : Field (newF a p s q v x key) D K) (hm : D.L.length ≤ 1000) :
    Calls Try.prog 7 #[cfV a p s q v x, .string key] X (NewQ W a p s q v x B hp D ks 1000 (lookN (newF a p s q v x key) 0) X) := by
  refine (fnew_any X a p s q v x key hr (by omega)).mono fun e Y he => ?_
  obtain ⟨r, rfl, h1, h2, h3⟩ := he
  exact ⟨r, rfl, h.find (hK.few (by omega) hm) (newF_fits hr key) h1 h2 h3, h3⟩
/-- What a look comes to. -/
abbrev seenF (K : Shelves) (d : FindR) : FindR × Nat := findK K d d.s.toNat 0
theorem rnf_run {d : FindR} {K : Shelves} (h : Rnf W a p s q v x B hp D ks r 1000 (lookN d 0) X) (hK : Field d D K) (hr : rightC d.a d.p d.s d.q d.v = true) :
    Calls Try.prog 15 #[.pointer (some ⟨hp, 0, none⟩), .iface 27 (.pointer (some ⟨r, 0, none⟩)), .int .i64 1000] X
      (fun e Y => e = .returned (.tuple #[.int .i64 (((seenF K d).2 : Nat) : Int), .bool true]) ∧ Rnf W a p s q v x B hp D ks r 0 (seenF K d).1 Y) := by
  obtain ⟨f, h1, h2⟩ := h.pl
  have hs := (rightC_bd hr).2.2
  refine (show Calls Try.prog 15 #[.pointer (some ⟨hp, 0, none⟩), .iface 27 (.pointer (some ⟨r, 0, none⟩)), .int .i64 ((1000 : Nat) : Int)] X _ from find_run h1 hK hr 1000 (by omega) (by omega) (Nat.le_refl _)).mono fun e Y he => ?_
  obtain ⟨f', rfl, h3, st⟩ := he
  exact ⟨rfl, (st.block _ (heap_at_lt h.cf) (h1.base _ h.hB)).trans h.cf, h.lo.trans (st.below h.lo.size (fun k hk => h1.base k (Nat.lt_trans hk h.hB))), h.hB, f', h3, kept_step h2 st⟩
theorem rnf_result {k sh : Int} (h : Rnf W a p s q v x B hp D ks r n E X) (hk : k ≠ 0) (h1 : E.k = k) (h2 : E.sh = sh) :
    Calls Try.prog 10 #[.pointer (some ⟨r, 0, none⟩)] X (fun e Y => e = .returned (.tuple #[fouV k sh, .bool true]) ∧ Rnd W a p s q v x B hp D ((Y.heap.size, fouO k sh) :: ks) (Y.alloc (fouO k sh))) := by
  obtain ⟨f, h3, _⟩ := h.pl
  subst h1 h2
  exact (plm_result h3 hk).mono fun e Y he => ⟨he.1, (h.below he.2).drop.add _⟩
theorem rnd_key (h : Rnd W a p s q v x B hp D ks X) (sh : Int) : Calls Try.prog 17 #[cfV a p s q v x, .int .i64 sh] X (fun e Y => e = .returned (.int .i64 (keyW a p s q v sh)) ∧ Rnd W a p s q v x B hp D ks Y) :=
  (key_any a p s q v x sh X).mono fun _ _ he => ⟨he.1, h.below he.2⟩
theorem rnd_make (h : Rnd W a p s q v x B hp D ks X) (hm : D.L.length ≤ 1000) {t : ByteArray} (ht : t.size ≤ 100) :
    Calls Try.prog 18 #[.pointer (some ⟨hp, 0, none⟩), .int .i64 0, .string t] X (fun e Y => e = .returned (.int .u64 ((D.L.length + 1 : Nat) : Int)) ∧ Rnd W a p s q v x B hp (makeD D 0 t) ks Y) := by
  obtain ⟨f, h1, h2⟩ := h.hh
  refine (make_all X h1 (by omega) 0 t (by omega)).mono fun e Y he => ?_
  have hv : makeV D 0 = ((D.L.length + 1 : Nat) : Int) := by unfold makeV; rw [if_pos (by decide)]
  rw [hv] at he
  obtain ⟨f', e1, h3, st⟩ := he
  exact ⟨e1, h.turn h1 h2 h3 st⟩
theorem rnd_store (h : Rnd W a p s q v x B hp D ks X) (hf : D.faults < 1000000) (c u : Int) :
    Calls Try.prog 16 #[.pointer (some ⟨hp, 0, none⟩), .int .u64 1, .int .i64 c, .int .u64 u] X (fun e Y => e = .returned (.int .i64 (spot D.L 1 c)) ∧ Rnd W a p s q v x B hp (storeD D 1 c u) ks Y) := by
  obtain ⟨f, h1, h2⟩ := h.hh
  refine (show Calls Try.prog 16 #[.pointer (some ⟨hp, 0, none⟩), .int .u64 ((1 : Nat) : Int), .int .i64 c, .int .u64 u] X _ from store_any X h1 hf 1 (by omega) c u).mono fun e Y he => ?_
  obtain ⟨f', e1, h3, st⟩ := he
  exact ⟨e1, h.turn h1 h2 h3 st⟩
theorem rnd_faults (h : Rnd W a p s q v x B hp D ks X) : Calls Try.prog 19 #[.pointer (some ⟨hp, 0, none⟩)] X fun e Y => e = .returned (.int .i64 D.faults) ∧ X = Y := by
  obtain ⟨f, h1, _⟩ := h.hh
  exact faults_any X h1
end

end Go.Proofs.Ytdnjlpccopeagaa
