/-
  Rnd, Pnm, Rd, Rda, in one text.
-/
import Derived.Test.YtpnfbabiibopnaaQ06
import Derived.Test.YtpnfbabiibopnaaQ11
import Derived.Test.YtpnfbabiibopnaaQ08
import Derived.Test.YtpnfbabiibopnaaQ09
import Derived.Deep.RegionHeld3
import Derived.WalkMore
/-! Between two runs of routines: the config's box, a heap with a control block, blocks beside them that stay; the heap's calls, and a routine alone. -/
namespace Go.Proofs.Ytpnfbabiibopnaa
open Go Go.RowKit

/-- The config's box, the heap, blocks beside it that stay. -/
structure Rnd (W : World) (a p s q v x : Int) (B hp : Nat) (D : HpD) (ks : List (Nat × Obj)) (X : World) : Prop where
  cf : X.heap[W.heap.size]? = some (.cells (cfC a p s q v x) 24 (0, 0))
  lo : Below W.heap.size W X
  hB : W.heap.size < B
  hh : ∃ f, Hp X B hp D f ∧ ∀ u ∈ ks, X.heap[u.1]? = some u.2 ∧ W.heap.size < u.1 ∧ ¬ f u.1

/-- A routine stands beside them. -/
structure Rnf {σ : Type} (M : Mach σ) (W : World) (a p s q v x : Int) (B hp : Nat) (D : HpD) (ks : List (Nat × Obj)) (r n : Nat) (E : σ) (X : World) : Prop where
  cf : X.heap[W.heap.size]? = some (.cells (cfC a p s q v x) 24 (0, 0))
  lo : Below W.heap.size W X
  hB : W.heap.size < B
  pl : ∃ f, PlM M X B hp r ⟨D, E⟩ n f ∧ ∀ u ∈ ks, X.heap[u.1]? = some u.2 ∧ W.heap.size < u.1 ∧ ¬ f u.1

section
variable {σ : Type} {M : Mach σ} {W X Y : World} {a p s q v x : Int} {B hp r n : Nat} {D D' : HpD} {ks : List (Nat × Obj)} {o : Obj} {E : σ}

theorem kept_below {f : Nat → Prop} (h : ∀ u ∈ ks, X.heap[u.1]? = some u.2 ∧ W.heap.size < u.1 ∧ ¬ f u.1) (hb : Below X.heap.size X Y) : ∀ u ∈ ks, Y.heap[u.1]? = some u.2 ∧ W.heap.size < u.1 ∧ ¬ f u.1 := fun u hu => by
  obtain ⟨h1, h2⟩ := h u hu
  exact ⟨(hb.block _ (heap_at_lt h1)).trans h1, h2⟩

theorem kept_step {f f' : Nat → Prop} (h : ∀ u ∈ ks, X.heap[u.1]? = some u.2 ∧ W.heap.size < u.1 ∧ ¬ f u.1) (st : Step f f' X Y) : ∀ u ∈ ks, Y.heap[u.1]? = some u.2 ∧ W.heap.size < u.1 ∧ ¬ f' u.1 := fun u hu => by
  obtain ⟨h1, h2, h3⟩ := h u hu
  have hlt := heap_at_lt h1
  exact ⟨(st.block _ hlt h3).trans h1, h2, fun hf => (st.foot _ hf).elim h3 (fun hge => by omega)⟩

theorem Rnd.below (h : Rnd W a p s q v x B hp D ks X) (hb : Below X.heap.size X Y) : Rnd W a p s q v x B hp D ks Y := by
  obtain ⟨f, h1, h2⟩ := h.hh
  exact ⟨(hb.block _ (heap_at_lt h.cf)).trans h.cf, h.lo.trans (hb.mono h.lo.size), h.hB, f, h1.below hb, kept_below h2 hb⟩

theorem Rnd.six (h : Rnd W a p s q v x B hp D ks X) : SixC W.heap.size a p s q v x X :=
  ⟨(cell_of h.cf).trans rfl, (cell_of h.cf).trans rfl, (cell_of h.cf).trans rfl, (cell_of h.cf).trans rfl, (cell_of h.cf).trans rfl, (cell_of h.cf).trans rfl⟩

theorem Rnd.kept (h : Rnd W a p s q v x B hp D ks X) {g : Nat} (hg : (g, o) ∈ ks) : X.heap[g]? = some o := by
  obtain ⟨f, _, h2⟩ := h.hh
  exact (h2 _ hg).1

theorem Rnd.few {ks' : List (Nat × Obj)} (h : Rnd W a p s q v x B hp D ks X) (hs : ∀ u ∈ ks', u ∈ ks) : Rnd W a p s q v x B hp D ks' X := by
  obtain ⟨f, h1, h2⟩ := h.hh
  exact ⟨h.cf, h.lo, h.hB, f, h1, fun u hu => h2 u (hs u hu)⟩

theorem Rnd.add (h : Rnd W a p s q v x B hp D ks X) (o : Obj) : Rnd W a p s q v x B hp D ((X.heap.size, o) :: ks) (X.alloc o) := by
  have hb := below_alloc X o
  have hsz := heap_at_lt h.cf
  obtain ⟨f, h1, h2⟩ := h.hh
  refine ⟨(hb.block _ (heap_at_lt h.cf)).trans h.cf, h.lo.trans (hb.mono h.lo.size), h.hB, f, h1.below hb, fun u hu => ?_⟩
  rcases List.mem_cons.1 hu with rfl | hu
  · exact ⟨World.alloc_heap_new X o, hsz, fun hf => by have := h1.lt _ hf; simp only at this; omega⟩
  · exact kept_below h2 hb u hu

/-- The heap turns. -/
theorem Rnd.turn (h : Rnd W a p s q v x B hp D ks X) {f f' : Nat → Prop} (h1 : Hp X B hp D f) (h2 : ∀ u ∈ ks, X.heap[u.1]? = some u.2 ∧ W.heap.size < u.1 ∧ ¬ f u.1) (h3 : Hp Y B hp D' f') (st : Step f f' X Y) : Rnd W a p s q v x B hp D' ks Y :=
  ⟨(st.block _ (heap_at_lt h.cf) (h1.base _ h.hB)).trans h.cf, h.lo.trans (st.below h.lo.size (fun k hk => h1.base k (Nat.lt_trans hk h.hB))), h.hB, f', h3, kept_step h2 st⟩

/-- A row is written to. -/
theorem Rnd.write {cs : Array Value} {t : TypeId} {g : Nat} (h : Rnd W a p s q v x B hp D ((g, .cells cs t (0, 0)) :: ks) X) (hg : ∀ u ∈ ks, u.1 ≠ g) (i : Nat) (u : Value) : Rnd W a p s q v x B hp D ((g, .cells (cs.setIfInBounds i u) t (0, 0)) :: ks) (X.setCell ⟨g, i, none⟩ u) := by
  obtain ⟨f, h1, h2⟩ := h.hh
  obtain ⟨g1, g2, g3⟩ := h2 _ (List.mem_cons_self ..)
  simp only at g1 g2 g3
  have hk : ∀ k, k ≠ g → (X.setCell ⟨g, i, none⟩ u).heap[k]? = X.heap[k]? := fun k hk => Below.heap_setCell _ _ _ _ hk
  refine ⟨(hk _ (by omega)).trans h.cf, h.lo.setCell (p := ⟨g, i, none⟩) (Nat.le_of_lt g2) u, h.hB, f, h1.stays (fun k hf => hk k (fun e => g3 (e ▸ hf))), fun w hw => ?_⟩
  rcases List.mem_cons.1 hw with rfl | hw
  · exact ⟨heap_setAt g1, g2, g3⟩
  · obtain ⟨w1, w2⟩ := h2 w (List.mem_cons_of_mem _ hw)
    exact ⟨(hk _ (hg w hw)).trans w1, w2⟩

theorem Rnf.below (h : Rnf M W a p s q v x B hp D ks r n E X) (hb : Below X.heap.size X Y) : Rnf M W a p s q v x B hp D ks r n E Y := by
  obtain ⟨f, h1, h2⟩ := h.pl
  exact ⟨(hb.block _ (heap_at_lt h.cf)).trans h.cf, h.lo.trans (hb.mono h.lo.size), h.hB, f, h1.below hb, kept_below h2 hb⟩

theorem Rnf.drop (h : Rnf M W a p s q v x B hp D ks r n E X) : Rnd W a p s q v x B hp D ks X := by
  obtain ⟨f, h1, h2⟩ := h.pl
  obtain ⟨fh, h3, h4⟩ := plm_heap h1
  exact ⟨h.cf, h.lo, h.hB, fh, h3, fun u hu => ⟨(h2 u hu).1, (h2 u hu).2.1, fun hf => (h2 u hu).2.2 (h4 _ hf)⟩⟩

/-- A routine is made. -/
theorem Rnd.start {fr : Nat → Prop} (h : Rnd W a p s q v x B hp D ks X) (hF : FewD D n) (hA : M.At Y B r E fr) (hge : ∀ k, fr k → X.heap.size ≤ k) (hb : Below X.heap.size X Y) : Rnf M W a p s q v x B hp D ks r n E Y := by
  have h' := h.below hb
  obtain ⟨f, h1, h2⟩ := h.hh
  refine ⟨h'.cf, h'.lo, h.hB, _, plm_start h1 hF hA hge hb, fun u hu => ?_⟩
  have hlt := heap_at_lt (h2 u hu).1
  exact ⟨(kept_below h2 hb u hu).1, (h2 u hu).2.1, fun hf => hf.elim (h2 u hu).2.2 (fun e => by have := hge _ e; omega)⟩

/-- Alone. -/
theorem rnf_alone (h : Rnf M W a p s q v x B hp D ks r n E X) (m : Nat) (hm : m ≤ 1000000) (hmn : m ≤ n) :
    Calls Try.prog 13 #[.pointer (some ⟨hp, 0, none⟩), rowV M.tid r, .int .i64 (m : Int)] X
      (fun e Y => e = .returned (.tuple #[.int .i64 (((toM M ⟨D, E⟩ m).length : Nat) : Int), .bool (!(M.next (stM M ⟨D, E⟩ m).s).isSome)]) ∧ Rnf M W a p s q v x B hp (stM M ⟨D, E⟩ m).D ks r (n - m) (stM M ⟨D, E⟩ m).s Y) := by
  obtain ⟨f, h1, h2⟩ := h.pl
  refine (malone_any h1 m hm hmn).mono fun e Y he => ?_
  obtain ⟨rfl, f', h3, st⟩ := he
  exact ⟨rfl, (st.block _ (heap_at_lt h.cf) (h1.base _ h.hB)).trans h.cf, h.lo.trans (st.below h.lo.size (fun k hk => h1.base k (Nat.lt_trans hk h.hB))), h.hB, f', h3, kept_step h2 st⟩

theorem rnd_key (h : Rnd W a p s q v x B hp D ks X) (sh : Int) : Calls Try.prog 30 #[cfV a p s q v x, .int .i64 sh] X (fun e Y => e = .returned (.int .i64 (keyW a p s q v sh)) ∧ Rnd W a p s q v x B hp D ks Y) :=
  (key_any a p s q v x sh X).mono fun _ _ he => ⟨he.1, h.below he.2⟩

theorem rnd_head (h : Rnd W a p s q v x B hp D ks X) (sh : Int) : Calls Try.prog 54 #[cfV a p s q v x, .int .i64 sh] X (fun e Y => e = .returned (.int .i64 (headW a p s q v sh)) ∧ Rnd W a p s q v x B hp D ks Y) :=
  (head_any a p s q v x sh X).mono fun _ _ he => ⟨he.1, h.below he.2⟩

theorem rnd_make (h : Rnd W a p s q v x B hp D ks X) (hm : D.L.length ≤ 1000) {t : ByteArray} (ht : t.size ≤ 100) :
    Calls Try.prog 26 #[.pointer (some ⟨hp, 0, none⟩), .int .i64 0, .string t] X (fun e Y => e = .returned (.int .u64 ((D.L.length + 1 : Nat) : Int)) ∧ Rnd W a p s q v x B hp (makeD D 0 t) ks Y) := by
  obtain ⟨f, h1, h2⟩ := h.hh
  refine (make_all X h1 (by omega) 0 t (by omega)).mono fun e Y he => ?_
  have hv : makeV D 0 = ((D.L.length + 1 : Nat) : Int) := by unfold makeV; rw [if_pos (by decide)]
  rw [hv] at he
  obtain ⟨f', e1, h3, st⟩ := he
  exact ⟨e1, h.turn h1 h2 h3 st⟩

theorem rnd_store (h : Rnd W a p s q v x B hp D ks X) (hf : D.faults < 1000000) (c u : Int) :
    Calls Try.prog 11 #[.pointer (some ⟨hp, 0, none⟩), .int .u64 1, .int .i64 c, .int .u64 u] X (fun e Y => e = .returned (.int .i64 (spot D.L 1 c)) ∧ Rnd W a p s q v x B hp (storeD D 1 c u) ks Y) := by
  obtain ⟨f, h1, h2⟩ := h.hh
  refine (show Calls Try.prog 11 #[.pointer (some ⟨hp, 0, none⟩), .int .u64 ((1 : Nat) : Int), .int .i64 c, .int .u64 u] X _ from store_any X h1 hf 1 (by omega) c u).mono fun e Y he => ?_
  obtain ⟨f', e1, h3, st⟩ := he
  exact ⟨e1, h.turn h1 h2 h3 st⟩

theorem rnd_faults (h : Rnd W a p s q v x B hp D ks X) : Calls Try.prog 18 #[.pointer (some ⟨hp, 0, none⟩)] X fun e Y => e = .returned (.int .i64 D.faults) ∧ X = Y := by
  obtain ⟨f, h1, _⟩ := h.hh
  exact faults_any X h1

theorem rnd_load (h : Rnd W a p s q v x B hp D ks X) (hf : D.faults < 1000000) (k : Nat) (hk : k < 18446744073709551616) (c : Int) :
    Calls Try.prog 16 #[.pointer (some ⟨hp, 0, none⟩), .int .u64 (k : Int), .int .i64 c] X (fun e Y => e = .returned (TwoV (loadV D k c) (spot D.L k c)) ∧ Rnd W a p s q v x B hp (loadD D k c) ks Y) := by
  obtain ⟨f, h1, h2⟩ := h.hh
  refine (load_any X h1 hf k hk c).mono fun e Y he => ?_
  obtain ⟨f', e1, h3, st⟩ := he
  exact ⟨e1, h.turn h1 h2 h3 st⟩

theorem rnd_words (h : Rnd W a p s q v x B hp D ks X) (hf : D.faults < 1000000) (k : Nat) (hk : k < 18446744073709551616) :
    Calls Try.prog 46 #[.pointer (some ⟨hp, 0, none⟩), .int .u64 (k : Int)] X (fun e Y => e = .returned (.tuple #[.string (textAt D.L k), .int .i64 (there D.L k)]) ∧ Rnd W a p s q v x B hp (wordsD D k) ks Y) := by
  obtain ⟨f, h1, h2⟩ := h.hh
  refine (words_any X h1 hf k hk).mono fun e Y he => ?_
  obtain ⟨f', e1, h3, st⟩ := he
  exact ⟨e1, h.turn h1 h2 h3 st⟩

end

/-- A heap beside the config's box, and nothing else. -/
theorem rnd_begin {W X : World} {a p s q v x : Int} {B hp : Nat} {D : HpD} {f : Nat → Prop} (h : BoxC W a p s q v x X) (hh : Hp X B hp D f) (hB : W.heap.size < B) : Rnd W a p s q v x B hp D [] X :=
  ⟨h.b, h.lo, hB, f, hh, fun u hu => by cases hu⟩

end Go.Proofs.Ytpnfbabiibopnaa

/-! pin's routine: New and Free; the routine as a kind of routine. -/
namespace Go.Proofs.Ytpnfbabiibopnaa
open Go Go.RowKit
attribute [local go_sem ↓] Go.wp_at_zero Go.wp_at_succ

/-! ### New -/
/-- A routine at its beginning. -/
def newP (a p s q v x th : Int) : PinD := ⟨a, p, s, q, v, x, 1, 0, th % p, 0, false⟩
theorem newP_fits {a p s q v : Int} (hr : rightC a p s q v = true) (x th : Int) : (newP a p s q v x th).fits := by
  have hp := (rightC_bd hr).2.1
  have hm := Int.emod_nonneg th (show p ≠ 0 by omega)
  have hm2 := Int.emod_lt_of_pos th (show 0 < p by omega)
  exact ⟨by show 1 ≤ 5; omega, ⟨Int.le_refl _, by show (0 : Int) < 18446744073709551616; omega⟩, .inr ⟨hr, Nat.le_refl _, ⟨Int.le_refl _, by show 0 ≤ p; omega⟩, ⟨hm, hm2⟩, fun _ => by show 0 < p; omega⟩⟩
def NewPE (d : PinD) (W : World) (e : Ending) (W' : World) : Prop := ∃ r, e = .returned (.pointer (some ⟨r, 0, none⟩)) ∧ W.heap.size ≤ r ∧ W'.heap[r]? = some (pnrO d) ∧ Below W.heap.size W W'

set_option maxRecDepth 100000 in
set_option maxHeartbeats 2000000 in
theorem pnew_bad (W : World) (a p s q v x th : Int) (hr : rightC a p s q v = false ∨ th < 0) :
    Calls Try.prog 33 #[cfV a p s q v x, .int .i64 th] W (NewPE PinD.zero W) := by
  have HR := Lib.hid (fun X : World => cright_any a p s q v x X)
  have X0 := Lib.hid (BoxC.start W a p s q v x)
  obtain ⟨c0, c1, c2, c3, c4, c5⟩ := X0.out.six
  by_cases hth : th < 0
  · generalize rightC a p s q v = b at HR
    clear hr
    go_enter Try.func33, Try.ntmps33
    go_wp2_with fail
    refine (HR.out _).mono ?_
    rintro e w1 ⟨rfl, hb⟩
    have HB := Lib.hid (X0.out.lo.trans (hb.mono X0.out.lo.size))
    clear hb
    cases b
    all_goals
      go_wp2_with fail
      go_ret
      exact ⟨_, rfl, HB.out.size, World.alloc_heap_new w1 (pnrO PinD.zero), HB.out.trans ((below_alloc w1 _).mono HB.out.size)⟩
  · have hr' : rightC a p s q v = false := hr.elim id (fun h => absurd h hth)
    rw [hr'] at HR
    clear hr hr'
    go_enter Try.func33, Try.ntmps33
    go_wp2_with fail
    refine (HR.out _).mono ?_
    rintro e w1 ⟨rfl, hb⟩
    have HB := Lib.hid (X0.out.lo.trans (hb.mono X0.out.lo.size))
    clear hb
    go_wp2_with fail
    go_ret
    exact ⟨_, rfl, HB.out.size, World.alloc_heap_new w1 (pnrO PinD.zero), HB.out.trans ((below_alloc w1 _).mono HB.out.size)⟩

set_option maxRecDepth 100000 in
set_option maxHeartbeats 4000000 in
theorem pnew_any (W : World) (a p s q v x th : Int) (hr : rightC a p s q v = true) (hth : 0 ≤ th) :
    Calls Try.prog 33 #[cfV a p s q v x, .int .i64 th] W (NewPE (newP a p s q v x th) W) := by
  have HR := Lib.hid (fun X : World => cright_any a p s q v x X)
  rw [hr] at HR
  have X0 := Lib.hid (BoxC.start W a p s q v x)
  obtain ⟨c0, c1, c2, c3, c4, c5⟩ := X0.out.six
  have hp := (rightC_bd hr).2.1
  obtain ⟨m, hm⟩ : ∃ m, th % p = m := ⟨_, rfl⟩
  have hm0 := Int.emod_nonneg th (show p ≠ 0 by omega)
  have hm1 := Int.emod_lt_of_pos th (show 0 < p by omega)
  have htm := tmod_of (a := p) hth
  have HE := Lib.hid (show newP a p s q v x th = ⟨a, p, s, q, v, x, 1, 0, m, 0, false⟩ from by rw [← hm]; rfl)
  rw [hm] at hm0 hm1 htm
  have hwm : IntKind.i64.wrap m = m := awrap (by omega)
  have hp0 : ¬ p = 0 := by omega
  have ht0 : ¬ th < 0 := by omega
  have hmix : Try.prog.follows .mixedOrders = true := by kernel_rfl
  rw [HE.out]
  clear hr hm hth HE
  go_enter Try.func33, Try.ntmps33
  go_wp2_with fail
  refine (HR.out _).mono ?_
  rintro e w1 ⟨rfl, hb⟩
  have X1 := Lib.hid (X0.out.below hb)
  clear hb c0 c1 c2 c3 c4 c5
  obtain ⟨c0, c1, c2, c3, c4, c5⟩ := X1.out.six
  go_wp2_with fail
  go_still_tail 7, hmix
  change wpList _ _ _ _ _ w1.drew
  have HB := Lib.hid (X1.out.drew.lo)
  clear c0 c1 c2 c3 c4 c5
  generalize w1.drew = w2 at HB ⊢
  go_wp2_with fail
  go_ret
  exact ⟨_, rfl, HB.out.size, World.alloc_heap_new w2 (pnrO ⟨a, p, s, q, v, x, 1, 0, m, 0, false⟩), HB.out.trans ((below_alloc w2 _).mono HB.out.size)⟩

/-! ### Free -/
theorem pfree_end {W X : World} {n : Nat} {x : ActD} {T : Array Value} (h : X.heap[n]? = some (.cells (actCells x) 59 (0, 0))) (hb : Below W.heap.size W X) (h2 : T.getD 4 undef = .pointer (some ⟨n, 0, none⟩)) :
    bodyPost Try.prog Try.f40 (fun e W' => e = .returned (actOf x) ∧ Below W.heap.size W W') .ret { tmps := T, defers := [] } X :=
  bodyPost_ret (v := actOf x) (by rw [results_cell1 (by rfl), h2]; simp only [asAddr, Sem.run_pure, Result.andThen_ok, load_act h]) rfl ⟨rfl, hb⟩
def freeE (c : Int) : ActD := if c < 0 then noAct else ⟨2, 1, c, 0, 0, ⟨#[]⟩⟩
set_option maxRecDepth 100000 in
set_option maxHeartbeats 2000000 in
theorem pfree_any (W : World) (a p s q v x i : Int) : Calls Try.prog 40 #[cfV a p s q v x, .int .i64 i] W fun e W' => e = .returned (actOf (freeE (pinW a p s q v i))) ∧ Below W.heap.size W W' := by
  have HP := Lib.hid (fun X : World => pin_any a p s q v x i X)
  have X0 := BoxC.start W a p s q v x
  obtain ⟨b, hb⟩ : ∃ b, (W.alloc (.cells #[.int .i64 a, .int .i64 p, .int .i64 s, .int .i64 q, .int .i64 v, .int .u64 x] 24)).heap.size = b := ⟨_, rfl⟩
  have hbs : b = W.heap.size + 1 := by rw [← hb]; simp
  have HX := Lib.hid (X0.below (below_alloc _ noO))
  have HN := Lib.hid (show ((W.alloc (.cells #[.int .i64 a, .int .i64 p, .int .i64 s, .int .i64 q, .int .i64 v, .int .u64 x] 24)).alloc noO).heap[W.heap.size + 1]? = some noO from by
    have := World.alloc_heap_new (W.alloc (.cells #[.int .i64 a, .int .i64 p, .int .i64 s, .int .i64 q, .int .i64 v, .int .u64 x] 24)) noO; rwa [World.size_alloc] at this)
  obtain ⟨c0, c1, c2, c3, c4, c5⟩ := HX.out.six
  generalize pinW a p s q v i = c at HP ⊢
  clear X0 hb hbs
  by_cases hc : c < 0
  · rw [show freeE c = noAct from if_pos hc]
    go_enter Try.func40, Try.ntmps40
    go_wp2_with fail
    refine (HP.out _).mono ?_
    rintro e w1 ⟨rfl, hb⟩
    have HB := Lib.hid (HX.out.below hb).lo
    have HN1 := Lib.hid ((hb.block _ (heap_at_lt HN.out)).trans HN.out)
    obtain ⟨m0, m1, m2, m3, m4, m5⟩ := six_at HN1.out
    obtain ⟨z0, z1, z2, z3, z4, z5⟩ := six_free HN1.out
    clear hb c0 c1 c2 c3 c4 c5
    go_wp2_with fail
    exact pfree_end (x := noAct) (set6 HN1.out _ _ _ _ _ _) (below6 HB.out (Nat.le_succ _) _ _ _ _ _ _) rfl
  · rw [show freeE c = ⟨2, 1, c, 0, 0, ⟨#[]⟩⟩ from if_neg hc]
    go_enter Try.func40, Try.ntmps40
    go_wp2_with fail
    refine (HP.out _).mono ?_
    rintro e w1 ⟨rfl, hb⟩
    have HB := Lib.hid (HX.out.below hb).lo
    have HN1 := Lib.hid ((hb.block _ (heap_at_lt HN.out)).trans HN.out)
    obtain ⟨m0, m1, m2, m3, m4, m5⟩ := six_at HN1.out
    obtain ⟨z0, z1, z2, z3, z4, z5⟩ := six_free HN1.out
    clear hb c0 c1 c2 c3 c4 c5
    go_wp2_with fail
    exact pfree_end (x := ⟨2, 1, c, 0, 0, ⟨#[]⟩⟩) (set6 HN1.out _ _ _ _ _ _) (below6 HB.out (Nat.le_succ _) _ _ _ _ _ _) rfl

/-! ### a kind of routine -/
structure PinAt (W : World) (B r : Nat) (v : PinD) (f : Nat → Prop) : Prop where
  own : W.heap[r]? = some (pnrO v)
  foot : f = fun k => k = r
  base : B ≤ r
  fits : v.fits
theorem PinAt.stays {W W' : World} {B r : Nat} {v : PinD} {f : Nat → Prop} (h : PinAt W B r v f) (hs : ∀ k, f k → W'.heap[k]? = W.heap[k]?) : PinAt W' B r v f := ⟨(hs r (by rw [h.foot])).trans h.own, h.foot, h.base, h.fits⟩
theorem PinAt.lt {W : World} {B r : Nat} {v : PinD} {f : Nat → Prop} (h : PinAt W B r v f) : ∀ k, f k → k < W.heap.size := fun k hk => by
  rw [h.foot] at hk; subst hk; exact heap_at_lt h.own
theorem pin_takes {W : World} {B r : Nat} {v : PinD} {f : Nat → Prop} {w : Int} {t : ByteArray} (h : PinAt W B r v f) (hs : (nextP v).isSome = true) (hg : Good w t) :
    Calls Try.prog 89 #[.pointer (some ⟨r, 0, none⟩), gotV w t] W fun e W' => ∃ f', e = .returned (.tuple #[]) ∧ PinAt W' B r (takeP v w t) f' ∧ Step f f' W W' := by
  refine (ptake_any W h.own h.fits hs w t).mono ?_
  rintro en W' ⟨rfl, h2, h3⟩
  refine ⟨fun k => k = r, rfl, ⟨h2, rfl, h.base, takeP_fits h.fits hg.1⟩, ?_⟩
  rw [h.foot]; exact h3

theorem pin_metA (n r : Nat) (w : World) : (method (n + 1) 87 (.pointer (some ⟨r, 0, none⟩)) "Act").run Try.prog w = .ok (36, .pointer (some ⟨r, 0, none⟩)) w := by kernel_rfl
theorem pin_metT (n r : Nat) (w : World) : (method (n + 1) 87 (.pointer (some ⟨r, 0, none⟩)) "Take").run Try.prog w = .ok (89, .pointer (some ⟨r, 0, none⟩)) w := by kernel_rfl
theorem pin_entA (args : Array Value) (w : World) : (callFunc 36 args).run Try.prog w = .ok (.enter 36 args) w := enters_of Try.func36 (by kernel_rfl) rfl args w
theorem pin_entT (args : Array Value) (w : World) : (callFunc 89 args).run Try.prog w = .ok (.enter 89 args) w := enters_of Try.func89 (by kernel_rfl) rfl args w
def PinM : Mach PinD where
  tid := 87
  fA := 36
  fT := 89
  next := nextP
  take := takeP
  At := PinAt
  metA := pin_metA
  metT := pin_metT
  entA := pin_entA
  entT := pin_entT
  stays := fun h hs => h.stays hs
  lt := fun h => h.lt
  base := fun h k hk => by rw [h.foot] at hk; subst hk; exact h.base
  self := fun h => by rw [h.foot]
  fits := fun _ hx => (nextP_fits hx).1
  act := fun h => pact_any _ h.own h.fits.1
  takes := fun h hs hg => pin_takes h hs hg
theorem PinM_take (v : PinD) (w : Int) (t : ByteArray) : PinM.take v w t = takeP v w t := rfl
theorem PinM_next (v : PinD) : PinM.next v = nextP v := rfl

end Go.Proofs.Ytpnfbabiibopnaa

/-! read's routine: what it does next, and where it stands behind an answer; how it lies. -/
namespace Go.Proofs.Ytpnfbabiibopnaa
open Go Go.RowKit

/-- A key that is read: its config, the part (1 to 5), the routines of the parts, and what is told. -/
structure RdD where
  a : Int
  p : Int
  s : Int
  q : Int
  v : Int
  x : Int
  part : Nat
  pin : PinD
  fnd : FindR
  chn : ChnD
  code : Int
  took : Bool
  val : ByteArray
  mark : Int
def RdD.free (E : RdD) : ActD := freeE (pinW E.a E.p E.s E.q E.v E.pin.pn)
def nextR (E : RdD) : Option ActD := match E.part with
  | 1 => nextP E.pin
  | 2 => nextF E.fnd
  | 3 => nextC E.chn
  | 4 => some E.free
  | _ => none
/-- Behind an act of pinning. -/
def pinnedR (E : RdD) (P : PinD) : RdD :=
  if P.part = 5 then
    (if P.taken then ⟨E.a, E.p, E.s, E.q, E.v, E.x, 5, P, E.fnd, E.chn, 11, false, ⟨#[]⟩, 0⟩
     else ⟨E.a, E.p, E.s, E.q, E.v, E.x, 2, P, E.fnd, E.chn, E.code, E.took, E.val, wrap64 (E.mark + 1)⟩)
  else ⟨E.a, E.p, E.s, E.q, E.v, E.x, E.part, P, E.fnd, E.chn, E.code, E.took, E.val, wrap64 (E.mark + 1)⟩
/-- Behind an act of looking for the key. -/
def foundR (E : RdD) (F : FindR) : RdD :=
  if F.k = 0 then ⟨E.a, E.p, E.s, E.q, E.v, E.x, E.part, E.pin, F, E.chn, E.code, E.took, E.val, E.mark⟩
  else if F.k = 1 then ⟨E.a, E.p, E.s, E.q, E.v, E.x, 3, E.pin, F, newC (headW E.a E.p E.s E.q E.v F.sh) E.pin.ep, E.code, E.took, E.val, E.mark⟩
  else ⟨E.a, E.p, E.s, E.q, E.v, E.x, 4, E.pin, F, E.chn, E.code, E.took, E.val, E.mark⟩
/-- Behind an act of reading the chain. -/
def chainedR (E : RdD) (C : ChnD) : RdD :=
  if C.asks = 6 then ⟨E.a, E.p, E.s, E.q, E.v, E.x, 4, E.pin, E.fnd, C, E.code, C.has, C.text, E.mark⟩
  else ⟨E.a, E.p, E.s, E.q, E.v, E.x, E.part, E.pin, E.fnd, C, E.code, E.took, E.val, E.mark⟩
def RdD.done (E : RdD) : RdD := ⟨E.a, E.p, E.s, E.q, E.v, E.x, 5, E.pin, E.fnd, E.chn, E.code, E.took, E.val, E.mark⟩
def takeR (E : RdD) (w : Int) (t : ByteArray) : RdD := match E.part with
  | 1 => pinnedR E (takeP E.pin w t)
  | 2 => foundR E (takeF E.fnd w t)
  | 3 => chainedR E (takeC E.chn w t)
  | 4 => E.done
  | _ => E
section
variable {E : RdD}
theorem nextR_1 (h : E.part = 1) : nextR E = nextP E.pin := by unfold nextR; rw [h]; rfl
theorem nextR_2 (h : E.part = 2) : nextR E = nextF E.fnd := by unfold nextR; rw [h]; rfl
theorem nextR_3 (h : E.part = 3) : nextR E = nextC E.chn := by unfold nextR; rw [h]; rfl
theorem nextR_4 (h : E.part = 4) : nextR E = some E.free := by unfold nextR; rw [h]; rfl
theorem nextR_5 (h : E.part = 5) : nextR E = none := by unfold nextR; rw [h]; rfl
theorem takeR_1 (h : E.part = 1) (w : Int) (t : ByteArray) : takeR E w t = pinnedR E (takeP E.pin w t) := by unfold takeR; rw [h]; rfl
theorem takeR_2 (h : E.part = 2) (w : Int) (t : ByteArray) : takeR E w t = foundR E (takeF E.fnd w t) := by unfold takeR; rw [h]; rfl
theorem takeR_3 (h : E.part = 3) (w : Int) (t : ByteArray) : takeR E w t = chainedR E (takeC E.chn w t) := by unfold takeR; rw [h]; rfl
theorem takeR_4 (h : E.part = 4) (w : Int) (t : ByteArray) : takeR E w t = E.done := by unfold takeR; rw [h]; rfl
end
/-- One that may be. -/
structure RdD.fits (E : RdD) : Prop where
  rc : rightC E.a E.p E.s E.q E.v = true
  part : 1 ≤ E.part ∧ E.part ≤ 5
  fs : E.fnd.s = E.s
  held : 2 ≤ E.part → E.part ≤ 4 → E.pin.part = 5
theorem freeE_fits {c : Int} (hc : -1 ≤ c ∧ c ≤ 11) : (freeE c).fits := by
  have he := empty_size
  unfold freeE
  split
  · unfold ActD.fits noAct; simp only; omega
  · unfold ActD.fits; simp only; omega
theorem RdD.free_fits (E : RdD) : E.free.fits := freeE_fits pinW_fits
theorem headW_in {a p s q v : Int} (hr : rightC a p s q v = true) {sh : Int} (h0 : 0 ≤ sh) (h1 : sh < s) : headW a p s q v sh = 3 + p + a + 2 * sh + 1 := if_pos ⟨hr, h0, by omega⟩
theorem headW_le {a p s q v sh : Int} : -1 ≤ headW a p s q v sh ∧ headW a p s q v sh ≤ 1000 := by
  unfold headW
  split
  · rename_i h
    have := rightC_bd h.1
    omega
  · omega
/-- What a look comes to. -/
theorem lookN_says (d : FindR) (i : Nat) : ((lookN d i).k = 0 ∧ (lookN d i).sh = 0) ∨ ((lookN d i).k = 3 ∧ (lookN d i).sh = 0) := by
  unfold lookN
  split
  · exact .inl ⟨rfl, rfl⟩
  · exact .inr ⟨rfl, rfl⟩
theorem takeF_says (F : FindR) (w : Int) (t : ByteArray) :
    ((takeF F w t).k = 0 ∧ (takeF F w t).sh = 0) ∨ ((takeF F w t).k = 1 ∧ 0 ≤ (takeF F w t).sh ∧ (takeF F w t).sh < F.s) ∨ ((takeF F w t).k ≠ 0 ∧ (takeF F w t).k ≠ 1) := by
  unfold takeF lookY
  split
  · rename_i hi
    have hw := place_bd F.n F.s F.i.toNat hi
    split
    · exact .inl ⟨rfl, rfl⟩
    split
    · split
      · exact .inr (.inr ⟨by show (2 : Int) ≠ 0; decide, by show (2 : Int) ≠ 1; decide⟩)
      · exact .inl ⟨rfl, rfl⟩
    split
    · exact .inr (.inl ⟨rfl, hw.1, hw.2⟩)
    · rcases lookN_says F (F.i.toNat + 1) with h | h
      · exact .inl h
      · exact .inr (.inr ⟨by rw [h.1]; decide, by rw [h.1]; decide⟩)
  · exact .inr (.inr ⟨by show (3 : Int) ≠ 0; decide, by show (3 : Int) ≠ 1; decide⟩)
theorem lookN_s (d : FindR) (i : Nat) : (lookN d i).s = d.s := by unfold lookN; split <;> rfl
theorem takeF_s (F : FindR) (w : Int) (t : ByteArray) : (takeF F w t).s = F.s := by
  unfold takeF lookY
  split
  · split
    · rfl
    split
    · split <;> rfl
    split
    · rfl
    · exact lookN_s _ _
  · rfl

/-! ### in memory -/
abbrev rdC (E : RdD) (rp rf : Nat) (rc : Option Addr) : Array Value := #[.int .i64 E.a, .int .i64 E.p, .int .i64 E.s, .int .i64 E.q, .int .i64 E.v, .int .u64 E.x, .int .i64 (E.part : Int), .pointer (some ⟨rp, 0, none⟩), .pointer (some ⟨rf, 0, none⟩), .pointer rc, .int .i64 E.code, .int .i64 0, .int .i64 0, .bool E.took, .string E.val, .slice none 0 0, .int .i64 0, .slice none 0 0, .int .i64 E.mark, .int .u64 0]
abbrev rdO (E : RdD) (rp rf : Nat) (rc : Option Addr) : Obj := .cells (rdC E rp rf rc) 90 (0, 0)
section
variable {X : World} {r rp rf : Nat} {rc : Option Addr} {E : RdD}
theorem rd_at (h : X.heap[r]? = some (rdO E rp rf rc)) :
    (X.cell? ⟨r, 0, none⟩ = some (.int .i64 E.a) ∧ X.cell? ⟨r, 1, none⟩ = some (.int .i64 E.p) ∧ X.cell? ⟨r, 2, none⟩ = some (.int .i64 E.s) ∧ X.cell? ⟨r, 3, none⟩ = some (.int .i64 E.q) ∧ X.cell? ⟨r, 4, none⟩ = some (.int .i64 E.v) ∧ X.cell? ⟨r, 5, none⟩ = some (.int .u64 E.x)) ∧
    (X.cell? ⟨r, 6, none⟩ = some (.int .i64 (E.part : Int)) ∧ X.cell? ⟨r, 7, none⟩ = some (.pointer (some ⟨rp, 0, none⟩)) ∧ X.cell? ⟨r, 8, none⟩ = some (.pointer (some ⟨rf, 0, none⟩)) ∧ X.cell? ⟨r, 9, none⟩ = some (.pointer rc)) ∧
    (X.cell? ⟨r, 10, none⟩ = some (.int .i64 E.code) ∧ X.cell? ⟨r, 11, none⟩ = some (.int .i64 0) ∧ X.cell? ⟨r, 12, none⟩ = some (.int .i64 0) ∧ X.cell? ⟨r, 13, none⟩ = some (.bool E.took) ∧ X.cell? ⟨r, 14, none⟩ = some (.string E.val) ∧ X.cell? ⟨r, 15, none⟩ = some (.slice none 0 0) ∧ X.cell? ⟨r, 16, none⟩ = some (.int .i64 0) ∧ X.cell? ⟨r, 17, none⟩ = some (.slice none 0 0)) ∧
    X.cell? ⟨r, 18, none⟩ = some (.int .i64 E.mark) ∧ X.cell? ⟨r, 19, none⟩ = some (.int .u64 0) :=
  ⟨⟨(cell_of h).trans rfl, (cell_of h).trans rfl, (cell_of h).trans rfl, (cell_of h).trans rfl, (cell_of h).trans rfl, (cell_of h).trans rfl⟩, ⟨(cell_of h).trans rfl, (cell_of h).trans rfl, (cell_of h).trans rfl, (cell_of h).trans rfl⟩,
   ⟨(cell_of h).trans rfl, (cell_of h).trans rfl, (cell_of h).trans rfl, (cell_of h).trans rfl, (cell_of h).trans rfl, (cell_of h).trans rfl, (cell_of h).trans rfl, (cell_of h).trans rfl⟩, (cell_of h).trans rfl, (cell_of h).trans rfl⟩
theorem rd_free (h : X.heap[r]? = some (rdO E rp rf rc)) (i : Nat) : X.frozen? ⟨r, i, none⟩ = false := by simp [World.frozen?, h]
end
/-- A routine and those that it points to. -/
structure RdIn (W : World) (B r : Nat) (E : RdD) (rp rf : Nat) (rc : Option Addr) : Prop where
  own : W.heap[r]? = some (rdO E rp rf rc)
  pn : PinAt W B rp E.pin (fun k => k = rp)
  fn : FindAt W B rf E.fnd (fun k => k = rf)
  ch : E.part = 3 → ∃ c, rc = some ⟨c, 0, none⟩ ∧ ChnAt W B c E.chn (fun k => k = c) ∧ c ≠ r ∧ c ≠ rp ∧ c ≠ rf
  ne : r ≠ rp ∧ r ≠ rf ∧ rp ≠ rf
  base : B ≤ r
  fits : E.fits
def footR (E : RdD) (r rp rf : Nat) (rc : Option Addr) (k : Nat) : Prop := k = r ∨ k = rp ∨ k = rf ∨ (E.part = 3 ∧ rc = some ⟨k, 0, none⟩)
def RdAt (W : World) (B r : Nat) (E : RdD) (f : Nat → Prop) : Prop := ∃ rp rf rc, RdIn W B r E rp rf rc ∧ f = footR E r rp rf rc
section
variable {W X : World} {B r rp rf : Nat} {rc : Option Addr} {E : RdD} {f : Nat → Prop}
theorem RdIn.stays (h : RdIn W B r E rp rf rc) (hs : ∀ k, footR E r rp rf rc k → X.heap[k]? = W.heap[k]?) : RdIn X B r E rp rf rc :=
  ⟨(hs r (.inl rfl)).trans h.own, h.pn.stays (fun k hk => hs k (.inr (.inl hk))), h.fn.stays (fun k hk => hs k (.inr (.inr (.inl hk)))), fun h3 => by
    obtain ⟨c, h1, h2, h4⟩ := h.ch h3
    exact ⟨c, h1, h2.stays (fun k hk => hs k (.inr (.inr (.inr ⟨h3, by rw [hk]; exact h1⟩)))), h4⟩, h.ne, h.base, h.fits⟩
theorem RdIn.lt (h : RdIn W B r E rp rf rc) : ∀ k, footR E r rp rf rc k → k < W.heap.size ∧ B ≤ k := fun k hk => by
  rcases hk with rfl | rfl | rfl | ⟨h3, e⟩
  · exact ⟨heap_at_lt h.own, h.base⟩
  · exact ⟨heap_at_lt h.pn.own, h.pn.base⟩
  · exact ⟨heap_at_lt h.fn.own, h.fn.base⟩
  · obtain ⟨c, h1, h2, _⟩ := h.ch h3
    rw [h1] at e
    cases e
    exact ⟨heap_at_lt h2.own, h2.base⟩
theorem RdIn.below (h : RdIn W B r E rp rf rc) (hb : Below W.heap.size W X) : RdIn X B r E rp rf rc := h.stays (fun k hk => hb.block k (h.lt k hk).1)
end

end Go.Proofs.Ytpnfbabiibopnaa

/-! read's routine: Act. -/
namespace Go.Proofs.Ytpnfbabiibopnaa
open Go Go.RowKit
attribute [local go_sem ↓] Go.wp_at_zero Go.wp_at_succ

def RactE (y : ActD) (q : Bool) (W : World) (e : Ending) (W' : World) : Prop := e = .returned (.tuple #[actOf y, .bool q]) ∧ Below W.heap.size W W'
theorem ract_end {W X : World} {n : Nat} {x : ActD} {is : Bool} {T : Array Value} (h : X.heap[n]? = some (.cells (actCells x) 59 (0, 0))) (hb : Below W.heap.size W X) (h2 : T.getD 2 undef = .pointer (some ⟨n, 0, none⟩)) (h3 : T.getD 3 undef = .bool is) :
    bodyPost Try.prog Try.f19 (RactE x is W) .ret { tmps := T, defers := [] } X :=
  bodyPost_ret (v := .tuple #[actOf x, .bool is]) (by rw [results_cell2 (by rfl), h2, h3]; simp only [asAddr, Sem.run_pure, Result.andThen_ok, load_act h]) rfl ⟨rfl, hb⟩
theorem ract_mid {W w1 : World} (HN : (W.alloc noO).heap[W.heap.size]? = some noO) (hb : Below (W.alloc noO).heap.size (W.alloc noO) w1) :
    w1.heap[W.heap.size]? = some noO ∧ Below W.heap.size W w1 :=
  ⟨(hb.block _ (heap_at_lt HN)).trans HN, (below_alloc W noO).trans (hb.mono (below_alloc W noO).size)⟩

set_option maxRecDepth 100000 in
set_option maxHeartbeats 800000 in
/-- No routine. -/
theorem ract_nil (W : World) : Calls Try.prog 19 #[.pointer none] W (RactE noAct false W) := by
  have HB := Lib.hid (below_alloc W noO)
  have HN := Lib.hid (World.alloc_heap_new W noO)
  obtain ⟨z0, z1, z2, z3, z4, z5⟩ := six_free HN.out
  obtain ⟨m0, m1, m2, m3, m4, m5⟩ := six_at HN.out
  go_enter Try.func19, Try.ntmps19
  go_wp2_with fail
  refine bodyPost_ret (v := .tuple #[actOf noAct, .bool false]) (by rw [results_cell2 (by rfl)]; go_simp; exact ⟨rfl, rfl, rfl, rfl, rfl, rfl⟩) rfl ⟨rfl, ?_⟩
  exact HB.out
set_option maxRecDepth 100000 in
set_option maxHeartbeats 2000000 in
/-- Nothing to do. -/
theorem ract_none (W : World) {r : Nat} {n : Int} (h : W.cell? ⟨r, 6, none⟩ = some (.int .i64 n)) (hp : n = 5 ∨ n = 0) :
    Calls Try.prog 19 #[.pointer (some ⟨r, 0, none⟩)] W (RactE noAct false W) := by
  have HB := Lib.hid (below_alloc W noO)
  have HN := Lib.hid (World.alloc_heap_new W noO)
  obtain ⟨z0, z1, z2, z3, z4, z5⟩ := six_free HN.out
  obtain ⟨m0, m1, m2, m3, m4, m5⟩ := six_at HN.out
  have c6 := (World.cell?_of_block (a := ⟨r, 6, none⟩) (HB.out.block r (cell_lt h))).trans h
  clear h
  rcases hp with hp | hp
  all_goals
    rw [hp] at c6
    go_enter Try.func19, Try.ntmps19
    go_wp2_with fail
    refine bodyPost_ret (v := .tuple #[actOf noAct, .bool false]) (by rw [results_cell2 (by rfl)]; go_simp; exact ⟨rfl, rfl, rfl, rfl, rfl, rfl⟩) rfl ⟨rfl, ?_⟩
    exact HB.out

set_option maxRecDepth 100000 in
set_option maxHeartbeats 4000000 in
theorem ract_1 (W : World) {B r rp rf : Nat} {rc : Option Addr} {E : RdD} (h : RdIn W B r E rp rf rc) (hp : E.part = 1) :
    Calls Try.prog 19 #[.pointer (some ⟨r, 0, none⟩)] W (RactE ((nextR E).getD noAct) (nextR E).isSome W) := by
  rw [nextR_1 hp]
  have HB := Lib.hid (below_alloc W noO)
  have HN := Lib.hid (World.alloc_heap_new W noO)
  have h' := h.below HB.out
  have HA := Lib.hid (show Calls Try.prog 36 #[.pointer (some ⟨rp, 0, none⟩)] (W.alloc noO) fun e W' => e = .returned (.tuple #[actOf ((nextP E.pin).getD noAct), .bool (nextP E.pin).isSome]) ∧ Below (W.alloc noO).heap.size (W.alloc noO) W' from PinM.act h'.pn)
  obtain ⟨-, ⟨c6, c7, c8, c9⟩, -, -⟩ := rd_at h'.own
  rw [hp] at c6
  obtain ⟨y, hy⟩ : ∃ y, (nextP E.pin).getD noAct = y := ⟨_, rfl⟩
  obtain ⟨q, hq⟩ : ∃ q, (nextP E.pin).isSome = q := ⟨_, rfl⟩
  rw [hy, hq] at HA ⊢
  clear h h' hp hy hq
  go_enter Try.func19, Try.ntmps19
  go_wp2_with fail
  refine HA.out.mono ?_
  rintro en w1 ⟨rfl, hb⟩
  obtain ⟨h1, hb1⟩ := ract_mid HN.out hb
  have HB1 := Lib.hid hb1
  have H1 := Lib.hid h1
  obtain ⟨z0, z1, z2, z3, z4, z5⟩ := six_free h1
  obtain ⟨m0, m1, m2, m3, m4, m5⟩ := six_at h1
  clear hb h1 hb1 c6 c7 c8 c9
  go_wp2_with fail
  exact ract_end (set6 H1.out _ _ _ _ _ _) (below6 HB1.out (Nat.le_refl _) _ _ _ _ _ _) rfl rfl

set_option maxRecDepth 100000 in
set_option maxHeartbeats 4000000 in
theorem ract_2 (W : World) {B r rp rf : Nat} {rc : Option Addr} {E : RdD} (h : RdIn W B r E rp rf rc) (hp : E.part = 2) :
    Calls Try.prog 19 #[.pointer (some ⟨r, 0, none⟩)] W (RactE ((nextR E).getD noAct) (nextR E).isSome W) := by
  rw [nextR_2 hp]
  have HB := Lib.hid (below_alloc W noO)
  have HN := Lib.hid (World.alloc_heap_new W noO)
  have h' := h.below HB.out
  have HA := Lib.hid (show Calls Try.prog 37 #[.pointer (some ⟨rf, 0, none⟩)] (W.alloc noO) fun e W' => e = .returned (.tuple #[actOf ((nextF E.fnd).getD noAct), .bool (nextF E.fnd).isSome]) ∧ Below (W.alloc noO).heap.size (W.alloc noO) W' from FindM.act h'.fn)
  obtain ⟨-, ⟨c6, c7, c8, c9⟩, -, -⟩ := rd_at h'.own
  rw [hp] at c6
  obtain ⟨y, hy⟩ : ∃ y, (nextF E.fnd).getD noAct = y := ⟨_, rfl⟩
  obtain ⟨q, hq⟩ : ∃ q, (nextF E.fnd).isSome = q := ⟨_, rfl⟩
  rw [hy, hq] at HA ⊢
  clear h h' hp hy hq
  go_enter Try.func19, Try.ntmps19
  go_wp2_with fail
  refine HA.out.mono ?_
  rintro en w1 ⟨rfl, hb⟩
  obtain ⟨h1, hb1⟩ := ract_mid HN.out hb
  have HB1 := Lib.hid hb1
  have H1 := Lib.hid h1
  obtain ⟨z0, z1, z2, z3, z4, z5⟩ := six_free h1
  obtain ⟨m0, m1, m2, m3, m4, m5⟩ := six_at h1
  clear hb h1 hb1 c6 c7 c8 c9
  go_wp2_with fail
  exact ract_end (set6 H1.out _ _ _ _ _ _) (below6 HB1.out (Nat.le_refl _) _ _ _ _ _ _) rfl rfl

set_option maxRecDepth 100000 in
set_option maxHeartbeats 4000000 in
theorem ract_3 (W : World) {B r rp rf : Nat} {rc : Option Addr} {E : RdD} (h : RdIn W B r E rp rf rc) (hp : E.part = 3) :
    Calls Try.prog 19 #[.pointer (some ⟨r, 0, none⟩)] W (RactE ((nextR E).getD noAct) (nextR E).isSome W) := by
  rw [nextR_3 hp]
  have HB := Lib.hid (below_alloc W noO)
  have HN := Lib.hid (World.alloc_heap_new W noO)
  have h' := h.below HB.out
  obtain ⟨c, e, hc, -⟩ := h'.ch hp
  have HA := Lib.hid (show Calls Try.prog 38 #[.pointer (some ⟨c, 0, none⟩)] (W.alloc noO) fun e W' => e = .returned (.tuple #[actOf ((nextC E.chn).getD noAct), .bool (nextC E.chn).isSome]) ∧ Below (W.alloc noO).heap.size (W.alloc noO) W' from ChnM.act hc)
  obtain ⟨-, ⟨c6, c7, c8, c9⟩, -, -⟩ := rd_at h'.own
  rw [hp] at c6
  rw [e] at c9
  obtain ⟨y, hy⟩ : ∃ y, (nextC E.chn).getD noAct = y := ⟨_, rfl⟩
  obtain ⟨q, hq⟩ : ∃ q, (nextC E.chn).isSome = q := ⟨_, rfl⟩
  rw [hy, hq] at HA ⊢
  clear h h' hp hy hq
  go_enter Try.func19, Try.ntmps19
  go_wp2_with fail
  refine HA.out.mono ?_
  rintro en w1 ⟨rfl, hb⟩
  obtain ⟨h1, hb1⟩ := ract_mid HN.out hb
  have HB1 := Lib.hid hb1
  have H1 := Lib.hid h1
  obtain ⟨z0, z1, z2, z3, z4, z5⟩ := six_free h1
  obtain ⟨m0, m1, m2, m3, m4, m5⟩ := six_at h1
  clear hb h1 hb1 c6 c7 c8 c9
  go_wp2_with fail
  exact ract_end (set6 H1.out _ _ _ _ _ _) (below6 HB1.out (Nat.le_refl _) _ _ _ _ _ _) rfl rfl

/-! ### the pin is given back -/
/-- The routine, the box of the act that is told, and the one of what was pinned. -/
structure FrI (W : World) (r rp rf : Nat) (rc : Option Addr) (E : RdD) (g : Nat) (X : World) : Prop where
  own : X.heap[r]? = some (rdO E rp rf rc)
  box : X.heap[W.heap.size]? = some noO
  hld : X.heap[g]? = some (pndO E.pin.pn E.pin.ep E.pin.taken)
  lo : Below W.heap.size W X
  ne : r < W.heap.size ∧ W.heap.size < g
def LooksA (r g : Nat) (E : RdD) (X : World) : Prop := X.cell? ⟨r, 0, none⟩ = some (.int .i64 E.a) ∧ X.cell? ⟨r, 1, none⟩ = some (.int .i64 E.p) ∧ X.cell? ⟨r, 2, none⟩ = some (.int .i64 E.s) ∧ X.cell? ⟨r, 3, none⟩ = some (.int .i64 E.q) ∧ X.cell? ⟨r, 4, none⟩ = some (.int .i64 E.v) ∧ X.cell? ⟨r, 5, none⟩ = some (.int .u64 E.x) ∧ X.cell? ⟨g, 0, none⟩ = some (.int .i64 E.pin.pn)
section
variable {W X Y : World} {r rp rf g : Nat} {rc : Option Addr} {E : RdD}
theorem FrI.below (h : FrI W r rp rf rc E g X) (hb : Below X.heap.size X Y) : FrI W r rp rf rc E g Y :=
  ⟨(hb.block _ (heap_at_lt h.own)).trans h.own, (hb.block _ (heap_at_lt h.box)).trans h.box, (hb.block _ (heap_at_lt h.hld)).trans h.hld, h.lo.trans (hb.mono h.lo.size), h.ne⟩
theorem FrI.looks (h : FrI W r rp rf rc E g X) : LooksA r g E X := by
  obtain ⟨⟨c0, c1, c2, c3, c4, c5⟩, -, -, -⟩ := rd_at h.own
  exact ⟨c0, c1, c2, c3, c4, c5, (pnd_at h.hld).1⟩
theorem FrI.put (h : FrI W r rp rf rc E g X) (x : ActD) :
    ((((((X.setCell ⟨W.heap.size, 0, none⟩ (.int .i64 x.kind)).setCell ⟨W.heap.size, 1, none⟩ (.int .u64 (x.block : Int))).setCell ⟨W.heap.size, 2, none⟩ (.int .i64 x.cell)).setCell ⟨W.heap.size, 3, none⟩ (.int .u64 x.old)).setCell ⟨W.heap.size, 4, none⟩ (.int .u64 x.new)).setCell ⟨W.heap.size, 5, none⟩ (.string x.text)).heap[W.heap.size]? = some (.cells (actCells x) 59 (0, 0)) ∧
    Below W.heap.size W ((((((X.setCell ⟨W.heap.size, 0, none⟩ (.int .i64 x.kind)).setCell ⟨W.heap.size, 1, none⟩ (.int .u64 (x.block : Int))).setCell ⟨W.heap.size, 2, none⟩ (.int .i64 x.cell)).setCell ⟨W.heap.size, 3, none⟩ (.int .u64 x.old)).setCell ⟨W.heap.size, 4, none⟩ (.int .u64 x.new)).setCell ⟨W.heap.size, 5, none⟩ (.string x.text)) ∧
    LooksA r g E ((((((X.setCell ⟨W.heap.size, 0, none⟩ (.int .i64 x.kind)).setCell ⟨W.heap.size, 1, none⟩ (.int .u64 (x.block : Int))).setCell ⟨W.heap.size, 2, none⟩ (.int .i64 x.cell)).setCell ⟨W.heap.size, 3, none⟩ (.int .u64 x.old)).setCell ⟨W.heap.size, 4, none⟩ (.int .u64 x.new)).setCell ⟨W.heap.size, 5, none⟩ (.string x.text)) := by
  refine ⟨set6 h.box _ _ _ _ _ _, below6 h.lo (Nat.le_refl _) _ _ _ _ _ _, ?_⟩
  have hc : ∀ k i, k ≠ W.heap.size → ((((((X.setCell ⟨W.heap.size, 0, none⟩ (.int .i64 x.kind)).setCell ⟨W.heap.size, 1, none⟩ (.int .u64 (x.block : Int))).setCell ⟨W.heap.size, 2, none⟩ (.int .i64 x.cell)).setCell ⟨W.heap.size, 3, none⟩ (.int .u64 x.old)).setCell ⟨W.heap.size, 4, none⟩ (.int .u64 x.new)).setCell ⟨W.heap.size, 5, none⟩ (.string x.text)).cell? ⟨k, i, none⟩ = X.cell? ⟨k, i, none⟩ := fun k i hk => World.cell?_of_block (a := ⟨k, i, none⟩) (by
    rw [Below.heap_setCell _ _ _ _ hk, Below.heap_setCell _ _ _ _ hk, Below.heap_setCell _ _ _ _ hk, Below.heap_setCell _ _ _ _ hk, Below.heap_setCell _ _ _ _ hk, Below.heap_setCell _ _ _ _ hk])
  obtain ⟨h0, h1, h2, h3, h4, h5, h8⟩ := h.looks
  have hr := h.ne.1
  have hg := h.ne.2
  exact ⟨(hc r _ (by omega)).trans h0, (hc r _ (by omega)).trans h1, (hc r _ (by omega)).trans h2, (hc r _ (by omega)).trans h3, (hc r _ (by omega)).trans h4, (hc r _ (by omega)).trans h5, (hc g _ (by omega)).trans h8⟩
end

set_option maxRecDepth 100000 in
set_option maxHeartbeats 4000000 in
theorem ract_4 (W : World) {B r rp rf : Nat} {rc : Option Addr} {E : RdD} (h : RdIn W B r E rp rf rc) (hp : E.part = 4) :
    Calls Try.prog 19 #[.pointer (some ⟨r, 0, none⟩)] W (RactE ((nextR E).getD noAct) (nextR E).isSome W) := by
  rw [nextR_4 hp]
  show Calls _ _ _ _ (RactE E.free true W)
  have HB := Lib.hid (below_alloc W noO)
  have HN := Lib.hid (World.alloc_heap_new W noO)
  have h' := h.below HB.out
  have HRs := Lib.hid (pres_any (W.alloc noO) h'.pn.own)
  unfold PresE at HRs
  rw [show resP E.pin = ((E.pin.pn, E.pin.ep, E.pin.taken), true) from if_pos (h.fits.held (by omega) (by omega))] at HRs
  obtain ⟨⟨c0, c1, c2, c3, c4, c5⟩, ⟨c6, c7, c8, c9⟩, -, -⟩ := rd_at h'.own
  rw [hp] at c6
  have HOw := Lib.hid (And.intro h'.own (heap_at_lt h.own))
  have HFr := Lib.hid (fun X => pfree_any X E.a E.p E.s E.q E.v E.x E.pin.pn)
  obtain ⟨y, hy⟩ : ∃ y, freeE (pinW E.a E.p E.s E.q E.v E.pin.pn) = y := ⟨_, rfl⟩
  rw [hy] at HFr
  rw [show E.free = y from hy]
  clear h h' hp hy
  go_enter Try.func19, Try.ntmps19
  go_wp2_with fail
  refine HRs.out.mono ?_
  rintro en w1 ⟨rfl, hb⟩
  have HI := Lib.hid (show FrI W r rp rf rc E w1.heap.size (w1.alloc (pndO E.pin.pn E.pin.ep E.pin.taken)) from by
    obtain ⟨h1, hb1⟩ := ract_mid HN.out hb
    have hx := below_alloc w1 (pndO E.pin.pn E.pin.ep E.pin.taken)
    have ho := (hb.block _ (heap_at_lt HOw.out.1)).trans HOw.out.1
    exact ⟨(hx.block _ (heap_at_lt ho)).trans ho, (hx.block _ (heap_at_lt h1)).trans h1, World.alloc_heap_new _ _, hb1.trans (hx.mono hb1.size), HOw.out.2, heap_at_lt h1⟩)
  clear hb c0 c1 c2 c3 c4 c5 c6 c7 c8 c9 HRs HOw
  go_wp2_with fail
  obtain ⟨g, hg⟩ : ∃ g, w1.heap.size = g := ⟨_, rfl⟩
  rw [hg] at HI ⊢
  generalize w1.alloc (pndO E.pin.pn E.pin.ep E.pin.taken) = w2 at HI ⊢
  clear hg
  have HS := Lib.hid (show LooksA r g E w2.drew from (HI.out.below (below_drew _)).looks)
  refine wp_region_held_drew (S := fun w' => w'.cell? ⟨r, 0, none⟩ = some (.int .i64 E.a) ∧ w'.cell? ⟨r, 1, none⟩ = some (.int .i64 E.p) ∧ w'.cell? ⟨r, 2, none⟩ = some (.int .i64 E.s) ∧ w'.cell? ⟨r, 3, none⟩ = some (.int .i64 E.q) ∧ w'.cell? ⟨r, 4, none⟩ = some (.int .i64 E.v) ∧ w'.cell? ⟨r, 5, none⟩ = some (.int .u64 E.x) ∧ w'.cell? ⟨g, 0, none⟩ = some (.int .i64 E.pin.pn)) (by kernel_rfl) HS.out (fun _ => ?_)
  refine (fun h => h) ?_
  refine wpAnyH_look (i := 0) (v := ?v0) 50 rfl (by kernel_rfl) (by kernel_rfl) (by kernel_rfl) (fun _ _ _ _ h => h) (by rfl) HS.out (Or.inl ⟨by rfl, ?y0⟩) ?r0
  case y0 => intro w hSw; (try dsimp only at hSw); go_simp; (try with_reducible rfl)
  simp only [List.setIfInBounds_toArray, List.set_cons_zero, List.set_cons_succ]
  refine wpAnyH_look (i := 1) (v := ?v1) 51 rfl (by kernel_rfl) (by kernel_rfl) (by kernel_rfl) (fun _ _ _ _ h => h) (by rfl) HS.out (Or.inl ⟨by rfl, ?y1⟩) ?r1
  case y1 => intro w hSw; (try dsimp only at hSw); go_simp; (try with_reducible rfl)
  simp only [List.setIfInBounds_toArray, List.set_cons_zero, List.set_cons_succ]
  refine wpAnyH_look (i := 2) (v := ?v2) 52 rfl (by kernel_rfl) (by kernel_rfl) (by kernel_rfl) (fun _ _ _ _ h => h) (by rfl) HS.out (Or.inl ⟨by rfl, ?y2⟩) ?r2
  case y2 => intro w hSw; (try dsimp only at hSw); go_simp; (try with_reducible rfl)
  simp only [List.setIfInBounds_toArray, List.set_cons_zero, List.set_cons_succ]
  refine wpAnyH_look (i := 3) (v := ?v3) 53 rfl (by kernel_rfl) (by kernel_rfl) (by kernel_rfl) (fun _ _ _ _ h => h) (by rfl) HS.out (Or.inl ⟨by rfl, ?y3⟩) ?r3
  case y3 => intro w hSw; (try dsimp only at hSw); go_simp; (try with_reducible rfl)
  simp only [List.setIfInBounds_toArray, List.set_cons_zero, List.set_cons_succ]
  refine wpAnyH_look (i := 4) (v := ?v4) 54 rfl (by kernel_rfl) (by kernel_rfl) (by kernel_rfl) (fun _ _ _ _ h => h) (by rfl) HS.out (Or.inl ⟨by rfl, ?y4⟩) ?r4
  case y4 => intro w hSw; (try dsimp only at hSw); go_simp; (try with_reducible rfl)
  simp only [List.setIfInBounds_toArray, List.set_cons_zero, List.set_cons_succ]
  refine wpAnyH_look (i := 5) (v := ?v5) 55 rfl (by kernel_rfl) (by kernel_rfl) (by kernel_rfl) (fun _ _ _ _ h => h) (by rfl) HS.out (Or.inl ⟨by rfl, ?y5⟩) ?r5
  case y5 => intro w hSw; (try dsimp only at hSw); go_simp; (try with_reducible rfl)
  simp only [List.setIfInBounds_toArray, List.set_cons_zero, List.set_cons_succ]
  refine wpAnyH_ready (rs := [6]) (by kernel_rfl) (by simp) ?_
  refine AllReadyH.cons rfl (fun K hK => ?_) AllReadyH.nil
  go_simp
  go_at_call 40
  refine (HFr.out _).mono ?_
  rintro en x1 ⟨rfl, hb⟩
  have HI1 := Lib.hid ((HI.out.below (below_drew _)).below hb)
  have HS := Lib.hid HI1.out.looks
  clear hb
  go_simp
  refine hK.out _ _ HS.out (fun _ => ?_)
  clear hK K
  obtain ⟨z0, z1, z2, z3, z4, z5⟩ := six_free HI1.out.box
  obtain ⟨m0, m1, m2, m3, m4, m5⟩ := six_at HI1.out.box
  have HE := Lib.hid (HI1.out.put y)
  refine wpAnyH_ready (rs := [7]) (by kernel_rfl) (by simp) ?_
  refine AllReadyH.cons rfl (fun K hK => ?_) AllReadyH.nil
  go_simp
  have HS := Lib.hid HE.out.2.2
  refine hK.out _ _ HS.out (fun _ => ?_)
  clear hK K
  refine wpAnyH_look (i := 8) (v := ?v8) 3 rfl (by kernel_rfl) (by kernel_rfl) (by kernel_rfl) (fun _ _ _ _ h => h) (by rfl) HS.out (Or.inl ⟨by rfl, ?y8⟩) ?r8
  case y8 => intro w hSw; (try dsimp only at hSw); go_simp; (try with_reducible rfl)
  simp only [List.setIfInBounds_toArray, List.set_cons_zero, List.set_cons_succ]
  refine ⟨by kernel_rfl, ?_⟩
  go_wp2_with fail
  exact ract_end HE.out.1 HE.out.2.1 rfl rfl

end Go.Proofs.Ytpnfbabiibopnaa
