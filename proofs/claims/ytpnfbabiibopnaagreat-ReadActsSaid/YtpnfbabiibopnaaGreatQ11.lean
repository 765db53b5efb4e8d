/-
  Fld, Rnd, Pnm, in one text.
-/
import Derived.Test.YtpnfbabiibopnaaGreatQ07
import Derived.Test.YtpnfbabiibopnaaGreatQ09
import Derived.Test.YtpnfbabiibopnaaGreatQ10
/-! A config's control block on a heap of its own: the statements' Field and Tiny. -/
namespace Go.Proofs.YtpnfbabiibopnaaGreat
open Go Go.RowKit
attribute [local go_sem ↓] Go.wp_at_zero Go.wp_at_succ

def fieldD (n : Nat) : HpD := emptyD.add ⟨List.replicate n 0, ⟨#[]⟩, false⟩

def FieldR (z : Int) (W : World) (e : Ending) (W' : World) : Prop := ∃ B b f, e = .returned (.pointer (some ⟨b, 0, none⟩)) ∧ W.heap.size ≤ B ∧ Hp W' B b (fieldD z.toNat) f ∧ Below W.heap.size W W'

set_option maxRecDepth 100000 in
set_option maxHeartbeats 2000000 in
theorem field_any (W : World) (a p s q v x : Int) (hr : rightC a p s q v = true) : Calls Tryz.prog 15 #[cfV a p s q v x] W (FieldR (sizeW a p s q v) W) := by
  obtain ⟨ha, hp, hs⟩ := rightC_bd hr
  have hz : sizeW a p s q v = 3 + p + a + 2 * s := if_pos hr
  obtain ⟨z, hzz⟩ : ∃ z, sizeW a p s q v = z := ⟨_, rfl⟩
  have HZ := Lib.hid (fun X : World => (by have := csize_any a p s q v x X; rw [hzz] at this; exact this : Calls Tryz.prog 44 #[cfV a p s q v x] X (Tells z X)))
  have hmk : okay z = true := by unfold okay; rw [← hzz, hz]; exact decide_eq_true (by omega)
  have HD := Lib.hid (show makeD emptyD z ⟨#[]⟩ = fieldD z.toNat from by unfold makeD fieldD; rw [hmk, if_pos rfl])
  have HMk := Lib.hid (fun (X : World) (b : Nat) (f : Nat → Prop) (B : Nat) (hX : Hp X B b emptyD f) => make_all X hX (by show 0 < 1000000; omega) z ⟨#[]⟩ (by show (⟨#[]⟩ : ByteArray).size ≤ _; exact Nat.zero_le _))
  rw [hzz]
  have X0 := Lib.hid (BoxC.start W a p s q v x)
  clear ha hp hs hz hzz hmk hr
  go_enter Tryz.func15, Tryz.ntmps15
  go_wp2_with fail
  refine (new_any _).mono ?_
  rintro en w1 ⟨b, f1, rfl, h1, hb1⟩
  have X1 := Lib.hid (X0.out.below hb1)
  have H1 := Lib.hid h1
  clear h1 hb1 X0
  obtain ⟨c0, c1, c2, c3, c4, c5⟩ := X1.out.six
  go_wp2_with fail
  refine (HZ.out _).mono ?_
  rintro en w2 ⟨rfl, hb⟩
  have X2 := Lib.hid (X1.out.below hb)
  have H2 := Lib.hid (H1.out.below hb)
  clear hb c0 c1 c2 c3 c4 c5 X1 H1
  go_wp2_with fail
  refine (HMk.out _ b _ _ H2.out).mono ?_
  rintro en w3 ⟨f3, rfl, h3, s3⟩
  have HE := Lib.hid (show FieldR z W (.returned (.pointer (some ⟨b, 0, none⟩))) w3 from by
    rw [HD.out] at h3
    exact ⟨_, b, f3, rfl, by simp, h3, X2.out.lo.trans (s3.below X2.out.lo.size (fun k hk => H2.out.base k (by rw [World.size_alloc]; omega)))⟩)
  clear h3 s3
  go_wp2_with fail
  go_ret
  exact HE.out

theorem tiny_any (W : World) : Calls Tryz.prog 14 #[] W fun e W' => e = .returned (cfV 2 2 3 2 1 0) ∧ Below W.heap.size W W' := by
  have HZ := Lib.hid (World.alloc_heap_new W (.cells #[.int .i64 0, .int .i64 0, .int .i64 0, .int .i64 0, .int .i64 0, .int .u64 0] 24))
  obtain ⟨z0, z1, z2, z3, z4, z5⟩ := six_free HZ.out
  obtain ⟨m0, m1, m2, m3, m4, m5⟩ := six_at HZ.out
  go_enter Tryz.func14, Tryz.ntmps14
  go_wp2_with fail
  refine bodyPost_ret (v := cfV 2 2 3 2 1 0) (by rw [results_cell1 (by rfl)]; go_simp) rfl ⟨rfl, ?_⟩
  exact below_alloc _ _

theorem field_few {z : Int} {n : Nat} (hn : n ≤ 800000) : FewD (fieldD z.toNat) n := by
  refine ⟨by show 0 + n ≤ _; omega, by show 1 + n ≤ _; omega, fun b hb => ?_⟩
  have hb' : b = ⟨List.replicate z.toNat 0, ⟨#[]⟩, false⟩ := by
    have : b ∈ [(⟨List.replicate z.toNat 0, ⟨#[]⟩, false⟩ : BlkD)] := hb
    simpa using this
  subst hb'
  exact ⟨fun w hw => by rw [List.eq_of_mem_replicate hw]; omega, by show (⟨#[]⟩ : ByteArray).size ≤ _; exact Nat.zero_le _⟩

end Go.Proofs.YtpnfbabiibopnaaGreat

/-! Between two runs of routines: the config's box, a heap with a control block, blocks beside them that stay; the heap's calls, and a routine alone. -/
namespace Go.Proofs.YtpnfbabiibopnaaGreat
open Go Go.RowKit

/-- The config's box, the heap, blocks beside it that stay. -/
structure Rnd (W : World) (a p s q v x : Int) (B hp : Nat) (D : HpD) (ks : List (Nat × Obj)) (X : World) : Prop where
  cf : X.heap[W.heap.size]? = some (.cells (cfC a p s q v x) 24 (0, 0))
  lo : Below W.heap.size W X
  hB : W.heap.size < B
  hh : ∃ f, Hp X B hp D f ∧ ∀ u ∈ ks, X.heap[u.1]? = some u.2 ∧ W.heap.size < u.1 ∧ ¬ f u.1

/-- A routine stands beside them. -/
structure Rnf {σ : Type} (M : Mach σ) (W : World) (a p s q v x : Int) (B hp : Nat) (D : HpD) (ks : List (Nat × Obj)) (r n : Nat) (E : σ) (X : World) : Prop where
  cf : X.heap[W.heap.size]? = some (.cells (cfC a p s q v x) 24 (0, 0))
  lo : Below W.heap.size W X
  hB : W.heap.size < B
  pl : ∃ f, PlM M X B hp r ⟨D, E⟩ n f ∧ ∀ u ∈ ks, X.heap[u.1]? = some u.2 ∧ W.heap.size < u.1 ∧ ¬ f u.1

section
variable {σ : Type} {M : Mach σ} {W X Y : World} {a p s q v x : Int} {B hp r n : Nat} {D D' : HpD} {ks : List (Nat × Obj)} {o : Obj} {E : σ}

theorem kept_below {f : Nat → Prop} (h : ∀ u ∈ ks, X.heap[u.1]? = some u.2 ∧ W.heap.size < u.1 ∧ ¬ f u.1) (hb : Below X.heap.size X Y) : ∀ u ∈ ks, Y.heap[u.1]? = some u.2 ∧ W.heap.size < u.1 ∧ ¬ f u.1 := fun u hu => by
  obtain ⟨h1, h2⟩ := h u hu
  exact ⟨(hb.block _ (heap_at_lt h1)).trans h1, h2⟩

theorem kept_step {f f' : Nat → Prop} (h : ∀ u ∈ ks, X.heap[u.1]? = some u.2 ∧ W.heap.size < u.1 ∧ ¬ f u.1) (st : Step f f' X Y) : ∀ u ∈ ks, Y.heap[u.1]? = some u.2 ∧ W.heap.size < u.1 ∧ ¬ f' u.1 := fun u hu => by
  obtain ⟨h1, h2, h3⟩ := h u hu
  have hlt := heap_at_lt h1
  exact ⟨(st.block _ hlt h3).trans h1, h2, fun hf => (st.foot _ hf).elim h3 (fun hge => by omega)⟩

theorem Rnd.below (h : Rnd W a p s q v x B hp D ks X) (hb : Below X.heap.size X Y) : Rnd W a p s q v x B hp D ks Y := by
  obtain ⟨f, h1, h2⟩ := h.hh
  exact ⟨(hb.block _ (heap_at_lt h.cf)).trans h.cf, h.lo.trans (hb.mono h.lo.size), h.hB, f, h1.below hb, kept_below h2 hb⟩

theorem Rnd.six (h : Rnd W a p s q v x B hp D ks X) : SixC W.heap.size a p s q v x X :=
  ⟨(cell_of h.cf).trans rfl, (cell_of h.cf).trans rfl, (cell_of h.cf).trans rfl, (cell_of h.cf).trans rfl, (cell_of h.cf).trans rfl, (cell_of h.cf).trans rfl⟩

theorem Rnd.kept (h : Rnd W a p s q v x B hp D ks X) {g : Nat} (hg : (g, o) ∈ ks) : X.heap[g]? = some o := by
  obtain ⟨f, _, h2⟩ := h.hh
  exact (h2 _ hg).1

theorem Rnd.few {ks' : List (Nat × Obj)} (h : Rnd W a p s q v x B hp D ks X) (hs : ∀ u ∈ ks', u ∈ ks) : Rnd W a p s q v x B hp D ks' X := by
  obtain ⟨f, h1, h2⟩ := h.hh
  exact ⟨h.cf, h.lo, h.hB, f, h1, fun u hu => h2 u (hs u hu)⟩

theorem Rnd.add (h : Rnd W a p s q v x B hp D ks X) (o : Obj) : Rnd W a p s q v x B hp D ((X.heap.size, o) :: ks) (X.alloc o) := by
  have hb := below_alloc X o
  have hsz := heap_at_lt h.cf
  obtain ⟨f, h1, h2⟩ := h.hh
  refine ⟨(hb.block _ (heap_at_lt h.cf)).trans h.cf, h.lo.trans (hb.mono h.lo.size), h.hB, f, h1.below hb, fun u hu => ?_⟩
  rcases List.mem_cons.1 hu with rfl | hu
  · exact ⟨World.alloc_heap_new X o, hsz, fun hf => by have := h1.lt _ hf; simp only at this; omega⟩
  · exact kept_below h2 hb u hu

/-- The heap turns. -/
theorem Rnd.turn (h : Rnd W a p s q v x B hp D ks X) {f f' : Nat → Prop} (h1 : Hp X B hp D f) (h2 : ∀ u ∈ ks, X.heap[u.1]? = some u.2 ∧ W.heap.size < u.1 ∧ ¬ f u.1) (h3 : Hp Y B hp D' f') (st : Step f f' X Y) : Rnd W a p s q v x B hp D' ks Y :=
  ⟨(st.block _ (heap_at_lt h.cf) (h1.base _ h.hB)).trans h.cf, h.lo.trans (st.below h.lo.size (fun k hk => h1.base k (Nat.lt_trans hk h.hB))), h.hB, f', h3, kept_step h2 st⟩

/-- A row is written to. -/
theorem Rnd.write {cs : Array Value} {t : TypeId} {g : Nat} (h : Rnd W a p s q v x B hp D ((g, .cells cs t (0, 0)) :: ks) X) (hg : ∀ u ∈ ks, u.1 ≠ g) (i : Nat) (u : Value) : Rnd W a p s q v x B hp D ((g, .cells (cs.setIfInBounds i u) t (0, 0)) :: ks) (X.setCell ⟨g, i, none⟩ u) := by
  obtain ⟨f, h1, h2⟩ := h.hh
  obtain ⟨g1, g2, g3⟩ := h2 _ (List.mem_cons_self ..)
  simp only at g1 g2 g3
  have hk : ∀ k, k ≠ g → (X.setCell ⟨g, i, none⟩ u).heap[k]? = X.heap[k]? := fun k hk => Below.heap_setCell _ _ _ _ hk
  refine ⟨(hk _ (by omega)).trans h.cf, h.lo.setCell (p := ⟨g, i, none⟩) (Nat.le_of_lt g2) u, h.hB, f, h1.stays (fun k hf => hk k (fun e => g3 (e ▸ hf))), fun w hw => ?_⟩
  rcases List.mem_cons.1 hw with rfl | hw
  · exact ⟨heap_setAt g1, g2, g3⟩
  · obtain ⟨w1, w2⟩ := h2 w (List.mem_cons_of_mem _ hw)
    exact ⟨(hk _ (hg w hw)).trans w1, w2⟩

theorem Rnf.below (h : Rnf M W a p s q v x B hp D ks r n E X) (hb : Below X.heap.size X Y) : Rnf M W a p s q v x B hp D ks r n E Y := by
  obtain ⟨f, h1, h2⟩ := h.pl
  exact ⟨(hb.block _ (heap_at_lt h.cf)).trans h.cf, h.lo.trans (hb.mono h.lo.size), h.hB, f, h1.below hb, kept_below h2 hb⟩

theorem Rnf.drop (h : Rnf M W a p s q v x B hp D ks r n E X) : Rnd W a p s q v x B hp D ks X := by
  obtain ⟨f, h1, h2⟩ := h.pl
  obtain ⟨fh, h3, h4⟩ := plm_heap h1
  exact ⟨h.cf, h.lo, h.hB, fh, h3, fun u hu => ⟨(h2 u hu).1, (h2 u hu).2.1, fun hf => (h2 u hu).2.2 (h4 _ hf)⟩⟩

/-- A routine is made. -/
theorem Rnd.start {fr : Nat → Prop} (h : Rnd W a p s q v x B hp D ks X) (hF : FewD D n) (hA : M.At Y B r E fr) (hge : ∀ k, fr k → X.heap.size ≤ k) (hb : Below X.heap.size X Y) : Rnf M W a p s q v x B hp D ks r n E Y := by
  have h' := h.below hb
  obtain ⟨f, h1, h2⟩ := h.hh
  refine ⟨h'.cf, h'.lo, h.hB, _, plm_start h1 hF hA hge hb, fun u hu => ?_⟩
  have hlt := heap_at_lt (h2 u hu).1
  exact ⟨(kept_below h2 hb u hu).1, (h2 u hu).2.1, fun hf => hf.elim (h2 u hu).2.2 (fun e => by have := hge _ e; omega)⟩

/-- Alone. -/
theorem rnf_alone (h : Rnf M W a p s q v x B hp D ks r n E X) (m : Nat) (hm : m ≤ 1000000) (hmn : m ≤ n) :
    Calls Tryz.prog 16 #[.pointer (some ⟨hp, 0, none⟩), rowV M.tid r, .int .i64 (m : Int)] X
      (fun e Y => e = .returned (.tuple #[.int .i64 (((toM M ⟨D, E⟩ m).length : Nat) : Int), .bool (!(M.next (stM M ⟨D, E⟩ m).s).isSome)]) ∧ Rnf M W a p s q v x B hp (stM M ⟨D, E⟩ m).D ks r (n - m) (stM M ⟨D, E⟩ m).s Y) := by
  obtain ⟨f, h1, h2⟩ := h.pl
  refine (malone_any h1 m hm hmn).mono fun e Y he => ?_
  obtain ⟨rfl, f', h3, st⟩ := he
  exact ⟨rfl, (st.block _ (heap_at_lt h.cf) (h1.base _ h.hB)).trans h.cf, h.lo.trans (st.below h.lo.size (fun k hk => h1.base k (Nat.lt_trans hk h.hB))), h.hB, f', h3, kept_step h2 st⟩

theorem rnd_key (h : Rnd W a p s q v x B hp D ks X) (sh : Int) : Calls Tryz.prog 48 #[cfV a p s q v x, .int .i64 sh] X (fun e Y => e = .returned (.int .i64 (keyW a p s q v sh)) ∧ Rnd W a p s q v x B hp D ks Y) :=
  (key_any a p s q v x sh X).mono fun _ _ he => ⟨he.1, h.below he.2⟩

theorem rnd_head (h : Rnd W a p s q v x B hp D ks X) (sh : Int) : Calls Tryz.prog 66 #[cfV a p s q v x, .int .i64 sh] X (fun e Y => e = .returned (.int .i64 (headW a p s q v sh)) ∧ Rnd W a p s q v x B hp D ks Y) :=
  (head_any a p s q v x sh X).mono fun _ _ he => ⟨he.1, h.below he.2⟩

theorem rnd_make (h : Rnd W a p s q v x B hp D ks X) (hm : D.L.length ≤ 1000) {t : ByteArray} (ht : t.size ≤ 100) :
    Calls Tryz.prog 43 #[.pointer (some ⟨hp, 0, none⟩), .int .i64 0, .string t] X (fun e Y => e = .returned (.int .u64 ((D.L.length + 1 : Nat) : Int)) ∧ Rnd W a p s q v x B hp (makeD D 0 t) ks Y) := by
  obtain ⟨f, h1, h2⟩ := h.hh
  refine (make_all X h1 (by omega) 0 t (by omega)).mono fun e Y he => ?_
  have hv : makeV D 0 = ((D.L.length + 1 : Nat) : Int) := by unfold makeV; rw [if_pos (by decide)]
  rw [hv] at he
  obtain ⟨f', e1, h3, st⟩ := he
  exact ⟨e1, h.turn h1 h2 h3 st⟩

theorem rnd_store (h : Rnd W a p s q v x B hp D ks X) (hf : D.faults < 1000000) (c u : Int) :
    Calls Tryz.prog 47 #[.pointer (some ⟨hp, 0, none⟩), .int .u64 1, .int .i64 c, .int .u64 u] X (fun e Y => e = .returned (.int .i64 (spot D.L 1 c)) ∧ Rnd W a p s q v x B hp (storeD D 1 c u) ks Y) := by
  obtain ⟨f, h1, h2⟩ := h.hh
  refine (show Calls Tryz.prog 47 #[.pointer (some ⟨hp, 0, none⟩), .int .u64 ((1 : Nat) : Int), .int .i64 c, .int .u64 u] X _ from store_any X h1 hf 1 (by omega) c u).mono fun e Y he => ?_
  obtain ⟨f', e1, h3, st⟩ := he
  exact ⟨e1, h.turn h1 h2 h3 st⟩

theorem rnd_load (h : Rnd W a p s q v x B hp D ks X) (hf : D.faults < 1000000) (k : Nat) (hk : k < 18446744073709551616) (c : Int) :
    Calls Tryz.prog 73 #[.pointer (some ⟨hp, 0, none⟩), .int .u64 (k : Int), .int .i64 c] X (fun e Y => e = .returned (TwoV (loadV D k c) (spot D.L k c)) ∧ Rnd W a p s q v x B hp (loadD D k c) ks Y) := by
  obtain ⟨f, h1, h2⟩ := h.hh
  refine (load_any X h1 hf k hk c).mono fun e Y he => ?_
  obtain ⟨f', e1, h3, st⟩ := he
  exact ⟨e1, h.turn h1 h2 h3 st⟩

theorem rnd_words (h : Rnd W a p s q v x B hp D ks X) (hf : D.faults < 1000000) (k : Nat) (hk : k < 18446744073709551616) :
    Calls Tryz.prog 95 #[.pointer (some ⟨hp, 0, none⟩), .int .u64 (k : Int)] X (fun e Y => e = .returned (.tuple #[.string (textAt D.L k), .int .i64 (there D.L k)]) ∧ Rnd W a p s q v x B hp (wordsD D k) ks Y) := by
  obtain ⟨f, h1, h2⟩ := h.hh
  refine (words_any X h1 hf k hk).mono fun e Y he => ?_
  obtain ⟨f', e1, h3, st⟩ := he
  exact ⟨e1, h.turn h1 h2 h3 st⟩

end

/-- A heap beside the config's box, and nothing else. -/
theorem rnd_begin {W X : World} {a p s q v x : Int} {B hp : Nat} {D : HpD} {f : Nat → Prop} (h : BoxC W a p s q v x X) (hh : Hp X B hp D f) (hB : W.heap.size < B) : Rnd W a p s q v x B hp D [] X :=
  ⟨h.b, h.lo, hB, f, hh, fun u hu => by cases hu⟩

end Go.Proofs.YtpnfbabiibopnaaGreat

/-! pin's routine: New and Free; the routine as a kind of routine. -/
namespace Go.Proofs.YtpnfbabiibopnaaGreat
open Go Go.RowKit
attribute [local go_sem ↓] Go.wp_at_zero Go.wp_at_succ

/-! ### New -/
/-- A routine at its beginning. -/
def newP (a p s q v x th : Int) : PinD := ⟨a, p, s, q, v, x, 1, 0, th % p, 0, false⟩
theorem newP_fits {a p s q v : Int} (hr : rightC a p s q v = true) (x th : Int) : (newP a p s q v x th).fits := by
  have hp := (rightC_bd hr).2.1
  have hm := Int.emod_nonneg th (show p ≠ 0 by omega)
  have hm2 := Int.emod_lt_of_pos th (show 0 < p by omega)
  exact ⟨by show 1 ≤ 5; omega, ⟨Int.le_refl _, by show (0 : Int) < 18446744073709551616; omega⟩, .inr ⟨hr, Nat.le_refl _, ⟨Int.le_refl _, by show 0 ≤ p; omega⟩, ⟨hm, hm2⟩, fun _ => by show 0 < p; omega⟩⟩
def NewPE (d : PinD) (W : World) (e : Ending) (W' : World) : Prop := ∃ r, e = .returned (.pointer (some ⟨r, 0, none⟩)) ∧ W.heap.size ≤ r ∧ W'.heap[r]? = some (pnrO d) ∧ Below W.heap.size W W'

set_option maxRecDepth 100000 in
set_option maxHeartbeats 2000000 in
theorem pnew_bad (W : World) (a p s q v x th : Int) (hr : rightC a p s q v = false ∨ th < 0) :
    Calls Tryz.prog 19 #[cfV a p s q v x, .int .i64 th] W (NewPE PinD.zero W) := by
  have HR := Lib.hid (fun X : World => cright_any a p s q v x X)
  have X0 := Lib.hid (BoxC.start W a p s q v x)
  obtain ⟨c0, c1, c2, c3, c4, c5⟩ := X0.out.six
  by_cases hth : th < 0
  · generalize rightC a p s q v = b at HR
    clear hr
    go_enter Tryz.func19, Tryz.ntmps19
    go_wp2_with fail
    refine (HR.out _).mono ?_
    rintro e w1 ⟨rfl, hb⟩
    have HB := Lib.hid (X0.out.lo.trans (hb.mono X0.out.lo.size))
    clear hb
    cases b
    all_goals
      go_wp2_with fail
      go_ret
      exact ⟨_, rfl, HB.out.size, World.alloc_heap_new w1 (pnrO PinD.zero), HB.out.trans ((below_alloc w1 _).mono HB.out.size)⟩
  · have hr' : rightC a p s q v = false := hr.elim id (fun h => absurd h hth)
    rw [hr'] at HR
    clear hr hr'
    go_enter Tryz.func19, Tryz.ntmps19
    go_wp2_with fail
    refine (HR.out _).mono ?_
    rintro e w1 ⟨rfl, hb⟩
    have HB := Lib.hid (X0.out.lo.trans (hb.mono X0.out.lo.size))
    clear hb
    go_wp2_with fail
    go_ret
    exact ⟨_, rfl, HB.out.size, World.alloc_heap_new w1 (pnrO PinD.zero), HB.out.trans ((below_alloc w1 _).mono HB.out.size)⟩

set_option maxRecDepth 100000 in
set_option maxHeartbeats 4000000 in
theorem pnew_any (W : World) (a p s q v x th : Int) (hr : rightC a p s q v = true) (hth : 0 ≤ th) :
    Calls Tryz.prog 19 #[cfV a p s q v x, .int .i64 th] W (NewPE (newP a p s q v x th) W) := by
  have HR := Lib.hid (fun X : World => cright_any a p s q v x X)
  rw [hr] at HR
  have X0 := Lib.hid (BoxC.start W a p s q v x)
  obtain ⟨c0, c1, c2, c3, c4, c5⟩ := X0.out.six
  have hp := (rightC_bd hr).2.1
  obtain ⟨m, hm⟩ : ∃ m, th % p = m := ⟨_, rfl⟩
  have hm0 := Int.emod_nonneg th (show p ≠ 0 by omega)
  have hm1 := Int.emod_lt_of_pos th (show 0 < p by omega)
  have htm := tmod_of (a := p) hth
  have HE := Lib.hid (show newP a p s q v x th = ⟨a, p, s, q, v, x, 1, 0, m, 0, false⟩ from by rw [← hm]; rfl)
  rw [hm] at hm0 hm1 htm
  have hwm : IntKind.i64.wrap m = m := awrap (by omega)
  have hp0 : ¬ p = 0 := by omega
  have ht0 : ¬ th < 0 := by omega
  have hmix : Tryz.prog.follows .mixedOrders = true := by kernel_rfl
  rw [HE.out]
  clear hr hm hth HE
  go_enter Tryz.func19, Tryz.ntmps19
  go_wp2_with fail
  refine (HR.out _).mono ?_
  rintro e w1 ⟨rfl, hb⟩
  have X1 := Lib.hid (X0.out.below hb)
  clear hb c0 c1 c2 c3 c4 c5
  obtain ⟨c0, c1, c2, c3, c4, c5⟩ := X1.out.six
  go_wp2_with fail
  go_still_tail 7, hmix
  change wpList _ _ _ _ _ w1.drew
  have HB := Lib.hid (X1.out.drew.lo)
  clear c0 c1 c2 c3 c4 c5
  generalize w1.drew = w2 at HB ⊢
  go_wp2_with fail
  go_ret
  exact ⟨_, rfl, HB.out.size, World.alloc_heap_new w2 (pnrO ⟨a, p, s, q, v, x, 1, 0, m, 0, false⟩), HB.out.trans ((below_alloc w2 _).mono HB.out.size)⟩

/-! ### Free -/
theorem pfree_end {W X : World} {n : Nat} {x : ActD} {T : Array Value} (h : X.heap[n]? = some (.cells (actCells x) 31 (0, 0))) (hb : Below W.heap.size W X) (h2 : T.getD 4 undef = .pointer (some ⟨n, 0, none⟩)) :
    bodyPost Tryz.prog Tryz.f25 (fun e W' => e = .returned (actOf x) ∧ Below W.heap.size W W') .ret { tmps := T, defers := [] } X :=
  bodyPost_ret (v := actOf x) (by rw [results_cell1 (by rfl), h2]; simp only [asAddr, Sem.run_pure, Result.andThen_ok, load_act h]) rfl ⟨rfl, hb⟩
def freeE (c : Int) : ActD := if c < 0 then noAct else ⟨2, 1, c, 0, 0, ⟨#[]⟩⟩
set_option maxRecDepth 100000 in
set_option maxHeartbeats 2000000 in
theorem pfree_any (W : World) (a p s q v x i : Int) : Calls Tryz.prog 25 #[cfV a p s q v x, .int .i64 i] W fun e W' => e = .returned (actOf (freeE (pinW a p s q v i))) ∧ Below W.heap.size W W' := by
  have HP := Lib.hid (fun X : World => pin_any a p s q v x i X)
  have X0 := BoxC.start W a p s q v x
  obtain ⟨b, hb⟩ : ∃ b, (W.alloc (.cells #[.int .i64 a, .int .i64 p, .int .i64 s, .int .i64 q, .int .i64 v, .int .u64 x] 24)).heap.size = b := ⟨_, rfl⟩
  have hbs : b = W.heap.size + 1 := by rw [← hb]; simp
  have HX := Lib.hid (X0.below (below_alloc _ noO))
  have HN := Lib.hid (show ((W.alloc (.cells #[.int .i64 a, .int .i64 p, .int .i64 s, .int .i64 q, .int .i64 v, .int .u64 x] 24)).alloc noO).heap[W.heap.size + 1]? = some noO from by
    have := World.alloc_heap_new (W.alloc (.cells #[.int .i64 a, .int .i64 p, .int .i64 s, .int .i64 q, .int .i64 v, .int .u64 x] 24)) noO; rwa [World.size_alloc] at this)
  obtain ⟨c0, c1, c2, c3, c4, c5⟩ := HX.out.six
  generalize pinW a p s q v i = c at HP ⊢
  clear X0 hb hbs
  by_cases hc : c < 0
  · rw [show freeE c = noAct from if_pos hc]
    go_enter Tryz.func25, Tryz.ntmps25
    go_wp2_with fail
    refine (HP.out _).mono ?_
    rintro e w1 ⟨rfl, hb⟩
    have HB := Lib.hid (HX.out.below hb).lo
    have HN1 := Lib.hid ((hb.block _ (heap_at_lt HN.out)).trans HN.out)
    obtain ⟨m0, m1, m2, m3, m4, m5⟩ := six_at HN1.out
    obtain ⟨z0, z1, z2, z3, z4, z5⟩ := six_free HN1.out
    clear hb c0 c1 c2 c3 c4 c5
    go_wp2_with fail
    exact pfree_end (x := noAct) (set6 HN1.out _ _ _ _ _ _) (below6 HB.out (Nat.le_succ _) _ _ _ _ _ _) rfl
  · rw [show freeE c = ⟨2, 1, c, 0, 0, ⟨#[]⟩⟩ from if_neg hc]
    go_enter Tryz.func25, Tryz.ntmps25
    go_wp2_with fail
    refine (HP.out _).mono ?_
    rintro e w1 ⟨rfl, hb⟩
    have HB := Lib.hid (HX.out.below hb).lo
    have HN1 := Lib.hid ((hb.block _ (heap_at_lt HN.out)).trans HN.out)
    obtain ⟨m0, m1, m2, m3, m4, m5⟩ := six_at HN1.out
    obtain ⟨z0, z1, z2, z3, z4, z5⟩ := six_free HN1.out
    clear hb c0 c1 c2 c3 c4 c5
    go_wp2_with fail
    exact pfree_end (x := ⟨2, 1, c, 0, 0, ⟨#[]⟩⟩) (set6 HN1.out _ _ _ _ _ _) (below6 HB.out (Nat.le_succ _) _ _ _ _ _ _) rfl

/-! ### a kind of routine -/
structure PinAt (W : World) (B r : Nat) (v : PinD) (f : Nat → Prop) : Prop where
  own : W.heap[r]? = some (pnrO v)
  foot : f = fun k => k = r
  base : B ≤ r
  fits : v.fits
theorem PinAt.stays {W W' : World} {B r : Nat} {v : PinD} {f : Nat → Prop} (h : PinAt W B r v f) (hs : ∀ k, f k → W'.heap[k]? = W.heap[k]?) : PinAt W' B r v f := ⟨(hs r (by rw [h.foot])).trans h.own, h.foot, h.base, h.fits⟩
theorem PinAt.lt {W : World} {B r : Nat} {v : PinD} {f : Nat → Prop} (h : PinAt W B r v f) : ∀ k, f k → k < W.heap.size := fun k hk => by
  rw [h.foot] at hk; subst hk; exact heap_at_lt h.own
theorem pin_takes {W : World} {B r : Nat} {v : PinD} {f : Nat → Prop} {w : Int} {t : ByteArray} (h : PinAt W B r v f) (hs : (nextP v).isSome = true) (hg : Good w t) :
    Calls Tryz.prog 32 #[.pointer (some ⟨r, 0, none⟩), gotV w t] W fun e W' => ∃ f', e = .returned (.tuple #[]) ∧ PinAt W' B r (takeP v w t) f' ∧ Step f f' W W' := by
  refine (ptake_any W h.own h.fits hs w t).mono ?_
  rintro en W' ⟨rfl, h2, h3⟩
  refine ⟨fun k => k = r, rfl, ⟨h2, rfl, h.base, takeP_fits h.fits hg.1⟩, ?_⟩
  rw [h.foot]; exact h3

theorem pin_metA (n r : Nat) (w : World) : (method (n + 1) 63 (.pointer (some ⟨r, 0, none⟩)) "Act").run Tryz.prog w = .ok (21, .pointer (some ⟨r, 0, none⟩)) w := by kernel_rfl
theorem pin_metT (n r : Nat) (w : World) : (method (n + 1) 63 (.pointer (some ⟨r, 0, none⟩)) "Take").run Tryz.prog w = .ok (32, .pointer (some ⟨r, 0, none⟩)) w := by kernel_rfl
theorem pin_entA (args : Array Value) (w : World) : (callFunc 21 args).run Tryz.prog w = .ok (.enter 21 args) w := enters_of Tryz.func21 (by kernel_rfl) rfl args w
theorem pin_entT (args : Array Value) (w : World) : (callFunc 32 args).run Tryz.prog w = .ok (.enter 32 args) w := enters_of Tryz.func32 (by kernel_rfl) rfl args w
def PinM : Mach PinD where
  tid := 63
  fA := 21
  fT := 32
  next := nextP
  take := takeP
  At := PinAt
  metA := pin_metA
  metT := pin_metT
  entA := pin_entA
  entT := pin_entT
  stays := fun h hs => h.stays hs
  lt := fun h => h.lt
  base := fun h k hk => by rw [h.foot] at hk; subst hk; exact h.base
  self := fun h => by rw [h.foot]
  fits := fun _ hx => (nextP_fits hx).1
  act := fun h => pact_any _ h.own h.fits.1
  takes := fun h hs hg => pin_takes h hs hg
theorem PinM_take (v : PinD) (w : Int) (t : ByteArray) : PinM.take v w t = takeP v w t := rfl
theorem PinM_next (v : PinD) : PinM.next v = nextP v := rfl

end Go.Proofs.YtpnfbabiibopnaaGreat
