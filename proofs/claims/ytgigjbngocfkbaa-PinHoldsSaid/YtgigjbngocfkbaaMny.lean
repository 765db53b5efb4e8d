/-
  Many routines of one kind beside one heap, each in a block of its own, in a row of pointers: one of them does its next act; one more is made.
-/
import Derived.Test.YtgigjbngocfkbaaRnd
import Derived.Test.YtgigjbngocfkbaaLot
import Derived.Maps.AppendAt
import Derived.Maps.OwnIn
namespace Go.Proofs.Ytgigjbngocfkbaa
open Go Go.RowKit

/-- A kind of routine that lies in one block. -/
structure One {σ : Type} (M : Mach σ) where
  obj : σ → Obj
  fit : σ → Prop
  into : ∀ {W : World} {B r : Nat} {s : σ} {f : Nat → Prop}, M.At W B r s f → W.heap[r]? = some (obj s) ∧ fit s ∧ B ≤ r ∧ f = fun j => j = r
  back : ∀ {W : World} {B r : Nat} {s : σ}, W.heap[r]? = some (obj s) → fit s → B ≤ r → M.At W B r s (fun j => j = r)
def upS {σ : Type} (S : Nat → σ) (k : Nat) (v : σ) : Nat → σ := fun j => if j = k then v else S j
theorem upS_self {σ : Type} (S : Nat → σ) (k : Nat) (v : σ) : upS S k v k = v := if_pos rfl
theorem upS_other {σ : Type} {S : Nat → σ} {k j : Nat} {v : σ} (h : j ≠ k) : upS S k v j = S j := if_neg h
section
variable {σ : Type} {M : Mach σ}
def rowR (O : One M) (rs : Nat → Nat) (S : Nat → σ) (N : Nat) : List (Nat × Obj) := (List.range N).map fun j => (rs j, O.obj (S j))
def rowP (rs : Nat → Nat) (N : Nat) : List Value := (List.range N).map fun j => Value.pointer (some ⟨rs j, 0, none⟩)
theorem rowR_mem {O : One M} {rs : Nat → Nat} {S : Nat → σ} {N : Nat} {u : Nat × Obj} : u ∈ rowR O rs S N ↔ ∃ j, j < N ∧ u = (rs j, O.obj (S j)) := by
  unfold rowR
  rw [List.mem_map]
  constructor
  · rintro ⟨j, hj, rfl⟩
    exact ⟨j, List.mem_range.1 hj, rfl⟩
  · rintro ⟨j, hj, rfl⟩
    exact ⟨j, List.mem_range.2 hj, rfl⟩
theorem rowP_at {rs : Nat → Nat} {N j : Nat} (h : j < N) : (rowP rs N)[j]? = some (.pointer (some ⟨rs j, 0, none⟩)) := by
  unfold rowP
  rw [List.getElem?_map, List.getElem?_range h]
  rfl
theorem rowP_one (rs : Nat → Nat) (N r : Nat) : rowP rs N ++ [.pointer (some ⟨r, 0, none⟩)] = rowP (upS rs N r) (N + 1) := by
  unfold rowP
  rw [List.range_succ, List.map_append]
  congr 1
  · refine List.map_congr_left fun j hj => ?_
    rw [upS_other (by have := List.mem_range.1 hj; omega)]
  · show _ = [Value.pointer (some ⟨upS rs N r N, 0, none⟩)]
    rw [upS_self]
abbrev pslice (g n cap : Nat) : Value := .slice (some ⟨g, 0, none⟩) n cap
theorem Lot.same_at {X Y : World} {e : TypeId} {n g cap : Nat} {xs : List Value} {o : Obj} (h : Lot X e 1 (pslice g n cap) n xs) (h1 : X.heap[g]? = some o) (h2 : Y.heap[g]? = some o) : Lot Y e 1 (pslice g n cap) n xs := h.stays (fun j hj => by
  obtain rfl : g = j := by simpa [Value.ownBlock] using hj
  rw [h1, h2])
theorem Lot.its_block {X : World} {e : TypeId} {n g cap : Nat} {xs : List Value} (h : Lot X e 1 (pslice g n cap) n xs) : ∃ o, X.heap[g]? = some o := by
  rcases h.2 with ⟨h0, _⟩ | ⟨g', cap', cur, e, hg, _⟩
  · cases h0
  · cases e; exact ⟨_, hg⟩

/-- The config's box, a heap, a row of pointers, the routines, and other boxes. -/
structure MnyI (O : One M) (W : World) (a p s q v x : Int) (B hp : Nat) (D : HpD) (N : Nat) (rs : Nat → Nat) (S : Nat → σ) (g cap : Nat) (ex : List (Nat × Obj)) (X : World) : Prop where
  rnd : ∃ o, Rnd W a p s q v x B hp D ((g, o) :: (ex ++ rowR O rs S N)) X
  lot : Lot X M.tid 1 (pslice g N cap) N (rowP rs N)
  inj : ∀ i j, i < N → j < N → rs i = rs j → i = j
  ne : ∀ j, j < N → rs j ≠ g
  nx : ∀ u ∈ ex, (∀ j, j < N → rs j ≠ u.1) ∧ u.1 ≠ g
  base : ∀ j, j < N → B ≤ rs j
  fit : ∀ j, j < N → O.fit (S j)
variable {O : One M} {W X Y : World} {a p s q v x : Int} {B hp : Nat} {D D' : HpD} {N : Nat} {rs : Nat → Nat} {S : Nat → σ} {g cap : Nat} {ex ex' : List (Nat × Obj)}
theorem MnyI.move (h : MnyI O W a p s q v x B hp D N rs S g cap ex X) {o : Obj} (hR : Rnd W a p s q v x B hp D ((g, o) :: (ex ++ rowR O rs S N)) X) (hR' : Rnd W a p s q v x B hp D' ((g, o) :: (ex ++ rowR O rs S N)) Y) : MnyI O W a p s q v x B hp D' N rs S g cap ex Y :=
  ⟨⟨o, hR'⟩, h.lot.same_at (hR.kept (List.mem_cons_self ..)) (hR'.kept (List.mem_cons_self ..)), h.inj, h.ne, h.nx, h.base, h.fit⟩
theorem MnyI.below (h : MnyI O W a p s q v x B hp D N rs S g cap ex X) (hb : Below X.heap.size X Y) : MnyI O W a p s q v x B hp D N rs S g cap ex Y := by
  obtain ⟨o, hR⟩ := h.rnd
  exact h.move hR (hR.below hb)
theorem MnyI.lo (h : MnyI O W a p s q v x B hp D N rs S g cap ex X) : Below W.heap.size W X := by obtain ⟨_, hR⟩ := h.rnd; exact hR.lo
theorem MnyI.six (h : MnyI O W a p s q v x B hp D N rs S g cap ex X) : SixC W.heap.size a p s q v x X := by obtain ⟨_, hR⟩ := h.rnd; exact hR.six
theorem MnyI.kept (h : MnyI O W a p s q v x B hp D N rs S g cap ex X) {k : Nat} {o : Obj} (hm : (k, o) ∈ ex) : X.heap[k]? = some o := by
  obtain ⟨_, hR⟩ := h.rnd
  exact hR.kept (List.mem_cons_of_mem _ (List.mem_append.2 (.inl hm)))
theorem MnyI.own (h : MnyI O W a p s q v x B hp D N rs S g cap ex X) {j : Nat} (hj : j < N) : X.heap[rs j]? = some (O.obj (S j)) := by
  obtain ⟨_, hR⟩ := h.rnd
  exact hR.kept (List.mem_cons_of_mem _ (List.mem_append.2 (.inr (rowR_mem.2 ⟨j, hj, rfl⟩))))
theorem MnyI.cell (h : MnyI O W a p s q v x B hp D N rs S g cap ex X) {j : Nat} (hj : j < N) : X.cell? ⟨g, j, none⟩ = some (.pointer (some ⟨rs j, 0, none⟩)) := by
  obtain ⟨g', c', e, hc⟩ := h.lot.cells (by omega)
  have e' : g' = g := by cases e; rfl
  subst e'
  exact hc j _ (rowP_at hj)
theorem MnyI.few (h : MnyI O W a p s q v x B hp D N rs S g cap ex X) (hs : ∀ u ∈ ex', u ∈ ex) : MnyI O W a p s q v x B hp D N rs S g cap ex' X := by
  obtain ⟨o, hR⟩ := h.rnd
  refine ⟨⟨o, hR.few (fun u hu => ?_)⟩, h.lot, h.inj, h.ne, fun u hu => h.nx u (hs u hu), h.base, h.fit⟩
  rcases List.mem_cons.1 hu with rfl | hu
  · exact List.mem_cons_self ..
  · rcases List.mem_append.1 hu with hu | hu
    · exact List.mem_cons_of_mem _ (List.mem_append.2 (.inl (hs u hu)))
    · exact List.mem_cons_of_mem _ (List.mem_append.2 (.inr hu))
theorem MnyI.add (h : MnyI O W a p s q v x B hp D N rs S g cap ex X) (o : Obj) : MnyI O W a p s q v x B hp D N rs S g cap ((X.heap.size, o) :: ex) (X.alloc o) := by
  obtain ⟨og, hR⟩ := h.rnd
  have hg := heap_at_lt (hR.kept (List.mem_cons_self ..))
  refine ⟨⟨og, (hR.add o).few (fun u hu => ?_)⟩, h.lot.below (below_alloc _ _), h.inj, h.ne, fun u hu => ?_, h.base, h.fit⟩
  · rcases List.mem_cons.1 hu with rfl | hu
    · exact List.mem_cons_of_mem _ (List.mem_cons_self ..)
    · rcases List.mem_append.1 hu with hu | hu
      · rcases List.mem_cons.1 hu with rfl | hu
        · exact List.mem_cons_self ..
        · exact List.mem_cons_of_mem _ (List.mem_cons_of_mem _ (List.mem_append.2 (.inl hu)))
      · exact List.mem_cons_of_mem _ (List.mem_cons_of_mem _ (List.mem_append.2 (.inr hu)))
  · rcases List.mem_cons.1 hu with rfl | hu
    · exact ⟨fun j hj => by have := heap_at_lt (h.own hj); show rs j ≠ X.heap.size; omega, by show X.heap.size ≠ g; omega⟩
    · exact h.nx u hu

/-! ### one of them does its next act -/
theorem MnyI.into (h : MnyI O W a p s q v x B hp D N rs S g cap ex X) {k : Nat} (hk : k < N) {n : Nat} (hF : FewD D n) :
    ∃ o f, PlM M X B hp (rs k) ⟨D, S k⟩ n f ∧ (∀ u ∈ (g, o) :: ex, X.heap[u.1]? = some u.2 ∧ W.heap.size < u.1 ∧ ¬ f u.1) ∧ ∀ j, j < N → j ≠ k → X.heap[rs j]? = some (O.obj (S j)) ∧ W.heap.size < rs j ∧ ¬ f (rs j) := by
  obtain ⟨o, hR⟩ := h.rnd
  obtain ⟨f, h1, h2⟩ := hR.hh
  have hm : ∀ j, j < N → (rs j, O.obj (S j)) ∈ (g, o) :: (ex ++ rowR O rs S N) := fun j hj => List.mem_cons_of_mem _ (List.mem_append.2 (.inr (rowR_mem.2 ⟨j, hj, rfl⟩)))
  obtain ⟨k1, k2, k3⟩ := h2 _ (hm k hk)
  refine ⟨o, fun j => f j ∨ j = rs k, ⟨f, fun j => j = rs k, h1, O.back k1 (h.fit k hk) (h.base k hk), fun j hj e => k3 (by rw [← e]; exact hj), rfl, hF⟩, fun u hu => ?_, fun j hj hjk => ?_⟩
  · have hu' : u ∈ (g, o) :: (ex ++ rowR O rs S N) := by
      rcases List.mem_cons.1 hu with rfl | hu
      · exact List.mem_cons_self ..
      · exact List.mem_cons_of_mem _ (List.mem_append.2 (.inl hu))
    obtain ⟨u1, u2, u3⟩ := h2 u hu'
    refine ⟨u1, u2, fun hf => hf.elim u3 (fun e => ?_)⟩
    rcases List.mem_cons.1 hu with rfl | hu
    · exact h.ne k hk e.symm
    · exact (h.nx u hu).1 k hk e.symm
  · obtain ⟨u1, u2, u3⟩ := h2 _ (hm j hj)
    exact ⟨u1, u2, fun hf => hf.elim u3 (fun e => hjk (h.inj j k hj hk e))⟩
theorem MnyI.back (h : MnyI O W a p s q v x B hp D N rs S g cap ex X) {k : Nat} (hk : k < N) {o : Obj} {f f' : Nat → Prop} {n : Nat} {v' : σ} (hg : X.heap[g]? = some o)
    (h1 : PlM M Y B hp (rs k) ⟨D', v'⟩ n f') (st : Step f f' X Y) (hB : ∀ j, j < B → ¬ f j) (h2 : ∀ u ∈ (g, o) :: ex, X.heap[u.1]? = some u.2 ∧ W.heap.size < u.1 ∧ ¬ f u.1) (h3 : ∀ j, j < N → j ≠ k → X.heap[rs j]? = some (O.obj (S j)) ∧ W.heap.size < rs j ∧ ¬ f (rs j)) :
    MnyI O W a p s q v x B hp D' N rs (upS S k v') g cap ex Y := by
  obtain ⟨_, hR⟩ := h.rnd
  obtain ⟨fh, fr, p1, p2, p3, rfl, p4⟩ := h1
  obtain ⟨q1, q2, q3, rfl⟩ := O.into p2
  have hBk := h.base k hk
  have hwB := hR.hB
  have stay : ∀ {i : Nat} {o' : Obj}, X.heap[i]? = some o' → ¬ f i → Y.heap[i]? = some o' ∧ ¬ fh i := fun {i o'} ha hb =>
    have hlt := heap_at_lt ha
    ⟨(st.block _ hlt hb).trans ha, fun hf => (st.foot _ (.inl hf)).elim hb (fun hge => by omega)⟩
  refine ⟨⟨o, ⟨(st.block _ (heap_at_lt hR.cf) (hB _ hwB)).trans hR.cf, hR.lo.trans (st.below hR.lo.size (fun j hj => hB j (Nat.lt_trans hj hwB))), hwB, fh, p1, fun u hu => ?_⟩⟩, ?_, h.inj, h.ne, h.nx, h.base, fun j hj => ?_⟩
  · rcases List.mem_cons.1 hu with rfl | hu
    · obtain ⟨u1, u2, u3⟩ := h2 _ (List.mem_cons_self ..)
      exact ⟨(stay u1 u3).1, u2, (stay u1 u3).2⟩
    · rcases List.mem_append.1 hu with hu | hu
      · obtain ⟨u1, u2, u3⟩ := h2 u (List.mem_cons_of_mem _ hu)
        exact ⟨(stay u1 u3).1, u2, (stay u1 u3).2⟩
      · obtain ⟨j, hj, rfl⟩ := rowR_mem.1 hu
        by_cases e : j = k
        · subst e
          rw [upS_self]
          exact ⟨q1, by show W.heap.size < rs j; omega, fun hf => p3 _ hf rfl⟩
        · rw [upS_other e]
          obtain ⟨u1, u2, u3⟩ := h3 j hj e
          exact ⟨(stay u1 u3).1, u2, (stay u1 u3).2⟩
  · exact h.lot.same_at hg (stay hg (h2 _ (List.mem_cons_self ..)).2.2).1
  · by_cases e : j = k
    · subst e; rw [upS_self]; exact q2
    · rw [upS_other e]; exact h.fit j hj
theorem mny_go (h : MnyI O W a p s q v x B hp D N rs S g cap ex X) {k : Nat} (hk : k < N) {n : Nat} (hF : FewD D (n + 1)) {y : ActD} (hx : M.next (S k) = some y) (hy : y.fits) (hr : readyA D y = true) :
    Calls Try.prog 17 #[.pointer (some ⟨hp, 0, none⟩), rowV M.tid (rs k)] X (fun e Y => ∃ sv, e = .returned (.tuple #[sv, .bool true]) ∧ MnyI O W a p s q v x B hp (doN D y) N rs (upS S k (M.take (S k) (doW D y) (doT D y))) g cap ex Y) := by
  obtain ⟨o, f, h1, h2, h3⟩ := h.into hk hF
  refine (mnext_go h1 hx hy hr).mono fun e Y he => ?_
  obtain ⟨f', rfl, h4, st⟩ := he
  exact ⟨_, rfl, h.back hk (h2 _ (List.mem_cons_self ..)).1 h4 st h1.base h2 h3⟩
theorem mny_stay (h : MnyI O W a p s q v x B hp D N rs S g cap ex X) {k : Nat} (hk : k < N) {n : Nat} (hF : FewD D n) (hx : M.next (S k) = none) :
    Calls Try.prog 17 #[.pointer (some ⟨hp, 0, none⟩), rowV M.tid (rs k)] X (fun e Y => ∃ sv, e = .returned (.tuple #[sv, .bool false]) ∧ MnyI O W a p s q v x B hp D N rs S g cap ex Y) := by
  obtain ⟨o, f, h1, h2, h3⟩ := h.into hk hF
  refine (mnext_done h1 hx).mono fun e Y he => ?_
  obtain ⟨f', rfl, h4, st⟩ := he
  have := h.back hk (h2 _ (List.mem_cons_self ..)).1 h4 st h1.base h2 h3
  have e : upS S k (S k) = S := by
    funext j
    by_cases e : j = k
    · subst e; exact upS_self _ _ _
    · exact upS_other e
  rw [e] at this
  exact ⟨_, rfl, this⟩

/-! ### one more -/
theorem MnyI.grow {r : Nat} {v' : σ} (h : MnyI O W a p s q v x B hp D N rs S g cap [(r, O.obj v')] X) (hr : B ≤ r) (hv : O.fit v') {g' c' : Nat} (hL : Lot Y M.tid 1 (pslice g' (N + 1) c') (N + 1) (rowP rs N ++ [.pointer (some ⟨r, 0, none⟩)])) (hg : X.grownBy Y (pslice g N cap).ownBlock) (hat : (pslice g N cap).ownBlock = some g' ∨ g' = X.heap.size) :
    MnyI O W a p s q v x B hp D (N + 1) (upS rs N r) (upS S N v') g' c' [] Y := by
  obtain ⟨o, hR⟩ := h.rnd
  have hat' : g = g' ∨ g' = X.heap.size := hat.imp (fun e => by simpa [Value.ownBlock] using e) id
  have hg' : X.grownBy Y (some g) := hg
  obtain ⟨o', ho⟩ := hL.its_block
  obtain ⟨f, h1, h2⟩ := hR.hh
  obtain ⟨k1, k2, k3⟩ := h2 _ (List.mem_cons_self ..)
  simp only at k1 k2 k3
  have hsz := heap_at_lt hR.cf
  have hrx := h.nx _ (List.mem_cons_self ..)
  simp only at hrx
  have hnew : W.heap.size < g' ∧ ¬ f g' := by
    rcases hat' with rfl | rfl
    · exact ⟨k2, k3⟩
    · exact ⟨hsz, fun hf => by have := h1.lt _ hf; omega⟩
  have stay : ∀ {u : Nat × Obj}, u ∈ [(r, O.obj v')] ++ rowR O rs S N → u.1 ≠ g → Y.heap[u.1]? = some u.2 ∧ W.heap.size < u.1 ∧ ¬ f u.1 ∧ u.1 ≠ g' := fun {u} hu hne => by
    obtain ⟨m1, m2, m3⟩ := h2 u (List.mem_cons_of_mem _ hu)
    refine ⟨(hg'.block _ (heap_at_lt m1) (fun e => hne (Option.some.inj e))).trans m1, m2, m3, fun e => ?_⟩
    rcases hat' with rfl | rfl
    · exact hne e
    · have := heap_at_lt m1; omega
  have hrow : ∀ j, j < N → (rs j, O.obj (S j)) ∈ [(r, O.obj v')] ++ rowR O rs S N := fun j hj => List.mem_append.2 (.inr (rowR_mem.2 ⟨j, hj, rfl⟩))
  have hrm : (r, O.obj v') ∈ [(r, O.obj v')] ++ rowR O rs S N := List.mem_append.2 (.inl (List.mem_cons_self ..))
  refine ⟨⟨o', ⟨(hg'.block _ hsz (fun e => by have := Option.some.inj e; omega)).trans hR.cf, hR.lo.grown hg' hR.lo.size (fun j hj => by cases hj; omega), hR.hB, f, h1.stays (fun j hj => hg'.block j (h1.lt j hj) (fun e => k3 (by rw [← Option.some.inj e]; exact hj))), fun u hu => ?_⟩⟩, by rw [← rowP_one]; exact hL, ?_, ?_, ?_, ?_, ?_⟩
  · rcases List.mem_cons.1 hu with rfl | hu
    · exact ⟨ho, hnew⟩
    · rcases List.mem_append.1 hu with hu | hu
      · cases hu
      · obtain ⟨j, hj, rfl⟩ := rowR_mem.1 hu
        by_cases e : j = N
        · subst e
          rw [upS_self, upS_self]
          have := stay hrm hrx.2
          exact ⟨this.1, this.2.1, this.2.2.1⟩
        · rw [upS_other e, upS_other e]
          have := stay (hrow j (by omega)) (h.ne j (by omega))
          exact ⟨this.1, this.2.1, this.2.2.1⟩
  · intro i j hi hj
    by_cases ei : i = N
    · subst ei
      by_cases ej : j = i
      · exact fun _ => ej.symm
      · rw [upS_self, upS_other ej]
        exact fun e => absurd e.symm (hrx.1 j (by omega))
    · by_cases ej : j = N
      · subst ej
        rw [upS_self, upS_other ei]
        exact fun e => absurd e (hrx.1 i (by omega))
      · rw [upS_other ei, upS_other ej]
        exact h.inj i j (by omega) (by omega)
  · intro j hj
    by_cases e : j = N
    · subst e; rw [upS_self]; exact (stay hrm hrx.2).2.2.2
    · rw [upS_other e]; exact (stay (hrow j (by omega)) (h.ne j (by omega))).2.2.2
  · intro u hu; cases hu
  · intro j hj
    by_cases e : j = N
    · subst e; rw [upS_self]; exact hr
    · rw [upS_other e]; exact h.base j (by omega)
  · intro j hj
    by_cases e : j = N
    · subst e; rw [upS_self]; exact hv
    · rw [upS_other e]; exact h.fit j (by omega)
theorem MnyI.start (h : Rnd W a p s q v x B hp D [] X) (O : One M) (rs : Nat → Nat) (S : Nat → σ) : MnyI O W a p s q v x B hp D 0 rs S X.heap.size 0 [] (X.alloc (.cells #[] M.tid (0, 0))) :=
  ⟨⟨_, (h.add (.cells #[] M.tid (0, 0))).few (fun u hu => by
    rcases List.mem_cons.1 hu with rfl | hu
    · exact List.mem_cons_self ..
    · cases hu)⟩, ⟨rfl, .inr ⟨X.heap.size, 0, #[], rfl, World.alloc_heap_new X _, Nat.le_refl _, Nat.zero_le _, Nat.zero_le _, rfl⟩⟩, fun i j hi => absurd hi (Nat.not_lt_zero _), fun j hj => absurd hj (Nat.not_lt_zero _), fun u hu => (by cases hu), fun j hj => absurd hj (Nat.not_lt_zero _), fun j hj => absurd hj (Nat.not_lt_zero _)⟩
end

end Go.Proofs.Ytgigjbngocfkbaa
