/-
  The two rows of a copy while they grow: a row of the copy's own, or none yet, cut off from the old one.
-/
import Derived.Test.YtkjkedaifdgjoaaAwake6
import Derived.OwnWalkIn
namespace Go.Proofs.Ytkjkedaifdgjoaa
open Go Go.RowKit

/-- v has the texts xs in block r of its own, or it has none, and no block. -/
def RowR (W : World) (v : Value) (xs : List ByteArray) (r : Option Nat) : Prop :=
  (W.ownsRow 0 9 1 v xs.length (xs.map Value.string) ∧ r = v.ownBlock) ∨ (xs = [] ∧ (∃ a, v = .slice a 0 0) ∧ r = none)

section
variable {W W' : World} {v : Value} {xs : List ByteArray} {r : Option Nat}
theorem RowR.lt (h : RowR W v xs r) : ∀ k, r = some k → k < W.heap.size := by
  rcases h with ⟨h, rfl⟩ | ⟨_, _, rfl⟩
  · exact fun k hk => (h.lt k hk).2
  · intro k hk; cases hk
theorem RowR.stays (h : RowR W v xs r) (hb : ∀ k, r = some k → W'.heap[k]? = W.heap[k]?) : RowR W' v xs r := by
  rcases h with ⟨h, rfl⟩ | h
  · left
    refine ⟨⟨h.1, ?_⟩, rfl⟩
    rcases h.2 with hn | ⟨g, cap, cur, rfl, hbg, hg, rest⟩
    · exact .inl hn
    · exact .inr ⟨g, cap, cur, rfl, hbg, (hb g rfl).trans hg, rest⟩
  · exact .inr h
theorem RowR.ne (h : RowR W v xs r) {k : Nat} {c : Array Value} {t : TypeId} (hk : W.heap[k]? = some (.cells c t (0, 0))) (ht : t ≠ 9) : r ≠ some k := by
  rcases h with ⟨h, rfl⟩ | ⟨_, _, rfl⟩
  · intro e
    rcases h.2 with ⟨rfl, _⟩ | ⟨g, cap, cur, rfl, _, hg, _⟩
    · cases e
    · obtain rfl : g = k := by simpa [Value.ownBlock] using e
      rw [hk] at hg; cases hg; exact ht rfl
  · intro e; cases e
theorem RowR.form (h : RowR W v xs r) : ∃ a c, v = .slice a xs.length c := by
  rcases h with ⟨h, _⟩ | ⟨rfl, ⟨a, rfl⟩, _⟩
  · rcases h.2 with ⟨rfl, h0⟩ | ⟨g, cap, cur, rfl, _⟩
    · exact ⟨none, 0, by rw [h0]⟩
    · exact ⟨_, _, rfl⟩
  · exact ⟨a, 0, rfl⟩
end

/-- One text appended. -/
theorem append_rowR (ty : TypeId) (W : World) (v : Value) (xs : List ByteArray) (r : Option Nat) (x : ByteArray) (vb : Nat) (h : RowR W v xs r) (hn : xs.length ≤ 9000) (hx : W.heap[vb]? = some (.cells #[.string x] 9 (0, 0))) :
    ∃ g cap W', (Builtin.append_ #[26, 26] ty #[v, .slice (some ⟨vb, 0, none⟩) 1 1]).run Try.prog W = .ok (.slice (some ⟨g, 0, none⟩) (xs.length + 1) cap) W' ∧
      W'.ownsRow 0 9 1 (.slice (some ⟨g, 0, none⟩) (xs.length + 1) cap) (xs.length + 1) ((xs ++ [x]).map Value.string) ∧ W.grownBy W' r ∧ (r = some g ∨ W.heap.size ≤ g) := by
  obtain ⟨i0, hi, hz0, hz1, hz2⟩ := info_parts info_string
  have hnews : ∀ j u, [Value.string x][j]? = some u → W.cell? ((⟨vb, 0, none⟩ : Addr).add j) = some u := by
    intro j u hu
    have : j = 0 := by have := (List.getElem?_eq_some_iff.1 hu).1; simpa using this
    subst this
    rw [Addr.add_lit]
    simp [World.cell?, hx]; simpa using hu
  have h1v : ∀ u ∈ [Value.string x], u.oneCell' = true := by intro u hu; rw [List.mem_singleton.1 hu]; rfl
  rcases h with ⟨h, rfl⟩ | ⟨rfl, ⟨a, rfl⟩, rfl⟩
  · obtain ⟨v', W', hr, hown, hgrow, _, hat⟩ := run_append_own_at (P := Try.prog) W 0 26 ty 9 i0 (.string ⟨#[]⟩) 1 16 Try.underlying26 hi hz0 hz1 hz2 rfl (by decide) v xs.length (xs.map Value.string) h ⟨vb, 0, none⟩ 1 1 [.string x] rfl hnews h1v (by simp only [maxLen]; omega) (by omega) (Nat.zero_le _)
    obtain ⟨g, cap, rfl⟩ := ownsRow_succ hown
    refine ⟨g, cap, W', hr, by simpa using hown, hgrow, ?_⟩
    rcases hat with e | e
    · exact .inl e.symm
    · right; have : g = W.heap.size := by simpa [Value.ownBlock] using e
      omega
  · have hold : (Builtin.firstCells i0.size 0 (.slice a 0 0)).run Try.prog W.drew = .ok ([] : List Value).toArray W.drew := by
      rw [hz1]
      cases a with
      | none => exact run_firstCells_none W.drew 1 0 0 0
      | some a => exact run_firstCells_some W.drew 1 0 a 0 0 [] (by simp) (fun j u hj => by simp at hj)
    have hsrc : Src Try.prog i0.size 26 (.slice (some ⟨vb, 0, none⟩) 1 1) 1 [.string x] W := by
      rw [hz1]
      exact Src.ofSlice W Try.underlying26 ⟨vb, 0, none⟩ 1 1 [.string x] (by simp) hnews h1v
    have hr := run_append_grow_src (P := Try.prog) W 26 26 ty 9 i0 _ Try.underlying26 hi hz0 a 0 0 [] hold _ 1 [.string x] hsrc (by omega) (by omega) (by rw [hz2]; exact growslice_fits (by omega) (by omega))
    have hgc : 0 + 1 ≤ grownCap W (0 + 1) 0 9 := grownCap_ge _ _ _ _
    have hgm : grownCap W (0 + 1) 0 9 ≤ maxLen := grownCap_le_maxLen _ _ _ _ (by decide)
    obtain ⟨G, hG⟩ : ∃ G, grownCap W (0 + 1) 0 9 = G := ⟨_, rfl⟩
    rw [hG] at hgc hgm hr
    refine ⟨W.heap.size, G, _, hr, ?_, ⟨rfl, rfl, rfl, by simp, fun k hk _ => heap_alloc_old W.drew _ k hk⟩, .inr (Nat.le_refl _)⟩
    refine ownsRow_cells (Nat.zero_le _) (heap_alloc_new W.drew _) ?_ hgc hgm rfl (fun j hj => ?_)
    · simp [size_zeroCells, Value.cells]; omega
    · have : j = 0 := by simp at hj; omega
      subst this
      rw [World.cell?_alloc_at (w := W.drew) _ _ W.heap.size 0 rfl, Array.getElem?_append_left (by simp)]; simp

/-- What is known in the midst of a copy. -/
structure CMid (W0 W : World) (bx pc : Nat) (kv vv : Value) (ks vs : List ByteArray) (rk rv : Option Nat) (f : Nat → Prop) : Prop where
  box : W.heap[bx]? = some (.cells #[.pointer (some ⟨pc, 0, none⟩)] 24 (0, 0))
  own : W.heap[pc]? = some (.cells #[kv, vv] 28 (0, 0))
  krow : RowR W kv ks rk
  vrow : RowR W vv vs rv
  apart : rk = none ∨ rk ≠ rv
  step : Step f (fun k => k = bx ∨ k = pc ∨ rk = some k ∨ rv = some k) W0 W

section
variable {W0 W W' : World} {bx pc : Nat} {kv vv : Value} {ks vs : List ByteArray} {rk rv : Option Nat} {f : Nat → Prop}
theorem CMid.ne (m : CMid W0 W bx pc kv vv ks vs rk rv f) : bx ≠ pc := fun e => by
  have := m.box; rw [e, m.own] at this; cases this
theorem CMid.cb (m : CMid W0 W bx pc kv vv ks vs rk rv f) : W.cell? ⟨bx, 0, none⟩ = some (.pointer (some ⟨pc, 0, none⟩)) := (cell_of_row W bx 0 _ _ _ m.box).trans rfl
theorem CMid.c0 (m : CMid W0 W bx pc kv vv ks vs rk rv f) : W.cell? ⟨pc, 0, none⟩ = some kv := (cell_of_row W pc 0 _ _ _ m.own).trans rfl
theorem CMid.c1 (m : CMid W0 W bx pc kv vv ks vs rk rv f) : W.cell? ⟨pc, 1, none⟩ = some vv := (cell_of_row W pc 1 _ _ _ m.own).trans rfl
theorem CMid.f0 (m : CMid W0 W bx pc kv vv ks vs rk rv f) : W.frozen? ⟨pc, 0, none⟩ = false := by simp [World.frozen?, m.own]
theorem CMid.f1 (m : CMid W0 W bx pc kv vv ks vs rk rv f) : W.frozen? ⟨pc, 1, none⟩ = false := by simp [World.frozen?, m.own]
theorem CMid.below (m : CMid W0 W bx pc kv vv ks vs rk rv f) (hb : Below W.heap.size W W') : CMid W0 W' bx pc kv vv ks vs rk rv f :=
  ⟨(hb.block bx (Array.getElem?_eq_some_iff.1 m.box).1).trans m.box, (hb.block pc (Array.getElem?_eq_some_iff.1 m.own).1).trans m.own, m.krow.stays (fun k hk => hb.block k (m.krow.lt k hk)), m.vrow.stays (fun k hk => hb.block k (m.vrow.lt k hk)), m.apart,
    m.step.own hb.os hb.tape hb.output hb.size (fun k hk => hb.block k (Nat.lt_of_lt_of_le hk m.step.size))⟩
theorem CMid.drew (m : CMid W0 W bx pc kv vv ks vs rk rv f) : CMid W0 W.drew bx pc kv vv ks vs rk rv f := m.below ⟨rfl, rfl, rfl, Nat.le_refl _, fun _ _ => rfl⟩
theorem CMid.alloc (m : CMid W0 W bx pc kv vv ks vs rk rv f) (o : Obj) : CMid W0 (W.alloc o) bx pc kv vv ks vs rk rv f := m.below ((Below.refl _ W).alloc (Nat.le_refl _) o)

theorem CMid.turn {g : Nat} (m : CMid W0 W bx pc kv vv ks vs rk rv f) {r : Option Nat} (hr : r = rk ∨ r = rv) (hg : W.grownBy W' r) (hat : r = some g ∨ W.heap.size ≤ g) {u : Value} {o : Nat} {r1 r2 : Option Nat} (h1 : r1 = some g ∨ r1 = rk ∨ r1 = rv) (h2 : r2 = some g ∨ r2 = rk ∨ r2 = rv) :
    Step f (fun k => k = bx ∨ k = pc ∨ r1 = some k ∨ r2 = some k) W0 (W'.setCell ⟨pc, o, none⟩ u) := by
  refine ⟨hg.os.trans m.step.os, hg.tape.trans m.step.tape, hg.output.trans m.step.output, by simp [World.setCell]; exact Nat.le_trans m.step.size hg.size, fun k hk hn => ?_, fun k hk => ?_⟩
  · have hkp : k ≠ pc := fun e => by
      rcases m.step.foot pc (.inr (.inl rfl)) with h | h
      · exact hn (e ▸ h)
      · omega
    have hkk : some k ≠ r := fun e => by
      have hh : f k ∨ W0.heap.size ≤ k := by
        rcases hr with h | h
        · exact m.step.foot k (.inr (.inr (.inl (h.symm.trans e.symm))))
        · exact m.step.foot k (.inr (.inr (.inr (h.symm.trans e.symm))))
      rcases hh with h | h
      · exact hn h
      · omega
    exact (Below.heap_setCell _ _ _ k hkp).trans ((hg.block k (Nat.lt_of_lt_of_le hk m.step.size) hkk).trans (m.step.block k hk hn))
  · have atg : ∀ {q : Option Nat}, (q = some g ∨ q = rk ∨ q = rv) → q = some k → f k ∨ W0.heap.size ≤ k := by
      intro q hq hqk
      rcases hq with h | h | h
      · have hgk : g = k := by rw [h] at hqk; simpa using hqk
        subst hgk
        rcases hat with h' | h'
        · rcases hr with h3 | h3
          · exact m.step.foot _ (.inr (.inr (.inl (h3.symm.trans h'))))
          · exact m.step.foot _ (.inr (.inr (.inr (h3.symm.trans h'))))
        · exact .inr (Nat.le_trans m.step.size h')
      · exact m.step.foot _ (.inr (.inr (.inl (h.symm.trans hqk))))
      · exact m.step.foot _ (.inr (.inr (.inr (h.symm.trans hqk))))
    rcases hk with rfl | rfl | hk | hk
    · exact m.step.foot _ (.inl rfl)
    · exact m.step.foot _ (.inr (.inl rfl))
    · exact atg h1 hk
    · exact atg h2 hk

theorem CMid.key {g cap n' : Nat} {ks' : List ByteArray} (m : CMid W0 W bx pc kv vv ks vs rk rv f) (hg : W.grownBy W' rk) (hn' : n' = ks'.length) (hr : W'.ownsRow 0 9 1 (.slice (some ⟨g, 0, none⟩) n' cap) n' (ks'.map Value.string))
    (hat : rk = some g ∨ W.heap.size ≤ g) : CMid W0 (W'.setCell ⟨pc, 0, none⟩ (.slice (some ⟨g, 0, none⟩) n' cap)) bx pc (.slice (some ⟨g, 0, none⟩) n' cap) vv ks' vs (some g) rv f ∧
      W'.cell? ⟨bx, 0, none⟩ = some (.pointer (some ⟨pc, 0, none⟩)) ∧ W'.cell? ⟨pc, 0, none⟩ = some kv ∧ W'.cell? ⟨pc, 1, none⟩ = some vv ∧ W'.frozen? ⟨pc, 0, none⟩ = false := by
  subst hn'
  have hp' : W'.heap[pc]? = some (.cells #[kv, vv] 28 (0, 0)) := (hg.block pc (Array.getElem?_eq_some_iff.1 m.own).1 (fun e => m.krow.ne m.own (by decide) e.symm)).trans m.own
  have hb' : W'.heap[bx]? = some (.cells #[.pointer (some ⟨pc, 0, none⟩)] 24 (0, 0)) := (hg.block bx (Array.getElem?_eq_some_iff.1 m.box).1 (fun e => m.krow.ne m.box (by decide) e.symm)).trans m.box
  have hvg : rv ≠ some g := by
    rcases hat with h | h
    · rcases m.apart with h0 | h0
      · rw [h0] at h; cases h
      · intro e; exact h0 (h.trans e.symm)
    · intro e; have := m.vrow.lt g e; omega
  have hvr : RowR W' vv vs rv := m.vrow.stays (fun k hk => hg.block k (m.vrow.lt k hk) (fun e => by
    rcases m.apart with h0 | h0
    · rw [h0] at e; cases e
    · exact h0 (e.symm.trans hk.symm)))
  have hnew : RowR W' (.slice (some ⟨g, 0, none⟩) ks'.length cap) ks' (some g) := .inl ⟨hr, rfl⟩
  refine ⟨⟨(Below.heap_setCell _ _ _ bx m.ne).trans hb', heap_setCell_0 hp', hnew.stays (fun k hk => Below.heap_setCell _ _ _ k (fun e => hnew.ne hp' (by decide) (by rw [hk, e]))), hvr.stays (fun k hk => Below.heap_setCell _ _ _ k (fun e => hvr.ne hp' (by decide) (by rw [hk, e]))), .inr (Ne.symm hvg),
    m.turn (.inl rfl) hg hat (.inl rfl) (.inr (.inr rfl))⟩, ?_, ?_, ?_, ?_⟩
  · exact (cell_of_row W' bx 0 _ _ _ hb').trans rfl
  · exact (cell_of_row W' pc 0 _ _ _ hp').trans rfl
  · exact (cell_of_row W' pc 1 _ _ _ hp').trans rfl
  · simp [World.frozen?, hp']

theorem CMid.val {g cap n' : Nat} {vs' : List ByteArray} (m : CMid W0 W bx pc kv vv ks vs rk rv f) (hg : W.grownBy W' rv) (hn' : n' = vs'.length) (hr : W'.ownsRow 0 9 1 (.slice (some ⟨g, 0, none⟩) n' cap) n' (vs'.map Value.string))
    (hat : rv = some g ∨ W.heap.size ≤ g) : CMid W0 (W'.setCell ⟨pc, 1, none⟩ (.slice (some ⟨g, 0, none⟩) n' cap)) bx pc kv (.slice (some ⟨g, 0, none⟩) n' cap) ks vs' rk (some g) f ∧
      W'.cell? ⟨bx, 0, none⟩ = some (.pointer (some ⟨pc, 0, none⟩)) ∧ W'.cell? ⟨pc, 0, none⟩ = some kv ∧ W'.cell? ⟨pc, 1, none⟩ = some vv ∧ W'.frozen? ⟨pc, 1, none⟩ = false := by
  subst hn'
  have hp' : W'.heap[pc]? = some (.cells #[kv, vv] 28 (0, 0)) := (hg.block pc (Array.getElem?_eq_some_iff.1 m.own).1 (fun e => m.vrow.ne m.own (by decide) e.symm)).trans m.own
  have hb' : W'.heap[bx]? = some (.cells #[.pointer (some ⟨pc, 0, none⟩)] 24 (0, 0)) := (hg.block bx (Array.getElem?_eq_some_iff.1 m.box).1 (fun e => m.vrow.ne m.box (by decide) e.symm)).trans m.box
  have hkg : rk ≠ some g := by
    rcases hat with h | h
    · rcases m.apart with h0 | h0
      · rw [h0]; exact fun e => by cases e
      · intro e; exact h0 (e.trans h.symm)
    · intro e; have := m.krow.lt g e; omega
  have hkr : RowR W' kv ks rk := m.krow.stays (fun k hk => hg.block k (m.krow.lt k hk) (fun e => by
    rcases m.apart with h0 | h0
    · rw [h0] at hk; cases hk
    · exact h0 (hk.trans e)))
  have hnew : RowR W' (.slice (some ⟨g, 0, none⟩) vs'.length cap) vs' (some g) := .inl ⟨hr, rfl⟩
  refine ⟨⟨(Below.heap_setCell _ _ _ bx m.ne).trans hb', heap_setCell_1 hp', hkr.stays (fun k hk => Below.heap_setCell _ _ _ k (fun e => hkr.ne hp' (by decide) (by rw [hk, e]))), hnew.stays (fun k hk => Below.heap_setCell _ _ _ k (fun e => hnew.ne hp' (by decide) (by rw [hk, e]))), .inr hkg,
    m.turn (.inr rfl) hg hat (.inr (.inl rfl)) (.inl rfl)⟩, ?_, ?_, ?_, ?_⟩
  · exact (cell_of_row W' bx 0 _ _ _ hb').trans rfl
  · exact (cell_of_row W' pc 0 _ _ _ hp').trans rfl
  · exact (cell_of_row W' pc 1 _ _ _ hp').trans rfl
  · simp [World.frozen?, hp']
end

/-- What the copy's loop owns between two rounds. -/
def CopyI (bx pc : Nat) (kv0 vv0 : Value) (pre : Pairs) (f1 : Nat → Prop) (W : World) : Prop :=
  ∃ kv vv rk rv, CMid W W bx pc kv vv (keysOf pre) (valsOf pre) rk rv f1 ∧ (pre = [] → kv = kv0 ∧ vv = vv0) ∧ f1 = fun k => k = bx ∨ k = pc ∨ rk = some k ∨ rv = some k

theorem CopyI.stable (bx pc : Nat) (kv0 vv0 : Value) : Stable (CopyI bx pc kv0 vv0) := by
  rintro s f1 X Y ⟨kv, vv, rk, rv, m, h0, rfl⟩ hsz hbl
  exact ⟨kv, vv, rk, rv, ⟨(hbl bx (.inl rfl)).trans m.box, (hbl pc (.inr (.inl rfl))).trans m.own, m.krow.stays (fun k hk => hbl k (.inr (.inr (.inl hk)))), m.vrow.stays (fun k hk => hbl k (.inr (.inr (.inr hk)))), m.apart, Step.refl _ _⟩, h0, rfl⟩
theorem CopyI.bound (bx pc : Nat) (kv0 vv0 : Value) : Bound (CopyI bx pc kv0 vv0) := by
  rintro s f1 X ⟨kv, vv, rk, rv, m, h0, rfl⟩ k hk
  rcases hk with rfl | rfl | hk | hk
  · exact (Array.getElem?_eq_some_iff.1 m.box).1
  · exact (Array.getElem?_eq_some_iff.1 m.own).1
  · exact m.krow.lt k hk
  · exact m.vrow.lt k hk

/-- Behind the two appends of a round. -/
theorem CopyI.next {W0 W : World} {bx pc : Nat} {kv0 vv0 kv vv : Value} {rk rv : Option Nat} {pre : Pairs} {a b : ByteArray} {f : Nat → Prop} (m : CMid W0 W bx pc kv vv (keysOf pre ++ [a]) (valsOf pre ++ [b]) rk rv f) :
    ∃ f', Step f f' W0 W ∧ CopyI bx pc kv0 vv0 (pre ++ [(a, b)]) f' W := by
  refine ⟨_, m.step, kv, vv, rk, rv, ⟨m.box, m.own, by simpa [keysOf] using m.krow, by simpa [valsOf] using m.vrow, m.apart, Step.refl _ _⟩, fun h => by simp at h, rfl⟩

/-- At the end: a table. -/
theorem CopyI.tab {W : World} {bx pc : Nat} {kv0 vv0 : Value} {D : Pairs} {f1 : Nat → Prop} (h : CopyI bx pc kv0 vv0 D f1 W) (h0 : D = [] → kv0 = .slice none 0 0 ∧ vv0 = .slice none 0 0) : ∃ f', Tab W pc D f' ∧ ∀ k, f' k → f1 k := by
  obtain ⟨kv, vv, rk, rv, m, he, rfl⟩ := h
  have own : ∀ {v : Value} {xs : List ByteArray} {r : Option Nat}, RowR W v xs r → xs.length = D.length → (D = [] → v = .slice none 0 0) → W.ownsRow 0 9 1 v D.length (xs.map Value.string) ∧ (∀ k, v.ownBlock = some k → r = some k) ∧ (r = v.ownBlock) := by
    intro v xs r hr hl hnil
    rcases hr with ⟨h, rfl⟩ | ⟨rfl, ⟨a, rfl⟩, rfl⟩
    · rw [← hl]; exact ⟨h, fun k hk => hk, rfl⟩
    · have hD : D = [] := List.eq_nil_of_length_eq_zero (by rw [← hl]; rfl)
      have e := hnil hD
      rw [e, ← hl]
      refine ⟨World.ownsRow_nil _ _ _ _, ?_, rfl⟩
      intro k hk; cases hk
  obtain ⟨k1, k2, k3⟩ := own m.krow (by simp [keysOf]) (fun hD => ((he hD).1).trans (h0 hD).1)
  obtain ⟨v1, v2, v3⟩ := own m.vrow (by simp [valsOf]) (fun hD => ((he hD).2).trans (h0 hD).2)
  refine ⟨_, ⟨kv, vv, m.own, k1, v1, ?_, rfl⟩, fun k hk => ?_⟩
  · rw [← k3, ← v3]; exact m.apart
  · rcases hk with rfl | hk | hk
    · exact .inr (.inl rfl)
    · exact .inr (.inr (.inl (k2 k hk)))
    · exact .inr (.inr (.inr (v2 k hk)))

end Go.Proofs.Ytkjkedaifdgjoaa
