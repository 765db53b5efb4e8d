/-
  pending's rows as they lie in memory; New, Len, Room, Has.
-/
import Derived.Test.YtkfnndhoccjffaaKept2
namespace Go.Proofs.Ytkfnndhoccjffaa
open Go Go.RowKit
attribute [local go_sem ↓] Go.wp_at_zero Go.wp_at_succ

/-- From W to W' no block that lay has turned but those of f; what is owned then (f') was owned, or is new. -/
structure Step (f f' : Nat → Prop) (W W' : World) : Prop where
  os : W'.os = W.os
  tape : W'.tape = W.tape
  output : W'.output = W.output
  size : W.heap.size ≤ W'.heap.size
  block : ∀ k, k < W.heap.size → ¬ f k → W'.heap[k]? = W.heap[k]?
  foot : ∀ k, f' k → f k ∨ W.heap.size ≤ k
theorem Step.trans {f g h : Nat → Prop} {A B C : World} (p : Step f g A B) (q : Step g h B C) : Step f h A C :=
  ⟨q.os.trans p.os, q.tape.trans p.tape, q.output.trans p.output, Nat.le_trans p.size q.size,
    fun k hk hf => (q.block k (Nat.lt_of_lt_of_le hk p.size) (fun hg => (p.foot k hg).elim hf (fun h => absurd hk (Nat.not_lt.2 h)))).trans (p.block k hk hf),
    fun k hk => (q.foot k hk).elim (fun hg => p.foot k hg) (fun h => .inr (Nat.le_trans p.size h))⟩
theorem Step.of_below {f : Nat → Prop} {A B : World} (h : Below A.heap.size A B) : Step f f A B := ⟨h.os, h.tape, h.output, h.size, fun k hk _ => h.block k hk, fun _ h => .inl h⟩
theorem Step.below {f f' : Nat → Prop} {A B : World} (p : Step f f' A B) {n : Nat} (hn : n ≤ A.heap.size) (h : ∀ k, k < n → ¬ f k) : Below n A B :=
  ⟨p.os, p.tape, p.output, p.size, fun k hk => p.block k (by omega) (h k hk)⟩

def idsD (E : List ED) : List IdD := E.map (·.id)
/-- Without. -/
def withoutD (E : List ED) (L : List IdD) : List ED := E.filter (fun e => !decide (e.id ∈ L))

/-- At p lies a row that has room for most entries, and has those of E; its map has the names of N; n bounds how many names its map ever had; what it writes to are f's blocks; B: no block of its own stands ahead of it. -/
structure RowAt (W : World) (B p most n : Nat) (E : List ED) (N : List IdD) (f : Nat → Prop) (R : List EV) (ev : Value) (b : Nat) : Prop where
  own : W.heap[p]? = some (.cells #[.int .i64 most, ev, .map (some b)] 30 (0, 0))
  lot : Lot W 40 4 ev E.length (flatE R)
  each : Each (EntO W B) R E
  names : Named W b n N
  foot : f = fun k => k = p ∨ ev.ownBlock = some k ∨ k = b
  bp : B ≤ p
  be : ∀ k, ev.ownBlock = some k → B ≤ k
  bb : B ≤ b
  most32 : most ≤ 32
  len : E.length ≤ most
  fits : ∀ e ∈ E, e.fits
def Rowp (W : World) (B p most n : Nat) (E : List ED) (f : Nat → Prop) : Prop := ∃ R ev b, RowAt W B p most n E (idsD E) f R ev b

section
variable {W W' : World} {B p most n : Nat} {E : List ED} {N : List IdD} {f : Nat → Prop} {R : List EV} {ev : Value} {b : Nat}
theorem RowAt.plt (h : RowAt W B p most n E N f R ev b) : p < W.heap.size := (Array.getElem?_eq_some_iff.1 h.own).1
theorem RowAt.lt (h : RowAt W B p most n E N f R ev b) : ∀ k, f k → k < W.heap.size := by
  intro k hk
  rw [h.foot] at hk
  rcases hk with rfl | hk | rfl
  · exact h.plt
  · exact h.lot.lt k hk
  · exact h.names.lt
theorem RowAt.base (h : RowAt W B p most n E N f R ev b) : ∀ k, f k → B ≤ k := by
  intro k hk
  rw [h.foot] at hk
  rcases hk with rfl | hk | rfl
  · exact h.bp
  · exact h.be k hk
  · exact h.bb
/-- What the row writes to is no list of guards, and none of steps. -/
theorem RowAt.other (h : RowAt W B p most n E N f R ev b) : ∀ k, f k → Other W k := by
  intro k hk cs t hc
  rw [h.foot] at hk
  rcases hk with rfl | hk | rfl
  · rw [h.own] at hc; cases hc; exact ⟨by decide, by decide⟩
  · obtain ⟨cur, h1⟩ := h.lot.tag hk
    rw [h1] at hc; cases hc; exact ⟨by decide, by decide⟩
  · obtain ⟨es, c, h1⟩ := h.names.tag
    rw [h1] at hc; cases hc
theorem RowAt.self (h : RowAt W B p most n E N f R ev b) : f p := by rw [h.foot]; exact .inl rfl
theorem RowAt.below (h : RowAt W B p most n E N f R ev b) (hb : Below W.heap.size W W') : RowAt W' B p most n E N f R ev b :=
  ⟨(hb.block p h.plt).trans h.own, h.lot.below hb, h.each.imp (fun _ _ _ _ q => q.below hb), h.names.stays (hb.block b h.names.lt), h.foot, h.bp, h.be, h.bb, h.most32, h.len, h.fits⟩
/-- A row hangs on its own blocks, and on those of its entries' lists. -/
theorem RowAt.apart {g g' : Nat → Prop} (h : RowAt W B p most n E N f R ev b) (hs : Step g g' W W') (hfg : ∀ k, f k → ¬ g k) (hg : ∀ k, g k → Other W k) : RowAt W' B p most n E N f R ev b := by
  refine ⟨(hs.block p h.plt (hfg _ h.self)).trans h.own, h.lot.stays (fun k hk => hs.block k (h.lot.lt k hk) (hfg k (by rw [h.foot]; exact .inr (.inl hk)))), h.each.imp (fun v e _ _ q => ?_), h.names.stays (hs.block b h.names.lt (hfg b (by rw [h.foot]; exact .inr (.inr rfl)))), h.foot, h.bp, h.be, h.bb, h.most32, h.len, h.fits⟩
  refine ⟨q.id, q.g.stays (fun k hk => hs.block k (q.g.lt k hk) (fun hgk => ?_)), q.s.stays (fun k hk => hs.block k (q.s.lt k hk) (fun hgk => ?_)), q.ng, q.ns, q.bg, q.bs⟩
  · obtain ⟨cur, hc⟩ := q.g.tag hk
    exact (hg k hgk _ _ hc).1 rfl
  · obtain ⟨cur, hc⟩ := q.s.tag hk
    exact (hg k hgk _ _ hc).2 rfl
theorem RowAt.eb (h : RowAt W B p most n E N f R ev b) : ev.ownBlock ≠ some p ∧ ev.ownBlock ≠ some b ∧ b ≠ p := by
  refine ⟨fun e => ?_, fun e => ?_, fun e => ?_⟩
  · obtain ⟨cur, h1⟩ := h.lot.tag e; rw [h.own] at h1; cases h1
  · obtain ⟨cur, h1⟩ := h.lot.tag e; obtain ⟨es, c, h2⟩ := h.names.tag; rw [h2] at h1; cases h1
  · obtain ⟨es, c, h2⟩ := h.names.tag; rw [e, h.own] at h2; cases h2
/-- Other entries are stored. -/
theorem RowAt.restore (h : RowAt W B p most n E N f R ev b) {g : Nat → Prop} (hs : Step f g W W') (hp : W'.heap[p]? = W.heap[p]?) (hb : W'.heap[b]? = W.heap[b]?) {E' : List ED} {R' : List EV} {ev' : Value}
    (hL : Lot W' 40 4 ev' E'.length (flatE R')) (hE : Each (EntO W' B) R' E') (hB : ∀ k, ev'.ownBlock = some k → B ≤ k) (hf : ∀ k, ev'.ownBlock = some k → f k ∨ W.heap.size ≤ k) (hl : E'.length ≤ most) (hfit : ∀ e ∈ E', e.fits) :
    RowAt (W'.setCell ⟨p, 1, none⟩ ev') B p most n E' N (fun k => k = p ∨ ev'.ownBlock = some k ∨ k = b) R' ev' b ∧ Step f (fun k => k = p ∨ ev'.ownBlock = some k ∨ k = b) W (W'.setCell ⟨p, 1, none⟩ ev') := by
  have hown := hp.trans h.own
  have n1 : ∀ k, ev'.ownBlock = some k → k ≠ p := fun k hk e => by
    obtain ⟨cur, h1⟩ := hL.tag hk; rw [e, hown] at h1; cases h1
  have n2 : b ≠ p := h.eb.2.2
  have hgr : W'.grownBy (W'.setCell ⟨p, 1, none⟩ ev') (some p) := ⟨rfl, rfl, rfl, by simp [World.setCell], fun k _ hk => Below.heap_setCell _ _ _ _ (fun e => hk (by rw [e]))⟩
  refine ⟨⟨(heap_setAt hown).trans rfl, hL.stays (fun k hk => Below.heap_setCell _ _ _ _ (n1 k hk)), hE.imp (fun _ _ _ _ q => q.kept hgr (fun k e => ?_)), (h.names.stays hb).stays (Below.heap_setCell _ _ _ _ n2), rfl, h.bp, hB, h.bb, h.most32, hl, hfit⟩, ?_⟩
  · cases e
    intro cs t hc
    rw [hown] at hc; cases hc; exact ⟨by decide, by decide⟩
  · refine ⟨hs.os, hs.tape, hs.output, by simp [World.setCell]; exact hs.size, fun k hk hn => (Below.heap_setCell _ _ _ _ (fun e => hn (by rw [e]; exact h.self))).trans (hs.block k hk hn), fun k hk => ?_⟩
    rcases hk with rfl | hk | rfl
    · exact .inl h.self
    · exact hf k hk
    · exact .inl (by rw [h.foot]; exact .inr (.inr rfl))
/-- Other names are stored. -/
theorem RowAt.rename (h : RowAt W B p most n E N f R ev b) (hg : W.grownBy W' (some b)) {n' : Nat} {N' : List IdD} (hN : Named W' b n' N') : RowAt W' B p most n' E N' f R ev b ∧ Step f f W W' := by
  have hs : Step f f W W' := ⟨hg.os, hg.tape, hg.output, hg.size, fun k hk hn => hg.block k hk (fun e => hn (by cases e; rw [h.foot]; exact .inr (.inr rfl))), fun k hk => .inl hk⟩
  obtain ⟨e1, e2, e3⟩ := h.eb
  refine ⟨⟨(hg.block p h.plt (fun e => e3 (by cases e; rfl))).trans h.own, h.lot.kept hg (.inr e2), h.each.imp (fun _ _ _ _ q => q.kept hg (fun k e => ?_)), hN, h.foot, h.bp, h.be, h.bb, h.most32, h.len, h.fits⟩, hs⟩
  cases e
  exact h.other b (by rw [h.foot]; exact .inr (.inr rfl))
theorem RowAt.form (h : RowAt W B p most n E N f R ev b) : ∃ a c, ev = .slice a E.length c := h.lot.form
theorem RowAt.cells (h : RowAt W B p most n E N f R ev b) : W.cell? ⟨p, 0, none⟩ = some (.int .i64 most) ∧ W.cell? ⟨p, 1, none⟩ = some ev ∧ W.cell? ⟨p, 2, none⟩ = some (.map (some b)) ∧ W.frozen? ⟨p, 1, none⟩ = false :=
  ⟨(cell_of h.own).trans rfl, (cell_of h.own).trans rfl, (cell_of h.own).trans rfl, by simp [World.frozen?, h.own]⟩
end

theorem below_draws (w : World) (q : Nat) : Below w.heap.size w (w.drewN q) := ⟨rfl, rfl, rfl, Nat.le_refl _, fun _ _ => rfl⟩

/-! ### Len, Room, Has -/
theorem len_any (B p most n : Nat) (E : List ED) (f : Nat → Prop) (W : World) (h : Rowp W B p most n E f) :
    Calls Try.prog 15 #[.pointer (some ⟨p, 0, none⟩)] W fun e W' => e = .returned (.int .i64 E.length) ∧ W = W' := by
  obtain ⟨R, ev, b, h⟩ := h
  obtain ⟨a, c, rfl⟩ := h.form
  obtain ⟨_, c1, _, _⟩ := h.cells
  obtain ⟨m, hm⟩ : ∃ m, E.length = m := ⟨_, rfl⟩
  rw [hm] at c1 ⊢
  clear h hm
  go_enter Try.func15, Try.ntmps15
  go_wp2
  go_ret
  exact ⟨rfl, rfl⟩

theorem room_any (B p most n : Nat) (E : List ED) (f : Nat → Prop) (W : World) (h : Rowp W B p most n E f) :
    Calls Try.prog 16 #[.pointer (some ⟨p, 0, none⟩)] W fun e W' => e = .returned (.int .i64 ((most : Int) - E.length)) ∧ Below W.heap.size W W' := by
  obtain ⟨R, ev, b, h⟩ := h
  obtain ⟨a, c, rfl⟩ := h.form
  obtain ⟨c0, c1, _, _⟩ := h.cells
  have hl := h.len
  have h32 := h.most32
  obtain ⟨m, hm⟩ : ∃ m, E.length = m := ⟨_, rfl⟩
  rw [hm] at c1 hl ⊢
  clear h hm
  go_enter Try.func16, Try.ntmps16
  go_wp2_with fail
  go_quiet (fail)
  go_wp2
  go_ret
  exact ⟨rfl, below_draws _ _⟩

theorem room_nil (W : World) : Calls Try.prog 16 #[.pointer none] W fun e W' => e = .returned (.int .i64 0) ∧ W = W' := by
  go_enter Try.func16, Try.ntmps16
  go_wp2
  go_ret
  exact ⟨rfl, rfl⟩

theorem room_plain (p : Nat) (W : World) (h0 : W.cell? ⟨p, 0, none⟩ = some (.int .i64 0)) (h1 : W.cell? ⟨p, 1, none⟩ = some (.slice none 0 0)) : Calls Try.prog 16 #[.pointer (some ⟨p, 0, none⟩)] W fun e W' => e = .returned (.int .i64 0) ∧ Below W.heap.size W W' := by
  go_enter Try.func16, Try.ntmps16
  go_wp2_with fail
  go_quiet (fail)
  go_wp2
  go_ret
  exact ⟨rfl, below_draws _ _⟩

theorem hasrow_any (B p most n : Nat) (E : List ED) (f : Nat → Prop) (a : IdD) (W : World) (h : Rowp W B p most n E f) (ha : a.fits) :
    Calls Try.prog 18 #[.pointer (some ⟨p, 0, none⟩), .agg #[.int .i64 a.o, .int .i64 a.s]] W (Says (decide (a ∈ idsD E)) W) := by
  obtain ⟨R, ev, b, h⟩ := h
  have hb := below_alloc W (.cells #[.int .i64 a.o, .int .i64 a.s] 34)
  obtain ⟨_, _, c2, _⟩ := (h.below hb).cells
  have hk := World.alloc_heap_new W (.cells #[.int .i64 a.o, .int .i64 a.s] 34)
  have i0 : (W.alloc (.cells #[.int .i64 a.o, .int .i64 a.s] 34)).cell? ⟨W.heap.size, 0, none⟩ = some (.int .i64 a.o) := (cell_of hk).trans rfl
  have i1 : (W.alloc (.cells #[.int .i64 a.o, .int .i64 a.s] 34)).cell? ⟨W.heap.size, 1, none⟩ = some (.int .i64 a.s) := (cell_of hk).trans rfl
  have hl := fun q => ((h.below hb).below (below_draws _ q)).names.look a ha
  obtain ⟨r, hr⟩ : ∃ r, decide (a ∈ idsD E) = r := ⟨_, rfl⟩
  rw [hr] at hl ⊢
  obtain ⟨o, s⟩ := a
  simp only [IdD.val] at hl i0 i1 c2
  have HB := Lib.hid hb
  clear h ha hb hk hr
  go_enter Try.func18, Try.ntmps18
  go_wp2_with fail
  obtain ⟨W1, hW1⟩ : ∃ W1, (W.alloc (.cells #[.int .i64 o, .int .i64 s] 34)) = W1 := ⟨_, rfl⟩
  rw [hW1] at HB i0 i1 c2 hl ⊢
  clear hW1
  go_quiet (fail)
  go_wp2
  go_ret
  exact Says.mk rfl (below_drewN HB.out _)

theorem hasrow_nil (o s : Int) (W : World) : Calls Try.prog 18 #[.pointer none, .agg #[.int .i64 o, .int .i64 s]] W (Says false W) := by
  have HB := Lib.hid (below_alloc W (.cells #[.int .i64 o, .int .i64 s] 34))
  go_enter Try.func18, Try.ntmps18
  go_wp2_with fail
  go_quiet (fail)
  go_wp2
  go_ret
  exact Says.mk rfl (below_drewN HB.out _)

/-- How much room New makes. -/
def clampD (m : Int) : Nat := (min (max m 0) 32).toNat

theorem new_any (m : Int) (W : World) :
    Calls Try.prog 8 #[.int .i64 m] W fun e W' => ∃ p f, e = .returned (.pointer (some ⟨p, 0, none⟩)) ∧ Rowp W' W.heap.size p (clampD m) 0 [] f ∧ Below W.heap.size W W' := by
  have hmm := @run_makeMap Try.prog
  go_enter Try.func8, Try.ntmps8
  go_wp2
  go_ret
  have hc : min (max m 0) 32 = ((clampD m : Nat) : Int) := by unfold clampD; omega
  have h32 : clampD m ≤ 32 := by unfold clampD; omega
  rw [hc]
  have hb : Below W.heap.size W ((W.alloc (.map #[] 0)).alloc (.cells #[.int .i64 (clampD m), .slice none 0 0, .map (some W.heap.size)] 30)) := (below_alloc W _).alloc (by simp) _
  refine ⟨W.heap.size + 1, _, rfl, ⟨[], .slice none 0 0, W.heap.size, ?_, Lot.nil _ _ _, Each.nil _, ?_, rfl, by omega, fun k hk => (by cases hk), Nat.le_refl _, h32, Nat.zero_le _, fun _ h => by cases h⟩, hb⟩
  · have h1 := World.alloc_heap_new (W.alloc (.map #[] 0)) (.cells #[.int .i64 (clampD m), .slice none 0 0, .map (some W.heap.size)] 30)
    rwa [World.size_alloc] at h1
  · exact (Named.made W).stays (Below.heap_alloc _ _ _ (by simp))

end Go.Proofs.Ytkfnndhoccjffaa
