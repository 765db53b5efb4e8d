/-
  inbox's boxes as they lie in memory; New, Len, Over, full, either.
-/
import Derived.Test.YtofkllokmecfgaaBoxb
namespace Go.Proofs.Ytofkllokmecfgaa
open Go Go.RowKit
attribute [local go_sem ↓] Go.wp_at_zero Go.wp_at_succ

theorem heap_setAt {W : World} {p o : Nat} {u : Value} {cs : Array Value} {t : TypeId} {fr : Nat × Nat} (h : W.heap[p]? = some (.cells cs t fr)) : (W.setCell ⟨p, o, none⟩ u).heap[p]? = some (.cells (cs.setIfInBounds o u) t fr) := by
  obtain ⟨hlt, hk⟩ := Array.getElem?_eq_some_iff.1 h
  show (W.heap.modify p _)[p]? = _
  rw [Array.getElem?_eq_getElem (by rw [Array.size_modify]; exact hlt), Array.getElem_modify_self, hk]
  rfl
/-- From W to W' no block that lay has turned but those of f; what is owned then (f') was owned, or is new. -/
structure Step (f f' : Nat → Prop) (W W' : World) : Prop where
  os : W'.os = W.os
  tape : W'.tape = W.tape
  output : W'.output = W.output
  size : W.heap.size ≤ W'.heap.size
  block : ∀ k, k < W.heap.size → ¬ f k → W'.heap[k]? = W.heap[k]?
  foot : ∀ k, f' k → f k ∨ W.heap.size ≤ k
theorem Step.trans {f g h : Nat → Prop} {A B C : World} (p : Step f g A B) (q : Step g h B C) : Step f h A C :=
  ⟨q.os.trans p.os, q.tape.trans p.tape, q.output.trans p.output, Nat.le_trans p.size q.size,
    fun k hk hf => (q.block k (Nat.lt_of_lt_of_le hk p.size) (fun hg => (p.foot k hg).elim hf (fun h => absurd hk (Nat.not_lt.2 h)))).trans (p.block k hk hf),
    fun k hk => (q.foot k hk).elim (fun hg => p.foot k hg) (fun h => .inr (Nat.le_trans p.size h))⟩
theorem Step.of_below {f : Nat → Prop} {A B : World} (h : Below A.heap.size A B) : Step f f A B := ⟨h.os, h.tape, h.output, h.size, fun k hk _ => h.block k hk, fun _ h => .inl h⟩
theorem Step.below {f f' : Nat → Prop} {A B : World} (p : Step f f' A B) {n : Nat} (hn : n ≤ A.heap.size) (h : ∀ k, k < n → ¬ f k) : Below n A B :=
  ⟨p.os, p.tape, p.output, p.size, fun k hk => p.block k (by omega) (h k hk)⟩

/-- At p lies a box that has room for most changes, and has those of L; ov: too much came. What it writes to are f's blocks, none of them ahead of B. -/
structure BoxAt (W : World) (B p most : Nat) (ov : Bool) (L : List ChD) (f : Nat → Prop) (ev : Value) : Prop where
  own : W.heap[p]? = some (.cells #[.int .i64 most, .bool ov, ev] 44 (0, 0))
  lot : Lot W 31 3 ev L.length (flatC L)
  foot : f = fun k => k = p ∨ ev.ownBlock = some k
  bp : B ≤ p
  be : ∀ k, ev.ownBlock = some k → B ≤ k
  most64 : most ≤ 64
  len : L.length ≤ most
def Boxp (W : World) (B p most : Nat) (ov : Bool) (L : List ChD) (f : Nat → Prop) : Prop := ∃ ev, BoxAt W B p most ov L f ev

section
variable {W W' : World} {B p most : Nat} {ov : Bool} {L : List ChD} {f : Nat → Prop} {ev : Value}
theorem BoxAt.plt (h : BoxAt W B p most ov L f ev) : p < W.heap.size := (Array.getElem?_eq_some_iff.1 h.own).1
theorem BoxAt.lt (h : BoxAt W B p most ov L f ev) : ∀ k, f k → k < W.heap.size := by
  intro k hk
  rw [h.foot] at hk
  rcases hk with rfl | hk
  · exact h.plt
  · exact h.lot.lt k hk
theorem BoxAt.base (h : BoxAt W B p most ov L f ev) : ∀ k, f k → B ≤ k := by
  intro k hk
  rw [h.foot] at hk
  rcases hk with rfl | hk
  · exact h.bp
  · exact h.be k hk
theorem BoxAt.self (h : BoxAt W B p most ov L f ev) : f p := by rw [h.foot]; exact .inl rfl
theorem BoxAt.below (h : BoxAt W B p most ov L f ev) (hb : Below W.heap.size W W') : BoxAt W' B p most ov L f ev :=
  ⟨(hb.block p h.plt).trans h.own, h.lot.below hb, h.foot, h.bp, h.be, h.most64, h.len⟩
theorem BoxAt.ne (h : BoxAt W B p most ov L f ev) : ev.ownBlock ≠ some p := fun e => by
  obtain ⟨cur, h1⟩ := h.lot.tag e; rw [h.own] at h1; cases h1
theorem BoxAt.form (h : BoxAt W B p most ov L f ev) : ∃ a c, ev = .slice a L.length c := h.lot.form
theorem BoxAt.cells (h : BoxAt W B p most ov L f ev) : W.cell? ⟨p, 0, none⟩ = some (.int .i64 most) ∧ W.cell? ⟨p, 1, none⟩ = some (.bool ov) ∧ W.cell? ⟨p, 2, none⟩ = some ev ∧ W.frozen? ⟨p, 1, none⟩ = false ∧ W.frozen? ⟨p, 2, none⟩ = false :=
  ⟨(cell_of h.own).trans rfl, (cell_of h.own).trans rfl, (cell_of h.own).trans rfl, by simp [World.frozen?, h.own], by simp [World.frozen?, h.own]⟩
/-- Too much came, or did not. -/
theorem BoxAt.setOver (h : BoxAt W B p most ov L f ev) (o' : Bool) : BoxAt (W.setCell ⟨p, 1, none⟩ (.bool o')) B p most o' L f ev ∧ Step f f W (W.setCell ⟨p, 1, none⟩ (.bool o')) := by
  refine ⟨⟨(heap_setAt h.own).trans rfl, h.lot.stays (fun k hk => Below.heap_setCell _ _ _ _ (fun e => h.ne (by rw [hk]; exact congrArg some e))), h.foot, h.bp, h.be, h.most64, h.len⟩, rfl, rfl, rfl, by simp [World.setCell], fun k hk hn => Below.heap_setCell _ _ _ _ (fun e => hn (by rw [e]; exact h.self)), fun k hk => .inl hk⟩
/-- Other changes are stored. -/
theorem BoxAt.list {r : Option Nat} {ev' : Value} {L' : List ChD} (h : BoxAt W B p most ov L f ev) (hg : W.grownBy W' r) (hr : r = ev.ownBlock ∨ r = none) (hL : Lot W' 31 3 ev' L'.length (flatC L'))
    (hat : ∀ k, ev'.ownBlock = some k → ev.ownBlock = some k ∨ W.heap.size ≤ k) (hlen : L'.length ≤ most) :
    W'.heap[p]? = W.heap[p]? ∧ ∃ f', BoxAt (W'.setCell ⟨p, 2, none⟩ ev') B p most ov L' f' ev' ∧ Step f f' W (W'.setCell ⟨p, 2, none⟩ ev') := by
  have hp : W'.heap[p]? = W.heap[p]? := hg.block p h.plt (fun e => by
    rcases hr with rfl | rfl
    · exact h.ne e.symm
    · cases e)
  have hown := hp.trans h.own
  have n1 : ∀ k, ev'.ownBlock = some k → k ≠ p := fun k hk e => by
    obtain ⟨cur, h1⟩ := hL.tag hk; rw [e, hown] at h1; cases h1
  refine ⟨hp, fun k => k = p ∨ ev'.ownBlock = some k, ⟨(heap_setAt hown).trans rfl, hL.stays (fun k hk => Below.heap_setCell _ _ _ _ (n1 k hk)), rfl, h.bp, fun k hk => ?_, h.most64, hlen⟩, hg.os, hg.tape, hg.output, by simp [World.setCell]; exact hg.size, fun k hk hn => ?_, fun k hk => ?_⟩
  · rcases hat k hk with h0 | h0
    · exact h.be k h0
    · exact Nat.le_trans h.bp (Nat.le_trans (Nat.le_of_lt h.plt) h0)
  · refine (Below.heap_setCell _ _ _ _ (fun e => hn (by rw [e]; exact h.self))).trans (hg.block k hk (fun e => hn ?_))
    rcases hr with rfl | rfl
    · rw [h.foot]; exact .inr e.symm
    · cases e
  · rcases hk with rfl | hk
    · exact .inl h.self
    · rcases hat k hk with h0 | h0
      · left; rw [h.foot]; exact .inr h0
      · exact .inr h0
theorem Boxp.below (h : Boxp W B p most ov L f) (hb : Below W.heap.size W W') : Boxp W' B p most ov L f := by
  obtain ⟨ev, h⟩ := h; exact ⟨ev, h.below hb⟩
theorem Boxp.lt (h : Boxp W B p most ov L f) : ∀ k, f k → k < W.heap.size := by
  obtain ⟨ev, h⟩ := h; exact h.lt
theorem Boxp.base (h : Boxp W B p most ov L f) : ∀ k, k < B → ¬ f k := by
  obtain ⟨ev, h⟩ := h
  intro k hk hf; have := h.base k hf; omega
theorem Boxp.size (h : Boxp W B p most ov L f) : B ≤ W.heap.size := by
  obtain ⟨ev, h⟩ := h
  exact Nat.le_trans h.bp (Nat.le_of_lt h.plt)
theorem Boxp.len (h : Boxp W B p most ov L f) : L.length ≤ most ∧ most ≤ 64 := by
  obtain ⟨ev, h⟩ := h; exact ⟨h.len, h.most64⟩
end

/-! ### New, Len, Over, full -/
theorem len_any (B p most : Nat) (ov : Bool) (L : List ChD) (f : Nat → Prop) (W : World) (h : Boxp W B p most ov L f) :
    Calls Try.prog 15 #[.pointer (some ⟨p, 0, none⟩)] W fun e W' => e = .returned (.int .i64 L.length) ∧ W = W' := by
  obtain ⟨ev, h⟩ := h
  obtain ⟨a, c, rfl⟩ := h.form
  obtain ⟨_, _, c2, _, _⟩ := h.cells
  obtain ⟨m, hm⟩ : ∃ m, L.length = m := ⟨_, rfl⟩
  rw [hm] at c2 ⊢
  clear h hm
  go_enter Try.func15, Try.ntmps15
  go_wp2
  go_ret
  exact ⟨rfl, rfl⟩
theorem len_nil (W : World) : Calls Try.prog 15 #[.pointer none] W fun e W' => e = .returned (.int .i64 0) ∧ W = W' := by
  go_enter Try.func15, Try.ntmps15
  go_wp2
  go_ret
  exact ⟨rfl, rfl⟩

theorem over_any (B p most : Nat) (ov : Bool) (L : List ChD) (f : Nat → Prop) (W : World) (h : Boxp W B p most ov L f) :
    Calls Try.prog 16 #[.pointer (some ⟨p, 0, none⟩)] W fun e W' => e = .returned (.bool ov) ∧ W = W' := by
  obtain ⟨ev, h⟩ := h
  obtain ⟨_, c1, _, _, _⟩ := h.cells
  clear h
  go_enter Try.func16, Try.ntmps16
  go_wp2
  go_ret
  exact ⟨rfl, rfl⟩

theorem full_any (B p most : Nat) (ov : Bool) (L : List ChD) (f : Nat → Prop) (W : World) (h : Boxp W B p most ov L f) :
    Calls Try.prog 18 #[.pointer (some ⟨p, 0, none⟩)] W (Says (decide (L.length = most)) W) := by
  obtain ⟨ev, h⟩ := h
  obtain ⟨a, c, rfl⟩ := h.form
  obtain ⟨c0, _, c2, _, _⟩ := h.cells
  obtain ⟨m, hm⟩ : ∃ m, L.length = m := ⟨_, rfl⟩
  have hl := h.len
  have h64 := h.most64
  rw [hm] at c2 hl ⊢
  clear h hm
  by_cases he : m = most
  · have hz : ((m : Int) == (most : Int)) = true := by rw [beq_iff_eq]; omega
    go_enter Try.func18, Try.ntmps18
    go_wp2_with fail
    go_quiet (fail)
    go_wp2
    go_ret
    exact Says.mk (decide_eq_true he).symm (below_draws _ _)
  · have hz : ((m : Int) == (most : Int)) = false := by rw [beq_eq_false_iff_ne]; omega
    go_enter Try.func18, Try.ntmps18
    go_wp2_with fail
    go_quiet (fail)
    go_wp2
    go_ret
    exact Says.mk (decide_eq_false he).symm (below_draws _ _)

/-- How much room New makes. -/
def clampD (m : Int) : Nat := (min (max m 0) 64).toNat

/-- What New leaves. -/
def NewR (cl : Nat) (W : World) (e : Ending) (W' : World) : Prop := ∃ p f, e = .returned (.pointer (some ⟨p, 0, none⟩)) ∧ Boxp W' W.heap.size p cl false [] f ∧ Below W.heap.size W W'
theorem NewR.mk (W : World) {z : Int} {cl : Nat} (hz : z = cl) (h : cl ≤ 64) : NewR cl W (.returned (.pointer (some ⟨W.heap.size, 0, none⟩))) (W.alloc (.cells #[.int .i64 z, .bool false, .slice none 0 0] 44)) := by
  subst hz
  exact ⟨W.heap.size, _, rfl, ⟨.slice none 0 0, World.alloc_heap_new W _, Lot.nil _ _ _, rfl, Nat.le_refl _, (fun k hk => by cases hk), h, Nat.zero_le _⟩, below_alloc W _⟩
theorem new_any (m : Int) (W : World) : Calls Try.prog 7 #[.int .i64 m] W (NewR (clampD m) W) := by
  obtain ⟨cl, hcl⟩ : ∃ cl, clampD m = cl := ⟨_, rfl⟩
  have hc : min (max m 0) 64 = ((clampD m : Nat) : Int) := by unfold clampD; omega
  have h64 : clampD m ≤ 64 := by unfold clampD; omega
  rw [hcl] at hc h64 ⊢
  clear hcl
  have HC := Lib.hid hc
  clear hc
  go_enter Try.func7, Try.ntmps7
  go_wp2
  all_goals
    go_ret
    exact NewR.mk W (by have := HC.out; omega) h64
theorem plain_box (W : World) : Boxp (W.alloc (.cells #[.int .i64 0, .bool false, .slice none 0 0] 44)) W.heap.size W.heap.size 0 false [] (fun k => k = W.heap.size ∨ (Value.slice none 0 0).ownBlock = some k) :=
  ⟨.slice none 0 0, World.alloc_heap_new W _, Lot.nil _ _ _, rfl, Nat.le_refl _, (fun k hk => by cases hk), by omega, Nat.le_refl _⟩

/-! ### either, asked by method values -/
set_option maxHeartbeats 1000000 in
theorem either_any (B p most : Nat) (ov : Bool) (L : List ChD) (f : Nat → Prop) (W : World) (h : Boxp W B p most ov L f) (g : Nat) (hg : W.heap[g]? = some (.cells #[.func (.func 16) #[.pointer (some ⟨p, 0, none⟩)] #[], .func (.func 18) #[.pointer (some ⟨p, 0, none⟩)] #[]] 23 (0, 0))) :
    Calls Try.prog 17 #[.slice (some ⟨g, 0, none⟩) 2 2] W (Says (ov || decide (L.length = most)) W) := by
  have hO := Lib.hid (over_any B p most ov L f W h)
  have hF := Lib.hid (full_any B p most ov L f W h)
  obtain ⟨r, hr⟩ : ∃ r, decide (L.length = most) = r := ⟨_, rfl⟩
  rw [hr] at hF ⊢
  clear h hr
  have g0 := (cell_of (i := 0) hg).trans rfl
  have g1 := (cell_of (i := 1) hg).trans rfl
  clear hg
  go_enter Try.func17, Try.ntmps17
  go_wp2
  refine wp_loop_rounds 3 ?_
  rw [rounds_succ]
  go_wp2_with fail
  refine hO.out.mono ?_
  rintro en x1 ⟨rfl, rfl⟩
  cases ov with
  | true =>
    go_wp2_with fail
    go_ret
    exact Says.mk rfl (Below.refl _ _)
  | false =>
    go_wp2_with fail
    rw [rounds_succ]
    go_wp2_with fail
    refine hF.out.mono ?_
    rintro en x2 ⟨rfl, hb⟩
    have HB := Lib.hid hb
    clear hb
    cases r with
    | true =>
      go_wp2_with fail
      go_ret
      exact Says.mk rfl HB.out
    | false =>
      go_wp2_with fail
      rw [rounds_succ]
      go_wp2_with fail
      go_ret
      exact Says.mk rfl HB.out

end Go.Proofs.Ytofkllokmecfgaa
