/-
  A routine beside a heap: what may be done next, what it is answered, and both behind it; drive's Next.
-/
import Derived.Test.YtpbkfmdbpihhpaaAsk
namespace Go.Proofs.Ytpbkfmdbpihhpaa
open Go Go.RowKit
attribute [local go_sem ↓] Go.wp_at_zero Go.wp_at_succ

/-- No more blocks than one more, no more faults than one more. -/
def Nigh (D D' : HpD) : Prop := D'.L.length ≤ D.L.length + 1 ∧ D'.faults ≤ D.faults + 1
theorem Nigh.same (D : HpD) : Nigh D D := ⟨by omega, by omega⟩
theorem Nigh.fault (D : HpD) : Nigh D D.fault := ⟨Nat.le_succ _, Nat.le_refl _⟩
theorem Nigh.word (D : HpD) (k : Nat) (i u : Int) : Nigh D (D.word k i u) := by
  unfold HpD.word
  split
  · exact Nigh.same D
  · exact ⟨by simp [HpD.at], by simp [HpD.at]⟩
theorem Nigh.lose (D : HpD) (k : Nat) : Nigh D (D.lose k) := by
  unfold HpD.lose
  split
  · exact Nigh.same D
  · exact ⟨by simp [HpD.at], by simp [HpD.at]⟩
theorem act_nigh (D : HpD) (x : ActD) : Nigh D (actN D x) := by
  unfold actN
  split
  · unfold loadD; split
    · exact Nigh.same D
    · exact Nigh.fault D
  split
  · unfold storeD; split
    · exact Nigh.word ..
    · exact Nigh.fault D
  split
  · unfold swapD; split
    · split
      · exact Nigh.word ..
      · exact Nigh.same D
    · exact Nigh.fault D
  split
  · unfold bumpD; split
    · exact Nigh.word ..
    · exact Nigh.fault D
  split
  · unfold makeD; split
    · exact ⟨by simp [HpD.add], by simp [HpD.add]⟩
    · exact Nigh.same D
  split
  · unfold wordsD; split
    · exact Nigh.same D
    · exact Nigh.fault D
  split
  · unfold dropD; split
    · exact Nigh.lose ..
    · exact Nigh.fault D
  split
  · exact ⟨by simp [HpD.lock], by simp [HpD.lock]⟩
  split
  · unfold unlockD; split
    · exact ⟨by simp [HpD.lock], by simp [HpD.lock]⟩
    · exact Nigh.fault D
  · exact Nigh.same D
theorem do_nigh (D : HpD) (x : ActD) : Nigh D (doN D x) := by
  unfold doN
  split
  · exact act_nigh D x
  · exact Nigh.same D
theorem act_few (D : HpD) (x : ActD) : (doN D x).L.length ≤ D.L.length + 1 ∧ (doN D x).faults ≤ D.faults + 1 := do_nigh D x

/-- Blocks that lie as they lay, none of them the heap's. -/
def Keeps (l : List (Nat × Obj)) (f : Nat → Prop) (X : World) : Prop := ∀ q ∈ l, X.heap[q.1]? = some q.2 ∧ ¬ f q.1
section
variable {l : List (Nat × Obj)} {f f1 : Nat → Prop} {X Y : World}
theorem Keeps.nil : Keeps [] f X := fun _ h => by cases h
theorem Keeps.turn (h : Keeps l f X) (s : Step f f1 X Y) : Keeps l f1 Y := fun q hq =>
  ⟨(s.block _ (heap_at_lt (h q hq).1) (h q hq).2).trans (h q hq).1, s.off (heap_at_lt (h q hq).1) (h q hq).2⟩
theorem Keeps.below (h : Keeps l f X) (hb : Below X.heap.size X Y) : Keeps l f Y := fun q hq =>
  ⟨(hb.block _ (heap_at_lt (h q hq).1)).trans (h q hq).1, (h q hq).2⟩
theorem Keeps.add (h : Keeps l f X) (hlt : ∀ k, f k → k < X.heap.size) (o : Obj) : Keeps ((X.heap.size, o) :: l) f (X.alloc o) := fun q hq => by
  rcases List.mem_cons.1 hq with rfl | hq
  · exact ⟨World.alloc_heap_new X o, fun hf => absurd (hlt _ hf) (Nat.lt_irrefl _)⟩
  · exact h.below (below_alloc X o) q hq
theorem Keeps.cell {n i : Nat} {cs : Array Value} {t : TypeId} (h : Keeps l f X) (hm : (n, Obj.cells cs t (0, 0)) ∈ l) : X.cell? ⟨n, i, none⟩ = cs[i]? := cell_of (h _ hm).1
end

/-- A step: an act, and what it was answered. -/
structure StepD where
  act : ActD
  w : Int
  t : ByteArray
abbrev stepV (who : Int) (s : StepD) : Value := .agg #[.int .i64 who, .int .i64 s.act.kind, .int .u64 (s.act.block : Int), .int .i64 s.act.cell, .int .u64 s.act.old, .int .u64 s.act.new, .string s.act.text, .int .u64 s.w, .string s.t]
abbrev zeroS : Value := .agg #[.int .i64 0, .int .i64 0, .int .u64 0, .int .i64 0, .int .u64 0, .int .u64 0, .string ⟨#[]⟩, .int .u64 0, .string ⟨#[]⟩]
/-- A heap and where a routine stands: at its k-th act, answered so. -/
structure PlS where
  D : HpD
  k : Nat
  G : List (Int × ByteArray)
def stepP (L : List ActD) (S : PlS) : Option StepD := match L[S.k]? with | some x => if readyA S.D x then some ⟨x, doW S.D x, doT S.D x⟩ else none | none => none
def nextP (L : List ActD) (S : PlS) : PlS := match L[S.k]? with | some x => ⟨doN S.D x, S.k + 1, S.G ++ [(doW S.D x, doT S.D x)]⟩ | none => S
/-- Few blocks, few faults, few acts. -/
structure FewP (L : List ActD) (S : PlS) : Prop where
  faults : S.D.faults ≤ S.k + 1000
  blocks : S.D.L.length ≤ S.k + 1000
  k : S.k ≤ L.length
  len : L.length ≤ 100
  got : S.G.length = S.k
  fits : ∀ x ∈ L, x.fits
theorem stepP_some {L : List ActD} {S : PlS} {x : StepD} (h : stepP L S = some x) : ∃ hk : S.k < L.length, x = ⟨L[S.k], doW S.D L[S.k], doT S.D L[S.k]⟩ ∧ readyA S.D L[S.k] = true := by
  unfold stepP at h
  split at h
  · rename_i y hy
    obtain ⟨hk, rfl⟩ := List.getElem?_eq_some_iff.1 hy
    split at h
    · rename_i hr
      exact ⟨hk, (Option.some.inj h).symm, hr⟩
    · cases h
  · cases h
theorem nextP_lt {L : List ActD} {S : PlS} (hk : S.k < L.length) : nextP L S = ⟨doN S.D L[S.k], S.k + 1, S.G ++ [(doW S.D L[S.k], doT S.D L[S.k])]⟩ := by
  unfold nextP
  rw [List.getElem?_eq_getElem hk]
theorem FewP.next {L : List ActD} {S : PlS} (h : FewP L S) : FewP L (nextP L S) := by
  by_cases hk : S.k < L.length
  · rw [nextP_lt hk]
    have := act_few S.D L[S.k]
    have h1 := h.faults
    have h2 := h.blocks
    exact ⟨by show (doN S.D L[S.k]).faults ≤ S.k + 1 + 1000; omega, by show (doN S.D L[S.k]).L.length ≤ S.k + 1 + 1000; omega, hk, h.len, by simp [h.got], h.fits⟩
  · have : nextP L S = S := by unfold nextP; rw [List.getElem?_eq_none (by omega)]
    rw [this]; exact h

/-- A heap at p, and a routine at r with the acts L, which lie at la; what they write to are f's blocks. -/
def Pl (W : World) (B p r : Nat) (la : Option Addr) (c : Nat) (L : List ActD) (S : PlS) (f : Nat → Prop) : Prop :=
  ∃ fh fr, Hp W B p S.D fh ∧ Row W B r (.slice la L.length c) S.k S.G fr ∧ (∀ j, fh j → ¬ fr j) ∧ f = (fun j => fh j ∨ fr j) ∧ Sa W la L ∧ (∀ a, la = some a → a.block < W.heap.size ∧ ¬ f a.block)
section
variable {W W' : World} {B p r c : Nat} {la : Option Addr} {L : List ActD} {S : PlS} {f : Nat → Prop}
theorem Sa.of_block {a : Addr} (h : Sa W (some a) L) (hb : W'.heap[a.block]? = W.heap[a.block]?) : Sa W' (some a) L := fun j hj => by
  obtain ⟨b, o, e, c1, c2, c3, c4, c5, c6⟩ := h j hj
  cases e
  have hc : ∀ i, W'.cell? ⟨b, i, none⟩ = W.cell? ⟨b, i, none⟩ := fun i => World.cell?_of_block (a := ⟨b, i, none⟩) hb
  exact ⟨b, o, rfl, (hc _).trans c1, (hc _).trans c2, (hc _).trans c3, (hc _).trans c4, (hc _).trans c5, (hc _).trans c6⟩
theorem Sa.keep (h : Sa W la L) (hb : ∀ a, la = some a → W'.heap[a.block]? = W.heap[a.block]?) : Sa W' la L := by
  cases la with
  | none => exact fun j hj => by obtain ⟨b, o, e, _⟩ := h j hj; cases e
  | some a => exact h.of_block (hb a rfl)
theorem Pl.lt (h : Pl W B p r la c L S f) : ∀ k, f k → k < W.heap.size := by
  obtain ⟨fh, fr, h1, h2, -, rfl, -⟩ := h
  exact fun k hk => hk.elim (h1.lt k) (h2.lt k)
theorem Pl.size (h : Pl W B p r la c L S f) : B ≤ W.heap.size := by obtain ⟨fh, fr, h1, _⟩ := h; exact h1.size
theorem Pl.base (h : Pl W B p r la c L S f) : ∀ k, k < B → ¬ f k := by
  obtain ⟨fh, fr, h1, ⟨gv, h2⟩, -, rfl, -⟩ := h
  exact fun k hk hf => hf.elim (h1.base k hk) (fun h3 => by have := h2.base k h3; omega)
theorem Pl.stays (h : Pl W B p r la c L S f) (hz : W.heap.size ≤ W'.heap.size) (hs : ∀ k, (f k ∨ ∃ a, la = some a ∧ a.block = k) → W'.heap[k]? = W.heap[k]?) : Pl W' B p r la c L S f := by
  obtain ⟨fh, fr, h1, h2, h3, rfl, h4, h5⟩ := h
  exact ⟨fh, fr, h1.stays (fun k hk => hs k (.inl (.inl hk))), h2.stays (fun k hk => hs k (.inl (.inr hk))), h3, rfl, h4.keep (fun a ha => hs _ (.inr ⟨a, ha, rfl⟩)), fun a ha => ⟨Nat.lt_of_lt_of_le (h5 a ha).1 hz, (h5 a ha).2⟩⟩
theorem Pl.below (h : Pl W B p r la c L S f) (hb : Below W.heap.size W W') : Pl W' B p r la c L S f := by
  refine h.stays hb.size (fun k hk => hb.block k ?_)
  rcases hk with hk | ⟨a, ha, rfl⟩
  · exact h.lt k hk
  · obtain ⟨fh, fr, h1, h2, h3, rfl, h4, h5⟩ := h
    exact (h5 a ha).1
theorem step_or {f f' : Nat → Prop} {A B : World} (p : Step f f' A B) (O : Nat → Prop) : Step (fun k => f k ∨ O k) (fun k => f' k ∨ O k) A B :=
  ⟨p.os, p.tape, p.output, p.size, fun k hk h => p.block k hk (fun hf => h (.inl hf)), fun k hk => hk.elim (fun h => (p.foot k h).elim (fun h => .inl (.inl h)) .inr) (fun h => .inl (.inr h))⟩
theorem step_or' {f f' : Nat → Prop} {A B : World} (p : Step f f' A B) (O : Nat → Prop) : Step (fun k => O k ∨ f k) (fun k => O k ∨ f' k) A B :=
  ⟨p.os, p.tape, p.output, p.size, fun k hk h => p.block k hk (fun hf => h (.inr hf)), fun k hk => hk.elim (fun h => .inl (.inl h)) (fun h => (p.foot k h).elim (fun h => .inl (.inr h)) .inr)⟩
theorem Pl.acts_kept {f' : Nat → Prop} (h : ∀ a, la = some a → a.block < W.heap.size ∧ ¬ f a.block) (s : Step f f' W W') : ∀ a, la = some a → a.block < W'.heap.size ∧ ¬ f' a.block :=
  fun a ha => ⟨Nat.lt_of_lt_of_le (h a ha).1 s.size, s.off (h a ha).1 (h a ha).2⟩
/-- The heap has turned. -/
theorem Pl.heap {fh fr fh' : Nat → Prop} {D : HpD} (h2 : Row W B r (.slice la L.length c) S.k S.G fr) (h3 : ∀ j, fh j → ¬ fr j) (h4 : Sa W la L) (h5 : ∀ a, la = some a → a.block < W.heap.size ∧ ¬ (fh a.block ∨ fr a.block))
    (hp : Hp W' B p D fh') (s : Step fh fh' W W') : Pl W' B p r la c L ⟨D, S.k, S.G⟩ (fun j => fh' j ∨ fr j) ∧ Step (fun j => fh j ∨ fr j) (fun j => fh' j ∨ fr j) W W' :=
  ⟨⟨fh', fr, hp, h2.stays (fun j hj => s.block j (h2.lt j hj) (fun hf => h3 j hf hj)), fun j hj hj' => (s.foot j hj).elim (fun hf => h3 j hf hj') (fun hge => by have := h2.lt j hj'; omega), rfl,
    h4.keep (fun a ha => s.block _ (h5 a ha).1 (fun hf => (h5 a ha).2 (.inl hf))), Pl.acts_kept h5 (step_or s fr)⟩, step_or s fr⟩
theorem pl_ask (h : Pl W B p r la c L S f) (hF : FewP L S) : Calls Try.prog 14 #[rowV r] W fun e W' => (if hk : S.k < L.length then e = .returned (.tuple #[actOf L[S.k], .bool true, .bool true]) else e = .returned (.tuple #[zeroV, .bool false, .bool true])) ∧ Below W.heap.size W W' := by
  obtain ⟨fh, fr, h1, h2, h3, rfl, h4, h5⟩ := h
  by_cases hk : S.k < L.length
  · refine (ask_any W r L[S.k] true (Lib.hid fun X hX => rowact_some (h2.below hX) (h4.grow hX) hk (by have := hF.len; simp only [maxLen]; omega))).mono fun e W' he => ?_
    rw [dif_pos hk]; exact he
  · refine (ask_any W r ⟨0, 0, 0, 0, 0, ⟨#[]⟩⟩ false (Lib.hid fun X hX => rowact_none (h2.below hX) (by omega))).mono fun e W' he => ?_
    rw [dif_neg hk]; exact he
/-- What a call leaves that turns the heap or the routine. -/
def PlR (B p r : Nat) (la : Option Addr) (c : Nat) (L : List ActD) (S' : PlS) (v : Value) (f : Nat → Prop) (W : World) (e : Ending) (W' : World) : Prop := ∃ f', e = .returned v ∧ Pl W' B p r la c L S' f' ∧ Step f f' W W'
theorem pl_ready (h : Pl W B p r la c L S f) (hF : FewP L S) (x : ActD) (hx : x.fits) : Calls Try.prog 15 #[.pointer (some ⟨p, 0, none⟩), actOf x] W (PlR B p r la c L S (.bool (readyA S.D x)) f W) := by
  obtain ⟨fh, fr, h1, h2, h3, rfl, h4, h5⟩ := h
  refine (ready_any W h1 (by have := hF.faults; have := hF.k; have := hF.len; omega) x hx).mono fun e W' he => ?_
  obtain ⟨f', rfl, hp, hs⟩ := he
  obtain ⟨q1, q2⟩ := Pl.heap h2 h3 h4 h5 hp hs
  exact ⟨_, rfl, q1, q2⟩
theorem pl_do (h : Pl W B p r la c L S f) (hF : FewP L S) (x : ActD) (hx : x.fits) : Calls Try.prog 16 #[.pointer (some ⟨p, 0, none⟩), actOf x] W (PlR B p r la c L ⟨doN S.D x, S.k, S.G⟩ (gotV (doW S.D x) (doT S.D x)) f W) := by
  obtain ⟨fh, fr, h1, h2, h3, rfl, h4, h5⟩ := h
  refine (do_any W h1 (by have := hF.faults; have := hF.k; have := hF.len; omega) (by have := hF.blocks; have := hF.k; have := hF.len; omega) x hx).mono fun e W' he => ?_
  obtain ⟨f', rfl, hp, hs⟩ := he
  obtain ⟨q1, q2⟩ := Pl.heap h2 h3 h4 h5 hp hs
  exact ⟨_, rfl, q1, q2⟩
theorem pl_hand {D : HpD} {k : Nat} {G : List (Int × ByteArray)} (h : Pl W B p r la c L ⟨D, k, G⟩ f) (hk : k ≤ 1000) (hG : G.length ≤ 1000) (x : Int) (t : ByteArray) : Calls Try.prog 17 #[.func (.method "Take") #[rowV r] #[], gotV x t] W (PlR B p r la c L ⟨D, k + 1, G ++ [(x, t)]⟩ (.tuple #[]) f W) := by
  obtain ⟨fh, fr, h1, h2, h3, rfl, h4, h5⟩ := h
  refine (hand_any h2 h1.size (by show k ≤ 1000000; omega) (by show G.length ≤ 1000000; omega) x t).mono fun e W' he => ?_
  obtain ⟨f', rfl, hp, hs⟩ := he
  exact ⟨_, rfl, ⟨fh, f', h1.stays (fun j hj => hs.block j (h1.lt j hj) (h3 j hj)), hp, fun j hj hj' => (hs.foot j hj').elim (fun hf => h3 j hj hf) (fun hge => by have := h1.lt j hj; omega), rfl,
    h4.keep (fun a ha => hs.block _ (h5 a ha).1 (fun hf => (h5 a ha).2 (.inr hf))), Pl.acts_kept h5 (step_or' hs fh)⟩, step_or' hs fh⟩
end

theorem set9 {X : World} {n : Nat} {t : TypeId} {a0 a1 a2 a3 a4 a5 a6 a7 a8 : Value} (h : X.heap[n]? = some (.cells #[a0, a1, a2, a3, a4, a5, a6, a7, a8] t (0, 0))) (v0 v1 v2 v3 v4 v5 v6 v7 v8 : Value) :
    (((((((((X.setCell ⟨n, 0, none⟩ v0).setCell ⟨n, 1, none⟩ v1).setCell ⟨n, 2, none⟩ v2).setCell ⟨n, 3, none⟩ v3).setCell ⟨n, 4, none⟩ v4).setCell ⟨n, 5, none⟩ v5).setCell ⟨n, 6, none⟩ v6).setCell ⟨n, 7, none⟩ v7).setCell ⟨n, 8, none⟩ v8).heap[n]? = some (.cells #[v0, v1, v2, v3, v4, v5, v6, v7, v8] t (0, 0)) := by
  have e0 := heap_setAt (o := 0) (u := v0) h
  have e1 := heap_setAt (o := 1) (u := v1) e0
  have e2 := heap_setAt (o := 2) (u := v2) e1
  have e3 := heap_setAt (o := 3) (u := v3) e2
  have e4 := heap_setAt (o := 4) (u := v4) e3
  have e5 := heap_setAt (o := 5) (u := v5) e4
  have e6 := heap_setAt (o := 6) (u := v6) e5
  have e7 := heap_setAt (o := 7) (u := v7) e6
  have e8 := heap_setAt (o := 8) (u := v8) e7
  simp only [List.setIfInBounds_toArray, List.set_cons_zero, List.set_cons_succ] at e8
  exact e8
theorem below9 {W X : World} {n : Nat} (h : Below W.heap.size W X) (hn : W.heap.size ≤ n) (v0 v1 v2 v3 v4 v5 v6 v7 v8 : Value) :
    Below W.heap.size W (((((((((X.setCell ⟨n, 0, none⟩ v0).setCell ⟨n, 1, none⟩ v1).setCell ⟨n, 2, none⟩ v2).setCell ⟨n, 3, none⟩ v3).setCell ⟨n, 4, none⟩ v4).setCell ⟨n, 5, none⟩ v5).setCell ⟨n, 6, none⟩ v6).setCell ⟨n, 7, none⟩ v7).setCell ⟨n, 8, none⟩ v8) :=
  ((((((((h.setCell hn v0).setCell hn v1).setCell hn v2).setCell hn v3).setCell hn v4).setCell hn v5).setCell hn v6).setCell hn v7).setCell hn v8
theorem load_nine {X : World} {n : Nat} {k0 k1 k2 k3 k4 k7 w : Int} {s t : ByteArray} (h : X.heap[n]? = some (.cells #[.int .i64 k0, .int .i64 k1, .int .u64 k2, .int .i64 k3, .int .u64 k4, .int .u64 k7, .string s, .int .u64 w, .string t] 44 (0, 0))) :
    (loadVar 44 ⟨n, 0, none⟩).run Try.prog X = .ok (.agg #[.int .i64 k0, .int .i64 k1, .int .u64 k2, .int .i64 k3, .int .u64 k4, .int .u64 k7, .string s, .int .u64 w, .string t]) X := by
  have m0 := (cell_of (i := 0) h).trans rfl
  have m1 := (cell_of (i := 1) h).trans rfl
  have m2 := (cell_of (i := 2) h).trans rfl
  have m3 := (cell_of (i := 3) h).trans rfl
  have m4 := (cell_of (i := 4) h).trans rfl
  have m5 := (cell_of (i := 5) h).trans rfl
  have m6 := (cell_of (i := 6) h).trans rfl
  have m7 := (cell_of (i := 7) h).trans rfl
  have m8 := (cell_of (i := 8) h).trans rfl
  go_simp
theorem nine_at {X : World} {n : Nat} {t : TypeId} {a0 a1 a2 a3 a4 a5 a6 a7 a8 : Value} (h : X.heap[n]? = some (.cells #[a0, a1, a2, a3, a4, a5, a6, a7, a8] t (0, 0))) :
    (X.cell? ⟨n, 0, none⟩ = some a0 ∧ X.cell? ⟨n, 1, none⟩ = some a1 ∧ X.cell? ⟨n, 2, none⟩ = some a2 ∧ X.cell? ⟨n, 3, none⟩ = some a3 ∧ X.cell? ⟨n, 4, none⟩ = some a4 ∧ X.cell? ⟨n, 5, none⟩ = some a5 ∧ X.cell? ⟨n, 6, none⟩ = some a6 ∧ X.cell? ⟨n, 7, none⟩ = some a7 ∧ X.cell? ⟨n, 8, none⟩ = some a8) ∧
    (X.frozen? ⟨n, 0, none⟩ = false ∧ X.frozen? ⟨n, 1, none⟩ = false ∧ X.frozen? ⟨n, 2, none⟩ = false ∧ X.frozen? ⟨n, 3, none⟩ = false ∧ X.frozen? ⟨n, 4, none⟩ = false ∧ X.frozen? ⟨n, 5, none⟩ = false ∧ X.frozen? ⟨n, 6, none⟩ = false ∧ X.frozen? ⟨n, 7, none⟩ = false ∧ X.frozen? ⟨n, 8, none⟩ = false) := by
  refine ⟨⟨(cell_of h).trans rfl, (cell_of h).trans rfl, (cell_of h).trans rfl, (cell_of h).trans rfl, (cell_of h).trans rfl, (cell_of h).trans rfl, (cell_of h).trans rfl, (cell_of h).trans rfl, (cell_of h).trans rfl⟩, ?_⟩
  simp [World.frozen?, h]
theorem next_end {X : World} {n : Nat} {T : Array Value} {v : Value} {b : Bool} {R : Ending → World → Prop} (hX : (loadVar 44 ⟨n, 0, none⟩).run Try.prog X = .ok v X) (h4 : T.getD 4 undef = .pointer (some ⟨n, 0, none⟩)) (h5 : T.getD 5 undef = .bool b)
    (hR : R (.returned (.tuple #[v, .bool b])) X) : bodyPost Try.prog Try.f12 R .ret { tmps := T, defers := [] } X :=
  bodyPost_ret (by rw [results_cell2 (by rfl), h4, h5]; simp only [asAddr, Sem.run_pure, Result.andThen_ok, hX]) rfl hR
abbrev zeroO : Obj := .cells #[.int .i64 0, .int .i64 0, .int .u64 0, .int .i64 0, .int .u64 0, .int .u64 0, .string ⟨#[]⟩, .int .u64 0, .string ⟨#[]⟩] 44 (0, 0)

set_option maxRecDepth 100000 in
set_option maxHeartbeats 4000000 in
theorem next_done {W : World} {B p r c : Nat} {la : Option Addr} {L : List ActD} {S : PlS} {f : Nat → Prop} (h : Pl W B p r la c L S f) (hF : FewP L S) (hk : ¬ S.k < L.length) :
    Calls Try.prog 12 #[.pointer (some ⟨p, 0, none⟩), rowV r] W (PlR B p r la c L S (.tuple #[zeroS, .bool false]) f W) := by
  have HA := Lib.hid (fun X (hX : Below W.heap.size W X) => (by have := pl_ask (h.below hX) hF; simp only [dif_neg hk] at this; exact this :
    Calls Try.prog 14 #[rowV r] X fun e W' => e = .returned (.tuple #[zeroV, .bool false, .bool true]) ∧ Below X.heap.size X W'))
  have HH := Lib.hid h
  have HB := Lib.hid (below_alloc W zeroO)
  have HN := Lib.hid (World.alloc_heap_new W zeroO)
  clear h hF hk
  go_enter Try.func12, Try.ntmps12
  go_wp2_with fail
  refine (HA.out _ HB.out).mono ?_
  rintro en w1 ⟨rfl, hb⟩
  have HB1 := Lib.hid (HB.out.trans (hb.mono HB.out.size))
  have HN1 := Lib.hid ((hb.block _ (heap_at_lt HN.out)).trans HN.out)
  clear hb
  have HB2 := Lib.hid (HB1.out.trans ((below_alloc w1 (.cells #[.int .i64 0, .int .u64 0, .int .i64 0, .int .u64 0, .int .u64 0, .string ⟨#[]⟩] 40)).mono HB1.out.size))
  have HN2 := Lib.hid (((below_alloc w1 (.cells #[.int .i64 0, .int .u64 0, .int .i64 0, .int .u64 0, .int .u64 0, .string ⟨#[]⟩] 40)).block _ (heap_at_lt HN1.out)).trans HN1.out)
  obtain ⟨⟨m0, m1, m2, m3, m4, m5, m6, m7, m8⟩, z0, z1, z2, z3, z4, z5, z6, z7, z8⟩ := nine_at HN2.out
  go_wp2_with fail
  refine next_end (load_nine (set9 HN2.out _ _ _ _ _ _ _ _ _)) rfl rfl ⟨f, rfl, ?_, ?_⟩
  · exact HH.out.below (below9 HB2.out (Nat.le_refl _) _ _ _ _ _ _ _ _ _)
  · exact Step.of_below (below9 HB2.out (Nat.le_refl _) _ _ _ _ _ _ _ _ _)

abbrev actO (x : ActD) : Obj := .cells #[.int .i64 x.kind, .int .u64 (x.block : Int), .int .i64 x.cell, .int .u64 x.old, .int .u64 x.new, .string x.text] 40 (0, 0)
abbrev gotO (w : Int) (t : ByteArray) : Obj := .cells #[.int .u64 w, .string t] 42 (0, 0)
theorem six_at {X : World} {n : Nat} {t : TypeId} {a0 a1 a2 a3 a4 a5 : Value} (h : X.heap[n]? = some (.cells #[a0, a1, a2, a3, a4, a5] t (0, 0))) :
    X.cell? ⟨n, 0, none⟩ = some a0 ∧ X.cell? ⟨n, 1, none⟩ = some a1 ∧ X.cell? ⟨n, 2, none⟩ = some a2 ∧ X.cell? ⟨n, 3, none⟩ = some a3 ∧ X.cell? ⟨n, 4, none⟩ = some a4 ∧ X.cell? ⟨n, 5, none⟩ = some a5 :=
  ⟨(cell_of h).trans rfl, (cell_of h).trans rfl, (cell_of h).trans rfl, (cell_of h).trans rfl, (cell_of h).trans rfl, (cell_of h).trans rfl⟩
theorem two_at {X : World} {n : Nat} {t : TypeId} {a0 a1 : Value} (h : X.heap[n]? = some (.cells #[a0, a1] t (0, 0))) : X.cell? ⟨n, 0, none⟩ = some a0 ∧ X.cell? ⟨n, 1, none⟩ = some a1 := ⟨(cell_of h).trans rfl, (cell_of h).trans rfl⟩
theorem Step.own9 {f f' : Nat → Prop} {W X : World} {n : Nat} (h : Step f f' W X) (hn : W.heap.size ≤ n) (v0 v1 v2 v3 v4 v5 v6 v7 v8 : Value) :
    Step f f' W (((((((((X.setCell ⟨n, 0, none⟩ v0).setCell ⟨n, 1, none⟩ v1).setCell ⟨n, 2, none⟩ v2).setCell ⟨n, 3, none⟩ v3).setCell ⟨n, 4, none⟩ v4).setCell ⟨n, 5, none⟩ v5).setCell ⟨n, 6, none⟩ v6).setCell ⟨n, 7, none⟩ v7).setCell ⟨n, 8, none⟩ v8) :=
  (((((((((h.own hn).own hn).own hn).own hn).own hn).own hn).own hn).own hn).own hn)
theorem heap9 {X : World} {n k : Nat} (hk : k ≠ n) (v0 v1 v2 v3 v4 v5 v6 v7 v8 : Value) :
    (((((((((X.setCell ⟨n, 0, none⟩ v0).setCell ⟨n, 1, none⟩ v1).setCell ⟨n, 2, none⟩ v2).setCell ⟨n, 3, none⟩ v3).setCell ⟨n, 4, none⟩ v4).setCell ⟨n, 5, none⟩ v5).setCell ⟨n, 6, none⟩ v6).setCell ⟨n, 7, none⟩ v7).setCell ⟨n, 8, none⟩ v8).heap[k]? = X.heap[k]? := by
  rw [Below.heap_setCell _ _ _ _ hk, Below.heap_setCell _ _ _ _ hk, Below.heap_setCell _ _ _ _ hk, Below.heap_setCell _ _ _ _ hk, Below.heap_setCell _ _ _ _ hk, Below.heap_setCell _ _ _ _ hk, Below.heap_setCell _ _ _ _ hk, Below.heap_setCell _ _ _ _ hk, Below.heap_setCell _ _ _ _ hk]
theorem Pl.nine {X : World} {B p r c n : Nat} {la : Option Addr} {L : List ActD} {S : PlS} {f : Nat → Prop} (h : Pl X B p r la c L S f) (hn : ¬ f n) (ha : ∀ a, la = some a → a.block ≠ n) (v0 v1 v2 v3 v4 v5 v6 v7 v8 : Value) :
    Pl (((((((((X.setCell ⟨n, 0, none⟩ v0).setCell ⟨n, 1, none⟩ v1).setCell ⟨n, 2, none⟩ v2).setCell ⟨n, 3, none⟩ v3).setCell ⟨n, 4, none⟩ v4).setCell ⟨n, 5, none⟩ v5).setCell ⟨n, 6, none⟩ v6).setCell ⟨n, 7, none⟩ v7).setCell ⟨n, 8, none⟩ v8) B p r la c L S f :=
  h.stays (by simp [World.setCell]) (fun k hk => heap9 (fun e => by
    subst e
    rcases hk with hk | ⟨a, h1, h2⟩
    · exact hn hk
    · exact ha a h1 h2) _ _ _ _ _ _ _ _ _)
theorem Pl.la_lt {W : World} {B p r c : Nat} {la : Option Addr} {L : List ActD} {S : PlS} {f : Nat → Prop} (h : Pl W B p r la c L S f) : ∀ a, la = some a → a.block ≠ W.heap.size := fun a ha => by
  obtain ⟨fh, fr, _, _, _, _, _, h5⟩ := h
  have := (h5 a ha).1
  omega

set_option maxRecDepth 100000 in
set_option maxHeartbeats 4000000 in
theorem next_wait {W : World} {B p r c : Nat} {la : Option Addr} {L : List ActD} {S : PlS} {f : Nat → Prop} (h : Pl W B p r la c L S f) (hF : FewP L S) (x : ActD) (hk : S.k < L.length) (hx : L[S.k] = x) (hr : readyA S.D x = false) :
    Calls Try.prog 12 #[.pointer (some ⟨p, 0, none⟩), rowV r] W (PlR B p r la c L S (.tuple #[zeroS, .bool false]) f W) := by
  have HA := Lib.hid (fun X (hX : Below W.heap.size W X) => (by have := pl_ask (h.below hX) hF; simp only [dif_pos hk, hx] at this; exact this :
    Calls Try.prog 14 #[rowV r] X fun e W' => e = .returned (.tuple #[actOf x, .bool true, .bool true]) ∧ Below X.heap.size X W'))
  have hfx : x.fits := by rw [← hx]; exact hF.fits _ (List.getElem_mem _)
  have HR := Lib.hid (fun X (hX : Below W.heap.size W X) => (by have := pl_ready (h.below hX) hF x hfx; rw [hr] at this; exact this :
    Calls Try.prog 15 #[.pointer (some ⟨p, 0, none⟩), actOf x] X (PlR B p r la c L S (.bool false) f X)))
  have HB := Lib.hid (below_alloc W zeroO)
  have HK := Lib.hid ((Keeps.nil (X := W) (f := f)).add h.lt zeroO)
  have HLa := Lib.hid h.la_lt
  have HLt := Lib.hid h.lt
  clear h hF hk hx hr hfx
  go_enter Try.func12, Try.ntmps12
  go_wp2_with fail
  refine (HA.out _ HB.out).mono ?_
  rintro en w1 ⟨rfl, hb⟩
  have HB1 := Lib.hid (HB.out.trans (hb.mono HB.out.size))
  have HK1 := Lib.hid ((HK.out.below hb).add (fun k hk => Nat.lt_of_lt_of_le (HLt.out k hk) (HB1.out.size)) (actO x))
  have HB2 := Lib.hid (HB1.out.trans ((below_alloc w1 (actO x)).mono HB1.out.size))
  clear hb
  go_wp2_with fail
  refine (HR.out _ HB2.out).mono ?_
  rintro en w2 ⟨f2, rfl, h2, s2⟩
  have HK2 := Lib.hid (HK1.out.turn s2)
  have H2 := Lib.hid h2
  have S2 := Lib.hid ((Step.of_below HB2.out).trans s2)
  clear h2 s2
  obtain ⟨⟨m0, m1, m2, m3, m4, m5, m6, m7, m8⟩, z0, z1, z2, z3, z4, z5, z6, z7, z8⟩ := nine_at (HK2.out _ (.tail _ (.head _))).1
  go_wp2_with fail
  refine next_end (load_nine (set9 (HK2.out _ (.tail _ (.head _))).1 _ _ _ _ _ _ _ _ _)) rfl rfl ⟨f2, rfl, ?_, ?_⟩
  · exact H2.out.nine (HK2.out _ (.tail _ (.head _))).2 HLa.out _ _ _ _ _ _ _ _ _
  · exact S2.out.own9 (Nat.le_refl _) _ _ _ _ _ _ _ _ _

set_option maxRecDepth 100000 in
set_option maxHeartbeats 4000000 in
theorem next_go {W : World} {B p r c : Nat} {la : Option Addr} {L : List ActD} {S : PlS} {f : Nat → Prop} (h : Pl W B p r la c L S f) (hF : FewP L S) (x : ActD) (hk : S.k < L.length) (hx : L[S.k] = x) (hr : readyA S.D x = true) :
    Calls Try.prog 12 #[.pointer (some ⟨p, 0, none⟩), rowV r] W (PlR B p r la c L ⟨doN S.D x, S.k + 1, S.G ++ [(doW S.D x, doT S.D x)]⟩ (.tuple #[stepV 0 ⟨x, doW S.D x, doT S.D x⟩, .bool true]) f W) := by
  have HA := Lib.hid (fun X (hX : Below W.heap.size W X) => (by have := pl_ask (h.below hX) hF; simp only [dif_pos hk, hx] at this; exact this :
    Calls Try.prog 14 #[rowV r] X fun e W' => e = .returned (.tuple #[actOf x, .bool true, .bool true]) ∧ Below X.heap.size X W'))
  have hfx : x.fits := by rw [← hx]; exact hF.fits _ (List.getElem_mem _)
  have HR := Lib.hid (fun X (hX : Below W.heap.size W X) => (by have := pl_ready (h.below hX) hF x hfx; rw [hr] at this; exact this :
    Calls Try.prog 15 #[.pointer (some ⟨p, 0, none⟩), actOf x] X (PlR B p r la c L S (.bool true) f X)))
  have HD := Lib.hid (fun X g (hX : Pl X B p r la c L S g) => pl_do hX hF x hfx)
  have HG := Lib.hid (fun X g (hX : Pl X B p r la c L ⟨doN S.D x, S.k, S.G⟩ g) => pl_hand hX (by have := hF.k; have := hF.len; omega) (by have := hF.got; have := hF.k; have := hF.len; omega) (doW S.D x) (doT S.D x))
  have HB := Lib.hid (below_alloc W zeroO)
  have HK := Lib.hid ((Keeps.nil (X := W) (f := f)).add h.lt zeroO)
  have HLa := Lib.hid h.la_lt
  have HLt := Lib.hid h.lt
  have hmix : Try.prog.follows .mixedOrders = true := by kernel_rfl
  obtain ⟨w, hw⟩ : ∃ w, doW S.D x = w := ⟨_, rfl⟩
  obtain ⟨t, ht⟩ : ∃ t, doT S.D x = t := ⟨_, rfl⟩
  rw [hw, ht] at HD HG ⊢
  clear h hF hk hx hr hfx hw ht
  go_enter Try.func12, Try.ntmps12
  go_wp2_with fail
  refine (HA.out _ HB.out).mono ?_
  rintro en w1 ⟨rfl, hb⟩
  have HB1 := Lib.hid (HB.out.trans (hb.mono HB.out.size))
  have HK1 := Lib.hid ((HK.out.below hb).add (fun k hk => Nat.lt_of_lt_of_le (HLt.out k hk) (HB1.out.size)) (actO x))
  have HB2 := Lib.hid (HB1.out.trans ((below_alloc w1 (actO x)).mono HB1.out.size))
  clear hb
  go_wp2_with fail
  refine (HR.out _ HB2.out).mono ?_
  rintro en w2 ⟨f2, rfl, h2, s2⟩
  have HK2 := Lib.hid (HK1.out.turn s2)
  have H2 := Lib.hid h2
  have S2 := Lib.hid ((Step.of_below HB2.out).trans s2)
  clear h2 s2
  obtain ⟨a0, a1, a2, a3, a4, a5⟩ := six_at (HK2.out _ (.head _)).1
  go_wp2_with fail
  refine (HD.out _ _ H2.out).mono ?_
  rintro en w3 ⟨f3, rfl, h3, s3⟩
  have HK3 := Lib.hid ((HK2.out.turn s3).add h3.lt (gotO w t))
  have H3 := Lib.hid (h3.below (below_alloc w3 (gotO w t)))
  have S3 := Lib.hid ((S2.out.trans s3).trans (Step.of_below (below_alloc w3 (gotO w t))))
  clear h3 s3 a0 a1 a2 a3 a4 a5
  obtain ⟨g0, g1⟩ := two_at (HK3.out _ (.head _)).1
  go_wp2_with fail
  generalize w3.alloc (gotO w t) = w4 at HK3 H3 S3 g0 g1 ⊢
  go_still_tail 4, hmix
  change wpList _ _ _ _ _ w4.drew
  have HK4 := Lib.hid (HK3.out.below (below_drew w4))
  have H4 := Lib.hid (H3.out.below (below_drew w4))
  have S4 := Lib.hid (S3.out.trans (Step.of_below (below_drew w4)))
  clear g0 g1
  go_wp2_with fail
  refine (HG.out _ _ H4.out).mono ?_
  rintro en w5 ⟨f5, rfl, h5, s5⟩
  have HK5 := Lib.hid (HK4.out.turn s5)
  have H5 := Lib.hid h5
  have S5 := Lib.hid (S4.out.trans s5)
  clear h5 s5
  obtain ⟨g0, g1⟩ := two_at (HK5.out _ (.head _)).1
  obtain ⟨a0, a1, a2, a3, a4, a5⟩ := six_at (HK5.out _ (.tail _ (.head _))).1
  obtain ⟨⟨m0, m1, m2, m3, m4, m5, m6, m7, m8⟩, z0, z1, z2, z3, z4, z5, z6, z7, z8⟩ := nine_at (HK5.out _ (.tail _ (.tail _ (.head _)))).1
  go_wp2_with fail
  refine next_end (load_nine (set9 (HK5.out _ (.tail _ (.tail _ (.head _)))).1 _ _ _ _ _ _ _ _ _)) rfl rfl ⟨f5, rfl, ?_, ?_⟩
  · exact H5.out.nine (HK5.out _ (.tail _ (.tail _ (.head _)))).2 HLa.out _ _ _ _ _ _ _ _ _
  · exact S5.out.own9 (Nat.le_refl _) _ _ _ _ _ _ _ _ _

/-- Next, of a routine. -/
theorem next_some {W : World} {B p r c : Nat} {la : Option Addr} {L : List ActD} {S : PlS} {f : Nat → Prop} (h : Pl W B p r la c L S f) (hF : FewP L S) {s : StepD} (hs : stepP L S = some s) :
    Calls Try.prog 12 #[.pointer (some ⟨p, 0, none⟩), rowV r] W (PlR B p r la c L (nextP L S) (.tuple #[stepV 0 s, .bool true]) f W) := by
  obtain ⟨hk, rfl, hr⟩ := stepP_some hs
  rw [nextP_lt hk]
  exact next_go h hF _ hk rfl hr
theorem next_none {W : World} {B p r c : Nat} {la : Option Addr} {L : List ActD} {S : PlS} {f : Nat → Prop} (h : Pl W B p r la c L S f) (hF : FewP L S) (hs : stepP L S = none) :
    Calls Try.prog 12 #[.pointer (some ⟨p, 0, none⟩), rowV r] W (PlR B p r la c L S (.tuple #[zeroS, .bool false]) f W) := by
  by_cases hk : S.k < L.length
  · refine next_wait h hF _ hk rfl ?_
    unfold stepP at hs
    rw [List.getElem?_eq_getElem hk] at hs
    simp only at hs
    split at hs
    · cases hs
    · rename_i hr; simpa using hr
  · exact next_done h hF hk

set_option maxRecDepth 100000 in
set_option maxHeartbeats 4000000 in
theorem next_nil (W : World) (pa : Option Addr) : Calls Try.prog 12 #[.pointer pa, .nilIface] W fun e W' => e = .returned (.tuple #[zeroS, .bool false]) ∧ Below W.heap.size W W' := by
  have HB := Lib.hid (below_alloc W zeroO)
  have HN := Lib.hid (World.alloc_heap_new W zeroO)
  go_enter Try.func12, Try.ntmps12
  go_wp2_with fail
  refine (ask_nil _).mono ?_
  rintro en w1 ⟨rfl, hb⟩
  have HB1 := Lib.hid (HB.out.trans (hb.mono HB.out.size))
  have HN1 := Lib.hid ((hb.block _ (heap_at_lt HN.out)).trans HN.out)
  clear hb
  have HB2 := Lib.hid (HB1.out.trans ((below_alloc w1 (.cells #[.int .i64 0, .int .u64 0, .int .i64 0, .int .u64 0, .int .u64 0, .string ⟨#[]⟩] 40)).mono HB1.out.size))
  have HN2 := Lib.hid (((below_alloc w1 (.cells #[.int .i64 0, .int .u64 0, .int .i64 0, .int .u64 0, .int .u64 0, .string ⟨#[]⟩] 40)).block _ (heap_at_lt HN1.out)).trans HN1.out)
  obtain ⟨⟨m0, m1, m2, m3, m4, m5, m6, m7, m8⟩, z0, z1, z2, z3, z4, z5, z6, z7, z8⟩ := nine_at HN2.out
  go_wp2_with fail
  exact next_end (load_nine (set9 HN2.out _ _ _ _ _ _ _ _ _)) rfl rfl ⟨rfl, below9 HB2.out (Nat.le_refl _) _ _ _ _ _ _ _ _ _⟩

end Go.Proofs.Ytpbkfmdbpihhpaa
