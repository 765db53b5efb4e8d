/-
  A call of a heap held against the reference's: what it leaves; what it tells.
-/
import Derived.Test.YteggbkhlmehpmaaHrefmk
import Derived.Deep.CutBlock
namespace Go.Proofs.Yteggbkhlmehpmaa
open Go Go.RowKit
attribute [local go_sem ↓] Go.wp_at_zero Go.wp_at_succ

/-- The heap behind a call. -/
def nextD (D : HpD) (o : OpD) : HpD :=
  if o.kind = 1 then loadD D o.block o.cell else if o.kind = 2 then storeD D o.block o.cell o.a else if o.kind = 3 then swapD D o.block o.cell o.a o.b
  else if o.kind = 4 then bumpD D o.block o.cell o.a else if o.kind = 5 then makeD D o.cell o.text else if o.kind = 6 then wordsD D o.block
  else if o.kind = 7 then dropD D o.block else if o.kind = 8 then D.lock true else if o.kind = 9 then unlockD D else D

def Or2 (f f' : Nat → Prop) : Nat → Prop := fun k => f k ∨ f' k
/-- A heap of the program and one of the reference, apart. -/
structure Pair (W : World) (B B' p q : Nat) (D D' : HpD) (f f' : Nat → Prop) : Prop where
  hp : Hp W B p D f
  rf : Rf W B' q D' f'
  dis : ∀ k, f k → ¬ f' k
section
variable {W X Y : World} {B B' p q bo : Nat} {D D' D1 : HpD} {f f' f1 f0 f0' : Nat → Prop} {o : OpD}
theorem Pair.below (h : Pair W B B' p q D D' f f') (hb : Below W.heap.size W X) : Pair X B B' p q D D' f f' := ⟨h.hp.below hb, h.rf.below hb, h.dis⟩
theorem Pair.turn1 (h : Pair X B B' p q D D' f f') (h1 : Hp Y B p D1 f1) (s1 : Step f f1 X Y) : Pair Y B B' p q D1 D' f1 f' :=
  ⟨h1, h.rf.stays (fun k hk => s1.block k (h.rf.lt k hk) (fun hf => h.dis k hf hk)), fun k hk hk' => (s1.foot k hk).elim (fun hf => h.dis k hf hk') (fun hge => by have := h.rf.lt k hk'; omega)⟩
theorem Pair.turn2 (h : Pair X B B' p q D D' f f') (h1 : Rf Y B' q D1 f1) (s1 : Step f' f1 X Y) : Pair Y B B' p q D D1 f f1 :=
  ⟨h.hp.stays (fun k hk => s1.block k (h.hp.lt k hk) (h.dis k hk)), h1, fun k hk hk' => (s1.foot k hk').elim (h.dis k hk) (fun hge => by have := h.hp.lt k hk; omega)⟩
theorem Step.left {g : Nat → Prop} (s : Step f f1 X Y) : Step (Or2 f g) (Or2 f1 g) X Y :=
  ⟨s.os, s.tape, s.output, s.size, fun k hk hn => s.block k hk (fun h => hn (.inl h)), fun k hk => hk.elim (fun h => (s.foot k h).elim (fun h => .inl (.inl h)) .inr) (fun h => .inl (.inr h))⟩
theorem Step.right {g : Nat → Prop} (s : Step f f1 X Y) : Step (Or2 g f) (Or2 g f1) X Y :=
  ⟨s.os, s.tape, s.output, s.size, fun k hk hn => s.block k hk (fun h => hn (.inr h)), fun k hk => hk.elim (fun h => .inl (.inl h)) (fun h => (s.foot k h).elim (fun h => .inl (.inr h)) .inr)⟩

def opCells (o : OpD) : Array Value := #[.int .i64 o.kind, .int .u64 (o.block : Int), .int .i64 o.cell, .int .u64 o.a, .int .u64 o.b, .string o.text]
/-- In the middle of a call: the two heaps, the call's own copy of what is asked. -/
structure Sam (W : World) (f0 f0' : Nat → Prop) (B B' p q bo : Nat) (o : OpD) (D D' : HpD) (f f' : Nat → Prop) (X : World) : Prop where
  pr : Pair X B B' p q D D' f f'
  bx : X.heap[bo]? = some (.cells (opCells o) 37 (0, 0))
  nf : ¬ f bo
  ng : ¬ f' bo
  st : Step (Or2 f0 f0') (Or2 f f') W X
theorem Sam.start (h : Pair W B B' p q D D' f f') : Sam W f f' B B' p q W.heap.size o D D' f f' (W.alloc (.cells (opCells o) 37)) :=
  ⟨h.below (below_alloc W _), World.alloc_heap_new W _, fun hf => absurd (h.hp.lt _ hf) (Nat.lt_irrefl _), fun hf => absurd (h.rf.lt _ hf) (Nat.lt_irrefl _), Step.of_below (below_alloc W _)⟩
theorem Sam.below (h : Sam W f0 f0' B B' p q bo o D D' f f' X) (hb : Below X.heap.size X Y) : Sam W f0 f0' B B' p q bo o D D' f f' Y :=
  ⟨h.pr.below hb, (hb.block bo (heap_at_lt h.bx)).trans h.bx, h.nf, h.ng, h.st.trans (Step.of_below hb)⟩
theorem Sam.turn1 (h : Sam W f0 f0' B B' p q bo o D D' f f' X) (h1 : Hp Y B p D1 f1) (s1 : Step f f1 X Y) : Sam W f0 f0' B B' p q bo o D1 D' f1 f' Y :=
  ⟨h.pr.turn1 h1 s1, (s1.block bo (heap_at_lt h.bx) h.nf).trans h.bx, s1.off (heap_at_lt h.bx) h.nf, h.ng, h.st.trans s1.left⟩
theorem Sam.turn2 (h : Sam W f0 f0' B B' p q bo o D D' f f' X) (h1 : Rf Y B' q D1 f1) (s1 : Step f' f1 X Y) : Sam W f0 f0' B B' p q bo o D D1 f f1 Y :=
  ⟨h.pr.turn2 h1 s1, (s1.block bo (heap_at_lt h.bx) h.ng).trans h.bx, h.nf, s1.off (heap_at_lt h.bx) h.ng, h.st.trans s1.right⟩
theorem Sam.cells (h : Sam W f0 f0' B B' p q bo o D D' f f' X) : X.cell? ⟨bo, 0, none⟩ = some (.int .i64 o.kind) ∧ X.cell? ⟨bo, 1, none⟩ = some (.int .u64 (o.block : Int)) ∧ X.cell? ⟨bo, 2, none⟩ = some (.int .i64 o.cell) ∧ X.cell? ⟨bo, 3, none⟩ = some (.int .u64 o.a) ∧ X.cell? ⟨bo, 4, none⟩ = some (.int .u64 o.b) ∧ X.cell? ⟨bo, 5, none⟩ = some (.string o.text) :=
  ⟨(cell_of h.bx).trans rfl, (cell_of h.bx).trans rfl, (cell_of h.bx).trans rfl, (cell_of h.bx).trans rfl, (cell_of h.bx).trans rfl, (cell_of h.bx).trans rfl⟩
end
theorem spot_small (L : List BlkD) (k : Nat) (i : Int) : 0 ≤ spot L k i ∧ spot L k i ≤ 18 := by
  unfold spot
  split
  · rcases lost_nz L k with h | h <;> rw [h] <;> decide
  · split <;> decide
theorem there_small (L : List BlkD) (k : Nat) : 0 ≤ there L k ∧ there L k ≤ 18 := by
  unfold there
  split
  · rcases lost_nz L k with h | h <;> rw [h] <;> decide
  · decide

theorem okay_nat {c : Int} (h : okay c = true) : ∃ n : Nat, c = (n : Int) ∧ n ≤ 256 := by
  unfold okay at h
  have := of_decide_eq_true h
  exact ⟨c.toNat, by omega, by omega⟩
theorem make_all {B p : Nat} {D : HpD} {f : Nat → Prop} (W : World) (h : Hp W B p D f) (hm : D.L.length < 1000000) (c : Int) (s : ByteArray) (hs : s.size ≤ 281474976710656) :
    Calls Try.prog 18 #[.pointer (some ⟨p, 0, none⟩), .int .i64 c, .string s] W (HpR B p f W (.int .u64 (makeV D c)) (makeD D c s)) := by
  cases hc : okay c with
  | true =>
    obtain ⟨n, rfl, hn⟩ := okay_nat hc
    have := make_good W h hm n hn s hs
    unfold makeV makeD
    rw [if_pos hc, if_pos hc]
    exact this
  | false =>
    refine (make_bad (p := p) W c s hc).mono fun e W' he => ?_
    obtain ⟨rfl, rfl⟩ := he
    unfold makeV makeD
    rw [if_neg (by rw [hc]; decide), if_neg (by rw [hc]; decide)]
    exact ⟨f, rfl, h, Step.refl _ _⟩
theorem rmake_all {B p : Nat} {D : HpD} {f : Nat → Prop} (W : World) (h : Rf W B p D f) (hm : D.L.length < 1000000) (c : Int) (s : ByteArray) :
    Calls Try.prog 32 #[.pointer (some ⟨p, 0, none⟩), .int .i64 c, .string s] W (RfR B p f W (.int .u64 (makeV D c)) (makeD D c s)) := by
  cases hc : okay c with
  | true =>
    obtain ⟨n, rfl, hn⟩ := okay_nat hc
    have := rmake_good W h hm n hn s
    unfold makeV makeD
    rw [if_pos hc, if_pos hc]
    exact this
  | false =>
    refine (rmake_bad (p := p) W c s hc).mono fun e W' he => ?_
    obtain ⟨rfl, rfl⟩ := he
    unfold makeV makeD
    rw [if_neg (by rw [hc]; decide), if_neg (by rw [hc]; decide)]
    exact ⟨f, rfl, h, Step.refl _ _⟩

/-- What a call held against the reference's leaves. -/
def SameR (W : World) (B B' p q : Nat) (o : OpD) (D D' : HpD) (f f' : Nat → Prop) (e : Ending) (W' : World) : Prop :=
  ∃ b f1 f1', e = .returned (.bool b) ∧ (D = D' → b = true) ∧ Pair W' B B' p q (nextD D o) (nextD D' o) f1 f1' ∧ Step (Or2 f f') (Or2 f1 f1') W W'
/-- What the answers are. -/
def Tells (D D' : HpD) (a b c e : Int) (s t : ByteArray) : Prop := D = D' → a = b ∧ c = e ∧ s = t

set_option maxRecDepth 100000 in
set_option maxHeartbeats 4000000 in
theorem same_any (W : World) {B B' p q : Nat} {D D' : HpD} {f f' : Nat → Prop} (h : Pair W B B' p q D D' f f') (o : OpD) (ho : o.fits) (hf : D.faults < 1000000) (hf' : D'.faults < 1000000) (hl : D.L.length < 1000000) (hl' : D'.L.length < 1000000) :
    Calls Try.prog 10 #[.pointer (some ⟨p, 0, none⟩), .pointer (some ⟨q, 0, none⟩), .agg #[.int .i64 o.kind, .int .u64 (o.block : Int), .int .i64 o.cell, .int .u64 o.a, .int .u64 o.b, .string o.text]] W (SameR W B B' p q o D D' f f') := by
  have H0 := Lib.hid (Sam.start (o := o) h)
  obtain ⟨ok, obk, oc, oa, ob, ot⟩ := o
  obtain ⟨-, ho2, -, -, -, ho6⟩ := ho
  simp only at ho2 ho6
  have hc := H0.out.cells
  unfold opCells at H0 hc
  simp only at hc H0
  obtain ⟨k0, k1, k2, k3, k4, k5⟩ := hc
  have HF := Lib.hid (And.intro hf (And.intro hf' (And.intro hl (And.intro hl' (And.intro ho2 ho6)))))
  clear h hf hf' hl hl' ho2 ho6
  go_enter Try.func10, Try.ntmps10
  go_upto_block 0 with fail
  go_cut [7, 8, 9, 10, 11, 12] (fun s7 s8 s9 s10 s11 s12 wx => ∃ (a b c e : Int) (s t : ByteArray) (f1 f1' : Nat → Prop), s7 = .int .u64 a ∧ s8 = .int .u64 b ∧ s9 = .int .i64 c ∧ s10 = .int .i64 e ∧ s11 = .string s ∧ s12 = .string t ∧ 0 ≤ c ∧ c ≤ 18 ∧
    Hid (Sam W f f' B B' p q W.heap.size ⟨ok, obk, oc, oa, ob, ot⟩ (nextD D ⟨ok, obk, oc, oa, ob, ot⟩) (nextD D' ⟨ok, obk, oc, oa, ob, ot⟩) f1 f1' wx) ∧ Hid (Tells D D' a b c e s t))
  case first => as_aux_lemma =>
    have hk : ok = 1 ∨ ok = 2 ∨ ok = 3 ∨ ok = 4 ∨ ok = 5 ∨ ok = 6 ∨ ok = 7 ∨ ok = 8 ∨ ok = 9 ∨ (ok ≠ 1 ∧ ok ≠ 2 ∧ ok ≠ 3 ∧ ok ≠ 4 ∧ ok ≠ 5 ∧ ok ≠ 6 ∧ ok ≠ 7 ∧ ok ≠ 8 ∧ ok ≠ 9) := by omega
    rcases hk with rfl | rfl | rfl | rfl | rfl | rfl | rfl | rfl | rfl | ⟨n1, n2, n3, n4, n5, n6, n7, n8, n9⟩
    · go_wp2_with fail
      refine (load_any _ H0.out.pr.hp HF.out.1 obk HF.out.2.2.2.2.1 oc).mono ?_
      rintro en w1 ⟨f1, rfl, h1, s1⟩
      have H1 := Lib.hid (H0.out.turn1 h1 s1)
      clear h1 s1 k0 k1 k2 k3 k4 k5
      have hc := H1.out.cells
      simp only at hc
      obtain ⟨k0, k1, k2, k3, k4, k5⟩ := hc
      go_wp2_with fail
      refine (rload_any _ H1.out.pr.rf HF.out.2.1 obk HF.out.2.2.2.2.1 oc).mono ?_
      rintro en w2 ⟨f2, rfl, h2, s2⟩
      have H2 := Lib.hid (H1.out.turn2 h2 s2)
      clear h2 s2 k0 k1 k2 k3 k4 k5
      go_wp2_with fail
      go_meet
      case rel => exact ⟨_, _, _, _, _, _, f1, f2, rfl, rfl, rfl, rfl, rfl, rfl, (spot_small _ _ _).1, (spot_small _ _ _).2, H2, Lib.hid (fun e => by subst e; exact ⟨rfl, rfl, rfl⟩)⟩
    · have HKC := Lib.hid (fun X D1 D2 g1 g2 (hX : Sam W f f' B B' p q W.heap.size ⟨2, obk, oc, oa, ob, ot⟩ D1 D2 g1 g2 X) => (show X.cell? ⟨W.heap.size, 1, none⟩ = some (.int .u64 (obk : Int)) ∧ X.cell? ⟨W.heap.size, 2, none⟩ = some (.int .i64 oc) ∧ X.cell? ⟨W.heap.size, 3, none⟩ = some (.int .u64 oa) from by have hc := hX.cells; exact ⟨hc.2.1, hc.2.2.1, hc.2.2.2.1⟩))
      go_wp2_with fail
      have H0d := Lib.hid (H0.out.below (below_drew _))
      clear k0 k4 k5
      go_region_held3 (fun w' => w'.cell? ⟨W.heap.size, 1, none⟩ = some (.int .u64 (obk : Int)) ∧ w'.cell? ⟨W.heap.size, 2, none⟩ = some (.int .i64 oc) ∧ w'.cell? ⟨W.heap.size, 3, none⟩ = some (.int .u64 oa))
        (first
          | exact HKC.out _ _ _ _ _ H2.out
          | exact HKC.out _ _ _ _ _ H1.out
          | exact HKC.out _ _ _ _ _ H0d.out
          | exact HKC.out _ _ _ _ _ H0.out)
        (first
          | (go_at_call 19; refine (store_any _ H0d.out.pr.hp HF.out.1 obk HF.out.2.2.2.2.1 oc oa).mono ?_; rintro en w1 ⟨f1, rfl, h1, s1⟩; have H1 := Lib.hid (H0d.out.turn1 h1 s1); clear h1 s1)
          | (go_at_call 28; refine (rstore_any _ H1.out.pr.rf HF.out.2.1 obk HF.out.2.2.2.2.1 oc oa).mono ?_; rintro en w2 ⟨f2, rfl, h2, s2⟩; have H2 := Lib.hid (H1.out.turn2 h2 s2); clear h2 s2)
          | fail)
      go_wp2_with fail
      go_meet
      case rel => exact ⟨_, _, _, _, _, _, f1, f2, rfl, rfl, rfl, rfl, rfl, rfl, (spot_small _ _ _).1, (spot_small _ _ _).2, H2, Lib.hid (fun e => by subst e; exact ⟨rfl, rfl, rfl⟩)⟩
    · go_wp2_with fail
      refine (swap_any _ H0.out.pr.hp HF.out.1 obk HF.out.2.2.2.2.1 oc oa ob).mono ?_
      rintro en w1 ⟨f1, rfl, h1, s1⟩
      have H1 := Lib.hid (H0.out.turn1 h1 s1)
      clear h1 s1 k0 k1 k2 k3 k4 k5
      have hc := H1.out.cells
      simp only at hc
      obtain ⟨k0, k1, k2, k3, k4, k5⟩ := hc
      go_wp2_with fail
      refine (rswap_any _ H1.out.pr.rf HF.out.2.1 obk HF.out.2.2.2.2.1 oc oa ob).mono ?_
      rintro en w2 ⟨f2, rfl, h2, s2⟩
      have H2 := Lib.hid (H1.out.turn2 h2 s2)
      clear h2 s2 k0 k1 k2 k3 k4 k5
      go_wp2_with fail
      go_meet
      case rel => exact ⟨_, _, _, _, _, _, f1, f2, rfl, rfl, rfl, rfl, rfl, rfl, (spot_small _ _ _).1, (spot_small _ _ _).2, H2, Lib.hid (fun e => by subst e; exact ⟨rfl, rfl, rfl⟩)⟩
    · go_wp2_with fail
      refine (bump_any _ H0.out.pr.hp HF.out.1 obk HF.out.2.2.2.2.1 oc oa).mono ?_
      rintro en w1 ⟨f1, rfl, h1, s1⟩
      have H1 := Lib.hid (H0.out.turn1 h1 s1)
      clear h1 s1 k0 k1 k2 k3 k4 k5
      have hc := H1.out.cells
      simp only at hc
      obtain ⟨k0, k1, k2, k3, k4, k5⟩ := hc
      go_wp2_with fail
      refine (rbump_any _ H1.out.pr.rf HF.out.2.1 obk HF.out.2.2.2.2.1 oc oa).mono ?_
      rintro en w2 ⟨f2, rfl, h2, s2⟩
      have H2 := Lib.hid (H1.out.turn2 h2 s2)
      clear h2 s2 k0 k1 k2 k3 k4 k5
      go_wp2_with fail
      go_meet
      case rel => exact ⟨_, _, _, _, _, _, f1, f2, rfl, rfl, rfl, rfl, rfl, rfl, (spot_small _ _ _).1, (spot_small _ _ _).2, H2, Lib.hid (fun e => by subst e; exact ⟨rfl, rfl, rfl⟩)⟩
    · have HKC := Lib.hid (fun X D1 D2 g1 g2 (hX : Sam W f f' B B' p q W.heap.size ⟨5, obk, oc, oa, ob, ot⟩ D1 D2 g1 g2 X) => (show X.cell? ⟨W.heap.size, 2, none⟩ = some (.int .i64 oc) ∧ X.cell? ⟨W.heap.size, 5, none⟩ = some (.string ot) from by have hc := hX.cells; exact ⟨hc.2.2.1, hc.2.2.2.2.2⟩))
      go_wp2_with fail
      have H0d := Lib.hid (H0.out.below (below_drew _))
      clear k0 k1 k3 k4
      go_region_held3 (fun w' => w'.cell? ⟨W.heap.size, 2, none⟩ = some (.int .i64 oc) ∧ w'.cell? ⟨W.heap.size, 5, none⟩ = some (.string ot))
        (first
          | exact HKC.out _ _ _ _ _ H2.out
          | exact HKC.out _ _ _ _ _ H1.out
          | exact HKC.out _ _ _ _ _ H0d.out
          | exact HKC.out _ _ _ _ _ H0.out)
        (first
          | (go_at_call 18; refine (make_all _ H0d.out.pr.hp HF.out.2.2.1 oc ot HF.out.2.2.2.2.2).mono ?_; rintro en w1 ⟨f1, rfl, h1, s1⟩; have H1 := Lib.hid (H0d.out.turn1 h1 s1); clear h1 s1)
          | (go_at_call 32; refine (rmake_all _ H1.out.pr.rf HF.out.2.2.2.1 oc ot).mono ?_; rintro en w2 ⟨f2, rfl, h2, s2⟩; have H2 := Lib.hid (H1.out.turn2 h2 s2); clear h2 s2)
          | fail)
      go_wp2_with fail
      go_meet
      case rel => exact ⟨_, _, _, _, _, _, f1, f2, rfl, rfl, rfl, rfl, rfl, rfl, by decide, by decide, H2, Lib.hid (fun e => by subst e; exact ⟨rfl, rfl, rfl⟩)⟩
    · go_wp2_with fail
      refine (words_any _ H0.out.pr.hp HF.out.1 obk HF.out.2.2.2.2.1).mono ?_
      rintro en w1 ⟨f1, rfl, h1, s1⟩
      have H1 := Lib.hid (H0.out.turn1 h1 s1)
      clear h1 s1 k0 k1 k2 k3 k4 k5
      have hc := H1.out.cells
      simp only at hc
      obtain ⟨k0, k1, k2, k3, k4, k5⟩ := hc
      go_wp2_with fail
      refine (rwords_any _ H1.out.pr.rf HF.out.2.1 obk HF.out.2.2.2.2.1).mono ?_
      rintro en w2 ⟨f2, rfl, h2, s2⟩
      have H2 := Lib.hid (H1.out.turn2 h2 s2)
      clear h2 s2 k0 k1 k2 k3 k4 k5
      go_wp2_with fail
      go_meet
      case rel => exact ⟨_, _, _, _, _, _, f1, f2, rfl, rfl, rfl, rfl, rfl, rfl, (there_small _ _).1, (there_small _ _).2, H2, Lib.hid (fun e => by subst e; exact ⟨rfl, rfl, rfl⟩)⟩
    · have HKC := Lib.hid (fun X D1 D2 g1 g2 (hX : Sam W f f' B B' p q W.heap.size ⟨7, obk, oc, oa, ob, ot⟩ D1 D2 g1 g2 X) => (show X.cell? ⟨W.heap.size, 1, none⟩ = some (.int .u64 (obk : Int)) from by have hc := hX.cells; exact hc.2.1))
      go_wp2_with fail
      have H0d := Lib.hid (H0.out.below (below_drew _))
      clear k0 k2 k3 k4 k5
      go_region_held3 (fun w' => w'.cell? ⟨W.heap.size, 1, none⟩ = some (.int .u64 (obk : Int)))
        (first
          | exact HKC.out _ _ _ _ _ H2.out
          | exact HKC.out _ _ _ _ _ H1.out
          | exact HKC.out _ _ _ _ _ H0d.out
          | exact HKC.out _ _ _ _ _ H0.out)
        (first
          | (go_at_call 23; refine (drop_any _ H0d.out.pr.hp HF.out.1 obk HF.out.2.2.2.2.1).mono ?_; rintro en w1 ⟨f1, rfl, h1, s1⟩; have H1 := Lib.hid (H0d.out.turn1 h1 s1); clear h1 s1)
          | (go_at_call 34; refine (rdrop_any _ H1.out.pr.rf HF.out.2.1 obk HF.out.2.2.2.2.1).mono ?_; rintro en w2 ⟨f2, rfl, h2, s2⟩; have H2 := Lib.hid (H1.out.turn2 h2 s2); clear h2 s2)
          | fail)
      go_wp2_with fail
      go_meet
      case rel => exact ⟨_, _, _, _, _, _, f1, f2, rfl, rfl, rfl, rfl, rfl, rfl, (there_small _ _).1, (there_small _ _).2, H2, Lib.hid (fun e => by subst e; exact ⟨rfl, rfl, rfl⟩)⟩
    · go_wp2_with fail
      refine (lock_any _ H0.out.pr.hp).mono ?_
      rintro en w1 ⟨f1, rfl, h1, s1⟩
      have H1 := Lib.hid (H0.out.turn1 h1 s1)
      clear h1 s1 k0 k1 k2 k3 k4 k5
      go_wp2_with fail
      refine (rlock_any _ H1.out.pr.rf).mono ?_
      rintro en w2 ⟨f2, rfl, h2, s2⟩
      have H2 := Lib.hid (H1.out.turn2 h2 s2)
      clear h2 s2
      go_wp2_with fail
      go_ret
      exact ⟨_, f1, f2, rfl, fun e => by subst e; simp, H2.out.pr, H2.out.st⟩
    · go_wp2_with fail
      refine (unlock_any _ H0.out.pr.hp HF.out.1).mono ?_
      rintro en w1 ⟨f1, rfl, h1, s1⟩
      have H1 := Lib.hid (H0.out.turn1 h1 s1)
      clear h1 s1 k0 k1 k2 k3 k4 k5
      go_wp2_with fail
      refine (runlock_any _ H1.out.pr.rf HF.out.2.1).mono ?_
      rintro en w2 ⟨f2, rfl, h2, s2⟩
      have H2 := Lib.hid (H1.out.turn2 h2 s2)
      clear h2 s2
      go_wp2_with fail
      go_ret
      exact ⟨_, f1, f2, rfl, fun e => by subst e; simp, H2.out.pr, H2.out.st⟩
    · have m1 : (ok == 1) = false := by rw [beq_eq_false_iff_ne]; exact n1
      have m2 : (ok == 2) = false := by rw [beq_eq_false_iff_ne]; exact n2
      have m3 : (ok == 3) = false := by rw [beq_eq_false_iff_ne]; exact n3
      have m4 : (ok == 4) = false := by rw [beq_eq_false_iff_ne]; exact n4
      have m5 : (ok == 5) = false := by rw [beq_eq_false_iff_ne]; exact n5
      have m6 : (ok == 6) = false := by rw [beq_eq_false_iff_ne]; exact n6
      have m7 : (ok == 7) = false := by rw [beq_eq_false_iff_ne]; exact n7
      have m8 : (ok == 8) = false := by rw [beq_eq_false_iff_ne]; exact n8
      have m9 : (ok == 9) = false := by rw [beq_eq_false_iff_ne]; exact n9
      have HN := Lib.hid (fun X : HpD => (show nextD X ⟨ok, obk, oc, oa, ob, ot⟩ = X from by
        unfold nextD
        simp only [n1, n2, n3, n4, n5, n6, n7, n8, n9, if_false]))
      clear n1 n2 n3 n4 n5 n6 n7 n8 n9
      go_wp2_with fail
      go_meet
      case rel => exact ⟨0, 0, 0, 0, ⟨#[]⟩, ⟨#[]⟩, f, f', rfl, rfl, rfl, rfl, rfl, rfl, by decide, by decide, by rw [HN.out, HN.out]; exact H0, Lib.hid (fun _ => ⟨rfl, rfl, rfl⟩)⟩
  case rest => as_aux_lemma =>
    obtain ⟨a, b, c, e, s, t, f1, f1', rfl, rfl, rfl, rfl, rfl, rfl, hc0, hc1, H2, HT⟩ := hcut
    have HFin := Lib.hid (fun (r : Bool) (hr : D = D' → r = true) => (show SameR W B B' p q ⟨ok, obk, oc, oa, ob, ot⟩ D D' f f' (.returned (.bool r)) wc from ⟨r, f1, f1', rfl, hr, H2.out.pr, H2.out.st⟩))
    obtain ⟨b1, hb1⟩ : ∃ b1, (a == b) = b1 := ⟨_, rfl⟩
    obtain ⟨b2, hb2⟩ : ∃ b2, (c == e) = b2 := ⟨_, rfl⟩
    obtain ⟨b3, hb3⟩ : ∃ b3, (s.toList == t.toList) = b3 := ⟨_, rfl⟩
    have HE := Lib.hid (fun (hD : D = D') => (show b1 = true ∧ b2 = true ∧ b3 = true from by
      obtain ⟨q1, q2, q3⟩ := HT.out hD
      rw [← hb1, ← hb2, ← hb3, q1, q2, q3]; simp))
    clear HT H2
    cases b1 <;> cases b2
    all_goals
      go_wp2_with fail
      go_ret
      exact HFin.out _ (fun hD => by simpa using HE.out hD)
end Go.Proofs.Yteggbkhlmehpmaa
