/-
  Actrready, Acttwo, in one text.
-/
import Derived.Test.YtlgjolajnddpbaaDoorActready
import Derived.Test.YtlgjolajnddpbaaDoorActrdo
import Derived.Test.YtlgjolajnddpbaaDoorActblks
import Derived.Test.YtlgjolajnddpbaaDoorDrawn
/-! Ready, of the reference: whether an act needs not wait. -/
namespace Go.Proofs.YtlgjolajnddpbaaDoor
open Go Go.RowKit
attribute [local go_sem ↓] Go.wp_at_zero Go.wp_at_succ

theorem rlocked_cell {X : World} {B p : Nat} {D : HpD} {f : Nat → Prop} (h : Rf X B p D f) : X.cell? ⟨p, 1, none⟩ = some (.bool D.locked) := by
  obtain ⟨v, g, cp, h⟩ := h
  exact h.cells.2.1

set_option maxRecDepth 100000 in
set_option maxHeartbeats 4000000 in
theorem rready_any (W : World) {B p : Nat} {D : HpD} {f : Nat → Prop} (h : Rf W B p D f) (hf : D.faults < 1000000) (x : ActD) (hx : x.fits) :
    Calls Tryd.prog 14 #[.pointer (some ⟨p, 0, none⟩), actV x.kind x.block x.cell x.old x.new x.text] W (RfR B p f W (.bool (readyA D x)) D) := by
  have HR := Lib.hid (fun X => rright_any x.kind x.block x.cell x.old x.new x.text X)
  have HH := Lib.hid h
  obtain ⟨k, b, c, o, n, t⟩ := x
  obtain ⟨-, hx2, -, -, -, -⟩ := hx
  simp only at hx2 HR ⊢
  have HA := Lib.hid (World.alloc_heap_new W (.cells #[.int .i64 k, .int .u64 (b : Int), .int .i64 c, .int .u64 o, .int .u64 n, .string t] 34))
  have HF := Lib.hid (And.intro hf hx2)
  cases hr : rightA ⟨k, b, c, o, n, t⟩ with
  | false =>
    have e1 : readyA D ⟨k, b, c, o, n, t⟩ = true := by unfold readyA; rw [hr]; rfl
    rw [e1]
    rw [hr] at HR
    clear h hf hx2 hr e1
    go_enter Tryd.func14, Tryd.ntmps14
    go_wp2_with fail
    refine (HR.out _).mono ?_
    rintro en w1 ⟨rfl, hb⟩
    have HB := Lib.hid ((below_alloc W _).trans (hb.mono (by simp)))
    clear hb
    go_wp2_with fail
    go_ret
    exact ⟨f, rfl, HH.out.below HB.out, Step.of_below HB.out⟩
  | true =>
    have hc0 := right_cell hr
    simp only at hc0
    rw [hr] at HR
    by_cases h8 : k = 8
    · subst h8
      have e1 : readyA D ⟨8, b, c, o, n, t⟩ = !D.locked := by unfold readyA; rw [hr]; rfl
      rw [e1]
      have HK := Lib.hid (fun X (hX : Rf X B p D f) => rlocked_cell hX)
      obtain ⟨l, hlk⟩ : ∃ l, D.locked = l := ⟨_, rfl⟩
      rw [hlk] at HK ⊢
      clear h hf hx2 hr e1 hlk hc0
      go_enter Tryd.func14, Tryd.ntmps14
      go_wp2_with fail
      refine (HR.out _).mono ?_
      rintro en w1 ⟨rfl, hb⟩
      have HB := Lib.hid ((below_alloc W _).trans (hb.mono (by simp)))
      have k0 : w1.cell? ⟨W.heap.size, 0, none⟩ = some (.int .i64 8) := (cell_of ((hb.block _ (heap_at_lt HA.out)).trans HA.out)).trans rfl
      clear hb
      have kl := HK.out w1 (HH.out.below HB.out)
      go_wp2_with fail
      go_ret
      exact ⟨f, rfl, HH.out.below HB.out, Step.of_below HB.out⟩
    · by_cases h10 : k = 10
      · subst h10
        have e1 : readyA D ⟨10, b, c, o, n, t⟩ = (decide (c < (sizeAt D.L b : Int)) && !(loadV D b c == 0)) := by unfold readyA; rw [hr]; rfl
        rw [e1]
        have HZ := Lib.hid (fun X (hX : Rf X B p D f) => (rsize_any X hX b hx2).mono fun _ _ hh => (And.intro hh.1 hh.2.symm))
        have HL := Lib.hid (fun X (hX : Rf X B p D f) => rload_any X hX hf b hx2 c)
        by_cases hlt : c < (sizeAt D.L b : Int)
        · obtain ⟨hsp, hld⟩ := load_there hc0 hlt
          rw [hld, hsp] at HL
          have hge : decide ((sizeAt D.L b : Int) ≤ c) = false := decide_eq_false (by omega)
          have hlt' := decide_eq_true hlt
          rw [hlt']
          obtain ⟨z, hz⟩ : ∃ z, (sizeAt D.L b : Int) = z := ⟨_, rfl⟩
          rw [hz] at HZ hge hlt
          obtain ⟨v, hv⟩ : ∃ v, loadV D b c = v := ⟨_, rfl⟩
          rw [hv] at HL ⊢
          clear h hf hx2 hr e1 hz hsp hld hv hlt' h8
          go_enter Tryd.func14, Tryd.ntmps14
          go_wp2_with fail
          refine (HR.out _).mono ?_
          rintro en w1 ⟨rfl, hb⟩
          have HB := Lib.hid ((below_alloc W _).trans (hb.mono (by simp)))
          have k0 : w1.cell? ⟨W.heap.size, 0, none⟩ = some (.int .i64 10) := (cell_of ((hb.block _ (heap_at_lt HA.out)).trans HA.out)).trans rfl
          have k1 : w1.cell? ⟨W.heap.size, 1, none⟩ = some (.int .u64 (b : Int)) := (cell_of ((hb.block _ (heap_at_lt HA.out)).trans HA.out)).trans rfl
          have k2 : w1.cell? ⟨W.heap.size, 2, none⟩ = some (.int .i64 c) := (cell_of ((hb.block _ (heap_at_lt HA.out)).trans HA.out)).trans rfl
          clear hb
          go_wp2_with fail
          go_quiet (exact Calls.quiet_of_same (HZ.out _ (HH.out.below (HB.out.trans ((below_draws _ _).mono HB.out.size)))))
          go_wp2_with fail
          refine (HL.out _ (HH.out.below (HB.out.trans ((below_draws _ _).mono HB.out.size)))).mono ?_
          rintro en w2 ⟨f1, rfl, h1, s1⟩
          have H2 := Lib.hid h1
          have S2 := Lib.hid ((Step.of_below (HB.out.trans ((below_draws _ _).mono HB.out.size))).trans s1)
          clear h1 s1
          go_wp2_with fail
          go_ret
          exact ⟨f1, by rw [Bool.true_and]; rfl, H2.out, S2.out⟩
        · have hge : decide ((sizeAt D.L b : Int) ≤ c) = true := decide_eq_true (by omega)
          have hlt' := decide_eq_false hlt
          rw [hlt']
          obtain ⟨z, hz⟩ : ∃ z, (sizeAt D.L b : Int) = z := ⟨_, rfl⟩
          rw [hz] at HZ hge hlt
          clear h hf hx2 hr e1 hz HL hlt' h8
          go_enter Tryd.func14, Tryd.ntmps14
          go_wp2_with fail
          refine (HR.out _).mono ?_
          rintro en w1 ⟨rfl, hb⟩
          have HB := Lib.hid ((below_alloc W _).trans (hb.mono (by simp)))
          have k0 : w1.cell? ⟨W.heap.size, 0, none⟩ = some (.int .i64 10) := (cell_of ((hb.block _ (heap_at_lt HA.out)).trans HA.out)).trans rfl
          have k1 : w1.cell? ⟨W.heap.size, 1, none⟩ = some (.int .u64 (b : Int)) := (cell_of ((hb.block _ (heap_at_lt HA.out)).trans HA.out)).trans rfl
          have k2 : w1.cell? ⟨W.heap.size, 2, none⟩ = some (.int .i64 c) := (cell_of ((hb.block _ (heap_at_lt HA.out)).trans HA.out)).trans rfl
          clear hb
          go_wp2_with fail
          go_quiet (exact Calls.quiet_of_same (HZ.out _ (HH.out.below (HB.out.trans ((below_draws _ _).mono HB.out.size)))))
          go_wp2_with fail
          go_ret
          exact ⟨f, by simp, HH.out.below (HB.out.trans ((below_draws _ _).mono HB.out.size)), Step.of_below (HB.out.trans ((below_draws _ _).mono HB.out.size))⟩
      · have e1 : readyA D ⟨k, b, c, o, n, t⟩ = true := by unfold readyA; rw [hr]; simp only [if_true]; rw [if_neg h8, if_neg h10]
        rw [e1]
        clear h hf hx2 hr e1 hc0
        have q8 : (k != 8) = true := by simp [h8]
        have q10 : (k != 10) = true := by simp [h10]
        go_enter Tryd.func14, Tryd.ntmps14
        go_wp2_with fail
        refine (HR.out _).mono ?_
        rintro en w1 ⟨rfl, hb⟩
        have HB := Lib.hid ((below_alloc W _).trans (hb.mono (by simp)))
        have k0 : w1.cell? ⟨W.heap.size, 0, none⟩ = some (.int .i64 k) := (cell_of ((hb.block _ (heap_at_lt HA.out)).trans HA.out)).trans rfl
        clear hb
        go_wp2_with fail
        go_ret
        exact ⟨f, rfl, HH.out.below HB.out, Step.of_below HB.out⟩

end Go.Proofs.YtlgjolajnddpbaaDoor

/-! A heap of the program and one of the reference beside one another, under acts. -/
namespace Go.Proofs.YtlgjolajnddpbaaDoor
open Go Go.RowKit

def Or2 (f f' : Nat → Prop) : Nat → Prop := fun k => f k ∨ f' k
/-- A heap of the program and one of the reference, apart. -/
structure Pair (W : World) (B B' p q : Nat) (D D' : HpD) (f f' : Nat → Prop) : Prop where
  hp : Hp W B p D f
  rf : Rf W B' q D' f'
  dis : ∀ k, f k → ¬ f' k
section
variable {W X Y : World} {B B' p q : Nat} {D D' D1 : HpD} {f f' f1 g1 : Nat → Prop}
theorem Pair.below (h : Pair W B B' p q D D' f f') (hb : Below W.heap.size W X) : Pair X B B' p q D D' f f' := ⟨h.hp.below hb, h.rf.below hb, h.dis⟩
theorem Pair.turn1 (h : Pair X B B' p q D D' f f') (h1 : Hp Y B p D1 f1) (s1 : Step f f1 X Y) : Pair Y B B' p q D1 D' f1 f' :=
  ⟨h1, h.rf.stays (fun k hk => s1.block k (h.rf.lt k hk) (fun hf => h.dis k hf hk)), fun k hk hk' => (s1.foot k hk).elim (fun hf => h.dis k hf hk') (fun hge => by have := h.rf.lt k hk'; omega)⟩
theorem Pair.turn2 (h : Pair X B B' p q D D' f f') (h1 : Rf Y B' q D1 f1) (s1 : Step f' f1 X Y) : Pair Y B B' p q D D1 f f1 :=
  ⟨h.hp.stays (fun k hk => s1.block k (h.hp.lt k hk) (h.dis k hk)), h1, fun k hk hk' => (s1.foot k hk').elim (h.dis k hk) (fun hge => by have := h.hp.lt k hk; omega)⟩

/-- One pair, and that nothing that lay at first has turned. -/
def Two (B : Nat) (W : World) (p q : Nat) (D D' : HpD) (X : World) : Prop := ∃ f f', Pair X B B p q D D' f f' ∧ Below B W X
theorem Two.below (h : Two B W p q D D' X) (hb : Below X.heap.size X Y) : Two B W p q D D' Y := by
  obtain ⟨f, f', h1, h2⟩ := h
  exact ⟨f, f', h1.below hb, h2.trans (hb.mono h1.hp.size)⟩
theorem Two.low (h : Two B W p q D D' X) : Below B W X := by obtain ⟨_, _, _, h⟩ := h; exact h
theorem Two.size (h : Two B W p q D D' X) : B ≤ X.heap.size := by obtain ⟨_, _, h, _⟩ := h; exact h.hp.size
theorem Two.cells (h : Two B W p q D D' X) : X.cell? ⟨q, 1, none⟩ = some (.bool D'.locked) ∧ X.cell? ⟨q, 2, none⟩ = some (.int .i64 (D'.faults : Int)) := by
  obtain ⟨f, f', h1, _⟩ := h
  obtain ⟨v, g, cp, h⟩ := h1.rf
  exact ⟨h.cells.2.1, h.cells.2.2.1⟩

theorem two_ready (h : Two B W p q D D' X) (hf : D.faults < 1000000) (x : ActD) (hx : x.fits) :
    Calls Tryd.prog 13 #[.pointer (some ⟨p, 0, none⟩), actV x.kind x.block x.cell x.old x.new x.text] X fun e Y => e = .returned (.bool (readyA D x)) ∧ Two B W p q D D' Y := by
  obtain ⟨f, f', h1, h2⟩ := h
  refine (ready_any X h1.hp hf x hx).mono fun e Y hr => ?_
  obtain ⟨f1, rfl, hp, hs⟩ := hr
  exact ⟨rfl, f1, f', h1.turn1 hp hs, h2.trans (hs.below h1.hp.size h1.hp.base)⟩
theorem two_rready (h : Two B W p q D D' X) (hf : D'.faults < 1000000) (x : ActD) (hx : x.fits) :
    Calls Tryd.prog 14 #[.pointer (some ⟨q, 0, none⟩), actV x.kind x.block x.cell x.old x.new x.text] X fun e Y => e = .returned (.bool (readyA D' x)) ∧ Two B W p q D D' Y := by
  obtain ⟨f, f', h1, h2⟩ := h
  refine (rready_any X h1.rf hf x hx).mono fun e Y hr => ?_
  obtain ⟨f1, rfl, hp, hs⟩ := hr
  exact ⟨rfl, f, f1, h1.turn2 hp hs, h2.trans (hs.below h1.hp.size h1.rf.base)⟩
theorem two_do (h : Two B W p q D D' X) (hf : D.faults < 1000000) (hl : D.L.length < 1000000) (x : ActD) (hx : x.fits) :
    Calls Tryd.prog 15 #[.pointer (some ⟨p, 0, none⟩), actV x.kind x.block x.cell x.old x.new x.text] X fun e Y => e = .returned (gotV (doW D x) (doT D x)) ∧ Two B W p q (doN D x) D' Y := by
  obtain ⟨f, f', h1, h2⟩ := h
  refine (do_any X h1.hp hf hl x hx).mono fun e Y hr => ?_
  obtain ⟨f1, rfl, hp, hs⟩ := hr
  exact ⟨rfl, f1, f', h1.turn1 hp hs, h2.trans (hs.below h1.hp.size h1.hp.base)⟩
theorem two_rdo (h : Two B W p q D D' X) (hf : D'.faults < 1000000) (hl : D'.L.length < 1000000) (x : ActD) (hx : x.fits) :
    Calls Tryd.prog 16 #[.pointer (some ⟨q, 0, none⟩), actV x.kind x.block x.cell x.old x.new x.text] X fun e Y => e = .returned (gotV (doW D' x) (doT D' x)) ∧ Two B W p q D (doN D' x) Y := by
  obtain ⟨f, f', h1, h2⟩ := h
  refine (rdo_any X h1.rf hf hl x hx).mono fun e Y hr => ?_
  obtain ⟨f1, rfl, hp, hs⟩ := hr
  exact ⟨rfl, f, f1, h1.turn2 hp hs, h2.trans (hs.below h1.hp.size h1.rf.base)⟩
theorem two_faults {k : Nat} (h : Two B W p q D D' X) (hk : D.faults = k) : Calls Tryd.prog 17 #[.pointer (some ⟨p, 0, none⟩)] X fun e Y => e = .returned (.int .i64 k) ∧ X = Y := by
  subst hk
  obtain ⟨f, f', h1, h2⟩ := h
  exact faults_any X h1.hp
theorem two_locked {k : Bool} (h : Two B W p q D D' X) (hk : D.locked = k) : Calls Tryd.prog 18 #[.pointer (some ⟨p, 0, none⟩)] X fun e Y => e = .returned (.bool k) ∧ X = Y := by
  subst hk
  obtain ⟨f, f', h1, h2⟩ := h
  exact locked_any X h1.hp
theorem two_blocks {nl : Nat} (h : Two B W p q D D' X) (hs : D.L.length ≤ 200) (hk : (rowN 0 D.L).length = nl) : Calls Tryd.prog 20 #[.pointer (some ⟨p, 0, none⟩)] X fun e Y => ∃ a c, e = .returned (.slice a nl c) ∧ Lot Y 32 1 (.slice a nl c) nl ((rowN 0 D.L).map uval) ∧ Below X.heap.size X Y := by
  obtain ⟨f, f', h1, h2⟩ := h
  refine (blocks_any X h1.hp hs).mono fun e Y hr => ?_
  obtain ⟨a, n, c, rfl, hl, hb⟩ := hr
  have e1 : (rowN 0 D.L).length = n := by have := hl.1; simpa using this
  obtain rfl : n = nl := by omega
  exact ⟨a, c, rfl, hl, hb⟩
theorem two_rblocks {nl : Nat} (h : Two B W p q D D' X) (hk : (rowN 0 D'.L).length = nl) : Calls Tryd.prog 21 #[.pointer (some ⟨q, 0, none⟩)] X fun e Y => ∃ a c, e = .returned (.slice (some ⟨a, 0, none⟩) nl c) ∧ Lot Y 32 1 (.slice (some ⟨a, 0, none⟩) nl c) nl ((rowN 0 D'.L).map uval) ∧ Below X.heap.size X Y := by
  obtain ⟨f, f', h1, h2⟩ := h
  refine (rblocks_any X h1.rf).mono fun e Y hr => ?_
  obtain ⟨a, n, c, rfl, hl, hb⟩ := hr
  have e1 : (rowN 0 D'.L).length = n := by have := hl.1; simpa using this
  obtain rfl : n = nl := by omega
  exact ⟨a, c, rfl, hl, hb⟩
end
theorem rowN_few (i : Nat) (L : List BlkD) : (rowN i L).length ≤ L.length := by
  induction L generalizing i with
  | nil => simp [rowN]
  | cons a t ih =>
    have := ih (i + 1)
    simp only [rowN, List.length_cons]
    cases a.gone <;> simp <;> omega

/-! ### a plain reference -/
theorem plain_ref (W : World) : Rf (W.alloc (.cells #[.slice none 0 0, .bool false, .int .i64 0] 30)) W.heap.size W.heap.size emptyD (fun k => k = W.heap.size ∨ (Value.slice none 0 0).ownBlock = some k ∨ ∃ (j : Nat) (b : BlkD), ([] : List BlkD)[j]? = some b ∧ (0 : Nat) = k) :=
  ⟨.slice none 0 0, fun _ => 0, fun _ => 0, World.alloc_heap_new W _, Lot.nil _ _ _, fun j b hb => (by simp [emptyD] at hb), fun j k b c hb => (by simp [emptyD] at hb), rfl,
    fun k hk => (by
      rcases hk with h0 | h0 | ⟨j, b, hj, _⟩
      · exact Nat.le_of_eq h0.symm
      · cases h0
      · simp at hj),
    ⟨Nat.zero_le _, Nat.zero_le _⟩, fun j b hb => (by simp [emptyD] at hb)⟩
theorem Rf.widen {W : World} {B B' p : Nat} {D : HpD} {f : Nat → Prop} (h : Rf W B' p D f) (hB : B ≤ B') : Rf W B p D f := by
  obtain ⟨v, g, cp, h⟩ := h
  exact ⟨v, g, cp, h.own, h.row, h.lie, h.apart, h.foot, fun k hk => Nat.le_trans hB (h.base k hk), h.many, h.fits⟩
theorem plain_foot (X : World) : ∀ k, (k = X.heap.size ∨ (Value.slice none 0 0).ownBlock = some k ∨ ∃ (j : Nat) (b : BlkD), ([] : List BlkD)[j]? = some b ∧ (0 : Nat) = k) → k = X.heap.size := fun k hk => by
  rcases hk with h0 | h0 | ⟨j, b, hj, _⟩
  · exact h0
  · cases h0
  · simp at hj
theorem two_start {B p : Nat} {W X : World} {f : Nat → Prop} (h : Hp X B p emptyD f) (hb : Below B W X) :
    Two B W p X.heap.size emptyD emptyD (X.alloc (.cells #[.slice none 0 0, .bool false, .int .i64 0] 30)) := by
  have hb2 := below_alloc X (.cells #[.slice none 0 0, .bool false, .int .i64 0] 30)
  exact ⟨f, _, ⟨h.below hb2, (plain_ref X).widen h.size, fun k hk hk' => by have := plain_foot X k hk'; have := h.lt k hk; omega⟩, hb.trans (hb2.mono h.size)⟩

/-! ### a row of acts -/
/-- No more blocks than one more, no more faults than one more. -/
def Near (D D' : HpD) : Prop := D'.L.length ≤ D.L.length + 1 ∧ D'.faults ≤ D.faults + 1
theorem Near.same (D : HpD) : Near D D := ⟨by omega, by omega⟩
theorem Near.fault (D : HpD) : Near D D.fault := ⟨Nat.le_succ _, Nat.le_refl _⟩
theorem Near.word (D : HpD) (k : Nat) (i u : Int) : Near D (D.word k i u) := by
  unfold HpD.word
  split
  · exact Near.same D
  · exact ⟨by simp [HpD.at], by simp [HpD.at]⟩
theorem Near.lose (D : HpD) (k : Nat) : Near D (D.lose k) := by
  unfold HpD.lose
  split
  · exact Near.same D
  · exact ⟨by simp [HpD.at], by simp [HpD.at]⟩
theorem act_near (D : HpD) (x : ActD) : Near D (actN D x) := by
  unfold actN
  split
  · unfold loadD; split
    · exact Near.same D
    · exact Near.fault D
  split
  · unfold storeD; split
    · exact Near.word ..
    · exact Near.fault D
  split
  · unfold swapD; split
    · split
      · exact Near.word ..
      · exact Near.same D
    · exact Near.fault D
  split
  · unfold bumpD; split
    · exact Near.word ..
    · exact Near.fault D
  split
  · unfold makeD; split
    · exact ⟨by simp [HpD.add], by simp [HpD.add]⟩
    · exact Near.same D
  split
  · unfold wordsD; split
    · exact Near.same D
    · exact Near.fault D
  split
  · unfold dropD; split
    · exact Near.lose ..
    · exact Near.fault D
  split
  · exact ⟨by simp [HpD.lock], by simp [HpD.lock]⟩
  split
  · unfold unlockD; split
    · exact ⟨by simp [HpD.lock], by simp [HpD.lock]⟩
    · exact Near.fault D
  · exact Near.same D
theorem do_near (D : HpD) (x : ActD) : Near D (doN D x) := by
  unfold doN
  split
  · exact act_near D x
  · exact Near.same D
/-- The heap behind the first acts of a row. -/
def runA (D : HpD) (L : List ActD) (k : Nat) : HpD := (L.take k).foldl doN D
theorem runA_succ (D : HpD) {L : List ActD} {k : Nat} {x : ActD} (h : L[k]? = some x) : runA D L (k + 1) = doN (runA D L k) x := by
  unfold runA
  rw [List.take_add_one, h, Option.toList_some, List.foldl_append]
  rfl
theorem runA_few (D : HpD) (L : List ActD) (k : Nat) : (runA D L k).L.length ≤ D.L.length + k ∧ (runA D L k).faults ≤ D.faults + k := by
  induction k with
  | zero => exact ⟨Nat.le_refl _, Nat.le_refl _⟩
  | succ k ih =>
    cases h : L[k]? with
    | none =>
      have e : runA D L (k + 1) = runA D L k := by
        unfold runA
        rw [List.take_add_one, h]; simp
      rw [e]; omega
    | some o =>
      rw [runA_succ D h]
      have := do_near (runA D L k) o
      unfold Near at this
      omega
theorem runA_small (L : List ActD) (k : Nat) : (runA emptyD L k).faults ≤ k ∧ (runA emptyD L k).L.length ≤ k := by
  have := runA_few emptyD L k
  have e1 : emptyD.faults = 0 := rfl
  have e2 : emptyD.L.length = 0 := rfl
  omega

/-! ### answers, held against one another -/
theorem neqG_run (a b : Int) (s t : ByteArray) (w : World) : (binOp .neq 38 (gotV a s) (gotV b t)).run Tryd.prog w = .ok (.bool (!(a == b && s.toList == t.toList))) w := by
  have u32 := Tryd.underlying32
  have u9 := Tryd.underlying9
  have hS : Tryd.prog.underlying 38 = some (.struct (Tryd.prog.fieldsOf 38)) := by kernel_rfl
  have hp : Tryd.prog.stoodInHeld 38 = false := by kernel_rfl
  rw [run_neq_struct, show (10000 : Nat) = 9999 + 1 from rfl, run_equalIn_agg w 9999 38 _ _ hS hp]
  simp only [Program.fieldsOf, Tryd.underlying38]
  have a32 := Tryd.isAgg32
  have z32 := Tryd.sizeOf32
  have a9 := Tryd.isAgg9
  have z9 := Tryd.sizeOf9
  go_simp
  by_cases h1 : a = b <;> by_cases h6 : s.toList = t.toList <;> simp [h1, h6]
theorem neqG_same (a : Int) (s : ByteArray) (w : World) : (binOp .neq 38 (gotV a s) (gotV a s)).run Tryd.prog w = .ok (.bool false) w := by
  rw [neqG_run]; simp

/-! ### a region that draws its order: looks under a condition, and the quiet rest -/
section
variable {P : Program} {ops : Array Oper} {Q : Exit → Act → World → Prop} {md : Region.Mode} {S : World → Prop}
theorem wpAnyH_look {i : Nat} {oi : Oper} {v : Value} {fuel : Nat} {listed : Array Bool} {a : Act} {w : World} (d : Nat) (hi : ops[i]? = some oi)
    (hs : Region.noSelect ops = true) (hf : Region.free md ops listed i = true) (hr : (Region.ready md ops listed).contains i = true)
    (hQ : ∀ c a w v, Q (.panic c) (Act.put a oi.dst v) w → Q (.panic c) a w) (hd : oi.dst = some d) (hS : S w) (hy : YieldsIf P ops S oi v a)
    (h : wpAnyH P md ops Q S fuel (listed.setIfInBounds i true) { a with tmps := a.tmps.setIfInBounds d v } w) : wpAnyH P md ops Q S (fuel + 1) listed a w := by
  refine wpAnyH_take hi hs hf hr (fun c a w => hQ c a w v) hy hS ?_
  rw [hd]
  exact h
theorem wpAnyH_of_quiet {C : World → Prop} {Q1 : Act → Prop} (hC : ∀ w, C w → S w) (hQ : ∀ a w, C w → Q1 a → Q .normal a w) : ∀ (fuel : Nat) (listed : Array Bool) (a : Act) (w : World), C w →
    wpAnyQ P md ops C Q1 fuel listed a → wpAnyH P md ops Q S fuel listed a w
  | 0, _, _, _, hw, h => ⟨h.1, hQ _ _ hw h.2⟩
  | fuel + 1, _, _, _, hw, h => ⟨fun h0 => hQ _ _ hw (h.1 h0), fun i hi => wpOp_of_qOp hw (fun a' w' hw' hk => ⟨hC w' hw', wpAnyH_of_quiet hC hQ fuel _ a' w' hw' hk⟩) (h.2 i hi)⟩
theorem wpAnyH_lex_from {a : Act} {w : World} {listed : Array Bool} {fuel : Nat} (k : Nat) (l : List Oper) (hS : ∀ n, S (w.drewN n)) (hl : ops.toList.drop k = l) (hf : l.length = fuel)
    (hs : Region.noSelect ops = true) (hB : Region.lexFrom md ops fuel k listed = true)
    (h : wpQuiet P ops (fun w' => ∃ n, w' = w.drewN n) (fun a' => ∀ w', (∃ n, w' = w.drewN n) → Q .normal a' w') l a) : wpAnyH P md ops Q S fuel listed a w := by
  subst hf
  refine wpAnyH_of_quiet (C := fun w' => ∃ n, w' = w.drewN n) (Q1 := fun a' => ∀ w', (∃ n, w' = w.drewN n) → Q .normal a' w') (fun w' ⟨n, e⟩ => e ▸ hS n) (fun _ w' hw' h => h w' hw') _ _ _ _ ⟨0, rfl⟩ ?_
  refine wpAnyQ_lex hs l k listed a (fun j => ?_) hB h
  subst hl
  rw [List.getElem?_drop, Array.getElem?_toList]
end
end Go.Proofs.YtlgjolajnddpbaaDoor
