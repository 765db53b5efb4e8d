/-
  The chapter's example.
-/
import Derived.Test.YtpbkfmdbpihhpaaDalone
namespace Go.Proofs.Ytpbkfmdbpihhpaa
open Go Go.RowKit
attribute [local go_sem ↓] Go.wp_at_zero Go.wp_at_succ

/-- A routine that was just made, beside a heap. -/
theorem Pl.start {Y : World} {B p r c : Nat} {la : Option Addr} {L : List ActD} {D : HpD} {fh : Nat → Prop} (h : Hp Y B p D fh) (hr : Y.heap[r]? = some (.cells #[.slice la L.length c, .int .i64 0, .slice none 0 0] 30 (0, 0))) (hf : ¬ fh r) (hB : B ≤ r)
    (hS : Sa Y la L) (ha : ∀ a, la = some a → a.block < Y.heap.size ∧ ¬ fh a.block ∧ a.block ≠ r) : Pl Y B p r la c L ⟨D, 0, []⟩ (fun j => fh j ∨ (j = r ∨ (Value.slice none 0 0).ownBlock = some j)) := by
  refine ⟨fh, _, h, ⟨.slice none 0 0, hr, Lot.nil _ _ _, rfl, fun j hj => ?_⟩, fun j hj hj' => ?_, rfl, hS, fun a h1 => ⟨(ha a h1).1, fun h2 => ?_⟩⟩
  · rcases hj with rfl | hj
    · exact hB
    · cases hj
  · rcases hj' with rfl | hj'
    · exact hf hj
    · cases hj'
  · rcases h2 with h2 | rfl | h2
    · exact (ha a h1).2.1 h2
    · exact (ha a h1).2.2 rfl
    · cases h2

/-- Where nothing more may be done nothing more is. -/
theorem stop_stays {L : List ActD} {S : PlS} {n : Nat} (h : stepP L (stP L S n) = none) : ∀ m, toP L S (n + m) = toP L S n ∧ stP L S (n + m) = stP L S n
  | 0 => ⟨rfl, rfl⟩
  | m + 1 => by
    obtain ⟨h1, h2⟩ := stop_stays h m
    refine ⟨?_, ?_⟩
    · show toP L S (n + m) ++ (stepP L (stP L S (n + m))).toList = _
      rw [h1, h2, h]; simp
    · show advP L (stP L S (n + m)) = _
      unfold advP
      rw [h2, h]

def aLock : ActD := ⟨8, 0, 0, 0, 0, ⟨#[]⟩⟩
def aFree : ActD := ⟨9, 0, 0, 0, 0, ⟨#[]⟩⟩
def aMake : ActD := ⟨5, 0, 0, 0, 0, ⟨#[]⟩⟩
def aNone : ActD := ⟨0, 0, 0, 0, 0, ⟨#[]⟩⟩
theorem r_lock : rightA aLock = true := by simp [rightA, zeroA, restA, aLock]; decide
theorem r_make : rightA aMake = true := by simp [rightA, zeroA, restA, aMake]; decide
theorem r_none : rightA aNone = true := by simp [rightA, zeroA, restA, aNone]; decide
def L1 : List ActD := [aLock, aLock, aFree]
def L2 : List ActD := [aMake, aNone]
def S1 : PlS := ⟨emptyD, 0, []⟩
def D1 : HpD := ⟨[], true, 0⟩
def S2 : PlS := ⟨D1, 0, []⟩
theorem few1 : FewP L1 S1 := ⟨by decide, by decide, by decide, by decide, rfl, fun x hx => by
  simp only [L1, List.mem_cons, List.not_mem_nil, or_false] at hx
  rcases hx with rfl | rfl | rfl <;> (unfold ActD.fits; decide)⟩
theorem few2 : FewP L2 S2 := ⟨by decide, by decide, by decide, by decide, rfl, fun x hx => by
  simp only [L2, List.mem_cons, List.not_mem_nil, or_false] at hx
  rcases hx with rfl | rfl <;> (unfold ActD.fits; decide)⟩
theorem st1 : (toP L1 S1 9).length = 1 ∧ stP L1 S1 9 = ⟨D1, 1, [(1, ⟨#[]⟩)]⟩ := by
  have e0 : stepP L1 S1 = some ⟨aLock, 1, ⟨#[]⟩⟩ := by
    show (if readyA emptyD aLock then some (⟨aLock, doW emptyD aLock, doT emptyD aLock⟩ : StepD) else none) = _
    have : readyA emptyD aLock = true := by unfold readyA; rw [r_lock]; rfl
    rw [this]
    have : doW emptyD aLock = 1 := by unfold doW; rw [r_lock]; rfl
    rw [this]
    have : doT emptyD aLock = ⟨#[]⟩ := by unfold doT; rw [r_lock]; rfl
    rw [this]; rfl
  have e1 : stP L1 S1 1 = ⟨D1, 1, [(1, ⟨#[]⟩)]⟩ := by
    show advP L1 S1 = _
    unfold advP
    rw [e0]
    show (⟨doN emptyD aLock, 1, [(doW emptyD aLock, doT emptyD aLock)]⟩ : PlS) = _
    have : doW emptyD aLock = 1 := by unfold doW; rw [r_lock]; rfl
    rw [this]
    have : doT emptyD aLock = ⟨#[]⟩ := by unfold doT; rw [r_lock]; rfl
    rw [this]
    have : doN emptyD aLock = D1 := by unfold doN; rw [r_lock]; rfl
    rw [this]
  have e2 : stepP L1 (stP L1 S1 1) = none := by
    rw [e1]
    show (if readyA D1 aLock then some (⟨aLock, doW D1 aLock, doT D1 aLock⟩ : StepD) else none) = _
    have : readyA D1 aLock = false := by unfold readyA; rw [r_lock]; rfl
    rw [this]; rfl
  have e3 := stop_stays e2 8
  have e4 : toP L1 S1 1 = [⟨aLock, 1, ⟨#[]⟩⟩] := by show [] ++ (stepP L1 S1).toList = _; rw [e0]; rfl
  exact ⟨by rw [show 9 = 1 + 8 from rfl, e3.1, e4]; rfl, by rw [show 9 = 1 + 8 from rfl, e3.2, e1]⟩
def D2 : HpD := ⟨[⟨[], ⟨#[]⟩, false⟩], true, 0⟩
theorem st2 : (toP L2 S2 9).length = 2 ∧ stP L2 S2 9 = ⟨D2, 2, [(1, ⟨#[]⟩), (0, ⟨#[]⟩)]⟩ := by
  have w0 : doW D1 aMake = 1 := by unfold doW; rw [r_make]; rfl
  have t0 : doT D1 aMake = ⟨#[]⟩ := by unfold doT; rw [r_make]; rfl
  have n0 : doN D1 aMake = D2 := by unfold doN; rw [r_make]; rfl
  have w1 : doW D2 aNone = 0 := by unfold doW; rw [r_none]; rfl
  have t1 : doT D2 aNone = ⟨#[]⟩ := by unfold doT; rw [r_none]; rfl
  have n1 : doN D2 aNone = D2 := by unfold doN; rw [r_none]; rfl
  have e0 : stepP L2 S2 = some ⟨aMake, 1, ⟨#[]⟩⟩ := by
    show (if readyA D1 aMake then some (⟨aMake, doW D1 aMake, doT D1 aMake⟩ : StepD) else none) = _
    have : readyA D1 aMake = true := by unfold readyA; rw [r_make]; rfl
    rw [this, w0, t0]; rfl
  have e1 : stP L2 S2 1 = ⟨D2, 1, [(1, ⟨#[]⟩)]⟩ := by
    show advP L2 S2 = _
    unfold advP
    rw [e0]
    show (⟨doN D1 aMake, 1, [(doW D1 aMake, doT D1 aMake)]⟩ : PlS) = _
    rw [w0, t0, n0]
  have e2 : stepP L2 (stP L2 S2 1) = some ⟨aNone, 0, ⟨#[]⟩⟩ := by
    rw [e1]
    show (if readyA D2 aNone then some (⟨aNone, doW D2 aNone, doT D2 aNone⟩ : StepD) else none) = _
    have : readyA D2 aNone = true := by unfold readyA; rw [r_none]; rfl
    rw [this, w1, t1]; rfl
  have e3 : stP L2 S2 2 = ⟨D2, 2, [(1, ⟨#[]⟩), (0, ⟨#[]⟩)]⟩ := by
    show advP L2 (stP L2 S2 1) = _
    unfold advP
    rw [e2]
    show nextP L2 (stP L2 S2 1) = _
    rw [e1]
    show (⟨doN D2 aNone, 2, [(1, ⟨#[]⟩)] ++ [(doW D2 aNone, doT D2 aNone)]⟩ : PlS) = _
    rw [w1, t1, n1]; rfl
  have e4 : stepP L2 (stP L2 S2 2) = none := by rw [e3]; rfl
  have e5 := stop_stays e4 7
  have e6 : (toP L2 S2 2).length = 2 := by
    show (([] ++ (stepP L2 S2).toList) ++ (stepP L2 (stP L2 S2 1)).toList).length = 2
    rw [e0, e2]; rfl
  exact ⟨by rw [show 9 = 2 + 7 from rfl, e5.1, e6], by rw [show 9 = 2 + 7 from rfl, e5.2, e3]⟩

theorem aw1 {Y : World} {B p r : Nat} {la : Option Addr} {f : Nat → Prop} (h : Pl Y B p r la 3 L1 S1 f) : Calls Try.prog 11 #[.pointer (some ⟨p, 0, none⟩), rowV r, .int .i64 9] Y fun e W' =>
    e = .returned (.tuple #[.int .i64 1, .bool false]) ∧ Below B Y W' ∧ ∃ fh, Hp W' B p D1 fh := by
  refine (alone_any h few1 9 (by decide)).mono fun e W' he => ?_
  obtain ⟨rfl, g', hp, hs⟩ := he
  rw [st1.2] at hp
  refine ⟨by rw [st1.1, st1.2]; rfl, hs.below h.size h.base, ?_⟩
  obtain ⟨fh, fr, h1, _⟩ := hp
  exact ⟨fh, h1⟩
theorem aw2 {Y : World} {B p r : Nat} {la : Option Addr} {f : Nat → Prop} (h : Pl Y B p r la 2 L2 S2 f) : Calls Try.prog 11 #[.pointer (some ⟨p, 0, none⟩), rowV r, .int .i64 9] Y fun e W' =>
    e = .returned (.tuple #[.int .i64 2, .bool true]) ∧ Below B Y W' ∧ ∃ g c, W'.cell? ⟨r, 2, none⟩ = some (.slice (some ⟨g, 0, none⟩) 2 c) ∧ W'.cell? ⟨g, 0, none⟩ = some (.int .u64 1) := by
  refine (alone_any h few2 9 (by decide)).mono fun e W' he => ?_
  obtain ⟨rfl, g', hp, hs⟩ := he
  rw [st2.2] at hp
  refine ⟨by rw [st2.1, st2.2]; rfl, hs.below h.size h.base, ?_⟩
  obtain ⟨fh, fr, _, ⟨gv, hr⟩, _⟩ := hp
  obtain ⟨g, c, rfl, hat⟩ := hr.lot.cells (by show 0 < 2; omega)
  exact ⟨g, c, hr.cells.2.2.1, hat 0 _ rfl⟩

abbrev threeO : Obj := .cells #[.int .i64 8, .int .u64 0, .int .i64 0, .int .u64 0, .int .u64 0, .string ⟨#[]⟩, .int .i64 8, .int .u64 0, .int .i64 0, .int .u64 0, .int .u64 0, .string ⟨#[]⟩, .int .i64 9, .int .u64 0, .int .i64 0, .int .u64 0, .int .u64 0, .string ⟨#[]⟩] 40 (0, 0)
abbrev twoO : Obj := .cells #[.int .i64 5, .int .u64 0, .int .i64 0, .int .u64 0, .int .u64 0, .string ⟨#[]⟩, .int .i64 0, .int .u64 0, .int .i64 0, .int .u64 0, .int .u64 0, .string ⟨#[]⟩] 40 (0, 0)
abbrev rowO (la : Option Addr) (n c : Nat) : Obj := .cells #[.slice la n c, .int .i64 0, .slice none 0 0] 30 (0, 0)
theorem three_at {Y : World} {b : Nat} (h : Y.heap[b]? = some threeO) : Sa Y (some ⟨b, 0, none⟩) L1 := by
  intro j hj
  have hj' : j = 0 ∨ j = 1 ∨ j = 2 := by have : j < 3 := hj; omega
  rcases hj' with rfl | rfl | rfl
  all_goals exact ⟨b, 0, rfl, (cell_of h).trans rfl, (cell_of h).trans rfl, (cell_of h).trans rfl, (cell_of h).trans rfl, (cell_of h).trans rfl, (cell_of h).trans rfl⟩
theorem two_acts {Y : World} {b : Nat} (h : Y.heap[b]? = some twoO) : Sa Y (some ⟨b, 0, none⟩) L2 := by
  intro j hj
  have hj' : j = 0 ∨ j = 1 := by have : j < 2 := hj; omega
  rcases hj' with rfl | rfl
  all_goals exact ⟨b, 0, rfl, (cell_of h).trans rfl, (cell_of h).trans rfl, (cell_of h).trans rfl, (cell_of h).trans rfl, (cell_of h).trans rfl, (cell_of h).trans rfl⟩
/-- Acts and a routine are laid beside a heap. -/
theorem lay_row {X : World} {B p n : Nat} {L : List ActD} {D : HpD} {fh : Nat → Prop} {o : Obj} (h : Hp X B p D fh) (hl : L.length = n) (hS : Sa (X.alloc o) (some ⟨X.heap.size, 0, none⟩) L) :
    Pl ((X.alloc o).alloc (rowO (some ⟨X.heap.size, 0, none⟩) n n)) B p (X.heap.size + 1) (some ⟨X.heap.size, 0, none⟩) n L ⟨D, 0, []⟩ (fun j => fh j ∨ (j = X.heap.size + 1 ∨ (Value.slice none 0 0).ownBlock = some j)) := by
  subst hl
  have b1 := below_alloc X o
  have b2 := below_alloc (X.alloc o) (rowO (some ⟨X.heap.size, 0, none⟩) L.length L.length)
  have n2 := World.alloc_heap_new (X.alloc o) (rowO (some ⟨X.heap.size, 0, none⟩) L.length L.length)
  rw [World.size_alloc] at n2
  have hb : Below X.heap.size X ((X.alloc o).alloc (rowO (some ⟨X.heap.size, 0, none⟩) L.length L.length)) := b1.trans (b2.mono b1.size)
  refine Pl.start (h.below hb) n2 (fun hf => by have := h.lt _ hf; omega) (by have := h.size; omega) (hS.grow b2) (fun a ha => ?_)
  cases ha
  exact ⟨by simp; omega, fun hf => by have := h.lt _ hf; exact absurd this (Nat.lt_irrefl _), by show X.heap.size ≠ X.heap.size + 1; omega⟩

theorem stuck_any (X : World) : Calls Try.prog 10 #[] X fun e W' => e = .returned (.slice (some ⟨X.heap.size, 0, none⟩) 3 3) ∧ W' = X.alloc threeO := by
  go_enter Try.func10, Try.ntmps10
  go_wp2
  go_ret
  exact ⟨rfl, rfl⟩

set_option maxRecDepth 100000 in
set_option maxHeartbeats 2000000 in
theorem awake_any (W : World) : Calls Try.prog 5 #[] W (Says true W) := by
  go_enter Try.func5, Try.ntmps5
  go_wp2_with fail
  refine (new_any _).mono ?_
  rintro en w1 ⟨p, f1, rfl, h1, hb1⟩
  have H1 := Lib.hid h1
  have B1 := Lib.hid hb1
  clear h1 hb1
  go_wp2_with fail
  refine (stuck_any _).mono ?_
  rintro en w1' ⟨rfl, rfl⟩
  have P1 := Lib.hid (lay_row (n := 3) H1.out rfl (three_at (World.alloc_heap_new w1 threeO)))
  have B2 := Lib.hid (B1.out.trans (((below_alloc w1 threeO).trans ((below_alloc _ (rowO (some ⟨w1.heap.size, 0, none⟩) 3 3)).mono (by simp))).mono B1.out.size))
  go_wp2_with fail
  refine (aw1 P1.out).mono ?_
  rintro en w2 ⟨rfl, hb2, f2, h2⟩
  have H2 := Lib.hid h2
  have B3 := Lib.hid (B2.out.trans hb2)
  clear hb2 h2 P1 B2
  go_wp2_with fail
  have P2 := Lib.hid (lay_row (n := 2) H2.out rfl (two_acts (World.alloc_heap_new w2 twoO)))
  have B4 := Lib.hid (B3.out.trans (((below_alloc w2 twoO).trans ((below_alloc _ (rowO (some ⟨w2.heap.size, 0, none⟩) 2 2)).mono (by simp))).mono B3.out.size))
  refine (aw2 P2.out).mono ?_
  rintro en w3 ⟨rfl, hb3, g, c, hc1, hc2⟩
  have B5 := Lib.hid (B4.out.trans hb3)
  clear hb3 P2 B4
  have HC := Lib.hid (fun X (hX : Below w3.heap.size w3 X) => (show X.cell? ⟨w2.heap.size + 1, 2, none⟩ = some (.slice (some ⟨g, 0, none⟩) 2 c) ∧ X.cell? ⟨g, 0, none⟩ = some (.int .u64 1) from
    ⟨(hX.cell (p := ⟨_, 2, none⟩) (cell_lt hc1)).trans hc1, (hX.cell (p := ⟨g, 0, none⟩) (cell_lt hc2)).trans hc2⟩))
  clear hc1 hc2
  go_wp2_with fail
  refine (alone_nil _ 9 (by decide) _).mono ?_
  rintro en w4 ⟨rfl, hb4⟩
  have B6 := Lib.hid hb4
  clear hb4
  go_wp2_with fail
  refine (next_nil _ _).mono ?_
  rintro en w5 ⟨rfl, hb5⟩
  have B7 := Lib.hid ((B6.out.trans (hb5.mono B6.out.size)).trans ((below_alloc w5 zeroO).mono (Nat.le_trans B6.out.size hb5.size)))
  clear hb5
  obtain ⟨c1, c2⟩ := HC.out _ B7.out
  go_wp2_with fail
  go_ret
  exact Says.mk rfl (B5.out.trans (B7.out.mono B5.out.size))

end Go.Proofs.Ytpbkfmdbpihhpaa
