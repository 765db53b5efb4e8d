/-
  ident's sets of names: has, with, Add, Has, Of.
-/
import Derived.Test.YtkfnndhoccjffaaIdk
import Derived.Deep.RegionHeld3
import Derived.Deep.RegionLaw
import Derived.Deep.DrawnRows
import Derived.StillTailTactics
namespace Go.Proofs.Ytkfnndhoccjffaa
open Go Go.RowKit
attribute [local go_sem ↓] Go.wp_at_zero Go.wp_at_succ

theorem below_drew (w : World) : Below w.heap.size w w.drew := ⟨rfl, rfl, rfl, Nat.le_refl _, fun _ _ => rfl⟩

theorem map_some (b : Nat) (w : World) : (binOp .eql 67 (.map (some b)) (.map none)).run Try.prog w = .ok (.bool false) w := by kernel_rfl
theorem map_none (w : World) : (binOp .eql 67 (.map none) (.map none)).run Try.prog w = .ok (.bool true) w := by kernel_rfl

/-- A set's map: none yet, or one that has the names of L. -/
def Bag (W : World) (m : Option Nat) (n : Nat) (L : List IdD) : Prop := (m = none ∧ L = []) ∨ ∃ b, m = some b ∧ Setted W b n L

section
variable {W W' : World} {m : Option Nat} {n : Nat} {L : List IdD}
theorem Bag.below (h : Bag W m n L) (hb : Below W.heap.size W W') : Bag W' m n L := by
  rcases h with h | ⟨b, rfl, h⟩
  · exact .inl h
  · exact .inr ⟨b, rfl, h.stays (hb.block b h.lt)⟩
theorem Bag.look (h : Bag W m n L) (a : IdD) (ha : a.fits) : (Instr.lookup 67 (.map m) (.agg #[.int .i64 a.o, .int .i64 a.s]) true).run Try.prog W = .ok (.tuple #[.agg #[], .bool (decide (a ∈ L))]) W := by
  rcases h with ⟨rfl, rfl⟩ | ⟨b, rfl, h⟩
  · rw [look_none a ha]; simp
  · exact h.look a ha
end

theorem has_bag (m : Option Nat) (n : Nat) (L : List IdD) (a : IdD) (W : World) (h : Bag W m n L) (ha : a.fits) :
    Calls Try.prog 30 #[.map m, .agg #[.int .i64 a.o, .int .i64 a.s]] W (Says (decide (a ∈ L)) W) := by
  have hl := (h.below (below_alloc W (.cells #[.int .i64 a.o, .int .i64 a.s] 34))).look a ha
  obtain ⟨r, hr⟩ : ∃ r, decide (a ∈ L) = r := ⟨_, rfl⟩
  rw [hr] at hl ⊢
  obtain ⟨o, s⟩ := a
  simp only at hl
  clear h ha hr
  go_enter Try.func30, Try.ntmps30
  go_wp2
  go_ret
  exact Says.mk rfl ((below_alloc _ _).trans ((below_alloc _ _).mono (by simp)))

theorem Setted.mem {W : World} {b n : Nat} {L L' : List IdD} (h : Setted W b n L) (hl : ∀ a, a ∈ L' ↔ a ∈ L) : Setted W b n L' := by
  obtain ⟨D, h1, h2⟩ := h
  refine ⟨D, h1, fun a ha => ?_⟩
  rw [h2 a ha]
  simp only [hl a]
theorem Setted.mono {W : World} {b n n' : Nat} {L : List IdD} (h : Setted W b n L) (hn : n ≤ n') : Setted W b n' L := by
  obtain ⟨D, h1, h2⟩ := h; exact ⟨D, h1.mono hn, h2⟩

/-- What with leaves: one name more; nothing that lay below B has turned. -/
def WithD (B n : Nat) (L : List IdD) (W : World) (e : Ending) (W' : World) : Prop := ∃ b, e = .returned (.map (some b)) ∧ B ≤ b ∧ Setted W' b n L ∧ ∃ r, W.grownBy W' r ∧ (∀ k, r = some k → B ≤ k) ∧ (∀ k, r = some k → ∃ es clock, W.heap[k]? = some (.map es clock))

theorem with_some (B b n : Nat) (L : List IdD) (a : IdD) (W : World) (h : Setted W b n L) (hB : B ≤ b) (ha : a.fits) (hn : n ≤ 100000) :
    Calls Try.prog 34 #[.map (some b), .agg #[.int .i64 a.o, .int .i64 a.s]] W (WithD B (n + 1) (L ++ [a]) W) := by
  have hb := below_alloc W (.cells #[.int .i64 a.o, .int .i64 a.s] 34)
  obtain ⟨w', hr, hs, hg⟩ := (h.stays (hb.block b h.lt)).put (by unfold maxLen; omega) a ha
  have HE := Lib.hid (show WithD B (n + 1) (L ++ [a]) W (.returned (.map (some b))) w' from ⟨b, rfl, hB, hs, some b, (World.grownBy_alloc W _ _).trans hg, fun k e => by cases e; exact hB, fun k e => by cases e; exact h.tag⟩)
  obtain ⟨o, s⟩ := a
  simp only [IdD.val] at hr HE
  have hms := map_some
  have hmn := map_none
  clear h ha hb hs hg
  go_enter Try.func34, Try.ntmps34
  go_wp2
  go_ret
  exact HE.out

theorem with_none (B : Nat) (a : IdD) (W : World) (hB : B ≤ W.heap.size) (ha : a.fits) :
    Calls Try.prog 34 #[.map none, .agg #[.int .i64 a.o, .int .i64 a.s]] W (WithD B 1 [a] W) := by
  have h := Setted.made (W.alloc (.cells #[.int .i64 a.o, .int .i64 a.s] 34))
  obtain ⟨w', hr, hs, hg⟩ := h.put (by unfold maxLen; omega) a ha
  have hsz : (W.alloc (.cells #[.int .i64 a.o, .int .i64 a.s] 34)).heap.size = W.heap.size + 1 := by simp
  rw [hsz] at hr hs hg
  have HE := Lib.hid (show WithD B 1 [a] W (.returned (.map (some (W.heap.size + 1)))) w' from ⟨_, rfl, by omega, hs, none, ⟨hg.os, hg.tape, hg.output, Nat.le_trans (by simp; omega) hg.size, fun k hk _ => (hg.block k (by simp; omega) (by simp; omega)).trans (by rw [Below.heap_alloc _ _ _ (by simp; omega), Below.heap_alloc _ _ _ hk])⟩, (fun k e => by cases e), (fun k e => by cases e)⟩)
  obtain ⟨o, s⟩ := a
  simp only [IdD.val] at hr HE
  have hms := map_some
  have hmn := map_none
  have hmm := @run_makeMap Try.prog
  clear h ha hs hg hsz
  go_enter Try.func34, Try.ntmps34
  go_wp2
  go_ret
  exact HE.out

theorem with_bag (B : Nat) (m : Option Nat) (n : Nat) (L : List IdD) (a : IdD) (W : World) (h : Bag W m n L) (hB : ∀ b, m = some b → B ≤ b) (hB' : B ≤ W.heap.size) (ha : a.fits) (hn : n ≤ 100000) :
    Calls Try.prog 34 #[.map m, .agg #[.int .i64 a.o, .int .i64 a.s]] W (WithD B (n + 1) (L ++ [a]) W) := by
  rcases h with ⟨rfl, rfl⟩ | ⟨b, rfl, h⟩
  · refine (with_none B a W hB' ha).mono ?_
    rintro e w' ⟨b, rfl, h1, h2, h3⟩
    exact ⟨b, rfl, h1, h2.mono (by omega), h3⟩
  · exact with_some B b n L a W h (hB b rfl) ha hn

/-- At s lies a set with the names of L; its blocks stand at B or behind. -/
def SetAt (W : World) (B s n : Nat) (L : List IdD) : Prop := ∃ m, W.heap[s]? = some (.cells #[.map m] 69 (0, 0)) ∧ Bag W m n L ∧ B ≤ s ∧ ∀ b, m = some b → B ≤ b

section
variable {W W' : World} {B s n : Nat} {L : List IdD}
theorem SetAt.below (h : SetAt W B s n L) (hb : Below W.heap.size W W') : SetAt W' B s n L := by
  obtain ⟨m, h1, h2, h3, h4⟩ := h
  exact ⟨m, (hb.block s (Array.getElem?_eq_some_iff.1 h1).1).trans h1, h2.below hb, h3, h4⟩
theorem SetAt.lt (h : SetAt W B s n L) : s < W.heap.size := by
  obtain ⟨m, h1, h2, h3, h4⟩ := h
  exact (Array.getElem?_eq_some_iff.1 h1).1
end

theorem sethas_any (B s n : Nat) (L : List IdD) (a : IdD) (W : World) (h : SetAt W B s n L) (ha : a.fits) :
    Calls Try.prog 25 #[.pointer (some ⟨s, 0, none⟩), .agg #[.int .i64 a.o, .int .i64 a.s]] W (Says (decide (a ∈ L)) W) := by
  have hb := below_alloc W (.cells #[.int .i64 a.o, .int .i64 a.s] 34)
  have hk := World.alloc_heap_new W (.cells #[.int .i64 a.o, .int .i64 a.s] 34)
  obtain ⟨m, h1, h2, _⟩ := h.below hb
  have HC := Lib.hid (fun X (hX : Below (W.alloc (.cells #[.int .i64 a.o, .int .i64 a.s] 34)).heap.size (W.alloc (.cells #[.int .i64 a.o, .int .i64 a.s] 34)) X) => has_bag m n L a X (h2.below hX) ha)
  have HF := Lib.hid (show ∀ X, Below (W.alloc (.cells #[.int .i64 a.o, .int .i64 a.s] 34)).heap.size (W.alloc (.cells #[.int .i64 a.o, .int .i64 a.s] 34)) X → X.cell? ⟨s, 0, none⟩ = some (.map m) ∧ X.cell? ⟨W.heap.size, 0, none⟩ = some (.int .i64 a.o) ∧ X.cell? ⟨W.heap.size, 1, none⟩ = some (.int .i64 a.s) from fun X hX => by
    have e1 := (hX.block s (Array.getElem?_eq_some_iff.1 h1).1).trans h1
    have e2 := (hX.block W.heap.size (by simp)).trans hk
    exact ⟨(cell_of e1).trans rfl, (cell_of e2).trans rfl, (cell_of e2).trans rfl⟩)
  obtain ⟨r, hr⟩ : ∃ r, decide (a ∈ L) = r := ⟨_, rfl⟩
  rw [hr] at HC ⊢
  have HB := Lib.hid hb
  obtain ⟨o, i⟩ := a
  simp only at HC HF HB
  obtain ⟨c0, c1, c2⟩ := HF.out _ (Below.refl _ _)
  clear h ha hr hb hk h1 h2
  go_enter Try.func25, Try.ntmps25
  go_wp2_with fail
  obtain ⟨W1, hW1⟩ : ∃ W1, (W.alloc (.cells #[.int .i64 o, .int .i64 i] 34)) = W1 := ⟨_, rfl⟩
  rw [hW1] at HC HF HB c0 c1 c2 ⊢
  clear hW1
  go_region_held3 (fun w' => w'.cell? ⟨s, 0, none⟩ = some (.map m) ∧ w'.cell? ⟨W.heap.size, 0, none⟩ = some (.int .i64 o) ∧ w'.cell? ⟨W.heap.size, 1, none⟩ = some (.int .i64 i))
    (first
      | exact HF.out _ X1.out
      | exact HF.out _ (below_drew W1)
      | exact HF.out _ (Below.refl _ _))
    (first
      | (go_at_call 30; refine (HC.out _ (below_drew W1)).mono ?_; rintro e x1 ⟨rfl, hb⟩; have X1 := Lib.hid ((below_drew W1).trans hb); clear hb))
  go_wp2_with fail
  go_ret
  exact Says.mk rfl (HB.out.trans (X1.out.mono HB.out.size))

theorem heap_set1 {W : World} {p : Nat} {a u : Value} {t : TypeId} {fr : Nat × Nat} (h : W.heap[p]? = some (.cells #[a] t fr)) : (W.setCell ⟨p, 0, none⟩ u).heap[p]? = some (.cells #[u] t fr) := by
  obtain ⟨hlt, hk⟩ := Array.getElem?_eq_some_iff.1 h
  show (W.heap.modify p _)[p]? = _
  rw [Array.getElem?_eq_getElem (by rw [Array.size_modify]; exact hlt), Array.getElem_modify_self, hk]
  rfl

/-- What Add leaves. -/
def AddedS (B s n : Nat) (L : List IdD) (W : World) (e : Ending) (W' : World) : Prop := ∃ r, e = .returned (.bool r) ∧ SetAt W' B s n L ∧ Below B W W'

set_option maxHeartbeats 1000000 in
theorem setadd_any (B s n : Nat) (L : List IdD) (a : IdD) (W : World) (h : SetAt W B s n L) (ha : a.fits) (hn : n ≤ 100000) :
    Calls Try.prog 29 #[.pointer (some ⟨s, 0, none⟩), .agg #[.int .i64 a.o, .int .i64 a.s]] W (AddedS B s (n + 1) (L ++ [a]) W) := by
  have hBs : B ≤ s := by obtain ⟨_, _, _, h3, _⟩ := h; exact h3
  have hsl := h.lt
  have hb := below_alloc W (.cells #[.int .i64 a.o, .int .i64 a.s] 34)
  have hk := World.alloc_heap_new W (.cells #[.int .i64 a.o, .int .i64 a.s] 34)
  have hz : (W.alloc (.cells #[.int .i64 a.o, .int .i64 a.s] 34)).heap.size = W.heap.size + 1 := by simp
  have hS := h.below hb
  obtain ⟨W1, hW1⟩ : ∃ W1, (W.alloc (.cells #[.int .i64 a.o, .int .i64 a.s] 34)) = W1 := ⟨_, rfl⟩
  rw [hW1] at hb hk hS hz
  obtain ⟨m, h1, h2, _, h4⟩ := hS
  have HC := Lib.hid (fun X (hX : Below W1.heap.size W1 X) => has_bag m n L a X (h2.below hX) ha)
  have HW := Lib.hid (fun X (hX : Below W1.heap.size W1 X) => with_bag B m n L a X (h2.below hX) h4 (by have := hX.size; omega) ha hn)
  have HF := Lib.hid (show ∀ X, Below W1.heap.size W1 X → X.cell? ⟨s, 0, none⟩ = some (.map m) ∧ X.cell? ⟨W.heap.size, 0, none⟩ = some (.int .i64 a.o) ∧ X.cell? ⟨W.heap.size, 1, none⟩ = some (.int .i64 a.s) from fun X hX => by
    have e1 := (hX.block s (Array.getElem?_eq_some_iff.1 h1).1).trans h1
    have e2 := (hX.block W.heap.size (by omega)).trans hk
    exact ⟨(cell_of e1).trans rfl, (cell_of e2).trans rfl, (cell_of e2).trans rfl⟩)
  have HY := Lib.hid (show ∀ X, a ∈ L → Below W1.heap.size W1 X → AddedS B s (n + 1) (L ++ [a]) W (.returned (.bool false)) X from fun X hm hX => by
    refine ⟨false, rfl, ⟨m, (hX.block s (by omega)).trans h1, ?_, hBs, h4⟩, (hb.trans (hX.mono hb.size)).mono (by omega)⟩
    rcases h2.below hX with ⟨rfl, rfl⟩ | ⟨b, rfl, h5⟩
    · cases hm
    · exact .inr ⟨b, rfl, (h5.mem (fun x => by simp only [List.mem_append, List.mem_singleton]; exact ⟨fun h => h.elim id (fun e => e ▸ hm), .inl⟩)).mono (by omega)⟩)
  have HT := Lib.hid (show ∀ X e Y, Below W1.heap.size W1 X → WithD B (n + 1) (L ++ [a]) X e Y → ∃ b, e = .returned (.map (some b)) ∧ Y.cell? ⟨s, 0, none⟩ = some (.map m) ∧ Y.frozen? ⟨s, 0, none⟩ = false ∧ Y.cell? ⟨W.heap.size, 0, none⟩ = some (.int .i64 a.o) ∧ Y.cell? ⟨W.heap.size, 1, none⟩ = some (.int .i64 a.s) ∧ AddedS B s (n + 1) (L ++ [a]) W (.returned (.bool true)) (Y.setCell ⟨s, 0, none⟩ (.map (some b))) from fun X e Y hX hY => by
    obtain ⟨b, rfl, hBb, hs, r, hg, hr, ht⟩ := hY
    have e1 := (hX.block s (by omega)).trans h1
    have e2 := (hX.block W.heap.size (by omega)).trans hk
    have hX2 := hX.size
    have n1 : some s ≠ r := fun e => by obtain ⟨es, c, h⟩ := ht s e.symm; rw [e1] at h; cases h
    have n2 : some W.heap.size ≠ r := fun e => by obtain ⟨es, c, h⟩ := ht _ e.symm; rw [e2] at h; cases h
    have f1 := (hg.block s (by omega) n1).trans e1
    have f2 := (hg.block W.heap.size (by omega) n2).trans e2
    have hbs : b ≠ s := fun e => by obtain ⟨es, c, h⟩ := hs.tag; rw [e, f1] at h; cases h
    refine ⟨b, rfl, (cell_of f1).trans rfl, by simp [World.frozen?, f1], (cell_of f2).trans rfl, (cell_of f2).trans rfl, true, rfl, ⟨some b, heap_set1 f1, .inr ⟨b, rfl, hs.stays (Below.heap_setCell _ _ _ _ hbs)⟩, hBs, fun b' e => by cases e; exact hBb⟩, ?_⟩
    have hb1 : Below B W X := (hb.trans (hX.mono hb.size)).mono (by omega)
    have hb2 : Below B X Y := (Below.refl B X).grown hg (by omega) (fun k e => hr k e)
    exact (hb1.trans hb2).setCell hBs _)
  obtain ⟨r, hr⟩ : ∃ r, decide (a ∈ L) = r := ⟨_, rfl⟩
  rw [hr] at HC
  have HM := Lib.hid (fun (e : r = true) => of_decide_eq_true (hr.trans e))
  obtain ⟨o, i⟩ := a
  simp only at HC HW HF HT
  obtain ⟨c0, c1, c2⟩ := HF.out _ (Below.refl _ _)
  clear h ha hr hb hk h1 h2 h4 hz hBs hsl
  go_enter Try.func29, Try.ntmps29
  go_wp2_with fail
  clear hW1
  go_region_held3 (fun w' => w'.cell? ⟨s, 0, none⟩ = some (.map m) ∧ w'.cell? ⟨W.heap.size, 0, none⟩ = some (.int .i64 o) ∧ w'.cell? ⟨W.heap.size, 1, none⟩ = some (.int .i64 i))
    (first
      | exact HF.out _ X1.out
      | exact HF.out _ (below_drew W1)
      | exact HF.out _ (Below.refl _ _))
    (first
      | (go_at_call 30; refine (HC.out _ (below_drew W1)).mono ?_; rintro e x1 ⟨rfl, hb⟩; have X1 := Lib.hid ((below_drew W1).trans hb); clear hb))
  cases r
  · obtain ⟨d0, d1, d2⟩ := HF.out _ X1.out
    clear c0 c1 c2
    go_wp2_with fail
    go_region_law (first
      | (go_simp; go_at_call 34; refine (HW.out _ (X1.out.trans ((below_drew x1).mono X1.out.size))).mono ?_; intro e x2 hy; obtain ⟨b, rfl, g0, g1, g2, g3, hy⟩ := HT.out _ _ _ (X1.out.trans ((below_drew x1).mono X1.out.size)) hy; have HE := Lib.hid hy; clear hy))
    all_goals
      go_wp2_with fail
      go_ret
      exact HE.out
  · have HE := Lib.hid (HY.out _ (HM.out rfl) X1.out)
    go_wp2_with fail
    go_ret
    exact HE.out

/-- At p, a slice's address, lie the names L. -/
def Si (W : World) (p : Option Addr) (L : List IdD) : Prop :=
  ∀ j (h : j < L.length), ∃ b o, p = some ⟨b, o, none⟩ ∧ W.cell? ⟨b, o + j * 2, none⟩ = some (.int .i64 L[j].o) ∧ W.cell? ⟨b, o + j * 2 + 1, none⟩ = some (.int .i64 L[j].s)
theorem Si.nil (W : World) (p : Option Addr) : Si W p [] := fun _ h => absurd h (Nat.not_lt_zero _)
theorem Si.grow {W W' : World} {p : Option Addr} {L : List IdD} (h : Si W p L) (hb : Below W.heap.size W W') : Si W' p L := fun j hj => by
  obtain ⟨b, o, rfl, c1, c2⟩ := h j hj
  exact ⟨b, o, rfl, (hb.cell (p := ⟨b, _, none⟩) (cell_lt c1)).trans c1, (hb.cell (p := ⟨b, _, none⟩) (cell_lt c2)).trans c2⟩

/-- What Of leaves. -/
def OfD (L : List IdD) (W : World) (e : Ending) (W' : World) : Prop := ∃ s, e = .returned (.pointer (some ⟨s, 0, none⟩)) ∧ SetAt W' W.heap.size s L.length L ∧ Below W.heap.size W W'

set_option maxHeartbeats 1000000 in
theorem of_any (p : Option Addr) (n c : Nat) (L : List IdD) (W : World) (h : Si W p L) (hn : L.length = n) (hb : n ≤ 10000) (hf : ∀ a ∈ L, a.fits) :
    Calls Try.prog 24 #[.slice p n c] W (OfD L W) := by
  have HS := Lib.hid (fun X (hX : Below W.heap.size W X) => h.grow hX)
  have HN := Lib.hid hn
  have HF := Lib.hid hf
  have H0 := Lib.hid (show SetAt (W.alloc (.cells #[.map none] 69)) W.heap.size W.heap.size 0 (L.take 0) from ⟨none, World.alloc_heap_new W _, .inl ⟨rfl, rfl⟩, Nat.le_refl _, fun b e => by cases e⟩)
  have HB0 := Lib.hid (below_alloc W (.cells #[.map none] 69))
  clear h hn hf
  go_enter Try.func24, Try.ntmps24
  go_wp2_with fail
  go_loopw [10] (fun i wr => ∃ k : Nat, i = .int .i64 k ∧ k ≤ n ∧ Hid (SetAt wr W.heap.size W.heap.size k (L.take k)) ∧ Hid (Below W.heap.size W wr)) (fun i _ => n - (intOf i).toNat)
  case atStart => exact ⟨0, rfl, Nat.zero_le _, H0, HB0⟩
  case round =>
    clear H0 HB0
    obtain ⟨k, rfl, hkn, hS, hB⟩ := hrel
    by_cases hlt : k < n
    · have hkL : k < L.length := by rw [HN.out]; exact hlt
      obtain ⟨b, o, rfl, c1, c2⟩ := HS.out wr hB.out k hkL
      have hfit := HF.out _ (List.getElem_mem hkL)
      have HE := Lib.hid (List.take_succ_eq_append_getElem hkL)
      obtain ⟨a, ha⟩ : ∃ a, L[k] = a := ⟨_, rfl⟩
      rw [ha] at c1 c2 HE hfit
      have HAdd := Lib.hid (setadd_any W.heap.size W.heap.size k (L.take k) a (wr.alloc (.cells #[.int .i64 a.o, .int .i64 a.s] 34)) (hS.out.below (below_alloc _ _)) hfit (by omega))
      have HB1 := Lib.hid (hB.out.alloc hB.out.size (.cells #[.int .i64 a.o, .int .i64 a.s] 34))
      rw [← HE.out] at HAdd
      clear ha hkL hfit
      have hltz : (k : Int) < (n : Int) := by omega
      have h0 : (0 : Int) ≤ (k : Int) := by omega
      go_wp2_with fail
      refine HAdd.out.mono ?_
      rintro e w3 ⟨r, rfl, hS3, hB3⟩
      have HS3 := Lib.hid hS3
      have HB3 := Lib.hid (HB1.out.trans hB3)
      clear hS3 hB3
      go_wp2_with fail
      go_roundw
      case rel => exact ⟨k + 1, by go_num, by omega, HS3, HB3⟩
      case measure => simp [intOf]; omega
    · obtain rfl : k = n := by omega
      have HE := Lib.hid (show OfD L W (.returned (.pointer (some ⟨W.heap.size, 0, none⟩))) wr from ⟨_, rfl, by have := hS.out; rw [List.take_of_length_le (by rw [HN.out]; exact Nat.le_refl _)] at this; rw [HN.out]; exact this, hB.out⟩)
      go_wp2_with fail
      go_ret
      exact HE.out

end Go.Proofs.Ytkfnndhoccjffaa
