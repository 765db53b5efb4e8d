/-
  stir.span and the function that it hands out: the numbers from one on that are below another, one behind the other, whatever the caller does with them.
-/
import Derived.Test.YtpfbgojgikkgbaaIter
import Derived.Shelf.Abstract
import Derived.Shelf.RegionOpen
import Derived.WalkKit
import Derived.OwnWalkIn
import Derived.TacticsInMore
import Derived.LoopNIn
import Derived.LoopIn
import Derived.Outline
import Derived.Test.YtpfbgojgikkgbaaProg
namespace Go.Proofs.Ytpfbgojgikkgbaa
open Go Go.RowKit Go.Shelf
attribute [local go_sem] Oper.semAt_some

/-- The numbers from a on that are below b. -/
def spanList (a b : Int) : List Int := (List.range (b - a).toNat).map fun (i : Nat) => a + (i : Int)

theorem spanList_nil {a b : Int} (h : b ≤ a) : spanList a b = [] := by
  unfold spanList; rw [show (b - a).toNat = 0 by omega]; rfl
theorem spanList_snoc {a x : Int} (h : a ≤ x) : spanList a (x + 1) = spanList a x ++ [x] := by
  unfold spanList
  rw [show (x + 1 - a).toNat = (x - a).toNat + 1 by omega, List.range_succ, List.map_append]
  simp; omega
theorem spanList_append {a x b : Int} (h : a ≤ x) (h' : x ≤ b) : spanList a b = spanList a x ++ spanList x b := by
  obtain ⟨n, hn⟩ : ∃ n : Nat, b = x + n := ⟨(b - x).toNat, by omega⟩
  subst hn
  clear h'
  induction n with
  | zero => simp [spanList_nil (Int.le_refl x)]
  | succ n ih =>
    have e : x + ((n + 1 : Nat) : Int) = x + (n : Int) + 1 := by omega
    rw [e, spanList_snoc (by omega), spanList_snoc (by omega), ih, List.append_assoc]
theorem spanList_cons {a b : Int} (h : a < b) : spanList a b = a :: spanList (a + 1) b := by
  rw [spanList_append (a := a) (x := a + 1) (by omega) (by omega), spanList_snoc (Int.le_refl a), spanList_nil (Int.le_refl a)]; rfl
theorem spanList_length (a b : Int) : (spanList a b).length = (b - a).toNat := by simp [spanList]

set_option maxRecDepth 100000 in
set_option maxHeartbeats 1000000 in
/-- What span hands out: the numbers from the first on that are below the other, till the caller has enough. -/
theorem span1_iter (F : Fence) (n : Nat) (hf : F.fn 21) (hro : F.round = none) (hn : 1 ≤ n) (b1 b2 : Nat) (a b : Int) (ha : -9223372036854775808 ≤ a) (hb : b ≤ 9223372036854775807) :
    Iter F n Try.prog 21 #[.pointer (some ⟨b1, 0, none⟩), .pointer (some ⟨b2, 0, none⟩)] (fun x : Int => #[.int .i64 x]) (spanList a b)
      (fun f W => W.cell? ⟨b1, 0, none⟩ = some (.int .i64 a) ∧ W.cell? ⟨b2, 0, none⟩ = some (.int .i64 b) ∧ ¬ f b2) := by
  intro l J Jx W f hJ hJx bJ hpre hY h0
  obtain ⟨hc1, hc2, hnb⟩ := hpre
  have hlt2 : b2 < W.heap.size := by obtain ⟨o, ho, _⟩ := cells_of_cell hc2; exact (Array.getElem?_eq_some_iff.1 ho).1
  refine callsIn_of_wp Try.func21 rfl hf ?_ hro
  simp only [Try.ntmps21, List.size_toArray, List.length_cons, List.length_nil, Nat.reduceAdd, Nat.reduceSub, Array.replicate_succ, Array.replicate_zero, List.push_toArray, List.append_toArray, List.nil_append, List.cons_append]
  gi_wp2
  gi_loopw [4] (fun p wr => ∃ (x : Int) (fk : Nat → Prop), p = .int .i64 x ∧ a ≤ x ∧ (x ≤ b ∨ x = a) ∧ J (spanList a x) fk wr ∧ Step f fk W wr)
    (fun p wr => (b - intOf p).toNat)
  case atStart =>
    exact ⟨a, f, rfl, Int.le_refl _, .inr rfl, by rw [spanList_nil (Int.le_refl a)]; exact h0, Step.refl _ _⟩
  case round =>
    obtain ⟨x, fk, rfl, hax, hxb, hJs, hst⟩ := hrel
    have hc2' : wr.cell? ⟨b2, 0, none⟩ = some (.int .i64 b) := (World.cell?_of_block (hst.block b2 hlt2 hnb)).trans hc2
    by_cases hlt : x < b
    · have hcut : spanList a b = spanList a x ++ x :: spanList (x + 1) b := by rw [spanList_append hax (by omega), spanList_cons hlt]
      obtain ⟨fn, tmps, assign, body, hy, hR⟩ := hY _ x _ fk wr hcut hJs
      clear hcut
      gi_wp2
      refine hR.mono ?_
      rintro e W3 (⟨rfl, f3, hs3, hJ3⟩ | ⟨rfl, f3, hs3, hJx3⟩)
      · gi_wp2
        go_roundw
        case rel => exact ⟨x + 1, f3, rfl, by omega, .inl (by omega), by rw [spanList_snoc hax]; exact hJ3, hst.trans hs3⟩
        case measure => simp [intOf]; omega
      · gi_wp2
        refine bodyPost_ret (results_none rfl _ _ _) rfl ?_
        refine ⟨⟨_, rfl⟩, .inr ⟨spanList a x ++ [x], f3, ?_, hst.trans hs3, hJx3⟩⟩
        rw [spanList_append (b := b) (x := x + 1) (by omega) (by omega), spanList_snoc hax]
        exact List.prefix_append _ _
    · gi_wp2
      go_end0
      refine ⟨⟨_, rfl⟩, .inl ⟨fk, hst, ?_⟩⟩
      rcases hxb with h | h
      · obtain rfl : x = b := by omega
        exact hJs
      · rw [h, spanList_nil (Int.le_refl a)] at hJs
        rw [spanList_nil (by omega)]; exact hJs

set_option maxHeartbeats 1000000 in
/-- span itself: two boxes. -/
theorem span_in (F : Fence) (n : Nat) (hf : F.fn 20) (hro : F.round = none) (a b : Int) (w : World) :
    CallsIn F n Try.prog 20 #[.int .i64 a, .int .i64 b] w fun e w' =>
      e = .returned (.func (.func 21) #[] #[.pointer (some ⟨w.heap.size, 0, none⟩), .pointer (some ⟨w.heap.size + 1, 0, none⟩)]) ∧
      w' = (w.alloc (.cells #[.int .i64 a] 3)).alloc (.cells #[.int .i64 b] 3) := by
  refine callsIn_of_wp Try.func20 rfl hf ?_ hro
  simp only [Try.ntmps20, List.size_toArray, List.length_cons, List.length_nil, Nat.reduceAdd, Nat.reduceSub, Array.replicate_succ, Array.replicate_zero, List.push_toArray, List.append_toArray, List.nil_append, List.cons_append]
  gi_wp2
  go_ret
  exact ⟨rfl, rfl⟩

end Go.Proofs.Ytpfbgojgikkgbaa
