/-
  ask and hand: a routine is asked for its next act, and handed an answer; a deferred call that recovers stands behind both.
-/
import Derived.Test.YtpbkfmdbpihhpaaPrt
import Derived.Defers
import Derived.Recover
import Derived.Laws.Pointers
namespace Go.Proofs.Ytpbkfmdbpihhpaa
open Go Go.RowKit
attribute [local go_sem ↓] Go.wp_at_zero Go.wp_at_succ

abbrev rowV (r : Nat) : Value := .iface 27 (.pointer (some ⟨r, 0, none⟩))

theorem askrec (w : World) : CallsD Try.prog 18 #[] .returning w fun e u' w' => e = .returned (.tuple #[]) ∧ u' = .returning ∧ w' = w := by
  refine callsD_of_wpS Try.func18 rfl fun c₀ cs hu => ?_
  apply wpS_region
  simp [wpOpsS, go_sem, recoverD, hu, Try.ntmps18, bodyPostS, results, Try.results18]
  cases c₀
  simp_all
theorem handrec (w : World) : CallsD Try.prog 31 #[] .returning w fun e u' w' => e = .returned (.tuple #[]) ∧ u' = .returning ∧ w' = w := by
  refine callsD_of_wpS Try.func31 rfl fun c₀ cs hu => ?_
  apply wpS_region
  simp [wpOpsS, go_sem, recoverD, hu, Try.ntmps31, bodyPostS, results, Try.results31]
  cases c₀
  simp_all

theorem row_method (n r : Nat) (w : World) : (method (n + 1) 27 (.pointer (some ⟨r, 0, none⟩)) "Act").run Try.prog w = .ok (52, .pointer (some ⟨r, 0, none⟩)) w := by kernel_rfl

set_option maxRecDepth 100000 in
set_option maxHeartbeats 2000000 in
theorem ask_nil (W : World) : Calls Try.prog 14 #[.nilIface] W fun e W' => e = .returned (.tuple #[zeroV, .bool false, .bool false]) ∧ Below W.heap.size W W' := by
  go_enter_defers Try.func14, Try.ntmps14
  go_wp2_with fail
  simp [bodyPostD, Leaves, go_sem]
  exact ⟨_, by rw [results_cell3 (by rfl)]; go_simp, rfl, below_alloc W _⟩

theorem set6 {X : World} {n : Nat} {t : TypeId} {a0 a1 a2 a3 a4 a5 : Value} (h : X.heap[n]? = some (.cells #[a0, a1, a2, a3, a4, a5] t (0, 0))) (v0 v1 v2 v3 v4 v5 : Value) :
    ((((((X.setCell ⟨n, 0, none⟩ v0).setCell ⟨n, 1, none⟩ v1).setCell ⟨n, 2, none⟩ v2).setCell ⟨n, 3, none⟩ v3).setCell ⟨n, 4, none⟩ v4).setCell ⟨n, 5, none⟩ v5).heap[n]? = some (.cells #[v0, v1, v2, v3, v4, v5] t (0, 0)) :=
  heap_setAt (heap_setAt (heap_setAt (heap_setAt (heap_setAt (heap_setAt h)))))
theorem load_act {X : World} {n : Nat} {x : ActD} (h : X.heap[n]? = some (.cells (actCells x) 40 (0, 0))) : (loadVar 40 ⟨n, 0, none⟩).run Try.prog X = .ok (actOf x) X := by
  unfold actCells at h
  have m0 := (cell_of (i := 0) h).trans rfl
  have m1 := (cell_of (i := 1) h).trans rfl
  have m2 := (cell_of (i := 2) h).trans rfl
  have m3 := (cell_of (i := 3) h).trans rfl
  have m4 := (cell_of (i := 4) h).trans rfl
  have m5 := (cell_of (i := 5) h).trans rfl
  go_simp
theorem ask_end {W X : World} {n : Nat} {x : ActD} {is : Bool} {T : Array Value} (h : X.heap[n]? = some (.cells (actCells x) 40 (0, 0))) (hb : Below W.heap.size W X) (h2 : T.getD 2 undef = .pointer (some ⟨n, 0, none⟩)) (h3 : T.getD 3 undef = .bool is) (h4 : T.getD 4 undef = .bool true) :
    bodyPostD Try.prog Try.f14 (fun e W' => e = .returned (.tuple #[actOf x, .bool is, .bool true]) ∧ Below W.heap.size W W') .ret { tmps := T, defers := [{ target := .fn (.func 18) #[], args := #[] }] } X := by
  refine leaves_cons (f := 18) (args := #[]) (by simp) (by simp [go_sem]) ?_
  refine (askrec _).mono ?_
  rintro e u' w'' ⟨rfl, rfl, rfl⟩
  simp only [Leaves, settle]
  refine ⟨_, by rw [results_cell3 (by rfl), h2, h3, h4]; simp only [asAddr, Sem.run_pure, Result.andThen_ok, load_act h], rfl, hb⟩

set_option maxRecDepth 100000 in
set_option maxHeartbeats 2000000 in
/-- Over whatever Act tells. -/
theorem ask_any (W : World) (r : Nat) (x : ActD) (is : Bool) (HA : Hid (∀ X, Below W.heap.size W X → Calls Try.prog 52 #[.pointer (some ⟨r, 0, none⟩)] X fun e X' => e = .returned (.tuple #[actOf x, .bool is]) ∧ Below X.heap.size X X')) :
    Calls Try.prog 14 #[rowV r] W fun e W' => e = .returned (.tuple #[actOf x, .bool is, .bool true]) ∧ Below W.heap.size W W' := by
  have hm := row_method 205 r
  go_enter_defers Try.func14, Try.ntmps14
  go_wp2_with fail
  have HB := Lib.hid (below_alloc W (.cells #[.int .i64 0, .int .u64 0, .int .i64 0, .int .u64 0, .int .u64 0, .string ⟨#[]⟩] 40))
  have HN := Lib.hid (World.alloc_heap_new W (.cells #[.int .i64 0, .int .u64 0, .int .i64 0, .int .u64 0, .int .u64 0, .string ⟨#[]⟩] 40))
  generalize W.alloc (.cells #[.int .i64 0, .int .u64 0, .int .i64 0, .int .u64 0, .int .u64 0, .string ⟨#[]⟩] 40) = X1 at HB HN ⊢
  refine (HA.out _ HB.out).mono ?_
  rintro en X3 ⟨rfl, hb⟩
  have HB3 := Lib.hid (HB.out.trans (hb.mono HB.out.size))
  have h3 := (hb.block _ (heap_at_lt HN.out)).trans HN.out
  clear hb
  have m0 := (cell_of (i := 0) h3).trans rfl
  have m1 := (cell_of (i := 1) h3).trans rfl
  have m2 := (cell_of (i := 2) h3).trans rfl
  have m3 := (cell_of (i := 3) h3).trans rfl
  have m4 := (cell_of (i := 4) h3).trans rfl
  have m5 := (cell_of (i := 5) h3).trans rfl
  have z0 : X3.frozen? ⟨W.heap.size, 0, none⟩ = false := by simp [World.frozen?, h3]
  have z1 : X3.frozen? ⟨W.heap.size, 1, none⟩ = false := by simp [World.frozen?, h3]
  have z2 : X3.frozen? ⟨W.heap.size, 2, none⟩ = false := by simp [World.frozen?, h3]
  have z3 : X3.frozen? ⟨W.heap.size, 3, none⟩ = false := by simp [World.frozen?, h3]
  have z4 : X3.frozen? ⟨W.heap.size, 4, none⟩ = false := by simp [World.frozen?, h3]
  have z5 : X3.frozen? ⟨W.heap.size, 5, none⟩ = false := by simp [World.frozen?, h3]
  go_wp2_with fail
  exact ask_end (set6 (set6 h3 _ _ _ _ _ _) _ _ _ _ _ _) ((((((((((((HB3.out.setCell (Nat.le_refl _) _).setCell (Nat.le_refl _) _).setCell (Nat.le_refl _) _).setCell (Nat.le_refl _) _).setCell (Nat.le_refl _) _).setCell (Nat.le_refl _) _).setCell (Nat.le_refl _) _).setCell (Nat.le_refl _) _).setCell (Nat.le_refl _) _).setCell (Nat.le_refl _) _).setCell (Nat.le_refl _) _).setCell (Nat.le_refl _) _) rfl rfl rfl

theorem row_take (n r : Nat) (w : World) : (method (n + 1) 27 (.pointer (some ⟨r, 0, none⟩)) "Take").run Try.prog w = .ok (53, .pointer (some ⟨r, 0, none⟩)) w := by kernel_rfl

set_option maxRecDepth 100000 in
set_option maxHeartbeats 2000000 in
theorem hand_any {W : World} {B r k : Nat} {lv : Value} {G : List (Int × ByteArray)} {fr : Nat → Prop} (h : Row W B r lv k G fr) (hB : B ≤ W.heap.size) (hk : k ≤ 1000000) (hG : G.length ≤ 1000000) (x : Int) (t : ByteArray) :
    Calls Try.prog 17 #[.func (.method "Take") #[rowV r] #[], gotV x t] W (TakeR B r lv (k + 1) (G ++ [(x, t)]) fr W) := by
  have hm := row_take 205 r
  have HT := Lib.hid (fun X (hX : Below W.heap.size W X) => take_any (h.below hX) (Nat.le_trans hB hX.size) hk hG x t)
  clear h hB hk hG
  go_enter_defers Try.func17, Try.ntmps17
  go_wp2_with fail
  refine (HT.out _ (below_alloc _ _)).mono ?_
  rintro en w1 ⟨fr', rfl, h1, s1⟩
  have HE := Lib.hid (show TakeR B r lv (k + 1) (G ++ [(x, t)]) fr W (.returned (.tuple #[])) w1 from ⟨fr', rfl, h1, (Step.of_below (below_alloc W _)).trans s1⟩)
  clear h1 s1
  go_wp2_with fail
  refine leaves_cons (f := 31) (args := #[]) (by simp) (by simp [go_sem]) ?_
  refine (handrec _).mono ?_
  rintro e u' w'' ⟨rfl, rfl, rfl⟩
  simp only [Leaves, settle]
  exact ⟨_, results_none rfl _ _ _, HE.out⟩

end Go.Proofs.Ytpbkfmdbpihhpaa
