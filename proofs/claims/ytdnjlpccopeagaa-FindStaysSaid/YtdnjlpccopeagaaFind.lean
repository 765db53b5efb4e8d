/-
  find's routine as it lies: its methods Act and Result.
-/
import Derived.Test.YtdnjlpccopeagaaMalone
import Derived.Test.YtdnjlpccopeagaaClone17
import Derived.Test.YtdnjlpccopeagaaCfg
import Derived.Test.YtdnjlpccopeagaaNum
namespace Go.Proofs.Ytdnjlpccopeagaa
open Go Go.RowKit
attribute [local go_sem ↓] Go.wp_at_zero Go.wp_at_succ

theorem neqA_run (k b c o n k' b' c' o' n' : Int) (t t' : ByteArray) (w : World) : (binOp .neq 31 (actV k b c o n t) (actV k' b' c' o' n' t')).run Try.prog w = .ok (.bool (!(k == k' && (b == b' && (c == c' && (o == o' && (n == n' && t.toList == t'.toList))))))) w := by
  have u3 := Try.underlying3
  have u32 := Try.underlying22
  have u9 := Try.underlying9
  have hS : Try.prog.underlying 31 = some (.struct (Try.prog.fieldsOf 31)) := by kernel_rfl
  have hp : Try.prog.stoodInHeld 31 = false := by kernel_rfl
  rw [run_neq_struct, show (10000 : Nat) = 9999 + 1 from rfl, run_equalIn_agg w 9999 31 _ _ hS hp]
  simp only [Program.fieldsOf, Try.underlying31]
  have a3 := Try.isAgg3
  have z3 := Try.sizeOf3
  have a32 := Try.isAgg22
  have z32 := Try.sizeOf22
  have a9 := Try.isAgg9
  have z9 := Try.sizeOf9
  go_simp
  by_cases h1 : k = k' <;> by_cases h2 : b = b' <;> by_cases h3 : c = c' <;> by_cases h4 : o = o' <;> by_cases h5 : n = n' <;> by_cases h6 : t.toList = t'.toList <;> simp [h1, h2, h3, h4, h5, h6]
theorem neqA_same (k b c o n : Int) (t : ByteArray) (w : World) : (binOp .neq 31 (actV k b c o n t) (actV k b c o n t)).run Try.prog w = .ok (.bool false) w := by
  rw [neqA_run]; simp
/-- What was found, compared. -/
theorem neqF_run (k s k' s' : Int) (w : World) : (binOp .neq 35 (.agg #[.int .i64 k, .int .i64 s]) (.agg #[.int .i64 k', .int .i64 s'])).run Try.prog w = .ok (.bool (!(k == k' && s == s'))) w := by
  have u3 := Try.underlying3
  have hS : Try.prog.underlying 35 = some (.struct (Try.prog.fieldsOf 35)) := by kernel_rfl
  have hp : Try.prog.stoodInHeld 35 = false := by kernel_rfl
  rw [run_neq_struct, show (10000 : Nat) = 9999 + 1 from rfl, run_equalIn_agg w 9999 35 _ _ hS hp]
  simp only [Program.fieldsOf, Try.underlying35]
  have a3 := Try.isAgg3
  have z3 := Try.sizeOf3
  go_simp
  by_cases h1 : k = k' <;> by_cases h2 : s = s' <;> simp [h1, h2]

/-- A routine as it lies: its config, its key, the key's sum, the place on the way, the act that is to be done, what was found. -/
structure FindR where
  a : Int
  p : Int
  s : Int
  q : Int
  v : Int
  x : Int
  key : ByteArray
  n : Int
  i : Int
  y : ActD
  k : Int
  sh : Int
abbrev fndC (d : FindR) : Array Value := #[.int .i64 d.a, .int .i64 d.p, .int .i64 d.s, .int .i64 d.q, .int .i64 d.v, .int .u64 d.x, .string d.key, .int .u64 d.n, .int .i64 d.i, .int .i64 d.y.kind, .int .u64 (d.y.block : Int), .int .i64 d.y.cell, .int .u64 d.y.old, .int .u64 d.y.new, .string d.y.text, .int .i64 d.k, .int .i64 d.sh]
abbrev fndO (d : FindR) : Obj := .cells (fndC d) 62 (0, 0)
def FindR.zero : FindR := ⟨0, 0, 0, 0, 0, 0, ⟨#[]⟩, 0, 0, noAct, 0, 0⟩
section
variable {X : World} {r : Nat} {d : FindR}
theorem fnd_at (h : X.heap[r]? = some (fndO d)) :
    (X.cell? ⟨r, 0, none⟩ = some (.int .i64 d.a) ∧ X.cell? ⟨r, 1, none⟩ = some (.int .i64 d.p) ∧ X.cell? ⟨r, 2, none⟩ = some (.int .i64 d.s) ∧ X.cell? ⟨r, 3, none⟩ = some (.int .i64 d.q) ∧ X.cell? ⟨r, 4, none⟩ = some (.int .i64 d.v) ∧ X.cell? ⟨r, 5, none⟩ = some (.int .u64 d.x)) ∧
    (X.cell? ⟨r, 6, none⟩ = some (.string d.key) ∧ X.cell? ⟨r, 7, none⟩ = some (.int .u64 d.n) ∧ X.cell? ⟨r, 8, none⟩ = some (.int .i64 d.i)) ∧
    (X.cell? ⟨r, 9, none⟩ = some (.int .i64 d.y.kind) ∧ X.cell? ⟨r, 10, none⟩ = some (.int .u64 (d.y.block : Int)) ∧ X.cell? ⟨r, 11, none⟩ = some (.int .i64 d.y.cell) ∧ X.cell? ⟨r, 12, none⟩ = some (.int .u64 d.y.old) ∧ X.cell? ⟨r, 13, none⟩ = some (.int .u64 d.y.new) ∧ X.cell? ⟨r, 14, none⟩ = some (.string d.y.text)) ∧
    (X.cell? ⟨r, 15, none⟩ = some (.int .i64 d.k) ∧ X.cell? ⟨r, 16, none⟩ = some (.int .i64 d.sh)) :=
  ⟨⟨(cell_of h).trans rfl, (cell_of h).trans rfl, (cell_of h).trans rfl, (cell_of h).trans rfl, (cell_of h).trans rfl, (cell_of h).trans rfl⟩, ⟨(cell_of h).trans rfl, (cell_of h).trans rfl, (cell_of h).trans rfl⟩, ⟨(cell_of h).trans rfl, (cell_of h).trans rfl, (cell_of h).trans rfl, (cell_of h).trans rfl, (cell_of h).trans rfl, (cell_of h).trans rfl⟩, (cell_of h).trans rfl, (cell_of h).trans rfl⟩
theorem fnd_free (h : X.heap[r]? = some (fndO d)) (i : Nat) : X.frozen? ⟨r, i, none⟩ = false := by simp [World.frozen?, h]
end

/-! ### Act -/
theorem below_turned {n : Nat} {W X : World} (h : Below n W X) : Below n W X.drew := ⟨h.os, h.tape, h.output, h.size, h.block⟩
def ActE (y : ActD) (q : Bool) (W : World) (e : Ending) (W' : World) : Prop := e = .returned (.tuple #[actOf y, .bool q]) ∧ Below W.heap.size W W'
theorem act_end {W X : World} {n : Nat} {x : ActD} {is : Bool} {T : Array Value} (h : X.heap[n]? = some noO) (hb : Below W.heap.size W X) (hn : W.heap.size ≤ n) (h2 : T.getD 2 undef = .pointer (some ⟨n, 0, none⟩)) (h3 : T.getD 3 undef = .bool is) :
    bodyPost Try.prog Try.f9 (ActE x is W) .ret { tmps := T, defers := [] }
      (((((((X.setCell ⟨n, 0, none⟩ (.int .i64 x.kind)).setCell ⟨n, 1, none⟩ (.int .u64 (x.block : Int))).setCell ⟨n, 2, none⟩ (.int .i64 x.cell)).setCell ⟨n, 3, none⟩ (.int .u64 x.old)).setCell ⟨n, 4, none⟩ (.int .u64 x.new)).setCell ⟨n, 5, none⟩ (.string x.text)).drew) := by
  have h6 := set6 h (.int .i64 x.kind) (.int .u64 (x.block : Int)) (.int .i64 x.cell) (.int .u64 x.old) (.int .u64 x.new) (.string x.text)
  have hb6 := below_turned (below6 hb hn (.int .i64 x.kind) (.int .u64 (x.block : Int)) (.int .i64 x.cell) (.int .u64 x.old) (.int .u64 x.new) (.string x.text))
  generalize ((((((X.setCell ⟨n, 0, none⟩ (.int .i64 x.kind)).setCell ⟨n, 1, none⟩ (.int .u64 (x.block : Int))).setCell ⟨n, 2, none⟩ (.int .i64 x.cell)).setCell ⟨n, 3, none⟩ (.int .u64 x.old)).setCell ⟨n, 4, none⟩ (.int .u64 x.new)).setCell ⟨n, 5, none⟩ (.string x.text)) = Y at h6 hb6 ⊢
  have h7 : Y.drew.heap[n]? = some (.cells (actCells x) 31 (0, 0)) := h6
  exact bodyPost_ret (v := .tuple #[actOf x, .bool is]) (by rw [results_cell2 (by rfl), h2, h3]; simp only [asAddr, Sem.run_pure, Result.andThen_ok, load_act h7]) rfl ⟨rfl, hb6⟩

set_option maxRecDepth 100000 in
set_option maxHeartbeats 4000000 in
theorem fact_any (W : World) {r : Nat} {d : FindR} (h : W.heap[r]? = some (fndO d)) {y : ActD} {q : Bool} (hy : d.y = y) (hrun : ∀ w : World, (binOp .neq 31 (actV y.kind y.block y.cell y.old y.new y.text) (actV 0 0 0 0 0 ⟨#[]⟩)).run Try.prog w = .ok (.bool q) w) :
    Calls Try.prog 9 #[.pointer (some ⟨r, 0, none⟩)] W (ActE y q W) := by
  subst hy
  have HB := Lib.hid (below_alloc W noO)
  have HN := Lib.hid (World.alloc_heap_new W noO)
  obtain ⟨z0, z1, z2, z3, z4, z5⟩ := six_free HN.out
  obtain ⟨m0, m1, m2, m3, m4, m5⟩ := six_at HN.out
  obtain ⟨-, -, ⟨a0, a1, a2, a3, a4, a5⟩, -⟩ := fnd_at ((HB.out.block r (heap_at_lt h)).trans h)
  have hne : W.heap.size ≠ r := by have := heap_at_lt h; omega
  clear h
  go_enter Try.func9, Try.ntmps9
  go_wp2_with fail
  generalize W.alloc noO = w2 at HB HN m0 m1 m2 m3 m4 m5 z0 z1 z2 z3 z4 z5 a0 a1 a2 a3 a4 a5 ⊢
  go_region
  all_goals
    go_wp2_with fail
    exact act_end HN.out HB.out (Nat.le_refl _) rfl rfl
theorem two_free {X : World} {n : Nat} {t : TypeId} {a0 a1 : Value} (h : X.heap[n]? = some (.cells #[a0, a1] t (0, 0))) : X.frozen? ⟨n, 0, none⟩ = false ∧ X.frozen? ⟨n, 1, none⟩ = false := by simp [World.frozen?, h]
set_option maxRecDepth 100000 in
set_option maxHeartbeats 800000 in
/-- No routine. -/
theorem fact_nil (W : World) : Calls Try.prog 9 #[.pointer none] W (ActE noAct false W) := by
  have HB := Lib.hid (below_alloc W noO)
  have HN := Lib.hid (World.alloc_heap_new W noO)
  obtain ⟨z0, z1, z2, z3, z4, z5⟩ := six_free HN.out
  obtain ⟨m0, m1, m2, m3, m4, m5⟩ := six_at HN.out
  go_enter Try.func9, Try.ntmps9
  go_wp2_with fail
  refine bodyPost_ret (v := .tuple #[actOf noAct, .bool false]) (by rw [results_cell2 (by rfl)]; go_simp; exact ⟨rfl, rfl, rfl, rfl, rfl, rfl⟩) rfl ⟨rfl, ?_⟩
  exact HB.out

/-! ### Result -/
abbrev fouV (k s : Int) : Value := .agg #[.int .i64 k, .int .i64 s]
abbrev fouO (k s : Int) : Obj := .cells #[.int .i64 k, .int .i64 s] 35 (0, 0)
theorem load_fou {X : World} {n : Nat} {k s : Int} (h : X.heap[n]? = some (fouO k s)) : (loadVar 35 ⟨n, 0, none⟩).run Try.prog X = .ok (fouV k s) X := by
  have m0 := (cell_of (i := 0) h).trans rfl
  have m1 := (cell_of (i := 1) h).trans rfl
  go_simp
def ResE (k s : Int) (q : Bool) (W : World) (e : Ending) (W' : World) : Prop := e = .returned (.tuple #[fouV k s, .bool q]) ∧ Below W.heap.size W W'
theorem res_end {W X : World} {n : Nat} {k s : Int} {is : Bool} {T : Array Value} (h : X.heap[n]? = some (fouO 0 0)) (hb : Below W.heap.size W X) (hn : W.heap.size ≤ n) (h2 : T.getD 2 undef = .pointer (some ⟨n, 0, none⟩)) (h3 : T.getD 3 undef = .bool is) :
    bodyPost Try.prog Try.f10 (ResE k s is W) .ret { tmps := T, defers := [] } (((X.setCell ⟨n, 0, none⟩ (.int .i64 k)).setCell ⟨n, 1, none⟩ (.int .i64 s)).drew) := by
  have h6 : ((X.setCell ⟨n, 0, none⟩ (.int .i64 k)).setCell ⟨n, 1, none⟩ (.int .i64 s)).heap[n]? = some (fouO k s) := heap_setAt (heap_setAt h)
  have hb6 := below_turned ((hb.setCell (p := ⟨n, 0, none⟩) hn (.int .i64 k)).setCell (p := ⟨n, 1, none⟩) hn (.int .i64 s))
  generalize ((X.setCell ⟨n, 0, none⟩ (.int .i64 k)).setCell ⟨n, 1, none⟩ (.int .i64 s)) = Y at h6 hb6 ⊢
  have h7 : Y.drew.heap[n]? = some (fouO k s) := h6
  exact bodyPost_ret (v := .tuple #[fouV k s, .bool is]) (by rw [results_cell2 (by rfl), h2, h3]; simp only [asAddr, Sem.run_pure, Result.andThen_ok, load_fou h7]) rfl ⟨rfl, hb6⟩

set_option maxRecDepth 100000 in
set_option maxHeartbeats 4000000 in
theorem fres_any (W : World) {r : Nat} {d : FindR} (h : W.heap[r]? = some (fndO d)) {k s : Int} {q : Bool} (hk : d.k = k) (hs : d.sh = s) (hrun : (!(k == 0 && s == 0)) = q) :
    Calls Try.prog 10 #[.pointer (some ⟨r, 0, none⟩)] W (ResE k s q W) := by
  subst hk hs
  have HB := Lib.hid (below_alloc W (fouO 0 0))
  have HN := Lib.hid (World.alloc_heap_new W (fouO 0 0))
  have hrn := fun w => (neqF_run d.k d.sh 0 0 w).trans (by rw [hrun])
  obtain ⟨z0, z1⟩ := two_free HN.out
  obtain ⟨m0, m1⟩ := two_at HN.out
  obtain ⟨-, -, -, a0, a1⟩ := fnd_at ((HB.out.block r (heap_at_lt h)).trans h)
  have hne : W.heap.size ≠ r := by have := heap_at_lt h; omega
  clear h hrun
  go_enter Try.func10, Try.ntmps10
  go_wp2_with fail
  generalize W.alloc (fouO 0 0) = w2 at HB HN m0 m1 z0 z1 a0 a1 ⊢
  go_region
  all_goals
    go_wp2_with fail
    exact res_end HN.out HB.out (Nat.le_refl _) rfl rfl

end Go.Proofs.Ytdnjlpccopeagaa
