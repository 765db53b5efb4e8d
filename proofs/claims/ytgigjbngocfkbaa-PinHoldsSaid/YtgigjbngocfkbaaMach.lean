/-
  A kind of routine, whatever it is: what its Act tells and its Take takes; drive's ask and hand of it.
-/
import Derived.Test.YtgigjbngocfkbaaActready
import Derived.Test.YtgigjbngocfkbaaHeldo
import Derived.Defers
import Derived.Recover
import Derived.Laws.Pointers
namespace Go.Proofs.Ytgigjbngocfkbaa
open Go Go.RowKit
attribute [local go_sem ↓] Go.wp_at_zero Go.wp_at_succ

theorem results_cell2 {fn : Func} {p q : Tmp} {ty : TypeId} (h : fn.results = #[.cell p ty, .tmp q]) (tmps : Array Value) (P : Program) (w : World) :
    (results fn tmps).run P w = ((asAddr (tmps.getD p undef)).run P w).andThen fun a w₁ => ((loadVar ty a).run P w₁).andThen fun v w₂ => .ok (.tuple #[v, tmps.getD q undef]) w₂ := by
  simp [results, h]
theorem results_cell3 {fn : Func} {p q r : Tmp} {ty : TypeId} (h : fn.results = #[.cell p ty, .tmp q, .tmp r]) (tmps : Array Value) (P : Program) (w : World) :
    (results fn tmps).run P w = ((asAddr (tmps.getD p undef)).run P w).andThen fun a w₁ => ((loadVar ty a).run P w₁).andThen fun v w₂ => .ok (.tuple #[v, tmps.getD q undef, tmps.getD r undef]) w₂ := by
  simp [results, h]

abbrev zeroV : Value := actV 0 0 0 0 0 ⟨#[]⟩
abbrev actOf (x : ActD) : Value := actV x.kind x.block x.cell x.old x.new x.text
def noAct : ActD := ⟨0, 0, 0, 0, 0, ⟨#[]⟩⟩
/-- An answer that may be. -/
def Good (w : Int) (t : ByteArray) : Prop := (0 ≤ w ∧ w < 18446744073709551616) ∧ t.size ≤ 281474976710656

/-- A kind of routine: its type and its two functions; what it does next, and where it stands behind an answer; how it lies at r, what it writes to being f's blocks. -/
structure Mach (σ : Type) where
  tid : TypeId
  fA : FuncId
  fT : FuncId
  next : σ → Option ActD
  take : σ → Int → ByteArray → σ
  At : World → Nat → Nat → σ → (Nat → Prop) → Prop
  metA : ∀ (n r : Nat) (w : World), (method (n + 1) tid (.pointer (some ⟨r, 0, none⟩)) "Act").run Try.prog w = .ok (fA, .pointer (some ⟨r, 0, none⟩)) w
  metT : ∀ (n r : Nat) (w : World), (method (n + 1) tid (.pointer (some ⟨r, 0, none⟩)) "Take").run Try.prog w = .ok (fT, .pointer (some ⟨r, 0, none⟩)) w
  entA : ∀ (args : Array Value) (w : World), (callFunc fA args).run Try.prog w = .ok (.enter fA args) w
  entT : ∀ (args : Array Value) (w : World), (callFunc fT args).run Try.prog w = .ok (.enter fT args) w
  stays : ∀ {W W' : World} {B r : Nat} {s : σ} {f : Nat → Prop}, At W B r s f → (∀ k, f k → W'.heap[k]? = W.heap[k]?) → At W' B r s f
  lt : ∀ {W : World} {B r : Nat} {s : σ} {f : Nat → Prop}, At W B r s f → ∀ k, f k → k < W.heap.size
  base : ∀ {W : World} {B r : Nat} {s : σ} {f : Nat → Prop}, At W B r s f → ∀ k, f k → B ≤ k
  self : ∀ {W : World} {B r : Nat} {s : σ} {f : Nat → Prop}, At W B r s f → f r
  fits : ∀ {W : World} {B r : Nat} {s : σ} {f : Nat → Prop} {x : ActD}, At W B r s f → next s = some x → x.fits
  act : ∀ {W : World} {B r : Nat} {s : σ} {f : Nat → Prop}, At W B r s f → Calls Try.prog fA #[.pointer (some ⟨r, 0, none⟩)] W fun e W' => e = .returned (.tuple #[actOf ((next s).getD noAct), .bool (next s).isSome]) ∧ Below W.heap.size W W'
  takes : ∀ {W : World} {B r : Nat} {s : σ} {f : Nat → Prop} {w : Int} {t : ByteArray}, At W B r s f → (next s).isSome = true → Good w t → Calls Try.prog fT #[.pointer (some ⟨r, 0, none⟩), gotV w t] W fun e W' => ∃ f', e = .returned (.tuple #[]) ∧ At W' B r (take s w t) f' ∧ Step f f' W W'

abbrev rowV (tid : TypeId) (r : Nat) : Value := .iface tid (.pointer (some ⟨r, 0, none⟩))
section
variable {σ : Type} {M : Mach σ} {W W' : World} {B r : Nat} {s : σ} {f : Nat → Prop}
theorem Mach.below (h : M.At W B r s f) (hb : Below W.heap.size W W') : M.At W' B r s f := M.stays h (fun k hk => hb.block k (M.lt h k hk))
theorem Mach.size (h : M.At W B r s f) : B ≤ W.heap.size := Nat.le_trans (M.base h r (M.self h)) (Nat.le_of_lt (M.lt h r (M.self h)))
end

theorem askrec (w : World) : CallsD Try.prog 53 #[] .returning w fun e u' w' => e = .returned (.tuple #[]) ∧ u' = .returning ∧ w' = w := by
  refine callsD_of_wpS Try.func53 rfl fun c₀ cs hu => ?_
  apply wpS_region
  simp [wpOpsS, go_sem, recoverD, hu, Try.ntmps53, bodyPostS, results, Try.results53]
  cases c₀
  simp_all
theorem handrec (w : World) : CallsD Try.prog 56 #[] .returning w fun e u' w' => e = .returned (.tuple #[]) ∧ u' = .returning ∧ w' = w := by
  refine callsD_of_wpS Try.func56 rfl fun c₀ cs hu => ?_
  apply wpS_region
  simp [wpOpsS, go_sem, recoverD, hu, Try.ntmps56, bodyPostS, results, Try.results56]
  cases c₀
  simp_all

theorem set6 {X : World} {n : Nat} {t : TypeId} {a0 a1 a2 a3 a4 a5 : Value} (h : X.heap[n]? = some (.cells #[a0, a1, a2, a3, a4, a5] t (0, 0))) (v0 v1 v2 v3 v4 v5 : Value) :
    ((((((X.setCell ⟨n, 0, none⟩ v0).setCell ⟨n, 1, none⟩ v1).setCell ⟨n, 2, none⟩ v2).setCell ⟨n, 3, none⟩ v3).setCell ⟨n, 4, none⟩ v4).setCell ⟨n, 5, none⟩ v5).heap[n]? = some (.cells #[v0, v1, v2, v3, v4, v5] t (0, 0)) :=
  heap_setAt (heap_setAt (heap_setAt (heap_setAt (heap_setAt (heap_setAt h)))))
theorem below6 {W X : World} {n m : Nat} (h : Below m W X) (hn : m ≤ n) (v0 v1 v2 v3 v4 v5 : Value) :
    Below m W ((((((X.setCell ⟨n, 0, none⟩ v0).setCell ⟨n, 1, none⟩ v1).setCell ⟨n, 2, none⟩ v2).setCell ⟨n, 3, none⟩ v3).setCell ⟨n, 4, none⟩ v4).setCell ⟨n, 5, none⟩ v5) :=
  (((((h.setCell hn _).setCell hn _).setCell hn _).setCell hn _).setCell hn _).setCell hn _
theorem load_act {X : World} {n : Nat} {x : ActD} (h : X.heap[n]? = some (.cells (actCells x) 31 (0, 0))) : (loadVar 31 ⟨n, 0, none⟩).run Try.prog X = .ok (actOf x) X := by
  unfold actCells at h
  have m0 := (cell_of (i := 0) h).trans rfl
  have m1 := (cell_of (i := 1) h).trans rfl
  have m2 := (cell_of (i := 2) h).trans rfl
  have m3 := (cell_of (i := 3) h).trans rfl
  have m4 := (cell_of (i := 4) h).trans rfl
  have m5 := (cell_of (i := 5) h).trans rfl
  go_simp
theorem ask_end {W X : World} {n : Nat} {x : ActD} {is : Bool} {T : Array Value} (h : X.heap[n]? = some (.cells (actCells x) 31 (0, 0))) (hb : Below W.heap.size W X) (h2 : T.getD 2 undef = .pointer (some ⟨n, 0, none⟩)) (h3 : T.getD 3 undef = .bool is) (h4 : T.getD 4 undef = .bool true) :
    bodyPostD Try.prog Try.f43 (fun e W' => e = .returned (.tuple #[actOf x, .bool is, .bool true]) ∧ Below W.heap.size W W') .ret { tmps := T, defers := [{ target := .fn (.func 53) #[], args := #[] }] } X := by
  refine leaves_cons (f := 53) (args := #[]) (by simp) (by simp [go_sem]) ?_
  refine (askrec _).mono ?_
  rintro e u' w'' ⟨rfl, rfl, rfl⟩
  simp only [Leaves, settle]
  refine ⟨_, by rw [results_cell3 (by rfl), h2, h3, h4]; simp only [asAddr, Sem.run_pure, Result.andThen_ok, load_act h], rfl, hb⟩

abbrev actO (x : ActD) : Obj := .cells #[.int .i64 x.kind, .int .u64 (x.block : Int), .int .i64 x.cell, .int .u64 x.old, .int .u64 x.new, .string x.text] 31 (0, 0)
abbrev gotO (w : Int) (t : ByteArray) : Obj := .cells #[.int .u64 w, .string t] 45 (0, 0)
abbrev noO : Obj := .cells #[.int .i64 0, .int .u64 0, .int .i64 0, .int .u64 0, .int .u64 0, .string ⟨#[]⟩] 31 (0, 0)
theorem six_at {X : World} {n : Nat} {t : TypeId} {a0 a1 a2 a3 a4 a5 : Value} (h : X.heap[n]? = some (.cells #[a0, a1, a2, a3, a4, a5] t (0, 0))) :
    X.cell? ⟨n, 0, none⟩ = some a0 ∧ X.cell? ⟨n, 1, none⟩ = some a1 ∧ X.cell? ⟨n, 2, none⟩ = some a2 ∧ X.cell? ⟨n, 3, none⟩ = some a3 ∧ X.cell? ⟨n, 4, none⟩ = some a4 ∧ X.cell? ⟨n, 5, none⟩ = some a5 :=
  ⟨(cell_of h).trans rfl, (cell_of h).trans rfl, (cell_of h).trans rfl, (cell_of h).trans rfl, (cell_of h).trans rfl, (cell_of h).trans rfl⟩
theorem six_free {X : World} {n : Nat} {t : TypeId} {a0 a1 a2 a3 a4 a5 : Value} (h : X.heap[n]? = some (.cells #[a0, a1, a2, a3, a4, a5] t (0, 0))) :
    X.frozen? ⟨n, 0, none⟩ = false ∧ X.frozen? ⟨n, 1, none⟩ = false ∧ X.frozen? ⟨n, 2, none⟩ = false ∧ X.frozen? ⟨n, 3, none⟩ = false ∧ X.frozen? ⟨n, 4, none⟩ = false ∧ X.frozen? ⟨n, 5, none⟩ = false := by
  simp [World.frozen?, h]
theorem two_at {X : World} {n : Nat} {t : TypeId} {a0 a1 : Value} (h : X.heap[n]? = some (.cells #[a0, a1] t (0, 0))) : X.cell? ⟨n, 0, none⟩ = some a0 ∧ X.cell? ⟨n, 1, none⟩ = some a1 := ⟨(cell_of h).trans rfl, (cell_of h).trans rfl⟩

set_option maxRecDepth 100000 in
set_option maxHeartbeats 2000000 in
/-- Over whatever Act tells. -/
theorem ask_any (W : World) (tid : TypeId) (fA : FuncId) (r : Nat) (x : ActD) (is : Bool) (hm : ∀ (n r : Nat) (w : World), (method (n + 1) tid (.pointer (some ⟨r, 0, none⟩)) "Act").run Try.prog w = .ok (fA, .pointer (some ⟨r, 0, none⟩)) w)
    (hE : ∀ (args : Array Value) (w : World), (callFunc fA args).run Try.prog w = .ok (.enter fA args) w) (HA : Hid (∀ X, Below W.heap.size W X → Calls Try.prog fA #[.pointer (some ⟨r, 0, none⟩)] X fun e X' => e = .returned (.tuple #[actOf x, .bool is]) ∧ Below X.heap.size X X')) :
    Calls Try.prog 43 #[rowV tid r] W fun e W' => e = .returned (.tuple #[actOf x, .bool is, .bool true]) ∧ Below W.heap.size W W' := by
  go_enter_defers Try.func43, Try.ntmps43
  go_wp2_with fail
  have HB := Lib.hid (below_alloc W noO)
  have HN := Lib.hid (World.alloc_heap_new W noO)
  generalize W.alloc noO = X1 at HB HN ⊢
  refine (HA.out _ HB.out).mono ?_
  rintro en X3 ⟨rfl, hb⟩
  have HB3 := Lib.hid (HB.out.trans (hb.mono HB.out.size))
  have h3 := (hb.block _ (heap_at_lt HN.out)).trans HN.out
  clear hb
  obtain ⟨m0, m1, m2, m3, m4, m5⟩ := six_at h3
  obtain ⟨z0, z1, z2, z3, z4, z5⟩ := six_free h3
  go_wp2_with fail
  exact ask_end (set6 (set6 h3 _ _ _ _ _ _) _ _ _ _ _ _) (below6 (below6 HB3.out (Nat.le_refl _) _ _ _ _ _ _) (Nat.le_refl _) _ _ _ _ _ _) rfl rfl rfl

set_option maxRecDepth 100000 in
set_option maxHeartbeats 2000000 in
/-- Over whatever Take does. -/
theorem hand_any {R : World → Prop} (W : World) (tid : TypeId) (fT : FuncId) (r : Nat) (hm : ∀ (n r : Nat) (w : World), (method (n + 1) tid (.pointer (some ⟨r, 0, none⟩)) "Take").run Try.prog w = .ok (fT, .pointer (some ⟨r, 0, none⟩)) w)
    (hE : ∀ (args : Array Value) (w : World), (callFunc fT args).run Try.prog w = .ok (.enter fT args) w) (x : Int) (t : ByteArray)
    (HT : Hid (∀ X, Below W.heap.size W X → Calls Try.prog fT #[.pointer (some ⟨r, 0, none⟩), gotV x t] X fun e X' => e = .returned (.tuple #[]) ∧ R X')) :
    Calls Try.prog 45 #[.func (.method "Take") #[rowV tid r] #[], gotV x t] W fun e X' => e = .returned (.tuple #[]) ∧ R X' := by
  go_enter_defers Try.func45, Try.ntmps45
  go_wp2_with fail
  refine (HT.out _ (below_alloc _ _)).mono ?_
  rintro en w1 ⟨rfl, h1⟩
  have HE := Lib.hid h1
  clear h1
  go_wp2_with fail
  refine leaves_cons (f := 56) (args := #[]) (by simp) (by simp [go_sem]) ?_
  refine (handrec _).mono ?_
  rintro e u' w'' ⟨rfl, rfl, rfl⟩
  simp only [Leaves, settle]
  exact ⟨_, results_none rfl _ _ _, rfl, HE.out⟩

/-! ### acts compared; small words -/
theorem neqA_run (k b c o n k' b' c' o' n' : Int) (t t' : ByteArray) (w : World) : (binOp .neq 31 (actV k b c o n t) (actV k' b' c' o' n' t')).run Try.prog w = .ok (.bool (!(k == k' && (b == b' && (c == c' && (o == o' && (n == n' && t.toList == t'.toList))))))) w := by
  have u3 := Try.underlying3
  have u32 := Try.underlying22
  have u9 := Try.underlying9
  have hS : Try.prog.underlying 31 = some (.struct (Try.prog.fieldsOf 31)) := by kernel_rfl
  have hp : Try.prog.stoodInHeld 31 = false := by kernel_rfl
  rw [run_neq_struct, show (10000 : Nat) = 9999 + 1 from rfl, run_equalIn_agg w 9999 31 _ _ hS hp]
  simp only [Program.fieldsOf, Try.underlying31]
  have a3 := Try.isAgg3
  have z3 := Try.sizeOf3
  have a32 := Try.isAgg22
  have z32 := Try.sizeOf22
  have a9 := Try.isAgg9
  have z9 := Try.sizeOf9
  go_simp
  by_cases h1 : k = k' <;> by_cases h2 : b = b' <;> by_cases h3 : c = c' <;> by_cases h4 : o = o' <;> by_cases h5 : n = n' <;> by_cases h6 : t.toList = t'.toList <;> simp [h1, h2, h3, h4, h5, h6]
theorem neqA_same (k b c o n : Int) (t : ByteArray) (w : World) : (binOp .neq 31 (actV k b c o n t) (actV k b c o n t)).run Try.prog w = .ok (.bool false) w := by
  rw [neqA_run]; simp
theorem below_turned {n : Nat} {W X : World} (h : Below n W X) : Below n W X.drew := ⟨h.os, h.tape, h.output, h.size, h.block⟩
theorem two_free {X : World} {n : Nat} {t : TypeId} {a0 a1 : Value} (h : X.heap[n]? = some (.cells #[a0, a1] t (0, 0))) : X.frozen? ⟨n, 0, none⟩ = false ∧ X.frozen? ⟨n, 1, none⟩ = false := by simp [World.frozen?, h]

end Go.Proofs.Ytgigjbngocfkbaa
