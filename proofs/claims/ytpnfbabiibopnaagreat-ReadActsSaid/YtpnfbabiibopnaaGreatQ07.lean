/-
  Mach, Tape, Cfg, in one text.
-/
import Derived.Test.YtpnfbabiibopnaaGreatQ06
import Derived.Defers
import Derived.Recover
import Derived.Laws.Pointers
import Derived.Deep.QuietTactic
import Derived.BigQuiet
import Derived.Tactics
import Derived.WalkKit
import Derived.WalkLawsBesides
import Derived.Laws.StructEq
import Derived.Laws.ResultCell
import Derived.Laws.NewBlocks
import Derived.LoopTactic
import Derived.Deep.RegionHeld3
import Derived.Deep.RegionLaw
import Derived.Outline
import Derived.Lib.Hide
import Derived.KernelRfl
import Derived.Test.YtpnfbabiibopnaaGreatQ01
/-! A kind of routine, whatever it is: what its Act tells and its Take takes; drive's ask and hand of it. -/
namespace Go.Proofs.YtpnfbabiibopnaaGreat
open Go Go.RowKit
attribute [local go_sem ↓] Go.wp_at_zero Go.wp_at_succ

theorem results_cell2 {fn : Func} {p q : Tmp} {ty : TypeId} (h : fn.results = #[.cell p ty, .tmp q]) (tmps : Array Value) (P : Program) (w : World) :
    (results fn tmps).run P w = ((asAddr (tmps.getD p undef)).run P w).andThen fun a w₁ => ((loadVar ty a).run P w₁).andThen fun v w₂ => .ok (.tuple #[v, tmps.getD q undef]) w₂ := by
  simp [results, h]
theorem results_cell3 {fn : Func} {p q r : Tmp} {ty : TypeId} (h : fn.results = #[.cell p ty, .tmp q, .tmp r]) (tmps : Array Value) (P : Program) (w : World) :
    (results fn tmps).run P w = ((asAddr (tmps.getD p undef)).run P w).andThen fun a w₁ => ((loadVar ty a).run P w₁).andThen fun v w₂ => .ok (.tuple #[v, tmps.getD q undef, tmps.getD r undef]) w₂ := by
  simp [results, h]

abbrev zeroV : Value := actV 0 0 0 0 0 ⟨#[]⟩
abbrev actOf (x : ActD) : Value := actV x.kind x.block x.cell x.old x.new x.text
def noAct : ActD := ⟨0, 0, 0, 0, 0, ⟨#[]⟩⟩
/-- An answer that may be. -/
def Good (w : Int) (t : ByteArray) : Prop := (0 ≤ w ∧ w < 18446744073709551616) ∧ t.size ≤ 281474976710656

/-- A kind of routine: its type and its two functions; what it does next, and where it stands behind an answer; how it lies at r, what it writes to being f's blocks. -/
structure Mach (σ : Type) where
  tid : TypeId
  fA : FuncId
  fT : FuncId
  next : σ → Option ActD
  take : σ → Int → ByteArray → σ
  At : World → Nat → Nat → σ → (Nat → Prop) → Prop
  metA : ∀ (n r : Nat) (w : World), (method (n + 1) tid (.pointer (some ⟨r, 0, none⟩)) "Act").run Tryz.prog w = .ok (fA, .pointer (some ⟨r, 0, none⟩)) w
  metT : ∀ (n r : Nat) (w : World), (method (n + 1) tid (.pointer (some ⟨r, 0, none⟩)) "Take").run Tryz.prog w = .ok (fT, .pointer (some ⟨r, 0, none⟩)) w
  entA : ∀ (args : Array Value) (w : World), (callFunc fA args).run Tryz.prog w = .ok (.enter fA args) w
  entT : ∀ (args : Array Value) (w : World), (callFunc fT args).run Tryz.prog w = .ok (.enter fT args) w
  stays : ∀ {W W' : World} {B r : Nat} {s : σ} {f : Nat → Prop}, At W B r s f → (∀ k, f k → W'.heap[k]? = W.heap[k]?) → At W' B r s f
  lt : ∀ {W : World} {B r : Nat} {s : σ} {f : Nat → Prop}, At W B r s f → ∀ k, f k → k < W.heap.size
  base : ∀ {W : World} {B r : Nat} {s : σ} {f : Nat → Prop}, At W B r s f → ∀ k, f k → B ≤ k
  self : ∀ {W : World} {B r : Nat} {s : σ} {f : Nat → Prop}, At W B r s f → f r
  fits : ∀ {W : World} {B r : Nat} {s : σ} {f : Nat → Prop} {x : ActD}, At W B r s f → next s = some x → x.fits
  act : ∀ {W : World} {B r : Nat} {s : σ} {f : Nat → Prop}, At W B r s f → Calls Tryz.prog fA #[.pointer (some ⟨r, 0, none⟩)] W fun e W' => e = .returned (.tuple #[actOf ((next s).getD noAct), .bool (next s).isSome]) ∧ Below W.heap.size W W'
  takes : ∀ {W : World} {B r : Nat} {s : σ} {f : Nat → Prop} {w : Int} {t : ByteArray}, At W B r s f → (next s).isSome = true → Good w t → Calls Tryz.prog fT #[.pointer (some ⟨r, 0, none⟩), gotV w t] W fun e W' => ∃ f', e = .returned (.tuple #[]) ∧ At W' B r (take s w t) f' ∧ Step f f' W W'

abbrev rowV (tid : TypeId) (r : Nat) : Value := .iface tid (.pointer (some ⟨r, 0, none⟩))
section
variable {σ : Type} {M : Mach σ} {W W' : World} {B r : Nat} {s : σ} {f : Nat → Prop}
theorem Mach.below (h : M.At W B r s f) (hb : Below W.heap.size W W') : M.At W' B r s f := M.stays h (fun k hk => hb.block k (M.lt h k hk))
theorem Mach.size (h : M.At W B r s f) : B ≤ W.heap.size := Nat.le_trans (M.base h r (M.self h)) (Nat.le_of_lt (M.lt h r (M.self h)))
end

theorem askrec (w : World) : CallsD Tryz.prog 71 #[] .returning w fun e u' w' => e = .returned (.tuple #[]) ∧ u' = .returning ∧ w' = w := by
  refine callsD_of_wpS Tryz.func71 rfl fun c₀ cs hu => ?_
  apply wpS_region
  simp [wpOpsS, go_sem, recoverD, hu, Tryz.ntmps71, bodyPostS, results, Tryz.results71]
  cases c₀
  simp_all
theorem handrec (w : World) : CallsD Tryz.prog 99 #[] .returning w fun e u' w' => e = .returned (.tuple #[]) ∧ u' = .returning ∧ w' = w := by
  refine callsD_of_wpS Tryz.func99 rfl fun c₀ cs hu => ?_
  apply wpS_region
  simp [wpOpsS, go_sem, recoverD, hu, Tryz.ntmps99, bodyPostS, results, Tryz.results99]
  cases c₀
  simp_all

theorem set6 {X : World} {n : Nat} {t : TypeId} {a0 a1 a2 a3 a4 a5 : Value} (h : X.heap[n]? = some (.cells #[a0, a1, a2, a3, a4, a5] t (0, 0))) (v0 v1 v2 v3 v4 v5 : Value) :
    ((((((X.setCell ⟨n, 0, none⟩ v0).setCell ⟨n, 1, none⟩ v1).setCell ⟨n, 2, none⟩ v2).setCell ⟨n, 3, none⟩ v3).setCell ⟨n, 4, none⟩ v4).setCell ⟨n, 5, none⟩ v5).heap[n]? = some (.cells #[v0, v1, v2, v3, v4, v5] t (0, 0)) :=
  heap_setAt (heap_setAt (heap_setAt (heap_setAt (heap_setAt (heap_setAt h)))))
theorem below6 {W X : World} {n m : Nat} (h : Below m W X) (hn : m ≤ n) (v0 v1 v2 v3 v4 v5 : Value) :
    Below m W ((((((X.setCell ⟨n, 0, none⟩ v0).setCell ⟨n, 1, none⟩ v1).setCell ⟨n, 2, none⟩ v2).setCell ⟨n, 3, none⟩ v3).setCell ⟨n, 4, none⟩ v4).setCell ⟨n, 5, none⟩ v5) :=
  (((((h.setCell hn _).setCell hn _).setCell hn _).setCell hn _).setCell hn _).setCell hn _
theorem load_act {X : World} {n : Nat} {x : ActD} (h : X.heap[n]? = some (.cells (actCells x) 31 (0, 0))) : (loadVar 31 ⟨n, 0, none⟩).run Tryz.prog X = .ok (actOf x) X := by
  unfold actCells at h
  have m0 := (cell_of (i := 0) h).trans rfl
  have m1 := (cell_of (i := 1) h).trans rfl
  have m2 := (cell_of (i := 2) h).trans rfl
  have m3 := (cell_of (i := 3) h).trans rfl
  have m4 := (cell_of (i := 4) h).trans rfl
  have m5 := (cell_of (i := 5) h).trans rfl
  go_simp
theorem ask_end {W X : World} {n : Nat} {x : ActD} {is : Bool} {T : Array Value} (h : X.heap[n]? = some (.cells (actCells x) 31 (0, 0))) (hb : Below W.heap.size W X) (h2 : T.getD 2 undef = .pointer (some ⟨n, 0, none⟩)) (h3 : T.getD 3 undef = .bool is) (h4 : T.getD 4 undef = .bool true) :
    bodyPostD Tryz.prog Tryz.f46 (fun e W' => e = .returned (.tuple #[actOf x, .bool is, .bool true]) ∧ Below W.heap.size W W') .ret { tmps := T, defers := [{ target := .fn (.func 71) #[], args := #[] }] } X := by
  refine leaves_cons (f := 71) (args := #[]) (by simp) (by simp [go_sem]) ?_
  refine (askrec _).mono ?_
  rintro e u' w'' ⟨rfl, rfl, rfl⟩
  simp only [Leaves, settle]
  refine ⟨_, by rw [results_cell3 (by rfl), h2, h3, h4]; simp only [asAddr, Sem.run_pure, Result.andThen_ok, load_act h], rfl, hb⟩

abbrev actO (x : ActD) : Obj := .cells #[.int .i64 x.kind, .int .u64 (x.block : Int), .int .i64 x.cell, .int .u64 x.old, .int .u64 x.new, .string x.text] 31 (0, 0)
abbrev gotO (w : Int) (t : ByteArray) : Obj := .cells #[.int .u64 w, .string t] 53 (0, 0)
abbrev noO : Obj := .cells #[.int .i64 0, .int .u64 0, .int .i64 0, .int .u64 0, .int .u64 0, .string ⟨#[]⟩] 31 (0, 0)
theorem six_at {X : World} {n : Nat} {t : TypeId} {a0 a1 a2 a3 a4 a5 : Value} (h : X.heap[n]? = some (.cells #[a0, a1, a2, a3, a4, a5] t (0, 0))) :
    X.cell? ⟨n, 0, none⟩ = some a0 ∧ X.cell? ⟨n, 1, none⟩ = some a1 ∧ X.cell? ⟨n, 2, none⟩ = some a2 ∧ X.cell? ⟨n, 3, none⟩ = some a3 ∧ X.cell? ⟨n, 4, none⟩ = some a4 ∧ X.cell? ⟨n, 5, none⟩ = some a5 :=
  ⟨(cell_of h).trans rfl, (cell_of h).trans rfl, (cell_of h).trans rfl, (cell_of h).trans rfl, (cell_of h).trans rfl, (cell_of h).trans rfl⟩
theorem six_free {X : World} {n : Nat} {t : TypeId} {a0 a1 a2 a3 a4 a5 : Value} (h : X.heap[n]? = some (.cells #[a0, a1, a2, a3, a4, a5] t (0, 0))) :
    X.frozen? ⟨n, 0, none⟩ = false ∧ X.frozen? ⟨n, 1, none⟩ = false ∧ X.frozen? ⟨n, 2, none⟩ = false ∧ X.frozen? ⟨n, 3, none⟩ = false ∧ X.frozen? ⟨n, 4, none⟩ = false ∧ X.frozen? ⟨n, 5, none⟩ = false := by
  simp [World.frozen?, h]
theorem two_at {X : World} {n : Nat} {t : TypeId} {a0 a1 : Value} (h : X.heap[n]? = some (.cells #[a0, a1] t (0, 0))) : X.cell? ⟨n, 0, none⟩ = some a0 ∧ X.cell? ⟨n, 1, none⟩ = some a1 := ⟨(cell_of h).trans rfl, (cell_of h).trans rfl⟩

set_option maxRecDepth 100000 in
set_option maxHeartbeats 2000000 in
/-- Over whatever Act tells. -/
theorem ask_any (W : World) (tid : TypeId) (fA : FuncId) (r : Nat) (x : ActD) (is : Bool) (hm : ∀ (n r : Nat) (w : World), (method (n + 1) tid (.pointer (some ⟨r, 0, none⟩)) "Act").run Tryz.prog w = .ok (fA, .pointer (some ⟨r, 0, none⟩)) w)
    (hE : ∀ (args : Array Value) (w : World), (callFunc fA args).run Tryz.prog w = .ok (.enter fA args) w) (HA : Hid (∀ X, Below W.heap.size W X → Calls Tryz.prog fA #[.pointer (some ⟨r, 0, none⟩)] X fun e X' => e = .returned (.tuple #[actOf x, .bool is]) ∧ Below X.heap.size X X')) :
    Calls Tryz.prog 46 #[rowV tid r] W fun e W' => e = .returned (.tuple #[actOf x, .bool is, .bool true]) ∧ Below W.heap.size W W' := by
  go_enter_defers Tryz.func46, Tryz.ntmps46
  go_wp2_with fail
  have HB := Lib.hid (below_alloc W noO)
  have HN := Lib.hid (World.alloc_heap_new W noO)
  generalize W.alloc noO = X1 at HB HN ⊢
  refine (HA.out _ HB.out).mono ?_
  rintro en X3 ⟨rfl, hb⟩
  have HB3 := Lib.hid (HB.out.trans (hb.mono HB.out.size))
  have h3 := (hb.block _ (heap_at_lt HN.out)).trans HN.out
  clear hb
  obtain ⟨m0, m1, m2, m3, m4, m5⟩ := six_at h3
  obtain ⟨z0, z1, z2, z3, z4, z5⟩ := six_free h3
  go_wp2_with fail
  exact ask_end (set6 (set6 h3 _ _ _ _ _ _) _ _ _ _ _ _) (below6 (below6 HB3.out (Nat.le_refl _) _ _ _ _ _ _) (Nat.le_refl _) _ _ _ _ _ _) rfl rfl rfl

set_option maxRecDepth 100000 in
set_option maxHeartbeats 2000000 in
/-- Over whatever Take does. -/
theorem hand_any {R : World → Prop} (W : World) (tid : TypeId) (fT : FuncId) (r : Nat) (hm : ∀ (n r : Nat) (w : World), (method (n + 1) tid (.pointer (some ⟨r, 0, none⟩)) "Take").run Tryz.prog w = .ok (fT, .pointer (some ⟨r, 0, none⟩)) w)
    (hE : ∀ (args : Array Value) (w : World), (callFunc fT args).run Tryz.prog w = .ok (.enter fT args) w) (x : Int) (t : ByteArray)
    (HT : Hid (∀ X, Below W.heap.size W X → Calls Tryz.prog fT #[.pointer (some ⟨r, 0, none⟩), gotV x t] X fun e X' => e = .returned (.tuple #[]) ∧ R X')) :
    Calls Tryz.prog 86 #[.func (.method "Take") #[rowV tid r] #[], gotV x t] W fun e X' => e = .returned (.tuple #[]) ∧ R X' := by
  go_enter_defers Tryz.func86, Tryz.ntmps86
  go_wp2_with fail
  refine (HT.out _ (below_alloc _ _)).mono ?_
  rintro en w1 ⟨rfl, h1⟩
  have HE := Lib.hid h1
  clear h1
  go_wp2_with fail
  refine leaves_cons (f := 99) (args := #[]) (by simp) (by simp [go_sem]) ?_
  refine (handrec _).mono ?_
  rintro e u' w'' ⟨rfl, rfl, rfl⟩
  simp only [Leaves, settle]
  exact ⟨_, results_none rfl _ _ _, rfl, HE.out⟩

/-! ### acts compared; small words -/
theorem neqA_run (k b c o n k' b' c' o' n' : Int) (t t' : ByteArray) (w : World) : (binOp .neq 31 (actV k b c o n t) (actV k' b' c' o' n' t')).run Tryz.prog w = .ok (.bool (!(k == k' && (b == b' && (c == c' && (o == o' && (n == n' && t.toList == t'.toList))))))) w := by
  have u3 := Tryz.underlying3
  have u32 := Tryz.underlying22
  have u9 := Tryz.underlying9
  have hS : Tryz.prog.underlying 31 = some (.struct (Tryz.prog.fieldsOf 31)) := by kernel_rfl
  have hp : Tryz.prog.stoodInHeld 31 = false := by kernel_rfl
  rw [run_neq_struct, show (10000 : Nat) = 9999 + 1 from rfl, run_equalIn_agg w 9999 31 _ _ hS hp]
  simp only [Program.fieldsOf, Tryz.underlying31]
  have a3 := Tryz.isAgg3
  have z3 := Tryz.sizeOf3
  have a32 := Tryz.isAgg22
  have z32 := Tryz.sizeOf22
  have a9 := Tryz.isAgg9
  have z9 := Tryz.sizeOf9
  go_simp
  by_cases h1 : k = k' <;> by_cases h2 : b = b' <;> by_cases h3 : c = c' <;> by_cases h4 : o = o' <;> by_cases h5 : n = n' <;> by_cases h6 : t.toList = t'.toList <;> simp [h1, h2, h3, h4, h5, h6]
theorem neqA_same (k b c o n : Int) (t : ByteArray) (w : World) : (binOp .neq 31 (actV k b c o n t) (actV k b c o n t)).run Tryz.prog w = .ok (.bool false) w := by
  rw [neqA_run]; simp
theorem below_turned {n : Nat} {W X : World} (h : Below n W X) : Below n W X.drew := ⟨h.os, h.tape, h.output, h.size, h.block⟩
theorem two_free {X : World} {n : Nat} {t : TypeId} {a0 a1 : Value} (h : X.heap[n]? = some (.cells #[a0, a1] t (0, 0))) : X.frozen? ⟨n, 0, none⟩ = false ∧ X.frozen? ⟨n, 1, none⟩ = false := by simp [World.frozen?, h]

end Go.Proofs.YtpnfbabiibopnaaGreat

/-! The reference's tape, by which it is said what a routine does next: what it answers an act, and where it stands then. -/
namespace Go.Proofs.YtpnfbabiibopnaaGreat
open Go Go.RowKit
attribute [local go_sem ↓] Go.wp_at_zero Go.wp_at_succ

/-- Where a tape stands. -/
structure TapD where
  k : Nat
  over : Bool
  act : ActD
def tape0 : TapD := ⟨0, false, noAct⟩
/-- An act's answer on a tape, and the tape behind it. -/
def doW' (G : List (Int × ByteArray)) (T : TapD) : Int := if T.over then 0 else (match G[T.k]? with | some g => g.1 | none => 0)
def doT' (G : List (Int × ByteArray)) (T : TapD) : ByteArray := if T.over then ⟨#[]⟩ else (match G[T.k]? with | some g => g.2 | none => ⟨#[]⟩)
def onT (G : List (Int × ByteArray)) (T : TapD) (x : ActD) : TapD := if T.over then T else if T.k = G.length then ⟨T.k, true, x⟩ else ⟨T.k + 1, T.over, T.act⟩

/-- At p, a slice's address, these answers lie. -/
def Sgt (W : World) (p : Option Addr) (G : List (Int × ByteArray)) : Prop :=
  ∀ j (h : j < G.length), ∃ b o, p = some ⟨b, o, none⟩ ∧ W.cell? ⟨b, o + j * 2, none⟩ = some (.int .u64 G[j].1) ∧ W.cell? ⟨b, o + j * 2 + 1, none⟩ = some (.string G[j].2)
theorem Sgt.nil (W : World) (p : Option Addr) : Sgt W p [] := fun _ h => absurd h (Nat.not_lt_zero _)
theorem Sgt.grow {W W' : World} {p : Option Addr} {G : List (Int × ByteArray)} (h : Sgt W p G) (hb : Below W.heap.size W W') : Sgt W' p G := fun j hj => by
  obtain ⟨b, o, rfl, c1, c2⟩ := h j hj
  exact ⟨b, o, rfl, (hb.cell (p := ⟨b, _, none⟩) (cell_lt c1)).trans c1, (hb.cell (p := ⟨b, _, none⟩) (cell_lt c2)).trans c2⟩
theorem Sgt.take {W : World} {p : Option Addr} {G : List (Int × ByteArray)} (h : Sgt W p G) (n : Nat) : Sgt W p (G.take n) := fun j hj => by
  have hj' : j < G.length := by have := List.length_take_le' n G; omega
  obtain ⟨b, o, e, c1, c2⟩ := h j hj'
  refine ⟨b, o, e, ?_, ?_⟩
  · rw [List.getElem_take]; exact c1
  · rw [List.getElem_take]; exact c2
/-- What is read lies below B, so what is made above is of no matter. -/
def SgB (B : Nat) (W : World) (p : Option Addr) (G : List (Int × ByteArray)) : Prop := Sgt W p G ∧ ∀ a, p = some a → a.block < B

abbrev tapO (ga : Option Addr) (n c : Nat) (T : TapD) : Obj := .cells #[.slice ga n c, .int .i64 (T.k : Int), .bool T.over, .int .i64 T.act.kind, .int .u64 (T.act.block : Int), .int .i64 T.act.cell, .int .u64 T.act.old, .int .u64 T.act.new, .string T.act.text] 48 (0, 0)
structure TapAt (W : World) (b : Nat) (ga : Option Addr) (c : Nat) (G : List (Int × ByteArray)) (T : TapD) : Prop where
  own : W.heap[b]? = some (tapO ga G.length c T)
  row : Sgt W ga G
  off : ∀ a, ga = some a → a.block ≠ b
  k : T.k ≤ G.length
  many : G.length ≤ 1000000
section
variable {W X Y : World} {b c : Nat} {ga : Option Addr} {G : List (Int × ByteArray)} {T : TapD}
theorem TapAt.below (h : TapAt W b ga c G T) (hb : Below W.heap.size W X) : TapAt X b ga c G T := ⟨(hb.block b (heap_at_lt h.own)).trans h.own, h.row.grow hb, h.off, h.k, h.many⟩
theorem TapAt.nine (h : TapAt W b ga c G T) : (W.cell? ⟨b, 0, none⟩ = some (.slice ga G.length c) ∧ W.cell? ⟨b, 1, none⟩ = some (.int .i64 (T.k : Int)) ∧ W.cell? ⟨b, 2, none⟩ = some (.bool T.over) ∧ W.cell? ⟨b, 3, none⟩ = some (.int .i64 T.act.kind) ∧ W.cell? ⟨b, 4, none⟩ = some (.int .u64 (T.act.block : Int)) ∧ W.cell? ⟨b, 5, none⟩ = some (.int .i64 T.act.cell) ∧ W.cell? ⟨b, 6, none⟩ = some (.int .u64 T.act.old) ∧ W.cell? ⟨b, 7, none⟩ = some (.int .u64 T.act.new) ∧ W.cell? ⟨b, 8, none⟩ = some (.string T.act.text)) ∧
    (W.frozen? ⟨b, 0, none⟩ = false ∧ W.frozen? ⟨b, 1, none⟩ = false ∧ W.frozen? ⟨b, 2, none⟩ = false ∧ W.frozen? ⟨b, 3, none⟩ = false ∧ W.frozen? ⟨b, 4, none⟩ = false ∧ W.frozen? ⟨b, 5, none⟩ = false ∧ W.frozen? ⟨b, 6, none⟩ = false ∧ W.frozen? ⟨b, 7, none⟩ = false ∧ W.frozen? ⟨b, 8, none⟩ = false) := by
  refine ⟨⟨(cell_of h.own).trans rfl, (cell_of h.own).trans rfl, (cell_of h.own).trans rfl, (cell_of h.own).trans rfl, (cell_of h.own).trans rfl, (cell_of h.own).trans rfl, (cell_of h.own).trans rfl, (cell_of h.own).trans rfl, (cell_of h.own).trans rfl⟩, ?_⟩
  have := h.own
  simp [World.frozen?, this]
theorem Sgt.apart (h : Sgt W ga G) (hk : ∀ a, ga = some a → Y.heap[a.block]? = W.heap[a.block]?) : Sgt Y ga G := fun j hj => by
  obtain ⟨d, o, rfl, c1, c2⟩ := h j hj
  have hc : ∀ i, Y.cell? ⟨d, i, none⟩ = W.cell? ⟨d, i, none⟩ := fun i => World.cell?_of_block (a := ⟨d, i, none⟩) (hk ⟨d, o, none⟩ rfl)
  exact ⟨d, o, rfl, (hc _).trans c1, (hc _).trans c2⟩
end
/-- What an act on a tape leaves. -/
def TapR (b : Nat) (ga : Option Addr) (c : Nat) (G : List (Int × ByteArray)) (T' : TapD) (v : Value) (W : World) (e : Ending) (W' : World) : Prop := e = .returned v ∧ TapAt W' b ga c G T' ∧ Step (fun k => k = b) (fun k => k = b) W W'
abbrev gotZ : Obj := .cells #[.int .u64 0, .string ⟨#[]⟩] 53 (0, 0)

theorem load_got {X : World} {n : Nat} {w : Int} {t : ByteArray} (h : X.heap[n]? = some (gotO w t)) : (loadVar 53 ⟨n, 0, none⟩).run Tryz.prog X = .ok (gotV w t) X := by
  have m0 := (cell_of (i := 0) h).trans rfl
  have m1 := (cell_of (i := 1) h).trans rfl
  go_simp
theorem do_end {W X : World} {b c n : Nat} {ga : Option Addr} {G : List (Int × ByteArray)} {T' : TapD} {w : Int} {t : ByteArray} {Z : Array Value} (hg : X.heap[n]? = some (gotO w t)) (hp : Z.getD 4 undef = .pointer (some ⟨n, 0, none⟩)) (hT : TapAt X b ga c G T') (hs : Step (fun k => k = b) (fun k => k = b) W X) :
    bodyPost Tryz.prog Tryz.f79 (TapR b ga c G T' (gotV w t) W) .ret { tmps := Z, defers := [] } X :=
  bodyPost_ret (v := gotV w t) (by rw [results_cell1 (by rfl), hp]; simp only [asAddr, Sem.run_pure, Result.andThen_ok, load_got hg]) rfl ⟨rfl, hT, hs⟩
/-- The tape is at its end now. -/
theorem TapAt.end_ {X : World} {b c : Nat} {ga : Option Addr} {G : List (Int × ByteArray)} {T : TapD} (h : TapAt X b ga c G T) (x : ActD) :
    TapAt (((((((X.setCell ⟨b, 2, none⟩ (.bool true)).setCell ⟨b, 3, none⟩ (.int .i64 x.kind)).setCell ⟨b, 4, none⟩ (.int .u64 (x.block : Int))).setCell ⟨b, 5, none⟩ (.int .i64 x.cell)).setCell ⟨b, 6, none⟩ (.int .u64 x.old)).setCell ⟨b, 7, none⟩ (.int .u64 x.new)).setCell ⟨b, 8, none⟩ (.string x.text)) b ga c G ⟨T.k, true, x⟩ ∧
    (∀ k, k ≠ b → (((((((X.setCell ⟨b, 2, none⟩ (.bool true)).setCell ⟨b, 3, none⟩ (.int .i64 x.kind)).setCell ⟨b, 4, none⟩ (.int .u64 (x.block : Int))).setCell ⟨b, 5, none⟩ (.int .i64 x.cell)).setCell ⟨b, 6, none⟩ (.int .u64 x.old)).setCell ⟨b, 7, none⟩ (.int .u64 x.new)).setCell ⟨b, 8, none⟩ (.string x.text)).heap[k]? = X.heap[k]?) ∧
    Step (fun k => k = b) (fun k => k = b) X (((((((X.setCell ⟨b, 2, none⟩ (.bool true)).setCell ⟨b, 3, none⟩ (.int .i64 x.kind)).setCell ⟨b, 4, none⟩ (.int .u64 (x.block : Int))).setCell ⟨b, 5, none⟩ (.int .i64 x.cell)).setCell ⟨b, 6, none⟩ (.int .u64 x.old)).setCell ⟨b, 7, none⟩ (.int .u64 x.new)).setCell ⟨b, 8, none⟩ (.string x.text)) := by
  have ho : ∀ k, k ≠ b → (((((((X.setCell ⟨b, 2, none⟩ (.bool true)).setCell ⟨b, 3, none⟩ (.int .i64 x.kind)).setCell ⟨b, 4, none⟩ (.int .u64 (x.block : Int))).setCell ⟨b, 5, none⟩ (.int .i64 x.cell)).setCell ⟨b, 6, none⟩ (.int .u64 x.old)).setCell ⟨b, 7, none⟩ (.int .u64 x.new)).setCell ⟨b, 8, none⟩ (.string x.text)).heap[k]? = X.heap[k]? := fun k hk => by
    rw [Below.heap_setCell _ _ _ _ hk, Below.heap_setCell _ _ _ _ hk, Below.heap_setCell _ _ _ _ hk, Below.heap_setCell _ _ _ _ hk, Below.heap_setCell _ _ _ _ hk, Below.heap_setCell _ _ _ _ hk, Below.heap_setCell _ _ _ _ hk]
  have e0 := heap_setAt (o := 2) (u := .bool true) h.own
  have e1 := heap_setAt (o := 3) (u := .int .i64 x.kind) e0
  have e2 := heap_setAt (o := 4) (u := .int .u64 (x.block : Int)) e1
  have e3 := heap_setAt (o := 5) (u := .int .i64 x.cell) e2
  have e4 := heap_setAt (o := 6) (u := .int .u64 x.old) e3
  have e5 := heap_setAt (o := 7) (u := .int .u64 x.new) e4
  have e6 := heap_setAt (o := 8) (u := .string x.text) e5
  simp only [List.setIfInBounds_toArray, List.set_cons_zero, List.set_cons_succ] at e6
  exact ⟨⟨e6, h.row.apart (fun a ha => ho _ (h.off a ha)), h.off, h.k, h.many⟩, ho, ((((((Step.setCell (f := fun k => k = b) _ rfl).trans (Step.setCell _ rfl)).trans (Step.setCell _ rfl)).trans (Step.setCell _ rfl)).trans (Step.setCell _ rfl)).trans (Step.setCell _ rfl)).trans (Step.setCell _ rfl)⟩
/-- The tape goes on by one. -/
theorem TapAt.more {X : World} {b c : Nat} {ga : Option Addr} {G : List (Int × ByteArray)} {T : TapD} (h : TapAt X b ga c G T) (hk : T.k < G.length) :
    TapAt (X.setCell ⟨b, 1, none⟩ (.int .i64 ((T.k : Int) + 1))) b ga c G ⟨T.k + 1, T.over, T.act⟩ ∧ (∀ k, k ≠ b → (X.setCell ⟨b, 1, none⟩ (.int .i64 ((T.k : Int) + 1))).heap[k]? = X.heap[k]?) ∧ Step (fun k => k = b) (fun k => k = b) X (X.setCell ⟨b, 1, none⟩ (.int .i64 ((T.k : Int) + 1))) := by
  have ho : ∀ k, k ≠ b → (X.setCell ⟨b, 1, none⟩ (.int .i64 ((T.k : Int) + 1))).heap[k]? = X.heap[k]? := fun k hk => Below.heap_setCell _ _ _ _ hk
  exact ⟨⟨(heap_setAt h.own).trans rfl, h.row.apart (fun a ha => ho _ (h.off a ha)), h.off, hk, h.many⟩, ho, Step.setCell _ rfl⟩

theorem do_fin {W Y : World} {b c n : Nat} {ga : Option Addr} {G : List (Int × ByteArray)} {T' : TapD} {w : Int} {t : ByteArray} {Z : Array Value} (hg : Y.heap[n]? = some gotZ) (hn : n ≠ b) (hn2 : W.heap.size ≤ n) (hp : Z.getD 4 undef = .pointer (some ⟨n, 0, none⟩)) (ha : ∀ a, ga = some a → a.block < W.heap.size) (hT : TapAt Y b ga c G T') (hs : Step (fun k => k = b) (fun k => k = b) W Y) :
    bodyPost Tryz.prog Tryz.f79 (TapR b ga c G T' (gotV w t) W) .ret { tmps := Z, defers := [] } ((Y.setCell ⟨n, 0, none⟩ (.int .u64 w)).setCell ⟨n, 1, none⟩ (.string t)) := by
  have hk : ∀ k, k ≠ n → ((Y.setCell ⟨n, 0, none⟩ (.int .u64 w)).setCell ⟨n, 1, none⟩ (.string t)).heap[k]? = Y.heap[k]? := fun k hk => by
    rw [Below.heap_setCell _ _ _ _ hk, Below.heap_setCell _ _ _ _ hk]
  have h2 : ((Y.setCell ⟨n, 0, none⟩ (.int .u64 w)).setCell ⟨n, 1, none⟩ (.string t)).heap[n]? = some (gotO w t) := heap_setAt (heap_setAt hg)
  refine do_end h2 hp ⟨(hk b (Ne.symm hn)).trans hT.own, hT.row.apart (fun a h => hk _ (by have := ha a h; omega)), hT.off, hT.k, hT.many⟩ ?_
  refine ⟨hs.os, hs.tape, hs.output, by simpa [World.setCell] using hs.size, fun k h1 h2 => (hk k (by omega)).trans (hs.block k h1 h2), fun k h => .inl h⟩

set_option maxRecDepth 100000 in
set_option maxHeartbeats 4000000 in
theorem tape_do (W : World) {b c : Nat} {ga : Option Addr} {G : List (Int × ByteArray)} {T : TapD} (h : TapAt W b ga c G T) (hga : ∀ a, ga = some a → a.block < W.heap.size) (x : ActD) :
    Calls Tryz.prog 79 #[.pointer (some ⟨b, 0, none⟩), actOf x] W (TapR b ga c G (onT G T x) (gotV (doW' G T) (doT' G T)) W) := by
  have HB := Lib.hid (show Below W.heap.size W ((W.alloc (actO x)).alloc gotZ) from (below_alloc W _).trans ((below_alloc _ _).mono (by simp)))
  have H2 := Lib.hid (h.below HB.out)
  have HA := Lib.hid (show ((W.alloc (actO x)).alloc gotZ).heap[W.heap.size]? = some (actO x) from ((below_alloc (W.alloc (actO x)) gotZ).block _ (by simp)).trans (World.alloc_heap_new W _))
  have HG := Lib.hid (show ((W.alloc (actO x)).alloc gotZ).heap[W.heap.size + 1]? = some gotZ from by have := World.alloc_heap_new (W.alloc (actO x)) gotZ; rwa [World.size_alloc] at this)
  have hlt := heap_at_lt h.own
  have HGa := Lib.hid hga
  clear hga
  obtain ⟨⟨m0, m1, m2, m3, m4, m5, m6, m7, m8⟩, z0, z1, z2, z3, z4, z5, z6, z7, z8⟩ := H2.out.nine
  obtain ⟨a0, a1, a2, a3, a4, a5⟩ := six_at HA.out
  obtain ⟨g0, g1⟩ := two_at HG.out
  cases ho : T.over with
  | true =>
    rw [ho] at m2
    have e1 : onT G T x = T := by unfold onT; rw [ho]; rfl
    have e2 : doW' G T = 0 := by unfold doW'; rw [ho]; rfl
    have e3 : doT' G T = ⟨#[]⟩ := by unfold doT'; rw [ho]; rfl
    rw [e1, e2, e3]
    clear h ho e1 e2 e3 hlt
    go_enter Tryz.func79, Tryz.ntmps79
    go_wp2_with fail
    exact do_end HG.out rfl H2.out (Step.of_below HB.out)
  | false =>
    rw [ho] at m2
    obtain ⟨n, hn⟩ : ∃ n, G.length = n := ⟨_, rfl⟩
    have hnk := h.k
    have hmany := h.many
    have e2 : doW' G T = (match G[T.k]? with | some g => g.1 | none => 0) := by unfold doW'; rw [ho]; rfl
    have e3 : doT' G T = (match G[T.k]? with | some g => g.2 | none => ⟨#[]⟩) := by unfold doT'; rw [ho]; rfl
    by_cases hk : T.k = G.length
    · have e1 : onT G T x = ⟨T.k, true, x⟩ := by unfold onT; rw [ho, if_neg (by decide), if_pos hk]
      have e0 : G[T.k]? = none := List.getElem?_eq_none (by omega)
      rw [e0] at e2 e3
      rw [e1, e2, e3]
      rw [hn] at m0 hk
      rw [hk] at m1
      have HK := Lib.hid hk
      clear h ho e1 e2 e3 e0 hk hnk hmany
      go_enter Tryz.func79, Tryz.ntmps79
      go_wp2_with fail
      go_quiet (fail)
      rename_i nq
      have HB2 := Lib.hid (HB.out.trans ((below_draws ((W.alloc (actO x)).alloc gotZ) nq).mono HB.out.size))
      have H3 := Lib.hid (H2.out.below (below_draws ((W.alloc (actO x)).alloc gotZ) nq))
      have HA3 := Lib.hid (show (((W.alloc (actO x)).alloc gotZ).drewN nq).heap[W.heap.size]? = some (actO x) from HA.out)
      have HG3 := Lib.hid (show (((W.alloc (actO x)).alloc gotZ).drewN nq).heap[W.heap.size + 1]? = some gotZ from HG.out)
      generalize ((W.alloc (actO x)).alloc gotZ).drewN nq = X2 at HB2 H3 HA3 HG3 ⊢
      clear m0 m1 m2 m3 m4 m5 m6 m7 m8 z0 z1 z2 z3 z4 z5 z6 z7 z8 a0 a1 a2 a3 a4 a5 g0 g1
      obtain ⟨⟨m0, m1, m2, m3, m4, m5, m6, m7, m8⟩, z0, z1, z2, z3, z4, z5, z6, z7, z8⟩ := H3.out.nine
      obtain ⟨a0, a1, a2, a3, a4, a5⟩ := six_at HA3.out
      obtain ⟨g0, g1⟩ := two_at HG3.out
      have y0 : X2.frozen? ⟨W.heap.size + 1, 0, none⟩ = false := by have := HG3.out; simp [World.frozen?, this]
      have y1 : X2.frozen? ⟨W.heap.size + 1, 1, none⟩ = false := by have := HG3.out; simp [World.frozen?, this]
      have hne : W.heap.size ≠ b := by omega
      have hne1 : W.heap.size + 1 ≠ b := by omega
      have HE := Lib.hid (H3.out.end_ x)
      have HHn := Lib.hid hne1
      go_wp2_with fail
      exact do_fin ((HE.out.2.1 _ HHn.out).trans HG3.out) HHn.out (by omega) rfl HGa.out HE.out.1 ((Step.of_below HB2.out).trans HE.out.2.2)
    · have hkl : T.k < G.length := by omega
      obtain ⟨w, hw⟩ : ∃ w, (G[T.k]'hkl).1 = w := ⟨_, rfl⟩
      obtain ⟨t, ht⟩ : ∃ t, (G[T.k]'hkl).2 = t := ⟨_, rfl⟩
      have e1 : onT G T x = ⟨T.k + 1, T.over, T.act⟩ := by unfold onT; rw [ho, if_neg (by decide), if_neg hk]
      have e0 : G[T.k]? = some G[T.k] := List.getElem?_eq_getElem hkl
      rw [e0] at e2 e3
      simp only [hw] at e2
      simp only [ht] at e3
      rw [e1, e2, e3]
      have HM := Lib.hid (fun (X : World) (hX : TapAt X b ga c G T) => hX.more hkl)
      obtain ⟨d, o, hga, d0, d1⟩ := H2.out.row T.k hkl
      rw [hw] at d0
      rw [ht] at d1
      have hdb := h.off _ hga
      have HD := Lib.hid (fun (X : World) (hX : ∀ k, k ≠ b → X.heap[k]? = ((W.alloc (actO x)).alloc gotZ).heap[k]?) => (show X.cell? ⟨d, o + T.k * 2, none⟩ = some (.int .u64 w) ∧ X.cell? ⟨d, o + T.k * 2 + 1, none⟩ = some (.string t) from
        ⟨(World.cell?_of_block (a := ⟨d, _, none⟩) (hX d hdb)).trans d0, (World.cell?_of_block (a := ⟨d, _, none⟩) (hX d hdb)).trans d1⟩))
      have HNn := Lib.hid hn
      rw [hn] at m0 hk hkl hnk hmany
      rw [hga] at m0
      obtain ⟨k, hkk⟩ : ∃ k, T.k = k := ⟨_, rfl⟩
      have HMk := HM
      rw [hkk] at HMk HD m1 hk hkl hnk
      have hkn : ((k : Int) == (n : Int)) = false := by simp; omega
      have hk0 : (0 : Int) ≤ (k : Int) := by omega
      have hk1 : (k : Int) < (n : Int) := by omega
      have hn1 : (n : Int) ≤ 1000000 := by omega
      have hwr : IntKind.i64.wrap (k : Int) = (k : Int) := IntWalk.i64_in _ (by omega)
      have hmix : Tryz.prog.follows .mixedOrders = true := by kernel_rfl
      clear h ho e1 e2 e3 e0 hk hnk hmany d0 d1 hw ht HM hkl hn
      go_enter Tryz.func79, Tryz.ntmps79
      go_wp2_with fail
      go_quiet (fail)
      rename_i nq
      have HB2 := Lib.hid (HB.out.trans ((below_draws ((W.alloc (actO x)).alloc gotZ) nq).mono HB.out.size))
      have H3 := Lib.hid (H2.out.below (below_draws ((W.alloc (actO x)).alloc gotZ) nq))
      have HG3 := Lib.hid (show (((W.alloc (actO x)).alloc gotZ).drewN nq).heap[W.heap.size + 1]? = some gotZ from HG.out)
      have HS3 := Lib.hid (show ∀ k : Nat, (((W.alloc (actO x)).alloc gotZ).drewN nq).heap[k]? = ((W.alloc (actO x)).alloc gotZ).heap[k]? from fun _ => rfl)
      generalize ((W.alloc (actO x)).alloc gotZ).drewN nq = X2 at HB2 H3 HG3 HS3 ⊢
      clear m0 m1 m2 m3 m4 m5 m6 m7 m8 z0 z1 z2 z3 z4 z5 z6 z7 z8 a0 a1 a2 a3 a4 a5 g0 g1
      have HN1 := Lib.hid (HMk.out X2 H3.out)
      have m1 : X2.cell? ⟨b, 1, none⟩ = some (.int .i64 (k : Int)) := by have := H3.out.nine.1.2.1; rw [hkk] at this; exact this
      have m0 : X2.cell? ⟨b, 0, none⟩ = some (.slice (some ⟨d, o, none⟩) n c) := by have := H3.out.nine.1.1; rw [hga, HNn.out] at this; exact this
      have z1 := H3.out.nine.2.2.1
      have z0 := H3.out.nine.2.1
      have HHn := Lib.hid (show W.heap.size + 1 ≠ b from by omega)
      have HKK := Lib.hid hkk
      have n1 := HN1.out.1.nine.1.2.1
      have n0 : (X2.setCell ⟨b, 1, none⟩ (.int .i64 ((k : Int) + 1))).cell? ⟨b, 0, none⟩ = some (.slice (some ⟨d, o, none⟩) n c) := by have := HN1.out.1.nine.1.1; rw [hga, HNn.out] at this; exact this
      have n1 : (X2.setCell ⟨b, 1, none⟩ (.int .i64 ((k : Int) + 1))).cell? ⟨b, 1, none⟩ = some (.int .i64 ((k : Int) + 1)) := HN1.out.1.nine.1.2.1
      obtain ⟨d0, d1⟩ := HD.out (X2.setCell ⟨b, 1, none⟩ (.int .i64 ((k : Int) + 1))) (fun j hj => (HN1.out.2.1 j hj).trans (HS3.out j))
      have HG4 := Lib.hid ((HN1.out.2.1 _ HHn.out).trans HG3.out)
      clear hkk hga
      go_wp2_with fail
      generalize X2.setCell ⟨b, 1, none⟩ (.int .i64 ((k : Int) + 1)) = X3 at HN1 n0 n1 d0 d1 HG4 ⊢
      clear m0 m1 z0 z1
      go_still_tail 11, hmix
      change wpList _ _ _ _ _ X3.drew
      have HG5 := Lib.hid (show X3.drew.heap[W.heap.size + 1]? = some gotZ from HG4.out)
      have HT5 := Lib.hid (HN1.out.1.below (below_drew X3))
      have HS5 := Lib.hid (((Step.of_below HB2.out).trans HN1.out.2.2).trans (Step.of_below (below_drew X3)))
      clear n0 n1 d0 d1
      generalize X3.drew = X4 at HG5 HT5 HS5 ⊢
      obtain ⟨g0, g1⟩ := two_at HG5.out
      have y0 : X4.frozen? ⟨W.heap.size + 1, 0, none⟩ = false := by have := HG5.out; simp [World.frozen?, this]
      have y1 : X4.frozen? ⟨W.heap.size + 1, 1, none⟩ = false := by have := HG5.out; simp [World.frozen?, this]
      go_wp2_with fail
      rw [HKK.out]
      exact do_fin HG5.out HHn.out (by omega) rfl HGa.out HT5.out HS5.out

end Go.Proofs.YtpnfbabiibopnaaGreat

/-! A config as it lies; whether it may be, and where things stand in the control block: the program's functions, at every config and every number. -/
namespace Go.Proofs.YtpnfbabiibopnaaGreat
open Go Go.RowKit
theorem heap_lt {W : World} {k : Nat} {o : Obj} (h : W.heap[k]? = some o) : k < W.heap.size := (Array.getElem?_eq_some_iff.1 h).1

/-- A number; what lay lies as it lay. -/
def Tells (n : Int) (w : World) (e : Ending) (w' : World) : Prop := e = .returned (.int .i64 n) ∧ Below w.heap.size w w'
theorem drew_to {W X : World} (h : Below W.heap.size W X) : Below W.heap.size W X.drew := h.trans ((below_drew X).mono h.size)
theorem below_to {W X Y : World} (h : Below W.heap.size W X) (hb : Below X.heap.size X Y) : Below W.heap.size W Y := h.trans (hb.mono h.size)

def I64 (n : Int) : Prop := -9223372036854775808 ≤ n ∧ n ≤ 9223372036854775807
/-- A config's six numbers. -/
abbrev cfV (a p s q v x : Int) : Value := .agg #[.int .i64 a, .int .i64 p, .int .i64 s, .int .i64 q, .int .i64 v, .int .u64 x]
def cfC (a p s q v x : Int) : Array Value := #[.int .i64 a, .int .i64 p, .int .i64 s, .int .i64 q, .int .i64 v, .int .u64 x]
def SixC (b : Nat) (a p s q v x : Int) (X : World) : Prop :=
  X.cell? ⟨b, 0, none⟩ = some (.int .i64 a) ∧ X.cell? ⟨b, 1, none⟩ = some (.int .i64 p) ∧ X.cell? ⟨b, 2, none⟩ = some (.int .i64 s) ∧ X.cell? ⟨b, 3, none⟩ = some (.int .i64 q) ∧ X.cell? ⟨b, 4, none⟩ = some (.int .i64 v) ∧ X.cell? ⟨b, 5, none⟩ = some (.int .u64 x)
/-- A config in a box of its own; what lay lies as it lay. -/
structure BoxC (W : World) (a p s q v x : Int) (X : World) : Prop where
  lo : Below W.heap.size W X
  b : X.heap[W.heap.size]? = some (.cells (cfC a p s q v x) 24 (0, 0))
section
variable {W X Y : World} {a p s q v x : Int}
theorem BoxC.start (W : World) (a p s q v x : Int) : BoxC W a p s q v x (W.alloc (.cells #[.int .i64 a, .int .i64 p, .int .i64 s, .int .i64 q, .int .i64 v, .int .u64 x] 24)) :=
  ⟨below_alloc W _, heap_alloc_new W _⟩
theorem BoxC.below (h : BoxC W a p s q v x X) (hb : Below X.heap.size X Y) : BoxC W a p s q v x Y :=
  ⟨below_to h.lo hb, (hb.block _ (Array.getElem?_eq_some_iff.1 h.b).1).trans h.b⟩
theorem BoxC.drew (h : BoxC W a p s q v x X) : BoxC W a p s q v x X.drew := h.below (below_drew X)
theorem BoxC.six (h : BoxC W a p s q v x X) : SixC W.heap.size a p s q v x X :=
  ⟨(cell_of h.b).trans rfl, (cell_of h.b).trans rfl, (cell_of h.b).trans rfl, (cell_of h.b).trans rfl, (cell_of h.b).trans rfl, (cell_of h.b).trans rfl⟩
end

/-! ### plain numbers -/
/-- May it be? -/
def rightC (a p s q v : Int) : Bool := decide ((1 ≤ a ∧ a ≤ 32) ∧ (1 ≤ p ∧ p ≤ 8) ∧ (1 ≤ s ∧ s ≤ 64) ∧ (0 ≤ q ∧ q ≤ 64) ∧ (0 ≤ v ∧ v ≤ 8))
theorem rightC_bd {a p s q v : Int} (h : rightC a p s q v = true) : (1 ≤ a ∧ a ≤ 32) ∧ (1 ≤ p ∧ p ≤ 8) ∧ (1 ≤ s ∧ s ≤ 64) := by
  have := of_decide_eq_true h
  exact ⟨this.1, this.2.1, this.2.2.1⟩
def sizeW (a p s q v : Int) : Int := if rightC a p s q v = true then 3 + p + a + 2 * s else 0
def pinW (a p s q v i : Int) : Int := if rightC a p s q v = true ∧ 0 ≤ i ∧ i ≤ p - 1 then 3 + i else -1
def ringW (a p s q v i : Int) : Int := if rightC a p s q v = true ∧ 0 ≤ i then 3 + p + i % a else -1
def keyW (a p s q v i : Int) : Int := if rightC a p s q v = true ∧ 0 ≤ i ∧ i ≤ s - 1 then 3 + p + a + 2 * i else -1
def headW (a p s q v i : Int) : Int := if rightC a p s q v = true ∧ 0 ≤ i ∧ i ≤ s - 1 then 3 + p + a + 2 * i + 1 else -1

/-! ### within -/
theorem within_any (n l m : Int) (W : World) : Calls Tryz.prog 50 #[.int .i64 n, .int .i64 l, .int .i64 m] W (Says (decide (l ≤ n ∧ n ≤ m)) W) := by
  by_cases h1 : l ≤ n
  · by_cases h2 : n ≤ m
    · rw [decide_eq_true (⟨h1, h2⟩ : l ≤ n ∧ n ≤ m)]
      go_enter Tryz.func50, Tryz.ntmps50
      go_wp2_with fail
      go_ret
      exact ⟨rfl, Below.refl _ _⟩
    · rw [decide_eq_false (fun h : l ≤ n ∧ n ≤ m => h2 h.2)]
      go_enter Tryz.func50, Tryz.ntmps50
      go_wp2_with fail
      go_ret
      exact ⟨rfl, Below.refl _ _⟩
  · rw [decide_eq_false (fun h : l ≤ n ∧ n ≤ m => h1 h.1)]
    go_enter Tryz.func50, Tryz.ntmps50
    go_wp2_with fail
    go_ret
    exact ⟨rfl, Below.refl _ _⟩

/-! ### where the ring and the shelves begin -/
theorem firstRing_any (a p s q v x : Int) (W : World) (hp : 1 ≤ p ∧ p ≤ 8) : Calls Tryz.prog 83 #[cfV a p s q v x] W (Tells (3 + p) W) := by
  obtain ⟨p1, p8⟩ := hp
  have X0 := Lib.hid (BoxC.start W a p s q v x)
  obtain ⟨c0, c1, c2, c3, c4, c5⟩ := X0.out.six
  go_enter Tryz.func83, Tryz.ntmps83
  go_wp2_with fail
  go_ret
  exact ⟨rfl, X0.out.lo⟩
theorem firstShelf_any (a p s q v x : Int) (W : World) (ha : 1 ≤ a ∧ a ≤ 32) (hp : 1 ≤ p ∧ p ≤ 8) : Calls Tryz.prog 68 #[cfV a p s q v x] W (Tells (3 + p + a) W) := by
  have HR := Lib.hid (fun X : World => firstRing_any a p s q v x X hp)
  obtain ⟨p1, p8⟩ := hp
  obtain ⟨a1, a8⟩ := ha
  have hw : IntKind.i64.wrap (3 + p + a) = 3 + p + a := by rw [IntKind.wrap_i64]; omega
  have X0 := Lib.hid (BoxC.start W a p s q v x)
  obtain ⟨c0, c1, c2, c3, c4, c5⟩ := X0.out.six
  go_enter Tryz.func68, Tryz.ntmps68
  go_wp2_with fail
  generalize (W.alloc (.cells #[.int .i64 a, .int .i64 p, .int .i64 s, .int .i64 q, .int .i64 v, .int .u64 x] 24)) = w0 at X0 c0 c1 c2 c3 c4 c5 ⊢
  clear c0 c1 c2 c3 c4 c5
  go_region_held3 (fun w' => w'.cell? ⟨W.heap.size, 0, none⟩ = some (.int .i64 a) ∧ w'.cell? ⟨W.heap.size, 1, none⟩ = some (.int .i64 p) ∧ w'.cell? ⟨W.heap.size, 2, none⟩ = some (.int .i64 s) ∧ w'.cell? ⟨W.heap.size, 3, none⟩ = some (.int .i64 q) ∧ w'.cell? ⟨W.heap.size, 4, none⟩ = some (.int .i64 v) ∧ w'.cell? ⟨W.heap.size, 5, none⟩ = some (.int .u64 x))
    (first
      | exact X1.out.six
      | exact X0.out.drew.six
      | exact X0.out.six)
    (first
      | (go_at_call 83; refine (HR.out _).mono ?_; rintro e x1 ⟨rfl, hb⟩; have X1 := Lib.hid (X0.out.drew.below hb); clear hb))
  all_goals
    go_wp2_with fail
    go_ret
    exact ⟨by first | rfl | (rw [hw]; rfl), X1.out.lo⟩

/-! ### may it be? -/
theorem right_0 (a p s q v x : Int) (W : World) (H0 : Hid (∀ X : World, Calls Tryz.prog 50 #[.int .i64 a, .int .i64 1, .int .i64 32] X (Says false X))) : Calls Tryz.prog 18 #[cfV a p s q v x] W (Says false W) := by
  have X0 := Lib.hid (BoxC.start W a p s q v x)
  obtain ⟨c0, c1, c2, c3, c4, c5⟩ := X0.out.six
  go_enter Tryz.func18, Tryz.ntmps18
  go_wp2_with fail
  refine (H0.out _).mono ?_
  rintro e w1 ⟨rfl, hb⟩
  have X1 := Lib.hid (X0.out.below hb)
  clear hb c0 c1 c2 c3 c4 c5
  obtain ⟨c0, c1, c2, c3, c4, c5⟩ := X1.out.six
  go_wp2_with fail
  go_ret
  exact ⟨rfl, X1.out.lo⟩
theorem right_1 (a p s q v x : Int) (W : World) (H0 : Hid (∀ X : World, Calls Tryz.prog 50 #[.int .i64 a, .int .i64 1, .int .i64 32] X (Says true X))) (H1 : Hid (∀ X : World, Calls Tryz.prog 50 #[.int .i64 p, .int .i64 1, .int .i64 8] X (Says false X))) : Calls Tryz.prog 18 #[cfV a p s q v x] W (Says false W) := by
  have X0 := Lib.hid (BoxC.start W a p s q v x)
  obtain ⟨c0, c1, c2, c3, c4, c5⟩ := X0.out.six
  go_enter Tryz.func18, Tryz.ntmps18
  go_wp2_with fail
  refine (H0.out _).mono ?_
  rintro e w1 ⟨rfl, hb⟩
  have X1 := Lib.hid (X0.out.below hb)
  clear hb c0 c1 c2 c3 c4 c5
  obtain ⟨c0, c1, c2, c3, c4, c5⟩ := X1.out.six
  go_wp2_with fail
  refine (H1.out _).mono ?_
  rintro e w2 ⟨rfl, hb⟩
  have X2 := Lib.hid (X1.out.below hb)
  clear hb c0 c1 c2 c3 c4 c5
  obtain ⟨c0, c1, c2, c3, c4, c5⟩ := X2.out.six
  go_wp2_with fail
  go_ret
  exact ⟨rfl, X2.out.lo⟩
theorem right_2 (a p s q v x : Int) (W : World) (H0 : Hid (∀ X : World, Calls Tryz.prog 50 #[.int .i64 a, .int .i64 1, .int .i64 32] X (Says true X))) (H1 : Hid (∀ X : World, Calls Tryz.prog 50 #[.int .i64 p, .int .i64 1, .int .i64 8] X (Says true X))) (H2 : Hid (∀ X : World, Calls Tryz.prog 50 #[.int .i64 s, .int .i64 1, .int .i64 64] X (Says false X))) : Calls Tryz.prog 18 #[cfV a p s q v x] W (Says false W) := by
  have X0 := Lib.hid (BoxC.start W a p s q v x)
  obtain ⟨c0, c1, c2, c3, c4, c5⟩ := X0.out.six
  go_enter Tryz.func18, Tryz.ntmps18
  go_wp2_with fail
  refine (H0.out _).mono ?_
  rintro e w1 ⟨rfl, hb⟩
  have X1 := Lib.hid (X0.out.below hb)
  clear hb c0 c1 c2 c3 c4 c5
  obtain ⟨c0, c1, c2, c3, c4, c5⟩ := X1.out.six
  go_wp2_with fail
  refine (H1.out _).mono ?_
  rintro e w2 ⟨rfl, hb⟩
  have X2 := Lib.hid (X1.out.below hb)
  clear hb c0 c1 c2 c3 c4 c5
  obtain ⟨c0, c1, c2, c3, c4, c5⟩ := X2.out.six
  go_wp2_with fail
  refine (H2.out _).mono ?_
  rintro e w3 ⟨rfl, hb⟩
  have X3 := Lib.hid (X2.out.below hb)
  clear hb c0 c1 c2 c3 c4 c5
  obtain ⟨c0, c1, c2, c3, c4, c5⟩ := X3.out.six
  go_wp2_with fail
  go_ret
  exact ⟨rfl, X3.out.lo⟩
theorem right_3 (a p s q v x : Int) (W : World) (H0 : Hid (∀ X : World, Calls Tryz.prog 50 #[.int .i64 a, .int .i64 1, .int .i64 32] X (Says true X))) (H1 : Hid (∀ X : World, Calls Tryz.prog 50 #[.int .i64 p, .int .i64 1, .int .i64 8] X (Says true X))) (H2 : Hid (∀ X : World, Calls Tryz.prog 50 #[.int .i64 s, .int .i64 1, .int .i64 64] X (Says true X))) (H3 : Hid (∀ X : World, Calls Tryz.prog 50 #[.int .i64 q, .int .i64 0, .int .i64 64] X (Says false X))) : Calls Tryz.prog 18 #[cfV a p s q v x] W (Says false W) := by
  have X0 := Lib.hid (BoxC.start W a p s q v x)
  obtain ⟨c0, c1, c2, c3, c4, c5⟩ := X0.out.six
  go_enter Tryz.func18, Tryz.ntmps18
  go_wp2_with fail
  refine (H0.out _).mono ?_
  rintro e w1 ⟨rfl, hb⟩
  have X1 := Lib.hid (X0.out.below hb)
  clear hb c0 c1 c2 c3 c4 c5
  obtain ⟨c0, c1, c2, c3, c4, c5⟩ := X1.out.six
  go_wp2_with fail
  refine (H1.out _).mono ?_
  rintro e w2 ⟨rfl, hb⟩
  have X2 := Lib.hid (X1.out.below hb)
  clear hb c0 c1 c2 c3 c4 c5
  obtain ⟨c0, c1, c2, c3, c4, c5⟩ := X2.out.six
  go_wp2_with fail
  refine (H2.out _).mono ?_
  rintro e w3 ⟨rfl, hb⟩
  have X3 := Lib.hid (X2.out.below hb)
  clear hb c0 c1 c2 c3 c4 c5
  obtain ⟨c0, c1, c2, c3, c4, c5⟩ := X3.out.six
  go_wp2_with fail
  refine (H3.out _).mono ?_
  rintro e w4 ⟨rfl, hb⟩
  have X4 := Lib.hid (X3.out.below hb)
  clear hb c0 c1 c2 c3 c4 c5
  obtain ⟨c0, c1, c2, c3, c4, c5⟩ := X4.out.six
  go_wp2_with fail
  go_ret
  exact ⟨rfl, X4.out.lo⟩
theorem right_4 (a p s q v x : Int) (W : World) (H0 : Hid (∀ X : World, Calls Tryz.prog 50 #[.int .i64 a, .int .i64 1, .int .i64 32] X (Says true X))) (H1 : Hid (∀ X : World, Calls Tryz.prog 50 #[.int .i64 p, .int .i64 1, .int .i64 8] X (Says true X))) (H2 : Hid (∀ X : World, Calls Tryz.prog 50 #[.int .i64 s, .int .i64 1, .int .i64 64] X (Says true X))) (H3 : Hid (∀ X : World, Calls Tryz.prog 50 #[.int .i64 q, .int .i64 0, .int .i64 64] X (Says true X))) (H4 : Hid (∀ X : World, Calls Tryz.prog 50 #[.int .i64 v, .int .i64 0, .int .i64 8] X (Says false X))) : Calls Tryz.prog 18 #[cfV a p s q v x] W (Says false W) := by
  have X0 := Lib.hid (BoxC.start W a p s q v x)
  obtain ⟨c0, c1, c2, c3, c4, c5⟩ := X0.out.six
  go_enter Tryz.func18, Tryz.ntmps18
  go_wp2_with fail
  refine (H0.out _).mono ?_
  rintro e w1 ⟨rfl, hb⟩
  have X1 := Lib.hid (X0.out.below hb)
  clear hb c0 c1 c2 c3 c4 c5
  obtain ⟨c0, c1, c2, c3, c4, c5⟩ := X1.out.six
  go_wp2_with fail
  refine (H1.out _).mono ?_
  rintro e w2 ⟨rfl, hb⟩
  have X2 := Lib.hid (X1.out.below hb)
  clear hb c0 c1 c2 c3 c4 c5
  obtain ⟨c0, c1, c2, c3, c4, c5⟩ := X2.out.six
  go_wp2_with fail
  refine (H2.out _).mono ?_
  rintro e w3 ⟨rfl, hb⟩
  have X3 := Lib.hid (X2.out.below hb)
  clear hb c0 c1 c2 c3 c4 c5
  obtain ⟨c0, c1, c2, c3, c4, c5⟩ := X3.out.six
  go_wp2_with fail
  refine (H3.out _).mono ?_
  rintro e w4 ⟨rfl, hb⟩
  have X4 := Lib.hid (X3.out.below hb)
  clear hb c0 c1 c2 c3 c4 c5
  obtain ⟨c0, c1, c2, c3, c4, c5⟩ := X4.out.six
  go_wp2_with fail
  refine (H4.out _).mono ?_
  rintro e w5 ⟨rfl, hb⟩
  have X5 := Lib.hid (X4.out.below hb)
  clear hb c0 c1 c2 c3 c4 c5
  obtain ⟨c0, c1, c2, c3, c4, c5⟩ := X5.out.six
  go_wp2_with fail
  go_ret
  exact ⟨rfl, X5.out.lo⟩
theorem right_5 (a p s q v x : Int) (W : World) (H0 : Hid (∀ X : World, Calls Tryz.prog 50 #[.int .i64 a, .int .i64 1, .int .i64 32] X (Says true X))) (H1 : Hid (∀ X : World, Calls Tryz.prog 50 #[.int .i64 p, .int .i64 1, .int .i64 8] X (Says true X))) (H2 : Hid (∀ X : World, Calls Tryz.prog 50 #[.int .i64 s, .int .i64 1, .int .i64 64] X (Says true X))) (H3 : Hid (∀ X : World, Calls Tryz.prog 50 #[.int .i64 q, .int .i64 0, .int .i64 64] X (Says true X))) (H4 : Hid (∀ X : World, Calls Tryz.prog 50 #[.int .i64 v, .int .i64 0, .int .i64 8] X (Says true X))) : Calls Tryz.prog 18 #[cfV a p s q v x] W (Says true W) := by
  have X0 := Lib.hid (BoxC.start W a p s q v x)
  obtain ⟨c0, c1, c2, c3, c4, c5⟩ := X0.out.six
  go_enter Tryz.func18, Tryz.ntmps18
  go_wp2_with fail
  refine (H0.out _).mono ?_
  rintro e w1 ⟨rfl, hb⟩
  have X1 := Lib.hid (X0.out.below hb)
  clear hb c0 c1 c2 c3 c4 c5
  obtain ⟨c0, c1, c2, c3, c4, c5⟩ := X1.out.six
  go_wp2_with fail
  refine (H1.out _).mono ?_
  rintro e w2 ⟨rfl, hb⟩
  have X2 := Lib.hid (X1.out.below hb)
  clear hb c0 c1 c2 c3 c4 c5
  obtain ⟨c0, c1, c2, c3, c4, c5⟩ := X2.out.six
  go_wp2_with fail
  refine (H2.out _).mono ?_
  rintro e w3 ⟨rfl, hb⟩
  have X3 := Lib.hid (X2.out.below hb)
  clear hb c0 c1 c2 c3 c4 c5
  obtain ⟨c0, c1, c2, c3, c4, c5⟩ := X3.out.six
  go_wp2_with fail
  refine (H3.out _).mono ?_
  rintro e w4 ⟨rfl, hb⟩
  have X4 := Lib.hid (X3.out.below hb)
  clear hb c0 c1 c2 c3 c4 c5
  obtain ⟨c0, c1, c2, c3, c4, c5⟩ := X4.out.six
  go_wp2_with fail
  refine (H4.out _).mono ?_
  rintro e w5 ⟨rfl, hb⟩
  have X5 := Lib.hid (X4.out.below hb)
  clear hb c0 c1 c2 c3 c4 c5
  obtain ⟨c0, c1, c2, c3, c4, c5⟩ := X5.out.six
  go_wp2_with fail
  go_ret
  exact ⟨rfl, X5.out.lo⟩
theorem cright_any (a p s q v x : Int) (W : World) : Calls Tryz.prog 18 #[cfV a p s q v x] W (Says (rightC a p s q v) W) := by
  by_cases h0 : 1 ≤ a ∧ a ≤ 32
  rotate_left
  · rw [show rightC a p s q v = false from decide_eq_false (fun h => h0 (by omega))]
    exact right_0 a p s q v x W (Lib.hid (fun X => by have h := within_any a 1 32 X; rwa [decide_eq_false h0] at h))
  by_cases h1 : 1 ≤ p ∧ p ≤ 8
  rotate_left
  · rw [show rightC a p s q v = false from decide_eq_false (fun h => h1 (by omega))]
    exact right_1 a p s q v x W (Lib.hid (fun X => by have h := within_any a 1 32 X; rwa [decide_eq_true h0] at h)) (Lib.hid (fun X => by have h := within_any p 1 8 X; rwa [decide_eq_false h1] at h))
  by_cases h2 : 1 ≤ s ∧ s ≤ 64
  rotate_left
  · rw [show rightC a p s q v = false from decide_eq_false (fun h => h2 (by omega))]
    exact right_2 a p s q v x W (Lib.hid (fun X => by have h := within_any a 1 32 X; rwa [decide_eq_true h0] at h)) (Lib.hid (fun X => by have h := within_any p 1 8 X; rwa [decide_eq_true h1] at h)) (Lib.hid (fun X => by have h := within_any s 1 64 X; rwa [decide_eq_false h2] at h))
  by_cases h3 : 0 ≤ q ∧ q ≤ 64
  rotate_left
  · rw [show rightC a p s q v = false from decide_eq_false (fun h => h3 (by omega))]
    exact right_3 a p s q v x W (Lib.hid (fun X => by have h := within_any a 1 32 X; rwa [decide_eq_true h0] at h)) (Lib.hid (fun X => by have h := within_any p 1 8 X; rwa [decide_eq_true h1] at h)) (Lib.hid (fun X => by have h := within_any s 1 64 X; rwa [decide_eq_true h2] at h)) (Lib.hid (fun X => by have h := within_any q 0 64 X; rwa [decide_eq_false h3] at h))
  by_cases h4 : 0 ≤ v ∧ v ≤ 8
  rotate_left
  · rw [show rightC a p s q v = false from decide_eq_false (fun h => h4 (by omega))]
    exact right_4 a p s q v x W (Lib.hid (fun X => by have h := within_any a 1 32 X; rwa [decide_eq_true h0] at h)) (Lib.hid (fun X => by have h := within_any p 1 8 X; rwa [decide_eq_true h1] at h)) (Lib.hid (fun X => by have h := within_any s 1 64 X; rwa [decide_eq_true h2] at h)) (Lib.hid (fun X => by have h := within_any q 0 64 X; rwa [decide_eq_true h3] at h)) (Lib.hid (fun X => by have h := within_any v 0 8 X; rwa [decide_eq_false h4] at h))
  rw [show rightC a p s q v = true from decide_eq_true ⟨h0, h1, h2, h3, h4⟩]
  exact right_5 a p s q v x W (Lib.hid (fun X => by have h := within_any a 1 32 X; rwa [decide_eq_true h0] at h)) (Lib.hid (fun X => by have h := within_any p 1 8 X; rwa [decide_eq_true h1] at h)) (Lib.hid (fun X => by have h := within_any s 1 64 X; rwa [decide_eq_true h2] at h)) (Lib.hid (fun X => by have h := within_any q 0 64 X; rwa [decide_eq_true h3] at h)) (Lib.hid (fun X => by have h := within_any v 0 8 X; rwa [decide_eq_true h4] at h))

theorem awrap {n : Int} (h : -9223372036854775808 ≤ n ∧ n ≤ 9223372036854775807) : IntKind.i64.wrap n = n := by rw [IntKind.wrap_i64]; omega

/-! ### how many cells there are -/
set_option maxHeartbeats 1000000 in
theorem csize_any (a p s q v x : Int) (W : World) : Calls Tryz.prog 44 #[cfV a p s q v x] W (Tells (sizeW a p s q v) W) := by
  have HR := Lib.hid (fun X : World => cright_any a p s q v x X)
  have X0 := Lib.hid (BoxC.start W a p s q v x)
  obtain ⟨c0, c1, c2, c3, c4, c5⟩ := X0.out.six
  by_cases hr : rightC a p s q v = true
  · rw [show sizeW a p s q v = 3 + p + a + 2 * s from if_pos hr]
    obtain ⟨ha, hp, hs⟩ := rightC_bd hr
    rw [hr] at HR
    have HS := Lib.hid (fun X : World => firstShelf_any a p s q v x X ha hp)
    have hw0 : IntKind.i64.wrap (2 * s) = 2 * s := awrap (by omega)
    have hw : IntKind.i64.wrap (3 + p + a + 2 * s) = 3 + p + a + 2 * s := awrap (by omega)
    clear ha hp hs hr
    go_enter Tryz.func44, Tryz.ntmps44
    go_wp2_with fail
    refine (HR.out _).mono ?_
    rintro e w1 ⟨rfl, hb⟩
    have Y0 := Lib.hid (X0.out.below hb)
    clear hb c0 c1 c2 c3 c4 c5
    obtain ⟨c0, c1, c2, c3, c4, c5⟩ := Y0.out.six
    go_wp2_with fail
    clear c0 c1 c2 c3 c4 c5
    go_region_held3 (fun w' => w'.cell? ⟨W.heap.size, 0, none⟩ = some (.int .i64 a) ∧ w'.cell? ⟨W.heap.size, 1, none⟩ = some (.int .i64 p) ∧ w'.cell? ⟨W.heap.size, 2, none⟩ = some (.int .i64 s) ∧ w'.cell? ⟨W.heap.size, 3, none⟩ = some (.int .i64 q) ∧ w'.cell? ⟨W.heap.size, 4, none⟩ = some (.int .i64 v) ∧ w'.cell? ⟨W.heap.size, 5, none⟩ = some (.int .u64 x))
      (first
        | exact X1.out.six
        | exact Y0.out.drew.six
        | exact Y0.out.six)
      (first
        | (go_at_call 68; refine (HS.out _).mono ?_; rintro e x1 ⟨rfl, hb⟩; have X1 := Lib.hid (Y0.out.drew.below hb); clear hb))
    all_goals
      go_wp2_with fail
      go_ret
      exact ⟨by first | rfl | (simp only [hw0, hw]; rfl), X1.out.lo⟩
  · rw [show sizeW a p s q v = 0 from if_neg hr]
    rw [show rightC a p s q v = false by simpa using hr] at HR
    clear hr
    go_enter Tryz.func44, Tryz.ntmps44
    go_wp2_with fail
    refine (HR.out _).mono ?_
    rintro e w1 ⟨rfl, hb⟩
    have X1 := Lib.hid (X0.out.below hb)
    clear hb c0 c1 c2 c3 c4 c5
    go_wp2_with fail
    go_ret
    exact ⟨rfl, X1.out.lo⟩

set_option maxHeartbeats 1000000 in
theorem pin_any (a p s q v x i : Int) (W : World) : Calls Tryz.prog 56 #[cfV a p s q v x, .int .i64 i] W (Tells (pinW a p s q v i) W) := by
  have HR := Lib.hid (fun X : World => cright_any a p s q v x X)
  have X0 := Lib.hid (BoxC.start W a p s q v x)
  obtain ⟨c0, c1, c2, c3, c4, c5⟩ := X0.out.six
  by_cases hr : rightC a p s q v = true
  · obtain ⟨ha, hp, hs⟩ := rightC_bd hr
    rw [hr] at HR
    have HS := Lib.hid (fun X : World => firstShelf_any a p s q v x X ha hp)
    have hb1 : IntKind.i64.wrap (p - 1) = p - 1 := awrap (by omega)
    by_cases hin : 0 ≤ i ∧ i ≤ p - 1
    · rw [show pinW a p s q v i = 3 + i from if_pos ⟨hr, hin⟩]
      have HW := Lib.hid (fun X => by have h := within_any i 0 (p - 1) X; rwa [decide_eq_true hin] at h)
      have hw0 : IntKind.i64.wrap (2 * i) = 2 * i := awrap (by omega)
      have hw : IntKind.i64.wrap (3 + i) = 3 + i := awrap (by omega)
      clear hr ha hp hs hin
      go_enter Tryz.func56, Tryz.ntmps56
      go_wp2_with fail
      refine (HR.out _).mono ?_
      rintro e w1 ⟨rfl, hb⟩
      have X1 := Lib.hid (X0.out.below hb)
      clear hb c0 c1 c2 c3 c4 c5
      obtain ⟨c0, c1, c2, c3, c4, c5⟩ := X1.out.six
      go_wp2_with fail
      refine (HW.out _).mono ?_
      rintro e w2 ⟨rfl, hb⟩
      have X2 := Lib.hid (X1.out.below hb)
      clear hb c0 c1 c2 c3 c4 c5
      obtain ⟨c0, c1, c2, c3, c4, c5⟩ := X2.out.six
      go_wp2_with fail
      go_ret
      exact ⟨by first | rfl | (simp only [hw0, hw]; rfl), X2.out.lo⟩
    · rw [show pinW a p s q v i = -1 from if_neg (fun h => hin h.2)]
      have HW := Lib.hid (fun X => by have h := within_any i 0 (p - 1) X; rwa [decide_eq_false hin] at h)
      clear hr ha hp hs hin
      go_enter Tryz.func56, Tryz.ntmps56
      go_wp2_with fail
      refine (HR.out _).mono ?_
      rintro e w1 ⟨rfl, hb⟩
      have X1 := Lib.hid (X0.out.below hb)
      clear hb c0 c1 c2 c3 c4 c5
      obtain ⟨c0, c1, c2, c3, c4, c5⟩ := X1.out.six
      go_wp2_with fail
      refine (HW.out _).mono ?_
      rintro e w2 ⟨rfl, hb⟩
      have X2 := Lib.hid (X1.out.below hb)
      clear hb c0 c1 c2 c3 c4 c5
      go_wp2_with fail
      go_ret
      exact ⟨rfl, X2.out.lo⟩
  · rw [show pinW a p s q v i = -1 from if_neg (fun h => hr h.1)]
    rw [show rightC a p s q v = false by simpa using hr] at HR
    clear hr
    go_enter Tryz.func56, Tryz.ntmps56
    go_wp2_with fail
    refine (HR.out _).mono ?_
    rintro e w1 ⟨rfl, hb⟩
    have X1 := Lib.hid (X0.out.below hb)
    clear hb c0 c1 c2 c3 c4 c5
    go_wp2_with fail
    go_ret
    exact ⟨rfl, X1.out.lo⟩

set_option maxHeartbeats 1000000 in
theorem key_any (a p s q v x i : Int) (W : World) : Calls Tryz.prog 48 #[cfV a p s q v x, .int .i64 i] W (Tells (keyW a p s q v i) W) := by
  have HR := Lib.hid (fun X : World => cright_any a p s q v x X)
  have X0 := Lib.hid (BoxC.start W a p s q v x)
  obtain ⟨c0, c1, c2, c3, c4, c5⟩ := X0.out.six
  by_cases hr : rightC a p s q v = true
  · obtain ⟨ha, hp, hs⟩ := rightC_bd hr
    rw [hr] at HR
    have HS := Lib.hid (fun X : World => firstShelf_any a p s q v x X ha hp)
    have hb1 : IntKind.i64.wrap (s - 1) = s - 1 := awrap (by omega)
    by_cases hin : 0 ≤ i ∧ i ≤ s - 1
    · rw [show keyW a p s q v i = 3 + p + a + 2 * i from if_pos ⟨hr, hin⟩]
      have HW := Lib.hid (fun X => by have h := within_any i 0 (s - 1) X; rwa [decide_eq_true hin] at h)
      have hw0 : IntKind.i64.wrap (2 * i) = 2 * i := awrap (by omega)
      have hw : IntKind.i64.wrap (3 + p + a + 2 * i) = 3 + p + a + 2 * i := awrap (by omega)
      clear hr ha hp hs hin
      go_enter Tryz.func48, Tryz.ntmps48
      go_wp2_with fail
      refine (HR.out _).mono ?_
      rintro e w1 ⟨rfl, hb⟩
      have X1 := Lib.hid (X0.out.below hb)
      clear hb c0 c1 c2 c3 c4 c5
      obtain ⟨c0, c1, c2, c3, c4, c5⟩ := X1.out.six
      go_wp2_with fail
      refine (HW.out _).mono ?_
      rintro e w2 ⟨rfl, hb⟩
      have X2 := Lib.hid (X1.out.below hb)
      clear hb c0 c1 c2 c3 c4 c5
      obtain ⟨c0, c1, c2, c3, c4, c5⟩ := X2.out.six
      go_wp2_with fail
      refine (HS.out _).mono ?_
      rintro e w3 ⟨rfl, hb⟩
      have X3 := Lib.hid (X2.out.below hb)
      clear hb c0 c1 c2 c3 c4 c5
      go_wp2_with fail
      go_ret
      exact ⟨by first | rfl | (simp only [hw0, hw]; rfl), X3.out.lo⟩
    · rw [show keyW a p s q v i = -1 from if_neg (fun h => hin h.2)]
      have HW := Lib.hid (fun X => by have h := within_any i 0 (s - 1) X; rwa [decide_eq_false hin] at h)
      clear hr ha hp hs hin
      go_enter Tryz.func48, Tryz.ntmps48
      go_wp2_with fail
      refine (HR.out _).mono ?_
      rintro e w1 ⟨rfl, hb⟩
      have X1 := Lib.hid (X0.out.below hb)
      clear hb c0 c1 c2 c3 c4 c5
      obtain ⟨c0, c1, c2, c3, c4, c5⟩ := X1.out.six
      go_wp2_with fail
      refine (HW.out _).mono ?_
      rintro e w2 ⟨rfl, hb⟩
      have X2 := Lib.hid (X1.out.below hb)
      clear hb c0 c1 c2 c3 c4 c5
      go_wp2_with fail
      go_ret
      exact ⟨rfl, X2.out.lo⟩
  · rw [show keyW a p s q v i = -1 from if_neg (fun h => hr h.1)]
    rw [show rightC a p s q v = false by simpa using hr] at HR
    clear hr
    go_enter Tryz.func48, Tryz.ntmps48
    go_wp2_with fail
    refine (HR.out _).mono ?_
    rintro e w1 ⟨rfl, hb⟩
    have X1 := Lib.hid (X0.out.below hb)
    clear hb c0 c1 c2 c3 c4 c5
    go_wp2_with fail
    go_ret
    exact ⟨rfl, X1.out.lo⟩

set_option maxHeartbeats 1000000 in
theorem head_any (a p s q v x i : Int) (W : World) : Calls Tryz.prog 66 #[cfV a p s q v x, .int .i64 i] W (Tells (headW a p s q v i) W) := by
  have HK := Lib.hid (fun X : World => key_any a p s q v x i X)
  have X0 := Lib.hid (BoxC.start W a p s q v x)
  obtain ⟨c0, c1, c2, c3, c4, c5⟩ := X0.out.six
  have HE : (keyW a p s q v i = -1 ∧ headW a p s q v i = -1) ∨ (0 ≤ keyW a p s q v i ∧ keyW a p s q v i ≤ 1000 ∧ headW a p s q v i = keyW a p s q v i + 1) := by
    unfold keyW headW
    by_cases h : rightC a p s q v = true ∧ 0 ≤ i ∧ i ≤ s - 1
    · obtain ⟨ha, hp, hs⟩ := rightC_bd h.1
      rw [if_pos h, if_pos h]
      exact .inr ⟨by omega, by omega, rfl⟩
    · rw [if_neg h, if_neg h]
      exact .inl ⟨rfl, rfl⟩
  generalize keyW a p s q v i = k at HE HK
  generalize headW a p s q v i = h at HE ⊢
  rcases HE with ⟨rfl, rfl⟩ | ⟨k0, k1, rfl⟩
  · go_enter Tryz.func66, Tryz.ntmps66
    go_wp2_with fail
    refine (HK.out _).mono ?_
    rintro e w1 ⟨rfl, hb⟩
    have X1 := Lib.hid (X0.out.below hb)
    clear hb c0 c1 c2 c3 c4 c5
    go_wp2_with fail
    go_ret
    exact ⟨rfl, X1.out.lo⟩
  · have hn : ¬ k = -1 := by omega
    have hw : IntKind.i64.wrap (k + 1) = k + 1 := awrap (by omega)
    go_enter Tryz.func66, Tryz.ntmps66
    go_wp2_with fail
    refine (HK.out _).mono ?_
    rintro e w1 ⟨rfl, hb⟩
    have X1 := Lib.hid (X0.out.below hb)
    clear hb c0 c1 c2 c3 c4 c5
    go_wp2_with fail
    go_ret
    exact ⟨by first | rfl | (simp only [hw]; rfl), X1.out.lo⟩

theorem tmod_of {i a : Int} (h : 0 ≤ i) : Int.tmod i a = i % a := by rw [Int.tmod_eq_emod_of_nonneg h]

end Go.Proofs.YtpnfbabiibopnaaGreat
