/-
  A config as it lies; whether it may be, and where things stand in the control block: the program's functions, at every config and every number.
-/
import Derived.Tactics
import Derived.WalkKit
import Derived.WalkLawsBesides
import Derived.Laws.StructEq
import Derived.Laws.ResultCell
import Derived.Laws.NewBlocks
import Derived.LoopTactic
import Derived.BigQuiet
import Derived.Deep.QuietTactic
import Derived.Deep.RegionHeld3
import Derived.Deep.RegionLaw
import Derived.Outline
import Derived.Lib.Hide
import Derived.KernelRfl
import Derived.Test.YtgigjbngocfkbaaFoot
namespace Go.Proofs.Ytgigjbngocfkbaa
open Go Go.RowKit
theorem heap_lt {W : World} {k : Nat} {o : Obj} (h : W.heap[k]? = some o) : k < W.heap.size := (Array.getElem?_eq_some_iff.1 h).1

/-- A number; what lay lies as it lay. -/
def Tells (n : Int) (w : World) (e : Ending) (w' : World) : Prop := e = .returned (.int .i64 n) ∧ Below w.heap.size w w'
theorem drew_to {W X : World} (h : Below W.heap.size W X) : Below W.heap.size W X.drew := h.trans ((below_drew X).mono h.size)
theorem below_to {W X Y : World} (h : Below W.heap.size W X) (hb : Below X.heap.size X Y) : Below W.heap.size W Y := h.trans (hb.mono h.size)

def I64 (n : Int) : Prop := -9223372036854775808 ≤ n ∧ n ≤ 9223372036854775807
/-- A config's six numbers. -/
abbrev cfV (a p s q v x : Int) : Value := .agg #[.int .i64 a, .int .i64 p, .int .i64 s, .int .i64 q, .int .i64 v, .int .u64 x]
def cfC (a p s q v x : Int) : Array Value := #[.int .i64 a, .int .i64 p, .int .i64 s, .int .i64 q, .int .i64 v, .int .u64 x]
def SixC (b : Nat) (a p s q v x : Int) (X : World) : Prop :=
  X.cell? ⟨b, 0, none⟩ = some (.int .i64 a) ∧ X.cell? ⟨b, 1, none⟩ = some (.int .i64 p) ∧ X.cell? ⟨b, 2, none⟩ = some (.int .i64 s) ∧ X.cell? ⟨b, 3, none⟩ = some (.int .i64 q) ∧ X.cell? ⟨b, 4, none⟩ = some (.int .i64 v) ∧ X.cell? ⟨b, 5, none⟩ = some (.int .u64 x)
/-- A config in a box of its own; what lay lies as it lay. -/
structure BoxC (W : World) (a p s q v x : Int) (X : World) : Prop where
  lo : Below W.heap.size W X
  b : X.heap[W.heap.size]? = some (.cells (cfC a p s q v x) 24 (0, 0))
section
variable {W X Y : World} {a p s q v x : Int}
theorem BoxC.start (W : World) (a p s q v x : Int) : BoxC W a p s q v x (W.alloc (.cells #[.int .i64 a, .int .i64 p, .int .i64 s, .int .i64 q, .int .i64 v, .int .u64 x] 24)) :=
  ⟨below_alloc W _, heap_alloc_new W _⟩
theorem BoxC.below (h : BoxC W a p s q v x X) (hb : Below X.heap.size X Y) : BoxC W a p s q v x Y :=
  ⟨below_to h.lo hb, (hb.block _ (Array.getElem?_eq_some_iff.1 h.b).1).trans h.b⟩
theorem BoxC.drew (h : BoxC W a p s q v x X) : BoxC W a p s q v x X.drew := h.below (below_drew X)
theorem BoxC.six (h : BoxC W a p s q v x X) : SixC W.heap.size a p s q v x X :=
  ⟨(cell_of h.b).trans rfl, (cell_of h.b).trans rfl, (cell_of h.b).trans rfl, (cell_of h.b).trans rfl, (cell_of h.b).trans rfl, (cell_of h.b).trans rfl⟩
end

/-! ### plain numbers -/
/-- May it be? -/
def rightC (a p s q v : Int) : Bool := decide ((1 ≤ a ∧ a ≤ 32) ∧ (1 ≤ p ∧ p ≤ 8) ∧ (1 ≤ s ∧ s ≤ 64) ∧ (0 ≤ q ∧ q ≤ 64) ∧ (0 ≤ v ∧ v ≤ 8))
theorem rightC_bd {a p s q v : Int} (h : rightC a p s q v = true) : (1 ≤ a ∧ a ≤ 32) ∧ (1 ≤ p ∧ p ≤ 8) ∧ (1 ≤ s ∧ s ≤ 64) := by
  have := of_decide_eq_true h
  exact ⟨this.1, this.2.1, this.2.2.1⟩
def sizeW (a p s q v : Int) : Int := if rightC a p s q v = true then 3 + p + a + 2 * s else 0
def pinW (a p s q v i : Int) : Int := if rightC a p s q v = true ∧ 0 ≤ i ∧ i ≤ p - 1 then 3 + i else -1
def ringW (a p s q v i : Int) : Int := if rightC a p s q v = true ∧ 0 ≤ i then 3 + p + i % a else -1
def keyW (a p s q v i : Int) : Int := if rightC a p s q v = true ∧ 0 ≤ i ∧ i ≤ s - 1 then 3 + p + a + 2 * i else -1
def headW (a p s q v i : Int) : Int := if rightC a p s q v = true ∧ 0 ≤ i ∧ i ≤ s - 1 then 3 + p + a + 2 * i + 1 else -1

/-! ### within -/
theorem within_any (n l m : Int) (W : World) : Calls Try.prog 31 #[.int .i64 n, .int .i64 l, .int .i64 m] W (Says (decide (l ≤ n ∧ n ≤ m)) W) := by
  by_cases h1 : l ≤ n
  · by_cases h2 : n ≤ m
    · rw [decide_eq_true (⟨h1, h2⟩ : l ≤ n ∧ n ≤ m)]
      go_enter Try.func31, Try.ntmps31
      go_wp2_with fail
      go_ret
      exact ⟨rfl, Below.refl _ _⟩
    · rw [decide_eq_false (fun h : l ≤ n ∧ n ≤ m => h2 h.2)]
      go_enter Try.func31, Try.ntmps31
      go_wp2_with fail
      go_ret
      exact ⟨rfl, Below.refl _ _⟩
  · rw [decide_eq_false (fun h : l ≤ n ∧ n ≤ m => h1 h.1)]
    go_enter Try.func31, Try.ntmps31
    go_wp2_with fail
    go_ret
    exact ⟨rfl, Below.refl _ _⟩

/-! ### where the ring and the shelves begin -/
theorem firstRing_any (a p s q v x : Int) (W : World) (hp : 1 ≤ p ∧ p ≤ 8) : Calls Try.prog 59 #[cfV a p s q v x] W (Tells (3 + p) W) := by
  obtain ⟨p1, p8⟩ := hp
  have X0 := Lib.hid (BoxC.start W a p s q v x)
  obtain ⟨c0, c1, c2, c3, c4, c5⟩ := X0.out.six
  go_enter Try.func59, Try.ntmps59
  go_wp2_with fail
  go_ret
  exact ⟨rfl, X0.out.lo⟩
theorem firstShelf_any (a p s q v x : Int) (W : World) (ha : 1 ≤ a ∧ a ≤ 32) (hp : 1 ≤ p ∧ p ≤ 8) : Calls Try.prog 50 #[cfV a p s q v x] W (Tells (3 + p + a) W) := by
  have HR := Lib.hid (fun X : World => firstRing_any a p s q v x X hp)
  obtain ⟨p1, p8⟩ := hp
  obtain ⟨a1, a8⟩ := ha
  have hw : IntKind.i64.wrap (3 + p + a) = 3 + p + a := by rw [IntKind.wrap_i64]; omega
  have X0 := Lib.hid (BoxC.start W a p s q v x)
  obtain ⟨c0, c1, c2, c3, c4, c5⟩ := X0.out.six
  go_enter Try.func50, Try.ntmps50
  go_wp2_with fail
  generalize (W.alloc (.cells #[.int .i64 a, .int .i64 p, .int .i64 s, .int .i64 q, .int .i64 v, .int .u64 x] 24)) = w0 at X0 c0 c1 c2 c3 c4 c5 ⊢
  clear c0 c1 c2 c3 c4 c5
  go_region_held3 (fun w' => w'.cell? ⟨W.heap.size, 0, none⟩ = some (.int .i64 a) ∧ w'.cell? ⟨W.heap.size, 1, none⟩ = some (.int .i64 p) ∧ w'.cell? ⟨W.heap.size, 2, none⟩ = some (.int .i64 s) ∧ w'.cell? ⟨W.heap.size, 3, none⟩ = some (.int .i64 q) ∧ w'.cell? ⟨W.heap.size, 4, none⟩ = some (.int .i64 v) ∧ w'.cell? ⟨W.heap.size, 5, none⟩ = some (.int .u64 x))
    (first
      | exact X1.out.six
      | exact X0.out.drew.six
      | exact X0.out.six)
    (first
      | (go_at_call 59; refine (HR.out _).mono ?_; rintro e x1 ⟨rfl, hb⟩; have X1 := Lib.hid (X0.out.drew.below hb); clear hb))
  all_goals
    go_wp2_with fail
    go_ret
    exact ⟨by first | rfl | (rw [hw]; rfl), X1.out.lo⟩

/-! ### may it be? -/
theorem right_0 (a p s q v x : Int) (W : World) (H0 : Hid (∀ X : World, Calls Try.prog 31 #[.int .i64 a, .int .i64 1, .int .i64 32] X (Says false X))) : Calls Try.prog 13 #[cfV a p s q v x] W (Says false W) := by
  have X0 := Lib.hid (BoxC.start W a p s q v x)
  obtain ⟨c0, c1, c2, c3, c4, c5⟩ := X0.out.six
  go_enter Try.func13, Try.ntmps13
  go_wp2_with fail
  refine (H0.out _).mono ?_
  rintro e w1 ⟨rfl, hb⟩
  have X1 := Lib.hid (X0.out.below hb)
  clear hb c0 c1 c2 c3 c4 c5
  obtain ⟨c0, c1, c2, c3, c4, c5⟩ := X1.out.six
  go_wp2_with fail
  go_ret
  exact ⟨rfl, X1.out.lo⟩
theorem right_1 (a p s q v x : Int) (W : World) (H0 : Hid (∀ X : World, Calls Try.prog 31 #[.int .i64 a, .int .i64 1, .int .i64 32] X (Says true X))) (H1 : Hid (∀ X : World, Calls Try.prog 31 #[.int .i64 p, .int .i64 1, .int .i64 8] X (Says false X))) : Calls Try.prog 13 #[cfV a p s q v x] W (Says false W) := by
  have X0 := Lib.hid (BoxC.start W a p s q v x)
  obtain ⟨c0, c1, c2, c3, c4, c5⟩ := X0.out.six
  go_enter Try.func13, Try.ntmps13
  go_wp2_with fail
  refine (H0.out _).mono ?_
  rintro e w1 ⟨rfl, hb⟩
  have X1 := Lib.hid (X0.out.below hb)
  clear hb c0 c1 c2 c3 c4 c5
  obtain ⟨c0, c1, c2, c3, c4, c5⟩ := X1.out.six
  go_wp2_with fail
  refine (H1.out _).mono ?_
  rintro e w2 ⟨rfl, hb⟩
  have X2 := Lib.hid (X1.out.below hb)
  clear hb c0 c1 c2 c3 c4 c5
  obtain ⟨c0, c1, c2, c3, c4, c5⟩ := X2.out.six
  go_wp2_with fail
  go_ret
  exact ⟨rfl, X2.out.lo⟩
theorem right_2 (a p s q v x : Int) (W : World) (H0 : Hid (∀ X : World, Calls Try.prog 31 #[.int .i64 a, .int .i64 1, .int .i64 32] X (Says true X))) (H1 : Hid (∀ X : World, Calls Try.prog 31 #[.int .i64 p, .int .i64 1, .int .i64 8] X (Says true X))) (H2 : Hid (∀ X : World, Calls Try.prog 31 #[.int .i64 s, .int .i64 1, .int .i64 64] X (Says false X))) : Calls Try.prog 13 #[cfV a p s q v x] W (Says false W) := by
  have X0 := Lib.hid (BoxC.start W a p s q v x)
  obtain ⟨c0, c1, c2, c3, c4, c5⟩ := X0.out.six
  go_enter Try.func13, Try.ntmps13
  go_wp2_with fail
  refine (H0.out _).mono ?_
  rintro e w1 ⟨rfl, hb⟩
  have X1 := Lib.hid (X0.out.below hb)
  clear hb c0 c1 c2 c3 c4 c5
  obtain ⟨c0, c1, c2, c3, c4, c5⟩ := X1.out.six
  go_wp2_with fail
  refine (H1.out _).mono ?_
  rintro e w2 ⟨rfl, hb⟩
  have X2 := Lib.hid (X1.out.below hb)
  clear hb c0 c1 c2 c3 c4 c5
  obtain ⟨c0, c1, c2, c3, c4, c5⟩ := X2.out.six
  go_wp2_with fail
  refine (H2.out _).mono ?_
  rintro e w3 ⟨rfl, hb⟩
  have X3 := Lib.hid (X2.out.below hb)
  clear hb c0 c1 c2 c3 c4 c5
  obtain ⟨c0, c1, c2, c3, c4, c5⟩ := X3.out.six
  go_wp2_with fail
  go_ret
  exact ⟨rfl, X3.out.lo⟩
theorem right_3 (a p s q v x : Int) (W : World) (H0 : Hid (∀ X : World, Calls Try.prog 31 #[.int .i64 a, .int .i64 1, .int .i64 32] X (Says true X))) (H1 : Hid (∀ X : World, Calls Try.prog 31 #[.int .i64 p, .int .i64 1, .int .i64 8] X (Says true X))) (H2 : Hid (∀ X : World, Calls Try.prog 31 #[.int .i64 s, .int .i64 1, .int .i64 64] X (Says true X))) (H3 : Hid (∀ X : World, Calls Try.prog 31 #[.int .i64 q, .int .i64 0, .int .i64 64] X (Says false X))) : Calls Try.prog 13 #[cfV a p s q v x] W (Says false W) := by
  have X0 := Lib.hid (BoxC.start W a p s q v x)
  obtain ⟨c0, c1, c2, c3, c4, c5⟩ := X0.out.six
  go_enter Try.func13, Try.ntmps13
  go_wp2_with fail
  refine (H0.out _).mono ?_
  rintro e w1 ⟨rfl, hb⟩
  have X1 := Lib.hid (X0.out.below hb)
  clear hb c0 c1 c2 c3 c4 c5
  obtain ⟨c0, c1, c2, c3, c4, c5⟩ := X1.out.six
  go_wp2_with fail
  refine (H1.out _).mono ?_
  rintro e w2 ⟨rfl, hb⟩
  have X2 := Lib.hid (X1.out.below hb)
  clear hb c0 c1 c2 c3 c4 c5
  obtain ⟨c0, c1, c2, c3, c4, c5⟩ := X2.out.six
  go_wp2_with fail
  refine (H2.out _).mono ?_
  rintro e w3 ⟨rfl, hb⟩
  have X3 := Lib.hid (X2.out.below hb)
  clear hb c0 c1 c2 c3 c4 c5
  obtain ⟨c0, c1, c2, c3, c4, c5⟩ := X3.out.six
  go_wp2_with fail
  refine (H3.out _).mono ?_
  rintro e w4 ⟨rfl, hb⟩
  have X4 := Lib.hid (X3.out.below hb)
  clear hb c0 c1 c2 c3 c4 c5
  obtain ⟨c0, c1, c2, c3, c4, c5⟩ := X4.out.six
  go_wp2_with fail
  go_ret
  exact ⟨rfl, X4.out.lo⟩
theorem right_4 (a p s q v x : Int) (W : World) (H0 : Hid (∀ X : World, Calls Try.prog 31 #[.int .i64 a, .int .i64 1, .int .i64 32] X (Says true X))) (H1 : Hid (∀ X : World, Calls Try.prog 31 #[.int .i64 p, .int .i64 1, .int .i64 8] X (Says true X))) (H2 : Hid (∀ X : World, Calls Try.prog 31 #[.int .i64 s, .int .i64 1, .int .i64 64] X (Says true X))) (H3 : Hid (∀ X : World, Calls Try.prog 31 #[.int .i64 q, .int .i64 0, .int .i64 64] X (Says true X))) (H4 : Hid (∀ X : World, Calls Try.prog 31 #[.int .i64 v, .int .i64 0, .int .i64 8] X (Says false X))) : Calls Try.prog 13 #[cfV a p s q v x] W (Says false W) := by
  have X0 := Lib.hid (BoxC.start W a p s q v x)
  obtain ⟨c0, c1, c2, c3, c4, c5⟩ := X0.out.six
  go_enter Try.func13, Try.ntmps13
  go_wp2_with fail
  refine (H0.out _).mono ?_
  rintro e w1 ⟨rfl, hb⟩
  have X1 := Lib.hid (X0.out.below hb)
  clear hb c0 c1 c2 c3 c4 c5
  obtain ⟨c0, c1, c2, c3, c4, c5⟩ := X1.out.six
  go_wp2_with fail
  refine (H1.out _).mono ?_
  rintro e w2 ⟨rfl, hb⟩
  have X2 := Lib.hid (X1.out.below hb)
  clear hb c0 c1 c2 c3 c4 c5
  obtain ⟨c0, c1, c2, c3, c4, c5⟩ := X2.out.six
  go_wp2_with fail
  refine (H2.out _).mono ?_
  rintro e w3 ⟨rfl, hb⟩
  have X3 := Lib.hid (X2.out.below hb)
  clear hb c0 c1 c2 c3 c4 c5
  obtain ⟨c0, c1, c2, c3, c4, c5⟩ := X3.out.six
  go_wp2_with fail
  refine (H3.out _).mono ?_
  rintro e w4 ⟨rfl, hb⟩
  have X4 := Lib.hid (X3.out.below hb)
  clear hb c0 c1 c2 c3 c4 c5
  obtain ⟨c0, c1, c2, c3, c4, c5⟩ := X4.out.six
  go_wp2_with fail
  refine (H4.out _).mono ?_
  rintro e w5 ⟨rfl, hb⟩
  have X5 := Lib.hid (X4.out.below hb)
  clear hb c0 c1 c2 c3 c4 c5
  obtain ⟨c0, c1, c2, c3, c4, c5⟩ := X5.out.six
  go_wp2_with fail
  go_ret
  exact ⟨rfl, X5.out.lo⟩
theorem right_5 (a p s q v x : Int) (W : World) (H0 : Hid (∀ X : World, Calls Try.prog 31 #[.int .i64 a, .int .i64 1, .int .i64 32] X (Says true X))) (H1 : Hid (∀ X : World, Calls Try.prog 31 #[.int .i64 p, .int .i64 1, .int .i64 8] X (Says true X))) (H2 : Hid (∀ X : World, Calls Try.prog 31 #[.int .i64 s, .int .i64 1, .int .i64 64] X (Says true X))) (H3 : Hid (∀ X : World, Calls Try.prog 31 #[.int .i64 q, .int .i64 0, .int .i64 64] X (Says true X))) (H4 : Hid (∀ X : World, Calls Try.prog 31 #[.int .i64 v, .int .i64 0, .int .i64 8] X (Says true X))) : Calls Try.prog 13 #[cfV a p s q v x] W (Says true W) := by
  have X0 := Lib.hid (BoxC.start W a p s q v x)
  obtain ⟨c0, c1, c2, c3, c4, c5⟩ := X0.out.six
  go_enter Try.func13, Try.ntmps13
  go_wp2_with fail
  refine (H0.out _).mono ?_
  rintro e w1 ⟨rfl, hb⟩
  have X1 := Lib.hid (X0.out.below hb)
  clear hb c0 c1 c2 c3 c4 c5
  obtain ⟨c0, c1, c2, c3, c4, c5⟩ := X1.out.six
  go_wp2_with fail
  refine (H1.out _).mono ?_
  rintro e w2 ⟨rfl, hb⟩
  have X2 := Lib.hid (X1.out.below hb)
  clear hb c0 c1 c2 c3 c4 c5
  obtain ⟨c0, c1, c2, c3, c4, c5⟩ := X2.out.six
  go_wp2_with fail
  refine (H2.out _).mono ?_
  rintro e w3 ⟨rfl, hb⟩
  have X3 := Lib.hid (X2.out.below hb)
  clear hb c0 c1 c2 c3 c4 c5
  obtain ⟨c0, c1, c2, c3, c4, c5⟩ := X3.out.six
  go_wp2_with fail
  refine (H3.out _).mono ?_
  rintro e w4 ⟨rfl, hb⟩
  have X4 := Lib.hid (X3.out.below hb)
  clear hb c0 c1 c2 c3 c4 c5
  obtain ⟨c0, c1, c2, c3, c4, c5⟩ := X4.out.six
  go_wp2_with fail
  refine (H4.out _).mono ?_
  rintro e w5 ⟨rfl, hb⟩
  have X5 := Lib.hid (X4.out.below hb)
  clear hb c0 c1 c2 c3 c4 c5
  obtain ⟨c0, c1, c2, c3, c4, c5⟩ := X5.out.six
  go_wp2_with fail
  go_ret
  exact ⟨rfl, X5.out.lo⟩
theorem cright_any (a p s q v x : Int) (W : World) : Calls Try.prog 13 #[cfV a p s q v x] W (Says (rightC a p s q v) W) := by
  by_cases h0 : 1 ≤ a ∧ a ≤ 32
  rotate_left
  · rw [show rightC a p s q v = false from decide_eq_false (fun h => h0 (by omega))]
    exact right_0 a p s q v x W (Lib.hid (fun X => by have h := within_any a 1 32 X; rwa [decide_eq_false h0] at h))
  by_cases h1 : 1 ≤ p ∧ p ≤ 8
  rotate_left
  · rw [show rightC a p s q v = false from decide_eq_false (fun h => h1 (by omega))]
    exact right_1 a p s q v x W (Lib.hid (fun X => by have h := within_any a 1 32 X; rwa [decide_eq_true h0] at h)) (Lib.hid (fun X => by have h := within_any p 1 8 X; rwa [decide_eq_false h1] at h))
  by_cases h2 : 1 ≤ s ∧ s ≤ 64
  rotate_left
  · rw [show rightC a p s q v = false from decide_eq_false (fun h => h2 (by omega))]
    exact right_2 a p s q v x W (Lib.hid (fun X => by have h := within_any a 1 32 X; rwa [decide_eq_true h0] at h)) (Lib.hid (fun X => by have h := within_any p 1 8 X; rwa [decide_eq_true h1] at h)) (Lib.hid (fun X => by have h := within_any s 1 64 X; rwa [decide_eq_false h2] at h))
  by_cases h3 : 0 ≤ q ∧ q ≤ 64
  rotate_left
  · rw [show rightC a p s q v = false from decide_eq_false (fun h => h3 (by omega))]
    exact right_3 a p s q v x W (Lib.hid (fun X => by have h := within_any a 1 32 X; rwa [decide_eq_true h0] at h)) (Lib.hid (fun X => by have h := within_any p 1 8 X; rwa [decide_eq_true h1] at h)) (Lib.hid (fun X => by have h := within_any s 1 64 X; rwa [decide_eq_true h2] at h)) (Lib.hid (fun X => by have h := within_any q 0 64 X; rwa [decide_eq_false h3] at h))
  by_cases h4 : 0 ≤ v ∧ v ≤ 8
  rotate_left
  · rw [show rightC a p s q v = false from decide_eq_false (fun h => h4 (by omega))]
    exact right_4 a p s q v x W (Lib.hid (fun X => by have h := within_any a 1 32 X; rwa [decide_eq_true h0] at h)) (Lib.hid (fun X => by have h := within_any p 1 8 X; rwa [decide_eq_true h1] at h)) (Lib.hid (fun X => by have h := within_any s 1 64 X; rwa [decide_eq_true h2] at h)) (Lib.hid (fun X => by have h := within_any q 0 64 X; rwa [decide_eq_true h3] at h)) (Lib.hid (fun X => by have h := within_any v 0 8 X; rwa [decide_eq_false h4] at h))
  rw [show rightC a p s q v = true from decide_eq_true ⟨h0, h1, h2, h3, h4⟩]
  exact right_5 a p s q v x W (Lib.hid (fun X => by have h := within_any a 1 32 X; rwa [decide_eq_true h0] at h)) (Lib.hid (fun X => by have h := within_any p 1 8 X; rwa [decide_eq_true h1] at h)) (Lib.hid (fun X => by have h := within_any s 1 64 X; rwa [decide_eq_true h2] at h)) (Lib.hid (fun X => by have h := within_any q 0 64 X; rwa [decide_eq_true h3] at h)) (Lib.hid (fun X => by have h := within_any v 0 8 X; rwa [decide_eq_true h4] at h))

theorem awrap {n : Int} (h : -9223372036854775808 ≤ n ∧ n ≤ 9223372036854775807) : IntKind.i64.wrap n = n := by rw [IntKind.wrap_i64]; omega

/-! ### how many cells there are -/
set_option maxHeartbeats 1000000 in
theorem csize_any (a p s q v x : Int) (W : World) : Calls Try.prog 34 #[cfV a p s q v x] W (Tells (sizeW a p s q v) W) := by
  have HR := Lib.hid (fun X : World => cright_any a p s q v x X)
  have X0 := Lib.hid (BoxC.start W a p s q v x)
  obtain ⟨c0, c1, c2, c3, c4, c5⟩ := X0.out.six
  by_cases hr : rightC a p s q v = true
  · rw [show sizeW a p s q v = 3 + p + a + 2 * s from if_pos hr]
    obtain ⟨ha, hp, hs⟩ := rightC_bd hr
    rw [hr] at HR
    have HS := Lib.hid (fun X : World => firstShelf_any a p s q v x X ha hp)
    have hw0 : IntKind.i64.wrap (2 * s) = 2 * s := awrap (by omega)
    have hw : IntKind.i64.wrap (3 + p + a + 2 * s) = 3 + p + a + 2 * s := awrap (by omega)
    clear ha hp hs hr
    go_enter Try.func34, Try.ntmps34
    go_wp2_with fail
    refine (HR.out _).mono ?_
    rintro e w1 ⟨rfl, hb⟩
    have Y0 := Lib.hid (X0.out.below hb)
    clear hb c0 c1 c2 c3 c4 c5
    obtain ⟨c0, c1, c2, c3, c4, c5⟩ := Y0.out.six
    go_wp2_with fail
    clear c0 c1 c2 c3 c4 c5
    go_region_held3 (fun w' => w'.cell? ⟨W.heap.size, 0, none⟩ = some (.int .i64 a) ∧ w'.cell? ⟨W.heap.size, 1, none⟩ = some (.int .i64 p) ∧ w'.cell? ⟨W.heap.size, 2, none⟩ = some (.int .i64 s) ∧ w'.cell? ⟨W.heap.size, 3, none⟩ = some (.int .i64 q) ∧ w'.cell? ⟨W.heap.size, 4, none⟩ = some (.int .i64 v) ∧ w'.cell? ⟨W.heap.size, 5, none⟩ = some (.int .u64 x))
      (first
        | exact X1.out.six
        | exact Y0.out.drew.six
        | exact Y0.out.six)
      (first
        | (go_at_call 50; refine (HS.out _).mono ?_; rintro e x1 ⟨rfl, hb⟩; have X1 := Lib.hid (Y0.out.drew.below hb); clear hb))
    all_goals
      go_wp2_with fail
      go_ret
      exact ⟨by first | rfl | (simp only [hw0, hw]; rfl), X1.out.lo⟩
  · rw [show sizeW a p s q v = 0 from if_neg hr]
    rw [show rightC a p s q v = false by simpa using hr] at HR
    clear hr
    go_enter Try.func34, Try.ntmps34
    go_wp2_with fail
    refine (HR.out _).mono ?_
    rintro e w1 ⟨rfl, hb⟩
    have X1 := Lib.hid (X0.out.below hb)
    clear hb c0 c1 c2 c3 c4 c5
    go_wp2_with fail
    go_ret
    exact ⟨rfl, X1.out.lo⟩

set_option maxHeartbeats 1000000 in
theorem pin_any (a p s q v x i : Int) (W : World) : Calls Try.prog 18 #[cfV a p s q v x, .int .i64 i] W (Tells (pinW a p s q v i) W) := by
  have HR := Lib.hid (fun X : World => cright_any a p s q v x X)
  have X0 := Lib.hid (BoxC.start W a p s q v x)
  obtain ⟨c0, c1, c2, c3, c4, c5⟩ := X0.out.six
  by_cases hr : rightC a p s q v = true
  · obtain ⟨ha, hp, hs⟩ := rightC_bd hr
    rw [hr] at HR
    have HS := Lib.hid (fun X : World => firstShelf_any a p s q v x X ha hp)
    have hb1 : IntKind.i64.wrap (p - 1) = p - 1 := awrap (by omega)
    by_cases hin : 0 ≤ i ∧ i ≤ p - 1
    · rw [show pinW a p s q v i = 3 + i from if_pos ⟨hr, hin⟩]
      have HW := Lib.hid (fun X => by have h := within_any i 0 (p - 1) X; rwa [decide_eq_true hin] at h)
      have hw0 : IntKind.i64.wrap (2 * i) = 2 * i := awrap (by omega)
      have hw : IntKind.i64.wrap (3 + i) = 3 + i := awrap (by omega)
      clear hr ha hp hs hin
      go_enter Try.func18, Try.ntmps18
      go_wp2_with fail
      refine (HR.out _).mono ?_
      rintro e w1 ⟨rfl, hb⟩
      have X1 := Lib.hid (X0.out.below hb)
      clear hb c0 c1 c2 c3 c4 c5
      obtain ⟨c0, c1, c2, c3, c4, c5⟩ := X1.out.six
      go_wp2_with fail
      refine (HW.out _).mono ?_
      rintro e w2 ⟨rfl, hb⟩
      have X2 := Lib.hid (X1.out.below hb)
      clear hb c0 c1 c2 c3 c4 c5
      obtain ⟨c0, c1, c2, c3, c4, c5⟩ := X2.out.six
      go_wp2_with fail
      go_ret
      exact ⟨by first | rfl | (simp only [hw0, hw]; rfl), X2.out.lo⟩
    · rw [show pinW a p s q v i = -1 from if_neg (fun h => hin h.2)]
      have HW := Lib.hid (fun X => by have h := within_any i 0 (p - 1) X; rwa [decide_eq_false hin] at h)
      clear hr ha hp hs hin
      go_enter Try.func18, Try.ntmps18
      go_wp2_with fail
      refine (HR.out _).mono ?_
      rintro e w1 ⟨rfl, hb⟩
      have X1 := Lib.hid (X0.out.below hb)
      clear hb c0 c1 c2 c3 c4 c5
      obtain ⟨c0, c1, c2, c3, c4, c5⟩ := X1.out.six
      go_wp2_with fail
      refine (HW.out _).mono ?_
      rintro e w2 ⟨rfl, hb⟩
      have X2 := Lib.hid (X1.out.below hb)
      clear hb c0 c1 c2 c3 c4 c5
      go_wp2_with fail
      go_ret
      exact ⟨rfl, X2.out.lo⟩
  · rw [show pinW a p s q v i = -1 from if_neg (fun h => hr h.1)]
    rw [show rightC a p s q v = false by simpa using hr] at HR
    clear hr
    go_enter Try.func18, Try.ntmps18
    go_wp2_with fail
    refine (HR.out _).mono ?_
    rintro e w1 ⟨rfl, hb⟩
    have X1 := Lib.hid (X0.out.below hb)
    clear hb c0 c1 c2 c3 c4 c5
    go_wp2_with fail
    go_ret
    exact ⟨rfl, X1.out.lo⟩

theorem tmod_of {i a : Int} (h : 0 ≤ i) : Int.tmod i a = i % a := by rw [Int.tmod_eq_emod_of_nonneg h]

end Go.Proofs.Ytgigjbngocfkbaa
