/-
  The names that start-up lays; Where: which thing stands in a cell, at every config and every number.
-/
import Derived.Test.YtidnkjedhlaibaaDoorPawake
import Derived.Deep.DrawnRows
import Derived.StillTailTactics
namespace Go.Proofs.YtidnkjedhlaibaaDoor
open Go Go.RowKit

/-- What the things are called. -/
def nameP (i : Nat) : ByteArray := ([⟨#[101, 112, 111, 99, 104]⟩, ⟨#[113, 117, 101, 117, 101]⟩, ⟨#[100, 114, 97, 105, 110, 101, 100]⟩, ⟨#[112, 105, 110]⟩, ⟨#[114, 105, 110, 103]⟩, ⟨#[107, 101, 121]⟩, ⟨#[104, 101, 97, 100]⟩] : List ByteArray).getD i ⟨#[]⟩
/-- The table that is read. -/
def Tabs (W : World) : Prop := ∀ i, i < 7 → W.cell? ⟨0, i, none⟩ = some (.string (nameP i))
theorem cell_lt {W : World} {b i : Nat} {u : Value} (h : W.cell? ⟨b, i, none⟩ = some u) : b < W.heap.size := World.block_lt_of_cell? W _ h
theorem Tabs.below {W W' : World} (h : Tabs W) (hb : Below W.heap.size W W') : Tabs W' := fun i hi => (hb.cell (p := ⟨0, i, none⟩) (cell_lt (h i hi))).trans (h i hi)
/-- A config in its box, and the names. -/
structure TB (W : World) (a p s q v x : Int) (X : World) : Prop where
  bx : BoxC W a p s q v x X
  tb : Tabs X
section
variable {W X Y : World} {a p s q v x : Int}
theorem TB.start (h : Tabs W) (a p s q v x : Int) : TB W a p s q v x (W.alloc (.cells #[.int .i64 a, .int .i64 p, .int .i64 s, .int .i64 q, .int .i64 v, .int .u64 x] 24)) := ⟨BoxC.start W a p s q v x, h.below (below_alloc W _)⟩
theorem TB.below (h : TB W a p s q v x X) (hb : Below X.heap.size X Y) : TB W a p s q v x Y := ⟨h.bx.below hb, h.tb.below hb⟩
end

/-- Which thing, and which one of them, stands in a cell. -/
def spotN (a p n : Int) : Nat := if n < 3 then n.toNat else if n < 3 + p then 3 else if n < 3 + p + a then 4 else 5 + ((n - (3 + p + a)) % 2).toNat
def spotI (a p n : Int) : Int := if n < 3 then 0 else if n < 3 + p then n - 3 else if n < 3 + p + a then n - (3 + p) else (n - (3 + p + a)) / 2
def whereN (a p s q v n : Int) : ByteArray := if rightC a p s q v = true ∧ 0 ≤ n ∧ n < 3 + p + a + 2 * s then nameP (spotN a p n) else ⟨#[]⟩
def whereI (a p s q v n : Int) : Int := if rightC a p s q v = true ∧ 0 ≤ n ∧ n < 3 + p + a + 2 * s then spotI a p n else 0
/-- A name and a number; what lay lies as it lay. -/
def TwoD (nm : ByteArray) (i : Int) (W : World) (e : Ending) (W' : World) : Prop := e = .returned (.tuple #[.string nm, .int .i64 i]) ∧ Below W.heap.size W W'

set_option maxRecDepth 100000 in
set_option maxHeartbeats 2000000 in
theorem where_out (a p s q v x n z : Int) (W : World) (hT : Tabs W) (HZ : Hid (∀ X : World, Calls Tryd.prog 7 #[cfV a p s q v x] X (Tells z X))) (hz : IntKind.i64.wrap (z - 1) = z - 1) (HW : Hid (∀ X : World, Calls Tryd.prog 18 #[.int .i64 n, .int .i64 0, .int .i64 (z - 1)] X (Says false X))) :
    Calls Tryd.prog 16 #[cfV a p s q v x, .int .i64 n] W (TwoD ⟨#[]⟩ 0 W) := by
  have X0 := Lib.hid (TB.start hT a p s q v x)
  obtain ⟨c0, c1, c2, c3, c4, c5⟩ := X0.out.bx.six
  go_enter Tryd.func16, Tryd.ntmps16
  go_wp2_with fail
  refine (HZ.out _).mono ?_
  rintro e w1 ⟨rfl, hb⟩
  have X1 := Lib.hid (X0.out.below hb)
  clear hb c0 c1 c2 c3 c4 c5
  obtain ⟨c0, c1, c2, c3, c4, c5⟩ := X1.out.bx.six
  go_wp2_with fail
  refine (HW.out _).mono ?_
  rintro e w2 ⟨rfl, hb⟩
  have X2 := Lib.hid (X1.out.below hb)
  clear hb c0 c1 c2 c3 c4 c5
  obtain ⟨c0, c1, c2, c3, c4, c5⟩ := X2.out.bx.six
  clear c0 c1 c2 c3 c4 c5
  go_wp2_with fail
  go_ret2
  exact ⟨rfl, X2.out.bx.lo⟩

set_option maxRecDepth 100000 in
set_option maxHeartbeats 2000000 in
theorem where_0 (a p s q v x z : Int) (W : World) (hT : Tabs W) (HZ : Hid (∀ X : World, Calls Tryd.prog 7 #[cfV a p s q v x] X (Tells z X))) (hz : IntKind.i64.wrap (z - 1) = z - 1) (HW : Hid (∀ X : World, Calls Tryd.prog 18 #[.int .i64 0, .int .i64 0, .int .i64 (z - 1)] X (Says true X))) :
    Calls Tryd.prog 16 #[cfV a p s q v x, .int .i64 0] W (TwoD (nameP 0) 0 W) := by
  have X0 := Lib.hid (TB.start hT a p s q v x)
  obtain ⟨c0, c1, c2, c3, c4, c5⟩ := X0.out.bx.six
  go_enter Tryd.func16, Tryd.ntmps16
  go_wp2_with fail
  refine (HZ.out _).mono ?_
  rintro e w1 ⟨rfl, hb⟩
  have X1 := Lib.hid (X0.out.below hb)
  clear hb c0 c1 c2 c3 c4 c5
  obtain ⟨c0, c1, c2, c3, c4, c5⟩ := X1.out.bx.six
  go_wp2_with fail
  refine (HW.out _).mono ?_
  rintro e w2 ⟨rfl, hb⟩
  have X2 := Lib.hid (X1.out.below hb)
  clear hb c0 c1 c2 c3 c4 c5
  obtain ⟨c0, c1, c2, c3, c4, c5⟩ := X2.out.bx.six
  have t0 := X2.out.tb 0 (by decide)
  go_wp2_with fail
  go_ret2
  exact ⟨rfl, X2.out.bx.lo⟩

set_option maxRecDepth 100000 in
set_option maxHeartbeats 2000000 in
theorem where_1 (a p s q v x z : Int) (W : World) (hT : Tabs W) (HZ : Hid (∀ X : World, Calls Tryd.prog 7 #[cfV a p s q v x] X (Tells z X))) (hz : IntKind.i64.wrap (z - 1) = z - 1) (HW : Hid (∀ X : World, Calls Tryd.prog 18 #[.int .i64 1, .int .i64 0, .int .i64 (z - 1)] X (Says true X))) :
    Calls Tryd.prog 16 #[cfV a p s q v x, .int .i64 1] W (TwoD (nameP 1) 0 W) := by
  have X0 := Lib.hid (TB.start hT a p s q v x)
  obtain ⟨c0, c1, c2, c3, c4, c5⟩ := X0.out.bx.six
  go_enter Tryd.func16, Tryd.ntmps16
  go_wp2_with fail
  refine (HZ.out _).mono ?_
  rintro e w1 ⟨rfl, hb⟩
  have X1 := Lib.hid (X0.out.below hb)
  clear hb c0 c1 c2 c3 c4 c5
  obtain ⟨c0, c1, c2, c3, c4, c5⟩ := X1.out.bx.six
  go_wp2_with fail
  refine (HW.out _).mono ?_
  rintro e w2 ⟨rfl, hb⟩
  have X2 := Lib.hid (X1.out.below hb)
  clear hb c0 c1 c2 c3 c4 c5
  obtain ⟨c0, c1, c2, c3, c4, c5⟩ := X2.out.bx.six
  have t0 := X2.out.tb 1 (by decide)
  go_wp2_with fail
  go_ret2
  exact ⟨rfl, X2.out.bx.lo⟩

set_option maxRecDepth 100000 in
set_option maxHeartbeats 2000000 in
theorem where_2 (a p s q v x z : Int) (W : World) (hT : Tabs W) (HZ : Hid (∀ X : World, Calls Tryd.prog 7 #[cfV a p s q v x] X (Tells z X))) (hz : IntKind.i64.wrap (z - 1) = z - 1) (HW : Hid (∀ X : World, Calls Tryd.prog 18 #[.int .i64 2, .int .i64 0, .int .i64 (z - 1)] X (Says true X))) :
    Calls Tryd.prog 16 #[cfV a p s q v x, .int .i64 2] W (TwoD (nameP 2) 0 W) := by
  have X0 := Lib.hid (TB.start hT a p s q v x)
  obtain ⟨c0, c1, c2, c3, c4, c5⟩ := X0.out.bx.six
  go_enter Tryd.func16, Tryd.ntmps16
  go_wp2_with fail
  refine (HZ.out _).mono ?_
  rintro e w1 ⟨rfl, hb⟩
  have X1 := Lib.hid (X0.out.below hb)
  clear hb c0 c1 c2 c3 c4 c5
  obtain ⟨c0, c1, c2, c3, c4, c5⟩ := X1.out.bx.six
  go_wp2_with fail
  refine (HW.out _).mono ?_
  rintro e w2 ⟨rfl, hb⟩
  have X2 := Lib.hid (X1.out.below hb)
  clear hb c0 c1 c2 c3 c4 c5
  obtain ⟨c0, c1, c2, c3, c4, c5⟩ := X2.out.bx.six
  have t0 := X2.out.tb 2 (by decide)
  go_wp2_with fail
  go_ret2
  exact ⟨rfl, X2.out.bx.lo⟩

set_option maxRecDepth 100000 in
set_option maxHeartbeats 2000000 in
theorem where_pin (a p s q v x n z fr : Int) (W : World) (hT : Tabs W) (HZ : Hid (∀ X : World, Calls Tryd.prog 7 #[cfV a p s q v x] X (Tells z X))) (hz : IntKind.i64.wrap (z - 1) = z - 1) (HW : Hid (∀ X : World, Calls Tryd.prog 18 #[.int .i64 n, .int .i64 0, .int .i64 (z - 1)] X (Says true X))) (HR : Hid (∀ X : World, Calls Tryd.prog 21 #[cfV a p s q v x] X (Tells fr X))) (n3 : ¬ n < 3) (nr : n < fr) (hw : IntKind.i64.wrap (n - 3) = n - 3) :
    Calls Tryd.prog 16 #[cfV a p s q v x, .int .i64 n] W (TwoD (nameP 3) (n - 3) W) := by
  have X0 := Lib.hid (TB.start hT a p s q v x)
  obtain ⟨c0, c1, c2, c3, c4, c5⟩ := X0.out.bx.six
  go_enter Tryd.func16, Tryd.ntmps16
  go_wp2_with fail
  refine (HZ.out _).mono ?_
  rintro e w1 ⟨rfl, hb⟩
  have X1 := Lib.hid (X0.out.below hb)
  clear hb c0 c1 c2 c3 c4 c5
  obtain ⟨c0, c1, c2, c3, c4, c5⟩ := X1.out.bx.six
  go_wp2_with fail
  refine (HW.out _).mono ?_
  rintro e w2 ⟨rfl, hb⟩
  have X2 := Lib.hid (X1.out.below hb)
  clear hb c0 c1 c2 c3 c4 c5
  obtain ⟨c0, c1, c2, c3, c4, c5⟩ := X2.out.bx.six
  go_wp2_with fail
  refine (HR.out _).mono ?_
  rintro e w3 ⟨rfl, hb⟩
  have X3 := Lib.hid (X2.out.below hb)
  clear hb c0 c1 c2 c3 c4 c5
  obtain ⟨c0, c1, c2, c3, c4, c5⟩ := X3.out.bx.six
  have t0 := X3.out.tb 3 (by decide)
  go_wp2_with fail
  go_ret2
  exact ⟨by first | rfl | (simp only [hw]; rfl), X3.out.bx.lo⟩

set_option maxRecDepth 100000 in
set_option maxHeartbeats 2000000 in
theorem where_ring (a p s q v x n z fr fs : Int) (W : World) (hT : Tabs W) (HZ : Hid (∀ X : World, Calls Tryd.prog 7 #[cfV a p s q v x] X (Tells z X))) (hz : IntKind.i64.wrap (z - 1) = z - 1) (HW : Hid (∀ X : World, Calls Tryd.prog 18 #[.int .i64 n, .int .i64 0, .int .i64 (z - 1)] X (Says true X))) (HR : Hid (∀ X : World, Calls Tryd.prog 21 #[cfV a p s q v x] X (Tells fr X))) (HS : Hid (∀ X : World, Calls Tryd.prog 19 #[cfV a p s q v x] X (Tells fs X))) (n3 : ¬ n < 3) (nr : ¬ n < fr) (ns : n < fs) (hw : IntKind.i64.wrap (n - fr) = n - fr) :
    Calls Tryd.prog 16 #[cfV a p s q v x, .int .i64 n] W (TwoD (nameP 4) (n - fr) W) := by
  have X0 := Lib.hid (TB.start hT a p s q v x)
  obtain ⟨c0, c1, c2, c3, c4, c5⟩ := X0.out.bx.six
  go_enter Tryd.func16, Tryd.ntmps16
  go_wp2_with fail
  refine (HZ.out _).mono ?_
  rintro e w1 ⟨rfl, hb⟩
  have X1 := Lib.hid (X0.out.below hb)
  clear hb c0 c1 c2 c3 c4 c5
  obtain ⟨c0, c1, c2, c3, c4, c5⟩ := X1.out.bx.six
  go_wp2_with fail
  refine (HW.out _).mono ?_
  rintro e w2 ⟨rfl, hb⟩
  have X2 := Lib.hid (X1.out.below hb)
  clear hb c0 c1 c2 c3 c4 c5
  obtain ⟨c0, c1, c2, c3, c4, c5⟩ := X2.out.bx.six
  go_wp2_with fail
  refine (HR.out _).mono ?_
  rintro e w3 ⟨rfl, hb⟩
  have X3 := Lib.hid (X2.out.below hb)
  clear hb c0 c1 c2 c3 c4 c5
  obtain ⟨c0, c1, c2, c3, c4, c5⟩ := X3.out.bx.six
  go_wp2_with fail
  refine (HS.out _).mono ?_
  rintro e w4 ⟨rfl, hb⟩
  have X4 := Lib.hid (X3.out.below hb)
  clear hb c0 c1 c2 c3 c4 c5
  obtain ⟨c0, c1, c2, c3, c4, c5⟩ := X4.out.bx.six
  have t0 := X4.out.tb 4 (by decide)
  go_wp2_with fail
  clear c0 c1 c2 c3 c4 c5 t0
  go_region_held3 (fun w' => w'.cell? ⟨0, 4, none⟩ = some (.string (nameP 4)) ∧ w'.cell? ⟨W.heap.size, 0, none⟩ = some (.int .i64 a) ∧ w'.cell? ⟨W.heap.size, 1, none⟩ = some (.int .i64 p) ∧ w'.cell? ⟨W.heap.size, 2, none⟩ = some (.int .i64 s) ∧ w'.cell? ⟨W.heap.size, 3, none⟩ = some (.int .i64 q) ∧ w'.cell? ⟨W.heap.size, 4, none⟩ = some (.int .i64 v) ∧ w'.cell? ⟨W.heap.size, 5, none⟩ = some (.int .u64 x))
    (first
      | exact ⟨X5.out.tb 4 (by decide), X5.out.bx.six⟩
      | exact ⟨(X4.out.below (below_drew _)).tb 4 (by decide), (X4.out.below (below_drew _)).bx.six⟩
      | exact ⟨X4.out.tb 4 (by decide), X4.out.bx.six⟩)
    (first
      | (go_at_call 21; refine (HR.out _).mono ?_; rintro e x5 ⟨rfl, hb⟩; have X5 := Lib.hid ((X4.out.below (below_drew _)).below hb); clear hb))
  all_goals
    go_wp2_with fail
    go_ret2
    exact ⟨by first | rfl | (simp only [hw]; rfl), X5.out.bx.lo⟩

set_option maxRecDepth 100000 in
set_option maxHeartbeats 2000000 in
theorem where_key (a p s q v x n z fr fs j : Int) (W : World) (hT : Tabs W) (HZ : Hid (∀ X : World, Calls Tryd.prog 7 #[cfV a p s q v x] X (Tells z X))) (hz : IntKind.i64.wrap (z - 1) = z - 1) (HW : Hid (∀ X : World, Calls Tryd.prog 18 #[.int .i64 n, .int .i64 0, .int .i64 (z - 1)] X (Says true X))) (HR : Hid (∀ X : World, Calls Tryd.prog 21 #[cfV a p s q v x] X (Tells fr X))) (HS : Hid (∀ X : World, Calls Tryd.prog 19 #[cfV a p s q v x] X (Tells fs X))) (n3 : ¬ n < 3) (nr : ¬ n < fr) (ns : ¬ n < fs) (hw : IntKind.i64.wrap (n - fs) = n - fs) (hm : Int.tmod (n - fs) 2 = 0) (hd : Int.tdiv (n - fs) 2 = j) (hj : IntKind.i64.wrap j = j) :
    Calls Tryd.prog 16 #[cfV a p s q v x, .int .i64 n] W (TwoD (nameP 5) j W) := by
  have X0 := Lib.hid (TB.start hT a p s q v x)
  obtain ⟨c0, c1, c2, c3, c4, c5⟩ := X0.out.bx.six
  go_enter Tryd.func16, Tryd.ntmps16
  go_wp2_with fail
  refine (HZ.out _).mono ?_
  rintro e w1 ⟨rfl, hb⟩
  have X1 := Lib.hid (X0.out.below hb)
  clear hb c0 c1 c2 c3 c4 c5
  obtain ⟨c0, c1, c2, c3, c4, c5⟩ := X1.out.bx.six
  go_wp2_with fail
  refine (HW.out _).mono ?_
  rintro e w2 ⟨rfl, hb⟩
  have X2 := Lib.hid (X1.out.below hb)
  clear hb c0 c1 c2 c3 c4 c5
  obtain ⟨c0, c1, c2, c3, c4, c5⟩ := X2.out.bx.six
  go_wp2_with fail
  refine (HR.out _).mono ?_
  rintro e w3 ⟨rfl, hb⟩
  have X3 := Lib.hid (X2.out.below hb)
  clear hb c0 c1 c2 c3 c4 c5
  obtain ⟨c0, c1, c2, c3, c4, c5⟩ := X3.out.bx.six
  go_wp2_with fail
  refine (HS.out _).mono ?_
  rintro e w4 ⟨rfl, hb⟩
  have X4 := Lib.hid (X3.out.below hb)
  clear hb c0 c1 c2 c3 c4 c5
  obtain ⟨c0, c1, c2, c3, c4, c5⟩ := X4.out.bx.six
  go_wp2_with fail
  refine (HS.out _).mono ?_
  rintro e w5 ⟨rfl, hb⟩
  have X5 := Lib.hid (X4.out.below hb)
  clear hb c0 c1 c2 c3 c4 c5
  obtain ⟨c0, c1, c2, c3, c4, c5⟩ := X5.out.bx.six
  have t0 := X5.out.tb 5 (by decide)
  go_wp2_with fail
  go_ret2
  exact ⟨by first | rfl | (simp only [hw, hm, hd, hj]; rfl), X5.out.bx.lo⟩

set_option maxRecDepth 100000 in
set_option maxHeartbeats 2000000 in
theorem where_head (a p s q v x n z fr fs j : Int) (W : World) (hT : Tabs W) (HZ : Hid (∀ X : World, Calls Tryd.prog 7 #[cfV a p s q v x] X (Tells z X))) (hz : IntKind.i64.wrap (z - 1) = z - 1) (HW : Hid (∀ X : World, Calls Tryd.prog 18 #[.int .i64 n, .int .i64 0, .int .i64 (z - 1)] X (Says true X))) (HR : Hid (∀ X : World, Calls Tryd.prog 21 #[cfV a p s q v x] X (Tells fr X))) (HS : Hid (∀ X : World, Calls Tryd.prog 19 #[cfV a p s q v x] X (Tells fs X))) (n3 : ¬ n < 3) (nr : ¬ n < fr) (ns : ¬ n < fs) (hw : IntKind.i64.wrap (n - fs) = n - fs) (hm : Int.tmod (n - fs) 2 = 1) (hd : Int.tdiv (n - fs) 2 = j) (hj : IntKind.i64.wrap j = j) :
    Calls Tryd.prog 16 #[cfV a p s q v x, .int .i64 n] W (TwoD (nameP 6) j W) := by
  have X0 := Lib.hid (TB.start hT a p s q v x)
  obtain ⟨c0, c1, c2, c3, c4, c5⟩ := X0.out.bx.six
  go_enter Tryd.func16, Tryd.ntmps16
  go_wp2_with fail
  refine (HZ.out _).mono ?_
  rintro e w1 ⟨rfl, hb⟩
  have X1 := Lib.hid (X0.out.below hb)
  clear hb c0 c1 c2 c3 c4 c5
  obtain ⟨c0, c1, c2, c3, c4, c5⟩ := X1.out.bx.six
  go_wp2_with fail
  refine (HW.out _).mono ?_
  rintro e w2 ⟨rfl, hb⟩
  have X2 := Lib.hid (X1.out.below hb)
  clear hb c0 c1 c2 c3 c4 c5
  obtain ⟨c0, c1, c2, c3, c4, c5⟩ := X2.out.bx.six
  go_wp2_with fail
  refine (HR.out _).mono ?_
  rintro e w3 ⟨rfl, hb⟩
  have X3 := Lib.hid (X2.out.below hb)
  clear hb c0 c1 c2 c3 c4 c5
  obtain ⟨c0, c1, c2, c3, c4, c5⟩ := X3.out.bx.six
  go_wp2_with fail
  refine (HS.out _).mono ?_
  rintro e w4 ⟨rfl, hb⟩
  have X4 := Lib.hid (X3.out.below hb)
  clear hb c0 c1 c2 c3 c4 c5
  obtain ⟨c0, c1, c2, c3, c4, c5⟩ := X4.out.bx.six
  go_wp2_with fail
  refine (HS.out _).mono ?_
  rintro e w5 ⟨rfl, hb⟩
  have X5 := Lib.hid (X4.out.below hb)
  clear hb c0 c1 c2 c3 c4 c5
  obtain ⟨c0, c1, c2, c3, c4, c5⟩ := X5.out.bx.six
  have t0 := X5.out.tb 6 (by decide)
  go_wp2_with fail
  go_ret2
  exact ⟨by first | rfl | (simp only [hw, hm, hd, hj]; rfl), X5.out.bx.lo⟩

end Go.Proofs.YtidnkjedhlaibaaDoor
