/-
  A pivot of a row of words: some place of it. (What is counted beside is of no matter.)
-/
import Derived.Test.YtnfepjolbhnhbaaHpins
namespace Go.Proofs.Ytnfepjolbhnhbaa
open Go Go.RowKit Go.Sort
attribute [local go_sem ↓] Go.wp_at_zero Go.wp_at_succ

/-- The row, and a number in a block that the call made. -/
structure Pv (W : World) (q off C bs : Nat) (d : Array Int) (Y : World) : Prop where
  put : Put W q off C d Y
  new : W.heap.size ≤ bs
  ne : bs ≠ q
  box : ∃ z : Int, Y.heap[bs]? = some (.cells #[.int .i64 z] 3 (0, 0))
section
variable {W Y Z : World} {q off C bs : Nat} {d : Array Int}
theorem Pv.below (h : Pv W q off C bs d Y) (hb : Below Y.heap.size Y Z) : Pv W q off C bs d Z :=
  ⟨h.put.below hb, h.new, h.ne, by obtain ⟨z, hz⟩ := h.box; exact ⟨z, (hb.block bs (heap_at_lt hz)).trans hz⟩⟩
theorem Pv.drew (h : Pv W q off C bs d Y) (n : Nat) : Pv W q off C bs d (Y.drewN n) := h.below (below_draws Y n)
theorem Pv.set (h : Pv W q off C bs d Y) (z : Int) : Pv W q off C bs d (Y.setCell ⟨bs, 0, none⟩ (.int .i64 z)) := by
  obtain ⟨y, hy⟩ := h.box
  obtain ⟨cs, h1, h2, h3⟩ := h.put.row
  refine ⟨⟨h.put.os, h.put.tape, h.put.output, by simpa [World.setCell] using h.put.size, fun k hk hq => ?_, cs, ?_, h2, h3⟩, h.new, h.ne, z, ?_⟩
  · rw [← h.put.other k hk hq]
    show (Y.heap.modify bs _)[k]? = _
    rw [Array.getElem?_modify, if_neg (by have := h.new; omega)]
  · rw [← h1]
    show (Y.heap.modify bs _)[q]? = _
    rw [Array.getElem?_modify, if_neg h.ne]
  · exact heap_setAt hy
theorem Pv.start (h : Put W q off C d Y) (hq : q < Y.heap.size) : Pv W q off C Y.heap.size d (Y.alloc (.cells #[.int .i64 0] 3)) :=
  ⟨h.below (below_alloc Y _), h.size, by omega, 0, World.alloc_heap_new Y _⟩
end

/-- Two places of a part. -/
def TwoIn (W : World) (q off C bs : Nat) (d : Array Int) (lo hi : Nat) (e : Ending) (Y : World) : Prop :=
  ∃ x y : Nat, e = .returned (.tuple #[.int .i64 x, .int .i64 y]) ∧ lo ≤ x ∧ x < hi ∧ lo ≤ y ∧ y < hi ∧ Pv W q off C bs d Y
def OneIn (W : World) (q off C bs : Nat) (d : Array Int) (lo hi : Nat) (e : Ending) (Y : World) : Prop :=
  ∃ x : Nat, e = .returned (.int .i64 x) ∧ lo ≤ x ∧ x < hi ∧ Pv W q off C bs d Y

set_option maxRecDepth 100000 in
set_option maxHeartbeats 4000000 in
theorem order_any (W X : World) {q off C bs : Nat} {d : Array Int} {n : Nat} (cap a b lo hi : Nat) (hP : Pv W q off C bs d X) (hn : d.size = n) (ha : lo ≤ a) (ha2 : a < hi) (hb : lo ≤ b) (hb2 : b < hi) (hh : hi ≤ n) :
    Calls Try.prog 71 #[.slice (some ⟨q, off, none⟩) n cap, .int .i64 a, .int .i64 b, .pointer (some ⟨bs, 0, none⟩)] X (TwoIn W q off C bs d lo hi) := by
  have H0 := Lib.hid hP
  have HN := Lib.hid hn
  have hca := hP.put.cell (j := a) (by omega)
  have hcb := hP.put.cell (j := b) (by omega)
  obtain ⟨z, hz⟩ := hP.box
  have hcz : X.cell? ⟨bs, 0, none⟩ = some (.int .i64 z) := (cell_of hz).trans rfl
  have hfz : X.frozen? ⟨bs, 0, none⟩ = false := by simp [World.frozen?, hz]
  obtain ⟨wa, hwa⟩ : ∃ x, d[a]! = x := ⟨_, rfl⟩
  obtain ⟨wb, hwb⟩ : ∃ x, d[b]! = x := ⟨_, rfl⟩
  rw [hwa] at hca
  rw [hwb] at hcb
  clear hP hn hz hwa hwb
  go_enter Try.func71, Try.ntmps71
  go_wp2_with fail
  go_quiet (first | (go_at_call 59; refine Calls.quiet_of_same (less_any _ _ _)))
  go_wp2_with fail
  · go_ret2
    exact ⟨b, a, rfl, hb, hb2, ha, ha2, (H0.out.drew nq).set _⟩
  · go_ret2
    exact ⟨a, b, rfl, ha, ha2, hb, hb2, H0.out.drew nq⟩

set_option maxRecDepth 100000 in
set_option maxHeartbeats 4000000 in
theorem median_any (W X : World) {q off C bs : Nat} {d : Array Int} {n : Nat} (cap a b c lo hi : Nat) (hP : Pv W q off C bs d X) (hn : d.size = n) (ha : lo ≤ a) (ha2 : a < hi) (hb : lo ≤ b) (hb2 : b < hi) (hc : lo ≤ c) (hc2 : c < hi) (hh : hi ≤ n) :
    Calls Try.prog 69 #[.slice (some ⟨q, off, none⟩) n cap, .int .i64 a, .int .i64 b, .int .i64 c, .pointer (some ⟨bs, 0, none⟩)] X (OneIn W q off C bs d lo hi) := by
  have H0 := Lib.hid hP
  have HN := Lib.hid hn
  clear hP hn
  go_enter Try.func69, Try.ntmps69
  go_wp2_with fail
  refine (order_any W _ cap a b lo hi H0.out HN.out ha ha2 hb hb2 hh).mono ?_
  rintro en w1 ⟨x1, y1, rfl, g1, g2, g3, g4, h1⟩
  have H1 := Lib.hid h1
  clear h1
  go_wp2_with fail
  refine (order_any W _ cap y1 c lo hi H1.out HN.out g3 g4 hc hc2 hh).mono ?_
  rintro en w2 ⟨x2, y2, rfl, k1, k2, k3, k4, h2⟩
  have H2 := Lib.hid h2
  clear h2
  go_wp2_with fail
  refine (order_any W _ cap x1 x2 lo hi H2.out HN.out g1 g2 k1 k2 hh).mono ?_
  rintro en w3 ⟨x3, y3, rfl, l1, l2, l3, l4, h3⟩
  have H3 := Lib.hid h3
  clear h3
  go_wp2_with fail
  go_ret
  exact ⟨y3, rfl, l3, l4, H3.out⟩

set_option maxRecDepth 100000 in
set_option maxHeartbeats 4000000 in
theorem adjacent_any (W X : World) {q off C bs : Nat} {d : Array Int} {n : Nat} (cap a lo hi : Nat) (hP : Pv W q off C bs d X) (hn : d.size = n) (ha : lo < a) (ha2 : a + 1 < hi) (hh : hi ≤ n) (hsz : n ≤ 1000000) :
    Calls Try.prog 68 #[.slice (some ⟨q, off, none⟩) n cap, .int .i64 a, .pointer (some ⟨bs, 0, none⟩)] X (OneIn W q off C bs d lo hi) := by
  have H0 := Lib.hid hP
  have HN := Lib.hid hn
  clear hP hn
  obtain ⟨a0, e0⟩ : ∃ a0, a - 1 = a0 := ⟨_, rfl⟩
  obtain ⟨a1, e1⟩ : ∃ a1, a + 1 = a1 := ⟨_, rfl⟩
  have z0 : (a : Int) - 1 = (a0 : Int) := by omega
  have z1 : (a : Int) + 1 = (a1 : Int) := by omega
  have g0 : lo ≤ a0 := by omega
  have g1 : a0 < hi := by omega
  have g2 : lo ≤ a := by omega
  have g3 : a < hi := by omega
  have g4 : lo ≤ a1 := by omega
  have g5 : a1 < hi := by omega
  clear e0 e1
  go_enter Try.func68, Try.ntmps68
  go_wp2_with fail
  refine (median_any W _ cap a0 a a1 lo hi H0.out HN.out g0 g1 g2 g3 g4 g5 hh).mono ?_
  rintro en w1 ⟨x1, rfl, l1, l2, h1⟩
  have H1 := Lib.hid h1
  clear h1
  go_wp2_with fail
  go_ret
  exact ⟨x1, rfl, l1, l2, H1.out⟩

/-- A place of the part; a hint. -/
def PivotE (W : World) (q off C a b : Nat) (d : Array Int) (e : Ending) (Y : World) : Prop :=
  ∃ (x : Nat) (h : Int), e = .returned (.tuple #[.int .i64 x, .int .i64 h]) ∧ a ≤ x ∧ x < b ∧ Put W q off C d Y

set_option maxRecDepth 100000 in
set_option maxHeartbeats 8000000 in
theorem pivot_any (W : World) {q off C : Nat} {d : Array Int} {n : Nat} (cap a b : Nat) (hP : Put W q off C d W) (hn : d.size = n) (hab : a + 12 < b) (hb : b ≤ n) (hsz : n ≤ 1000000) :
    Calls Try.prog 56 #[.slice (some ⟨q, off, none⟩) n cap, .int .i64 a, .int .i64 b] W (PivotE W q off C a b d) := by
  have H0 := Lib.hid (Pv.start hP hP.lt)
  have HN := Lib.hid hn
  clear hP hn
  obtain ⟨l, hl⟩ : ∃ l, b - a = l := ⟨_, rfl⟩
  obtain ⟨m, hm⟩ : ∃ m, l / 4 = m := ⟨_, rfl⟩
  obtain ⟨i, hi⟩ : ∃ i, a + m = i := ⟨_, rfl⟩
  obtain ⟨j, hj⟩ : ∃ j, a + m * 2 = j := ⟨_, rfl⟩
  obtain ⟨k, hk⟩ : ∃ k, a + m * 3 = k := ⟨_, rfl⟩
  have z0 : (b : Int) - (a : Int) = (l : Int) := by omega
  have z1 : (l : Int).tdiv 4 = (m : Int) := by rw [Int.tdiv_eq_ediv_of_nonneg (by omega)]; omega
  have z2 : (a : Int) + (m : Int) = (i : Int) := by omega
  have z3 : (a : Int) + (m : Int) * 2 = (j : Int) := by omega
  have z4 : (a : Int) + (m : Int) * 3 = (k : Int) := by omega
  have l8 : (8 : Int) ≤ (l : Int) := by omega
  have lm : (m : Int) ≤ (n : Int) := by omega
  have ln : (l : Int) ≤ (n : Int) := by omega
  have HI := Lib.hid (show a ≤ i ∧ i < b ∧ a ≤ j ∧ j < b ∧ a ≤ k ∧ k < b from by omega)
  have HI5 := Lib.hid (fun h : 50 ≤ l => (show a < i ∧ i + 1 < b ∧ a < j ∧ j + 1 < b ∧ a < k ∧ k + 1 < b from by omega))
  clear hl hm hi hj hk hab
  have HEnd := Lib.hid (fun (X : World) (x1 x2 x3 : Nat) (hX : Pv W q off C W.heap.size d X) (g1 : a ≤ x1) (g2 : x1 < b) (g3 : a ≤ x2) (g4 : x2 < b) (g5 : a ≤ x3) (g6 : x3 < b) => median_any W X cap x1 x2 x3 a b hX HN.out g1 g2 g3 g4 g5 g6 hb)
  by_cases h50 : 50 ≤ l
  · have h50z : (50 : Int) ≤ (l : Int) := by omega
    obtain ⟨c1, c2, c3, c4, c5, c6⟩ := HI5.out h50
    go_enter Try.func56, Try.ntmps56
    go_wp2_with fail
    refine (adjacent_any W _ cap i a b H0.out HN.out c1 c2 hb hsz).mono ?_
    rintro en w1 ⟨x1, rfl, g1, g2, h1⟩
    have H1 := Lib.hid h1
    clear h1
    go_wp2_with fail
    refine (adjacent_any W _ cap j a b H1.out HN.out c3 c4 hb hsz).mono ?_
    rintro en w2 ⟨x2, rfl, g3, g4, h2⟩
    have H2 := Lib.hid h2
    clear h2
    go_wp2_with fail
    refine (adjacent_any W _ cap k a b H2.out HN.out c5 c6 hb hsz).mono ?_
    rintro en w3 ⟨x3, rfl, g5, g6, h3⟩
    have H3 := Lib.hid h3
    clear h3
    go_wp2_with fail
    refine (HEnd.out _ x1 x2 x3 H3.out g1 g2 g3 g4 g5 g6).mono ?_
    rintro en w4 ⟨x4, rfl, g7, g8, h4⟩
    have H4 := Lib.hid h4
    obtain ⟨z, hz⟩ := h4.box
    have hcz : w4.cell? ⟨W.heap.size, 0, none⟩ = some (.int .i64 z) := (cell_of hz).trans rfl
    clear h4 hz
    go_wp2_with fail
    all_goals
      go_ret2
      exact ⟨x4, _, rfl, g7, g8, H4.out.put⟩
  · have h50z : ¬ (50 : Int) ≤ (l : Int) := by omega
    go_enter Try.func56, Try.ntmps56
    go_wp2_with fail
    refine (HEnd.out _ i j k H0.out HI.out.1 HI.out.2.1 HI.out.2.2.1 HI.out.2.2.2.1 HI.out.2.2.2.2.1 HI.out.2.2.2.2.2).mono ?_
    rintro en w4 ⟨x4, rfl, g7, g8, h4⟩
    have H4 := Lib.hid h4
    obtain ⟨z, hz⟩ := h4.box
    have hcz : w4.cell? ⟨W.heap.size, 0, none⟩ = some (.int .i64 z) := (cell_of hz).trans rfl
    clear h4 hz
    go_wp2_with fail
    all_goals
      go_ret2
      exact ⟨x4, _, rfl, g7, g8, H4.out.put⟩
end Go.Proofs.Ytnfepjolbhnhbaa
