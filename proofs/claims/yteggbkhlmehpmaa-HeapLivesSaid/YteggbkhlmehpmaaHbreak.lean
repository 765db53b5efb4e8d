/-
  A row of words whose pattern is broken up.
-/
import Derived.Test.YteggbkhlmehpmaaHpivot
import Derived.Laws.Bits64b
import Derived.Laws.Closers25b
namespace Go.Proofs.Yteggbkhlmehpmaa
open Go Go.RowKit Go.Sort
attribute [local go_sem ↓] Go.wp_at_zero Go.wp_at_succ

def tabAt (ba : ByteArray) (k : Nat) : Bool :=
  let l := (ba.data[k]?.getD 0).toNat
  decide (l ≤ 8) && (decide (k < 8) || (decide (4 ≤ l) && decide (2 ^ l ≤ 2 * k)))
theorem tab_ok {ba : ByteArray} (ht : (List.range 256).all (tabAt ba) = true) {k : Nat} (hk : k < 256) (h : k < ba.size) : (ba[k]).toNat ≤ 8 ∧ (8 ≤ k → 4 ≤ (ba[k]).toNat ∧ 2 ^ (ba[k]).toNat ≤ 2 * k) := by
  have h1 := List.all_eq_true.1 ht k (List.mem_range.2 hk)
  have e : ba.data[k]?.getD 0 = ba[k] := by
    rw [Array.getElem?_eq_getElem h]; rfl
  unfold tabAt at h1
  rw [e] at h1
  simp only [Bool.and_eq_true, Bool.or_eq_true, decide_eq_true_eq] at h1
  exact ⟨h1.1, fun h8 => h1.2.elim (fun h => by omega) id⟩

/-- How many bits; of less than 256. -/
def LenE (x : Nat) (W : World) (e : Ending) (W' : World) : Prop := ∃ l : Nat, e = .returned (.int .i64 l) ∧ l ≤ 8 ∧ (8 ≤ x → 4 ≤ l ∧ 2 ^ l ≤ 2 * x) ∧ W = W'

set_option maxRecDepth 100000 in
theorem len64_is (x : Nat) (hx : x < 256) (W : World) : Calls Try.prog 62 #[.int .u64 (x : Int)] W (LenE x W) := by
  obtain ⟨z, hz⟩ : ∃ z, (x : Int) = z := ⟨_, rfl⟩
  have h0 : 0 ≤ z := by omega
  have h1 : z ≤ 255 := by omega
  have HX := Lib.hid (show z.toNat = x from by omega)
  have HXs := Lib.hid hx
  have HKey := Lib.hid (fun (ba : ByteArray) (h : z.toNat < ba.size) (ht : (List.range 256).all (tabAt ba) = true) => (show LenE x W (.returned (.int .i64 (wrap64 (wrap64 ((ba[z.toNat]'h).toNat : Int))))) W from by
    have hT := tab_ok (k := z.toNat) ht (by rw [HX.out]; exact HXs.out) h
    obtain ⟨y, hy⟩ : ∃ y, (ba[z.toNat]'h).toNat = y := ⟨_, rfl⟩
    have h8 : y ≤ 8 := by rw [← hy]; exact hT.1
    have h9 : 8 ≤ x → 4 ≤ y ∧ 2 ^ y ≤ 2 * x := fun h => by
      have := hT.2 (by rw [HX.out]; exact h)
      rw [← hy]
      have e := HX.out
      omega
    refine ⟨y, ?_, h8, h9, rfl⟩
    rw [hy, IntWalk.wrap64_in (y : Int) (by omega), IntWalk.wrap64_in (y : Int) (by omega)]))
  rw [hz]
  clear hz hx
  go_enter Try.func62, Try.ntmps62
  go_wp2_with fail
  go_ret
  exact HKey.out _ _ (by kernel_rfl)
theorem len_is (x : Nat) (hx : x < 256) (W : World) : Calls Try.prog 51 #[.int .u64 (x : Int)] W (LenE x W) := by
  have H := Lib.hid (len64_is x hx W)
  clear hx
  obtain ⟨z, hz⟩ : ∃ z, (x : Int) = z := ⟨_, rfl⟩
  rw [hz] at H ⊢
  clear hz
  go_enter Try.func51, Try.ntmps51
  go_wp2_with fail
  refine H.out.mono ?_
  rintro e w' ⟨L, rfl, g1, g2, rfl⟩
  have G := Lib.hid (And.intro g1 g2)
  clear g1 g2
  go_wp2_with fail
  go_ret
  exact ⟨L, rfl, G.out.1, G.out.2, rfl⟩

/-- A power of two that is greater, and no more than twice as great. -/
def PowE (x : Nat) (W : World) (e : Ending) (W' : World) : Prop := ∃ m : Nat, e = .returned (.int .u64 (m : Int)) ∧ 1 ≤ m ∧ m ≤ 256 ∧ m ≤ 2 * x ∧ W = W'
set_option maxRecDepth 100000 in
theorem pow_is (x : Nat) (hx : x < 256) (h8 : 8 ≤ x) (W : World) : Calls Try.prog 64 #[.int .i64 (x : Int)] W (PowE x W) := by
  have H := Lib.hid (len_is x hx W)
  have H8 := Lib.hid h8
  have hx0 : (0 : Int) ≤ (x : Int) := by omega
  have hx1 : (x : Int) ≤ 255 := by omega
  clear hx h8
  go_enter Try.func64, Try.ntmps64
  go_wp2_with fail
  refine H.out.mono ?_
  rintro e w' ⟨L, rfl, g1, g2, rfl⟩
  have HE := Lib.hid (show PowE x W (.returned (.int .u64 (IntKind.u64.wrap (2 ^ L)))) W from by
    have g3 := (g2 H8.out).2
    obtain ⟨p, hp⟩ : ∃ p, 2 ^ L = p := ⟨_, rfl⟩
    have hp1 : 1 ≤ p := by rw [← hp]; exact Nat.one_le_two_pow
    have hp2 : p ≤ 256 := by rw [← hp]; exact Nat.pow_le_pow_right (by omega) g1
    have e : (2 : Int) ^ L = (p : Int) := by rw [← hp]; simp
    rw [hp] at g3
    rw [e]
    exact ⟨p, by rw [IntKind.wrap_u64]; congr 2; omega, hp1, hp2, g3, rfl⟩)
  have g3 := (g2 H8.out).1
  clear g2
  go_wp2_with fail
  go_ret
  exact HE.out

theorem set_off {W : World} {q o k : Nat} {v : Value} (h : k ≠ q) : (W.setCell ⟨q, o, none⟩ v).heap[k]? = W.heap[k]? := by
  show (W.heap.modify q _)[k]? = _
  rw [Array.getElem?_modify, if_neg (Ne.symm h)]

/-- The row, and a number in a block that the call made. -/
structure Sd (W : World) (q off C bs : Nat) (d : Array Int) (Y : World) : Prop where
  put : Put W q off C d Y
  new : W.heap.size ≤ bs
  ne : bs ≠ q
  box : ∃ z : Int, Y.heap[bs]? = some (.cells #[.int .u64 z] 103 (0, 0))
section
variable {W Y Z : World} {q off C bs : Nat} {d d' : Array Int}
theorem Sd.below (h : Sd W q off C bs d Y) (hb : Below Y.heap.size Y Z) : Sd W q off C bs d Z :=
  ⟨h.put.below hb, h.new, h.ne, by obtain ⟨z, hz⟩ := h.box; exact ⟨z, (hb.block bs (heap_at_lt hz)).trans hz⟩⟩
theorem Sd.drew (h : Sd W q off C bs d Y) (n : Nat) : Sd W q off C bs d (Y.drewN n) := h.below (below_draws Y n)
theorem Sd.set (h : Sd W q off C bs d Y) (z : Int) : Sd W q off C bs d (Y.setCell ⟨bs, 0, none⟩ (.int .u64 z)) := by
  obtain ⟨y, hy⟩ := h.box
  obtain ⟨cs, h1, h2, h3⟩ := h.put.row
  refine ⟨⟨h.put.os, h.put.tape, h.put.output, by simpa [World.setCell] using h.put.size, fun k hk hq => ?_, cs, ?_, h2, h3⟩, h.new, h.ne, z, ?_⟩
  · rw [← h.put.other k hk hq]
    show (Y.heap.modify bs _)[k]? = _
    rw [Array.getElem?_modify, if_neg (by have := h.new; omega)]
  · rw [← h1]
    show (Y.heap.modify bs _)[q]? = _
    rw [Array.getElem?_modify, if_neg h.ne]
  · exact heap_setAt hy
theorem Sd.start (h : Put W q off C d Y) (hq : q < Y.heap.size) (z : Int) : Sd W q off C Y.heap.size d (Y.alloc (.cells #[.int .u64 z] 103)) :=
  ⟨h.below (below_alloc Y _), h.size, by omega, z, World.alloc_heap_new Y _⟩
theorem Sd.cell (h : Sd W q off C bs d Y) : ∃ z : Int, Y.cell? ⟨bs, 0, none⟩ = some (.int .u64 z) ∧ Y.frozen? ⟨bs, 0, none⟩ = false := by
  obtain ⟨z, hz⟩ := h.box
  exact ⟨z, (cell_of hz).trans rfl, by simp [World.frozen?, hz]⟩
theorem Sd.swap (h : Sd W q off C bs d Y) {i j : Nat} (hi : i < d.size) (hj : j < d.size) :
    Sd W q off C bs (swp d i j) ((Y.setCell ⟨q, off + i, none⟩ (.int .u64 d[j]!)).setCell ⟨q, off + j, none⟩ (.int .u64 d[i]!)) := by
  refine ⟨h.put.swap hi hj, h.new, h.ne, ?_⟩
  obtain ⟨z, hz⟩ := h.box
  exact ⟨z, by rw [set_off h.ne, set_off h.ne]; exact hz⟩
end

/-- A number that comes next. -/
def NextE (W : World) (q off C bs : Nat) (d : Array Int) (e : Ending) (Y : World) : Prop := ∃ r : Nat, e = .returned (.int .u64 (r : Int)) ∧ r < 18446744073709551616 ∧ Sd W q off C bs d Y

set_option maxRecDepth 100000 in
set_option maxHeartbeats 2000000 in
theorem next_is (W X : World) {q off C bs : Nat} {d : Array Int} (h : Sd W q off C bs d X) : Calls Try.prog 65 #[.pointer (some ⟨bs, 0, none⟩)] X (NextE W q off C bs d) := by
  have H0 := Lib.hid h
  obtain ⟨z, hcz, hfz⟩ := h.cell
  clear h
  go_enter Try.func65, Try.ntmps65
  go_wp2_with fail
  go_region
  all_goals go_wp2_with fail
  have H1 := Lib.hid ((H0.out.set (bits .xor .u64 z (IntKind.u64.wrap (z * 8192)))).drew 1)
  have H1' : Hid (Sd W q off C bs d (X.setCell ⟨bs, 0, none⟩ (.int .u64 (bits .xor .u64 z (IntKind.u64.wrap (z * 8192))))).drew) := H1
  clear H1 hcz hfz H0
  generalize (X.setCell ⟨bs, 0, none⟩ (.int .u64 (bits .xor .u64 z (IntKind.u64.wrap (z * 8192))))).drew = w1 at H1' ⊢
  obtain ⟨z1, hcz, hfz⟩ := H1'.out.cell
  go_region
  all_goals go_wp2_with fail
  have H2 : Hid (Sd W q off C bs d (w1.setCell ⟨bs, 0, none⟩ (.int .u64 (bits .xor .u64 z1 (z1 / 128)))).drew) := (H1'.out.set (bits .xor .u64 z1 (z1 / 128))).drew 1
  clear hcz hfz H1'
  generalize (w1.setCell ⟨bs, 0, none⟩ (.int .u64 (bits .xor .u64 z1 (z1 / 128)))).drew = w2 at H2 ⊢
  obtain ⟨z2, hcz, hfz⟩ := H2.out.cell
  go_region
  all_goals go_wp2_with fail
  go_ret
  have g1 := (bits_within .xor .u64 z2 (IntKind.u64.wrap (z2 * 131072))).1
  have g2 := (bits_within .xor .u64 z2 (IntKind.u64.wrap (z2 * 131072))).2
  have k1 : IntKind.u64.min = 0 := by decide
  have k2 : IntKind.u64.max = 18446744073709551615 := by decide
  refine ⟨(bits .xor .u64 z2 (IntKind.u64.wrap (z2 * 131072))).toNat, ?_, by omega, (H2.out.set (bits .xor .u64 z2 (IntKind.u64.wrap (z2 * 131072)))).drew 1⟩
  rw [Int.toNat_of_nonneg (by omega)]
  rfl
end Go.Proofs.Yteggbkhlmehpmaa
