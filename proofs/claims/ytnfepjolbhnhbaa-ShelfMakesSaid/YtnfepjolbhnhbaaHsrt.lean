/-
  A row of words that is put into order: its memory; cmp.Less; the insertion sort.
-/
import Derived.Test.YtnfepjolbhnhbaaHsort0
import Derived.Sort.WalkB2
import Derived.Sort.LotA
import Derived.Sort.LotB
import Derived.Sort.LotC
namespace Go.Proofs.Ytnfepjolbhnhbaa
open Go Go.RowKit Go.Sort
attribute [local go_sem ↓] Go.wp_at_zero Go.wp_at_succ

/-- The words of a row in their block; nothing that lay in W has turned but that block. -/
structure Put (W : World) (q off C : Nat) (d : Array Int) (Y : World) : Prop where
  os : Y.os = W.os
  tape : Y.tape = W.tape
  output : Y.output = W.output
  size : W.heap.size ≤ Y.heap.size
  other : ∀ k, k < W.heap.size → k ≠ q → Y.heap[k]? = W.heap[k]?
  row : ∃ cs : Array Value, Y.heap[q]? = some (.cells cs 22 (0, 0)) ∧ cs.size = C ∧ ∀ j, j < d.size → cs[off + j]? = some (.int .u64 d[j]!)

section
variable {W Y Z : World} {q off C : Nat} {d d' : Array Int}
theorem Put.lt (h : Put W q off C d Y) : q < Y.heap.size := by obtain ⟨cs, h1, _⟩ := h.row; exact heap_at_lt h1
theorem Put.below (h : Put W q off C d Y) (hb : Below Y.heap.size Y Z) : Put W q off C d Z :=
  ⟨hb.os.trans h.os, hb.tape.trans h.tape, hb.output.trans h.output, Nat.le_trans h.size hb.size,
    fun k hk hq => (hb.block k (Nat.lt_of_lt_of_le hk h.size)).trans (h.other k hk hq),
    by obtain ⟨cs, h1, h2⟩ := h.row; exact ⟨cs, (hb.block q h.lt).trans h1, h2⟩⟩
theorem Put.drew (h : Put W q off C d Y) (n : Nat) : Put W q off C d (Y.drewN n) := h.below (below_draws Y n)
theorem Put.trans (h : Put W q off C d Y) (h' : Put Y q off C d' Z) : Put W q off C d' Z :=
  ⟨h'.os.trans h.os, h'.tape.trans h.tape, h'.output.trans h.output, Nat.le_trans h.size h'.size,
    fun k hk hq => (h'.other k (Nat.lt_of_lt_of_le hk h.size) hq).trans (h.other k hk hq), h'.row⟩
theorem Put.self (h : Put W q off C d Y) : Put Y q off C d Y := ⟨rfl, rfl, rfl, Nat.le_refl _, fun _ _ _ => rfl, h.row⟩
theorem Put.cell (h : Put W q off C d Y) {j : Nat} (hj : j < d.size) : Y.cell? ⟨q, off + j, none⟩ = some (.int .u64 d[j]!) := by
  obtain ⟨cs, h1, _, h3⟩ := h.row
  exact (cell_of h1).trans (h3 j hj)
theorem Put.frozen (h : Put W q off C d Y) (j : Nat) : Y.frozen? ⟨q, j, none⟩ = false := by
  obtain ⟨cs, h1, _⟩ := h.row
  simp [World.frozen?, h1]
theorem Put.set (h : Put W q off C d Y) {i : Nat} (x : Int) (hi : i < d.size) : Put W q off C (d.setIfInBounds i x) (Y.setCell ⟨q, off + i, none⟩ (.int .u64 x)) := by
  obtain ⟨cs, h1, h2, h3⟩ := h.row
  refine ⟨h.os, h.tape, h.output, by simpa [World.setCell] using h.size, fun k hk hq => ?_, cs.setIfInBounds (off + i) (.int .u64 x), heap_setAt h1, by simpa using h2, fun j hj => ?_⟩
  · rw [← h.other k hk hq]
    show (Y.heap.modify q _)[k]? = _
    rw [Array.getElem?_modify, if_neg (Ne.symm hq)]
  · have hj' : j < d.size := by simpa using hj
    have hc : off + j < cs.size := (Array.getElem?_eq_some_iff.1 (h3 j hj')).1
    by_cases e : i = j
    · subst e
      rw [Array.getElem?_setIfInBounds_self_of_lt hc, getElem!_set_same d i x hi]
    · rw [Array.getElem?_setIfInBounds_ne (by omega), h3 j hj', getElem!_set_other d i j x (Ne.symm e)]
theorem Put.swap (h : Put W q off C d Y) {i j : Nat} (hi : i < d.size) (hj : j < d.size) :
    Put W q off C (swp d i j) ((Y.setCell ⟨q, off + i, none⟩ (.int .u64 d[j]!)).setCell ⟨q, off + j, none⟩ (.int .u64 d[i]!)) :=
  (h.set d[j]! hi).set d[i]! (by simpa using hj)
end

set_option maxHeartbeats 1000000 in
theorem nan_no (x : Int) (W : World) : Calls Try.prog 70 #[.int .u64 x] W fun e W' => e = .returned (.bool false) ∧ W' = W := by
  go_enter Try.func70, Try.ntmps70
  go_wp2
  go_ret
  exact ⟨by simp, rfl⟩
set_option maxHeartbeats 1000000 in
theorem less_any (x y : Int) (W : World) : Calls Try.prog 59 #[.int .u64 x, .int .u64 y] W fun e W' => e = .returned (.bool (ltInt x y)) ∧ W' = W := by
  go_enter Try.func59, Try.ntmps59
  go_wp2_with (go_at_call 70; refine (nan_no _ _).mono ?_; rintro e w' ⟨rfl, rfl⟩)
  go_ret
  exact ⟨rfl, rfl⟩

/-! ### the insertion sort -/
theorem inner_step {a k : Nat} {d : Array Int} (ha : a ≤ k) (h : ltInt d[k + 1]! d[k]! = true) : insInner ltInt a (k + 1) d = insInner ltInt a k (swp d (k + 1) k) := by
  rw [insInner, if_pos (by simp [h]; omega)]
theorem inner_end {a j : Nat} {d : Array Int} (h : j ≤ a ∨ ltInt d[j]! d[j - 1]! = false) : insInner ltInt a j d = d := by
  match j, h with
  | 0, _ => rfl
  | k + 1, h =>
    rw [insInner, if_neg]
    simp only [Nat.add_sub_cancel] at h
    rcases h with h | h
    · simp; omega
    · simp [h]
theorem outer_step {a b i : Nat} {d : Array Int} (h : i < b) : insOuter ltInt a b i d = insOuter ltInt a b (i + 1) (insInner ltInt a i d) := by rw [insOuter, if_pos h]
theorem outer_end {a b i : Nat} {d : Array Int} (h : ¬ i < b) : insOuter ltInt a b i d = d := by rw [insOuter, if_neg h]

set_option maxRecDepth 100000 in
set_option maxHeartbeats 4000000 in
theorem insert_any (W : World) {q off C : Nat} {d : Array Int} {n : Nat} (cap a b : Nat) (hP : Put W q off C d W) (hn : d.size = n) (hab : a ≤ b) (hb : b ≤ n) (hsz : n ≤ 1000000) :
    Calls Try.prog 53 #[.slice (some ⟨q, off, none⟩) n cap, .int .i64 a, .int .i64 b] W fun e W' => e = .returned (.tuple #[]) ∧ Put W q off C (insertionSort ltInt d a b) W' := by
  have H0 := Lib.hid hP
  have HN := Lib.hid hn
  clear hP hn
  go_enter Try.func53, Try.ntmps53
  go_wp2
  go_loopw [6] (fun vi wr => ∃ (i : Nat) (u : Array Int), vi = .int .i64 i ∧ a < i ∧ i ≤ b + 1 ∧ Hid (u.size = n) ∧ Hid (Put W q off C u wr) ∧ Hid (insOuter ltInt a b i u = insertionSort ltInt d a b)) (fun vi _ => b + 1 - (intOf vi).toNat)
  case atStart => exact ⟨a + 1, d, by go_num, by omega, by omega, HN, H0, Lib.hid rfl⟩
  case round =>
    obtain ⟨i, u, rfl, hai, hib, HU, H1, HO⟩ := hrel
    clear H0
    by_cases hlt : i < b
    · have hltz : (i : Int) < (b : Int) := by omega
      go_wp2
      go_loopw [7] (fun vj wr => ∃ (j : Nat) (v : Array Int), vj = .int .i64 j ∧ a ≤ j ∧ j ≤ i ∧ Hid (v.size = n) ∧ Hid (Put W q off C v wr) ∧ Hid (insInner ltInt a j v = insInner ltInt a i u)) (fun vj _ => (intOf vj).toNat)
      case atStart => exact ⟨i, u, rfl, by omega, Nat.le_refl _, HU, H1, Lib.hid rfl⟩
      case round =>
        obtain ⟨j, v, rfl, haj, hji, HV, H2, HI⟩ := hrel
        clear H1
        obtain ⟨G, hG⟩ : ∃ G : Nat → Int, ∀ t, G t = v[t]! := ⟨fun t => v[t]!, fun _ => rfl⟩
        have hcw : ∀ t, t < n → wr.cell? ⟨q, off + t, none⟩ = some (.int .u64 (G t)) := fun t ht => by rw [hG]; exact H2.out.cell (by rw [HV.out]; exact ht)
        have hfw : ∀ t, t < n → wr.frozen? ⟨q, off + t, none⟩ = false := fun t _ => H2.out.frozen _
        have HG := Lib.hid hG
        clear hG
        have OUT := Lib.hid (fun (hs : j ≤ a ∨ ltInt v[j]! v[j - 1]! = false) (m : Nat) => (show ∃ (i' : Nat) (u' : Array Int), Value.int .i64 ((i : Int) + 1) = .int .i64 i' ∧ a < i' ∧ i' ≤ b + 1 ∧ Hid (u'.size = n) ∧ Hid (Put W q off C u' (wr.drewN m)) ∧ Hid (insOuter ltInt a b i' u' = insertionSort ltInt d a b) from
          ⟨i + 1, v, by go_num, by omega, by omega, HV, Lib.hid (H2.out.drew m), Lib.hid (by rw [← HO.out, outer_step hlt, ← HI.out, inner_end hs])⟩))
        go_wp2
        by_cases hja : a < j
        · have hjaz : (a : Int) < (j : Int) := by omega
          go_quiet (first | (go_at_call 59; refine Calls.quiet_of_same (less_any _ _ _)))
          go_wp2
          · have hl : ltInt (G j) (G (j - 1)) = true := by assumption
            go_region
            all_goals go_wp2
            go_roundw
            case rel =>
              refine ⟨j - 1, swp v j (j - 1), by congr 1; omega, by omega, by omega, Lib.hid (by rw [size_swp]; exact HV.out), Lib.hid ?_, Lib.hid ?_⟩
              · rw [HG.out, HG.out]
                exact (H2.out.drew (nq + 1)).swap (by rw [HV.out]; omega) (by rw [HV.out]; omega)
              · rw [HG.out, HG.out] at hl
                obtain ⟨k, rfl⟩ : ∃ k, j = k + 1 := ⟨j - 1, by omega⟩
                rw [← HI.out, inner_step (by omega) hl]
                rfl
            case measure => simp [intOf]; omega
          · have hl : ltInt (G j) (G (j - 1)) = false := by assumption
            go_roundw
            case rel => exact OUT.out (.inr (by rw [← HG.out, ← HG.out]; exact hl)) nq
            case measure => simp [intOf]; omega
        · have hjaz : decide ((a : Int) < (j : Int)) = false := decide_eq_false (by omega)
          go_quiet (first | (go_at_call 59; refine Calls.quiet_of_same (less_any _ _ _)))
          go_wp2
          go_roundw
          case rel => exact OUT.out (.inl (by omega)) nq
          case measure => simp [intOf]; omega
    · have hltz : ¬ (i : Int) < (b : Int) := by omega
      go_wp2
      go_end0
      exact ⟨rfl, by rw [← HO.out, outer_end hlt]; exact H1.out⟩
end Go.Proofs.Ytnfepjolbhnhbaa
