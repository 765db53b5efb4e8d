/-
  Actrblk, Actblk, in one text.
-/
import Derived.Test.YtlgjolajnddpbaaDoorActrdo
import Derived.Deep.CutBlock
import Derived.Test.YtlgjolajnddpbaaDoorHpdq
import Derived.Test.YtlgjolajnddpbaaDoorHblocks0
/-! The reference's Blocks, and Same of two rows of numbers. -/
namespace Go.Proofs.YtlgjolajnddpbaaDoor
open Go Go.RowKit
attribute [local go_sem ↓] Go.wp_at_zero Go.wp_at_succ

/-- The numbers of the blocks that are there, in their order. -/
def rowN : Nat → List BlkD → List Int
  | _, [] => []
  | i, b :: t => if b.gone then rowN (i + 1) t else ((i : Int) + 1) :: rowN (i + 1) t
theorem rowN_snoc (i : Nat) (L : List BlkD) (b : BlkD) : rowN i (L ++ [b]) = rowN i L ++ (if b.gone then [] else [((i + L.length : Nat) : Int) + 1]) := by
  induction L generalizing i with
  | nil => simp [rowN]
  | cons a t ih =>
    have e3 : i + (t.length + 1) = i + 1 + t.length := by omega
    simp only [List.cons_append, rowN, ih, List.length_cons, e3]
    cases a.gone <;> simp
theorem rowN_take {L : List BlkD} {k : Nat} {b : BlkD} (h : L[k]? = some b) : rowN 0 (L.take (k + 1)) = rowN 0 (L.take k) ++ (if b.gone then [] else [((k : Int) + 1)]) := by
  obtain ⟨hk, he⟩ := List.getElem?_eq_some_iff.1 h
  rw [List.take_add_one, h, Option.toList_some, rowN_snoc]
  simp only [List.length_take, Nat.min_eq_left (Nat.le_of_lt hk), Nat.zero_add]

/-- A row of numbers that the call itself lays. -/
structure NRow (W : World) (q n cap : Nat) (R : List Int) (X : World) : Prop where
  lot : Lot X 32 1 (.slice (some ⟨q, 0, none⟩) n cap) n (R.map uval)
  base : W.heap.size ≤ q
  low : Below W.heap.size W X
section
variable {W X Y : World}
theorem NRow.start (W : World) : NRow W W.heap.size 0 0 [] (W.alloc (.cells #[] 32)) := ⟨Lot.none' W _ 1, Nat.le_refl _, below_alloc W _⟩
theorem NRow.below {q n cap : Nat} {R : List Int} (h : NRow W q n cap R X) (hb : Below X.heap.size X Y) : NRow W q n cap R Y := ⟨h.lot.below hb, h.base, h.low.trans (hb.mono h.low.size)⟩
theorem NRow.grow {q n cap q' cap' : Nat} {R : List Int} {x : Int} (h : NRow W q n cap R X) (hL : Lot Y 32 1 (.slice (some ⟨q', 0, none⟩) (n + 1) cap') (n + 1) (R.map uval ++ [.int .u64 x])) (hg : X.grownBy Y (Value.slice (some ⟨q, 0, none⟩) n cap).ownBlock) (hat : (Value.slice (some ⟨q, 0, none⟩) n cap).ownBlock = some q' ∨ q' = X.heap.size) : NRow W q' (n + 1) cap' (R ++ [x]) Y := by
  refine ⟨?_, ?_, h.low.grown hg h.low.size (fun j hj => ?_)⟩
  · rw [List.map_append]; exact hL
  · rcases hat with h0 | h0
    · obtain rfl : q = q' := by simpa [Value.ownBlock] using h0
      exact h.base
    · have := h.low.size; omega
  · obtain rfl : q = j := by simpa [Value.ownBlock] using hj
    exact h.base
end
/-- What the reference's Blocks leaves. -/
def RowOut (R : List Int) (W : World) (e : Ending) (W' : World) : Prop := ∃ q n cap, e = .returned (.slice (some ⟨q, 0, none⟩) n cap) ∧ Lot W' 32 1 (.slice (some ⟨q, 0, none⟩) n cap) n (R.map uval) ∧ Below W.heap.size W W'

section
variable {B p : Nat} {D : HpD} {f : Nat → Prop}
set_option maxRecDepth 100000 in
set_option maxHeartbeats 2000000 in
theorem rblocks_any (W : World) (h : Rf W B p D f) : Calls Tryd.prog 21 #[.pointer (some ⟨p, 0, none⟩)] W (RowOut (rowN 0 D.L) W) := by
  obtain ⟨v, g, cp, h⟩ := h
  obtain ⟨l, hl⟩ : ∃ l, D.L.length = l := ⟨_, rfl⟩
  obtain ⟨i0, gi, gz0, gz1, gz2⟩ := info_parts info_u64
  have hm := h.many.1
  rw [hl] at hm
  have hl0 : (0 : Int) ≤ (l : Int) := by omega
  have hl1 : (l : Int) ≤ 1000000 := by omega
  obtain ⟨a, vc, hv⟩ := h.row.form
  rw [hl] at hv
  have HC := Lib.hid (fun X (hX : Below W.heap.size W X) => (show X.cell? ⟨p, 0, none⟩ = some (.slice a l vc) from by have := (h.below hX).cells.1; rw [hv] at this; exact this))
  have HB := Lib.hid (fun k (hk : k < l) => (show ∃ b, D.L[k]? = some b ∧ ∃ q, a = some ⟨q, 0, none⟩ ∧ ∀ X, Below W.heap.size W X → X.cell? ⟨q, k * 3 + 2, none⟩ = some (.bool b.gone) from by
    have hb := List.getElem?_eq_getElem (show k < D.L.length by omega)
    obtain ⟨q, cap, hv', _⟩ := h.blk hb
    rw [hv] at hv'
    simp only [Value.slice.injEq] at hv'
    refine ⟨_, hb, q, hv'.1, fun X hX => ?_⟩
    obtain ⟨q2, cap2, hv2, _, _, r3, _⟩ := (h.below hX).blk hb
    rw [hv] at hv2
    simp only [Value.slice.injEq] at hv2
    have e := hv'.1.symm.trans hv2.1
    simp only [Option.some.injEq, Addr.mk.injEq, and_true] at e
    rw [e]; exact r3))
  have HT := Lib.hid (show rowN 0 (D.L.take l) = rowN 0 D.L from by rw [← hl, List.take_length])
  have hm2 : l ≤ 1000000 := hm
  clear h hv hm hl
  go_enter Tryd.func21, Tryd.ntmps21
  go_wp2_with fail
  have H0 := Lib.hid (NRow.start W)
  go_loopw [3, 4] (fun lv i wr => ∃ (k q n cap : Nat), lv = .slice (some ⟨q, 0, none⟩) n cap ∧ i = .int .i64 k ∧ k ≤ l ∧ n ≤ k ∧ Hid (NRow W q n cap (rowN 0 (D.L.take k)) wr)) (fun _ i _ => l - (intOf i).toNat)
  case atStart => exact ⟨0, _, 0, 0, rfl, rfl, Nat.zero_le _, Nat.le_refl _, H0⟩
  case round =>
    clear H0
    obtain ⟨k, q, n, cap, rfl, rfl, hkl, hnk, HN⟩ := hrel
    have hk0 : (0 : Int) ≤ (k : Int) := by omega
    have c0 := HC.out _ HN.out.low
    by_cases hlt : k < l
    · have hk1 : (k : Int) < (l : Int) := by omega
      have hk2 : (k : Int) + 1 ≤ 1000000 := by omega
      obtain ⟨b, hb, qa, rfl, hr⟩ := HB.out k hlt
      have r3 := hr _ HN.out.low
      have HTk := Lib.hid (rowN_take hb)
      obtain ⟨gn, hgn⟩ : ∃ gn, b.gone = gn := ⟨_, rfl⟩
      rw [hgn] at HTk r3
      clear hr hb hgn
      cases gn with
      | true =>
        go_wp2_with fail
        go_roundw
        case rel => exact ⟨k + 1, q, n, cap, rfl, by go_num, by omega, by omega, by rw [HTk.out]; simpa using HN⟩
        case measure => simp [intOf]; omega
      | false =>
        have hE1 : n + 1 ≤ maxLen := by unfold maxLen; omega
        have hE2 : (n + 1) * 8 ≤ 140737488355328 := by omega
        have HN2 := Lib.hid (HN.out.below (below_alloc wr (.cells #[.int .u64 ((k : Int) + 1)] 32)))
        go_wp2_with (at_builtin; refine wpList_append_lot _ rfl _ _ 43 rfl 32 i0 _ 1 8 Tryd.underlying43 gi gz0 gz1 gz2 rfl (.slice (some ⟨q, 0, none⟩) n cap) n _ rfl HN2.out.lot ⟨wr.heap.size, 0, none⟩ 1 1 [.int .u64 ((k : Int) + 1)] rfl rfl (cell_one_new _ _ _) (by simp [Value.oneCell']) (by omega) hE1 hE2 _ rfl ?_; intro g4 cap4 w4 hL4 hg4 hat4; have HN4 := Lib.hid (HN2.out.grow hL4 hg4 hat4); clear hL4 hg4 hat4)
        go_roundw
        case rel => exact ⟨k + 1, g4, n + 1, cap4, rfl, by go_num, by omega, by omega, by rw [HTk.out]; simpa using HN4⟩
        case measure => simp [intOf]; omega
    · obtain rfl : l = k := by omega
      clear hlt hkl
      go_wp2_with fail
      go_ret
      rw [← HT.out]
      exact ⟨q, n, cap, rfl, HN.out.lot, HN.out.low⟩

set_option maxRecDepth 100000 in
set_option maxHeartbeats 2000000 in
theorem rsame_yes (W : World) (a1 a2 : Option Addr) (n c1 c2 : Nat) (R : List Int) (h1 : Lot W 32 1 (.slice a1 n c1) n (R.map uval)) (h2 : Lot W 32 1 (.slice a2 n c2) n (R.map uval)) (hn : n ≤ 1000000) :
    Calls Tryd.prog 19 #[.slice a1 n c1, .slice a2 n c2] W (fun e W' => e = .returned (.bool true) ∧ Below W.heap.size W W') := by
  have hR : R.length = n := by have := h1.1; simpa using this
  have HB := Lib.hid (fun k (hk : k < n) => (show ∃ (q1 q2 : Nat) (x : Int), a1 = some ⟨q1, 0, none⟩ ∧ a2 = some ⟨q2, 0, none⟩ ∧ ∀ X, Below W.heap.size W X → X.cell? ⟨q1, k, none⟩ = some (.int .u64 x) ∧ X.cell? ⟨q2, k, none⟩ = some (.int .u64 x) from by
    obtain ⟨q1, p1, hv1, hat1⟩ := h1.cells (by omega)
    obtain ⟨q2, p2, hv2, hat2⟩ := h2.cells (by omega)
    simp only [Value.slice.injEq] at hv1 hv2
    have e1 := hat1 k (uval (R[k]'(by omega))) (by rw [List.getElem?_map, List.getElem?_eq_getElem (by omega)]; rfl)
    have e2 := hat2 k (uval (R[k]'(by omega))) (by rw [List.getElem?_map, List.getElem?_eq_getElem (by omega)]; rfl)
    exact ⟨q1, q2, R[k]'(by omega), hv1.1, hv2.1, fun X hX => ⟨(hX.cell (p := ⟨q1, k, none⟩) (cell_lt e1)).trans e1, (hX.cell (p := ⟨q2, k, none⟩) (cell_lt e2)).trans e2⟩⟩))
  have hn1 : (n : Int) ≤ 1000000 := by omega
  have hmix : Tryd.prog.follows .mixedOrders = true := by kernel_rfl
  have H0 := Lib.hid (Below.refl W.heap.size W)
  clear h1 h2 hR hn
  go_enter Tryd.func19, Tryd.ntmps19
  go_wp2_with fail
  go_loopw [5] (fun i wr => ∃ k : Nat, i = .int .i64 k ∧ k ≤ n ∧ Hid (Below W.heap.size W wr)) (fun i _ => n - (intOf i).toNat)
  case atStart => exact ⟨0, rfl, Nat.zero_le _, H0⟩
  case round =>
    clear H0
    obtain ⟨k, rfl, hkn, HW⟩ := hrel
    have hk0 : (0 : Int) ≤ (k : Int) := by omega
    by_cases hlt : k < n
    · have hk1 : (k : Int) < (n : Int) := by omega
      obtain ⟨q1, q2, x, rfl, rfl, hX⟩ := HB.out k hlt
      obtain ⟨r1, r2⟩ := hX _ HW.out
      have HX := Lib.hid hX
      clear hX
      go_wp2_with fail
      go_still_tail 8, hmix
      change wpList _ _ _ _ _ wr.drew
      have HW2 := Lib.hid (HW.out.trans ((below_drew wr).mono HW.out.size))
      clear r1 r2
      go_wp2_with fail
      go_roundw
      case rel => exact ⟨k + 1, by go_num, by omega, HW2⟩
      case measure => simp [intOf]; omega
    · obtain rfl : n = k := by omega
      clear hlt hkn
      go_wp2_with fail
      go_ret
      exact ⟨rfl, HW.out⟩
end
end Go.Proofs.YtlgjolajnddpbaaDoor

/-! A heap's Blocks: the numbers that are there, rising. -/
namespace Go.Proofs.YtlgjolajnddpbaaDoor
open Go Go.RowKit Go.Sort
attribute [local go_sem ↓] Go.wp_at_zero Go.wp_at_succ

/-! ### rows that rise -/
theorem rise_ext : ∀ (A B : List Int), A.Pairwise (· < ·) → B.Pairwise (· < ·) → (∀ x, x ∈ A ↔ x ∈ B) → A = B
  | [], [], _, _, _ => rfl
  | [], b :: B, _, _, h => absurd ((h b).2 (by simp)) (by simp)
  | a :: A, [], _, _, h => absurd ((h a).1 (by simp)) (by simp)
  | a :: A, b :: B, hA, hB, h => by
    obtain ⟨hA1, hA2⟩ := List.pairwise_cons.1 hA
    obtain ⟨hB1, hB2⟩ := List.pairwise_cons.1 hB
    have e : a = b := by
      rcases List.mem_cons.1 ((h a).1 (by simp)) with h1 | h1
      · exact h1
      · rcases List.mem_cons.1 ((h b).2 (by simp)) with h2 | h2
        · exact h2.symm
        · have := hB1 a h1; have := hA1 b h2; omega
    subst e
    rw [rise_ext A B hA2 hB2 (fun x => ?_)]
    constructor
    · intro hx
      rcases List.mem_cons.1 ((h x).1 (by simp [hx])) with h1 | h1
      · have := hA1 x hx; omega
      · exact h1
    · intro hx
      rcases List.mem_cons.1 ((h x).2 (by simp [hx])) with h1 | h1
      · have := hB1 x hx; omega
      · exact h1
theorem rowN_mem (i : Nat) (L : List BlkD) (x : Int) : x ∈ rowN i L ↔ ∃ (j : Nat) (b : BlkD), L[j]? = some b ∧ b.gone = false ∧ x = (i : Int) + (j : Int) + 1 := by
  induction L generalizing i with
  | nil => simp [rowN]
  | cons a t ih =>
    have step : (∃ (j : Nat) (b : BlkD), (a :: t)[j]? = some b ∧ b.gone = false ∧ x = (i : Int) + (j : Int) + 1) ↔ (a.gone = false ∧ x = (i : Int) + 1) ∨ ∃ (j : Nat) (b : BlkD), t[j]? = some b ∧ b.gone = false ∧ x = ((i + 1 : Nat) : Int) + (j : Int) + 1 := by
      constructor
      · rintro ⟨j, b, hj, hg, rfl⟩
        cases j with
        | zero => left; simp at hj; subst hj; exact ⟨hg, by omega⟩
        | succ j => right; exact ⟨j, b, by simpa using hj, hg, by omega⟩
      · rintro (⟨hg, rfl⟩ | ⟨j, b, hj, hg, rfl⟩)
        · exact ⟨0, a, rfl, hg, by omega⟩
        · exact ⟨j + 1, b, by simpa using hj, hg, by omega⟩
    rw [step, ← ih (i + 1), rowN]
    cases ha : a.gone <;> simp
theorem rowN_gt (i : Nat) (L : List BlkD) : ∀ x ∈ rowN i L, (i : Int) < x := fun x hx => by
  obtain ⟨j, b, _, _, rfl⟩ := (rowN_mem i L x).1 hx
  omega
theorem rowN_rise (i : Nat) (L : List BlkD) : (rowN i L).Pairwise (· < ·) := by
  induction L generalizing i with
  | nil => exact List.Pairwise.nil
  | cons a t ih =>
    rw [rowN]
    cases a.gone
    · refine List.pairwise_cons.2 ⟨fun x hx => ?_, ih (i + 1)⟩
      have := rowN_gt (i + 1) t x hx
      omega
    · exact ih (i + 1)
theorem rowN_live (L : List BlkD) (x : Int) : x ∈ rowN 0 L ↔ ∃ k : Nat, x = (k : Int) ∧ (liveAt L k).isSome = true := by
  rw [rowN_mem]
  constructor
  · rintro ⟨j, b, hj, hg, rfl⟩
    refine ⟨j + 1, by omega, ?_⟩
    unfold liveAt
    rw [if_neg (by omega), Nat.add_sub_cancel, hj]
    simp [hg]
  · rintro ⟨k, rfl, hk⟩
    unfold liveAt at hk
    by_cases h0 : k = 0
    · rw [if_pos h0] at hk; cases hk
    · rw [if_neg h0] at hk
      cases hb : L[k - 1]? with
      | none => rw [hb] at hk; cases hk
      | some b =>
        rw [hb] at hk
        cases hg : b.gone with
        | true => simp [hg] at hk
        | false => exact ⟨k - 1, b, hb, hg, by omega⟩
theorem ord_rise {u : Array Int} (h : Ord 0 u.size u) (hd : u.toList.Nodup) : u.toList.Pairwise (· < ·) := by
  rw [List.pairwise_iff_getElem]
  intro i j hi hj hij
  have hi' : i < u.size := by simpa using hi
  have hj' : j < u.size := by simpa using hj
  have h1 := h i j (Nat.zero_le _) hij hj'
  have h2 := dist_ne hd hi' hj' (by omega)
  rw [getElem!_pos u i hi', getElem!_pos u j hj'] at h1 h2
  simp only [Array.getElem_toList]
  omega

/-! ### collected and put into order -/
/-- What is handed out: a row of words that lies in memory. -/
def RowS (R : List Int) (W : World) (e : Ending) (W' : World) : Prop := ∃ a n c, e = .returned (.slice a n c) ∧ Lot W' 32 1 (.slice a n c) n (R.map uval) ∧ Below W.heap.size W W'

set_option maxRecDepth 100000 in
theorem sorted_row (W : World) (Bm : Nat) (S : List Int → Prop) (N : Nat) (R : List Int) (hR : R.Pairwise (· < ·)) (hN : N < 256) (hS : ∀ ss, S ss → ss.Nodup ∧ ∀ x, x ∈ ss ↔ x ∈ R) (h : Calls Tryd.prog 60 #[.func (.func 62) #[] #[.pointer (some ⟨Bm, 0, none⟩)]] W (CollR W S N)) :
    Calls Tryd.prog 46 #[.func (.func 62) #[] #[.pointer (some ⟨Bm, 0, none⟩)]] W (RowS R W) := by
  have H := Lib.hid h
  have HS := Lib.hid hS
  have HR := Lib.hid hR
  have HN := Lib.hid hN
  clear h hS hR hN
  go_enter Tryd.func46, Tryd.ntmps46
  go_wp2_with fail
  refine H.out.mono ?_
  rintro e w1 ⟨v, ss, rfl, h1, h1n, h2, h3, h4⟩
  have HB := Lib.hid h4
  have HSs := Lib.hid (HS.out ss h1)
  clear h1 h4
  rcases h2.2 with ⟨rfl, hz⟩ | ⟨g, cap, cur, rfl, hbase, hb, k1, k2, k3, k4⟩
  · have hss : ss = [] := h3.1 rfl
    subst hss
    have HRe := Lib.hid (show R = [] from by
      rcases hRe : R with _ | ⟨x, r⟩
      · rfl
      · exact absurd ((HSs.out.2 x).2 (by rw [hRe]; simp)) (by simp))
    clear h2 h3 hz
    go_wp2_with fail
    refine (sort_none _ _ _).mono ?_
    rintro e w2 ⟨rfl, rfl⟩
    go_wp2_with fail
    go_ret
    exact ⟨none, 0, 0, rfl, by rw [HRe.out]; exact Lot.nil _ _ _, HB.out⟩
  · have hlen : ss.length < 256 := by have := HN.out; omega
    have hP : Put w1 g 0 cur.size ss.toArray w1 := ⟨rfl, rfl, rfl, Nat.le_refl _, fun _ _ _ => rfl, cur, hb, rfl, fun j hj => by
      have hj' : j < ss.length := by simpa using hj
      have e1 : (cur.toList.take (ss.length * 1))[j]? = some (.int .u64 ss[j]) := by
        rw [k4, List.getElem?_map, List.getElem?_eq_getElem hj']; rfl
      rw [List.getElem?_take, if_pos (by omega)] at e1
      rw [Nat.zero_add, getElem!_pos ss.toArray j hj]
      simpa using e1⟩
    have HC := Lib.hid (sort_any w1 cap hP (n := ss.length) (by simp) hlen (by simpa using HSs.out.1))
    have HF := Lib.hid (fun (e : Ending) (Y : World) (hr : SortE w1 g 0 cur.size ss.toArray e Y) => (show e = .returned (.tuple #[]) ∧ Lot Y 32 1 (.slice (some ⟨g, 0, none⟩) ss.length cap) ss.length (R.map uval) ∧ Below W.heap.size W Y from by
      obtain ⟨rfl, u, hp, ho, hY⟩ := hr
      have hl : u.size = ss.length := by simpa using hp.length_eq
      have hd : u.toList.Nodup := hp.nodup_iff.2 (by simpa using HSs.out.1)
      have e1 : u.toList = R := rise_ext _ _ (ord_rise (by rw [hl]; simpa using ho) hd) HR.out (fun x => by rw [hp.mem_iff, ← HSs.out.2 x])
      obtain ⟨cs, c1, c2, c3⟩ := hY.row
      refine ⟨rfl, ⟨by rw [← e1]; simp [hl], .inr ⟨g, cap, cs, rfl, c1, k1, k2, by rw [c2, k3]; exact Nat.le_refl _, ?_⟩⟩, HB.out.trans ⟨hY.os, hY.tape, hY.output, hY.size, fun k hk => hY.other k (Nat.lt_of_lt_of_le hk HB.out.size) (by omega)⟩⟩
      apply List.ext_getElem?
      intro j
      by_cases hj : j < ss.length
      · have hju : j < u.size := by omega
        have c := c3 j hju
        rw [Nat.zero_add, getElem!_pos u j hju] at c
        have hRj : (R.map uval)[j]? = some (uval u[j]) := by rw [← e1, List.getElem?_map, List.getElem?_eq_getElem (by simpa using hju)]; simp
        rw [hRj, List.getElem?_take, if_pos (by omega)]
        simpa [uval] using c
      · rw [List.getElem?_eq_none (by simp; omega), List.getElem?_eq_none (by rw [← e1]; simp; omega)]))
    clear h2 h3 hP hb k1 k2 k3 k4 hbase hlen h1n
    go_wp2_with fail
    refine HC.out.mono ?_
    intro e w2 hr
    obtain ⟨rfl, hl, hbl⟩ := HF.out e w2 hr
    have HL := Lib.hid hl
    have HBl := Lib.hid hbl
    clear hr hl hbl
    go_wp2_with fail
    go_ret
    exact ⟨some ⟨g, 0, none⟩, ss.length, cap, rfl, HL.out, HBl.out⟩

theorem sorted_heap {W W1 : World} {B p : Nat} {D : HpD} {f : Nat → Prop} {mb : Option Nat} {g cp : Nat → Nat} (h : HpAt W B p D f mb g cp) (hs : D.L.length ≤ 200) (hb : Below W.heap.size W W1) (Bm : Nat) (hm : W1.cell? ⟨Bm, 0, none⟩ = some (.map mb)) :
    Calls Tryd.prog 46 #[.func (.func 62) #[] #[.pointer (some ⟨Bm, 0, none⟩)]] W1 (RowS (rowN 0 D.L) W1) := by
  have h1 := h.below hb
  rcases h1.map with ⟨h0, hno⟩ | ⟨m, h0, D', hM, hat⟩
  · rw [h0] at hm
    refine sorted_row W1 Bm _ 0 _ (rowN_rise 0 D.L) (by omega) (fun ss hs => ?_) (collect_nil W1 Bm hm)
    subst hs
    refine ⟨List.nodup_nil, fun x => ⟨fun h => (by cases h), fun hx => ?_⟩⟩
    rw [hno] at hx
    cases hx
  · rw [h0] at hm
    have hsz : Maps.size D' ≤ 200 := Nat.le_trans hM.size_le hs
    refine sorted_row W1 Bm (AllKeys D') _ _ (rowN_rise 0 D.L) (by omega) (fun ss hss => ⟨hss.1, fun x => ?_⟩) (collect_map W1 Bm m D.L.length D' hm hM (by omega))
    rw [hss.2 x, rowN_live]
    constructor
    · intro hx
      obtain ⟨hx0, hx1⟩ := key_range hM hx
      have hhas := has_of hat (show x.toNat < 18446744073709551616 by omega)
      rw [Int.toNat_of_nonneg hx0, hx] at hhas
      refine ⟨x.toNat, by omega, ?_⟩
      cases hl : liveAt D.L x.toNat with
      | none => rw [phi_none hl] at hhas; cases hhas
      | some b => rfl
    · rintro ⟨k, rfl, hk⟩
      have hk2 : k < 18446744073709551616 := by
        obtain ⟨j, b, hj, _, e⟩ := (rowN_mem 0 D.L (k : Int)).1 ((rowN_live D.L _).2 ⟨k, rfl, hk⟩)
        have := (List.getElem?_eq_some_iff.1 hj).1
        omega
      rw [has_of hat hk2]
      cases hl : liveAt D.L k with
      | none => rw [hl] at hk; cases hk
      | some b => rw [phi_some hl]; rfl

set_option maxRecDepth 100000 in
theorem blocks_any (W : World) {B p : Nat} {D : HpD} {f : Nat → Prop} (h : Hp W B p D f) (hs : D.L.length ≤ 200) : Calls Tryd.prog 20 #[.pointer (some ⟨p, 0, none⟩)] W (RowS (rowN 0 D.L) W) := by
  obtain ⟨mb, g, cp, h⟩ := h
  obtain ⟨c0, _⟩ := h.cells
  have hb := below_alloc W (.cells #[.map mb] 56)
  have HS := Lib.hid (sorted_heap h hs hb W.heap.size ((cell_of (World.alloc_heap_new W _)).trans rfl))
  have HB := Lib.hid hb
  clear h hs hb
  go_enter Tryd.func20, Tryd.ntmps20
  go_wp2_with fail
  refine (keysfn_any _ _).mono ?_
  rintro e w1 ⟨rfl, rfl⟩
  go_wp2_with fail
  refine HS.out.mono ?_
  rintro e w2 ⟨a, n, c, rfl, hl, hb2⟩
  have HL := Lib.hid hl
  have HB2 := Lib.hid (HB.out.trans (hb2.mono HB.out.size))
  clear hb2 hl
  go_wp2_with fail
  go_ret
  exact ⟨a, n, c, rfl, HL.out, HB2.out⟩
end Go.Proofs.YtlgjolajnddpbaaDoor
