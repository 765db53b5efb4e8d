/-
  A heap's Blocks: the numbers that are there, rising.
-/
import Derived.Test.YtnfepjolbhnhbaaHpdq
import Derived.Test.YtnfepjolbhnhbaaHblocks0
namespace Go.Proofs.Ytnfepjolbhnhbaa
open Go Go.RowKit Go.Sort
attribute [local go_sem ↓] Go.wp_at_zero Go.wp_at_succ

/-- The numbers of the blocks that are there, in their order. -/
def rowN : Nat → List BlkD → List Int
  | _, [] => []
  | i, b :: t => if b.gone then rowN (i + 1) t else ((i : Int) + 1) :: rowN (i + 1) t
theorem rowN_snoc (i : Nat) (L : List BlkD) (b : BlkD) : rowN i (L ++ [b]) = rowN i L ++ (if b.gone then [] else [((i + L.length : Nat) : Int) + 1]) := by
  induction L generalizing i with
  | nil => simp [rowN]
  | cons a t ih =>
    have e3 : i + (t.length + 1) = i + 1 + t.length := by omega
    simp only [List.cons_append, rowN, ih, List.length_cons, e3]
    cases a.gone <;> simp

/-! ### rows that rise -/
theorem rise_ext : ∀ (A B : List Int), A.Pairwise (· < ·) → B.Pairwise (· < ·) → (∀ x, x ∈ A ↔ x ∈ B) → A = B
  | [], [], _, _, _ => rfl
  | [], b :: B, _, _, h => absurd ((h b).2 (by simp)) (by simp)
  | a :: A, [], _, _, h => absurd ((h a).1 (by simp)) (by simp)
  | a :: A, b :: B, hA, hB, h => by
    obtain ⟨hA1, hA2⟩ := List.pairwise_cons.1 hA
    obtain ⟨hB1, hB2⟩ := List.pairwise_cons.1 hB
    have e : a = b := by
      rcases List.mem_cons.1 ((h a).1 (by simp)) with h1 | h1
      · exact h1
      · rcases List.mem_cons.1 ((h b).2 (by simp)) with h2 | h2
        · exact h2.symm
        · have := hB1 a h1; have := hA1 b h2; omega
    subst e
    rw [rise_ext A B hA2 hB2 (fun x => ?_)]
    constructor
    · intro hx
      rcases List.mem_cons.1 ((h x).1 (by simp [hx])) with h1 | h1
      · have := hA1 x hx; omega
      · exact h1
    · intro hx
      rcases List.mem_cons.1 ((h x).2 (by simp [hx])) with h1 | h1
      · have := hB1 x hx; omega
      · exact h1
theorem rowN_mem (i : Nat) (L : List BlkD) (x : Int) : x ∈ rowN i L ↔ ∃ (j : Nat) (b : BlkD), L[j]? = some b ∧ b.gone = false ∧ x = (i : Int) + (j : Int) + 1 := by
  induction L generalizing i with
  | nil => simp [rowN]
  | cons a t ih =>
    have step : (∃ (j : Nat) (b : BlkD), (a :: t)[j]? = some b ∧ b.gone = false ∧ x = (i : Int) + (j : Int) + 1) ↔ (a.gone = false ∧ x = (i : Int) + 1) ∨ ∃ (j : Nat) (b : BlkD), t[j]? = some b ∧ b.gone = false ∧ x = ((i + 1 : Nat) : Int) + (j : Int) + 1 := by
      constructor
      · rintro ⟨j, b, hj, hg, rfl⟩
        cases j with
        | zero => left; simp at hj; subst hj; exact ⟨hg, by omega⟩
        | succ j => right; exact ⟨j, b, by simpa using hj, hg, by omega⟩
      · rintro (⟨hg, rfl⟩ | ⟨j, b, hj, hg, rfl⟩)
        · exact ⟨0, a, rfl, hg, by omega⟩
        · exact ⟨j + 1, b, by simpa using hj, hg, by omega⟩
    rw [step, ← ih (i + 1), rowN]
    cases ha : a.gone <;> simp
theorem rowN_gt (i : Nat) (L : List BlkD) : ∀ x ∈ rowN i L, (i : Int) < x := fun x hx => by
  obtain ⟨j, b, _, _, rfl⟩ := (rowN_mem i L x).1 hx
  omega
theorem rowN_rise (i : Nat) (L : List BlkD) : (rowN i L).Pairwise (· < ·) := by
  induction L generalizing i with
  | nil => exact List.Pairwise.nil
  | cons a t ih =>
    rw [rowN]
    cases a.gone
    · refine List.pairwise_cons.2 ⟨fun x hx => ?_, ih (i + 1)⟩
      have := rowN_gt (i + 1) t x hx
      omega
    · exact ih (i + 1)
theorem rowN_live (L : List BlkD) (x : Int) : x ∈ rowN 0 L ↔ ∃ k : Nat, x = (k : Int) ∧ (liveAt L k).isSome = true := by
  rw [rowN_mem]
  constructor
  · rintro ⟨j, b, hj, hg, rfl⟩
    refine ⟨j + 1, by omega, ?_⟩
    unfold liveAt
    rw [if_neg (by omega), Nat.add_sub_cancel, hj]
    simp [hg]
  · rintro ⟨k, rfl, hk⟩
    unfold liveAt at hk
    by_cases h0 : k = 0
    · rw [if_pos h0] at hk; cases hk
    · rw [if_neg h0] at hk
      cases hb : L[k - 1]? with
      | none => rw [hb] at hk; cases hk
      | some b =>
        rw [hb] at hk
        cases hg : b.gone with
        | true => simp [hg] at hk
        | false => exact ⟨k - 1, b, hb, hg, by omega⟩
theorem ord_rise {u : Array Int} (h : Ord 0 u.size u) (hd : u.toList.Nodup) : u.toList.Pairwise (· < ·) := by
  rw [List.pairwise_iff_getElem]
  intro i j hi hj hij
  have hi' : i < u.size := by simpa using hi
  have hj' : j < u.size := by simpa using hj
  have h1 := h i j (Nat.zero_le _) hij hj'
  have h2 := dist_ne hd hi' hj' (by omega)
  rw [getElem!_pos u i hi', getElem!_pos u j hj'] at h1 h2
  simp only [Array.getElem_toList]
  omega

/-! ### collected and put into order -/
/-- What is handed out: a row of words that lies in memory. -/
def RowS (R : List Int) (W : World) (e : Ending) (W' : World) : Prop := ∃ a n c, e = .returned (.slice a n c) ∧ Lot W' 22 1 (.slice a n c) n (R.map uval) ∧ Below W.heap.size W W'

set_option maxRecDepth 100000 in
theorem sorted_row (W : World) (Bm : Nat) (S : List Int → Prop) (N : Nat) (R : List Int) (hR : R.Pairwise (· < ·)) (hN : N < 60000) (hS : ∀ ss, S ss → ss.Nodup ∧ ∀ x, x ∈ ss ↔ x ∈ R) (h : Calls Try.prog 35 #[.func (.func 37) #[] #[.pointer (some ⟨Bm, 0, none⟩)]] W (CollR W S N)) :
    Calls Try.prog 27 #[.func (.func 37) #[] #[.pointer (some ⟨Bm, 0, none⟩)]] W (RowS R W) := by
  have H := Lib.hid h
  have HS := Lib.hid hS
  have HR := Lib.hid hR
  have HN := Lib.hid hN
  clear h hS hR hN
  go_enter Try.func27, Try.ntmps27
  go_wp2_with fail
  refine H.out.mono ?_
  rintro e w1 ⟨v, ss, rfl, h1, h1n, h2, h3, h4⟩
  have HB := Lib.hid h4
  have HSs := Lib.hid (HS.out ss h1)
  clear h1 h4
  rcases h2.2 with ⟨rfl, hz⟩ | ⟨g, cap, cur, rfl, hbase, hb, k1, k2, k3, k4⟩
  · have hss : ss = [] := h3.1 rfl
    subst hss
    have HRe := Lib.hid (show R = [] from by
      rcases hRe : R with _ | ⟨x, r⟩
      · rfl
      · exact absurd ((HSs.out.2 x).2 (by rw [hRe]; simp)) (by simp))
    clear h2 h3 hz
    go_wp2_with fail
    refine (sort_none _ _ _).mono ?_
    rintro e w2 ⟨rfl, rfl⟩
    go_wp2_with fail
    go_ret
    exact ⟨none, 0, 0, rfl, by rw [HRe.out]; exact Lot.nil _ _ _, HB.out⟩
  · have hlen : ss.length < 60000 := by have := HN.out; omega
    have hP : Put w1 g 0 cur.size ss.toArray w1 := ⟨rfl, rfl, rfl, Nat.le_refl _, fun _ _ _ => rfl, cur, hb, rfl, fun j hj => by
      have hj' : j < ss.length := by simpa using hj
      have e1 : (cur.toList.take (ss.length * 1))[j]? = some (.int .u64 ss[j]) := by
        rw [k4, List.getElem?_map, List.getElem?_eq_getElem hj']; rfl
      rw [List.getElem?_take, if_pos (by omega)] at e1
      rw [Nat.zero_add, getElem!_pos ss.toArray j hj]
      simpa using e1⟩
    have HC := Lib.hid (sort_any w1 cap hP (n := ss.length) (by simp) hlen (by simpa using HSs.out.1))
    have HF := Lib.hid (fun (e : Ending) (Y : World) (hr : SortE w1 g 0 cur.size ss.toArray e Y) => (show e = .returned (.tuple #[]) ∧ Lot Y 22 1 (.slice (some ⟨g, 0, none⟩) ss.length cap) ss.length (R.map uval) ∧ Below W.heap.size W Y from by
      obtain ⟨rfl, u, hp, ho, hY⟩ := hr
      have hl : u.size = ss.length := by simpa using hp.length_eq
      have hd : u.toList.Nodup := hp.nodup_iff.2 (by simpa using HSs.out.1)
      have e1 : u.toList = R := rise_ext _ _ (ord_rise (by rw [hl]; simpa using ho) hd) HR.out (fun x => by rw [hp.mem_iff, ← HSs.out.2 x])
      obtain ⟨cs, c1, c2, c3⟩ := hY.row
      refine ⟨rfl, ⟨by rw [← e1]; simp [hl], .inr ⟨g, cap, cs, rfl, c1, k1, k2, by rw [c2, k3]; exact Nat.le_refl _, ?_⟩⟩, HB.out.trans ⟨hY.os, hY.tape, hY.output, hY.size, fun k hk => hY.other k (Nat.lt_of_lt_of_le hk HB.out.size) (by omega)⟩⟩
      apply List.ext_getElem?
      intro j
      by_cases hj : j < ss.length
      · have hju : j < u.size := by omega
        have c := c3 j hju
        rw [Nat.zero_add, getElem!_pos u j hju] at c
        have hRj : (R.map uval)[j]? = some (uval u[j]) := by rw [← e1, List.getElem?_map, List.getElem?_eq_getElem (by simpa using hju)]; simp
        rw [hRj, List.getElem?_take, if_pos (by omega)]
        simpa [uval] using c
      · rw [List.getElem?_eq_none (by simp; omega), List.getElem?_eq_none (by rw [← e1]; simp; omega)]))
    clear h2 h3 hP hb k1 k2 k3 k4 hbase hlen h1n
    go_wp2_with fail
    refine HC.out.mono ?_
    intro e w2 hr
    obtain ⟨rfl, hl, hbl⟩ := HF.out e w2 hr
    have HL := Lib.hid hl
    have HBl := Lib.hid hbl
    clear hr hl hbl
    go_wp2_with fail
    go_ret
    exact ⟨some ⟨g, 0, none⟩, ss.length, cap, rfl, HL.out, HBl.out⟩

theorem sorted_heap {W W1 : World} {B p : Nat} {D : HpD} {f : Nat → Prop} {mb : Option Nat} {g cp : Nat → Nat} (h : HpAt W B p D f mb g cp) (hs : D.L.length ≤ 50000) (hb : Below W.heap.size W W1) (Bm : Nat) (hm : W1.cell? ⟨Bm, 0, none⟩ = some (.map mb)) :
    Calls Try.prog 27 #[.func (.func 37) #[] #[.pointer (some ⟨Bm, 0, none⟩)]] W1 (RowS (rowN 0 D.L) W1) := by
  have h1 := h.below hb
  rcases h1.map with ⟨h0, hno⟩ | ⟨m, h0, D', hM, hat⟩
  · rw [h0] at hm
    refine sorted_row W1 Bm _ 0 _ (rowN_rise 0 D.L) (by omega) (fun ss hs => ?_) (collect_nil W1 Bm hm)
    subst hs
    refine ⟨List.nodup_nil, fun x => ⟨fun h => (by cases h), fun hx => ?_⟩⟩
    rw [hno] at hx
    cases hx
  · rw [h0] at hm
    have hsz : Maps.size D' ≤ 50000 := Nat.le_trans hM.size_le hs
    refine sorted_row W1 Bm (AllKeys D') _ _ (rowN_rise 0 D.L) (by omega) (fun ss hss => ⟨hss.1, fun x => ?_⟩) (collect_map W1 Bm m D.L.length D' hm hM (by omega))
    rw [hss.2 x, rowN_live]
    constructor
    · intro hx
      obtain ⟨hx0, hx1⟩ := key_range hM hx
      have hhas := has_of hat (show x.toNat < 18446744073709551616 by omega)
      rw [Int.toNat_of_nonneg hx0, hx] at hhas
      refine ⟨x.toNat, by omega, ?_⟩
      cases hl : liveAt D.L x.toNat with
      | none => rw [phi_none hl] at hhas; cases hhas
      | some b => rfl
    · rintro ⟨k, rfl, hk⟩
      have hk2 : k < 18446744073709551616 := by
        obtain ⟨j, b, hj, _, e⟩ := (rowN_mem 0 D.L (k : Int)).1 ((rowN_live D.L _).2 ⟨k, rfl, hk⟩)
        have := (List.getElem?_eq_some_iff.1 hj).1
        omega
      rw [has_of hat hk2]
      cases hl : liveAt D.L k with
      | none => rw [hl] at hk; cases hk
      | some b => rw [phi_some hl]; rfl

set_option maxRecDepth 100000 in
theorem blocks_any (W : World) {B p : Nat} {D : HpD} {f : Nat → Prop} (h : Hp W B p D f) (hs : D.L.length ≤ 50000) : Calls Try.prog 17 #[.pointer (some ⟨p, 0, none⟩)] W (RowS (rowN 0 D.L) W) := by
  obtain ⟨mb, g, cp, h⟩ := h
  obtain ⟨c0, _⟩ := h.cells
  have hb := below_alloc W (.cells #[.map mb] 64)
  have HS := Lib.hid (sorted_heap h hs hb W.heap.size ((cell_of (World.alloc_heap_new W _)).trans rfl))
  have HB := Lib.hid hb
  clear h hs hb
  go_enter Try.func17, Try.ntmps17
  go_wp2_with fail
  refine (keysfn_any _ _).mono ?_
  rintro e w1 ⟨rfl, rfl⟩
  go_wp2_with fail
  refine HS.out.mono ?_
  rintro e w2 ⟨a, n, c, rfl, hl, hb2⟩
  have HL := Lib.hid hl
  have HB2 := Lib.hid (HB.out.trans (hb2.mono HB.out.size))
  clear hb2 hl
  go_wp2_with fail
  go_ret
  exact ⟨a, n, c, rfl, HL.out, HB2.out⟩
end Go.Proofs.Ytnfepjolbhnhbaa
