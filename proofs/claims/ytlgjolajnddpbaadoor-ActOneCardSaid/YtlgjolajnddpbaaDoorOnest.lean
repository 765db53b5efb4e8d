/-
  What an act changes: one cell at most, or one block, or the lock; a heap and its copy beside one another.
-/
import Derived.Test.YtlgjolajnddpbaaDoorActblks
import Derived.Test.YtlgjolajnddpbaaDoorActready
import Derived.Test.YtlgjolajnddpbaaDoorHcopy
namespace Go.Proofs.YtlgjolajnddpbaaDoor
open Go Go.RowKit
attribute [local go_sem ↓] Go.wp_at_zero Go.wp_at_succ

/-! ### how many cells differ -/
/-- Of the first k cells of a block, if it has as many in both: those that differ. -/
def dAt (L L1 : List BlkD) (b k : Nat) : Nat := if sizeAt L1 b = sizeAt L b then (List.range k).countP (fun j : Nat => wordAt L b (j : Int) != wordAt L1 b (j : Int)) else 0
/-- Of the first m blocks. -/
def tot (L L1 : List BlkD) (m : Nat) : Nat := (((rowN 0 L).take m).map fun b => dAt L L1 b.toNat (sizeAt L b.toNat)).sum
theorem dAt_zero (L L1 : List BlkD) (b : Nat) : dAt L L1 b 0 = 0 := by unfold dAt; split <;> simp
theorem dAt_succ {L L1 : List BlkD} {b k : Nat} (h : sizeAt L1 b = sizeAt L b) : dAt L L1 b (k + 1) = dAt L L1 b k + (if wordAt L b (k : Int) = wordAt L1 b (k : Int) then 0 else 1) := by
  unfold dAt
  rw [if_pos h, if_pos h, List.range_succ, List.countP_append, List.countP_singleton]
  by_cases e : wordAt L b (k : Int) = wordAt L1 b (k : Int)
  · rw [if_pos e, e]; simp
  · rw [if_neg e]; simp [e]
theorem dAt_off {L L1 : List BlkD} {b : Nat} (k : Nat) (h : sizeAt L1 b ≠ sizeAt L b) : dAt L L1 b k = 0 := by unfold dAt; rw [if_neg h]
theorem dAt_le (L L1 : List BlkD) (b k : Nat) : dAt L L1 b k ≤ k := by
  unfold dAt
  split
  · exact Nat.le_trans List.countP_le_length (by simp)
  · exact Nat.zero_le _
theorem dAt_same {L L1 : List BlkD} {b : Nat} (k : Nat) (h : liveAt L1 b = liveAt L b) : dAt L L1 b k = 0 := by
  unfold dAt
  split
  · rw [List.countP_eq_zero]
    intro j _
    unfold wordAt
    rw [h]
    simp
  · rfl
theorem tot_zero {L L1 : List BlkD} : tot L L1 0 = 0 := by simp [tot]
theorem tot_succ {L L1 : List BlkD} {i : Nat} {b : Int} (h : (rowN 0 L)[i]? = some b) : tot L L1 (i + 1) = tot L L1 i + dAt L L1 b.toNat (sizeAt L b.toNat) := by
  unfold tot
  rw [List.take_add_one, h, Option.toList_some, List.map_append, List.sum_append]
  simp
theorem tot_none {L L1 : List BlkD} (h : ∀ b ∈ rowN 0 L, dAt L L1 b.toNat (sizeAt L b.toNat) = 0) (m : Nat) : tot L L1 m = 0 := by
  unfold tot
  have : ∀ l : List Int, (∀ b ∈ l, dAt L L1 b.toNat (sizeAt L b.toNat) = 0) → (l.map fun b => dAt L L1 b.toNat (sizeAt L b.toNat)).sum = 0 := by
    intro l
    induction l with
    | nil => intro _; simp
    | cons a t ih =>
      intro hl
      rw [List.map_cons, List.sum_cons, hl a (by simp), ih (fun b hb => hl b (by simp [hb]))]
  exact this _ (fun b hb => h b (List.mem_of_mem_take hb))
theorem tot_one {L L1 : List BlkD} {k : Nat} (h : ∀ b ∈ rowN 0 L, b ≠ (k : Int) → dAt L L1 b.toNat (sizeAt L b.toNat) = 0) (hk : dAt L L1 k (sizeAt L k) ≤ 1) (m : Nat) : tot L L1 m ≤ 1 := by
  unfold tot
  have key : ∀ l : List Int, l.Pairwise (· < ·) → (∀ b ∈ l, b ≠ (k : Int) → dAt L L1 b.toNat (sizeAt L b.toNat) = 0) → (l.map fun b => dAt L L1 b.toNat (sizeAt L b.toNat)).sum ≤ 1 ∧ ((∀ b ∈ l, b ≠ (k : Int)) → (l.map fun b => dAt L L1 b.toNat (sizeAt L b.toNat)).sum = 0) := by
    intro l
    induction l with
    | nil => intro _ _; simp
    | cons a t ih =>
      intro hp hl
      obtain ⟨ha, ht⟩ := List.pairwise_cons.1 hp
      obtain ⟨h1, h2⟩ := ih ht (fun b hb => hl b (by simp [hb]))
      rw [List.map_cons, List.sum_cons]
      by_cases e : a = (k : Int)
      · have h3 := h2 (fun b hb e' => by have := ha b hb; omega)
        rw [h3]
        subst e
        refine ⟨by simpa using hk, fun hn => absurd rfl (hn _ (by simp))⟩
      · have h4 := hl a (by simp) e
        rw [h4]
        exact ⟨by omega, fun hn => by rw [h2 (fun b hb => hn b (by simp [hb]))]⟩
  exact (key _ ((rowN_rise 0 L).sublist (List.take_sublist _ _)) (fun b hb => h b (List.mem_of_mem_take hb))).1

theorem rowN_set (i : Nat) (L : List BlkD) (j : Nat) (x b : BlkD) (h : L[j]? = some b) (hg : x.gone = b.gone) : rowN i (L.set j x) = rowN i L := by
  induction L generalizing i j with
  | nil => simp at h
  | cons a t ih =>
    cases j with
    | zero =>
      simp at h
      subst h
      simp only [List.set_cons_zero, rowN, hg]
    | succ j =>
      simp only [List.set_cons_succ, rowN]
      rw [ih (i + 1) j (by simpa using h)]

/-- One cell at most. -/
theorem word_one {D : HpD} {k : Nat} {i u : Int} : (rowN 0 (D.word k i u).L).length = (rowN 0 D.L).length ∧ (D.word k i u).locked = D.locked ∧ ∀ m, tot D.L (D.word k i u).L m ≤ 1 := by
  unfold HpD.word
  cases hb : liveAt D.L k with
  | none => exact ⟨rfl, rfl, fun m => by rw [tot_none (fun b _ => dAt_same _ rfl)]; omega⟩
  | some b =>
    obtain ⟨h1, h2, h3, h4⟩ := liveAt_some hb
    refine ⟨?_, rfl, fun m => ?_⟩
    · show (rowN 0 (D.L.set (k - 1) _)).length = _
      rw [rowN_set 0 D.L (k - 1) _ b h3 (by rw [h4])]
    · have hL : ∀ k', liveAt (D.at k ⟨b.ws.set i.toNat u, b.text, false⟩).L k' = if k' = k then some ⟨b.ws.set i.toNat u, b.text, false⟩ else liveAt D.L k' := fun k' => by
        show liveAt (D.L.set (k - 1) _) k' = _
        rw [liveAt_set D.L k k' _ h1 h2]
        simp
      refine tot_one (k := k) (fun b' hb' hne => ?_) ?_ m
      · refine dAt_same _ ?_
        obtain ⟨j, rfl, _⟩ := (rowN_live D.L b').1 hb'
        rw [hL, if_neg (by simp only [Int.toNat_natCast]; omega)]
      · have hw : ∀ j : Nat, (wordAt D.L k (j : Int) != wordAt (D.at k ⟨b.ws.set i.toNat u, b.text, false⟩).L k (j : Int)) = true → j = i.toNat := fun j hj => by
          unfold wordAt at hj
          rw [hL, if_pos rfl, hb] at hj
          simp only [Int.toNat_natCast, bne_iff_ne, ne_eq] at hj
          rcases Nat.decEq j i.toNat with hne | he
          · refine absurd ?_ hj
            simp only [List.getD_eq_getElem?_getD, List.getElem?_set_ne (Ne.symm hne)]
          · exact he
        show dAt D.L (D.at k ⟨b.ws.set i.toNat u, b.text, false⟩).L k (sizeAt D.L k) ≤ 1
        unfold dAt
        split
        · refine Nat.le_trans (List.countP_mono_left (q := fun j => j == i.toNat) (fun j _ hj => by have := hw j hj; simp [this])) ?_
          exact List.nodup_iff_count.1 List.nodup_range _
        · omega
/-- A block goes. -/
theorem lose_one {D : HpD} {k : Nat} : (D.lose k).locked = D.locked ∧ ∀ m, tot D.L (D.lose k).L m = 0 := by
  unfold HpD.lose
  cases hb : liveAt D.L k with
  | none => exact ⟨rfl, fun m => tot_none (fun b _ => dAt_same _ rfl) m⟩
  | some b =>
    obtain ⟨h1, h2, h3, h4⟩ := liveAt_some hb
    refine ⟨rfl, fun m => tot_none (fun b' hb' => ?_) m⟩
    have hL : ∀ k', liveAt (D.at k ⟨b.ws, b.text, true⟩).L k' = if k' = k then none else liveAt D.L k' := fun k' => by
      show liveAt (D.L.set (k - 1) _) k' = _
      rw [liveAt_set D.L k k' _ h1 h2]
      simp
    obtain ⟨j, rfl, _⟩ := (rowN_live D.L b').1 hb'
    simp only [Int.toNat_natCast]
    by_cases e : j = k
    · have hs : sizeAt (D.at k ⟨b.ws, b.text, true⟩).L j = 0 := by unfold sizeAt; rw [hL, if_pos e]
      by_cases hz : sizeAt D.L j = 0
      · rw [hz]; exact dAt_zero _ _ _
      · exact dAt_off _ (by rw [hs]; exact Ne.symm hz)
    · exact dAt_same _ (by rw [hL, if_neg e])
/-- A block comes. -/
theorem add_one {D : HpD} {x : BlkD} : (D.add x).locked = D.locked ∧ ∀ m, tot D.L (D.add x).L m = 0 := by
  refine ⟨rfl, fun m => tot_none (fun b' hb' => ?_) m⟩
  obtain ⟨j, rfl, hj⟩ := (rowN_live D.L b').1 hb'
  simp only [Int.toNat_natCast]
  refine dAt_same _ ?_
  show liveAt (D.L ++ [x]) j = _
  rw [liveAt_snoc, if_neg]
  intro e
  rw [liveAt_big (by omega)] at hj
  cases hj

/-- How much an act changes. -/
def costA (D D1 : HpD) : Nat := (if (rowN 0 D.L).length = (rowN 0 D1.L).length then 0 else 1) + (if D.locked = D1.locked then 0 else 1)
theorem cost_same {D D1 : HpD} (hL : D1.L = D.L) (hk : D1.locked = D.locked) (m : Nat) : costA D D1 + tot D.L D1.L m = 0 := by
  unfold costA
  rw [hL, hk, if_pos rfl, if_pos rfl, tot_none (fun b _ => dAt_same _ rfl)]
theorem cost_lock {D D1 : HpD} (hL : D1.L = D.L) (m : Nat) : costA D D1 + tot D.L D1.L m ≤ 1 := by
  unfold costA
  rw [hL, if_pos rfl, tot_none (fun b _ => dAt_same _ rfl)]
  split <;> omega
theorem cost_word (D : HpD) (k : Nat) (i u : Int) (m : Nat) : costA D (D.word k i u) + tot D.L (D.word k i u).L m ≤ 1 := by
  obtain ⟨h1, h2, h3⟩ := word_one (D := D) (k := k) (i := i) (u := u)
  have := h3 m
  unfold costA
  rw [h1, h2, if_pos rfl, if_pos rfl]
  omega
theorem cost_turn {D D1 : HpD} (h1 : D1.locked = D.locked) (h2 : ∀ m, tot D.L D1.L m = 0) (m : Nat) : costA D D1 + tot D.L D1.L m ≤ 1 := by
  unfold costA
  rw [h1, if_pos rfl, h2 m]
  split <;> omega
theorem le_of_zero {n : Nat} (h : n = 0) : n ≤ 1 := by omega
theorem act_one (D : HpD) (x : ActD) (m : Nat) : costA D (actN D x) + tot D.L (actN D x).L m ≤ 1 := by
  unfold actN
  split
  · unfold loadD; split
    · exact le_of_zero (cost_same rfl rfl m)
    · exact le_of_zero (cost_same rfl rfl m)
  split
  · unfold storeD; split
    · exact cost_word ..
    · exact le_of_zero (cost_same rfl rfl m)
  split
  · unfold swapD; split
    · split
      · exact cost_word ..
      · exact le_of_zero (cost_same rfl rfl m)
    · exact le_of_zero (cost_same rfl rfl m)
  split
  · unfold bumpD; split
    · exact cost_word ..
    · exact le_of_zero (cost_same rfl rfl m)
  split
  · unfold makeD; split
    · exact cost_turn add_one.1 add_one.2 m
    · exact le_of_zero (cost_same rfl rfl m)
  split
  · unfold wordsD; split
    · exact le_of_zero (cost_same rfl rfl m)
    · exact le_of_zero (cost_same rfl rfl m)
  split
  · unfold dropD; split
    · exact cost_turn lose_one.1 lose_one.2 m
    · exact le_of_zero (cost_same rfl rfl m)
  split
  · exact cost_lock (D := D) (D1 := D.lock true) rfl m
  split
  · unfold unlockD; split
    · exact cost_lock (D := D) (D1 := D.lock false) rfl m
    · exact le_of_zero (cost_same rfl rfl m)
  · exact le_of_zero (cost_same rfl rfl m)
theorem do_one (D : HpD) (x : ActD) (m : Nat) : costA D (doN D x) + tot D.L (doN D x).L m ≤ 1 := by
  unfold doN
  split
  · exact act_one D x m
  · exact le_of_zero (cost_same rfl rfl m)
theorem looks_one (D : HpD) (x : ActD) (h : looksA x = true) (m : Nat) : costA D (doN D x) + tot D.L (doN D x).L m = 0 := by
  unfold looksA at h
  simp only [Bool.and_eq_true, Bool.or_eq_true, beq_iff_eq] at h
  obtain ⟨hk, hr⟩ := h
  unfold doN
  rw [if_pos hr]
  unfold actN
  rcases hk with (hk | hk) | hk
  · rw [if_pos (.inl hk)]
    unfold loadD; split
    · exact cost_same rfl rfl m
    · exact cost_same rfl rfl m
  · rw [if_pos (.inr hk)]
    unfold loadD; split
    · exact cost_same rfl rfl m
    · exact cost_same rfl rfl m
  · rw [if_neg (by omega), if_neg (by omega), if_neg (by omega), if_neg (by omega), if_neg (by omega), if_pos hk]
    unfold wordsD; split
    · exact cost_same rfl rfl m
    · exact cost_same rfl rfl m

theorem rowN_len (i : Nat) (L : List BlkD) : (rowN i L).length ≤ L.length := by
  induction L generalizing i with
  | nil => simp [rowN]
  | cons a t ih =>
    have := ih (i + 1)
    simp only [rowN, List.length_cons]
    cases a.gone <;> simp <;> omega

/-! ### a heap and its copy -/
set_option maxRecDepth 100000 in
set_option maxHeartbeats 1000000 in
/-- A load of what is there makes no more than room. -/
theorem load_good {B p : Nat} {D : HpD} {f : Nat → Prop} (W : World) (h : Hp W B p D f) (k : Nat) (hk : k < 18446744073709551616) (i : Int) (hs : spot D.L k i = 0) :
    Calls Tryd.prog 28 #[.pointer (some ⟨p, 0, none⟩), .int .u64 (k : Int), .int .i64 i] W fun e W' => e = .returned (TwoV (wordAt D.L k i) 0) ∧ Below W.heap.size W W' := by
  obtain ⟨mb, g, cp, h⟩ := h
  obtain ⟨z, hz⟩ : ∃ z, (k : Int) = z := ⟨_, rfl⟩
  obtain ⟨b, j, hb, rfl, hj⟩ := spot_zero hs
  have HC := Lib.hid (cell_hit W h k hk b hb j hj)
  have HW := Lib.hid (fun Y hY => ((h.below (W' := Y) hY).setWord hb j hj 0).1)
  rw [wordAt_hit hb hj]
  obtain ⟨u, hu⟩ : ∃ u, b.ws[j] = u := ⟨_, rfl⟩
  obtain ⟨q, hq⟩ : ∃ q, g k = q := ⟨_, rfl⟩
  unfold uval at HW
  rw [hu, hq] at HW
  rw [hq] at HC
  rw [hz] at HC ⊢
  rw [hu]
  clear hu hq hz hs hb hj hk h
  go_enter Tryd.func28, Tryd.ntmps28
  go_wp2_with fail
  refine HC.out.mono ?_
  rintro en w1 ⟨rfl, hb1⟩
  have HB := Lib.hid hb1
  have hc := HW.out _ hb1
  clear hb1
  go_wp2_with fail
  go_ret2
  exact ⟨rfl, HB.out⟩

/-- Two heaps of the program, apart; nothing that lay at first has turned. -/
def Both (B : Nat) (W : World) (p c : Nat) (D D' : HpD) (X : World) : Prop := ∃ f g, Hp X B p D f ∧ Hp X B c D' g ∧ (∀ k, f k → ¬ g k) ∧ Below B W X
section
variable {W X Y : World} {B p c : Nat} {D D' : HpD}
theorem Both.swap (h : Both B W p c D D' X) : Both B W c p D' D X := by
  obtain ⟨f, g, h1, h2, h3, h4⟩ := h
  exact ⟨g, f, h2, h1, fun k hk hk' => h3 k hk' hk, h4⟩
theorem Both.below (h : Both B W p c D D' X) (hb : Below X.heap.size X Y) : Both B W p c D D' Y := by
  obtain ⟨f, g, h1, h2, h3, h4⟩ := h
  exact ⟨f, g, h1.below hb, h2.below hb, h3, h4.trans (hb.mono h1.size)⟩
theorem Both.low (h : Both B W p c D D' X) : Below B W X := by obtain ⟨_, _, _, _, _, h⟩ := h; exact h
theorem Both.turn {D1 : HpD} {f g f1 : Nat → Prop} (h1 : Hp X B p D f) (h2 : Hp X B c D' g) (h3 : ∀ k, f k → ¬ g k) (h4 : Below B W X) (hp : Hp Y B p D1 f1) (hs : Step f f1 X Y) : Both B W p c D1 D' Y :=
  ⟨f1, g, hp, h2.stays (fun k hk => hs.block k (h2.lt k hk) (fun hf => h3 k hf hk)), fun k hk hk' => (hs.foot k hk).elim (fun hf => h3 k hf hk') (fun hge => by have := h2.lt k hk'; omega), h4.trans (hs.below h1.size h1.base)⟩
theorem both_start {f : Nat → Prop} (h : Hp X B p D f) (hl : Below B W X) : Calls Tryd.prog 26 #[.pointer (some ⟨p, 0, none⟩)] X fun e Y => ∃ c, e = .returned (.pointer (some ⟨c, 0, none⟩)) ∧ Both B W p c D D Y := by
  refine (copy_any h).mono fun e Y hr => ?_
  obtain ⟨c, fc, rfl, hc, hb⟩ := hr
  obtain ⟨mb, g, cp, hc'⟩ := hc
  refine ⟨c, rfl, f, fc, h.below hb, ⟨mb, g, cp, hc'.own, hc'.map, hc'.lie, hc'.apart, hc'.foot, fun k hk => Nat.le_trans h.size (hc'.base k hk), hc'.many, hc'.fits⟩, fun k hk hk' => ?_, hl.trans (hb.mono h.size)⟩
  have := h.lt k hk
  have := hc'.base k hk'
  omega
theorem both_do (h : Both B W p c D D' X) (hf : D.faults < 1000000) (hl : D.L.length < 1000000) (x : ActD) (hx : x.fits) :
    Calls Tryd.prog 15 #[.pointer (some ⟨p, 0, none⟩), actV x.kind x.block x.cell x.old x.new x.text] X fun e Y => e = .returned (gotV (doW D x) (doT D x)) ∧ Both B W p c (doN D x) D' Y := by
  obtain ⟨f, g, h1, h2, h3, h4⟩ := h
  refine (do_any X h1 hf hl x hx).mono fun e Y hr => ?_
  obtain ⟨f1, rfl, hp, hs⟩ := hr
  exact ⟨rfl, Both.turn h1 h2 h3 h4 hp hs⟩
theorem both_load (h : Both B W p c D D' X) (k : Nat) (hk : k < 18446744073709551616) (i : Nat) (hi : i < sizeAt D.L k) :
    Calls Tryd.prog 28 #[.pointer (some ⟨p, 0, none⟩), .int .u64 (k : Int), .int .i64 (i : Int)] X fun e Y => e = .returned (TwoV (wordAt D.L k (i : Int)) 0) ∧ Below X.heap.size X Y := by
  obtain ⟨f, g, h1, h2, h3, h4⟩ := h
  exact load_good X h1 k hk (i : Int) (load_there (D := D) (k := k) (i := (i : Int)) (by omega) (by omega)).1
theorem both_size {s : Nat} (h : Both B W p c D D' X) (k : Nat) (hk : k < 18446744073709551616) (hs : sizeAt D.L k = s) : Calls Tryd.prog 27 #[.pointer (some ⟨p, 0, none⟩), .int .u64 (k : Int)] X fun e Y => e = .returned (.int .i64 (s : Int)) ∧ X = Y := by
  subst hs
  obtain ⟨f, g, h1, _⟩ := h
  exact size_any X h1 k hk
theorem both_locked {l : Bool} (h : Both B W p c D D' X) (hk : D.locked = l) : Calls Tryd.prog 18 #[.pointer (some ⟨p, 0, none⟩)] X fun e Y => e = .returned (.bool l) ∧ X = Y := by
  subst hk
  obtain ⟨f, g, h1, _⟩ := h
  exact locked_any X h1
theorem both_blocks {nl : Nat} (h : Both B W p c D D' X) (hs : D.L.length ≤ 200) (hk : (rowN 0 D.L).length = nl) : Calls Tryd.prog 20 #[.pointer (some ⟨p, 0, none⟩)] X fun e Y => ∃ a c, e = .returned (.slice a nl c) ∧ Lot Y 32 1 (.slice a nl c) nl ((rowN 0 D.L).map uval) ∧ Below X.heap.size X Y := by
  obtain ⟨f, g, h1, _⟩ := h
  refine (blocks_any X h1 hs).mono fun e Y hr => ?_
  obtain ⟨a, n, c, rfl, hl, hb⟩ := hr
  have e1 : (rowN 0 D.L).length = n := by have := hl.1; simpa using this
  obtain rfl : n = nl := by omega
  exact ⟨a, c, rfl, hl, hb⟩
theorem both_small (h : Both B W p c D D' X) (k : Nat) : sizeAt D.L k ≤ 256 := by
  obtain ⟨f, g, ⟨mb, gg, cp, h1⟩, _⟩ := h
  unfold sizeAt
  cases hb : liveAt D.L k with
  | none => simp
  | some b => exact (h1.fits k b hb).1
end
end Go.Proofs.YtlgjolajnddpbaaDoor
