/-
  The reference's Take.
-/
import Derived.Test.YtofkllokmecfgaaRefs15
namespace Go.Proofs.Ytofkllokmecfgaa
open Go Go.RowKit
attribute [local go_sem ↓] Go.wp_at_zero Go.wp_at_succ

def outL (L : List ChD) (k i : Nat) : List ChD := (L.take i).take k
def leftL (L : List ChD) (k i : Nat) : List ChD := (L.take i).drop k
theorem out_lt {L : List ChD} {k i : Nat} (h : i < k) (hi : i < L.length) : outL L k (i + 1) = outL L k i ++ [L[i]] ∧ leftL L k (i + 1) = leftL L k i := by
  unfold outL leftL
  have h1 : (L.take i).length = i := by rw [List.length_take]; omega
  have h2 : (L.take (i + 1)).length = i + 1 := by rw [List.length_take]; omega
  constructor
  · have e1 : (L.take (i + 1)).take k = L.take (i + 1) := List.take_of_length_le (by omega)
    have e2 : (L.take i).take k = L.take i := List.take_of_length_le (by omega)
    rw [e1, e2, List.take_succ_eq_append_getElem hi]
  · rw [List.drop_of_length_le (by omega), List.drop_of_length_le (by omega)]
theorem out_ge {L : List ChD} {k i : Nat} (h : k ≤ i) (hi : i < L.length) : outL L k (i + 1) = outL L k i ∧ leftL L k (i + 1) = leftL L k i ++ [L[i]] := by
  unfold outL leftL
  have h1 : (L.take i).length = i := by rw [List.length_take]; omega
  constructor
  · rw [List.take_take, List.take_take, Nat.min_eq_left (by omega), Nat.min_eq_left (by omega)]
  · rw [List.take_succ_eq_append_getElem hi, List.drop_append_of_le_length (by omega)]
theorem outL_len {L : List ChD} {k i : Nat} (hi : i ≤ L.length) : (outL L k i).length = min k i := by
  unfold outL; rw [List.length_take, List.length_take, Nat.min_eq_left hi]
theorem leftL_len {L : List ChD} {k i : Nat} (hi : i ≤ L.length) : (leftL L k i).length = i - k := by
  unfold leftL; rw [List.length_drop, List.length_take, Nat.min_eq_left hi]

/-- Two rows that the call itself lays. -/
structure TwoI (B : Nat) (W : World) (ov lv : Value) (T S : List ChD) (X : World) : Prop where
  r1 : RowI B W ov T X
  r2 : RowI B W lv S X
  ap : ∀ k, ov.ownBlock = some k → lv.ownBlock ≠ some k
theorem TwoI.below {B : Nat} {W X Y : World} {ov lv : Value} {T S : List ChD} (h : TwoI B W ov lv T S X) (hb : Below X.heap.size X Y) : TwoI B W ov lv T S Y := ⟨h.r1.below hb, h.r2.below hb, h.ap⟩
theorem TwoI.start {B : Nat} {W X : World} (h : Below B W X) (hs : B ≤ X.heap.size) :
    TwoI B W (.slice (some ⟨X.heap.size, 0, none⟩) 0 0) (.slice (some ⟨X.heap.size + 1, 0, none⟩) 0 0) [] [] ((X.alloc (.cells #[] 31)).alloc (.cells #[] 31)) := by
  have h1 := RowI.start h hs
  have h2 := RowI.start h1.low h1.size
  rw [World.size_alloc] at h2
  refine ⟨h1.below (below_alloc _ _), h2, fun k hk e => ?_⟩
  obtain rfl : X.heap.size = k := by simpa [Value.ownBlock] using hk
  simp [Value.ownBlock] at e
theorem TwoI.grow1 {B : Nat} {W X Y : World} {ov lv : Value} {T S U : List ChD} {g n cap : Nat} (h : TwoI B W ov lv T S X) (hn : (T ++ U).length = n) (hL : Lot Y 31 3 (.slice (some ⟨g, 0, none⟩) n cap) n (flatC T ++ flatC U)) (hg : X.grownBy Y ov.ownBlock) (hat : ov.ownBlock = some g ∨ g = X.heap.size) :
    TwoI B W (.slice (some ⟨g, 0, none⟩) n cap) lv (T ++ U) S Y := by
  have h1 := h.r1.grow hn hL hg hat
  refine ⟨h1, ⟨h.r2.lot.stays (fun k hk => hg.block k (h.r2.lot.lt k hk) (fun e => h.ap k e.symm hk)), h.r2.base, h1.low, h1.size⟩, fun k hk e => ?_⟩
  obtain rfl : g = k := by simpa [Value.ownBlock] using hk
  rcases hat with h0 | h0
  · exact h.ap _ h0 e
  · subst h0; exact absurd (h.r2.lot.lt _ e) (Nat.lt_irrefl _)
theorem TwoI.grow2 {B : Nat} {W X Y : World} {ov lv : Value} {T S U : List ChD} {g n cap : Nat} (h : TwoI B W ov lv T S X) (hn : (S ++ U).length = n) (hL : Lot Y 31 3 (.slice (some ⟨g, 0, none⟩) n cap) n (flatC S ++ flatC U)) (hg : X.grownBy Y lv.ownBlock) (hat : lv.ownBlock = some g ∨ g = X.heap.size) :
    TwoI B W ov (.slice (some ⟨g, 0, none⟩) n cap) T (S ++ U) Y := by
  have h1 := h.r2.grow hn hL hg hat
  refine ⟨⟨h.r1.lot.stays (fun k hk => hg.block k (h.r1.lot.lt k hk) (fun e => h.ap k hk e.symm)), h.r1.base, h1.low, h1.size⟩, h1, fun k hk e => ?_⟩
  obtain rfl : g = k := by simpa [Value.ownBlock] using e
  rcases hat with h0 | h0
  · exact h.ap _ hk h0
  · subst h0; exact absurd (h.r1.lot.lt _ hk) (Nat.lt_irrefl _)

theorem reftake_gone (most : Nat) (p : Option Addr) (c : Nat) (n : Int) (W : World) :
    Calls Try.prog 11 #[.agg #[.int .i64 most, .slice p (0 : Nat) c, .bool true], .int .i64 n] W fun e W' => e = .returned (.tuple #[.agg #[.int .i64 most, .slice p (0 : Nat) c, .bool true], .slice none 0 0, .bool false]) ∧ Below W.heap.size W W' := by
  have HB := Lib.hid ((below_alloc W (.cells #[.int .i64 most, .slice p (0 : Nat) c, .bool true] 28)).alloc (by simp) (.cells #[.int .i64 most, .slice p (0 : Nat) c, .bool true] 28))
  go_enter Try.func11, Try.ntmps11
  go_wp2
  refine bodyPost_ret (v := .tuple #[.agg #[.int .i64 most, .slice p (0 : Nat) c, .bool true], .slice none 0 0, .bool false]) (by rw [results_cell3 (by rfl)]; go_simp) rfl ?_
  exact ⟨rfl, HB.out⟩

/-- What the reference's Take leaves. -/
def TakenF (most : Nat) (ov : Bool) (L : List ChD) (k : Nat) (W : World) (e : Ending) (W' : World) : Prop :=
  ∃ p1 n1 c1 p2 c2, (L.drop k ≠ [] → Fresh W p1) ∧ (L.take k ≠ [] → Fresh W p2) ∧ e = .returned (.tuple #[.agg #[.int .i64 most, .slice p1 n1 c1, .bool ov], .slice p2 k c2, .bool true]) ∧ Sc W' p1 (L.drop k) ∧ (L.drop k).length = n1 ∧ Sc W' p2 (L.take k) ∧ Below W.heap.size W W'

set_option maxRecDepth 100000 in
set_option maxHeartbeats 4000000 in
theorem reftake_any (most : Nat) (p : Option Addr) (m c : Nat) (ov : Bool) (L : List ChD) (n : Int) (W : World) (h : Sc W p L) (hm : L.length = m) (hm2 : m ≤ 1000) (hno : ov = true → L ≠ []) :
    Calls Try.prog 11 #[.agg #[.int .i64 most, .slice p m c, .bool ov], .int .i64 n] W (TakenF most ov L (takeN n L.length) W) := by
  have hgo : ov = true ∧ 0 < m ∨ ov = false := by
    cases ov
    · exact .inr rfl
    · refine .inl ⟨rfl, ?_⟩
      rcases Nat.eq_zero_or_pos m with h0 | h0
      · exact absurd (List.eq_nil_of_length_eq_zero (by omega)) (hno rfl)
      · exact h0
  obtain ⟨k, hk⟩ : ∃ k, takeN n L.length = k := ⟨_, rfl⟩
  have hkm : k ≤ m := by rw [← hk, ← hm]; exact takeN_le _ _
  have hin : ∀ i : Nat, i < m → ((i : Int) < n ↔ i < k) := fun i hi => by rw [← hk, hm]; unfold takeN; omega
  rw [hk]
  have HIn := Lib.hid hin
  have HS := Lib.hid (fun X (hX : Below W.heap.size W X) => h.grow hX)
  have HM := Lib.hid hm
  clear h hm hno hin hk
  obtain ⟨W2, hW2⟩ : ∃ X, (W.alloc (.cells #[.int .i64 most, .slice p m c, .bool ov] 28)).alloc (.cells #[.int .i64 0, .slice none 0 0, .bool false] 28) = X := ⟨_, rfl⟩
  have hz2 : W2.heap.size = W.heap.size + 1 + 1 := by rw [← hW2]; simp
  have hb : Below W.heap.size W W2 := by rw [← hW2]; exact (below_alloc W _).alloc (by simp) _
  have k1 : W2.heap[W.heap.size]? = some (.cells #[.int .i64 most, .slice p m c, .bool ov] 28 (0, 0)) := by
    rw [← hW2]; exact (Below.heap_alloc _ _ _ (by simp)).trans (World.alloc_heap_new W _)
  have k2 : W2.heap[W.heap.size + 1]? = some (.cells #[.int .i64 0, .slice none 0 0, .bool false] 28 (0, 0)) := by
    rw [← hW2]
    have h1 := World.alloc_heap_new (W.alloc (.cells #[.int .i64 most, .slice p m c, .bool ov] 28)) (.cells #[.int .i64 0, .slice none 0 0, .bool false] 28)
    rwa [World.size_alloc] at h1
  have HX := Lib.hid (show ∀ X, Below W2.heap.size W2 X → X.cell? ⟨W.heap.size, 0, none⟩ = some (.int .i64 most) ∧ X.cell? ⟨W.heap.size, 1, none⟩ = some (.slice p m c) ∧ X.cell? ⟨W.heap.size, 2, none⟩ = some (.bool ov) ∧ X.frozen? ⟨W.heap.size, 1, none⟩ = false from fun X hX => by
    have e1 := (hX.block W.heap.size (by omega)).trans k1
    exact ⟨(cell_of e1).trans rfl, (cell_of e1).trans rfl, (cell_of e1).trans rfl, by simp [World.frozen?, e1]⟩)
  have HX3 := Lib.hid (show ∀ X, Below W2.heap.size W2 X → X.cell? ⟨W.heap.size + 1, 0, none⟩ = some (.int .i64 0) ∧ X.cell? ⟨W.heap.size + 1, 1, none⟩ = some (.slice none 0 0) ∧ X.cell? ⟨W.heap.size + 1, 2, none⟩ = some (.bool false) ∧ X.frozen? ⟨W.heap.size + 1, 0, none⟩ = false ∧ X.frozen? ⟨W.heap.size + 1, 1, none⟩ = false ∧ X.frozen? ⟨W.heap.size + 1, 2, none⟩ = false from fun X hX => by
    have e1 := (hX.block (W.heap.size + 1) (by omega)).trans k2
    exact ⟨(cell_of e1).trans rfl, (cell_of e1).trans rfl, (cell_of e1).trans rfl, by simp [World.frozen?, e1], by simp [World.frozen?, e1], by simp [World.frozen?, e1]⟩)
  have HB := Lib.hid hb
  have HZ2 := Lib.hid hz2
  have H0 := Lib.hid (show TwoI (W.heap.size + 1 + 1) W2 (.slice (some ⟨W2.heap.size, 0, none⟩) 0 0) (.slice (some ⟨W2.heap.size + 1, 0, none⟩) 0 0) [] [] ((W2.alloc (.cells #[] 31)).alloc (.cells #[] 31)) from by
    have := TwoI.start (Below.refl W2.heap.size W2) (Nat.le_refl _)
    rw [hz2] at this ⊢
    exact this)
  obtain ⟨q0, q1, q2, q3⟩ := HX.out _ (Below.refl _ _)
  obtain ⟨i0, gi, gz0, gz1, gz2⟩ := info_parts info_change
  clear hb k1 k2 hz2
  rcases hgo with ⟨rfl, hpos⟩ | rfl
  · have hz : ((m : Int) == 0) = false := by rw [beq_eq_false_iff_ne]; omega
    go_enter Try.func11, Try.ntmps11
    go_wp2
    clear q0 q1 q2 q3
    go_loopw [7, 8, 9] (fun a b i wr => ∃ j : Nat, i = .int .i64 j ∧ j ≤ m ∧ Hid (TwoI (W.heap.size + 1 + 1) W2 a b (outL L k j) (leftL L k j) wr)) (fun _ _ i _ => m - (intOf i).toNat)
    case atStart => exact ⟨0, rfl, Nat.zero_le _, by simpa [outL, leftL] using H0⟩
    case round =>
      clear H0 hW2
      obtain ⟨j, rfl, hjm, hI⟩ := hrel
      have hlow : Below W2.heap.size W2 wr := by rw [HZ2.out]; exact hI.out.r1.low
      have HLow := Lib.hid hlow
      obtain ⟨q0, q1, q2, q3⟩ := HX.out _ hlow
      obtain ⟨oa, oc, rfl⟩ := hI.out.r1.form
      obtain ⟨la, lc, rfl⟩ := hI.out.r2.form
      have hjL : j ≤ L.length := by rw [HM.out]; exact hjm
      have hol := outL_len (k := k) hjL
      have hll := leftL_len (k := k) hjL
      obtain ⟨no, hno⟩ : ∃ no, (outL L k j).length = no := ⟨_, rfl⟩
      obtain ⟨nl, hnl⟩ : ∃ nl, (leftL L k j).length = nl := ⟨_, rfl⟩
      have HI := Lib.hid (show TwoI (W.heap.size + 1 + 1) W2 (.slice oa no oc) (.slice la nl lc) (outL L k j) (leftL L k j) wr from by have := hI.out; rw [hno, hnl] at this; exact this)
      rw [hno, hnl]
      rw [hno] at hol
      rw [hnl] at hll
      have HNo := Lib.hid hno
      have HNl := Lib.hid hnl
      have HOl := Lib.hid hol
      have HLl := Lib.hid hll
      clear hI hlow hno hnl hjL hol hll
      by_cases hlt : j < m
      · have hkL : j < L.length := by rw [HM.out]; exact hlt
        have hltz : (j : Int) < (m : Int) := by omega
        have h0 : (0 : Int) ≤ (j : Int) := by omega
        obtain ⟨b, o, rfl, c1, c2, c3⟩ := HS.out _ (HB.out.trans (HLow.out.mono HB.out.size)) j hkL
        obtain ⟨⟨yk, yh, yv⟩, hy⟩ : ∃ y, L[j] = y := ⟨_, rfl⟩
        rw [hy] at c1 c2 c3
        simp only at c1 c2 c3
        have HI2 := Lib.hid (HI.out.below (below_alloc wr (.cells #[.string yk, .bool yh, .string yv] 31)))
        by_cases hjk : j < k
        · have hcmp : (j : Int) < n := (HIn.out j hlt).2 hjk
          have hsn := Lib.hid (show outL L k (j + 1) = outL L k j ++ [⟨yk, yh, yv⟩] ∧ leftL L k (j + 1) = leftL L k j from by rw [← hy]; exact out_lt hjk hkL)
          have HL2 := Lib.hid (show Lot (wr.alloc (.cells #[.string yk, .bool yh, .string yv] 31)) 31 3 (.slice oa no oc) no (flatC (outL L k j)) from by have := HI2.out.r1.lot; rwa [HNo.out] at this)
          have hnn := Lib.hid (show (outL L k j ++ [(⟨yk, yh, yv⟩ : ChD)]).length = no + 1 from by rw [List.length_append, HNo.out]; rfl)
          have hmx : no + 1 ≤ maxLen := by have := HOl.out; unfold maxLen; omega
          have hmb : (no + 1) * 40 ≤ 140737488355328 := by have := HOl.out; omega
          clear hy hkL
          go_wp2_with (at_builtin; refine wpList_append_lot _ rfl _ _ 26 rfl 31 i0 _ 3 40 Try.underlying26 gi gz0 gz1 gz2 rfl (.slice oa no oc) no (flatC (outL L k j)) rfl HL2.out ⟨wr.heap.size, 0, none⟩ 1 1 [.string yk, .bool yh, .string yv] rfl rfl (change_news wr yk yh yv 31) (change_one yk yh yv) (by omega) hmx hmb _ rfl ?_; intro g cap w4 hL4 hg4 hat4; have HI4 := Lib.hid (HI2.out.grow1 (U := [⟨yk, yh, yv⟩]) (n := no + 1) hnn.out hL4 hg4 hat4); clear hL4 hg4 hat4)
          go_roundw
          case rel => exact ⟨j + 1, by go_num, by omega, by rw [hsn.out.1, hsn.out.2]; exact HI4⟩
          case measure => simp [intOf]; omega
        · have hcmp : ¬ (j : Int) < n := fun h => hjk ((HIn.out j hlt).1 h)
          have hsn := Lib.hid (show outL L k (j + 1) = outL L k j ∧ leftL L k (j + 1) = leftL L k j ++ [⟨yk, yh, yv⟩] from by rw [← hy]; exact out_ge (by omega) hkL)
          have HL2 := Lib.hid (show Lot (wr.alloc (.cells #[.string yk, .bool yh, .string yv] 31)) 31 3 (.slice la nl lc) nl (flatC (leftL L k j)) from by have := HI2.out.r2.lot; rwa [HNl.out] at this)
          have hnn := Lib.hid (show (leftL L k j ++ [(⟨yk, yh, yv⟩ : ChD)]).length = nl + 1 from by rw [List.length_append, HNl.out]; rfl)
          have hmx : nl + 1 ≤ maxLen := by have := HLl.out; unfold maxLen; omega
          have hmb : (nl + 1) * 40 ≤ 140737488355328 := by have := HLl.out; omega
          clear hy hkL
          go_wp2_with (at_builtin; refine wpList_append_lot _ rfl _ _ 26 rfl 31 i0 _ 3 40 Try.underlying26 gi gz0 gz1 gz2 rfl (.slice la nl lc) nl (flatC (leftL L k j)) rfl HL2.out ⟨wr.heap.size, 0, none⟩ 1 1 [.string yk, .bool yh, .string yv] rfl rfl (change_news wr yk yh yv 31) (change_one yk yh yv) (by omega) hmx hmb _ rfl ?_; intro g cap w4 hL4 hg4 hat4; have HI4 := Lib.hid (HI2.out.grow2 (U := [⟨yk, yh, yv⟩]) (n := nl + 1) hnn.out hL4 hg4 hat4); clear hL4 hg4 hat4)
          go_roundw
          case rel => exact ⟨j + 1, by go_num, by omega, by rw [hsn.out.1, hsn.out.2]; exact HI4⟩
          case measure => simp [intOf]; omega
      · obtain rfl : m = j := by omega
        have ho1 : outL L k m = L.take k := by unfold outL; rw [List.take_of_length_le (show L.length ≤ m by rw [HM.out]; exact Nat.le_refl _)]
        have ho2 : leftL L k m = L.drop k := by unfold leftL; rw [List.take_of_length_le (show L.length ≤ m by rw [HM.out]; exact Nat.le_refl _)]
        obtain rfl : no = k := by have := HOl.out; omega
        obtain ⟨r0, r1, r2, r3, r4, r5⟩ := HX3.out _ HLow.out
        rw [ho1, ho2] at HI
        rw [ho1] at HNo
        rw [ho2] at HNl
        clear ho1 ho2 HOl HLl
        go_wp2_with fail
        refine bodyPost_ret (v := .tuple #[.agg #[.int .i64 most, .slice la nl lc, .bool true], .slice oa no oc, .bool true]) (by rw [results_cell3 (by rfl)]; go_simp) rfl ?_
        refine ⟨la, nl, lc, oa, oc, fun hne a ha => ?_, fun hne a ha => ?_, rfl, ?_, HNl.out, ?_, ?_⟩
        · subst ha
          have hl := HI.out.r2.lot
          rw [HNl.out] at hl
          obtain ⟨g, cap, e, _⟩ := hl.cells (by rw [← HNl.out]; exact List.length_pos_iff.2 hne)
          cases e
          have := HI.out.r2.base g rfl
          dsimp only
          omega
        · subst ha
          have hl := HI.out.r1.lot
          rw [HNo.out] at hl
          obtain ⟨g, cap, e, _⟩ := hl.cells (by rw [← HNo.out]; exact List.length_pos_iff.2 hne)
          cases e
          have := HI.out.r1.base g rfl
          dsimp only
          omega
        · have hl := HI.out.r2.lot
          rw [HNl.out] at hl
          refine (hl.stays (fun z hz => ?_)).sc HNl.out
          have hz2 := HI.out.r2.base z hz
          iterate 4 rw [Below.heap_setCell _ _ _ _ (by dsimp only; omega)]
        · have hl := HI.out.r1.lot
          rw [HNo.out] at hl
          refine (hl.stays (fun z hz => ?_)).sc HNo.out
          have hz2 := HI.out.r1.base z hz
          iterate 4 rw [Below.heap_setCell _ _ _ _ (by dsimp only; omega)]
        · exact ((((HB.out.trans (HLow.out.mono HB.out.size)).setCell (by dsimp only; omega) _).setCell (by dsimp only; omega) _).setCell (by dsimp only; omega) _).setCell (by dsimp only; omega) _
  · go_enter Try.func11, Try.ntmps11
    go_wp2
    clear q0 q1 q2 q3
    go_loopw [7, 8, 9] (fun a b i wr => ∃ j : Nat, i = .int .i64 j ∧ j ≤ m ∧ Hid (TwoI (W.heap.size + 1 + 1) W2 a b (outL L k j) (leftL L k j) wr)) (fun _ _ i _ => m - (intOf i).toNat)
    case atStart => exact ⟨0, rfl, Nat.zero_le _, by simpa [outL, leftL] using H0⟩
    case round =>
      clear H0 hW2
      obtain ⟨j, rfl, hjm, hI⟩ := hrel
      have hlow : Below W2.heap.size W2 wr := by rw [HZ2.out]; exact hI.out.r1.low
      have HLow := Lib.hid hlow
      obtain ⟨q0, q1, q2, q3⟩ := HX.out _ hlow
      obtain ⟨oa, oc, rfl⟩ := hI.out.r1.form
      obtain ⟨la, lc, rfl⟩ := hI.out.r2.form
      have hjL : j ≤ L.length := by rw [HM.out]; exact hjm
      have hol := outL_len (k := k) hjL
      have hll := leftL_len (k := k) hjL
      obtain ⟨no, hno⟩ : ∃ no, (outL L k j).length = no := ⟨_, rfl⟩
      obtain ⟨nl, hnl⟩ : ∃ nl, (leftL L k j).length = nl := ⟨_, rfl⟩
      have HI := Lib.hid (show TwoI (W.heap.size + 1 + 1) W2 (.slice oa no oc) (.slice la nl lc) (outL L k j) (leftL L k j) wr from by have := hI.out; rw [hno, hnl] at this; exact this)
      rw [hno, hnl]
      rw [hno] at hol
      rw [hnl] at hll
      have HNo := Lib.hid hno
      have HNl := Lib.hid hnl
      have HOl := Lib.hid hol
      have HLl := Lib.hid hll
      clear hI hlow hno hnl hjL hol hll
      by_cases hlt : j < m
      · have hkL : j < L.length := by rw [HM.out]; exact hlt
        have hltz : (j : Int) < (m : Int) := by omega
        have h0 : (0 : Int) ≤ (j : Int) := by omega
        obtain ⟨b, o, rfl, c1, c2, c3⟩ := HS.out _ (HB.out.trans (HLow.out.mono HB.out.size)) j hkL
        obtain ⟨⟨yk, yh, yv⟩, hy⟩ : ∃ y, L[j] = y := ⟨_, rfl⟩
        rw [hy] at c1 c2 c3
        simp only at c1 c2 c3
        have HI2 := Lib.hid (HI.out.below (below_alloc wr (.cells #[.string yk, .bool yh, .string yv] 31)))
        by_cases hjk : j < k
        · have hcmp : (j : Int) < n := (HIn.out j hlt).2 hjk
          have hsn := Lib.hid (show outL L k (j + 1) = outL L k j ++ [⟨yk, yh, yv⟩] ∧ leftL L k (j + 1) = leftL L k j from by rw [← hy]; exact out_lt hjk hkL)
          have HL2 := Lib.hid (show Lot (wr.alloc (.cells #[.string yk, .bool yh, .string yv] 31)) 31 3 (.slice oa no oc) no (flatC (outL L k j)) from by have := HI2.out.r1.lot; rwa [HNo.out] at this)
          have hnn := Lib.hid (show (outL L k j ++ [(⟨yk, yh, yv⟩ : ChD)]).length = no + 1 from by rw [List.length_append, HNo.out]; rfl)
          have hmx : no + 1 ≤ maxLen := by have := HOl.out; unfold maxLen; omega
          have hmb : (no + 1) * 40 ≤ 140737488355328 := by have := HOl.out; omega
          clear hy hkL
          go_wp2_with (at_builtin; refine wpList_append_lot _ rfl _ _ 26 rfl 31 i0 _ 3 40 Try.underlying26 gi gz0 gz1 gz2 rfl (.slice oa no oc) no (flatC (outL L k j)) rfl HL2.out ⟨wr.heap.size, 0, none⟩ 1 1 [.string yk, .bool yh, .string yv] rfl rfl (change_news wr yk yh yv 31) (change_one yk yh yv) (by omega) hmx hmb _ rfl ?_; intro g cap w4 hL4 hg4 hat4; have HI4 := Lib.hid (HI2.out.grow1 (U := [⟨yk, yh, yv⟩]) (n := no + 1) hnn.out hL4 hg4 hat4); clear hL4 hg4 hat4)
          go_roundw
          case rel => exact ⟨j + 1, by go_num, by omega, by rw [hsn.out.1, hsn.out.2]; exact HI4⟩
          case measure => simp [intOf]; omega
        · have hcmp : ¬ (j : Int) < n := fun h => hjk ((HIn.out j hlt).1 h)
          have hsn := Lib.hid (show outL L k (j + 1) = outL L k j ∧ leftL L k (j + 1) = leftL L k j ++ [⟨yk, yh, yv⟩] from by rw [← hy]; exact out_ge (by omega) hkL)
          have HL2 := Lib.hid (show Lot (wr.alloc (.cells #[.string yk, .bool yh, .string yv] 31)) 31 3 (.slice la nl lc) nl (flatC (leftL L k j)) from by have := HI2.out.r2.lot; rwa [HNl.out] at this)
          have hnn := Lib.hid (show (leftL L k j ++ [(⟨yk, yh, yv⟩ : ChD)]).length = nl + 1 from by rw [List.length_append, HNl.out]; rfl)
          have hmx : nl + 1 ≤ maxLen := by have := HLl.out; unfold maxLen; omega
          have hmb : (nl + 1) * 40 ≤ 140737488355328 := by have := HLl.out; omega
          clear hy hkL
          go_wp2_with (at_builtin; refine wpList_append_lot _ rfl _ _ 26 rfl 31 i0 _ 3 40 Try.underlying26 gi gz0 gz1 gz2 rfl (.slice la nl lc) nl (flatC (leftL L k j)) rfl HL2.out ⟨wr.heap.size, 0, none⟩ 1 1 [.string yk, .bool yh, .string yv] rfl rfl (change_news wr yk yh yv 31) (change_one yk yh yv) (by omega) hmx hmb _ rfl ?_; intro g cap w4 hL4 hg4 hat4; have HI4 := Lib.hid (HI2.out.grow2 (U := [⟨yk, yh, yv⟩]) (n := nl + 1) hnn.out hL4 hg4 hat4); clear hL4 hg4 hat4)
          go_roundw
          case rel => exact ⟨j + 1, by go_num, by omega, by rw [hsn.out.1, hsn.out.2]; exact HI4⟩
          case measure => simp [intOf]; omega
      · obtain rfl : m = j := by omega
        have ho1 : outL L k m = L.take k := by unfold outL; rw [List.take_of_length_le (show L.length ≤ m by rw [HM.out]; exact Nat.le_refl _)]
        have ho2 : leftL L k m = L.drop k := by unfold leftL; rw [List.take_of_length_le (show L.length ≤ m by rw [HM.out]; exact Nat.le_refl _)]
        obtain rfl : no = k := by have := HOl.out; omega
        obtain ⟨r0, r1, r2, r3, r4, r5⟩ := HX3.out _ HLow.out
        rw [ho1, ho2] at HI
        rw [ho1] at HNo
        rw [ho2] at HNl
        clear ho1 ho2 HOl HLl
        go_wp2_with fail
        refine bodyPost_ret (v := .tuple #[.agg #[.int .i64 most, .slice la nl lc, .bool false], .slice oa no oc, .bool true]) (by rw [results_cell3 (by rfl)]; go_simp) rfl ?_
        refine ⟨la, nl, lc, oa, oc, fun hne a ha => ?_, fun hne a ha => ?_, rfl, ?_, HNl.out, ?_, ?_⟩
        · subst ha
          have hl := HI.out.r2.lot
          rw [HNl.out] at hl
          obtain ⟨g, cap, e, _⟩ := hl.cells (by rw [← HNl.out]; exact List.length_pos_iff.2 hne)
          cases e
          have := HI.out.r2.base g rfl
          dsimp only
          omega
        · subst ha
          have hl := HI.out.r1.lot
          rw [HNo.out] at hl
          obtain ⟨g, cap, e, _⟩ := hl.cells (by rw [← HNo.out]; exact List.length_pos_iff.2 hne)
          cases e
          have := HI.out.r1.base g rfl
          dsimp only
          omega
        · have hl := HI.out.r2.lot
          rw [HNl.out] at hl
          refine (hl.stays (fun z hz => ?_)).sc HNl.out
          have hz2 := HI.out.r2.base z hz
          iterate 4 rw [Below.heap_setCell _ _ _ _ (by dsimp only; omega)]
        · have hl := HI.out.r1.lot
          rw [HNo.out] at hl
          refine (hl.stays (fun z hz => ?_)).sc HNo.out
          have hz2 := HI.out.r1.base z hz
          iterate 4 rw [Below.heap_setCell _ _ _ _ (by dsimp only; omega)]
        · exact ((((HB.out.trans (HLow.out.mono HB.out.size)).setCell (by dsimp only; omega) _).setCell (by dsimp only; omega) _).setCell (by dsimp only; omega) _).setCell (by dsimp only; omega) _

end Go.Proofs.Ytofkllokmecfgaa
