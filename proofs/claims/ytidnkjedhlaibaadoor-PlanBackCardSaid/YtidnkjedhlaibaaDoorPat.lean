/-
  The reference: where a thing stands (looked for through all cells); Where at every config.
-/
import Derived.Test.YtidnkjedhlaibaaDoorPref
namespace Go.Proofs.YtidnkjedhlaibaaDoor
open Go Go.RowKit

/-! ### the names are unlike -/
theorem names_unlike : ∀ u, u < 7 → ∀ c, c < 7 → ((nameP u).data.toList == (nameP c).data.toList) = decide (u = c) := by decide +kernel
theorem name_eq {u c : Nat} (hu : u < 7) (hc : c < 7) : ((nameP u).toList == (nameP c).toList) = decide (u = c) := by
  rw [ByteArray.toList_eq, ByteArray.toList_eq]
  exact names_unlike u hu c hc
theorem spotN_lt {a p n : Int} (h : 0 ≤ n) : spotN a p n < 7 := by
  unfold spotN
  split
  · omega
  · split
    · omega
    · split
      · omega
      · omega

/-- Does the thing c, of the number i, stand in the cell j? -/
def hitW (a p : Int) (c : Nat) (i : Int) (j : Nat) : Prop := spotN a p j = c ∧ spotI a p j = i
/-- r is the first of the first n cells in which it stands; -1: it stands in none. -/
def FirstW (a p : Int) (n c : Nat) (i r : Int) : Prop := (r = -1 ∧ ∀ j, j < n → ¬ hitW a p c i j) ∨ ∃ k : Nat, k < n ∧ r = k ∧ hitW a p c i k ∧ ∀ j, j < k → ¬ hitW a p c i j

theorem lot_two {X : World} {u : Value} {a p : Int} {n j : Nat} (h : Lot X 37 2 u n (cellsL a p n)) (hj : j < n) :
    ∃ g cap, u = .slice (some ⟨g, 0, none⟩) n cap ∧ X.cell? ⟨g, j * 2, none⟩ = some (.string (nameP (spotN a p j))) ∧ X.cell? ⟨g, j * 2 + 1, none⟩ = some (.int .i64 (spotI a p j)) := by
  obtain ⟨g, cap, rfl, hc⟩ := h.cells (by omega)
  exact ⟨g, cap, rfl, hc _ _ (cellsL_at a p hj).1, hc _ _ (cellsL_at a p hj).2⟩

set_option maxRecDepth 100000 in
set_option maxHeartbeats 4000000 in
theorem at_any (a p s q v x i r : Int) (n c : Nat) (W : World) (hn : n ≤ 171) (hc : c < 7) (HC : Hid (∀ X : World, Calls Tryd.prog 8 #[cfV a p s q v x] X (CellsD a p n X))) (hF : FirstW a p n c i r) :
    Calls Tryd.prog 11 #[cfV a p s q v x, .string (nameP c), .int .i64 i] W (Tells r W) := by
  have HF := Lib.hid hF
  have X0 := Lib.hid (BoxC.start W a p s q v x)
  obtain ⟨c0, c1, c2, c3, c4, c5⟩ := X0.out.six
  have HN := Lib.hid (fun (j : Nat) => name_eq (spotN_lt (a := a) (p := p) (n := (j : Int)) (by omega)) hc)
  clear hF
  obtain ⟨nm, hnm⟩ : ∃ nm, nameP c = nm := ⟨_, rfl⟩
  rw [hnm] at HN ⊢
  clear hnm
  go_enter Tryd.func11, Tryd.ntmps11
  go_wp2_with fail
  refine (HC.out _).mono ?_
  rintro e w1 ⟨u, rfl, hL, hb⟩
  have X1 := Lib.hid (X0.out.below hb)
  have HL := Lib.hid hL
  clear hb hL c0 c1 c2 c3 c4 c5
  obtain ⟨ua, uc, rfl⟩ := HL.out.form
  go_wp2_with fail
  go_loopw [8] (fun l wr => ∃ k : Nat, l = .int .i64 k ∧ k ≤ n ∧ wr = w1 ∧ Hid (∀ j, j < k → ¬ hitW a p c i j)) (fun l _ => n - (intOf l).toNat)
  case atStart => exact ⟨0, rfl, Nat.zero_le _, rfl, Lib.hid (fun j hj => absurd hj (Nat.not_lt_zero _))⟩
  case round =>
    obtain ⟨k, rfl, hkn, rfl, HP⟩ := hrel
    have hk0 : (0 : Int) ≤ (k : Int) := by omega
    have hn1 : (n : Int) ≤ 171 := by omega
    by_cases hlt : k < n
    · have hk1 : (k : Int) < (n : Int) := by omega
      obtain ⟨g, cap, hu, d0, d1⟩ := lot_two HL.out hlt
      cases hu
      have hnk := HN.out k
      by_cases h1 : spotN a p k = c
      · rw [decide_eq_true h1] at hnk
        by_cases h2 : spotI a p k = i
        · have hr : r = k := by
            rcases HF.out with ⟨_, h⟩ | ⟨k', hk', rfl, h, h'⟩
            · exact absurd ⟨h1, h2⟩ (h k hlt)
            · rcases Nat.lt_trichotomy k k' with hx | rfl | hx
              · exact absurd ⟨h1, h2⟩ (h' k hx)
              · rfl
              · exact absurd h (HP.out k' hx)
          rw [h2] at d1
          subst hr
          clear h1 h2
          generalize nameP (spotN a p k) = nk at d0 hnk
          go_wp2_with fail
          go_ret
          exact ⟨rfl, X1.out.lo⟩
        · have HP2 := Lib.hid (show ∀ j, j < k + 1 → ¬ hitW a p c i j from fun j hj => by
            by_cases hjk : j < k
            · exact HP.out j hjk
            · obtain rfl : j = k := by omega
              exact fun h => h2 h.2)
          clear h1
          generalize nameP (spotN a p k) = nk at d0 hnk
          generalize spotI a p k = ik at d1 h2
          go_wp2_with fail
          go_roundw
          case rel => exact ⟨k + 1, by go_num, by omega, trivial, HP2⟩
          case measure => simp [intOf]; omega
      · have HP2 := Lib.hid (show ∀ j, j < k + 1 → ¬ hitW a p c i j from fun j hj => by
          by_cases hjk : j < k
          · exact HP.out j hjk
          · obtain rfl : j = k := by omega
            exact fun h => h1 h.1)
        rw [decide_eq_false h1] at hnk
        clear h1
        generalize nameP (spotN a p k) = nk at d0 hnk
        go_wp2_with fail
        go_roundw
        case rel => exact ⟨k + 1, by go_num, by omega, trivial, HP2⟩
        case measure => simp [intOf]; omega
    · obtain rfl : n = k := by omega
      have hr : r = -1 := by
        rcases HF.out with ⟨h, _⟩ | ⟨k', hk', _, h, _⟩
        · exact h
        · exact absurd h (HP.out k' hk')
      subst hr
      go_wp2_with fail
      go_ret
      exact ⟨rfl, X1.out.lo⟩

/-! ### where each thing stands -/
section
variable {a p s q v : Int}
theorem first_pin (i : Int) {n : Nat} (hr : rightC a p s q v = true) (hn : (n : Int) = 3 + p + a + 2 * s) : FirstW a p n 3 i (pinW a p s q v i) := by
  obtain ⟨ha, hp, hs⟩ := rightC_bd hr
  unfold pinW
  by_cases hi : 0 ≤ i ∧ i ≤ p - 1
  · rw [if_pos ⟨hr, hi⟩]
    refine .inr ⟨(3 + i).toNat, by omega, by omega, ⟨?_, ?_⟩, fun j hj h => ?_⟩
    · exact spotN_3 (by omega) (by omega)
    · exact (spotI_3 (by omega) (by omega)).trans (by omega)
    · obtain ⟨h1, h2⟩ := h
      by_cases hj3 : (j : Int) < 3
      · unfold spotN at h1; rw [if_pos hj3] at h1; omega
      · rw [spotI_3 (by omega) (by omega)] at h2; omega
  · rw [if_neg (fun h => hi h.2)]
    refine .inl ⟨rfl, fun j hj h => ?_⟩
    obtain ⟨h1, h2⟩ := h
    by_cases h3 : (j : Int) < 3
    · unfold spotN at h1; rw [if_pos h3] at h1; omega
    · by_cases h4 : (j : Int) < 3 + p
      · rw [spotI_3 (by omega) h4] at h2; omega
      · by_cases h5 : (j : Int) < 3 + p + a
        · rw [spotN_4 (by omega) h5] at h1; omega
        · unfold spotN at h1; rw [if_neg h3, if_neg h4, if_neg h5] at h1; omega
theorem first_ring (i : Int) {n : Nat} (hr : rightC a p s q v = true) (h0 : 0 ≤ i) (hn : (n : Int) = 3 + p + a + 2 * s) : FirstW a p n 4 (i % a) (ringW a p s q v i) := by
  obtain ⟨ha, hp, hs⟩ := rightC_bd hr
  have m0 := Int.emod_nonneg i (show a ≠ 0 by omega)
  have m1 := Int.emod_lt_of_pos i (show 0 < a by omega)
  rw [show ringW a p s q v i = 3 + p + i % a from if_pos ⟨hr, h0⟩]
  generalize i % a = k at m0 m1 ⊢
  refine .inr ⟨(3 + p + k).toNat, by omega, by omega, ⟨?_, ?_⟩, fun j hj h => ?_⟩
  · exact spotN_4 (by omega) (by omega)
  · exact (spotI_4 (by omega) (by omega)).trans (by omega)
  · obtain ⟨h1, h2⟩ := h
    by_cases h3 : (j : Int) < 3
    · unfold spotN at h1; rw [if_pos h3] at h1; omega
    · by_cases h4 : (j : Int) < 3 + p
      · rw [spotN_3 (by omega) h4] at h1; omega
      · rw [spotI_4 (by omega) (by omega)] at h2; omega
theorem first_key (i : Int) {n : Nat} (hr : rightC a p s q v = true) (hn : (n : Int) = 3 + p + a + 2 * s) : FirstW a p n 5 i (keyW a p s q v i) := by
  obtain ⟨ha, hp, hs⟩ := rightC_bd hr
  unfold keyW
  by_cases hi : 0 ≤ i ∧ i ≤ s - 1
  · rw [if_pos ⟨hr, hi⟩]
    refine .inr ⟨(3 + p + a + 2 * i).toNat, by omega, by omega, ⟨?_, ?_⟩, fun j hj h => ?_⟩
    · exact spotN_5 (by omega) (by omega) (by omega)
    · exact (spotI_5 (by omega) (by omega)).trans (by omega)
    · obtain ⟨h1, h2⟩ := h
      by_cases h3 : (j : Int) < 3
      · unfold spotN at h1; rw [if_pos h3] at h1; omega
      · by_cases h4 : (j : Int) < 3 + p
        · rw [spotN_3 (by omega) h4] at h1; omega
        · by_cases h5 : (j : Int) < 3 + p + a
          · rw [spotN_4 (by omega) h5] at h1; omega
          · rw [spotI_5 (by omega) (by omega)] at h2; omega
  · rw [if_neg (fun h => hi h.2)]
    refine .inl ⟨rfl, fun j hj h => ?_⟩
    obtain ⟨h1, h2⟩ := h
    by_cases h3 : (j : Int) < 3
    · unfold spotN at h1; rw [if_pos h3] at h1; omega
    · by_cases h4 : (j : Int) < 3 + p
      · rw [spotN_3 (by omega) h4] at h1; omega
      · by_cases h5 : (j : Int) < 3 + p + a
        · rw [spotN_4 (by omega) h5] at h1; omega
        · rw [spotI_5 (by omega) (by omega)] at h2; omega
theorem first_head (i : Int) {n : Nat} (hr : rightC a p s q v = true) (hn : (n : Int) = 3 + p + a + 2 * s) : FirstW a p n 6 i (headW a p s q v i) := by
  obtain ⟨ha, hp, hs⟩ := rightC_bd hr
  unfold headW
  have key : ∀ j : Nat, 3 + p + a ≤ (j : Int) → spotN a p j = 6 → ((j : Int) - (3 + p + a)) % 2 = 1 := fun j hj h1 => by
    unfold spotN at h1; rw [if_neg (by omega), if_neg (by omega), if_neg (by omega)] at h1; omega
  by_cases hi : 0 ≤ i ∧ i ≤ s - 1
  · rw [if_pos ⟨hr, hi⟩]
    refine .inr ⟨(3 + p + a + 2 * i + 1).toNat, by omega, by omega, ⟨?_, ?_⟩, fun j hj h => ?_⟩
    · exact spotN_6 (by omega) (by omega) (by omega)
    · exact (spotI_5 (by omega) (by omega)).trans (by omega)
    · obtain ⟨h1, h2⟩ := h
      by_cases h3 : (j : Int) < 3
      · unfold spotN at h1; rw [if_pos h3] at h1; omega
      · by_cases h4 : (j : Int) < 3 + p
        · rw [spotN_3 (by omega) h4] at h1; omega
        · by_cases h5 : (j : Int) < 3 + p + a
          · rw [spotN_4 (by omega) h5] at h1; omega
          · have := key j (by omega) h1
            rw [spotI_5 (by omega) (by omega)] at h2; omega
  · rw [if_neg (fun h => hi h.2)]
    refine .inl ⟨rfl, fun j hj h => ?_⟩
    obtain ⟨h1, h2⟩ := h
    by_cases h3 : (j : Int) < 3
    · unfold spotN at h1; rw [if_pos h3] at h1; omega
    · by_cases h4 : (j : Int) < 3 + p
      · rw [spotN_3 (by omega) h4] at h1; omega
      · by_cases h5 : (j : Int) < 3 + p + a
        · rw [spotN_4 (by omega) h5] at h1; omega
        · rw [spotI_5 (by omega) (by omega)] at h2; omega
end

/-! ### Where, at every config -/
theorem where_any (a p s q v x n : Int) (W : World) (hT : Tabs W) : Calls Tryd.prog 16 #[cfV a p s q v x, .int .i64 n] W (TwoD (whereN a p s q v n) (whereI a p s q v n) W) := by
  have HZ := Lib.hid (fun X : World => size_any a p s q v x X)
  have HW0 := fun X : World => within_any n 0 (sizeW a p s q v - 1) X
  by_cases hin : rightC a p s q v = true ∧ 0 ≤ n ∧ n < 3 + p + a + 2 * s
  · unfold whereN whereI
    rw [if_pos hin, if_pos hin]
    obtain ⟨hr, h0, hn⟩ := hin
    obtain ⟨ha, hp, hs⟩ := rightC_bd hr
    have hsz : sizeW a p s q v = 3 + p + a + 2 * s := if_pos hr
    rw [hsz, decide_eq_true (show 0 ≤ n ∧ n ≤ 3 + p + a + 2 * s - 1 by omega)] at HW0
    rw [hsz] at HZ
    have HR := Lib.hid (fun X : World => firstRing_any a p s q v x X hp)
    have HS := Lib.hid (fun X : World => firstShelf_any a p s q v x X ha hp)
    have hz : IntKind.i64.wrap (3 + p + a + 2 * s - 1) = 3 + p + a + 2 * s - 1 := awrap (by omega)
    by_cases h3 : n < 3
    · rw [show spotN a p n = n.toNat from if_pos h3, show spotI a p n = 0 from if_pos h3]
      have hc : n = 0 ∨ n = 1 ∨ n = 2 := by omega
      rcases hc with rfl | rfl | rfl
      · exact where_0 a p s q v x _ W hT HZ hz (Lib.hid HW0)
      · exact where_1 a p s q v x _ W hT HZ hz (Lib.hid HW0)
      · exact where_2 a p s q v x _ W hT HZ hz (Lib.hid HW0)
    · by_cases h4 : n < 3 + p
      · rw [spotN_3 (by omega) h4, spotI_3 (by omega) h4]
        exact where_pin a p s q v x n _ _ W hT HZ hz (Lib.hid HW0) HR h3 h4 (awrap (by omega))
      · by_cases h5 : n < 3 + p + a
        · rw [spotN_4 (by omega) h5, spotI_4 (by omega) h5]
          exact where_ring a p s q v x n _ _ _ W hT HZ hz (Lib.hid HW0) HR HS h3 h4 h5 (awrap (by omega))
        · rw [spotI_5 (by omega) (by omega)]
          have hd : Int.tdiv (n - (3 + p + a)) 2 = (n - (3 + p + a)) / 2 := Int.tdiv_eq_ediv_of_nonneg (by omega)
          have hm : Int.tmod (n - (3 + p + a)) 2 = (n - (3 + p + a)) % 2 := tmod_of (by omega)
          by_cases h6 : (n - (3 + p + a)) % 2 = 0
          · rw [spotN_5 (by omega) (by omega) h6]
            exact where_key a p s q v x n _ _ _ _ W hT HZ hz (Lib.hid HW0) HR HS h3 h4 h5 (awrap (by omega)) (hm.trans h6) hd (awrap (by omega))
          · rw [spotN_6 (by omega) (by omega) (by omega)]
            exact where_head a p s q v x n _ _ _ _ W hT HZ hz (Lib.hid HW0) HR HS h3 h4 h5 (awrap (by omega)) (hm.trans (by omega)) hd (awrap (by omega))
  · unfold whereN whereI
    rw [if_neg hin, if_neg hin]
    have hz : -1 ≤ sizeW a p s q v - 1 ∧ sizeW a p s q v - 1 ≤ 1000 := by
      unfold sizeW
      by_cases hr : rightC a p s q v = true
      · obtain ⟨ha, hp, hs⟩ := rightC_bd hr
        rw [if_pos hr]; omega
      · rw [if_neg hr]; omega
    rw [decide_eq_false (fun h : 0 ≤ n ∧ n ≤ sizeW a p s q v - 1 => hin (by
      unfold sizeW at h
      by_cases hr : rightC a p s q v = true
      · rw [if_pos hr] at h
        exact ⟨hr, by omega⟩
      · rw [if_neg hr] at h; omega))] at HW0
    exact where_out a p s q v x n _ W hT HZ (awrap (by omega)) (Lib.hid HW0)

/-! ### the reference's ring -/
set_option maxHeartbeats 1000000 in
theorem rring_any (a p s q v x i : Int) (W : World) (HA : Hid (rightC a p s q v = true → 0 ≤ i → ∀ X : World, Calls Tryd.prog 11 #[cfV a p s q v x, .string ⟨#[114, 105, 110, 103]⟩, .int .i64 (i % a)] X (Tells (ringW a p s q v i) X))) :
    Calls Tryd.prog 13 #[cfV a p s q v x, .int .i64 i] W (Tells (ringW a p s q v i) W) := by
  have HR := Lib.hid (fun X : World => rright_any a p s q v x X)
  have X0 := Lib.hid (BoxC.start W a p s q v x)
  obtain ⟨c0, c1, c2, c3, c4, c5⟩ := X0.out.six
  by_cases hr : rightC a p s q v = true
  · obtain ⟨ha, hp, hs⟩ := rightC_bd hr
    rw [hr] at HR
    by_cases hin : 0 ≤ i
    · have HB := Lib.hid (HA.out hr hin)
      have h1 := Int.emod_nonneg i (show a ≠ 0 by omega)
      have h2 := Int.emod_lt_of_pos i (show 0 < a by omega)
      have hm := tmod_of (a := a) hin
      have hw0 : IntKind.i64.wrap (i % a) = i % a := awrap (by omega)
      have ha0 : ¬ a = 0 := by omega
      have hi0 : ¬ i < 0 := by omega
      clear HA
      generalize i % a = r at hm hw0 h1 h2 HB
      generalize ringW a p s q v i = z at HB ⊢
      clear hr hp hs
      go_enter Tryd.func13, Tryd.ntmps13
      go_wp2_with fail
      refine (HR.out _).mono ?_
      rintro e w1 ⟨rfl, hb⟩
      have Y0 := Lib.hid (X0.out.below hb)
      clear hb c0 c1 c2 c3 c4 c5
      obtain ⟨c0, c1, c2, c3, c4, c5⟩ := Y0.out.six
      go_wp2_with fail
      clear c0 c1 c2 c3 c4 c5
      go_region_held3 (fun w' => w'.cell? ⟨W.heap.size, 0, none⟩ = some (.int .i64 a) ∧ w'.cell? ⟨W.heap.size, 1, none⟩ = some (.int .i64 p) ∧ w'.cell? ⟨W.heap.size, 2, none⟩ = some (.int .i64 s) ∧ w'.cell? ⟨W.heap.size, 3, none⟩ = some (.int .i64 q) ∧ w'.cell? ⟨W.heap.size, 4, none⟩ = some (.int .i64 v) ∧ w'.cell? ⟨W.heap.size, 5, none⟩ = some (.int .u64 x))
        (first
          | exact X1.out.six
          | exact Y0.out.drew.six
          | exact Y0.out.six)
        (first
          | (go_at_call 11; refine (HB.out _).mono ?_; rintro e x1 ⟨rfl, hb⟩; have X1 := Lib.hid (Y0.out.drew.below hb); clear hb))
      all_goals
        go_wp2_with fail
        go_ret
        exact ⟨rfl, X1.out.lo⟩
    · rw [show ringW a p s q v i = -1 from if_neg (fun h => hin h.2)]
      clear hr ha hp hs HA
      go_enter Tryd.func13, Tryd.ntmps13
      go_wp2_with fail
      refine (HR.out _).mono ?_
      rintro e w1 ⟨rfl, hb⟩
      have X1 := Lib.hid (X0.out.below hb)
      clear hb c0 c1 c2 c3 c4 c5
      go_wp2_with fail
      go_ret
      exact ⟨rfl, X1.out.lo⟩
  · rw [show ringW a p s q v i = -1 from if_neg (fun h => hr h.1)]
    rw [show rightC a p s q v = false by simpa using hr] at HR
    clear hr HA
    go_enter Tryd.func13, Tryd.ntmps13
    go_wp2_with fail
    refine (HR.out _).mono ?_
    rintro e w1 ⟨rfl, hb⟩
    have X1 := Lib.hid (X0.out.below hb)
    clear hb c0 c1 c2 c3 c4 c5
    go_wp2_with fail
    go_ret
    exact ⟨rfl, X1.out.lo⟩
end Go.Proofs.YtidnkjedhlaibaaDoor
