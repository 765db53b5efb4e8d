/-
  The walk through WordGuards.
-/
import Derived.Test.YtghobeeomoojoaaWtells
namespace Go.Proofs.Ytghobeeomoojoaa
open Go Go.RowKit

theorem cell_lt {W : World} {b o : Nat} {v : Value} (h : W.cell? ⟨b, o, none⟩ = some v) : b < W.heap.size := World.block_lt_of_cell? W ⟨b, o, none⟩ h
/-- At p, a slice's address, these bytes lie. -/
def Su (W : World) (p : Option Addr) (L : List Nat) : Prop := ∀ j (h : j < L.length), ∃ b o, p = some ⟨b, o, none⟩ ∧ W.cell? ⟨b, o + j, none⟩ = some (.int .u8 ((L[j] : Nat) : Int))
theorem Su.grow {W W' : World} {p : Option Addr} {L : List Nat} (h : Su W p L) (hb : Below W.heap.size W W') : Su W' p L := fun j hj => by
  obtain ⟨b, o, rfl, c⟩ := h j hj
  exact ⟨b, o, rfl, (hb.cell (p := ⟨b, _, none⟩) (cell_lt c)).trans c⟩

/-- What the rounds leave: a word whose counts are as they were counted. -/
structure Room (v m most : Int) (k : Nat) : Prop where
  low : 0 ≤ v
  high : v < 72057594037927936
  has : inW v = m
  some : 0 ≤ m
  fits : m ≤ most
  few : cameW v ≤ (k : Int)

theorem enter_yes {v m most : Int} {k : Nat} (h : Room v m most k) (hk : k < 200) (hq : most ≤ 255) (hm : m < most) : entersW v most = true ∧ cameW (enterW v most) = cameW v + 1 ∧ Room (enterW v most) (m + 1) most (k + 1) := by
  have h1 := h.has
  have h2 := h.few
  have h3 := h.some
  have he : entersW v most = true := decide_eq_true (by omega)
  obtain ⟨w1, w2⟩ := enter_word v most he
  have h4 := came_word _ _ w1
  have h5 := wordW_bd (cameW v + 1) (inW v + 1)
  rw [w2] at h4 h5
  exact ⟨he, h4.1, h5.1, h5.2, by rw [h4.2, h1], by omega, by omega, by rw [h4.1]; omega⟩
theorem enter_no {v m most : Int} {k : Nat} (h : Room v m most k) (hm : ¬ m < most) : entersW v most = false := by
  have h1 := h.has
  exact (enter_none v most (by omega)).1
theorem leave_yes {v m most l : Int} {k : Nat} (h : Room v m most k) (h0 : 0 ≤ l) (hl : l ≤ m) : leavesW v l = true ∧ cameW (leaveW v l) = cameW v ∧ Room (leaveW v l) (m - l) most k := by
  have h1 := h.has
  have h2 := h.few
  have h3 := h.some
  have h6 := h.fits
  have he : leavesW v l = true := decide_eq_true (by omega)
  obtain ⟨w1, w2⟩ := leave_word v l he
  have h4 := came_word _ _ w1
  have h5 := wordW_bd (cameW v) (inW v - l)
  rw [w2] at h4 h5
  exact ⟨he, h4.1, h5.1, h5.2, by rw [h4.2, h1], by omega, by omega, by rw [h4.1]; omega⟩
theorem leave_no {v m most l : Int} {k : Nat} (h : Room v m most k) (hl : ¬ l ≤ m) : leavesW v l = false := by
  have h1 := h.has
  exact (leave_none v l (by omega)).1
theorem Room.later {v m most : Int} {k j : Nat} (h : Room v m most k) (hj : k ≤ j) : Room v m most j := ⟨h.low, h.high, h.has, h.some, h.fits, by have := h.few; omega⟩

set_option maxRecDepth 100000 in
set_option maxHeartbeats 8000000 in
theorem guards_walk (most : Int) (pa : Option Addr) (n c : Nat) (L : List Nat) (W : World) (hs : Su W pa L) (hl : L.length = n) (hn : n ≤ maxLen) (hz255 : ∀ z ∈ L, z ≤ 255) (hm0 : 0 ≤ most) (hm1 : most ≤ 255) :
    Calls Try.prog 4 #[.int .u8 most, .slice pa n c] W (Says true W) := by
  have hn' : (n : Int) ≤ 9223372036854775807 := by simp [maxLen] at hn; omega
  have HS := Lib.hid (fun X (hX : Below W.heap.size W X) => hs.grow hX)
  have HL := Lib.hid hl
  have HZ := Lib.hid hz255
  clear hs hl hn hz255
  by_cases hbig : 200 < n
  · have hz : (200 : Int) < (n : Int) := by omega
    clear HS
    go_enter Try.func4, Try.ntmps4
    go_wp2_with fail
    refine (awake_any _).mono ?_
    rintro en w1 ⟨rfl, hb⟩
    have HB := Lib.hid hb
    clear hb
    go_wp2_with fail
    go_ret
    exact ⟨rfl, HB.out⟩
  · have hz : (n : Int) ≤ 200 := by omega
    clear hn'
    go_enter Try.func4, Try.ntmps4
    go_wp2_with fail
    go_loopw [5, 6, 7] (fun t a i wr => ∃ (k : Nat) (v m : Int), t = .int .u64 v ∧ a = .int .i64 m ∧ i = .int .i64 k ∧ k ≤ n ∧ Hid (Room v m most k) ∧ Hid (Below W.heap.size W wr)) (fun _ _ i _ => n - (intOf i).toNat)
    case atStart => exact ⟨0, 0, 0, rfl, rfl, rfl, Nat.zero_le _, Lib.hid ⟨by omega, by omega, by decide, by omega, hm0, by decide⟩, Lib.hid (Below.refl _ _)⟩
    case round =>
      obtain ⟨k, v, m, rfl, rfl, rfl, hkn, HR, HB⟩ := hrel
      by_cases hlt : k < n
      · have hk0 : (0 : Int) ≤ (k : Int) := by omega
        have hk1 : (k : Int) < (n : Int) := by omega
        have hk2 : (k : Int) ≤ 200 := by omega
        have hkt : k < 200 := by omega
        obtain ⟨ba, oa, rfl, hc⟩ := HS.out _ HB.out k (by rw [HL.out]; exact hlt)
        have hx255 := HZ.out _ (List.getElem_mem (by rw [HL.out]; exact hlt : k < L.length))
        obtain ⟨x, hx⟩ : ∃ x, L[k]'(by rw [HL.out]; exact hlt) = x := ⟨_, rfl⟩
        rw [hx] at hc hx255
        have HCell := Lib.hid (fun X (hX : Below W.heap.size W X) => show X.cell? ⟨ba, oa + k, none⟩ = some (.int .u8 (x : Int)) by
          obtain ⟨b2, o2, e2, c2⟩ := HS.out X hX k (by rw [HL.out]; exact hlt)
          cases e2
          rw [hx] at c2
          exact c2)
        clear hx HS
        have hx0 : (0 : Int) ≤ (x : Int) := by omega
        have hx1 : (x : Int) ≤ 255 := by omega
        have hr0 := HR.out.some
        have hr1 := HR.out.fits
        have hcw := HR.out.few
        have hcw0 := (cameW_bd v).1
        have HC0 := Lib.hid (fun X : World => came_any v X HR.out.low (by have := HR.out.high; omega))
        have HE := Lib.hid (fun X : World => enter_any v most X HR.out.low (by have := HR.out.high; omega))
        by_cases hm : m < most
        · obtain ⟨he, hec, HR1'⟩ := enter_yes HR.out hkt hm1 hm
          have HR1 := Lib.hid HR1'
          clear HR1'
          rw [he] at HE
          have HC1 := Lib.hid (fun X : World => came_any (enterW v most) X HR1.out.low (by have := HR1.out.high; omega))
          rw [hec] at HC1
          have hv1 := hec
          clear he hec
          generalize enterW v most = v1 at *
          generalize cameW v = c0 at *
          have hm10 := HR1.out.some
          have hm11 := HR1.out.fits
          by_cases hl : (x : Int) ≤ (m + 1)
          · obtain ⟨hle, hlc, HR2'⟩ := leave_yes HR1.out hx0 hl
            have HR2 := Lib.hid HR2'
            clear HR2'
            have HLv := Lib.hid (fun X : World => leave_any v1 x X HR1.out.low (by have := HR1.out.high; omega))
            rw [hle] at HLv
            have HI := Lib.hid (fun X : World => in_any (leaveW v1 x) X HR2.out.low (by have := HR2.out.high; omega))
            rw [HR2.out.has] at HI
            have HC2 := Lib.hid (fun X : World => came_any (leaveW v1 x) X HR2.out.low (by have := HR2.out.high; omega))
            rw [hlc, hv1] at HC2
            have hm2 : (m + 1) - (x : Int) ≤ most := HR2.out.fits
            have hm3 : 0 ≤ (m + 1) - (x : Int) := HR2.out.some
            clear hle hlc
            generalize leaveW v1 x = v2 at *
            clear hv1
            go_wp2_with fail
            refine (HC0.out _).mono ?_
            rintro en w1 ⟨rfl, b1⟩
            have B1 := Lib.hid (HB.out.trans (b1.mono HB.out.size))
            clear b1 hc
            have hc1 := HCell.out _ B1.out
            go_wp2_with fail
            refine (HE.out _).mono ?_
            rintro en w2 ⟨rfl, b1⟩
            have B2 := Lib.hid (B1.out.trans (b1.mono B1.out.size))
            clear b1 hc1
            have hc2 := HCell.out _ B2.out
            go_wp2_with fail
            refine (HC1.out _).mono ?_
            rintro en w3 ⟨rfl, b1⟩
            have B3 := Lib.hid (B2.out.trans (b1.mono B2.out.size))
            clear b1 hc2
            have hc3 := HCell.out _ B3.out
            go_wp2_with fail
            refine (HLv.out _).mono ?_
            rintro en w4 ⟨rfl, b1⟩
            have B4 := Lib.hid (B3.out.trans (b1.mono B3.out.size))
            clear b1 hc3
            have hc4 := HCell.out _ B4.out
            go_wp2_with fail
            refine (HI.out _).mono ?_
            rintro en w5 ⟨rfl, b1⟩
            have B5 := Lib.hid (B4.out.trans (b1.mono B4.out.size))
            clear b1 hc4
            have hc5 := HCell.out _ B5.out
            go_wp2_with fail
            refine (HC2.out _).mono ?_
            rintro en w6 ⟨rfl, b1⟩
            have B6 := Lib.hid (B5.out.trans (b1.mono B5.out.size))
            clear b1 hc5
            have hc6 := HCell.out _ B6.out
            go_wp2_with fail
            go_roundw
            case rel => exact ⟨k + 1, v2, m + 1 - x, rfl, rfl, by go_num, by omega, HR2, B6⟩
            case measure => simp [intOf]; omega
          · have hle := leave_no HR1.out hl
            have HLv := Lib.hid (fun X : World => leave_any v1 x X HR1.out.low (by have := HR1.out.high; omega))
            rw [hle] at HLv
            have HI := Lib.hid (fun X : World => in_any v1 X HR1.out.low (by have := HR1.out.high; omega))
            rw [HR1.out.has] at HI
            have HC2 := Lib.hid (fun X : World => came_any v1 X HR1.out.low (by have := HR1.out.high; omega))
            rw [hv1] at HC2
            have hl' : (m + 1) < (x : Int) := by omega
            clear hle hl
            generalize leaveW v1 x = v2 at *
            clear hv1
            go_wp2_with fail
            refine (HC0.out _).mono ?_
            rintro en w1 ⟨rfl, b1⟩
            have B1 := Lib.hid (HB.out.trans (b1.mono HB.out.size))
            clear b1 hc
            have hc1 := HCell.out _ B1.out
            go_wp2_with fail
            refine (HE.out _).mono ?_
            rintro en w2 ⟨rfl, b1⟩
            have B2 := Lib.hid (B1.out.trans (b1.mono B1.out.size))
            clear b1 hc1
            have hc2 := HCell.out _ B2.out
            go_wp2_with fail
            refine (HC1.out _).mono ?_
            rintro en w3 ⟨rfl, b1⟩
            have B3 := Lib.hid (B2.out.trans (b1.mono B2.out.size))
            clear b1 hc2
            have hc3 := HCell.out _ B3.out
            go_wp2_with fail
            refine (HLv.out _).mono ?_
            rintro en w4 ⟨rfl, b1⟩
            have B4 := Lib.hid (B3.out.trans (b1.mono B3.out.size))
            clear b1 hc3
            have hc4 := HCell.out _ B4.out
            go_wp2_with fail
            refine (HI.out _).mono ?_
            rintro en w5 ⟨rfl, b1⟩
            have B5 := Lib.hid (B4.out.trans (b1.mono B4.out.size))
            clear b1 hc4
            have hc5 := HCell.out _ B5.out
            go_wp2_with fail
            refine (HC2.out _).mono ?_
            rintro en w6 ⟨rfl, b1⟩
            have B6 := Lib.hid (B5.out.trans (b1.mono B5.out.size))
            clear b1 hc5
            have hc6 := HCell.out _ B6.out
            go_wp2_with fail
            go_roundw
            case rel => exact ⟨k + 1, v1, m + 1, rfl, rfl, by go_num, by omega, HR1, B6⟩
            case measure => simp [intOf]; omega
        · have he := enter_no HR.out hm
          rw [he] at HE
          have HR1 := Lib.hid (HR.out.later (Nat.le_succ k))
          generalize enterW v most = v9 at *
          obtain ⟨c0, hv1⟩ : ∃ c0, cameW v = c0 := ⟨_, rfl⟩
          rw [hv1] at HC0 hcw hcw0
          have hmm : most ≤ m := by omega
          clear he hm
          by_cases hl : (x : Int) ≤ m
          · obtain ⟨hle, hlc, HR2'⟩ := leave_yes HR1.out hx0 hl
            have HR2 := Lib.hid HR2'
            clear HR2'
            have HLv := Lib.hid (fun X : World => leave_any v x X HR1.out.low (by have := HR1.out.high; omega))
            rw [hle] at HLv
            have HI := Lib.hid (fun X : World => in_any (leaveW v x) X HR2.out.low (by have := HR2.out.high; omega))
            rw [HR2.out.has] at HI
            have HC2 := Lib.hid (fun X : World => came_any (leaveW v x) X HR2.out.low (by have := HR2.out.high; omega))
            rw [hlc, hv1] at HC2
            have hm2 : m - (x : Int) ≤ most := HR2.out.fits
            have hm3 : 0 ≤ m - (x : Int) := HR2.out.some
            clear hle hlc
            generalize leaveW v x = v2 at *
            clear hv1
            go_wp2_with fail
            refine (HC0.out _).mono ?_
            rintro en w1 ⟨rfl, b1⟩
            have B1 := Lib.hid (HB.out.trans (b1.mono HB.out.size))
            clear b1 hc
            have hc1 := HCell.out _ B1.out
            go_wp2_with fail
            refine (HE.out _).mono ?_
            rintro en w2 ⟨rfl, b1⟩
            have B2 := Lib.hid (B1.out.trans (b1.mono B1.out.size))
            clear b1 hc1
            have hc2 := HCell.out _ B2.out
            go_wp2_with fail
            refine (HLv.out _).mono ?_
            rintro en w3 ⟨rfl, b1⟩
            have B3 := Lib.hid (B2.out.trans (b1.mono B2.out.size))
            clear b1 hc2
            have hc3 := HCell.out _ B3.out
            go_wp2_with fail
            refine (HI.out _).mono ?_
            rintro en w4 ⟨rfl, b1⟩
            have B4 := Lib.hid (B3.out.trans (b1.mono B3.out.size))
            clear b1 hc3
            have hc4 := HCell.out _ B4.out
            go_wp2_with fail
            refine (HC2.out _).mono ?_
            rintro en w5 ⟨rfl, b1⟩
            have B5 := Lib.hid (B4.out.trans (b1.mono B4.out.size))
            clear b1 hc4
            have hc5 := HCell.out _ B5.out
            go_wp2_with fail
            go_roundw
            case rel => exact ⟨k + 1, v2, m - x, rfl, rfl, by go_num, by omega, HR2, B5⟩
            case measure => simp [intOf]; omega
          · have hle := leave_no HR1.out hl
            have HLv := Lib.hid (fun X : World => leave_any v x X HR1.out.low (by have := HR1.out.high; omega))
            rw [hle] at HLv
            have HI := Lib.hid (fun X : World => in_any v X HR1.out.low (by have := HR1.out.high; omega))
            rw [HR1.out.has] at HI
            have HC2 := Lib.hid (fun X : World => came_any v X HR1.out.low (by have := HR1.out.high; omega))
            rw [hv1] at HC2
            have hl' : m < (x : Int) := by omega
            clear hle hl
            generalize leaveW v x = v2 at *
            clear hv1
            go_wp2_with fail
            refine (HC0.out _).mono ?_
            rintro en w1 ⟨rfl, b1⟩
            have B1 := Lib.hid (HB.out.trans (b1.mono HB.out.size))
            clear b1 hc
            have hc1 := HCell.out _ B1.out
            go_wp2_with fail
            refine (HE.out _).mono ?_
            rintro en w2 ⟨rfl, b1⟩
            have B2 := Lib.hid (B1.out.trans (b1.mono B1.out.size))
            clear b1 hc1
            have hc2 := HCell.out _ B2.out
            go_wp2_with fail
            refine (HLv.out _).mono ?_
            rintro en w3 ⟨rfl, b1⟩
            have B3 := Lib.hid (B2.out.trans (b1.mono B2.out.size))
            clear b1 hc2
            have hc3 := HCell.out _ B3.out
            go_wp2_with fail
            refine (HI.out _).mono ?_
            rintro en w4 ⟨rfl, b1⟩
            have B4 := Lib.hid (B3.out.trans (b1.mono B3.out.size))
            clear b1 hc3
            have hc4 := HCell.out _ B4.out
            go_wp2_with fail
            refine (HC2.out _).mono ?_
            rintro en w5 ⟨rfl, b1⟩
            have B5 := Lib.hid (B4.out.trans (b1.mono B4.out.size))
            clear b1 hc4
            have hc5 := HCell.out _ B5.out
            go_wp2_with fail
            go_roundw
            case rel => exact ⟨k + 1, v, m, rfl, rfl, by go_num, by omega, HR1, B5⟩
            case measure => simp [intOf]; omega
      · go_wp2_with fail
        refine (awake_any _).mono ?_
        rintro en w1 ⟨rfl, hb⟩
        have HB2 := Lib.hid (HB.out.trans (hb.mono HB.out.size))
        clear hb
        go_wp2_with fail
        go_ret
        exact ⟨rfl, HB2.out⟩
end Go.Proofs.Ytghobeeomoojoaa
