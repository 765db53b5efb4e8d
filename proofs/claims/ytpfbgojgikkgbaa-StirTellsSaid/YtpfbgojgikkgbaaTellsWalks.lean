/-
  The statement that each text has the number that is said, and each place of its way: the walk.
-/
import Derived.Test.YtpfbgojgikkgbaaPlaces
import Derived.BigQuiet
import Derived.Deep.QuietTactic
import Derived.WalkLawsBesides
namespace Go.Proofs.Ytpfbgojgikkgbaa
open Go Go.RowKit Go.Shelf

theorem u8_bd (i : Int) : 0 ≤ IntKind.u8.wrap i ∧ IntKind.u8.wrap i ≤ 255 := by rw [IntKind.wrap_u8]; omega

/-- Between two rounds: the collected places in block g. -/
def TellRel (n a : Int) (L g : Nat) (w wr : World) : Prop :=
  Below w.heap.size w wr ∧ ∀ j : Nat, j < L → wr.cell? ⟨g, j, none⟩ = some (.int .i64 (placeOf n a j))

theorem TellRel.drewN {n a : Int} {L g : Nat} {w wr : World} (h : TellRel n a L g w wr) (m : Nat) : TellRel n a L g w (wr.drewN m) :=
  ⟨⟨h.1.os, h.1.tape, h.1.output, h.1.size, h.1.block⟩, h.2⟩

theorem rplace_is (n a : Int) (k : Nat) (w : World) (h0 : 0 ≤ n) (h1 : n ≤ 18446744073709551615) (ha : a ≤ 9223372036854775807) (hk : k ≤ 100000) :
    Calls Try.prog 14 #[.int .u64 n, .int .i64 a, .int .i64 k] w fun e w' => e = .returned (.int .i64 (placeOf n a k)) ∧ w' = w :=
  (rplace_any n a k w h0 h1 ha (by omega)).mono fun _ _ ⟨he, hw⟩ => ⟨he, hw.symm⟩

set_option maxRecDepth 100000 in
set_option maxHeartbeats 4000000 in
theorem tells_any (s : ByteArray) (n a i : Int) (w : World) (h0 : 0 ≤ n) (h1 : n ≤ 18446744073709551615) (ha : a ≤ 9223372036854775807) (hi : i ≤ 9223372036854775807) (hs : s.size ≤ 9223372036854775807) :
    Calls Try.prog 3 #[.string s, .int .u64 n, .agg #[.int .i64 a, .int .i64 i]] w (Yes w) := by
  by_cases hlong : 2000 < s.size
  · go_enter Try.func3, Try.ntmps3
    go_wp2_with fail
    refine (awake_any _).mono ?_
    rintro e w' ⟨rfl, hb⟩
    have HB := Lib.hid hb
    clear hb
    go_wp2_with fail
    go_ret
    exact ⟨rfl, ((Below.refl _ w).alloc (Nat.le_refl _) _).trans (HB.out.mono (by simp))⟩
  · have hu0 := (u8_bd i).1
    have hu1 := (u8_bd i).2
    go_enter Try.func3, Try.ntmps3
    go_wp2_with fail
    go_quiet (fail)
    have HB1 : Hid (Below w.heap.size w ((w.alloc (.cells #[.int .i64 a, .int .i64 i] 23)).drewN nq)) := by
      have h := (Below.refl w.heap.size w).alloc (Nat.le_refl _) (.cells #[.int .i64 a, .int .i64 i] 23)
      exact ⟨h.os, h.tape, h.output, h.size, h.block⟩
    obtain ⟨W1, hW1⟩ : ∃ W1, (w.alloc (.cells #[.int .i64 a, .int .i64 i] 23)).drewN nq = W1 := ⟨_, rfl⟩
    rw [hW1] at HB1 ⊢
    clear hW1
    go_wp2_with fail
    refine (sum_any _ _ _ hs).mono ?_
    rintro e w' ⟨rfl, rfl⟩
    go_wp2_with fail
    refine (rsum_any _ _ _ hs).mono ?_
    rintro e w' ⟨rfl, rfl⟩
    go_wp2_with fail
    refine (more_any _ _ _ hu0 hu1).mono ?_
    rintro e w' ⟨rfl, rfl⟩
    go_wp2_with fail
    refine (rmore_any _ _ _ hu0 hu1).mono ?_
    rintro e w' ⟨rfl, rfl⟩
    go_wp2_with fail
    refine (start_any _ _ _ h0 h1 ha).mono ?_
    rintro e w' ⟨rfl, rfl⟩
    go_wp2_with fail
    refine (rstart_any _ _ _ h0 h1 ha).mono ?_
    rintro e w' ⟨rfl, rfl⟩
    go_wp2_with fail
    refine (place_any _ _ _ _ h0 h1 ha hi).mono ?_
    rintro e w' ⟨rfl, rfl⟩
    go_wp2_with fail
    refine (rplace_any _ _ _ _ h0 h1 ha hi).mono ?_
    rintro e w' ⟨rfl, rfl⟩
    go_wp2_with fail
    refine (lawway_any n a 200 W1 h0 h1 ha (by omega)).mono ?_
    rintro e w1 ⟨g, cap, rfl, hr, hb⟩
    obtain ⟨L, hL⟩ : ∃ L, ((wayList (startOf n a) a).take 200).length = L := ⟨_, rfl⟩
    have hLa : L = min 200 a.toNat := by rw [← hL, List.length_take, wayList_length]
    have hcells : ∀ j : Nat, j < L → w1.cell? ⟨g, j, none⟩ = some (.int .i64 (placeOf n a j)) := fun j hj =>
      collected_cell hr (by rw [List.getElem?_take, if_pos (by omega), wayList_get n a j (by omega)])
    have HBEL : Hid (Below w.heap.size w w1) := HB1.out.trans (hb.mono HB1.out.size)
    rw [hL]
    have hL200 : L ≤ 200 := by omega
    have hcase : (a ≤ 0 ∧ L ≤ 0) ∨ (1 ≤ a ∧ a ≤ 200 ∧ (L : Int) ≤ a ∧ a ≤ (L : Int)) ∨ (200 < a ∧ 200 ≤ L) := by omega
    have HCL := Lib.hid hcells
    clear hr hb hL hcells hLa HB1
    rcases hcase with ⟨p1, p2⟩ | ⟨p1, p2, p3, p4⟩ | ⟨p1, p2⟩
    all_goals go_wp2_with fail
    all_goals
      go_loopw [10] (fun i wr => ∃ k : Nat, i = .int .i64 k ∧ k ≤ L ∧ TellRel n a L g w wr) (fun i _ => L - (intOf i).toNat)
      case atStart => exact ⟨0, rfl, Nat.zero_le _, HBEL.out, HCL.out⟩
      case round =>
        obtain ⟨k, rfl, hk, hrel⟩ := hrel
        have HR := Lib.hid hrel
        clear hrel
        by_cases hlt : k < L
        · have c1 := HR.out.2 k hlt
          go_wp2_with fail
          go_quiet ((go_at_call 14; exact Calls.quiet_of_same (rplace_is n a k _ h0 h1 ha (by omega))))
          go_wp2_with fail
          go_roundw
          case rel => exact ⟨k + 1, by go_num, by omega, HR.out.drewN _⟩
          case measure => simp [intOf]; omega
        · go_wp2_with fail
          refine (awake_any _).mono ?_
          rintro e w' ⟨rfl, hb⟩
          have HB := Lib.hid hb
          clear hb
          go_wp2_with fail
          go_ret
          exact ⟨rfl, HR.out.1.trans (HB.out.mono HR.out.1.size)⟩

end Go.Proofs.Ytpfbgojgikkgbaa
