/-
  The walk through HeapLocks.
-/
import Derived.Test.YteggbkhlmehpmaaHcopy
namespace Go.Proofs.Yteggbkhlmehpmaa
open Go Go.RowKit
attribute [local go_sem ↓] Go.wp_at_zero Go.wp_at_succ

/-- At p, a slice's address, these bools lie. -/
def Sbl (W : World) (p : Option Addr) (L : List Bool) : Prop := ∀ j (h : j < L.length), ∃ b o, p = some ⟨b, o, none⟩ ∧ W.cell? ⟨b, o + j, none⟩ = some (.bool L[j])
theorem Sbl.grow {W W' : World} {p : Option Addr} {L : List Bool} (h : Sbl W p L) (hb : Below W.heap.size W W') : Sbl W' p L := fun j hj => by
  obtain ⟨b, o, rfl, c⟩ := h j hj
  exact ⟨b, o, rfl, (hb.cell (p := ⟨b, _, none⟩) (cell_lt c)).trans c⟩

theorem lockD_is (b : Bool) (fl : Nat) (X : World) (B p : Nat) (f : Nat → Prop) (h : Hp X B p ⟨[], b, fl⟩ f) : Calls Try.prog 25 #[.pointer (some ⟨p, 0, none⟩)] X (HpR B p f X (.bool (!b)) ⟨[], true, fl⟩) := lock_any X h
theorem unlockT_is (fl : Nat) (X : World) (B p : Nat) (f : Nat → Prop) (h : Hp X B p ⟨[], true, fl⟩ f) (hf : fl < 1000000) : Calls Try.prog 26 #[.pointer (some ⟨p, 0, none⟩)] X (HpR B p f X (.bool true) ⟨[], false, fl⟩) := unlock_any X h hf
theorem unlockF_is (fl : Nat) (X : World) (B p : Nat) (f : Nat → Prop) (h : Hp X B p ⟨[], false, fl⟩ f) (hf : fl < 1000000) : Calls Try.prog 26 #[.pointer (some ⟨p, 0, none⟩)] X (HpR B p f X (.bool false) ⟨[], false, fl + 1⟩) := unlock_any X h hf
theorem lockedD_is (b : Bool) (fl : Nat) (X : World) (B p : Nat) (f : Nat → Prop) (h : Hp X B p ⟨[], b, fl⟩ f) : Calls Try.prog 12 #[.pointer (some ⟨p, 0, none⟩)] X fun e W' => e = .returned (.bool b) ∧ X = W' := locked_any X h
theorem faultsD_is (b : Bool) (fl : Nat) (X : World) (B p : Nat) (f : Nat → Prop) (h : Hp X B p ⟨[], b, fl⟩ f) : Calls Try.prog 11 #[.pointer (some ⟨p, 0, none⟩)] X fun e W' => e = .returned (.int .i64 fl) ∧ X = W' := faults_any X h

set_option maxRecDepth 100000 in
set_option maxHeartbeats 8000000 in
theorem locks_walk (pa : Option Addr) (n c : Nat) (L : List Bool) (W : World) (hs : Sbl W pa L) (hl : L.length = n) (hn : n ≤ maxLen) :
    Calls Try.prog 6 #[.slice pa n c] W (Says true W) := by
  have hn' : (n : Int) ≤ 9223372036854775807 := by simp [maxLen] at hn; omega
  have HS := Lib.hid (fun X (hX : Below W.heap.size W X) => hs.grow hX)
  have HL := Lib.hid hl
  clear hs hl hn
  by_cases hbig : 200 < n
  · have hz : (200 : Int) < (n : Int) := by omega
    clear HS
    go_enter Try.func6, Try.ntmps6
    go_wp2_with fail
    refine (awake_any _).mono ?_
    rintro en w1 ⟨rfl, hb⟩
    have HB := Lib.hid hb
    clear hb
    go_wp2_with fail
    go_ret
    exact Says.mk rfl HB.out
  · have hz : (n : Int) ≤ 200 := by omega
    clear hn'
    go_enter Try.func6, Try.ntmps6
    go_wp2_with fail
    refine (new_any _).mono ?_
    rintro en w1 ⟨p, f1, rfl, h1, hb1⟩
    have H1 := Lib.hid h1
    have B1 := Lib.hid hb1
    clear h1 hb1
    go_wp2_with fail
    go_loopw [4, 5, 6] (fun t fa i wr => ∃ (k fl : Nat) (b : Bool) (f : Nat → Prop), t = .bool b ∧ fa = .int .i64 fl ∧ i = .int .i64 k ∧ k ≤ n ∧ fl ≤ k ∧ Hid (Hp wr W.heap.size p ⟨[], b, fl⟩ f) ∧ Hid (Below W.heap.size W wr)) (fun _ _ i _ => n - (intOf i).toNat)
    case atStart => exact ⟨0, 0, false, f1, rfl, rfl, rfl, Nat.zero_le _, Nat.le_refl _, H1, B1⟩
    case round =>
      clear H1 B1
      obtain ⟨k, fl, b, f, rfl, rfl, rfl, hkn, hflk, H, HB⟩ := hrel
      have hf6 : fl < 1000000 := by omega
      by_cases hlt : k < n
      · have hk0 : (0 : Int) ≤ (k : Int) := by omega
        have hk1 : (k : Int) < (n : Int) := by omega
        have hk2 : (k : Int) ≤ 200 := by omega
        have hfl2 : (fl : Int) ≤ 200 := by omega
        have hfl0 : (0 : Int) ≤ (fl : Int) := by omega
        obtain ⟨ba, oa, rfl, hc⟩ := HS.out _ HB.out k (by rw [HL.out]; exact hlt)
        obtain ⟨x, hx⟩ : ∃ x, L[k]'(by rw [HL.out]; exact hlt) = x := ⟨_, rfl⟩
        rw [hx] at hc
        clear hx
        have HF := Lib.hid hf6
        clear hf6
        have hrl : ∀ (b' : Bool) (fl' : Nat), fl' ≤ k + 1 → ∀ (f2 : Nat → Prop) (w4 : World), Hp w4 W.heap.size p ⟨[], b', fl'⟩ f2 → Below W.heap.size W w4 → True := fun _ _ _ _ _ _ _ => trivial
        clear hrl
        cases x with
        | true =>
          have HStep : Hid (∀ X, HpR W.heap.size p f wr (.bool (!b)) ⟨[], true, fl⟩ (.returned (.bool (!b))) X → ∃ f2, Hp X W.heap.size p ⟨[], true, fl⟩ f2 ∧ Below W.heap.size W X) := fun X ⟨f2, _, h2, s2⟩ => ⟨f2, h2, HB.out.trans (s2.below H.out.size H.out.base)⟩
          cases b
          all_goals
            go_wp2_with fail
            refine (lockD_is _ fl _ _ _ f H.out).mono ?_
            rintro en w2 ⟨f2, rfl, h2, s2⟩
            have H2 := Lib.hid h2
            have HB2 := Lib.hid (HB.out.trans (s2.below H.out.size H.out.base))
            clear h2 s2 hc
            go_wp2_with fail
            refine (lockedD_is true fl _ _ _ f2 H2.out).mono ?_
            rintro en w3 ⟨rfl, rfl⟩
            go_wp2_with fail
            refine (copy_any H2.out).mono ?_
            rintro en w3 ⟨q, f3, rfl, h3, hb3⟩
            have H3 := Lib.hid h3
            have H4 := Lib.hid (H2.out.below hb3)
            have HB4 := Lib.hid (HB2.out.trans (hb3.mono HB2.out.size))
            clear h3 hb3
            go_wp2_with fail
            refine (lockedD_is true fl _ _ _ f3 H3.out).mono ?_
            rintro en w4 ⟨rfl, rfl⟩
            go_wp2_with fail
            go_roundw
            case rel => exact ⟨k + 1, fl, true, f2, rfl, rfl, by go_num, by omega, by omega, H4, HB4⟩
            case measure => simp [intOf]; omega
        | false =>
          cases b with
          | true =>
            go_wp2_with fail
            refine (unlockT_is fl _ _ _ f H.out HF.out).mono ?_
            rintro en w2 ⟨f2, rfl, h2, s2⟩
            have H2 := Lib.hid h2
            have HB2 := Lib.hid (HB.out.trans (s2.below H.out.size H.out.base))
            clear h2 s2 hc
            go_wp2_with fail
            refine (lockedD_is false fl _ _ _ f2 H2.out).mono ?_
            rintro en w3 ⟨rfl, rfl⟩
            go_wp2_with fail
            refine (copy_any H2.out).mono ?_
            rintro en w3 ⟨q, f3, rfl, h3, hb3⟩
            have H3 := Lib.hid h3
            have H4 := Lib.hid (H2.out.below hb3)
            have HB4 := Lib.hid (HB2.out.trans (hb3.mono HB2.out.size))
            clear h3 hb3
            go_wp2_with fail
            refine (lockedD_is false fl _ _ _ f3 H3.out).mono ?_
            rintro en w4 ⟨rfl, rfl⟩
            go_wp2_with fail
            go_roundw
            case rel => exact ⟨k + 1, fl, false, f2, rfl, rfl, by go_num, by omega, by omega, H4, HB4⟩
            case measure => simp [intOf]; omega
          | false =>
            go_wp2_with fail
            refine (unlockF_is fl _ _ _ f H.out HF.out).mono ?_
            rintro en w2 ⟨f2, rfl, h2, s2⟩
            have H2 := Lib.hid h2
            have HB2 := Lib.hid (HB.out.trans (s2.below H.out.size H.out.base))
            clear h2 s2 hc
            go_wp2_with fail
            refine (lockedD_is false (fl + 1) _ _ _ f2 H2.out).mono ?_
            rintro en w3 ⟨rfl, rfl⟩
            go_wp2_with fail
            refine (copy_any H2.out).mono ?_
            rintro en w3 ⟨q, f3, rfl, h3, hb3⟩
            have H3 := Lib.hid h3
            have H4 := Lib.hid (H2.out.below hb3)
            have HB4 := Lib.hid (HB2.out.trans (hb3.mono HB2.out.size))
            clear h3 hb3
            go_wp2_with fail
            refine (lockedD_is false (fl + 1) _ _ _ f3 H3.out).mono ?_
            rintro en w4 ⟨rfl, rfl⟩
            go_wp2_with fail
            go_roundw
            case rel => exact ⟨k + 1, fl + 1, false, f2, rfl, by go_num, by go_num, by omega, by omega, H4, HB4⟩
            case measure => simp [intOf]; omega
      · obtain rfl : n = k := by omega
        clear hlt hkn hf6
        go_wp2_with fail
        refine (faultsD_is b fl _ _ _ f H.out).mono ?_
        rintro en w2 ⟨rfl, rfl⟩
        go_wp2_with fail
        refine (blocks_none _ H.out NoneThere.nil).mono ?_
        rintro en w3 ⟨rfl, hb3⟩
        have HB3 := Lib.hid (HB.out.trans (hb3.mono HB.out.size))
        clear hb3
        go_wp2_with fail
        refine (awake_any _).mono ?_
        rintro en w4 ⟨rfl, hb4⟩
        have HB4 := Lib.hid (HB3.out.trans (hb4.mono HB3.out.size))
        clear hb4
        go_wp2_with fail
        go_ret
        exact Says.mk rfl HB4.out

end Go.Proofs.Yteggbkhlmehpmaa
