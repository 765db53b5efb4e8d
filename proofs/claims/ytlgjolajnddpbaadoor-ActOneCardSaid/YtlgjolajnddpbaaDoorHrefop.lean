/-
  The reference's cell, Load, Store, Swap, Bump, Words, Drop, Lock, Unlock, Size.
-/
import Derived.Test.YtlgjolajnddpbaaDoorHrefind
namespace Go.Proofs.YtlgjolajnddpbaaDoor
open Go Go.RowKit
attribute [local go_sem ↓] Go.wp_at_zero Go.wp_at_succ

section
variable {B p : Nat} {D : HpD} {f : Nat → Prop} {v : Value} {g cp : Nat → Nat}

/-- Where a block's cells lie. -/
theorem RfAt.idx {W : World} (h : RfAt W B p D f v g cp) {k : Nat} {b : BlkD} (hb : liveAt D.L k = some b) :
    ∃ j n q cap : Nat, k = j + 1 ∧ (k : Int) = (j : Int) + 1 ∧ D.L[j]? = some b ∧ b.gone = false ∧ v = .slice (some ⟨q, 0, none⟩) n cap ∧ v.ownBlock = some q ∧
    (0 : Int) ≤ (j : Int) ∧ (j : Int) < (n : Int) ∧ (j : Int) ≤ 1000000 ∧
    ∀ X, Below W.heap.size W X → X.cell? ⟨p, 0, none⟩ = some (.slice (some ⟨q, 0, none⟩) n cap) ∧ X.cell? ⟨q, j * 3, none⟩ = some (.slice (some ⟨g j, 0, none⟩) b.ws.length (cp j)) ∧ X.cell? ⟨q, j * 3 + 1, none⟩ = some (.string b.text) ∧ X.cell? ⟨q, j * 3 + 2, none⟩ = some (.bool false) ∧ X.frozen? ⟨q, j * 3 + 2, none⟩ = false := by
  obtain ⟨j, rfl, hj, hg, hlt⟩ := live_row hb
  obtain ⟨q, cap, hv, _, _, _, _⟩ := h.blk hj
  have hm := h.many.1
  refine ⟨j, D.L.length, q, cap, rfl, rfl, hj, hg, hv, by rw [hv]; rfl, by omega, by omega, by omega, fun X hX => ?_⟩
  have h' := h.below hX
  obtain ⟨q', cap', hv', r1, r2, r3, r4⟩ := h'.blk hj
  rw [hv] at hv'
  cases hv'
  obtain ⟨c0, _⟩ := h'.cells
  rw [hv] at c0
  rw [hg] at r3
  exact ⟨c0, r1, r2, r3, r4⟩

set_option maxRecDepth 100000 in
set_option maxHeartbeats 1000000 in
theorem rcell_hit (W : World) (h : RfAt W B p D f v g cp) (k : Nat) (b : BlkD) (hb : liveAt D.L k = some b) (i : Nat) (hi : i < b.ws.length) :
    Calls Tryd.prog 57 #[.pointer (some ⟨p, 0, none⟩), .int .u64 (k : Int), .int .i64 (i : Int)] W fun e W' => e = .returned (.int .i64 0) ∧ W = W' := by
  have HC := Lib.hid (rfind_hit W h k b hb)
  obtain ⟨j, n, q, cap, hk, hkz, hj, hg, hv, hq, hz1, hz2, hz3, hX⟩ := h.idx hb
  obtain ⟨c0, r1, r2, r3, r4⟩ := hX W (Below.refl _ _)
  rw [hkz] at HC ⊢
  obtain ⟨m, hm⟩ : ∃ m, b.ws.length = m := ⟨_, rfl⟩
  rw [hm] at r1 hi
  have hi0 : (0 : Int) ≤ (i : Int) := by omega
  have hi1 : (i : Int) < (m : Int) := by omega
  clear hX hk hkz hj hg hv hq r2 r3 r4 hm hb h hi
  go_enter Tryd.func57, Tryd.ntmps57
  go_wp2_with fail
  refine HC.out.mono ?_
  rintro en w1 ⟨rfl, rfl⟩
  go_wp2_with fail
  go_ret
  exact ⟨rfl, rfl⟩

set_option maxRecDepth 100000 in
set_option maxHeartbeats 1000000 in
theorem rcell_none (W : World) (h : RfAt W B p D f v g cp) (hf : D.faults < 1000000) (k : Nat) (hk : k < 18446744073709551616) (i : Int) (hs : spot D.L k i ≠ 0) :
    Calls Tryd.prog 57 #[.pointer (some ⟨p, 0, none⟩), .int .u64 (k : Int), .int .i64 i] W (RLost B p D f v g cp (spot D.L k i) W) := by
  cases hb : liveAt D.L k with
  | none =>
    have HC := Lib.hid (rfind_miss W h hf k hk hb)
    have hcode := spot_bool hs
    rw [spot_lost hb] at hcode ⊢
    obtain ⟨c, hc⟩ : ∃ c, lostAt D.L k = c := ⟨_, rfl⟩
    rw [hc] at HC hcode ⊢
    obtain ⟨z, hz⟩ : ∃ z, (k : Int) = z := ⟨_, rfl⟩
    rw [hz] at HC ⊢
    unfold RLost at HC
    clear hz hc hs hb h hk hf
    go_enter Tryd.func57, Tryd.ntmps57
    go_wp2_with fail
    refine HC.out.mono ?_
    rintro en w1 ⟨rfl, h1, s1⟩
    have H1 := Lib.hid h1
    have S1 := Lib.hid s1
    clear h1 s1
    go_wp2_with fail
    go_ret
    exact ⟨rfl, H1.out, S1.out⟩
  | some b =>
    have HC := Lib.hid (rfind_hit W h k b hb)
    have HF := Lib.hid (h.setFaults hf)
    obtain ⟨-, -, c2, -, -, e2⟩ := h.cells
    rw [spot_some hb] at hs ⊢
    obtain ⟨j, n, q, cap, hk', hkz, hj, hg, hv, hq, hz1, hz2, hz3, hX⟩ := h.idx hb
    obtain ⟨c0, r1, r2, r3, r4⟩ := hX W (Below.refl _ _)
    rw [hkz] at HC ⊢
    have hoff : i < 0 ∨ (b.ws.length : Int) ≤ i := Classical.byContradiction fun hn => by rw [if_neg hn] at hs; exact hs rfl
    rw [if_pos hoff]
    obtain ⟨m, hm⟩ : ∃ m, b.ws.length = m := ⟨_, rfl⟩
    rw [hm] at r1 hoff
    obtain ⟨fl, hfl⟩ : ∃ n, D.faults = n := ⟨_, rfl⟩
    rw [hfl] at c2 HF hf
    have hf0 : (0 : Int) ≤ (fl : Int) := by omega
    have hf1 : (fl : Int) < 1000000 := by omega
    have HB := Lib.hid (And.intro hf0 (And.intro hf1 (And.intro c2 e2)))
    have hm0 : (0 : Int) ≤ (m : Int) := by omega
    clear hX hk' hkz hj hg hv hq r2 r3 r4 hm hb h hs hk hf hf0 hf1 c2 e2 hfl
    have hof2 : i < 0 ∨ (0 ≤ i ∧ (m : Int) ≤ i) := by omega
    clear hoff
    rcases hof2 with hi0 | ⟨hi0, hi1⟩
    · go_enter Tryd.func57, Tryd.ntmps57
      go_wp2_with fail
      refine HC.out.mono ?_
      rintro en w1 ⟨rfl, rfl⟩
      go_upto_region 3 with fail
      clear hz1 hz2 hz3 c0 r1 hi0 hm0
      obtain ⟨hf0, hf1, c2, e2⟩ := HB.out
      go_wp2_with fail
      go_ret
      exact ⟨rfl, HF.out⟩
    · go_enter Tryd.func57, Tryd.ntmps57
      go_wp2_with fail
      refine HC.out.mono ?_
      rintro en w1 ⟨rfl, rfl⟩
      go_upto_region 3 with fail
      clear hz1 hz2 hz3 c0 r1 hi0 hi1 hm0
      obtain ⟨hf0, hf1, c2, e2⟩ := HB.out
      go_wp2_with fail
      go_ret
      exact ⟨rfl, HF.out⟩

set_option maxRecDepth 100000 in
set_option maxHeartbeats 1000000 in
theorem rload_any (W : World) (h : Rf W B p D f) (hf : D.faults < 1000000) (k : Nat) (hk : k < 18446744073709551616) (i : Int) :
    Calls Tryd.prog 31 #[.pointer (some ⟨p, 0, none⟩), .int .u64 (k : Int), .int .i64 i] W (RfR B p f W (TwoV (loadV D k i) (spot D.L k i)) (loadD D k i)) := by
  obtain ⟨v, g, cp, h⟩ := h
  by_cases hs : spot D.L k i = 0
  · obtain ⟨b, j', hb, rfl, hi⟩ := spot_zero hs
    have HC := Lib.hid (rcell_hit W h k b hb j' hi)
    have HH := Lib.hid h
    unfold loadD loadV
    rw [if_pos hs, if_pos hs, wordAt_hit hb hi, spot_hit hb hi]
    obtain ⟨j, n, q, cap, hk', hkz, hj, hg, hv, hq, hz1, hz2, hz3, hX⟩ := h.idx hb
    obtain ⟨c0, r1, r2, r3, r4⟩ := hX W (Below.refl _ _)
    have hw := (h.setWord hj j' hi 0).1
    unfold uval at hw
    rw [hkz] at HC ⊢
    obtain ⟨x, hx⟩ : ∃ x, b.ws[j'] = x := ⟨_, rfl⟩
    obtain ⟨m, hm⟩ : ∃ m, b.ws.length = m := ⟨_, rfl⟩
    obtain ⟨d, hd⟩ : ∃ d, g j = d := ⟨_, rfl⟩
    rw [hd] at r1 hw
    rw [hx] at hw ⊢
    rw [hm] at r1 hi
    have hi0 : (0 : Int) ≤ (j' : Int) := by omega
    have hi1 : (j' : Int) < (m : Int) := by omega
    clear hX hk' hkz hj hg hv hq r2 r3 r4 hm hd hx hb h hs hk hf hi
    go_enter Tryd.func31, Tryd.ntmps31
    go_wp2_with fail
    refine HC.out.mono ?_
    rintro en w1 ⟨rfl, rfl⟩
    go_wp2_with fail
    go_ret2
    exact ⟨f, rfl, ⟨v, g, cp, HH.out⟩, Step.refl _ _⟩
  · have HC := Lib.hid (rcell_none W h hf k hk i hs)
    have hcode := spot_bool hs
    unfold loadD loadV
    rw [if_neg hs, if_neg hs]
    obtain ⟨c, hc⟩ : ∃ c, spot D.L k i = c := ⟨_, rfl⟩
    rw [hc] at HC hcode ⊢
    obtain ⟨z, hz⟩ : ∃ z, (k : Int) = z := ⟨_, rfl⟩
    rw [hz] at HC ⊢
    unfold RLost at HC
    clear hz hc hs h hk hf
    go_enter Tryd.func31, Tryd.ntmps31
    go_wp2_with fail
    refine HC.out.mono ?_
    rintro en w1 ⟨rfl, h1, s1⟩
    have H1 := Lib.hid h1
    have S1 := Lib.hid s1
    clear h1 s1
    go_wp2_with fail
    go_ret2
    exact ⟨f, rfl, ⟨v, g, cp, H1.out⟩, S1.out⟩

set_option maxRecDepth 100000 in
set_option maxHeartbeats 1000000 in
theorem rstore_any (W : World) (h : Rf W B p D f) (hf : D.faults < 1000000) (k : Nat) (hk : k < 18446744073709551616) (i u : Int) :
    Calls Tryd.prog 38 #[.pointer (some ⟨p, 0, none⟩), .int .u64 (k : Int), .int .i64 i, .int .u64 u] W (RfR B p f W (.int .i64 (spot D.L k i)) (storeD D k i u)) := by
  obtain ⟨v, g, cp, h⟩ := h
  by_cases hs : spot D.L k i = 0
  · obtain ⟨b, j', hb, rfl, hi⟩ := spot_zero hs
    have HC := Lib.hid (rcell_hit W h k b hb j' hi)
    unfold storeD
    rw [if_pos hs, word_hit hb, spot_hit hb hi]
    obtain ⟨j, n, q, cap, hk', hkz, hj, hg, hv, hq, hz1, hz2, hz3, hX⟩ := h.idx hb
    obtain ⟨c0, r1, r2, r3, r4⟩ := hX W (Below.refl _ _)
    obtain ⟨hw, hfz, hS1, hS2⟩ := h.setWord hj j' hi u
    unfold uval at hw hS1 hS2
    rw [hg, ← hk'] at hS1
    have HS := Lib.hid (And.intro hS1 hS2)
    rw [hkz] at HC ⊢
    obtain ⟨x, hx⟩ : ∃ x, b.ws[j'] = x := ⟨_, rfl⟩
    obtain ⟨m, hm⟩ : ∃ m, b.ws.length = m := ⟨_, rfl⟩
    obtain ⟨d, hd⟩ : ∃ d, g j = d := ⟨_, rfl⟩
    rw [hd] at r1 hw hfz HS
    rw [hx] at hw
    rw [hm] at r1 hi
    have hi0 : (0 : Int) ≤ (j' : Int) := by omega
    have hi1 : (j' : Int) < (m : Int) := by omega
    clear hX hk' hkz hj hg hv hq r2 r3 r4 hm hd hx hb h hs hk hf hi hS1 hS2
    go_enter Tryd.func38, Tryd.ntmps38
    go_wp2_with fail
    refine HC.out.mono ?_
    rintro en w1 ⟨rfl, rfl⟩
    go_wp2_with fail
    go_ret
    exact ⟨f, rfl, ⟨v, g, cp, HS.out.1⟩, HS.out.2⟩
  · have HC := Lib.hid (rcell_none W h hf k hk i hs)
    have hcode := spot_bool hs
    unfold storeD
    rw [if_neg hs]
    obtain ⟨c, hc⟩ : ∃ c, spot D.L k i = c := ⟨_, rfl⟩
    rw [hc] at HC hcode ⊢
    obtain ⟨z, hz⟩ : ∃ z, (k : Int) = z := ⟨_, rfl⟩
    rw [hz] at HC ⊢
    unfold RLost at HC
    clear hz hc hs h hk hf
    go_enter Tryd.func38, Tryd.ntmps38
    go_wp2_with fail
    refine HC.out.mono ?_
    rintro en w1 ⟨rfl, h1, s1⟩
    have H1 := Lib.hid h1
    have S1 := Lib.hid s1
    clear h1 s1
    go_wp2_with fail
    go_ret
    exact ⟨f, rfl, ⟨v, g, cp, H1.out⟩, S1.out⟩
end
end Go.Proofs.YtlgjolajnddpbaaDoor
