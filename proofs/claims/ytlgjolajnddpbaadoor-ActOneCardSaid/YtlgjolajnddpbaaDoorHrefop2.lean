/-
  The reference's Swap, Bump, Words, Drop, Lock, Unlock, Size.
-/
import Derived.Test.YtlgjolajnddpbaaDoorHrefop
namespace Go.Proofs.YtlgjolajnddpbaaDoor
open Go Go.RowKit
attribute [local go_sem ↓] Go.wp_at_zero Go.wp_at_succ

section
variable {B p : Nat} {D : HpD} {f : Nat → Prop}

set_option maxRecDepth 100000 in
set_option maxHeartbeats 1000000 in
theorem rswap_any (W : World) (h : Rf W B p D f) (hf : D.faults < 1000000) (k : Nat) (hk : k < 18446744073709551616) (i o u : Int) :
    Calls Tryd.prog 39 #[.pointer (some ⟨p, 0, none⟩), .int .u64 (k : Int), .int .i64 i, .int .u64 o, .int .u64 u] W (RfR B p f W (TwoV (loadV D k i) (spot D.L k i)) (swapD D k i o u)) := by
  have HL := rload_any W h hf k hk i
  by_cases hs : spot D.L k i = 0
  · have HS := Lib.hid (fun Y f1 (hY : Rf Y B p D f1) => by
      have := rstore_any Y hY hf k hk i u
      unfold storeD at this
      rw [if_pos hs, hs] at this
      exact this)
    unfold swapD
    unfold loadD loadV at HL
    unfold loadV
    rw [if_pos hs, if_pos hs, hs] at HL
    rw [if_pos hs, if_pos hs, hs]
    obtain ⟨x, hx⟩ : ∃ x, wordAt D.L k i = x := ⟨_, rfl⟩
    rw [hx] at HL ⊢
    obtain ⟨z, hz⟩ : ∃ z, (k : Int) = z := ⟨_, rfl⟩
    rw [hz] at HL HS ⊢
    have HL := Lib.hid HL
    clear hz hx hs h hk hf
    by_cases hxo : x = o
    · rw [if_pos hxo]
      have hxb : (x == o) = true := by rw [beq_iff_eq]; exact hxo
      clear hxo
      go_enter Tryd.func39, Tryd.ntmps39
      go_wp2_with fail
      refine HL.out.mono ?_
      rintro en w1 ⟨f1, rfl, h1, s1⟩
      have H1 := Lib.hid h1
      have S1 := Lib.hid s1
      clear h1 s1
      go_wp2_with fail
      refine (HS.out _ _ H1.out).mono ?_
      rintro en w2 ⟨f2, rfl, h2, s2⟩
      have H2 := Lib.hid h2
      have S2 := Lib.hid s2
      clear h2 s2
      go_wp2_with fail
      go_ret2
      exact ⟨f2, rfl, H2.out, S1.out.trans S2.out⟩
    · rw [if_neg hxo]
      have hxb : (x == o) = false := by rw [beq_eq_false_iff_ne]; exact hxo
      clear hxo
      go_enter Tryd.func39, Tryd.ntmps39
      go_wp2_with fail
      refine HL.out.mono ?_
      rintro en w1 ⟨f1, rfl, h1, s1⟩
      have H1 := Lib.hid h1
      have S1 := Lib.hid s1
      clear h1 s1
      go_wp2_with fail
      go_ret2
      exact ⟨f1, rfl, H1.out, S1.out⟩
  · have hcode := spot_bool hs
    unfold swapD
    unfold loadD loadV at HL
    unfold loadV
    rw [if_neg hs, if_neg hs] at HL
    rw [if_neg hs, if_neg hs]
    obtain ⟨c, hc⟩ : ∃ c, spot D.L k i = c := ⟨_, rfl⟩
    rw [hc] at HL hcode ⊢
    obtain ⟨z, hz⟩ : ∃ z, (k : Int) = z := ⟨_, rfl⟩
    rw [hz] at HL ⊢
    have HL := Lib.hid HL
    clear hz hc hs h hk hf
    go_enter Tryd.func39, Tryd.ntmps39
    go_wp2_with fail
    refine HL.out.mono ?_
    rintro en w1 ⟨f1, rfl, h1, s1⟩
    have H1 := Lib.hid h1
    have S1 := Lib.hid s1
    clear h1 s1
    go_wp2_with fail
    go_ret2
    exact ⟨f1, rfl, H1.out, S1.out⟩

set_option maxRecDepth 100000 in
set_option maxHeartbeats 1000000 in
theorem rbump_any (W : World) (h : Rf W B p D f) (hf : D.faults < 1000000) (k : Nat) (hk : k < 18446744073709551616) (i u : Int) :
    Calls Tryd.prog 40 #[.pointer (some ⟨p, 0, none⟩), .int .u64 (k : Int), .int .i64 i, .int .u64 u] W (RfR B p f W (TwoV (loadV D k i) (spot D.L k i)) (bumpD D k i u)) := by
  have HL := rload_any W h hf k hk i
  by_cases hs : spot D.L k i = 0
  · have HS := Lib.hid (fun Y f1 (hY : Rf Y B p D f1) x => by
      have := rstore_any Y hY hf k hk i x
      unfold storeD at this
      rw [if_pos hs, hs] at this
      exact this)
    unfold bumpD
    unfold loadD loadV at HL
    unfold loadV
    rw [if_pos hs, if_pos hs, hs] at HL
    rw [if_pos hs, if_pos hs, hs]
    obtain ⟨x, hx⟩ : ∃ x, wordAt D.L k i = x := ⟨_, rfl⟩
    rw [hx] at HL ⊢
    obtain ⟨z, hz⟩ : ∃ z, (k : Int) = z := ⟨_, rfl⟩
    rw [hz] at HL HS ⊢
    have HL := Lib.hid HL
    clear hz hx hs h hk hf
    go_enter Tryd.func40, Tryd.ntmps40
    go_wp2_with fail
    refine HL.out.mono ?_
    rintro en w1 ⟨f1, rfl, h1, s1⟩
    have H1 := Lib.hid h1
    have S1 := Lib.hid s1
    clear h1 s1
    go_wp2_with fail
    refine (HS.out _ _ H1.out _).mono ?_
    rintro en w2 ⟨f2, rfl, h2, s2⟩
    have H2 := Lib.hid h2
    have S2 := Lib.hid s2
    clear h2 s2
    go_wp2_with fail
    go_ret2
    exact ⟨f2, rfl, H2.out, S1.out.trans S2.out⟩
  · have hcode := spot_bool hs
    unfold bumpD
    unfold loadD loadV at HL
    unfold loadV
    rw [if_neg hs, if_neg hs] at HL
    rw [if_neg hs, if_neg hs]
    obtain ⟨c, hc⟩ : ∃ c, spot D.L k i = c := ⟨_, rfl⟩
    rw [hc] at HL hcode ⊢
    obtain ⟨z, hz⟩ : ∃ z, (k : Int) = z := ⟨_, rfl⟩
    rw [hz] at HL ⊢
    have HL := Lib.hid HL
    clear hz hc hs h hk hf
    go_enter Tryd.func40, Tryd.ntmps40
    go_wp2_with fail
    refine HL.out.mono ?_
    rintro en w1 ⟨f1, rfl, h1, s1⟩
    have H1 := Lib.hid h1
    have S1 := Lib.hid s1
    clear h1 s1
    go_wp2_with fail
    go_ret2
    exact ⟨f1, rfl, H1.out, S1.out⟩

theorem lost_bool (L : List BlkD) (k : Nat) : ((lostAt L k) == 0) = false := by rw [beq_eq_false_iff_ne]; rcases lost_nz L k with h | h <;> rw [h] <;> decide
theorem lost_ne (L : List BlkD) (k : Nat) : lostAt L k ≠ 0 := by rcases lost_nz L k with h | h <;> rw [h] <;> decide

set_option maxRecDepth 100000 in
set_option maxHeartbeats 1000000 in
theorem rwords_any (W : World) (h : Rf W B p D f) (hf : D.faults < 1000000) (k : Nat) (hk : k < 18446744073709551616) :
    Calls Tryd.prog 42 #[.pointer (some ⟨p, 0, none⟩), .int .u64 (k : Int)] W (RfR B p f W (.tuple #[.string (textAt D.L k), .int .i64 (there D.L k)]) (wordsD D k)) := by
  obtain ⟨v, g, cp, h⟩ := h
  cases hb : liveAt D.L k with
  | some b =>
    have HC := Lib.hid (rfind_hit W h k b hb)
    have HH := Lib.hid h
    unfold wordsD
    rw [textAt_hit hb, there_hit hb, if_pos rfl]
    obtain ⟨j, n, q, cap, hk', hkz, hj, hg, hv, hq, hz1, hz2, hz3, hX⟩ := h.idx hb
    obtain ⟨c0, r1, r2, r3, r4⟩ := hX W (Below.refl _ _)
    rw [hkz] at HC ⊢
    obtain ⟨t, ht⟩ : ∃ t, b.text = t := ⟨_, rfl⟩
    rw [ht] at r2 ⊢
    clear hX hk' hkz hj hg hv hq r1 r3 r4 ht hb h hk hf
    go_enter Tryd.func42, Tryd.ntmps42
    go_wp2_with fail
    refine HC.out.mono ?_
    rintro en w1 ⟨rfl, rfl⟩
    go_wp2_with fail
    go_ret2
    exact ⟨f, rfl, ⟨v, g, cp, HH.out⟩, Step.refl _ _⟩
  | none =>
    have HC := Lib.hid (rfind_miss W h hf k hk hb)
    have hcode := lost_bool D.L k
    unfold wordsD
    rw [textAt_lost hb, there_lost hb, if_neg (lost_ne _ _)]
    obtain ⟨c, hc⟩ : ∃ c, lostAt D.L k = c := ⟨_, rfl⟩
    rw [hc] at HC hcode ⊢
    obtain ⟨z, hz⟩ : ∃ z, (k : Int) = z := ⟨_, rfl⟩
    rw [hz] at HC ⊢
    unfold RLost at HC
    clear hz hc hb h hk hf
    go_enter Tryd.func42, Tryd.ntmps42
    go_wp2_with fail
    refine HC.out.mono ?_
    rintro en w1 ⟨rfl, h1, s1⟩
    have H1 := Lib.hid h1
    have S1 := Lib.hid s1
    clear h1 s1
    go_wp2_with fail
    go_ret2
    exact ⟨f, rfl, ⟨v, g, cp, H1.out⟩, S1.out⟩

set_option maxRecDepth 100000 in
set_option maxHeartbeats 1000000 in
theorem rdrop_any (W : World) (h : Rf W B p D f) (hf : D.faults < 1000000) (k : Nat) (hk : k < 18446744073709551616) :
    Calls Tryd.prog 43 #[.pointer (some ⟨p, 0, none⟩), .int .u64 (k : Int)] W (RfR B p f W (.int .i64 (there D.L k)) (dropD D k)) := by
  obtain ⟨v, g, cp, h⟩ := h
  cases hb : liveAt D.L k with
  | some b =>
    have HC := Lib.hid (rfind_hit W h k b hb)
    unfold dropD
    rw [there_hit hb, if_pos rfl, lose_hit hb]
    obtain ⟨j, n, q, cap, hk', hkz, hj, hg, hv, hq, hz1, hz2, hz3, hX⟩ := h.idx hb
    obtain ⟨c0, r1, r2, r3, r4⟩ := hX W (Below.refl _ _)
    have hS := h.setGone hj hq
    rw [← hk'] at hS
    have HS := Lib.hid hS
    rw [hkz] at HC ⊢
    clear hX hk' hkz hj hg hv hq r1 r2 hb h hk hf hS
    go_enter Tryd.func43, Tryd.ntmps43
    go_wp2_with fail
    refine HC.out.mono ?_
    rintro en w1 ⟨rfl, rfl⟩
    go_wp2_with fail
    go_ret
    exact ⟨f, rfl, ⟨v, g, cp, HS.out.1⟩, HS.out.2⟩
  | none =>
    have HC := Lib.hid (rfind_miss W h hf k hk hb)
    have hcode := lost_bool D.L k
    unfold dropD
    rw [there_lost hb, if_neg (lost_ne _ _)]
    obtain ⟨c, hc⟩ : ∃ c, lostAt D.L k = c := ⟨_, rfl⟩
    rw [hc] at HC hcode ⊢
    obtain ⟨z, hz⟩ : ∃ z, (k : Int) = z := ⟨_, rfl⟩
    rw [hz] at HC ⊢
    unfold RLost at HC
    clear hz hc hb h hk hf
    go_enter Tryd.func43, Tryd.ntmps43
    go_wp2_with fail
    refine HC.out.mono ?_
    rintro en w1 ⟨rfl, h1, s1⟩
    have H1 := Lib.hid h1
    have S1 := Lib.hid s1
    clear h1 s1
    go_wp2_with fail
    go_ret
    exact ⟨f, rfl, ⟨v, g, cp, H1.out⟩, S1.out⟩

theorem rlock_any (W : World) (h : Rf W B p D f) : Calls Tryd.prog 44 #[.pointer (some ⟨p, 0, none⟩)] W (RfR B p f W (.bool (!D.locked)) (D.lock true)) := by
  obtain ⟨v, g, cp, h⟩ := h
  obtain ⟨-, c1, -, -, f1, -⟩ := h.cells
  have HF := Lib.hid (h.setLock true)
  obtain ⟨l, hl⟩ : ∃ l, D.locked = l := ⟨_, rfl⟩
  rw [hl] at c1 ⊢
  clear h hl
  go_enter Tryd.func44, Tryd.ntmps44
  go_wp2_with fail
  go_ret
  exact ⟨f, rfl, ⟨v, g, cp, HF.out.1⟩, HF.out.2⟩

set_option maxRecDepth 100000 in
theorem runlock_any (W : World) (h : Rf W B p D f) (hf : D.faults < 1000000) : Calls Tryd.prog 45 #[.pointer (some ⟨p, 0, none⟩)] W (RfR B p f W (.bool D.locked) (unlockD D)) := by
  obtain ⟨v, g, cp, h⟩ := h
  have hL := h.setLock false
  have hG := hL.1.setFaults (D := D.lock false) hf
  obtain ⟨-, c1, c2, -, f1, f2⟩ := h.cells
  have HF := Lib.hid hL
  have HG := Lib.hid hG
  unfold unlockD
  obtain ⟨l, hl⟩ : ∃ l, D.locked = l := ⟨_, rfl⟩
  have HL := Lib.hid hl
  obtain ⟨fl, hfl⟩ : ∃ fl, D.faults = fl := ⟨_, rfl⟩
  have hfl2 : (D.lock false).faults = fl := hfl
  rw [hfl2] at HG
  rw [hfl] at c2 hf
  rw [hl] at c1 ⊢
  have hf0 : (0 : Int) ≤ (fl : Int) := by omega
  have hf1 : (fl : Int) ≤ 1000000 := by omega
  clear h hl hf hfl hfl2 hL hG
  cases l with
  | true =>
    clear HG
    go_enter Tryd.func45, Tryd.ntmps45
    go_wp2_with fail
    go_ret
    exact ⟨f, rfl, ⟨v, g, cp, HF.out.1⟩, HF.out.2⟩
  | false =>
    go_enter Tryd.func45, Tryd.ntmps45
    go_wp2_with fail
    go_ret
    have e : (D.lock false).fault = D.fault := by
      have := HL.out
      cases D
      simp only at this
      subst this
      rfl
    have HG1 := HG.out
    rw [e] at HG1
    exact ⟨f, rfl, ⟨v, g, cp, HG1.1⟩, HF.out.2.trans HG1.2⟩

set_option maxRecDepth 100000 in
set_option maxHeartbeats 1000000 in
theorem rsize_any (W : World) (h : Rf W B p D f) (k : Nat) (hk : k < 18446744073709551616) :
    Calls Tryd.prog 30 #[.pointer (some ⟨p, 0, none⟩), .int .u64 (k : Int)] W fun e W' => e = .returned (.int .i64 (sizeAt D.L k)) ∧ W = W' := by
  obtain ⟨v, g, cp, h⟩ := h
  cases hb : liveAt D.L k with
  | some b =>
    have e : sizeAt D.L k = b.ws.length := by unfold sizeAt; rw [hb]
    rw [e]
    obtain ⟨j, n, q, cap, hk', hkz, hj, hg, hv, hq, hz1, hz2, hz3, hX⟩ := h.idx hb
    obtain ⟨c0, r1, r2, r3, r4⟩ := hX W (Below.refl _ _)
    have hm := h.many.1
    have hnn : n = D.L.length := by
      obtain ⟨q', cap', hv', _⟩ := h.blk hj
      rw [hv] at hv'; cases hv'; rfl
    rw [← hnn] at hm
    have hz4 : (n : Int) ≤ 1000000 := by omega
    have hz5 : (((j : Int) + 1) == 0) = false := by rw [beq_eq_false_iff_ne]; omega
    have hz6 : (j : Int) + 1 ≤ (n : Int) := by omega
    rw [hkz]
    obtain ⟨m, hm⟩ : ∃ m, b.ws.length = m := ⟨_, rfl⟩
    rw [hm] at r1 ⊢
    clear hX hk' hkz hj hg hv hq r2 r4 hm hb h hk e hnn
    go_enter Tryd.func30, Tryd.ntmps30
    go_wp2_with fail
    go_ret
    exact ⟨rfl, rfl⟩
  | none =>
    have e : sizeAt D.L k = 0 := by unfold sizeAt; rw [hb]
    rw [e]
    have hm := h.many.1
    obtain ⟨c0, _⟩ := h.cells
    rcases lost_row hb with ⟨rfl, hl⟩ | ⟨hlt, hl⟩ | ⟨j, b, rfl, hj, hg, hlt, hl⟩
    · clear c0 hl hb hm h e
      go_enter Tryd.func30, Tryd.ntmps30
      go_wp2_with fail
      go_ret
      exact ⟨rfl, rfl⟩
    · have hz1 : ((k : Int) == 0) = false := by rw [beq_eq_false_iff_ne]; omega
      obtain ⟨z, hz⟩ : ∃ z, (k : Int) = z := ⟨_, rfl⟩
      obtain ⟨a, c, hv⟩ := h.row.form
      rw [hv] at c0
      obtain ⟨n, hn⟩ : ∃ n, D.L.length = n := ⟨_, rfl⟩
      rw [hn] at c0 hm hlt
      have hz2 : (n : Int) < z := by omega
      have hz3 : (n : Int) ≤ 1000000 := by omega
      rw [hz] at hz1 ⊢
      clear hl hb hm h hz hn hlt hv e
      go_enter Tryd.func30, Tryd.ntmps30
      go_wp2_with fail
      go_ret
      exact ⟨rfl, rfl⟩
    · obtain ⟨q, cap, hv, r1, r2, r3, r4⟩ := h.blk hj
      rw [hv] at c0
      rw [hg] at r3
      obtain ⟨n, hn⟩ : ∃ n, D.L.length = n := ⟨_, rfl⟩
      rw [hn] at c0 hm hlt
      have hz0 : (0 : Int) ≤ (j : Int) := by omega
      have hz1 : (((j : Int) + 1) == 0) = false := by rw [beq_eq_false_iff_ne]; omega
      have hz2 : (j : Int) + 1 ≤ (n : Int) := by omega
      have hz3 : (n : Int) ≤ 1000000 := by omega
      have hz4 : (j : Int) ≤ 1000000 := by omega
      have hz5 : (j : Int) < (n : Int) := by omega
      rw [show ((j + 1 : Nat) : Int) = (j : Int) + 1 from rfl]
      clear hn hv h hb hj hg r1 r2 r4 hm hlt hk hl e
      go_enter Tryd.func30, Tryd.ntmps30
      go_wp2_with fail
      go_ret
      exact ⟨rfl, rfl⟩
end
end Go.Proofs.YtlgjolajnddpbaaDoor
