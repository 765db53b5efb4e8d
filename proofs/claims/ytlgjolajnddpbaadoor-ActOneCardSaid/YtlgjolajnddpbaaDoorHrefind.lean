/-
  The reference's find and cell.
-/
import Derived.Test.YtlgjolajnddpbaaDoorHref
import Derived.Deep.DeepCutAuto
namespace Go.Proofs.YtlgjolajnddpbaaDoor
open Go Go.RowKit
attribute [local go_sem ↓] Go.wp_at_zero Go.wp_at_succ

section
variable {B p : Nat} {D : HpD} {f : Nat → Prop} {v : Value} {g cp : Nat → Nat}

theorem live_row {L : List BlkD} {k : Nat} {b : BlkD} (h : liveAt L k = some b) : ∃ j, k = j + 1 ∧ L[j]? = some b ∧ b.gone = false ∧ j < L.length := by
  obtain ⟨h1, h2, h3, h4⟩ := liveAt_some h
  exact ⟨k - 1, by omega, h3, h4, by omega⟩
theorem lost_row {L : List BlkD} {k : Nat} (h : liveAt L k = none) : (k = 0 ∧ lostAt L k = 16) ∨ (L.length < k ∧ lostAt L k = 16) ∨ ∃ j b, k = j + 1 ∧ L[j]? = some b ∧ b.gone = true ∧ j < L.length ∧ lostAt L k = 17 := by
  by_cases h0 : k = 0
  · exact .inl ⟨h0, lost_first (.inl h0)⟩
  · by_cases h1 : L.length < k
    · exact .inr (.inl ⟨h1, lost_first (.inr h1)⟩)
    · have hj : k - 1 < L.length := by omega
      refine .inr (.inr ⟨k - 1, L[k - 1], by omega, List.getElem?_eq_getElem hj, ?_, hj, lost_then (by omega)⟩)
      cases hg : L[k - 1].gone with
      | true => rfl
      | false =>
        rw [liveAt_mk (by omega) (List.getElem?_eq_getElem hj) hg] at h
        cases h

set_option maxRecDepth 100000 in
set_option maxHeartbeats 1000000 in
theorem rfind_hit (W : World) (h : RfAt W B p D f v g cp) (k : Nat) (b : BlkD) (hb : liveAt D.L k = some b) :
    Calls Tryd.prog 59 #[.pointer (some ⟨p, 0, none⟩), .int .u64 (k : Int)] W fun e W' => e = .returned (.int .i64 0) ∧ W = W' := by
  obtain ⟨j, rfl, hj, hg, hlt⟩ := live_row hb
  obtain ⟨q, cap, hv, r1, r2, r3, r4⟩ := h.blk hj
  obtain ⟨c0, _⟩ := h.cells
  rw [hv] at c0
  rw [hg] at r3
  have hm := h.many.1
  obtain ⟨n, hn⟩ : ∃ n, D.L.length = n := ⟨_, rfl⟩
  rw [hn] at c0 hm hlt
  have hz0 : (0 : Int) ≤ (j : Int) := by omega
  have hz1 : (((j : Int) + 1) == 0) = false := by rw [beq_eq_false_iff_ne]; omega
  have hz2 : (j : Int) + 1 ≤ (n : Int) := by omega
  have hz3 : (n : Int) ≤ 1000000 := by omega
  have hz4 : (j : Int) ≤ 1000000 := by omega
  have hz5 : (j : Int) < (n : Int) := by omega
  rw [show ((j + 1 : Nat) : Int) = (j : Int) + 1 from rfl]
  clear hn hv h hb hj hg r1 r2 r4 hm hlt
  go_enter Tryd.func59, Tryd.ntmps59
  go_wp2_with fail
  go_ret
  exact ⟨rfl, rfl⟩

/-- What find leaves where the block is not there. -/
def RLost (B p : Nat) (D : HpD) (f : Nat → Prop) (v : Value) (g cp : Nat → Nat) (c : Int) (W : World) (e : Ending) (W' : World) : Prop :=
  e = .returned (.int .i64 c) ∧ RfAt W' B p D.fault f v g cp ∧ Step f f W W'

set_option maxRecDepth 100000 in
set_option maxHeartbeats 1000000 in
theorem rfind_miss (W : World) (h : RfAt W B p D f v g cp) (hf : D.faults < 1000000) (k : Nat) (hk : k < 18446744073709551616) (hb : liveAt D.L k = none) :
    Calls Tryd.prog 59 #[.pointer (some ⟨p, 0, none⟩), .int .u64 (k : Int)] W (RLost B p D f v g cp (lostAt D.L k) W) := by
  have HF := Lib.hid (h.setFaults hf)
  obtain ⟨c0, c1, c2, e0, e1, e2⟩ := h.cells
  have hm := h.many.1
  obtain ⟨fl, hfl⟩ : ∃ n, D.faults = n := ⟨_, rfl⟩
  rw [hfl] at c2 HF hf
  have hf0 : (0 : Int) ≤ (fl : Int) := by omega
  have hf1 : (fl : Int) < 1000000 := by omega
  rcases lost_row hb with ⟨rfl, hl⟩ | ⟨hlt, hl⟩ | ⟨j, b, rfl, hj, hg, hlt, hl⟩
  · rw [hl]
    clear c0 e0 c1 e1 hl hb hm h hf hfl
    go_enter Tryd.func59, Tryd.ntmps59
    go_wp2_with fail
    go_ret
    exact ⟨rfl, HF.out⟩
  · rw [hl]
    have hz1 : ((k : Int) == 0) = false := by rw [beq_eq_false_iff_ne]; omega
    obtain ⟨z, hz⟩ : ∃ z, (k : Int) = z := ⟨_, rfl⟩
    obtain ⟨a, c, hv⟩ := h.row.form
    rw [hv] at c0
    obtain ⟨n, hn⟩ : ∃ n, D.L.length = n := ⟨_, rfl⟩
    rw [hn] at c0 hm hlt
    have hz2 : (n : Int) < z := by omega
    have hz3 : (n : Int) ≤ 1000000 := by omega
    rw [hz] at hz1 ⊢
    clear e0 c1 e1 hl hb hm h hf hfl hz hn hlt hv
    go_enter Tryd.func59, Tryd.ntmps59
    go_wp2_with fail
    go_ret
    exact ⟨rfl, HF.out⟩
  · rw [hl]
    obtain ⟨q, cap, hv, r1, r2, r3, r4⟩ := h.blk hj
    rw [hv] at c0
    rw [hg] at r3
    obtain ⟨n, hn⟩ : ∃ n, D.L.length = n := ⟨_, rfl⟩
    rw [hn] at c0 hm hlt
    have hz0 : (0 : Int) ≤ (j : Int) := by omega
    have hz1 : (((j : Int) + 1) == 0) = false := by rw [beq_eq_false_iff_ne]; omega
    have hz2 : (j : Int) + 1 ≤ (n : Int) := by omega
    have hz3 : (n : Int) ≤ 1000000 := by omega
    have hz4 : (j : Int) ≤ 1000000 := by omega
    have hz5 : (j : Int) < (n : Int) := by omega
    rw [show ((j + 1 : Nat) : Int) = (j : Int) + 1 from rfl]
    have HB := Lib.hid (And.intro hf0 (And.intro hf1 (And.intro c2 e2)))
    clear hn hv h hb hj hg r1 r2 r4 hm hlt hk hf hl hfl c1 e0 e1 hf0 hf1 c2 e2
    go_enter Tryd.func59, Tryd.ntmps59
    go_upto_region 5 with fail
    clear hz0 hz1 hz2 hz3 hz4 hz5 c0 r3
    obtain ⟨hf0, hf1, c2, e2⟩ := HB.out
    go_wp2_with fail
    go_ret
    exact ⟨rfl, HF.out⟩
end
end Go.Proofs.YtlgjolajnddpbaaDoor
