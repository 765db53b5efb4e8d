/-
  Words with two counts: the program's functions and the reference's, each by the same function on whole numbers.
-/
import Derived.Tactics
import Derived.WalkKit
import Derived.WalkLawsBesides
import Derived.Laws.BitsAllLaws
import Derived.Laws.Shifts
import Derived.Laws.StructEq
import Derived.Laws.ResultCell
import Derived.Laws.NewBlocks
import Derived.Lib.SmallJoins
import Derived.LoopTactic
import Derived.BigQuiet
import Derived.Deep.QuietTactic
import Derived.Outline
import Derived.Lib.Hide
import Derived.Test.YtghobeeomoojoaaProg
namespace Go.Proofs.Ytghobeeomoojoaa
open Go Go.RowKit

/-! ### plain numbers -/
def cameW (n : Int) : Int := n / 65536 % 1099511627776
def inW (n : Int) : Int := n % 65536
def mayW (a b : Int) : Bool := decide (0 ≤ a ∧ a < 1099511627776 ∧ 0 ≤ b ∧ b < 65536)
def wordW (a b : Int) : Int := if mayW a b = true then 65536 * a + b else 0
def entersW (n m : Int) : Bool := decide (inW n < m ∧ inW n ≠ 65535 ∧ cameW n ≠ 1099511627775)
def enterW (n m : Int) : Int := if entersW n m = true then 65536 * (cameW n + 1) + (inW n + 1) else 0
def leavesW (n k : Int) : Bool := decide (0 ≤ k ∧ k ≤ inW n)
def leaveW (n k : Int) : Int := if leavesW n k = true then 65536 * cameW n + (inW n - k) else 0

theorem cameW_bd (n : Int) : 0 ≤ cameW n ∧ cameW n < 1099511627776 := by unfold cameW; omega
theorem inW_bd (n : Int) : 0 ≤ inW n ∧ inW n < 65536 := by unfold inW; omega
theorem wordW_bd (a b : Int) : 0 ≤ wordW a b ∧ wordW a b < 72057594037927936 := by
  unfold wordW
  split
  · rename_i h
    have := of_decide_eq_true h
    omega
  · omega
theorem came_word (a b : Int) (h : mayW a b = true) : cameW (wordW a b) = a ∧ inW (wordW a b) = b := by
  have h' := of_decide_eq_true h
  unfold wordW
  rw [if_pos h]
  unfold cameW inW
  omega
theorem word_of (n : Int) : mayW (cameW n) (inW n) = true ∧ wordW (cameW n) (inW n) = n % 72057594037927936 := by
  have hm : mayW (cameW n) (inW n) = true := decide_eq_true (by have := cameW_bd n; have := inW_bd n; omega)
  refine ⟨hm, ?_⟩
  unfold wordW
  rw [if_pos hm]
  unfold cameW inW
  omega
theorem enter_word (n m : Int) (h : entersW n m = true) : mayW (cameW n + 1) (inW n + 1) = true ∧ wordW (cameW n + 1) (inW n + 1) = enterW n m := by
  have h' := of_decide_eq_true h
  have hm : mayW (cameW n + 1) (inW n + 1) = true := decide_eq_true (by have := cameW_bd n; have := inW_bd n; omega)
  exact ⟨hm, by unfold wordW enterW; rw [if_pos hm, if_pos h]⟩
theorem leave_word (n k : Int) (h : leavesW n k = true) : mayW (cameW n) (inW n - k) = true ∧ wordW (cameW n) (inW n - k) = leaveW n k := by
  have h' := of_decide_eq_true h
  have hm : mayW (cameW n) (inW n - k) = true := decide_eq_true (by have := cameW_bd n; have := inW_bd n; omega)
  exact ⟨hm, by unfold wordW leaveW; rw [if_pos hm, if_pos h]⟩

/-- The shift and the masks. -/
theorem shr_mask (n : Int) (h0 : 0 ≤ n) (h1 : n < 18446744073709551616) : bits .and .u64 (n / 65536) 1099511627775 = cameW n := by
  obtain ⟨m, rfl⟩ : ∃ m : Nat, n = (m : Int) := ⟨n.toNat, by omega⟩
  have h := u64_and_nat (m / 65536) 1099511627775 (by omega) (by omega)
  rw [show (1099511627775 : Nat) = 2 ^ 40 - 1 from rfl, Nat.and_two_pow_sub_one_eq_mod] at h
  unfold cameW
  have e : ((m / 65536 : Nat) : Int) = (m : Int) / 65536 := by omega
  rw [e] at h
  exact h.trans (by omega)
theorem low_mask (n : Int) (h0 : 0 ≤ n) (h1 : n < 18446744073709551616) : bits .and .u64 n 65535 = inW n := by
  obtain ⟨m, rfl⟩ : ∃ m : Nat, n = (m : Int) := ⟨n.toNat, by omega⟩
  have h := u64_and_nat m 65535 (by omega) (by omega)
  rw [show (65535 : Nat) = 2 ^ 16 - 1 from rfl, Nat.and_two_pow_sub_one_eq_mod] at h
  unfold inW
  exact h.trans (by omega)
theorem join_bits (a b : Int) (ha : 0 ≤ a) (ha1 : a < 1099511627776) (hb : 0 ≤ b) (hb1 : b < 65536) : bits .or .u64 (a * 65536) b = 65536 * a + b := by
  rw [Int.mul_comm a 65536]
  obtain ⟨m, rfl⟩ : ∃ m : Nat, a = (m : Int) := ⟨a.toNat, by omega⟩
  obtain ⟨k, rfl⟩ : ∃ k : Nat, b = (k : Int) := ⟨b.toNat, by omega⟩
  have h := u64_or_nat (65536 * m) k (by omega) (by omega)
  rw [show (65536 : Nat) = 2 ^ 16 from rfl, ← Nat.two_pow_add_eq_or_of_lt (by omega)] at h
  have e : ((2 ^ 16 * m : Nat) : Int) = 65536 * (m : Int) := by omega
  rw [e] at h
  exact h.trans (by omega)
theorem wrap_below (a : Int) (h0 : -9223372036854775808 ≤ a) (h1 : a < 0) : IntKind.u64.wrap a = a + 18446744073709551616 := by rw [IntKind.wrap_u64]; omega
end Go.Proofs.Ytghobeeomoojoaa
