/-
  stir's functions on numbers, and the document's answers to them: each pair by the same function on whole numbers.
-/
import Derived.Tactics
import Derived.WalkKit
import Derived.WalkLawsBesides
import Derived.Laws.BitsAllLaws
import Derived.Laws.Shifts
import Derived.LoopTactic
import Derived.BigQuiet
import Derived.Deep.QuietTactic
import Derived.Outline
import Derived.Lib.Hide
import Derived.Test.YtdnjlpccopeagaaProg
namespace Go.Proofs.Ytdnjlpccopeagaa
open Go Go.RowKit

/-! ### plain numbers -/
def mulU (n c : Int) : Int := IntKind.u64.wrap (bits .xor .u64 n c * 1099511628211)
def moreU (n c : Int) : Int := bits .xor .u64 (mulU n c) (mulU n c / 536870912)
def seedU (n : Int) : Int := bits .xor .u64 n 14695981039346656037
def sumU (n : Int) (l : List UInt8) : Int := l.foldl (fun m c => moreU m (c.toNat : Int)) (seedU n)
def startOf (n m : Int) : Int := if m < 1 then 0 else n % m
def placeOf (n m i : Int) : Int := if i < 0 ∨ m ≤ i then -1 else (startOf n m + i) % m

theorem bits_u64_bd (op : BinOp) (hop : op = .xor) (a b : Int) : 0 ≤ bits op .u64 a b ∧ bits op .u64 a b ≤ 18446744073709551615 := by
  subst hop
  show 0 ≤ IntKind.u64.wrap _ ∧ IntKind.u64.wrap _ ≤ _
  rw [IntKind.wrap_u64]; omega
theorem mulU_bd (n c : Int) : 0 ≤ mulU n c ∧ mulU n c ≤ 18446744073709551615 := by
  unfold mulU; rw [IntKind.wrap_u64]; omega
theorem moreU_bd (n c : Int) : 0 ≤ moreU n c ∧ moreU n c ≤ 18446744073709551615 := bits_u64_bd _ rfl _ _
theorem seedU_bd (n : Int) : 0 ≤ seedU n ∧ seedU n ≤ 18446744073709551615 := bits_u64_bd _ rfl _ _
theorem sumU_snoc (n : Int) (l : List UInt8) (c : UInt8) : sumU n (l ++ [c]) = moreU (sumU n l) (c.toNat : Int) := by simp [sumU]
theorem sumU_bd (n : Int) (l : List UInt8) : 0 ≤ sumU n l ∧ sumU n l ≤ 18446744073709551615 := by
  unfold sumU
  suffices h : ∀ m, 0 ≤ m ∧ m ≤ 18446744073709551615 → 0 ≤ l.foldl (fun m c => moreU m (c.toNat : Int)) m ∧ l.foldl (fun m c => moreU m (c.toNat : Int)) m ≤ 18446744073709551615 from h _ (seedU_bd n)
  induction l with
  | nil => intro m h; exact h
  | cons c l ih => intro m _; exact ih _ (moreU_bd _ _)
theorem seedU_zero : seedU 0 = 14695981039346656037 := by
  unfold seedU
  have := u64_xor_nat 0 14695981039346656037 (by omega) (by omega)
  rw [Nat.zero_xor] at this
  exact this
theorem sumU_zero : sumU 0 [] = 14695981039346656037 := seedU_zero
theorem startOf_bd (n m : Int) : 0 ≤ startOf n m ∧ (1 ≤ m → startOf n m < m) ∧ (m < 1 → startOf n m = 0) := by
  unfold startOf
  split
  · exact ⟨Int.le_refl _, fun h => by omega, fun _ => rfl⟩
  · exact ⟨Int.emod_nonneg _ (by omega), fun h => Int.emod_lt_of_pos _ (by omega), fun h => by omega⟩
theorem wrapmul (n c : Int) : IntKind.u64.wrap ((mulU n c).tdiv 536870912) = mulU n c / 536870912 := by
  have := mulU_bd n c
  rw [Int.tdiv_eq_ediv_of_nonneg this.1, IntKind.wrap_u64]; omega
theorem take_snoc (s : ByteArray) (k : Nat) (h : k < s.size) : s.data.toList.take (k + 1) = s.data.toList.take k ++ [s[k]] := by
  rw [List.take_succ_eq_append_getElem (by simpa using h)]; rfl
theorem ret_int {k : IntKind} {a b : Int} (h : a = b) : Ending.returned (.int k a) = .returned (.int k b) := by rw [h]

/-! ### the walks -/
set_option maxHeartbeats 400000 in
theorem more_any (n c : Int) (w : World) (hc0 : 0 ≤ c) (hc1 : c ≤ 255) :
    Calls Try.prog 37 #[.int .u64 n, .int .u8 c] w fun e w' => e = .returned (.int .u64 (moreU n c)) ∧ w = w' := by
  go_enter Try.func37, Try.ntmps37
  go_wp2
  go_ret
  exact ⟨rfl, rfl⟩

set_option maxHeartbeats 400000 in
theorem rmore_any (n c : Int) (w : World) (hc0 : 0 ≤ c) (hc1 : c ≤ 255) :
    Calls Try.prog 39 #[.int .u64 n, .int .u8 c] w fun e w' => e = .returned (.int .u64 (moreU n c)) ∧ w = w' := by
  go_enter Try.func39, Try.ntmps39
  go_wp2
  go_ret
  refine ⟨ret_int ?_, rfl⟩
  show bits .xor .u64 (mulU n c) (IntKind.u64.wrap ((mulU n c).tdiv 536870912)) = _
  rw [wrapmul]; rfl

set_option maxHeartbeats 400000 in
theorem rest64_any (n m : Int) (w : World) (h0 : 0 ≤ n) (h1 : n ≤ 18446744073709551615) (hc0 : 1 ≤ m) (hc1 : m ≤ 9223372036854775807) :
    Calls Try.prog 53 #[.int .u64 n, .int .i64 m] w fun e w' => e = .returned (.int .i64 (n % m)) ∧ w = w' := by
  have hr0 := Int.emod_nonneg n (show m ≠ 0 by omega)
  have hr1 := Int.emod_lt_of_pos n (show 0 < m by omega)
  go_enter Try.func53, Try.ntmps53
  go_wp2
  go_ret
  exact ⟨rfl, rfl⟩

set_option maxHeartbeats 400000 in
theorem srest_any (n m : Int) (w : World) (h0 : 0 ≤ n) (h1 : n ≤ 18446744073709551615) (hc0 : 1 ≤ m) (hc1 : m ≤ 9223372036854775807) :
    Calls Try.prog 48 #[.int .u64 n, .int .i64 m] w fun e w' => e = .returned (.int .i64 (n % m)) ∧ w = w' := by
  have hr0 := Int.emod_nonneg n (show m ≠ 0 by omega)
  have hr1 := Int.emod_lt_of_pos n (show 0 < m by omega)
  go_enter Try.func48, Try.ntmps48
  go_wp2
  go_ret
  exact ⟨rfl, rfl⟩

set_option maxHeartbeats 400000 in
theorem start_any (n m : Int) (w : World) (h0 : 0 ≤ n) (h1 : n ≤ 18446744073709551615) (hc1 : m ≤ 9223372036854775807) :
    Calls Try.prog 49 #[.int .u64 n, .int .i64 m] w fun e w' => e = .returned (.int .i64 (startOf n m)) ∧ w = w' := by
  by_cases hm : m < 1
  · go_enter Try.func49, Try.ntmps49
    go_wp2_with fail
    go_ret
    exact ⟨ret_int (by unfold startOf; rw [if_pos hm]), rfl⟩
  · go_enter Try.func49, Try.ntmps49
    go_wp2_with (go_at_call 53; refine (rest64_any _ _ _ (by omega) (by omega) (by omega) (by omega)).mono ?_; rintro e w' ⟨rfl, rfl⟩)
    go_ret
    exact ⟨ret_int (by unfold startOf; rw [if_neg (by omega)]), rfl⟩

set_option maxHeartbeats 400000 in
theorem rstart_any (n m : Int) (w : World) (h0 : 0 ≤ n) (h1 : n ≤ 18446744073709551615) (hc1 : m ≤ 9223372036854775807) :
    Calls Try.prog 40 #[.int .u64 n, .int .i64 m] w fun e w' => e = .returned (.int .i64 (startOf n m)) ∧ w = w' := by
  by_cases hm : m < 1
  · go_enter Try.func40, Try.ntmps40
    go_wp2_with fail
    go_ret
    exact ⟨ret_int (by unfold startOf; rw [if_pos hm]), rfl⟩
  · have hr0 := Int.emod_nonneg n (show m ≠ 0 by omega)
    have hr1 := Int.emod_lt_of_pos n (show 0 < m by omega)
    go_enter Try.func40, Try.ntmps40
    go_wp2_with fail
    go_ret
    exact ⟨ret_int (by unfold startOf; rw [if_neg (by omega)]), rfl⟩

set_option maxHeartbeats 400000 in
theorem place_any (n m i : Int) (w : World) (h0 : 0 ≤ n) (h1 : n ≤ 18446744073709551615) (hc1 : m ≤ 9223372036854775807) (hi1 : i ≤ 9223372036854775807) :
    Calls Try.prog 38 #[.int .u64 n, .int .i64 m, .int .i64 i] w fun e w' => e = .returned (.int .i64 (placeOf n m i)) ∧ w = w' := by
  by_cases hi : i < 0
  · go_enter Try.func38, Try.ntmps38
    go_wp2_with fail
    go_ret
    exact ⟨ret_int (by unfold placeOf; rw [if_pos (.inl hi)]), rfl⟩
  · by_cases him : m ≤ i
    · go_enter Try.func38, Try.ntmps38
      go_wp2_with fail
      go_ret
      exact ⟨ret_int (by unfold placeOf; rw [if_pos (.inr him)]), rfl⟩
    · have hs0 := (startOf_bd n m).1
      have hs1 := (startOf_bd n m).2.1 (by omega)
      go_enter Try.func38, Try.ntmps38
      go_wp2_with (first | (go_at_call 49; refine (start_any _ _ _ (by omega) (by omega) (by omega)).mono ?_; rintro e w' ⟨rfl, rfl⟩) | (go_at_call 48; refine (srest_any _ _ _ (by omega) (by omega) (by omega) (by omega)).mono ?_; rintro e w' ⟨rfl, rfl⟩))
      go_ret
      exact ⟨ret_int (by unfold placeOf; rw [if_neg (by omega)]), rfl⟩

set_option maxHeartbeats 400000 in
theorem rplace_any (n m i : Int) (w : World) (h0 : 0 ≤ n) (h1 : n ≤ 18446744073709551615) (hc1 : m ≤ 9223372036854775807) (hi1 : i ≤ 9223372036854775807) :
    Calls Try.prog 25 #[.int .u64 n, .int .i64 m, .int .i64 i] w fun e w' => e = .returned (.int .i64 (placeOf n m i)) ∧ w = w' := by
  by_cases hi : i < 0
  · go_enter Try.func25, Try.ntmps25
    go_wp2_with fail
    go_ret
    exact ⟨ret_int (by unfold placeOf; rw [if_pos (.inl hi)]), rfl⟩
  · by_cases him : m ≤ i
    · go_enter Try.func25, Try.ntmps25
      go_wp2_with fail
      go_ret
      exact ⟨ret_int (by unfold placeOf; rw [if_pos (.inr him)]), rfl⟩
    · have hs0 := (startOf_bd n m).1
      have hs1 := (startOf_bd n m).2.1 (by omega)
      have hr0 := Int.emod_nonneg (startOf n m + i) (show m ≠ 0 by omega)
      have hr1 := Int.emod_lt_of_pos (startOf n m + i) (show 0 < m by omega)
      go_enter Try.func25, Try.ntmps25
      go_wp2_with (go_at_call 40; refine (rstart_any _ _ _ (by omega) (by omega) (by omega)).mono ?_; rintro e w' ⟨rfl, rfl⟩)
      go_ret
      exact ⟨ret_int (by unfold placeOf; rw [if_neg (by omega)]), rfl⟩

set_option maxHeartbeats 1000000 in
theorem sum_any (n : Int) (s : ByteArray) (w : World) (hs : s.size ≤ 9223372036854775807) :
    Calls Try.prog 22 #[.int .u64 n, .string s] w fun e w' => e = .returned (.int .u64 (sumU n s.data.toList)) ∧ w = w' := by
  go_enter Try.func22, Try.ntmps22
  go_wp2
  go_loop [5, 6, 11] (fun m _ c => ∃ k : Nat, k ≤ s.size ∧ c = .int .i64 k ∧ m = .int .u64 (sumU n (s.data.toList.take k))) (fun _ _ c => s.size - (intOf c).toNat)
  case atStart => exact ⟨0, Nat.zero_le _, rfl, rfl⟩
  case round =>
    obtain ⟨k, hk, rfl, rfl⟩ := hrel
    have hd0 := (sumU_bd n (s.data.toList.take k)).1
    have hd1 := (sumU_bd n (s.data.toList.take k)).2
    by_cases hlt : k < s.size
    · have hb := UInt8.toNat_lt s[k]
      have HS : Hid (sumU n (s.data.toList.take (k + 1)) = moreU (sumU n (s.data.toList.take k)) (s[k].toNat : Int)) := by rw [take_snoc s k hlt, sumU_snoc]; rfl
      go_wp2_with (go_at_call 37; refine (more_any _ _ _ (by omega) (by omega)).mono ?_; rintro e w' ⟨rfl, rfl⟩)
      go_round
      case rel => exact ⟨k + 1, by omega, by go_num, by rw [HS.out]⟩
      case measure => simp [intOf]; omega
    · go_wp2
      go_ret
      exact ⟨ret_int (by rw [List.take_of_length_le (by simp; omega)]), rfl⟩

set_option maxHeartbeats 1000000 in
theorem rsum_any (n : Int) (s : ByteArray) (w : World) (hs : s.size ≤ 9223372036854775807) :
    Calls Try.prog 24 #[.int .u64 n, .string s] w fun e w' => e = .returned (.int .u64 (sumU n s.data.toList)) ∧ w = w' := by
  go_enter Try.func24, Try.ntmps24
  go_wp2
  go_loop [5, 6] (fun m c => ∃ k : Nat, k ≤ s.size ∧ c = .int .i64 k ∧ m = .int .u64 (sumU n (s.data.toList.take k))) (fun _ c => s.size - (intOf c).toNat)
  case atStart => exact ⟨0, Nat.zero_le _, rfl, rfl⟩
  case round =>
    obtain ⟨k, hk, rfl, rfl⟩ := hrel
    have hd0 := (sumU_bd n (s.data.toList.take k)).1
    have hd1 := (sumU_bd n (s.data.toList.take k)).2
    by_cases hlt : k < s.size
    · have hb := UInt8.toNat_lt s[k]
      have HS : Hid (sumU n (s.data.toList.take (k + 1)) = moreU (sumU n (s.data.toList.take k)) (s[k].toNat : Int)) := by rw [take_snoc s k hlt, sumU_snoc]; rfl
      go_wp2_with (go_at_call 39; refine (rmore_any _ _ _ (by omega) (by omega)).mono ?_; rintro e w' ⟨rfl, rfl⟩)
      go_round
      case rel => exact ⟨k + 1, by omega, by go_num, by rw [HS.out]⟩
      case measure => simp [intOf]; omega
    · go_wp2
      go_ret
      exact ⟨ret_int (by rw [List.take_of_length_le (by simp; omega)]), rfl⟩
/-! ### places -/
theorem place_cases (n m : Int) (k : Nat) (h : (k : Int) < m) :
    (placeOf n m k = startOf n m + k ∧ startOf n m + k < m) ∨ (placeOf n m k = startOf n m + k - m ∧ m ≤ startOf n m + k) := by
  have h0 := (startOf_bd n m).1
  have h1 := (startOf_bd n m).2.1 (by omega)
  have e : placeOf n m k = (startOf n m + k) % m := by unfold placeOf; rw [if_neg (by omega)]
  rw [e]
  by_cases hlt : startOf n m + (k : Int) < m
  · exact .inl ⟨Int.emod_eq_of_lt (by omega) hlt, hlt⟩
  · refine .inr ⟨?_, by omega⟩
    have : (startOf n m + (k : Int)) % m = (startOf n m + k - m) % m := by rw [Int.sub_emod_right]
    rw [this]; exact Int.emod_eq_of_lt (by omega) (by omega)

theorem place_bd (n m : Int) (k : Nat) (h : (k : Int) < m) : 0 ≤ placeOf n m k ∧ placeOf n m k < m := by
  have h0 := (startOf_bd n m).1
  have h1 := (startOf_bd n m).2.1 (by omega)
  rcases place_cases n m k h with ⟨e, _⟩ | ⟨e, _⟩ <;> omega

theorem place_inj (n m : Int) (k j : Nat) (hk : (k : Int) < m) (hj : (j : Int) < m) (h : placeOf n m k = placeOf n m j) : k = j := by
  rcases place_cases n m k hk with ⟨e, _⟩ | ⟨e, _⟩ <;> rcases place_cases n m j hj with ⟨e', _⟩ | ⟨e', _⟩ <;> omega

end Go.Proofs.Ytdnjlpccopeagaa
