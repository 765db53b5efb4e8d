/-
  Num, Find, in one text.
-/
import Derived.Tactics
import Derived.WalkKit
import Derived.WalkLawsBesides
import Derived.Laws.BitsAllLaws
import Derived.Laws.Shifts
import Derived.LoopTactic
import Derived.BigQuiet
import Derived.Deep.QuietTactic
import Derived.Outline
import Derived.Lib.Hide
import Derived.Test.YtpnfbabiibopnaaGreatProg
import Derived.Test.YtpnfbabiibopnaaGreatQ09
import Derived.Test.YtpnfbabiibopnaaGreatQ04
import Derived.Test.YtpnfbabiibopnaaGreatQ07
/-! stir's functions on numbers, and the document's answers to them: each pair by the same function on whole numbers. -/
namespace Go.Proofs.YtpnfbabiibopnaaGreat
open Go Go.RowKit

/-! ### plain numbers -/
def mulU (n c : Int) : Int := IntKind.u64.wrap (bits .xor .u64 n c * 1099511628211)
def moreU (n c : Int) : Int := bits .xor .u64 (mulU n c) (mulU n c / 536870912)
def seedU (n : Int) : Int := bits .xor .u64 n 14695981039346656037
def sumU (n : Int) (l : List UInt8) : Int := l.foldl (fun m c => moreU m (c.toNat : Int)) (seedU n)
def startOf (n m : Int) : Int := if m < 1 then 0 else n % m
def placeOf (n m i : Int) : Int := if i < 0 ∨ m ≤ i then -1 else (startOf n m + i) % m

theorem bits_u64_bd (op : BinOp) (hop : op = .xor) (a b : Int) : 0 ≤ bits op .u64 a b ∧ bits op .u64 a b ≤ 18446744073709551615 := by
  subst hop
  show 0 ≤ IntKind.u64.wrap _ ∧ IntKind.u64.wrap _ ≤ _
  rw [IntKind.wrap_u64]; omega
theorem mulU_bd (n c : Int) : 0 ≤ mulU n c ∧ mulU n c ≤ 18446744073709551615 := by
  unfold mulU; rw [IntKind.wrap_u64]; omega
theorem moreU_bd (n c : Int) : 0 ≤ moreU n c ∧ moreU n c ≤ 18446744073709551615 := bits_u64_bd _ rfl _ _
theorem seedU_bd (n : Int) : 0 ≤ seedU n ∧ seedU n ≤ 18446744073709551615 := bits_u64_bd _ rfl _ _
theorem sumU_snoc (n : Int) (l : List UInt8) (c : UInt8) : sumU n (l ++ [c]) = moreU (sumU n l) (c.toNat : Int) := by simp [sumU]
theorem sumU_bd (n : Int) (l : List UInt8) : 0 ≤ sumU n l ∧ sumU n l ≤ 18446744073709551615 := by
  unfold sumU
  suffices h : ∀ m, 0 ≤ m ∧ m ≤ 18446744073709551615 → 0 ≤ l.foldl (fun m c => moreU m (c.toNat : Int)) m ∧ l.foldl (fun m c => moreU m (c.toNat : Int)) m ≤ 18446744073709551615 from h _ (seedU_bd n)
  induction l with
  | nil => intro m h; exact h
  | cons c l ih => intro m _; exact ih _ (moreU_bd _ _)
theorem seedU_zero : seedU 0 = 14695981039346656037 := by
  unfold seedU
  have := u64_xor_nat 0 14695981039346656037 (by omega) (by omega)
  rw [Nat.zero_xor] at this
  exact this
theorem sumU_zero : sumU 0 [] = 14695981039346656037 := seedU_zero
theorem startOf_bd (n m : Int) : 0 ≤ startOf n m ∧ (1 ≤ m → startOf n m < m) ∧ (m < 1 → startOf n m = 0) := by
  unfold startOf
  split
  · exact ⟨Int.le_refl _, fun h => by omega, fun _ => rfl⟩
  · exact ⟨Int.emod_nonneg _ (by omega), fun h => Int.emod_lt_of_pos _ (by omega), fun h => by omega⟩
theorem wrapmul (n c : Int) : IntKind.u64.wrap ((mulU n c).tdiv 536870912) = mulU n c / 536870912 := by
  have := mulU_bd n c
  rw [Int.tdiv_eq_ediv_of_nonneg this.1, IntKind.wrap_u64]; omega
theorem take_snoc (s : ByteArray) (k : Nat) (h : k < s.size) : s.data.toList.take (k + 1) = s.data.toList.take k ++ [s[k]] := by
  rw [List.take_succ_eq_append_getElem (by simpa using h)]; rfl
theorem ret_int {k : IntKind} {a b : Int} (h : a = b) : Ending.returned (.int k a) = .returned (.int k b) := by rw [h]

/-! ### the walks -/
set_option maxHeartbeats 400000 in
theorem more_any (n c : Int) (w : World) (hc0 : 0 ≤ c) (hc1 : c ≤ 255) :
    Calls Tryz.prog 77 #[.int .u64 n, .int .u8 c] w fun e w' => e = .returned (.int .u64 (moreU n c)) ∧ w = w' := by
  go_enter Tryz.func77, Tryz.ntmps77
  go_wp2
  go_ret
  exact ⟨rfl, rfl⟩

set_option maxHeartbeats 400000 in
theorem rmore_any (n c : Int) (w : World) (hc0 : 0 ≤ c) (hc1 : c ≤ 255) :
    Calls Tryz.prog 81 #[.int .u64 n, .int .u8 c] w fun e w' => e = .returned (.int .u64 (moreU n c)) ∧ w = w' := by
  go_enter Tryz.func81, Tryz.ntmps81
  go_wp2
  go_ret
  refine ⟨ret_int ?_, rfl⟩
  show bits .xor .u64 (mulU n c) (IntKind.u64.wrap ((mulU n c).tdiv 536870912)) = _
  rw [wrapmul]; rfl

set_option maxHeartbeats 400000 in
theorem rest64_any (n m : Int) (w : World) (h0 : 0 ≤ n) (h1 : n ≤ 18446744073709551615) (hc0 : 1 ≤ m) (hc1 : m ≤ 9223372036854775807) :
    Calls Tryz.prog 100 #[.int .u64 n, .int .i64 m] w fun e w' => e = .returned (.int .i64 (n % m)) ∧ w = w' := by
  have hr0 := Int.emod_nonneg n (show m ≠ 0 by omega)
  have hr1 := Int.emod_lt_of_pos n (show 0 < m by omega)
  go_enter Tryz.func100, Tryz.ntmps100
  go_wp2
  go_ret
  exact ⟨rfl, rfl⟩

set_option maxHeartbeats 400000 in
theorem srest_any (n m : Int) (w : World) (h0 : 0 ≤ n) (h1 : n ≤ 18446744073709551615) (hc0 : 1 ≤ m) (hc1 : m ≤ 9223372036854775807) :
    Calls Tryz.prog 88 #[.int .u64 n, .int .i64 m] w fun e w' => e = .returned (.int .i64 (n % m)) ∧ w = w' := by
  have hr0 := Int.emod_nonneg n (show m ≠ 0 by omega)
  have hr1 := Int.emod_lt_of_pos n (show 0 < m by omega)
  go_enter Tryz.func88, Tryz.ntmps88
  go_wp2
  go_ret
  exact ⟨rfl, rfl⟩

set_option maxHeartbeats 400000 in
theorem start_any (n m : Int) (w : World) (h0 : 0 ≤ n) (h1 : n ≤ 18446744073709551615) (hc1 : m ≤ 9223372036854775807) :
    Calls Tryz.prog 89 #[.int .u64 n, .int .i64 m] w fun e w' => e = .returned (.int .i64 (startOf n m)) ∧ w = w' := by
  by_cases hm : m < 1
  · go_enter Tryz.func89, Tryz.ntmps89
    go_wp2_with fail
    go_ret
    exact ⟨ret_int (by unfold startOf; rw [if_pos hm]), rfl⟩
  · go_enter Tryz.func89, Tryz.ntmps89
    go_wp2_with (go_at_call 100; refine (rest64_any _ _ _ (by omega) (by omega) (by omega) (by omega)).mono ?_; rintro e w' ⟨rfl, rfl⟩)
    go_ret
    exact ⟨ret_int (by unfold startOf; rw [if_neg (by omega)]), rfl⟩

set_option maxHeartbeats 400000 in
theorem rstart_any (n m : Int) (w : World) (h0 : 0 ≤ n) (h1 : n ≤ 18446744073709551615) (hc1 : m ≤ 9223372036854775807) :
    Calls Tryz.prog 82 #[.int .u64 n, .int .i64 m] w fun e w' => e = .returned (.int .i64 (startOf n m)) ∧ w = w' := by
  by_cases hm : m < 1
  · go_enter Tryz.func82, Tryz.ntmps82
    go_wp2_with fail
    go_ret
    exact ⟨ret_int (by unfold startOf; rw [if_pos hm]), rfl⟩
  · have hr0 := Int.emod_nonneg n (show m ≠ 0 by omega)
    have hr1 := Int.emod_lt_of_pos n (show 0 < m by omega)
    go_enter Tryz.func82, Tryz.ntmps82
    go_wp2_with fail
    go_ret
    exact ⟨ret_int (by unfold startOf; rw [if_neg (by omega)]), rfl⟩

set_option maxHeartbeats 400000 in
theorem place_any (n m i : Int) (w : World) (h0 : 0 ≤ n) (h1 : n ≤ 18446744073709551615) (hc1 : m ≤ 9223372036854775807) (hi1 : i ≤ 9223372036854775807) :
    Calls Tryz.prog 78 #[.int .u64 n, .int .i64 m, .int .i64 i] w fun e w' => e = .returned (.int .i64 (placeOf n m i)) ∧ w = w' := by
  by_cases hi : i < 0
  · go_enter Tryz.func78, Tryz.ntmps78
    go_wp2_with fail
    go_ret
    exact ⟨ret_int (by unfold placeOf; rw [if_pos (.inl hi)]), rfl⟩
  · by_cases him : m ≤ i
    · go_enter Tryz.func78, Tryz.ntmps78
      go_wp2_with fail
      go_ret
      exact ⟨ret_int (by unfold placeOf; rw [if_pos (.inr him)]), rfl⟩
    · have hs0 := (startOf_bd n m).1
      have hs1 := (startOf_bd n m).2.1 (by omega)
      go_enter Tryz.func78, Tryz.ntmps78
      go_wp2_with (first | (go_at_call 89; refine (start_any _ _ _ (by omega) (by omega) (by omega)).mono ?_; rintro e w' ⟨rfl, rfl⟩) | (go_at_call 88; refine (srest_any _ _ _ (by omega) (by omega) (by omega) (by omega)).mono ?_; rintro e w' ⟨rfl, rfl⟩))
      go_ret
      exact ⟨ret_int (by unfold placeOf; rw [if_neg (by omega)]), rfl⟩

set_option maxHeartbeats 400000 in
theorem rplace_any (n m i : Int) (w : World) (h0 : 0 ≤ n) (h1 : n ≤ 18446744073709551615) (hc1 : m ≤ 9223372036854775807) (hi1 : i ≤ 9223372036854775807) :
    Calls Tryz.prog 62 #[.int .u64 n, .int .i64 m, .int .i64 i] w fun e w' => e = .returned (.int .i64 (placeOf n m i)) ∧ w = w' := by
  by_cases hi : i < 0
  · go_enter Tryz.func62, Tryz.ntmps62
    go_wp2_with fail
    go_ret
    exact ⟨ret_int (by unfold placeOf; rw [if_pos (.inl hi)]), rfl⟩
  · by_cases him : m ≤ i
    · go_enter Tryz.func62, Tryz.ntmps62
      go_wp2_with fail
      go_ret
      exact ⟨ret_int (by unfold placeOf; rw [if_pos (.inr him)]), rfl⟩
    · have hs0 := (startOf_bd n m).1
      have hs1 := (startOf_bd n m).2.1 (by omega)
      have hr0 := Int.emod_nonneg (startOf n m + i) (show m ≠ 0 by omega)
      have hr1 := Int.emod_lt_of_pos (startOf n m + i) (show 0 < m by omega)
      go_enter Tryz.func62, Tryz.ntmps62
      go_wp2_with (go_at_call 82; refine (rstart_any _ _ _ (by omega) (by omega) (by omega)).mono ?_; rintro e w' ⟨rfl, rfl⟩)
      go_ret
      exact ⟨ret_int (by unfold placeOf; rw [if_neg (by omega)]), rfl⟩

set_option maxHeartbeats 1000000 in
theorem sum_any (n : Int) (s : ByteArray) (w : World) (hs : s.size ≤ 9223372036854775807) :
    Calls Tryz.prog 52 #[.int .u64 n, .string s] w fun e w' => e = .returned (.int .u64 (sumU n s.data.toList)) ∧ w = w' := by
  go_enter Tryz.func52, Tryz.ntmps52
  go_wp2
  go_loop [5, 6, 11] (fun m _ c => ∃ k : Nat, k ≤ s.size ∧ c = .int .i64 k ∧ m = .int .u64 (sumU n (s.data.toList.take k))) (fun _ _ c => s.size - (intOf c).toNat)
  case atStart => exact ⟨0, Nat.zero_le _, rfl, rfl⟩
  case round =>
    obtain ⟨k, hk, rfl, rfl⟩ := hrel
    have hd0 := (sumU_bd n (s.data.toList.take k)).1
    have hd1 := (sumU_bd n (s.data.toList.take k)).2
    by_cases hlt : k < s.size
    · have hb := UInt8.toNat_lt s[k]
      have HS : Hid (sumU n (s.data.toList.take (k + 1)) = moreU (sumU n (s.data.toList.take k)) (s[k].toNat : Int)) := by rw [take_snoc s k hlt, sumU_snoc]; rfl
      go_wp2_with (go_at_call 77; refine (more_any _ _ _ (by omega) (by omega)).mono ?_; rintro e w' ⟨rfl, rfl⟩)
      go_round
      case rel => exact ⟨k + 1, by omega, by go_num, by rw [HS.out]⟩
      case measure => simp [intOf]; omega
    · go_wp2
      go_ret
      exact ⟨ret_int (by rw [List.take_of_length_le (by simp; omega)]), rfl⟩

set_option maxHeartbeats 1000000 in
theorem rsum_any (n : Int) (s : ByteArray) (w : World) (hs : s.size ≤ 9223372036854775807) :
    Calls Tryz.prog 61 #[.int .u64 n, .string s] w fun e w' => e = .returned (.int .u64 (sumU n s.data.toList)) ∧ w = w' := by
  go_enter Tryz.func61, Tryz.ntmps61
  go_wp2
  go_loop [5, 6] (fun m c => ∃ k : Nat, k ≤ s.size ∧ c = .int .i64 k ∧ m = .int .u64 (sumU n (s.data.toList.take k))) (fun _ c => s.size - (intOf c).toNat)
  case atStart => exact ⟨0, Nat.zero_le _, rfl, rfl⟩
  case round =>
    obtain ⟨k, hk, rfl, rfl⟩ := hrel
    have hd0 := (sumU_bd n (s.data.toList.take k)).1
    have hd1 := (sumU_bd n (s.data.toList.take k)).2
    by_cases hlt : k < s.size
    · have hb := UInt8.toNat_lt s[k]
      have HS : Hid (sumU n (s.data.toList.take (k + 1)) = moreU (sumU n (s.data.toList.take k)) (s[k].toNat : Int)) := by rw [take_snoc s k hlt, sumU_snoc]; rfl
      go_wp2_with (go_at_call 81; refine (rmore_any _ _ _ (by omega) (by omega)).mono ?_; rintro e w' ⟨rfl, rfl⟩)
      go_round
      case rel => exact ⟨k + 1, by omega, by go_num, by rw [HS.out]⟩
      case measure => simp [intOf]; omega
    · go_wp2
      go_ret
      exact ⟨ret_int (by rw [List.take_of_length_le (by simp; omega)]), rfl⟩
/-! ### places -/

theorem place_cases (n m : Int) (k : Nat) (h : (k : Int) < m) :
    (placeOf n m k = startOf n m + k ∧ startOf n m + k < m) ∨ (placeOf n m k = startOf n m + k - m ∧ m ≤ startOf n m + k) := by
  have h0 := (startOf_bd n m).1
  have h1 := (startOf_bd n m).2.1 (by omega)
  have e : placeOf n m k = (startOf n m + k) % m := by unfold placeOf; rw [if_neg (by omega)]
  rw [e]
  by_cases hlt : startOf n m + (k : Int) < m
  · exact .inl ⟨Int.emod_eq_of_lt (by omega) hlt, hlt⟩
  · refine .inr ⟨?_, by omega⟩
    have : (startOf n m + (k : Int)) % m = (startOf n m + k - m) % m := by rw [Int.sub_emod_right]
    rw [this]; exact Int.emod_eq_of_lt (by omega) (by omega)

theorem place_bd (n m : Int) (k : Nat) (h : (k : Int) < m) : 0 ≤ placeOf n m k ∧ placeOf n m k < m := by
  have h0 := (startOf_bd n m).1
  have h1 := (startOf_bd n m).2.1 (by omega)
  rcases place_cases n m k h with ⟨e, _⟩ | ⟨e, _⟩ <;> omega

theorem place_inj (n m : Int) (k j : Nat) (hk : (k : Int) < m) (hj : (j : Int) < m) (h : placeOf n m k = placeOf n m j) : k = j := by
  rcases place_cases n m k hk with ⟨e, _⟩ | ⟨e, _⟩ <;> rcases place_cases n m j hj with ⟨e', _⟩ | ⟨e', _⟩ <;> omega

end Go.Proofs.YtpnfbabiibopnaaGreat

/-! find's routine as it lies: its methods Act and Result. -/
namespace Go.Proofs.YtpnfbabiibopnaaGreat
open Go Go.RowKit
attribute [local go_sem ↓] Go.wp_at_zero Go.wp_at_succ

/-- What was found, compared. -/
theorem neqF_run (k s k' s' : Int) (w : World) : (binOp .neq 89 (.agg #[.int .i64 k, .int .i64 s]) (.agg #[.int .i64 k', .int .i64 s'])).run Tryz.prog w = .ok (.bool (!(k == k' && s == s'))) w := by
  have u3 := Tryz.underlying3
  have hS : Tryz.prog.underlying 89 = some (.struct (Tryz.prog.fieldsOf 89)) := by kernel_rfl
  have hp : Tryz.prog.stoodInHeld 89 = false := by kernel_rfl
  rw [run_neq_struct, show (10000 : Nat) = 9999 + 1 from rfl, run_equalIn_agg w 9999 89 _ _ hS hp]
  simp only [Program.fieldsOf, Tryz.underlying89]
  have a3 := Tryz.isAgg3
  have z3 := Tryz.sizeOf3
  go_simp
  by_cases h1 : k = k' <;> by_cases h2 : s = s' <;> simp [h1, h2]

/-- A routine as it lies: its config, its key, the key's sum, the place on the way, the act that is to be done, what was found. -/
structure FindR where
  a : Int
  p : Int
  s : Int
  q : Int
  v : Int
  x : Int
  key : ByteArray
  n : Int
  i : Int
  y : ActD
  k : Int
  sh : Int
abbrev fndC (d : FindR) : Array Value := #[.int .i64 d.a, .int .i64 d.p, .int .i64 d.s, .int .i64 d.q, .int .i64 d.v, .int .u64 d.x, .string d.key, .int .u64 d.n, .int .i64 d.i, .int .i64 d.y.kind, .int .u64 (d.y.block : Int), .int .i64 d.y.cell, .int .u64 d.y.old, .int .u64 d.y.new, .string d.y.text, .int .i64 d.k, .int .i64 d.sh]
abbrev fndO (d : FindR) : Obj := .cells (fndC d) 112 (0, 0)
def FindR.zero : FindR := ⟨0, 0, 0, 0, 0, 0, ⟨#[]⟩, 0, 0, noAct, 0, 0⟩
section
variable {X : World} {r : Nat} {d : FindR}
theorem fnd_at (h : X.heap[r]? = some (fndO d)) :
    (X.cell? ⟨r, 0, none⟩ = some (.int .i64 d.a) ∧ X.cell? ⟨r, 1, none⟩ = some (.int .i64 d.p) ∧ X.cell? ⟨r, 2, none⟩ = some (.int .i64 d.s) ∧ X.cell? ⟨r, 3, none⟩ = some (.int .i64 d.q) ∧ X.cell? ⟨r, 4, none⟩ = some (.int .i64 d.v) ∧ X.cell? ⟨r, 5, none⟩ = some (.int .u64 d.x)) ∧
    (X.cell? ⟨r, 6, none⟩ = some (.string d.key) ∧ X.cell? ⟨r, 7, none⟩ = some (.int .u64 d.n) ∧ X.cell? ⟨r, 8, none⟩ = some (.int .i64 d.i)) ∧
    (X.cell? ⟨r, 9, none⟩ = some (.int .i64 d.y.kind) ∧ X.cell? ⟨r, 10, none⟩ = some (.int .u64 (d.y.block : Int)) ∧ X.cell? ⟨r, 11, none⟩ = some (.int .i64 d.y.cell) ∧ X.cell? ⟨r, 12, none⟩ = some (.int .u64 d.y.old) ∧ X.cell? ⟨r, 13, none⟩ = some (.int .u64 d.y.new) ∧ X.cell? ⟨r, 14, none⟩ = some (.string d.y.text)) ∧
    (X.cell? ⟨r, 15, none⟩ = some (.int .i64 d.k) ∧ X.cell? ⟨r, 16, none⟩ = some (.int .i64 d.sh)) :=
  ⟨⟨(cell_of h).trans rfl, (cell_of h).trans rfl, (cell_of h).trans rfl, (cell_of h).trans rfl, (cell_of h).trans rfl, (cell_of h).trans rfl⟩, ⟨(cell_of h).trans rfl, (cell_of h).trans rfl, (cell_of h).trans rfl⟩, ⟨(cell_of h).trans rfl, (cell_of h).trans rfl, (cell_of h).trans rfl, (cell_of h).trans rfl, (cell_of h).trans rfl, (cell_of h).trans rfl⟩, (cell_of h).trans rfl, (cell_of h).trans rfl⟩
theorem fnd_free (h : X.heap[r]? = some (fndO d)) (i : Nat) : X.frozen? ⟨r, i, none⟩ = false := by simp [World.frozen?, h]
end

/-! ### Act -/
def ActE (y : ActD) (q : Bool) (W : World) (e : Ending) (W' : World) : Prop := e = .returned (.tuple #[actOf y, .bool q]) ∧ Below W.heap.size W W'
theorem fact_end {W X : World} {n : Nat} {x : ActD} {is : Bool} {T : Array Value} (h : X.heap[n]? = some noO) (hb : Below W.heap.size W X) (hn : W.heap.size ≤ n) (h2 : T.getD 2 undef = .pointer (some ⟨n, 0, none⟩)) (h3 : T.getD 3 undef = .bool is) :
    bodyPost Tryz.prog Tryz.f22 (ActE x is W) .ret { tmps := T, defers := [] }
      (((((((X.setCell ⟨n, 0, none⟩ (.int .i64 x.kind)).setCell ⟨n, 1, none⟩ (.int .u64 (x.block : Int))).setCell ⟨n, 2, none⟩ (.int .i64 x.cell)).setCell ⟨n, 3, none⟩ (.int .u64 x.old)).setCell ⟨n, 4, none⟩ (.int .u64 x.new)).setCell ⟨n, 5, none⟩ (.string x.text)).drew) := by
  have h6 := set6 h (.int .i64 x.kind) (.int .u64 (x.block : Int)) (.int .i64 x.cell) (.int .u64 x.old) (.int .u64 x.new) (.string x.text)
  have hb6 := below_turned (below6 hb hn (.int .i64 x.kind) (.int .u64 (x.block : Int)) (.int .i64 x.cell) (.int .u64 x.old) (.int .u64 x.new) (.string x.text))
  generalize ((((((X.setCell ⟨n, 0, none⟩ (.int .i64 x.kind)).setCell ⟨n, 1, none⟩ (.int .u64 (x.block : Int))).setCell ⟨n, 2, none⟩ (.int .i64 x.cell)).setCell ⟨n, 3, none⟩ (.int .u64 x.old)).setCell ⟨n, 4, none⟩ (.int .u64 x.new)).setCell ⟨n, 5, none⟩ (.string x.text)) = Y at h6 hb6 ⊢
  have h7 : Y.drew.heap[n]? = some (.cells (actCells x) 31 (0, 0)) := h6
  exact bodyPost_ret (v := .tuple #[actOf x, .bool is]) (by rw [results_cell2 (by rfl), h2, h3]; simp only [asAddr, Sem.run_pure, Result.andThen_ok, load_act h7]) rfl ⟨rfl, hb6⟩

set_option maxRecDepth 100000 in
set_option maxHeartbeats 4000000 in
theorem fact_any (W : World) {r : Nat} {d : FindR} (h : W.heap[r]? = some (fndO d)) {y : ActD} {q : Bool} (hy : d.y = y) (hrun : ∀ w : World, (binOp .neq 31 (actV y.kind y.block y.cell y.old y.new y.text) (actV 0 0 0 0 0 ⟨#[]⟩)).run Tryz.prog w = .ok (.bool q) w) :
    Calls Tryz.prog 22 #[.pointer (some ⟨r, 0, none⟩)] W (ActE y q W) := by
  subst hy
  have HB := Lib.hid (below_alloc W noO)
  have HN := Lib.hid (World.alloc_heap_new W noO)
  obtain ⟨z0, z1, z2, z3, z4, z5⟩ := six_free HN.out
  obtain ⟨m0, m1, m2, m3, m4, m5⟩ := six_at HN.out
  obtain ⟨-, -, ⟨a0, a1, a2, a3, a4, a5⟩, -⟩ := fnd_at ((HB.out.block r (heap_at_lt h)).trans h)
  have hne : W.heap.size ≠ r := by have := heap_at_lt h; omega
  clear h
  go_enter Tryz.func22, Tryz.ntmps22
  go_wp2_with fail
  generalize W.alloc noO = w2 at HB HN m0 m1 m2 m3 m4 m5 z0 z1 z2 z3 z4 z5 a0 a1 a2 a3 a4 a5 ⊢
  go_region
  all_goals
    go_wp2_with fail
    exact fact_end HN.out HB.out (Nat.le_refl _) rfl rfl
set_option maxRecDepth 100000 in
set_option maxHeartbeats 800000 in
/-- No routine. -/
theorem fact_nil (W : World) : Calls Tryz.prog 22 #[.pointer none] W (ActE noAct false W) := by
  have HB := Lib.hid (below_alloc W noO)
  have HN := Lib.hid (World.alloc_heap_new W noO)
  obtain ⟨z0, z1, z2, z3, z4, z5⟩ := six_free HN.out
  obtain ⟨m0, m1, m2, m3, m4, m5⟩ := six_at HN.out
  go_enter Tryz.func22, Tryz.ntmps22
  go_wp2_with fail
  refine bodyPost_ret (v := .tuple #[actOf noAct, .bool false]) (by rw [results_cell2 (by rfl)]; go_simp; exact ⟨rfl, rfl, rfl, rfl, rfl, rfl⟩) rfl ⟨rfl, ?_⟩
  exact HB.out

/-! ### Result -/
abbrev fouV (k s : Int) : Value := .agg #[.int .i64 k, .int .i64 s]
abbrev fouO (k s : Int) : Obj := .cells #[.int .i64 k, .int .i64 s] 89 (0, 0)
theorem load_fou {X : World} {n : Nat} {k s : Int} (h : X.heap[n]? = some (fouO k s)) : (loadVar 89 ⟨n, 0, none⟩).run Tryz.prog X = .ok (fouV k s) X := by
  have m0 := (cell_of (i := 0) h).trans rfl
  have m1 := (cell_of (i := 1) h).trans rfl
  go_simp
def ResE (k s : Int) (q : Bool) (W : World) (e : Ending) (W' : World) : Prop := e = .returned (.tuple #[fouV k s, .bool q]) ∧ Below W.heap.size W W'
theorem res_end {W X : World} {n : Nat} {k s : Int} {is : Bool} {T : Array Value} (h : X.heap[n]? = some (fouO 0 0)) (hb : Below W.heap.size W X) (hn : W.heap.size ≤ n) (h2 : T.getD 2 undef = .pointer (some ⟨n, 0, none⟩)) (h3 : T.getD 3 undef = .bool is) :
    bodyPost Tryz.prog Tryz.f36 (ResE k s is W) .ret { tmps := T, defers := [] } (((X.setCell ⟨n, 0, none⟩ (.int .i64 k)).setCell ⟨n, 1, none⟩ (.int .i64 s)).drew) := by
  have h6 : ((X.setCell ⟨n, 0, none⟩ (.int .i64 k)).setCell ⟨n, 1, none⟩ (.int .i64 s)).heap[n]? = some (fouO k s) := heap_setAt (heap_setAt h)
  have hb6 := below_turned ((hb.setCell (p := ⟨n, 0, none⟩) hn (.int .i64 k)).setCell (p := ⟨n, 1, none⟩) hn (.int .i64 s))
  generalize ((X.setCell ⟨n, 0, none⟩ (.int .i64 k)).setCell ⟨n, 1, none⟩ (.int .i64 s)) = Y at h6 hb6 ⊢
  have h7 : Y.drew.heap[n]? = some (fouO k s) := h6
  exact bodyPost_ret (v := .tuple #[fouV k s, .bool is]) (by rw [results_cell2 (by rfl), h2, h3]; simp only [asAddr, Sem.run_pure, Result.andThen_ok, load_fou h7]) rfl ⟨rfl, hb6⟩

set_option maxRecDepth 100000 in
set_option maxHeartbeats 4000000 in
theorem fres_any (W : World) {r : Nat} {d : FindR} (h : W.heap[r]? = some (fndO d)) {k s : Int} {q : Bool} (hk : d.k = k) (hs : d.sh = s) (hrun : (!(k == 0 && s == 0)) = q) :
    Calls Tryz.prog 36 #[.pointer (some ⟨r, 0, none⟩)] W (ResE k s q W) := by
  subst hk hs
  have HB := Lib.hid (below_alloc W (fouO 0 0))
  have HN := Lib.hid (World.alloc_heap_new W (fouO 0 0))
  have hrn := fun w => (neqF_run d.k d.sh 0 0 w).trans (by rw [hrun])
  obtain ⟨z0, z1⟩ := two_free HN.out
  obtain ⟨m0, m1⟩ := two_at HN.out
  obtain ⟨-, -, -, a0, a1⟩ := fnd_at ((HB.out.block r (heap_at_lt h)).trans h)
  have hne : W.heap.size ≠ r := by have := heap_at_lt h; omega
  clear h hrun
  go_enter Tryz.func36, Tryz.ntmps36
  go_wp2_with fail
  generalize W.alloc (fouO 0 0) = w2 at HB HN m0 m1 z0 z1 a0 a1 ⊢
  go_region
  all_goals
    go_wp2_with fail
    exact res_end HN.out HB.out (Nat.le_refl _) rfl rfl

end Go.Proofs.YtpnfbabiibopnaaGreat
