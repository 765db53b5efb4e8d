/-
  A way is its places, each of which comes just once: plain numbers.
-/
import Derived.Test.YtpfbgojgikkgbaaAwake
namespace Go.Proofs.Ytpfbgojgikkgbaa
open Go Go.RowKit

theorem place_cases (n m : Int) (k : Nat) (h : (k : Int) < m) :
    (placeOf n m k = startOf n m + k ∧ startOf n m + k < m) ∨ (placeOf n m k = startOf n m + k - m ∧ m ≤ startOf n m + k) := by
  have h0 := (startOf_bd n m).1
  have h1 := (startOf_bd n m).2.1 (by omega)
  have e : placeOf n m k = (startOf n m + k) % m := by unfold placeOf; rw [if_neg (by omega)]
  rw [e]
  by_cases hlt : startOf n m + (k : Int) < m
  · exact .inl ⟨Int.emod_eq_of_lt (by omega) hlt, hlt⟩
  · refine .inr ⟨?_, by omega⟩
    have : (startOf n m + (k : Int)) % m = (startOf n m + k - m) % m := by rw [Int.sub_emod_right]
    rw [this]; exact Int.emod_eq_of_lt (by omega) (by omega)

theorem place_bd (n m : Int) (k : Nat) (h : (k : Int) < m) : 0 ≤ placeOf n m k ∧ placeOf n m k < m := by
  have h0 := (startOf_bd n m).1
  have h1 := (startOf_bd n m).2.1 (by omega)
  rcases place_cases n m k h with ⟨e, _⟩ | ⟨e, _⟩ <;> omega

theorem place_inj (n m : Int) (k j : Nat) (hk : (k : Int) < m) (hj : (j : Int) < m) (h : placeOf n m k = placeOf n m j) : k = j := by
  rcases place_cases n m k hk with ⟨e, _⟩ | ⟨e, _⟩ <;> rcases place_cases n m j hj with ⟨e', _⟩ | ⟨e', _⟩ <;> omega

theorem wayList_length (n m : Int) : (wayList (startOf n m) m).length = m.toNat := by
  have h0 := (startOf_bd n m).1
  unfold wayList
  rw [List.length_append, spanList_length, spanList_length]
  by_cases h : 1 ≤ m
  · have h1 := (startOf_bd n m).2.1 h; omega
  · have h1 := (startOf_bd n m).2.2 (by omega); omega

theorem spanList_get (a b : Int) (k : Nat) (h : (k : Int) < b - a) : (spanList a b)[k]? = some (a + k) := by
  unfold spanList
  rw [List.getElem?_map, List.getElem?_range (by omega)]; rfl

theorem wayList_get (n m : Int) (k : Nat) (h : (k : Int) < m) : (wayList (startOf n m) m)[k]? = some (placeOf n m k) := by
  have h0 := (startOf_bd n m).1
  have h1 := (startOf_bd n m).2.1 (by omega)
  unfold wayList
  rcases place_cases n m k h with ⟨e, hc⟩ | ⟨e, hc⟩
  · rw [List.getElem?_append_left (by rw [spanList_length]; omega), spanList_get _ _ _ (by omega), e]
  · rw [List.getElem?_append_right (by rw [spanList_length]; omega), spanList_length, spanList_get _ _ _ (by omega), e]
    congr 1; omega

/-- How often the place j has come, when k are over. -/
def seenOf (n m : Int) (k : Nat) (j : Int) : Int := if (List.range k).any (fun i => placeOf n m (i : Int) == j) then 1 else 0

theorem seenOf_zero (n m j : Int) : seenOf n m 0 j = 0 := by simp [seenOf]
theorem seenOf_new (n m : Int) (k : Nat) (h : (k : Int) < m) : seenOf n m k (placeOf n m k) = 0 := by
  unfold seenOf
  rw [if_neg]
  intro hc
  obtain ⟨i, hi, he⟩ := List.any_eq_true.1 hc
  have hi' : i < k := by simpa using hi
  have := place_inj n m i k (by omega) h (by simpa using he)
  omega
theorem seenOf_same (n m : Int) (k : Nat) : seenOf n m (k + 1) (placeOf n m k) = 1 := by
  unfold seenOf
  rw [List.range_succ, List.any_append]
  simp
theorem seenOf_other (n m : Int) (k : Nat) (j : Int) (h : placeOf n m k ≠ j) : seenOf n m (k + 1) j = seenOf n m k j := by
  unfold seenOf
  rw [List.range_succ, List.any_append]
  simp [h]

end Go.Proofs.Ytpfbgojgikkgbaa
