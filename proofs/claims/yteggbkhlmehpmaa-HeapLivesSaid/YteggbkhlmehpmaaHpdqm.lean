/-
  What the sort of words keeps: plain mathematics.
-/
import Derived.Test.YteggbkhlmehpmaaHbreak2
namespace Go.Proofs.Yteggbkhlmehpmaa
open Go Go.RowKit Go.Sort

theorem lt_no {x y : Int} : ltInt x y = false ↔ y ≤ x := by unfold ltInt; simp
theorem lt_yes {x y : Int} : ltInt x y = true ↔ x < y := by unfold ltInt; simp

/-- In order but for what lies in [x, y). -/
def Out (a b x y : Nat) (u : Array Int) : Prop := ∀ i j, a ≤ i → i < j → j < b → (i < x ∨ y ≤ j) → u[i]! ≤ u[j]!
/-- What lies ahead of the part is not greater. -/
def Floor (a b : Nat) (u : Array Int) : Prop := a = 0 ∨ ∀ i, a ≤ i → i < b → u[a - 1]! ≤ u[i]!
def Ord (a b : Nat) (u : Array Int) : Prop := ∀ i j, a ≤ i → i < j → j < b → u[i]! ≤ u[j]!
section
variable {a b x y m : Nat} {d u u' u2 : Array Int}
theorem Ord.of (h : SortedIn ltInt a b u) : Ord a b u := fun i j h1 h2 h3 => lt_no.1 (h i j h1 h2 h3)
theorem Floor.sort (h : Floor a b u) : Go.Sort.Below ltInt a b u := h.elim .inl (fun h => .inr (fun i h1 h2 => lt_no.2 (h i h1 h2)))
theorem Out.whole (a b : Nat) (u : Array Int) : Out a b a b u := fun i j h1 _ h3 h4 => by omega
theorem Out.perm (h : Out a b x y u) (hax : a ≤ x) (hyb : y ≤ b) (hy : y ≤ u.size) (p : PermIn x y u u') : Out a b x y u' := by
  intro i j hi hij hj ho
  rcases Nat.lt_or_ge i x with hix | hix
  · rw [p.2.1 i (.inl hix)]
    by_cases hjy : x ≤ j ∧ j < y
    · exact permIn_all u u' x y (fun v => u[i]! ≤ v) hy p (fun t h1 h2 => h i t hi (by omega) (by omega) (.inl hix)) j hjy.1 hjy.2
    · rw [p.2.1 j (by omega)]
      exact h i j hi hij hj ho
  · have hjy : y ≤ j := by omega
    rw [p.2.1 j (.inr hjy)]
    by_cases hiy : i < y
    · exact permIn_all u u' x y (fun v => v ≤ u[j]!) hy p (fun t h1 h2 => h t j (by omega) (by omega) hj (.inr hjy)) i hix hiy
    · rw [p.2.1 i (.inr (by omega))]
      exact h i j hi hij hj ho
theorem Out.close (h : Out a b x y u) (ho : Ord x y u) : Ord a b u := fun i j h1 h2 h3 => by
  by_cases hc : i < x ∨ y ≤ j
  · exact h i j h1 h2 h3 hc
  · exact ho i j (by omega) h2 (by omega)
theorem Floor.perm (h : Floor a b u) (hb : b ≤ u.size) (p : PermIn a b u u') : Floor a b u' := by
  rcases h with h | h
  · exact .inl h
  · by_cases h0 : a = 0
    · exact .inl h0
    · refine .inr (fun i h1 h2 => ?_)
      rw [p.2.1 (a - 1) (.inl (by omega))]
      exact permIn_all u u' a b (fun v => u[a - 1]! ≤ v) hb p h i h1 h2
theorem Floor.inner (h : Floor a b u) (ho : Out a b x y u) (hax : a ≤ x) (hyb : y ≤ b) : Floor x y u := by
  rcases Nat.lt_or_ge a x with hx | hx
  · exact .inr (fun i h1 h2 => ho (x - 1) i (by omega) (by omega) (by omega) (.inl (by omega)))
  · obtain rfl : a = x := by omega
    exact h.elim .inl (fun h => .inr (fun i h1 h2 => h i h1 (by omega)))
theorem PartR.ltm (h : PartR a b m d u) {t : Nat} (h1 : a ≤ t) (h2 : t < m) : u[t]! < u[m]! := lt_yes.1 (h.2.2.2.1 t h1 h2)
theorem PartR.gem (h : PartR a b m d u) {t : Nat} (h1 : m < t) (h2 : t < b) : u[m]! ≤ u[t]! := lt_no.1 (h.2.2.2.2 t h1 h2)
/-- The first part has been put into order. -/
theorem Out.first (h : Out a b x y u) (hax : a ≤ x) (hyb : y ≤ b) (hy : y ≤ u.size) (p : PartR x y m d u) (q : PermIn x m u u2) (s : Ord x m u2) : Out a b (m + 1) y u2 := by
  have hx := p.1
  have hm := p.2.1
  have h2 : Out a b x y u2 := h.perm hax hyb hy (permIn_mono _ _ _ _ _ _ (Nat.le_refl x) (by omega) hy q)
  have em : u2[m]! = u[m]! := q.2.1 m (.inr (Nat.le_refl m))
  intro i j hi hij hj ho
  by_cases hc : i < x ∨ y ≤ j
  · exact h2 i j hi hij hj hc
  · have hl : i < m → u2[i]! < u[m]! := fun him => permIn_all u u2 x m (fun v => v < u[m]!) (by omega) q (fun t h1 h2 => p.ltm h1 h2) i (by omega) him
    have hg : m < j → u[m]! ≤ u2[j]! := fun hmj => by rw [q.2.1 j (.inr (by omega))]; exact p.gem hmj (by omega)
    rcases Nat.lt_trichotomy j m with h3 | h3 | h3
    · exact s i j (by omega) hij h3
    · subst h3; rw [em]; have := hl hij; omega
    · rcases Nat.lt_or_ge i m with h4 | h4
      · have := hl h4; have := hg h3; omega
      · obtain rfl : i = m := by omega
        rw [em]; exact hg h3
/-- The second part has been put into order. -/
theorem Out.second (h : Out a b x y u) (hax : a ≤ x) (hyb : y ≤ b) (hy : y ≤ u.size) (p : PartR x y m d u) (q : PermIn (m + 1) y u u2) (s : Ord (m + 1) y u2) : Out a b x m u2 := by
  have hx := p.1
  have hm := p.2.1
  have h2 : Out a b x y u2 := h.perm hax hyb hy (permIn_mono _ _ _ _ _ _ (by omega) (Nat.le_refl y) hy q)
  have em : u2[m]! = u[m]! := q.2.1 m (.inl (by omega))
  intro i j hi hij hj ho
  by_cases hc : i < x ∨ y ≤ j
  · exact h2 i j hi hij hj hc
  · have hl : i < m → u2[i]! < u[m]! := fun him => by rw [q.2.1 i (.inl (by omega))]; exact p.ltm (by omega) him
    have hg : m < j → u[m]! ≤ u2[j]! := fun hmj => permIn_all u u2 (m + 1) y (fun v => u[m]! ≤ v) hy q (fun t h1 h2 => p.gem (by omega) h2) j (by omega) (by omega)
    rcases Nat.lt_trichotomy i m with h3 | h3 | h3
    · rcases Nat.lt_trichotomy j m with h4 | h4 | h4
      · omega
      · subst h4; rw [em]; have := hl h3; omega
      · have := hl h3; have := hg h4; omega
    · subst h3; rw [em]; exact hg hij
    · exact s i j (by omega) hij (by omega)
theorem PartR.floor1 (p : PartR x y m d u) (h : Floor x y u) : Floor x m u := h.elim .inl (fun h => .inr (fun i h1 h2 => h i h1 (by have := p.2.1; omega)))
theorem PartR.floor2 (p : PartR x y m d u) : Floor (m + 1) y u := .inr (fun i h1 h2 => by rw [Nat.add_sub_cancel]; exact p.gem (by omega) h2)

theorem perm_whole (hb : b ≤ d.size) (h : PermIn a b d u) : u.toList.Perm d.toList := by
  have h2 := (permIn_mono d u a b 0 d.size (Nat.zero_le _) hb (Nat.le_refl _) h).2.2
  have e1 : u.extract 0 d.size = u := by rw [← h.1]; simp
  have e2 : d.extract 0 d.size = d := by simp
  rw [e1, e2] at h2
  exact h2
theorem dist_ne (h : u.toList.Nodup) {i j : Nat} (hi : i < u.size) (hj : j < u.size) (hij : i ≠ j) : u[i]! ≠ u[j]! := by
  rw [getElem!_pos u i hi, getElem!_pos u j hj]
  have hp := List.pairwise_iff_getElem.1 h
  rcases Nat.lt_or_gt_of_ne hij with h1 | h1
  · have := hp i j (by simpa using hi) (by simpa using hj) h1
    simpa using this
  · have := hp j i (by simpa using hj) (by simpa using hi) h1
    exact fun e => this (by simpa using e.symm)
end
end Go.Proofs.Yteggbkhlmehpmaa
