/-
  The routine and the reference's tape go together.
-/
import Derived.Test.YtnfepjolbhnhbaaVref
namespace Go.Proofs.Ytnfepjolbhnhbaa
open Go Go.RowKit

/-- Where the routine stands behind these answers. -/
def runV (v : VerD) (G : List (Int × ByteArray)) : VerD := G.foldl (fun v g => takeV v g.1 g.2) v
theorem runV_snoc (v : VerD) (G : List (Int × ByteArray)) (g : Int × ByteArray) : runV v (G ++ [g]) = takeV (runV v G) g.1 g.2 := by simp [runV]
/-- What holds beside the tape. -/
def SameV (G : List (Int × ByteArray)) (ep nx : Int) (has : Bool) (t : ByteArray) : Prop :=
  (verT G ep nx has t).2.over = (nextV (runV ⟨ep, nx, has, t, 1, 0⟩ G)).isSome ∧ (verT G ep nx has t).2.act = (nextV (runV ⟨ep, nx, has, t, 1, 0⟩ G)).getD noAct ∧
  (nextV (runV ⟨ep, nx, has, t, 1, 0⟩ G) = none → (runV ⟨ep, nx, has, t, 1, 0⟩ G).place = 5 ∧ ((runV ⟨ep, nx, has, t, 1, 0⟩ G).block : Int) = (verT G ep nx has t).1) ∧ ((nextV (runV ⟨ep, nx, has, t, 1, 0⟩ G)).isSome = true → (runV ⟨ep, nx, has, t, 1, 0⟩ G).place ≠ 5)

theorem same_0 (ep nx : Int) (has : Bool) (t : ByteArray) : SameV [] ep nx has t := by
  simp [SameV, verT, onT, doW', tape0, runV, nextV, todoV]
theorem same_v (m1 m2 m3 m4 m5 : Nat) (s1 s2 s3 s4 s5 : ByteArray) (R : List (Int × ByteArray)) (ep nx : Int) (has : Bool) (t : ByteArray) (G : List (Int × ByteArray))
    (hG : G = [((m1 : Int), s1)] ∨ G = [((m1 : Int), s1), ((m2 : Int), s2)] ∨ G = [((m1 : Int), s1), ((m2 : Int), s2), ((m3 : Int), s3)] ∨ G = [((m1 : Int), s1), ((m2 : Int), s2), ((m3 : Int), s3), ((m4 : Int), s4)] ∨ G = ((m1 : Int), s1) :: ((m2 : Int), s2) :: ((m3 : Int), s3) :: ((m4 : Int), s4) :: ((m5 : Int), s5) :: R)
    (hne : ∀ j, j < G.length → (nextV (runV ⟨ep, nx, has, t, 1, 0⟩ (G.take j))).isSome = true) : SameV G ep nx has t := by
  rcases hG with rfl | rfl | rfl | rfl | rfl
  · by_cases hm : m1 = 0 <;> by_cases hx : nx = 0 <;> cases has <;>
      simp [SameV, verT, onT, doW', tape0, runV, nextV, todoV, takeV, firstV, storeV, VerD.to, VerD.of, hm, hx, noAct]
  · have h1 := hne 1 (by simp)
    by_cases hm : m1 = 0 <;> by_cases hx : nx = 0 <;> cases has <;>
      simp [SameV, verT, onT, doW', tape0, runV, nextV, todoV, takeV, firstV, storeV, VerD.to, VerD.of, hm, hx, noAct] at h1 ⊢
  · have h1 := hne 1 (by simp)
    have h2 := hne 2 (by simp)
    by_cases hm : m1 = 0 <;> by_cases hx : nx = 0 <;> cases has <;>
      simp [SameV, verT, onT, doW', tape0, runV, nextV, todoV, takeV, firstV, storeV, VerD.to, VerD.of, hm, hx, noAct] at h1 h2 ⊢
  · have h1 := hne 1 (by simp)
    have h2 := hne 2 (by simp)
    have h3 := hne 3 (by simp)
    by_cases hm : m1 = 0 <;> by_cases hx : nx = 0 <;> cases has <;>
      simp [SameV, verT, onT, doW', tape0, runV, nextV, todoV, takeV, firstV, storeV, VerD.to, VerD.of, hm, hx, noAct] at h1 h2 h3 ⊢
  · have h1 := hne 1 (by simp)
    have h2 := hne 2 (by simp)
    have h3 := hne 3 (by simp)
    have h4 := hne 4 (by simp)
    by_cases hm : m1 = 0 <;> by_cases hx : nx = 0 <;> cases has <;>
      simp [runV, nextV, todoV, takeV, firstV, storeV, VerD.to, VerD.of, hm, hx] at h1 h2 h3 h4
theorem same_any (G : List (Int × ByteArray)) (hG : ∀ g ∈ G, 0 ≤ g.1 ∧ g.1 < 18446744073709551616) (ep nx : Int) (has : Bool) (t : ByteArray) (hne : ∀ j, j < G.length → (nextV (runV ⟨ep, nx, has, t, 1, 0⟩ (G.take j))).isSome = true) : SameV G ep nx has t := by
  have hn : ∀ g ∈ G, ∃ m : Nat, ∃ s, g = ((m : Int), s) := fun g hg => ⟨g.1.toNat, g.2, by have := (hG g hg).1; rw [Int.toNat_of_nonneg this]⟩
  clear hG
  match G, hn, hne with
  | [], _, _ => exact same_0 ep nx has t
  | [g1], hn, hne =>
    obtain ⟨m1, s1, rfl⟩ := hn g1 (by simp)
    exact same_v m1 0 0 0 0 s1 s1 s1 s1 s1 [] ep nx has t _ (.inl rfl) hne
  | [g1, g2], hn, hne =>
    obtain ⟨m1, s1, rfl⟩ := hn g1 (by simp)
    obtain ⟨m2, s2, rfl⟩ := hn g2 (by simp)
    exact same_v m1 m2 0 0 0 s1 s2 s1 s1 s1 [] ep nx has t _ (.inr (.inl rfl)) hne
  | [g1, g2, g3], hn, hne =>
    obtain ⟨m1, s1, rfl⟩ := hn g1 (by simp)
    obtain ⟨m2, s2, rfl⟩ := hn g2 (by simp)
    obtain ⟨m3, s3, rfl⟩ := hn g3 (by simp)
    exact same_v m1 m2 m3 0 0 s1 s2 s3 s1 s1 [] ep nx has t _ (.inr (.inr (.inl rfl))) hne
  | [g1, g2, g3, g4], hn, hne =>
    obtain ⟨m1, s1, rfl⟩ := hn g1 (by simp)
    obtain ⟨m2, s2, rfl⟩ := hn g2 (by simp)
    obtain ⟨m3, s3, rfl⟩ := hn g3 (by simp)
    obtain ⟨m4, s4, rfl⟩ := hn g4 (by simp)
    exact same_v m1 m2 m3 m4 0 s1 s2 s3 s4 s1 [] ep nx has t _ (.inr (.inr (.inr (.inl rfl)))) hne
  | g1 :: g2 :: g3 :: g4 :: g5 :: R, hn, hne =>
    obtain ⟨m1, s1, rfl⟩ := hn g1 (by simp)
    obtain ⟨m2, s2, rfl⟩ := hn g2 (by simp)
    obtain ⟨m3, s3, rfl⟩ := hn g3 (by simp)
    obtain ⟨m4, s4, rfl⟩ := hn g4 (by simp)
    obtain ⟨m5, s5, rfl⟩ := hn g5 (by simp)
    exact same_v m1 m2 m3 m4 m5 s1 s2 s3 s4 s5 R ep nx has t _ (.inr (.inr (.inr (.inr rfl)))) hne

end Go.Proofs.Ytnfepjolbhnhbaa
