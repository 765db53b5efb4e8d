/-
  Whatever is answered: the routine stands where the reference does. Plain.
-/
import Derived.Test.YtdnjlpccopeagaaFref
namespace Go.Proofs.Ytdnjlpccopeagaa
open Go Go.RowKit

def stepF (E : FindR) (g : Int × ByteArray) : FindR := if (nextF E).isSome then takeF E g.1 g.2 else E
/-- The routine behind a row of answers. -/
def runF (E : FindR) (G : List (Int × ByteArray)) : FindR := G.foldl stepF E
theorem runF_nil (E : FindR) : runF E [] = E := rfl
theorem runF_cons (E : FindR) (g : Int × ByteArray) (G : List (Int × ByteArray)) : runF E (g :: G) = runF (stepF E g) G := rfl
theorem runF_snoc (E : FindR) (G : List (Int × ByteArray)) (g : Int × ByteArray) : runF E (G ++ [g]) = stepF (runF E G) g := by unfold runF; rw [List.foldl_append]; rfl
theorem runF_done {E : FindR} (h : nextF E = none) : ∀ G, runF E G = E
  | [] => rfl
  | g :: G => by
    rw [runF_cons]
    have : stepF E g = E := by unfold stepF; rw [h]; rfl
    rw [this]; exact runF_done h G
structure SameF (E : FindR) (R : (Int × Int) × TapD) : Prop where
  over : R.2.over = (nextF E).isSome
  act : R.2.act = (nextF E).getD noAct
  res : R.1 = (E.k, E.sh)
  on : (nextF E).isSome = true → E.k = 0 ∧ E.sh = 0
  off : (nextF E).isSome = false → E.k ≠ 0
theorem SameF.stop {E : FindR} {k : Nat} (hn : nextF E = none) (hk : E.k ≠ 0) : SameF E ((E.k, E.sh), ⟨k, false, noAct⟩) :=
  ⟨by rw [hn]; rfl, by rw [hn]; rfl, rfl, fun h => (by rw [hn] at h; cases h), fun _ => hk⟩
theorem SameF.wait {E : FindR} {x : ActD} {k : Nat} (hn : nextF E = some x) (hk : E.k = 0 ∧ E.sh = 0) : SameF E ((0, 0), ⟨k, true, x⟩) :=
  ⟨by rw [hn]; rfl, by rw [hn]; rfl, by rw [hk.1, hk.2], fun _ => hk, fun h => (by rw [hn] at h; cases h)⟩
theorem onT_end (G : List (Int × ByteArray)) (x : ActD) : onT G ⟨G.length, false, noAct⟩ x = ⟨G.length, true, x⟩ := by unfold onT; rw [if_neg (by simp), if_pos rfl]
theorem onT_more {G : List (Int × ByteArray)} {k : Nat} (hk : k < G.length) (x : ActD) : onT G ⟨k, false, noAct⟩ x = ⟨k + 1, false, noAct⟩ := by unfold onT; rw [if_neg (by simp), if_neg (by simp only; omega)]
theorem doW_more {G : List (Int × ByteArray)} {k : Nat} (hk : k < G.length) : doW' G ⟨k, false, noAct⟩ = G[k].1 := by
  unfold doW'; rw [if_neg (by simp)]; simp only; rw [List.getElem?_eq_getElem hk]
theorem doT_more {G : List (Int × ByteArray)} {k : Nat} (hk : k < G.length) : doT' G ⟨k, false, noAct⟩ = G[k].2 := by
  unfold doT'; rw [if_neg (by simp)]; simp only; rw [List.getElem?_eq_getElem hk]

theorem same_from (G : List (Int × ByteArray)) (d : FindR) : ∀ (m i k : Nat), (m : Int) + (i : Int) = d.s → k ≤ G.length → SameF (runF (lookN d i) (G.drop k)) (refF G d m i ⟨k, false, noAct⟩)
  | 0, i, k, hmi, _ => by
    have e : lookN d i = d.to i noAct 3 0 := by unfold lookN; rw [if_neg (by omega)]
    rw [e, runF_done (E := d.to i noAct 3 0) rfl]
    exact SameF.stop (E := d.to i noAct 3 0) rfl (by show (3 : Int) ≠ 0; decide)
  | m + 1, i, k, hmi, hk => by
    have hi : (i : Int) < d.s := by omega
    have e : lookN d i = d.to i (loadF d i) 0 0 := by unfold lookN; rw [if_pos hi]
    rw [e]
    unfold refF
    rcases Nat.eq_or_lt_of_le hk with hk | hk
    · subst hk
      rw [onT_end, if_pos rfl, List.drop_eq_nil_of_le (Nat.le_refl _), runF_nil]
      exact SameF.wait (E := d.to i (loadF d i) 0 0) rfl ⟨rfl, rfl⟩
    · rw [onT_more hk, if_neg (by simp), doW_more hk, List.drop_eq_getElem_cons hk, runF_cons]
      have e1 : stepF (d.to i (loadF d i) 0 0) G[k] = if G[k].1.toNat = 0 then d.to i noAct 2 (d.way i) else d.to i (wordsF G[k].1.toNat) 0 0 := by
        unfold stepF
        rw [if_pos (show (nextF (d.to i (loadF d i) 0 0)).isSome = true from rfl)]
        show lookY d G[k].1.toNat G[k].2 ((i : Int)).toNat (loadF d i) = _
        unfold lookY
        rw [Int.toNat_natCast, if_pos hi, if_neg (by show ¬ (1 : Int) = 0; decide), if_pos (by rfl)]
      rw [e1]
      by_cases h0 : G[k].1.toNat = 0
      · rw [if_pos h0, if_pos h0, runF_done (E := d.to i noAct 2 (d.way i)) rfl]
        exact SameF.stop (E := d.to i noAct 2 (d.way i)) rfl (by show (2 : Int) ≠ 0; decide)
      · rw [if_neg h0, if_neg h0]
        rcases Nat.eq_or_lt_of_le (show k + 1 ≤ G.length from hk) with hk1 | hk1
        · rw [hk1, onT_end, if_pos rfl, List.drop_eq_nil_of_le (Nat.le_refl _), runF_nil]
          exact SameF.wait (E := d.to i (wordsF G[k].1.toNat) 0 0) rfl ⟨rfl, rfl⟩
        · rw [onT_more hk1, if_neg (by simp), doT_more hk1, List.drop_eq_getElem_cons hk1, runF_cons]
          have e2 : stepF (d.to i (wordsF G[k].1.toNat) 0 0) G[k + 1] = if G[k + 1].2.toList = d.key.toList then d.to i noAct 1 (d.way i) else lookN d (i + 1) := by
            unfold stepF
            rw [if_pos (show (nextF (d.to i (wordsF G[k].1.toNat) 0 0)).isSome = true from rfl)]
            show lookY d G[k + 1].1.toNat G[k + 1].2 ((i : Int)).toNat (wordsF G[k].1.toNat) = _
            unfold lookY
            rw [Int.toNat_natCast, if_pos hi, if_neg (by show ¬ (6 : Int) = 0; decide), if_neg (by show ¬ (6 : Int) = 1; decide)]
          rw [e2]
          by_cases ht : G[k + 1].2.toList = d.key.toList
          · rw [if_pos ht, if_pos ht, runF_done (E := d.to i noAct 1 (d.way i)) rfl]
            exact SameF.stop (E := d.to i noAct 1 (d.way i)) rfl (by show (1 : Int) ≠ 0; decide)
          · rw [if_neg ht, if_neg ht]
            exact same_from G d m (i + 1) (k + 1 + 1) (by omega) hk1
theorem same_any (G : List (Int × ByteArray)) (d : FindR) (hs : 0 ≤ d.s) : SameF (runF (lookN d 0) G) (refF G d d.s.toNat 0 tape0) := by
  have := same_from G d d.s.toNat 0 0 (by omega) (Nat.zero_le _)
  rw [List.drop_zero] at this
  exact this
theorem stepF_some {E : FindR} (h : (nextF E).isSome = true) (g : Int × ByteArray) : stepF E g = takeF E g.1 g.2 := by unfold stepF; rw [if_pos h]

end Go.Proofs.Ytdnjlpccopeagaa
