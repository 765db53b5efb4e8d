/-
  The reference's Right, Diff and Patch of layer 7.
-/
import Derived.Test.YtbddicaabjlbjaaRefsl
namespace Go.Proofs.Ytbddicaabjlbjaa
open Go Go.RowKit

/-- All pairs ahead of place i rise. -/
def PairsUp (L : Pairs) (i : Nat) : Prop := ∀ a b (ha : a < L.length) (hb : b < L.length), a < b → b < i → lt L[a].1 L[b].1 = true
def OneUp (L : Pairs) (i k : Nat) : Prop := ∀ a (ha : a < L.length) (hi : i < L.length), a < k → lt L[a].1 L[i].1 = true

set_option maxHeartbeats 2000000 in
set_option maxRecDepth 100000 in
theorem refright_any (p : Option Addr) (c n : Nat) (L : Pairs) (w : World) (h : Sl w p L) (hnn : L.length = n) (hn : n ≤ 1000000) :
    Calls Try.prog 8 #[.slice p n c] w (Says L w) := by
  have H := Lib.hid h
  have HN := Lib.hid hnn
  clear h hnn
  go_enter Try.func8, Try.ntmps8
  go_wp2
  go_loopw [3, 4] (fun s3 _ wr => ∃ i q : Nat, s3 = .int .i64 i ∧ i ≤ n ∧ wr = w.drewN q ∧ Hid (PairsUp L i)) (fun s _ _ => n - (intOf s).toNat)
  case atStart => exact ⟨0, 0, rfl, Nat.zero_le _, rfl, fun a b ha hb h1 h2 => absurd h2 (Nat.not_lt_zero _)⟩
  case round =>
    obtain ⟨i, q, rfl, hin, rfl, hP⟩ := hrel
    by_cases hlt : i < n
    · have hltz : (i : Int) < (n : Int) := by omega
      go_wp2
      go_loopw [4] (fun s4 wr => ∃ k q : Nat, s4 = .int .i64 k ∧ k ≤ i ∧ wr = w.drewN q ∧ Hid (OneUp L i k)) (fun s _ => i - (intOf s).toNat)
      case atStart => exact ⟨0, q, rfl, Nat.zero_le _, rfl, fun a ha hi h1 => absurd h1 (Nat.not_lt_zero _)⟩
      case round =>
        obtain ⟨k, q2, rfl, hki, rfl, hO⟩ := hrel
        by_cases hlt2 : k < i
        · have hlt2z : (k : Int) < (i : Int) := by omega
          have h1 : k < L.length := by rw [HN.out]; omega
          have h2 : i < L.length := by rw [HN.out]; omega
          obtain ⟨b, o, rfl, a1, r1⟩ := H.out k h1
          obtain ⟨b', o', he, a2, r2⟩ := H.out i h2
          obtain ⟨rfl, rfl⟩ : b = b' ∧ o = o' := by simpa using he
          have hi0 : (0 : Int) ≤ (k : Int) := by omega
          have hi1 : (k : Int) < (n : Int) := by omega
          have hi2 : (0 : Int) ≤ (i : Int) := by omega
          obtain ⟨ka, hka⟩ : ∃ ka, L[k].1 = ka := ⟨_, rfl⟩
          obtain ⟨kb, hkb⟩ : ∃ kb, L[i].1 = kb := ⟨_, rfl⟩
          rw [hka] at a1
          rw [hkb] at a2
          cases hl : lt ka kb with
          | true =>
            have hbl : Op.bytesLess ka.toList kb.toList = true := hl
            have HO2 := Lib.hid (show OneUp L i (k + 1) from fun a ha hi' h3 => by
              rcases Nat.lt_or_ge a k with h4 | h4
              · exact hO.out a ha hi' h4
              · obtain rfl : a = k := by omega
                rw [hka, hkb]; exact hl)
            clear r1 r2 hka hkb h1 h2 hl he
            go_wp2_with fail
            go_quiet (fail)
            go_wp2
            go_roundw
            case rel => exact ⟨k + 1, _, by go_num, by omega, rfl, HO2⟩
            case measure => simp [intOf]; omega
          | false =>
            have hbl : Op.bytesLess ka.toList kb.toList = false := hl
            have HNo := Lib.hid (show ¬ Rise L from fun hR => by
              have := List.pairwise_iff_getElem.1 hR k i h1 h2 hlt2
              rw [hka, hkb, hl] at this; cases this)
            clear r1 r2 hka hkb h1 h2 hl he
            go_wp2_with fail
            go_quiet (fail)
            go_wp2
            go_ret
            exact ⟨false, rfl, ⟨fun h => absurd h Bool.false_ne_true, fun h => absurd h HNo.out⟩, q2 + nq, by simp [World.drewN, Nat.add_assoc]⟩
        · have hlt2z : ¬ (k : Int) < (i : Int) := by omega
          obtain rfl : k = i := by omega
          have HP2 := Lib.hid (show PairsUp L (k + 1) from fun a b ha hb h1 h2 => by
            rcases Nat.lt_or_ge b k with h3 | h3
            · exact hP.out a b ha hb h1 h3
            · obtain rfl : b = k := by omega
              exact hO.out a ha hb h1)
          go_wp2
          go_roundw
          case rel => exact ⟨k + 1, q2, by go_num, by omega, rfl, HP2⟩
          case measure => simp [intOf]; omega
    · have hltz : ¬ (i : Int) < (n : Int) := by omega
      have HR := Lib.hid (show Rise L from List.pairwise_iff_getElem.2 fun a b ha hb h1 => hP.out a b ha hb h1 (by have := HN.out; omega))
      go_wp2
      go_ret
      exact ⟨true, rfl, ⟨fun _ => HR.out, fun _ => rfl⟩, q, rfl⟩

theorem stepA {A B : Pairs} {i k : Nat} (hi : i < A.length) (h : k = B.length ∨ ∃ hk : k < B.length, lt A[i].1 B[k].1 = true) : bothD (A.drop i) (B.drop k) = (yes A[i], no A[i].1) :: bothD (A.drop (i + 1)) (B.drop k) := by
  rw [List.drop_eq_getElem_cons hi]
  rcases h with h | ⟨hk, h⟩
  · rw [List.drop_of_length_le (by omega : B.length ≤ k), bothD]
  · rw [List.drop_eq_getElem_cons hk, bothD, if_pos h]
theorem stepB {A B : Pairs} {i k : Nat} (hk : k < B.length) (h : i = A.length ∨ ∃ hi : i < A.length, lt A[i].1 B[k].1 = false ∧ A[i].1 ≠ B[k].1) : bothD (A.drop i) (B.drop k) = (no B[k].1, yes B[k]) :: bothD (A.drop i) (B.drop (k + 1)) := by
  rw [List.drop_eq_getElem_cons hk]
  rcases h with h | ⟨hi, h, hne⟩
  · rw [List.drop_of_length_le (by omega : A.length ≤ i), bothD, bothD, List.map_cons]
  · rw [List.drop_eq_getElem_cons hi, bothD, if_neg (by rw [h]; exact Bool.false_ne_true), if_neg hne]
theorem stepE {A B : Pairs} {i k : Nat} (hi : i < A.length) (hk : k < B.length) (h : A[i].1 = B[k].1) : bothD (A.drop i) (B.drop k) = (yes A[i], yes B[k]) :: bothD (A.drop (i + 1)) (B.drop (k + 1)) := by
  rw [List.drop_eq_getElem_cons hi, List.drop_eq_getElem_cons hk, bothD, if_neg (by rw [h, lt_irrefl]; exact Bool.false_ne_true), if_pos h]

theorem grown_change {B m : Nat} {w0 W w1 : World} {O : List ChD} {g cap : Nat} {v' : Value} {x : ChD} {tmp : Obj} (hB : B ≤ W.heap.size) (hr : W.ownsRow B 38 3 (.slice (some ⟨g, 0, none⟩) m cap) m (flatC O)) (hb : Below B w0 W)
    (hown' : w1.ownsRow B 38 3 v' (m + 1) (flatC O ++ [.string x.key, .bool x.has, .string x.val])) (hgrow : (W.alloc tmp).grownBy w1 (Value.ownBlock (.slice (some ⟨g, 0, none⟩) m cap))) :
    ∃ g' cap', v' = .slice (some ⟨g', 0, none⟩) (m + 1) cap' ∧ w1.ownsRow B 38 3 (.slice (some ⟨g', 0, none⟩) (m + 1) cap') (m + 1) (flatC (O ++ [x])) ∧ Below B w0 w1 := by
  obtain ⟨g', cap', rfl⟩ := ownsRow_succ hown'
  have hg := (hr.lt g rfl).1
  have h1 : Below B W w1 := ((Below.refl B W).alloc hB tmp).grown hgrow (by simp; omega) (fun k e => by
    have : g = k := by simpa [Value.ownBlock] using e
    omega)
  exact ⟨g', cap', rfl, by rw [flatC_snoc]; exact hown', hb.trans h1⟩

/-- Where the reference's Diff stands. -/
def RefAt (w : World) (A B : Pairs) (i k m g cap : Nat) (W : World) : Prop :=
  ∃ O, O ++ picked (bothD (A.drop i) (B.drop k)) = diffD A B ∧ O.length = m ∧ W.ownsRow w.heap.size 38 3 (.slice (some ⟨g, 0, none⟩) m cap) m (flatC O) ∧ Below w.heap.size w W

theorem RefAt.drewN {w W : World} {A B : Pairs} {i k m g cap : Nat} (h : RefAt w A B i k m g cap W) (q : Nat) : RefAt w A B i k m g cap (W.drewN q) := by
  obtain ⟨O, h1, h2, h3, h4⟩ := h
  exact ⟨O, h1, h2, ownsRow_stays h3 (fun _ _ => rfl), h4.trans ⟨rfl, rfl, rfl, Nat.le_refl _, fun _ _ => rfl⟩⟩

end Go.Proofs.Ytbddicaabjlbjaa
