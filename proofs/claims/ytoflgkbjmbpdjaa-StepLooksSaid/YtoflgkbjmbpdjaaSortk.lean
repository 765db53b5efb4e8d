/-
  Rows of keys: put into order, each once: plain mathematics, and the library's Sort of such a row.
-/
import Derived.Test.YtoflgkbjmbpdjaaFromiterb
import Derived.Sort.OwnSorted
import Derived.Sort.Walk0
namespace Go.Proofs.Ytoflgkbjmbpdjaa
open Go Go.RowKit

/-- Keys that rise, or stay. -/
def Order (T : List ByteArray) : Prop := T.Pairwise fun a b => lt b a = false
/-- Keys that rise. -/
def RiseK (R : List ByteArray) : Prop := R.Pairwise fun a b => lt a b = true

theorem RiseK.ext : ∀ {A B : List ByteArray}, RiseK A → RiseK B → (∀ k, k ∈ A ↔ k ∈ B) → A = B
  | [], [], _, _, _ => rfl
  | [], b :: _, _, _, h => absurd ((h b).2 (by simp)) (by simp)
  | a :: _, [], _, _, h => absurd ((h a).1 (by simp)) (by simp)
  | a :: x, b :: y, hA, hB, h => by
    obtain ⟨ha, hx⟩ := List.pairwise_cons.1 hA
    obtain ⟨hb, hy⟩ := List.pairwise_cons.1 hB
    have e : a = b := by
      rcases List.mem_cons.1 ((h a).1 (by simp)) with e | e
      · exact e
      · rcases List.mem_cons.1 ((h b).2 (by simp)) with e' | e'
        · exact e'.symm
        · have := lt_trans (ha b e') (hb a e)
          rw [lt_irrefl] at this; cases this
    subst e
    have hn : ∀ k, k ∈ x → k ≠ a := fun k hk e => by have := ha k hk; rw [e, lt_irrefl] at this; cases this
    have hm : ∀ k, k ∈ y → k ≠ a := fun k hk e => by have := hb k hk; rw [e, lt_irrefl] at this; cases this
    rw [RiseK.ext hx hy (fun k => ⟨fun hk => by
      rcases List.mem_cons.1 ((h k).1 (by simp [hk])) with e | e
      · exact absurd e (hn k hk)
      · exact e, fun hk => by
      rcases List.mem_cons.1 ((h k).2 (by simp [hk])) with e | e
      · exact absurd e (hm k hk)
      · exact e⟩)]

/-- Key by key put into a table without keys. -/
def putAll (T : List ByteArray) : Pairs := T.foldl (fun D k => putD D k ⟨#[]⟩) []
theorem putAll_snoc (T : List ByteArray) (k : ByteArray) : putAll (T ++ [k]) = putD (putAll T) k ⟨#[]⟩ := by simp [putAll]
theorem mem_putD_key {D : Pairs} {k v : ByteArray} : ∀ {q : ByteArray}, (∃ p ∈ putD D k v, p.1 = q) ↔ q = k ∨ ∃ p ∈ D, p.1 = q := by
  intro q
  constructor
  · rintro ⟨p, hp, rfl⟩
    rcases mem_putD hp with rfl | hp
    · exact .inl rfl
    · exact .inr ⟨p, hp, rfl⟩
  · intro h
    induction D with
    | nil =>
      rcases h with rfl | ⟨p, hp, _⟩
      · exact ⟨(q, v), by simp [putD], rfl⟩
      · cases hp
    | cons a r ih =>
      unfold putD
      by_cases hl : lt a.1 k = true
      · rw [if_pos hl]
        rcases h with h | ⟨p, hp, hq⟩
        · obtain ⟨p, hp, hq⟩ := ih (.inl h)
          exact ⟨p, by simp [hp], hq⟩
        · rcases List.mem_cons.1 hp with rfl | hp
          · exact ⟨p, by simp, hq⟩
          · obtain ⟨p', hp', hq'⟩ := ih (.inr ⟨p, hp, hq⟩)
            exact ⟨p', by simp [hp'], hq'⟩
      · rw [if_neg hl]
        by_cases he : a.1 = k
        · rw [if_pos he]
          rcases h with h | ⟨p, hp, hq⟩
          · exact ⟨(k, v), by simp, h.symm⟩
          · rcases List.mem_cons.1 hp with rfl | hp
            · exact ⟨(k, v), by simp, he.symm.trans hq⟩
            · exact ⟨p, by simp [hp], hq⟩
        · rw [if_neg he]
          rcases h with h | ⟨p, hp, hq⟩
          · exact ⟨(k, v), by simp, h.symm⟩
          · exact ⟨p, by simp only [List.mem_cons] at hp ⊢; exact .inr hp, hq⟩
theorem mem_foldl_putD : ∀ (T : List ByteArray) (D : Pairs) (q : ByteArray), (∃ p ∈ T.foldl (fun D k => putD D k ⟨#[]⟩) D, p.1 = q) ↔ q ∈ T ∨ ∃ p ∈ D, p.1 = q
  | [], D, q => by simp
  | k :: T, D, q => by
    rw [List.foldl_cons, mem_foldl_putD T, mem_putD_key, List.mem_cons]
    constructor
    · rintro (h | h | h)
      · exact .inl (.inr h)
      · exact .inl (.inl h)
      · exact .inr h
    · rintro ((h | h) | h)
      · exact .inr (.inl h)
      · exact .inl h
      · exact .inr (.inr h)
theorem mem_putAll {T : List ByteArray} {q : ByteArray} : q ∈ keysOf (putAll T) ↔ q ∈ T := by
  have := mem_foldl_putD T [] q
  unfold keysOf putAll
  rw [List.mem_map]
  constructor
  · rintro ⟨p, hp, h⟩
    rcases this.1 ⟨p, hp, h⟩ with h | ⟨_, h, _⟩
    · exact h
    · cases h
  · intro h
    obtain ⟨p, hp, h⟩ := this.2 (.inl h)
    exact ⟨p, hp, h⟩
theorem rise_foldl : ∀ (T : List ByteArray) {D : Pairs}, Rise D → Rise (T.foldl (fun D k => putD D k ⟨#[]⟩) D)
  | [], _, h => h
  | k :: T, _, h => rise_foldl T (h.put k _)
theorem rise_putAll (T : List ByteArray) : Rise (putAll T) := rise_foldl T Rise.nil
theorem riseK_keysOf {D : Pairs} (h : Rise D) : RiseK (keysOf D) := List.pairwise_map.2 h
theorem length_foldl : ∀ (T : List ByteArray) (D : Pairs), (T.foldl (fun D k => putD D k ⟨#[]⟩) D).length ≤ D.length + T.length
  | [], _ => Nat.le_refl _
  | k :: T, D => by
    have h1 := length_foldl T (putD D k ⟨#[]⟩)
    have h2 := length_putD D k ⟨#[]⟩
    rw [List.foldl_cons, List.length_cons]; omega
theorem length_putAll (T : List ByteArray) : (putAll T).length ≤ T.length := by
  have := length_foldl T []
  simpa [putAll] using this

/-- The keys of a row, rising, each once. -/
def onceD (K : List ByteArray) : List ByteArray := keysOf (putAll K)
theorem onceD_rise (K : List ByteArray) : RiseK (onceD K) := riseK_keysOf (rise_putAll K)
theorem mem_onceD {K : List ByteArray} {q : ByteArray} : q ∈ onceD K ↔ q ∈ K := mem_putAll
theorem onceD_length (K : List ByteArray) : (onceD K).length ≤ K.length := by
  unfold onceD keysOf; rw [List.length_map]; exact length_putAll K
theorem onceD_eq {K R : List ByteArray} (hR : RiseK R) (h : ∀ k, k ∈ R ↔ k ∈ K) : R = onceD K :=
  hR.ext (onceD_rise K) fun k => (h k).trans mem_onceD.symm
theorem onceD_congr {K L : List ByteArray} (h : ∀ k, k ∈ K ↔ k ∈ L) : onceD K = onceD L :=
  onceD_eq (onceD_rise K) fun k => mem_onceD.trans (h k)

/-! ### the library's Sort -/
def ba (l : List UInt8) : ByteArray := ⟨l.toArray⟩
def un (k : ByteArray) : List UInt8 := k.data.toList
theorem ba_un (k : ByteArray) : ba (un k) = k := by cases k; simp [ba, un]
theorem ba_toList (l : List UInt8) : (ba l).toList = l := by rw [ByteArray.toList_eq]; simp [ba]
theorem enc_un (K : List ByteArray) : (K.map un).map encStr = K.map Value.string := by
  rw [List.map_map]
  refine List.map_congr_left fun k _ => ?_
  show Value.string (ba (un k)) = _
  rw [ba_un]

/-- The row in order. -/
def sortK (K : List ByteArray) : List ByteArray := ((K.map un).mergeSort fun x y => decide (x ≤ y)).map ba
theorem sortK_length (K : List ByteArray) : (sortK K).length = K.length := by simp [sortK]
theorem mem_sortK {K : List ByteArray} {k : ByteArray} : k ∈ sortK K ↔ k ∈ K := by
  unfold sortK
  rw [List.mem_map]
  constructor
  · rintro ⟨l, hl, rfl⟩
    rw [List.mem_mergeSort, List.mem_map] at hl
    obtain ⟨k, hk, rfl⟩ := hl
    rwa [ba_un]
  · intro h
    exact ⟨un k, by rw [List.mem_mergeSort]; exact List.mem_map.2 ⟨k, h, rfl⟩, ba_un k⟩
theorem bl_le (x y : List UInt8) : decide (x ≤ y) = !Op.bytesLess y x := by
  rw [bytesLess_eq]
  by_cases h : y < x
  · rw [decide_eq_false (fun h' : x ≤ y => h' h), decide_eq_true h]; rfl
  · rw [decide_eq_true (show x ≤ y from h), decide_eq_false h]; rfl
theorem sortK_order (K : List ByteArray) : Order (sortK K) := by
  unfold Order sortK
  rw [List.pairwise_map]
  refine (List.pairwise_mergeSort (le := fun x y : List UInt8 => decide (x ≤ y)) ?_ ?_ (K.map un)).imp ?_
  · intro a b c h1 h2
    simp only [bl_le, Bool.not_eq_true'] at h1 h2 ⊢
    cases e : Op.bytesLess c a with
    | false => rfl
    | true =>
      cases e' : Op.bytesLess b c with
      | true => rw [bl_trans _ _ _ e' e] at h1; cases h1
      | false =>
        obtain rfl := bl_tri _ _ e' h2
        rw [e] at h1; cases h1
  · intro a b
    simp only [bl_le]
    cases e : Op.bytesLess b a with
    | false => rfl
    | true =>
      cases e' : Op.bytesLess a b with
      | false => rfl
      | true => have := bl_trans _ _ _ e e'; rw [bl_irrefl] at this; cases this
  · intro a b h
    rw [bl_le] at h
    unfold lt
    rw [ba_toList, ba_toList]
    simpa using h

theorem sort_any (B n : Nat) (K : List ByteArray) (v : Value) (w : World) (h : w.ownsRow B 9 1 v n (K.map Value.string)) (hn : n ≤ 10000) :
    Calls Try.prog 29 #[v] w fun e w' => e = .returned (.tuple #[]) ∧ w'.ownsRow B 9 1 v n ((sortK K).map Value.string) ∧ w.grownBy w' v.ownBlock := by
  have hl : K.length = n := by have := h.1; simpa using this
  rcases h.2 with ⟨rfl, h0⟩ | ⟨g, cap, cur, rfl, hbg, hg, hnc, hcm, hcs, htake⟩
  · obtain rfl : K = [] := List.eq_nil_of_length_eq_zero (hl.trans h0)
    refine (Any.slices_Sort_string_none laysSort none 0 w).mono ?_
    rintro e w' ⟨rfl, rfl⟩
    exact ⟨rfl, by simpa [sortK] using h, rfl, rfl, rfl, Nat.le_refl _, fun _ _ _ => rfl⟩
  · have hll : (K.map un).length = n := by simpa using hl
    have hT : cur.toList.take (K.map un).length = (K.map un).map encStr := by
      rw [enc_un, hll]; simpa using htake
    have hc := Any.slices_Sort_string laysSort g 0 cap (K.map un) w (holds_of_block hg hT) (Array.getElem?_eq_some_iff.1 hg).1 (by omega)
    rw [hll] at hc
    refine hc.mono ?_
    rintro e w' ⟨rfl, q, os, rfl⟩
    refine ⟨rfl, ?_, grownBy_sorted _⟩
    have := ownsRow_sorted (w := w) (n := q) (os := os) (ss := K.map un) (ts := (K.map un).mergeSort fun x y => decide (x ≤ y)) (by simp) hbg hg (by omega) hcm (by omega)
    rw [hll] at this
    have e : ((K.map un).mergeSort fun x y => decide (x ≤ y)).map encStr = (sortK K).map Value.string := by
      unfold sortK; rw [List.map_map]; rfl
    rw [e] at this
    exact this

end Go.Proofs.Ytoflgkbjmbpdjaa
