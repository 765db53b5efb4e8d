/-
  find's routine alone, on a heap whose first block is a control block: which shelves have which keys, and what is found there. Plain.
-/
import Derived.Test.YtdnjlpccopeagaaFindm
namespace Go.Proofs.Ytdnjlpccopeagaa
open Go Go.RowKit

/-! ### closed runs, step by step -/
theorem mstop_stays {σ : Type} {M : Mach σ} {S : PmS σ} {n : Nat} (h : stepM M (stM M S n) = none) : ∀ m, toM M S (n + m) = toM M S n ∧ stM M S (n + m) = stM M S n
  | 0 => ⟨rfl, rfl⟩
  | m + 1 => by
    obtain ⟨h1, h2⟩ := mstop_stays h m
    refine ⟨?_, ?_⟩
    · show toM M S (n + m) ++ (stepM M (stM M S (n + m))).toList = _
      rw [h1, h2, h]; simp
    · show advM M (stM M S (n + m)) = _
      unfold advM
      rw [h2, h]
theorem stM_succ {σ : Type} {M : Mach σ} {S T U : PmS σ} {n : Nat} (h : stM M S n = T ∧ (toM M S n).length = n) (ha : advM M T = U ∧ (stepM M T).isSome = true) : stM M S (n + 1) = U ∧ (toM M S (n + 1)).length = n + 1 := by
  refine ⟨?_, ?_⟩
  · show advM M (stM M S n) = U
    rw [h.1]; exact ha.1
  · show (toM M S n ++ (stepM M (stM M S n)).toList).length = n + 1
    rw [h.1, List.length_append, h.2]
    obtain ⟨x, hx⟩ := Option.isSome_iff_exists.1 ha.2
    rw [hx]; rfl

/-! ### which shelf has which key -/
abbrev Shelves := Int → Option (List UInt8)
/-- The heap's first block is the control block of the config of d, and the shelves have these keys. -/
structure Field (d : FindR) (D : HpD) (K : Shelves) : Prop where
  faults : D.faults = 0
  ctrl : ∃ b, liveAt D.L 1 = some b ∧ (b.ws.length : Int) = sizeW d.a d.p d.s d.q d.v
  fine : Fine D
  keys : ∀ sh : Int, 0 ≤ sh → sh < d.s → match K sh with
    | none => wordAt D.L 1 (keyW d.a d.p d.s d.q d.v sh) = 0
    | some t => ∃ k : Nat, k ≠ 0 ∧ wordAt D.L 1 (keyW d.a d.p d.s d.q d.v sh) = (k : Int) ∧ there D.L k = 0 ∧ (textAt D.L k).toList = t
section
variable {d : FindR} {D : HpD} {K : Shelves}
theorem keyW_in (hr : rightC d.a d.p d.s d.q d.v = true) {sh : Int} (h0 : 0 ≤ sh) (h1 : sh < d.s) : keyW d.a d.p d.s d.q d.v sh = 3 + d.p + d.a + 2 * sh ∧ 0 ≤ keyW d.a d.p d.s d.q d.v sh ∧ keyW d.a d.p d.s d.q d.v sh < sizeW d.a d.p d.s d.q d.v := by
  obtain ⟨ha, hp, hs⟩ := rightC_bd hr
  have e : keyW d.a d.p d.s d.q d.v sh = 3 + d.p + d.a + 2 * sh := by unfold keyW; rw [if_pos ⟨hr, h0, by omega⟩]
  have e2 : sizeW d.a d.p d.s d.q d.v = 3 + d.p + d.a + 2 * d.s := by unfold sizeW; rw [if_pos hr]
  rw [e, e2]
  omega
theorem way_in (d : FindR) {i : Nat} (hi : (i : Int) < d.s) : 0 ≤ d.way i ∧ d.way i < d.s := place_bd d.n d.s i hi
theorem Field.spot (h : Field d D K) {c : Int} (h0 : 0 ≤ c) (h1 : c < sizeW d.a d.p d.s d.q d.v) : spot D.L 1 c = 0 := by
  obtain ⟨b, hb, hl⟩ := h.ctrl
  rw [spot_some hb, if_neg (by omega)]
theorem loadF_right (hr : rightC d.a d.p d.s d.q d.v = true) {i : Nat} (hi : (i : Int) < d.s) : rightA (loadF d i) = true := by
  obtain ⟨w0, w1⟩ := way_in d hi
  have hk := (keyW_in hr w0 w1).2.1
  simp [rightA, loadF, zeroA, restA, hk, show (⟨#[]⟩ : ByteArray).size = 0 from rfl]
theorem wordsF_right (w : Nat) : rightA (wordsF w) = true := by
  simp [rightA, wordsF, zeroA, restA, show (⟨#[]⟩ : ByteArray).size = 0 from rfl]
theorem lookY_to (i y k sh w t j u) : lookY (d.to i y k sh) w t j u = lookY d w t j u := rfl

theorem adv_of {x : ActD} {E : FindR} (hn : nextF E = some x) (hk : x.kind = 1 ∨ x.kind = 6) : advM FindM ⟨D, E⟩ = ⟨doN D x, takeF E (doW D x) (doT D x)⟩ ∧ (stepM FindM ⟨D, E⟩).isSome = true := by
  have hr : readyA D x = true := by
    unfold readyA
    split
    · rw [if_neg (by omega), if_neg (by omega)]
    · rfl
  have hs : stepM FindM ⟨D, E⟩ = some ⟨x, doW D x, doT D x⟩ := by
    unfold stepM
    show (match nextF E with | some x => if readyA D x then some (⟨x, doW D x, doT D x⟩ : StepD) else none | none => none) = _
    rw [hn]; simp [hr]
  refine ⟨?_, by rw [hs]; rfl⟩
  unfold advM
  rw [hs]
  show nextM FindM ⟨D, E⟩ = _
  unfold nextM
  show (match nextF E with | some x => (⟨doN D x, takeF E (doW D x) (doT D x)⟩ : PmS FindR) | none => ⟨D, E⟩) = _
  rw [hn]
/-- The load of a shelf's cell. -/
theorem adv_load (h : Field d D K) (hr : rightC d.a d.p d.s d.q d.v = true) {i : Nat} (hi : (i : Int) < d.s) :
    advM FindM ⟨D, d.to i (loadF d i) 0 0⟩ = ⟨D, lookY d (wordAt D.L 1 (keyW d.a d.p d.s d.q d.v (d.way i))).toNat ⟨#[]⟩ i (loadF d i)⟩ ∧ (stepM FindM ⟨D, d.to i (loadF d i) 0 0⟩).isSome = true := by
  obtain ⟨w0, w1⟩ := way_in d hi
  obtain ⟨-, k0, k1⟩ := keyW_in hr w0 w1
  have hsp := h.spot k0 k1
  have hA := loadF_right hr hi
  have e1 : doW D (loadF d i) = wordAt D.L 1 (keyW d.a d.p d.s d.q d.v (d.way i)) := by
    unfold doW; rw [hA, if_pos rfl]
    show loadV D 1 (keyW d.a d.p d.s d.q d.v (d.way i)) = _
    unfold loadV; rw [if_pos hsp]
  have e2 : doN D (loadF d i) = D := by
    unfold doN; rw [hA, if_pos rfl]
    show loadD D 1 (keyW d.a d.p d.s d.q d.v (d.way i)) = _
    unfold loadD; rw [if_pos hsp]
  have e3 : doT D (loadF d i) = ⟨#[]⟩ := by
    unfold doT; rw [hA, if_pos rfl]; rfl
  obtain ⟨a1, a2⟩ := adv_of (D := D) (E := d.to i (loadF d i) 0 0) (x := loadF d i) rfl (.inl rfl)
  rw [e1, e2, e3] at a1
  exact ⟨a1, a2⟩
/-- Its key's text. -/
theorem adv_words {i k : Nat} (ht : there D.L k = 0) :
    advM FindM ⟨D, d.to i (wordsF k) 0 0⟩ = ⟨D, lookY d 0 (textAt D.L k) i (wordsF k)⟩ ∧ (stepM FindM ⟨D, d.to i (wordsF k) 0 0⟩).isSome = true := by
  have hA := wordsF_right k
  have e1 : doW D (wordsF k) = 0 := by unfold doW; rw [hA, if_pos rfl]; rfl
  have e2 : doN D (wordsF k) = D := by
    unfold doN; rw [hA, if_pos rfl]
    show wordsD D k = _
    unfold wordsD; rw [if_pos ht]
  have e3 : doT D (wordsF k) = textAt D.L k := by
    unfold doT; rw [hA, if_pos rfl]; rfl
  obtain ⟨a1, a2⟩ := adv_of (D := D) (E := d.to i (wordsF k) 0 0) (x := wordsF k) rfl (.inr rfl)
  rw [e1, e2, e3] at a1
  exact ⟨a1, a2⟩
end

/-- What is found from a place on, and by how many acts. -/
def findK (K : Shelves) (d : FindR) : Nat → Nat → FindR × Nat
  | 0, i => (d.to i noAct 3 0, 0)
  | m + 1, i => match K (d.way i) with
    | none => (d.to i noAct 2 (d.way i), 1)
    | some t => if t = d.key.toList then (d.to i noAct 1 (d.way i), 2) else ((findK K d m (i + 1)).1, (findK K d m (i + 1)).2 + 2)
theorem findK_acts (K : Shelves) (d : FindR) : ∀ m i, (findK K d m i).2 ≤ 2 * m
  | 0, _ => Nat.le_refl _
  | m + 1, i => by
    unfold findK
    split
    · show 1 ≤ _; omega
    · split
      · show 2 ≤ _; omega
      · have := findK_acts K d m (i + 1)
        show (findK K d m (i + 1)).2 + 2 ≤ _; omega
theorem findK_done (K : Shelves) (d : FindR) : ∀ m i, (findK K d m i).1.y = noAct
  | 0, _ => rfl
  | m + 1, i => by
    unfold findK
    split
    · rfl
    · split
      · rfl
      · exact findK_done K d m (i + 1)

theorem find_runs {d : FindR} {D : HpD} {K : Shelves} (h : Field d D K) (hr : rightC d.a d.p d.s d.q d.v = true) (S0 : PmS FindR) : ∀ (m i n0 : Nat), (m : Int) + (i : Int) = d.s → stM FindM S0 n0 = ⟨D, lookN d i⟩ ∧ (toM FindM S0 n0).length = n0 →
    stM FindM S0 (n0 + (findK K d m i).2) = ⟨D, (findK K d m i).1⟩ ∧ (toM FindM S0 (n0 + (findK K d m i).2)).length = n0 + (findK K d m i).2
  | 0, i, n0, hmi, h0 => by
    have e : lookN d i = d.to i noAct 3 0 := by unfold lookN; rw [if_neg (by omega)]
    rw [e] at h0
    exact h0
  | m + 1, i, n0, hmi, h0 => by
    have hi : (i : Int) < d.s := by omega
    have e : lookN d i = d.to i (loadF d i) 0 0 := by unfold lookN; rw [if_pos hi]
    rw [e] at h0
    have s1 := stM_succ h0 (adv_load h hr hi)
    have hk := h.keys (d.way i) (way_in d hi).1 (way_in d hi).2
    unfold findK
    cases hK : K (d.way i) with
    | none =>
      rw [hK] at hk
      rw [show wordAt D.L 1 (keyW d.a d.p d.s d.q d.v (d.way i)) = 0 from hk] at s1
      have e2 : lookY d (0 : Int).toNat ⟨#[]⟩ i (loadF d i) = d.to i noAct 2 (d.way i) := by
        unfold lookY; rw [if_pos hi, if_neg (by show ¬ (1 : Int) = 0; decide), if_pos (by rfl), if_pos (by rfl)]
      rw [e2] at s1
      exact s1
    | some t =>
      rw [hK] at hk
      obtain ⟨k, hk0, hkw, hkt, hkx⟩ := hk
      rw [hkw] at s1
      have e2 : lookY d ((k : Int)).toNat ⟨#[]⟩ i (loadF d i) = d.to i (wordsF k) 0 0 := by
        unfold lookY; rw [if_pos hi, if_neg (by show ¬ (1 : Int) = 0; decide), if_pos (by rfl), Int.toNat_natCast, if_neg hk0]
      rw [e2] at s1
      have s2 := stM_succ s1 (adv_words (d := d) (i := i) hkt)
      by_cases ht : t = d.key.toList
      · have e3 : lookY d 0 (textAt D.L k) i (wordsF k) = d.to i noAct 1 (d.way i) := by
          unfold lookY; rw [if_pos hi, if_neg (by show ¬ (6 : Int) = 0; decide), if_neg (by show ¬ (6 : Int) = 1; decide), if_pos (by rw [hkx, ht])]
        rw [e3] at s2
        simp only [if_pos ht]
        exact s2
      · have e3 : lookY d 0 (textAt D.L k) i (wordsF k) = lookN d (i + 1) := by
          unfold lookY; rw [if_pos hi, if_neg (by show ¬ (6 : Int) = 0; decide), if_neg (by show ¬ (6 : Int) = 1; decide), if_neg (by rw [hkx]; exact ht)]
        rw [e3] at s2
        have := find_runs h hr S0 m (i + 1) (n0 + 1 + 1) (by omega) s2
        simp only [if_neg ht]
        rw [show n0 + ((findK K d m (i + 1)).2 + 2) = n0 + 1 + 1 + (findK K d m (i + 1)).2 from by omega]
        exact this
/-- Alone: what is found. -/
theorem find_alone {d : FindR} {D : HpD} {K : Shelves} (h : Field d D K) (hr : rightC d.a d.p d.s d.q d.v = true) (m : Nat) (hm : 2 * d.s ≤ (m : Int)) :
    stM FindM ⟨D, lookN d 0⟩ m = ⟨D, (findK K d d.s.toNat 0).1⟩ ∧ (toM FindM ⟨D, lookN d 0⟩ m).length = (findK K d d.s.toNat 0).2 ∧ (nextF (findK K d d.s.toNat 0).1).isSome = false := by
  have hs := (rightC_bd hr).2.2
  have hd : nextF (findK K d d.s.toNat 0).1 = none := by
    unfold nextF
    rw [findK_done]
    rfl
  have hl := findK_acts K d d.s.toNat 0
  obtain ⟨r1, r2⟩ := find_runs h hr ⟨D, lookN d 0⟩ d.s.toNat 0 0 (by omega) ⟨rfl, rfl⟩
  rw [Nat.zero_add] at r1 r2
  have hno : stepM FindM (stM FindM ⟨D, lookN d 0⟩ (findK K d d.s.toNat 0).2) = none := by
    rw [r1]
    unfold stepM
    show (match nextF (findK K d d.s.toNat 0).1 with | some x => if readyA D x then some (⟨x, doW D x, doT D x⟩ : StepD) else none | none => none) = _
    rw [hd]
  obtain ⟨q1, q2⟩ := mstop_stays hno (m - (findK K d d.s.toNat 0).2)
  rw [show (findK K d d.s.toNat 0).2 + (m - (findK K d d.s.toNat 0).2) = m from by omega] at q1 q2
  exact ⟨by rw [q2, r1], by rw [q1, r2], by rw [hd]; rfl⟩

/-! ### what is found, said by places -/
/-- The shelf at the j-th place of the way has another key. -/
def Other (K : Shelves) (d : FindR) (j : Nat) : Prop := ∃ t, K (d.way j) = some t ∧ t ≠ d.key.toList
theorem findK_says (K : Shelves) (d : FindR) : ∀ m i, let E := (findK K d m i).1
    (E.k = 2 ∧ ∃ j, i ≤ j ∧ j < i + m ∧ E.sh = d.way j ∧ K (d.way j) = none ∧ ∀ l, i ≤ l → l < j → Other K d l) ∨
    (E.k = 1 ∧ ∃ j, i ≤ j ∧ j < i + m ∧ E.sh = d.way j ∧ K (d.way j) = some d.key.toList ∧ ∀ l, i ≤ l → l < j → Other K d l) ∨
    (E.k = 3 ∧ E.sh = 0 ∧ ∀ l, i ≤ l → l < i + m → Other K d l)
  | 0, i => .inr (.inr ⟨rfl, rfl, fun l h1 h2 => by omega⟩)
  | m + 1, i => by
    unfold findK
    cases hK : K (d.way i) with
    | none => exact .inl ⟨rfl, i, Nat.le_refl _, by omega, rfl, hK, fun l h1 h2 => by omega⟩
    | some t =>
      by_cases ht : t = d.key.toList
      · simp only [if_pos ht]
        exact .inr (.inl ⟨rfl, i, Nat.le_refl _, by omega, rfl, by rw [hK, ht], fun l h1 h2 => by omega⟩)
      · simp only [if_neg ht]
        have hO : Other K d i := ⟨t, hK, ht⟩
        have hx : ∀ l j, (∀ l, i + 1 ≤ l → l < j → Other K d l) → i ≤ l → l < j → Other K d l := fun l j hj h1 h2 => by
          rcases Nat.eq_or_lt_of_le h1 with rfl | h3
          · exact hO
          · exact hj l h3 h2
        rcases findK_says K d m (i + 1) with ⟨h1, j, h2, h3, h4, h5, h6⟩ | ⟨h1, j, h2, h3, h4, h5, h6⟩ | ⟨h1, h2, h3⟩
        · exact .inl ⟨h1, j, by omega, by omega, h4, h5, fun l => hx l j h6⟩
        · exact .inr (.inl ⟨h1, j, by omega, by omega, h4, h5, fun l => hx l j h6⟩)
        · exact .inr (.inr ⟨h1, h2, fun l a b => hx l (i + (m + 1)) (fun l a b => h3 l a (by omega)) a b⟩)

end Go.Proofs.Ytdnjlpccopeagaa
