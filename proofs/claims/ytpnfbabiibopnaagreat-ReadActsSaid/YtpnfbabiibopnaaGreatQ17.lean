/-
  Fmath, Ffield, Ver, in one text.
-/
import Derived.Test.YtpnfbabiibopnaaGreatQ15
import Derived.Test.YtpnfbabiibopnaaGreatQ09
import Derived.Test.YtpnfbabiibopnaaGreatQ11
import Derived.Test.YtpnfbabiibopnaaGreatQ04
/-! find's routine alone, on a heap whose first block is a control block: which shelves have which keys, and what is found there. Plain. -/
namespace Go.Proofs.YtpnfbabiibopnaaGreat
open Go Go.RowKit

/-! ### which shelf has which key -/
abbrev Shelves := Int → Option (List UInt8)
/-- The heap's first block is the control block of the config of d, and the shelves have these keys. -/
structure Field (d : FindR) (D : HpD) (K : Shelves) : Prop where
  faults : D.faults = 0
  ctrl : ∃ b, liveAt D.L 1 = some b ∧ (b.ws.length : Int) = sizeW d.a d.p d.s d.q d.v
  fine : Fine D
  keys : ∀ sh : Int, 0 ≤ sh → sh < d.s → match K sh with
    | none => wordAt D.L 1 (keyW d.a d.p d.s d.q d.v sh) = 0
    | some t => ∃ k : Nat, k ≠ 0 ∧ wordAt D.L 1 (keyW d.a d.p d.s d.q d.v sh) = (k : Int) ∧ there D.L k = 0 ∧ (textAt D.L k).toList = t
section
variable {d : FindR} {D : HpD} {K : Shelves}
theorem keyW_in (hr : rightC d.a d.p d.s d.q d.v = true) {sh : Int} (h0 : 0 ≤ sh) (h1 : sh < d.s) : keyW d.a d.p d.s d.q d.v sh = 3 + d.p + d.a + 2 * sh ∧ 0 ≤ keyW d.a d.p d.s d.q d.v sh ∧ keyW d.a d.p d.s d.q d.v sh < sizeW d.a d.p d.s d.q d.v := by
  obtain ⟨ha, hp, hs⟩ := rightC_bd hr
  have e : keyW d.a d.p d.s d.q d.v sh = 3 + d.p + d.a + 2 * sh := by unfold keyW; rw [if_pos ⟨hr, h0, by omega⟩]
  have e2 : sizeW d.a d.p d.s d.q d.v = 3 + d.p + d.a + 2 * d.s := by unfold sizeW; rw [if_pos hr]
  rw [e, e2]
  omega
theorem way_in (d : FindR) {i : Nat} (hi : (i : Int) < d.s) : 0 ≤ d.way i ∧ d.way i < d.s := place_bd d.n d.s i hi
theorem Field.spot (h : Field d D K) {c : Int} (h0 : 0 ≤ c) (h1 : c < sizeW d.a d.p d.s d.q d.v) : spot D.L 1 c = 0 := by
  obtain ⟨b, hb, hl⟩ := h.ctrl
  rw [spot_some hb, if_neg (by omega)]
theorem loadF_right (hr : rightC d.a d.p d.s d.q d.v = true) {i : Nat} (hi : (i : Int) < d.s) : rightA (loadF d i) = true := by
  obtain ⟨w0, w1⟩ := way_in d hi
  have hk := (keyW_in hr w0 w1).2.1
  simp [rightA, loadF, zeroA, restA, hk, show (⟨#[]⟩ : ByteArray).size = 0 from rfl]
theorem wordsF_right (w : Nat) : rightA (wordsF w) = true := by
  simp [rightA, wordsF, zeroA, restA, show (⟨#[]⟩ : ByteArray).size = 0 from rfl]
theorem lookY_to (i y k sh w t j u) : lookY (d.to i y k sh) w t j u = lookY d w t j u := rfl

theorem adv_of {x : ActD} {E : FindR} (hn : nextF E = some x) (hk : x.kind = 1 ∨ x.kind = 6) : advM FindM ⟨D, E⟩ = ⟨doN D x, takeF E (doW D x) (doT D x)⟩ ∧ (stepM FindM ⟨D, E⟩).isSome = true := by
  have hr : readyA D x = true := by
    unfold readyA
    split
    · rw [if_neg (by omega), if_neg (by omega)]
    · rfl
  have hs : stepM FindM ⟨D, E⟩ = some ⟨x, doW D x, doT D x⟩ := by
    unfold stepM
    show (match nextF E with | some x => if readyA D x then some (⟨x, doW D x, doT D x⟩ : StepD) else none | none => none) = _
    rw [hn]; simp [hr]
  refine ⟨?_, by rw [hs]; rfl⟩
  unfold advM
  rw [hs]
  show nextM FindM ⟨D, E⟩ = _
  unfold nextM
  show (match nextF E with | some x => (⟨doN D x, takeF E (doW D x) (doT D x)⟩ : PmS FindR) | none => ⟨D, E⟩) = _
  rw [hn]
/-- The load of a shelf's cell. -/
theorem adv_load (h : Field d D K) (hr : rightC d.a d.p d.s d.q d.v = true) {i : Nat} (hi : (i : Int) < d.s) :
    advM FindM ⟨D, d.to i (loadF d i) 0 0⟩ = ⟨D, lookY d (wordAt D.L 1 (keyW d.a d.p d.s d.q d.v (d.way i))).toNat ⟨#[]⟩ i (loadF d i)⟩ ∧ (stepM FindM ⟨D, d.to i (loadF d i) 0 0⟩).isSome = true := by
  obtain ⟨w0, w1⟩ := way_in d hi
  obtain ⟨-, k0, k1⟩ := keyW_in hr w0 w1
  have hsp := h.spot k0 k1
  have hA := loadF_right hr hi
  have e1 : doW D (loadF d i) = wordAt D.L 1 (keyW d.a d.p d.s d.q d.v (d.way i)) := by
    unfold doW; rw [hA, if_pos rfl]
    show loadV D 1 (keyW d.a d.p d.s d.q d.v (d.way i)) = _
    unfold loadV; rw [if_pos hsp]
  have e2 : doN D (loadF d i) = D := by
    unfold doN; rw [hA, if_pos rfl]
    show loadD D 1 (keyW d.a d.p d.s d.q d.v (d.way i)) = _
    unfold loadD; rw [if_pos hsp]
  have e3 : doT D (loadF d i) = ⟨#[]⟩ := by
    unfold doT; rw [hA, if_pos rfl]; rfl
  obtain ⟨a1, a2⟩ := adv_of (D := D) (E := d.to i (loadF d i) 0 0) (x := loadF d i) rfl (.inl rfl)
  rw [e1, e2, e3] at a1
  exact ⟨a1, a2⟩
/-- Its key's text. -/
theorem adv_words {i k : Nat} (ht : there D.L k = 0) :
    advM FindM ⟨D, d.to i (wordsF k) 0 0⟩ = ⟨D, lookY d 0 (textAt D.L k) i (wordsF k)⟩ ∧ (stepM FindM ⟨D, d.to i (wordsF k) 0 0⟩).isSome = true := by
  have hA := wordsF_right k
  have e1 : doW D (wordsF k) = 0 := by unfold doW; rw [hA, if_pos rfl]; rfl
  have e2 : doN D (wordsF k) = D := by
    unfold doN; rw [hA, if_pos rfl]
    show wordsD D k = _
    unfold wordsD; rw [if_pos ht]
  have e3 : doT D (wordsF k) = textAt D.L k := by
    unfold doT; rw [hA, if_pos rfl]; rfl
  obtain ⟨a1, a2⟩ := adv_of (D := D) (E := d.to i (wordsF k) 0 0) (x := wordsF k) rfl (.inr rfl)
  rw [e1, e2, e3] at a1
  exact ⟨a1, a2⟩
end

/-- What is found from a place on, and by how many acts. -/
def findK (K : Shelves) (d : FindR) : Nat → Nat → FindR × Nat
  | 0, i => (d.to i noAct 3 0, 0)
  | m + 1, i => match K (d.way i) with
    | none => (d.to i noAct 2 (d.way i), 1)
    | some t => if t = d.key.toList then (d.to i noAct 1 (d.way i), 2) else ((findK K d m (i + 1)).1, (findK K d m (i + 1)).2 + 2)
theorem findK_acts (K : Shelves) (d : FindR) : ∀ m i, (findK K d m i).2 ≤ 2 * m
  | 0, _ => Nat.le_refl _
  | m + 1, i => by
    unfold findK
    split
    · show 1 ≤ _; omega
    · split
      · show 2 ≤ _; omega
      · have := findK_acts K d m (i + 1)
        show (findK K d m (i + 1)).2 + 2 ≤ _; omega
theorem findK_done (K : Shelves) (d : FindR) : ∀ m i, (findK K d m i).1.y = noAct
  | 0, _ => rfl
  | m + 1, i => by
    unfold findK
    split
    · rfl
    · split
      · rfl
      · exact findK_done K d m (i + 1)

theorem find_runs {d : FindR} {D : HpD} {K : Shelves} (h : Field d D K) (hr : rightC d.a d.p d.s d.q d.v = true) (S0 : PmS FindR) : ∀ (m i n0 : Nat), (m : Int) + (i : Int) = d.s → stM FindM S0 n0 = ⟨D, lookN d i⟩ ∧ (toM FindM S0 n0).length = n0 →
    stM FindM S0 (n0 + (findK K d m i).2) = ⟨D, (findK K d m i).1⟩ ∧ (toM FindM S0 (n0 + (findK K d m i).2)).length = n0 + (findK K d m i).2
  | 0, i, n0, hmi, h0 => by
    have e : lookN d i = d.to i noAct 3 0 := by unfold lookN; rw [if_neg (by omega)]
    rw [e] at h0
    exact h0
  | m + 1, i, n0, hmi, h0 => by
    have hi : (i : Int) < d.s := by omega
    have e : lookN d i = d.to i (loadF d i) 0 0 := by unfold lookN; rw [if_pos hi]
    rw [e] at h0
    have s1 := stM_succ h0 (adv_load h hr hi)
    have hk := h.keys (d.way i) (way_in d hi).1 (way_in d hi).2
    unfold findK
    cases hK : K (d.way i) with
    | none =>
      rw [hK] at hk
      rw [show wordAt D.L 1 (keyW d.a d.p d.s d.q d.v (d.way i)) = 0 from hk] at s1
      have e2 : lookY d (0 : Int).toNat ⟨#[]⟩ i (loadF d i) = d.to i noAct 2 (d.way i) := by
        unfold lookY; rw [if_pos hi, if_neg (by show ¬ (1 : Int) = 0; decide), if_pos (by rfl), if_pos (by rfl)]
      rw [e2] at s1
      exact s1
    | some t =>
      rw [hK] at hk
      obtain ⟨k, hk0, hkw, hkt, hkx⟩ := hk
      rw [hkw] at s1
      have e2 : lookY d ((k : Int)).toNat ⟨#[]⟩ i (loadF d i) = d.to i (wordsF k) 0 0 := by
        unfold lookY; rw [if_pos hi, if_neg (by show ¬ (1 : Int) = 0; decide), if_pos (by rfl), Int.toNat_natCast, if_neg hk0]
      rw [e2] at s1
      have s2 := stM_succ s1 (adv_words (d := d) (i := i) hkt)
      by_cases ht : t = d.key.toList
      · have e3 : lookY d 0 (textAt D.L k) i (wordsF k) = d.to i noAct 1 (d.way i) := by
          unfold lookY; rw [if_pos hi, if_neg (by show ¬ (6 : Int) = 0; decide), if_neg (by show ¬ (6 : Int) = 1; decide), if_pos (by rw [hkx, ht])]
        rw [e3] at s2
        simp only [if_pos ht]
        exact s2
      · have e3 : lookY d 0 (textAt D.L k) i (wordsF k) = lookN d (i + 1) := by
          unfold lookY; rw [if_pos hi, if_neg (by show ¬ (6 : Int) = 0; decide), if_neg (by show ¬ (6 : Int) = 1; decide), if_neg (by rw [hkx]; exact ht)]
        rw [e3] at s2
        have := find_runs h hr S0 m (i + 1) (n0 + 1 + 1) (by omega) s2
        simp only [if_neg ht]
        rw [show n0 + ((findK K d m (i + 1)).2 + 2) = n0 + 1 + 1 + (findK K d m (i + 1)).2 from by omega]
        exact this
/-- Alone: what is found. -/
theorem find_alone {d : FindR} {D : HpD} {K : Shelves} (h : Field d D K) (hr : rightC d.a d.p d.s d.q d.v = true) (m : Nat) (hm : 2 * d.s ≤ (m : Int)) :
    stM FindM ⟨D, lookN d 0⟩ m = ⟨D, (findK K d d.s.toNat 0).1⟩ ∧ (toM FindM ⟨D, lookN d 0⟩ m).length = (findK K d d.s.toNat 0).2 ∧ (nextF (findK K d d.s.toNat 0).1).isSome = false := by
  have hs := (rightC_bd hr).2.2
  have hd : nextF (findK K d d.s.toNat 0).1 = none := by
    unfold nextF
    rw [findK_done]
    rfl
  have hl := findK_acts K d d.s.toNat 0
  obtain ⟨r1, r2⟩ := find_runs h hr ⟨D, lookN d 0⟩ d.s.toNat 0 0 (by omega) ⟨rfl, rfl⟩
  rw [Nat.zero_add] at r1 r2
  have hno : stepM FindM (stM FindM ⟨D, lookN d 0⟩ (findK K d d.s.toNat 0).2) = none := by
    rw [r1]
    unfold stepM
    show (match nextF (findK K d d.s.toNat 0).1 with | some x => if readyA D x then some (⟨x, doW D x, doT D x⟩ : StepD) else none | none => none) = _
    rw [hd]
  obtain ⟨q1, q2⟩ := mstop_stays hno (m - (findK K d d.s.toNat 0).2)
  rw [show (findK K d d.s.toNat 0).2 + (m - (findK K d d.s.toNat 0).2) = m from by omega] at q1 q2
  exact ⟨by rw [q2, r1], by rw [q1, r2], by rw [hd]; rfl⟩

/-! ### what is found, said by places -/
/-- The shelf at the j-th place of the way has another key. -/
def Other (K : Shelves) (d : FindR) (j : Nat) : Prop := ∃ t, K (d.way j) = some t ∧ t ≠ d.key.toList
theorem findK_says (K : Shelves) (d : FindR) : ∀ m i, let E := (findK K d m i).1
    (E.k = 2 ∧ ∃ j, i ≤ j ∧ j < i + m ∧ E.sh = d.way j ∧ K (d.way j) = none ∧ ∀ l, i ≤ l → l < j → Other K d l) ∨
    (E.k = 1 ∧ ∃ j, i ≤ j ∧ j < i + m ∧ E.sh = d.way j ∧ K (d.way j) = some d.key.toList ∧ ∀ l, i ≤ l → l < j → Other K d l) ∨
    (E.k = 3 ∧ E.sh = 0 ∧ ∀ l, i ≤ l → l < i + m → Other K d l)
  | 0, i => .inr (.inr ⟨rfl, rfl, fun l h1 h2 => by omega⟩)
  | m + 1, i => by
    unfold findK
    cases hK : K (d.way i) with
    | none => exact .inl ⟨rfl, i, Nat.le_refl _, by omega, rfl, hK, fun l h1 h2 => by omega⟩
    | some t =>
      by_cases ht : t = d.key.toList
      · simp only [if_pos ht]
        exact .inr (.inl ⟨rfl, i, Nat.le_refl _, by omega, rfl, by rw [hK, ht], fun l h1 h2 => by omega⟩)
      · simp only [if_neg ht]
        have hO : Other K d i := ⟨t, hK, ht⟩
        have hx : ∀ l j, (∀ l, i + 1 ≤ l → l < j → Other K d l) → i ≤ l → l < j → Other K d l := fun l j hj h1 h2 => by
          rcases Nat.eq_or_lt_of_le h1 with rfl | h3
          · exact hO
          · exact hj l h3 h2
        rcases findK_says K d m (i + 1) with ⟨h1, j, h2, h3, h4, h5, h6⟩ | ⟨h1, j, h2, h3, h4, h5, h6⟩ | ⟨h1, h2, h3⟩
        · exact .inl ⟨h1, j, by omega, by omega, h4, h5, fun l => hx l j h6⟩
        · exact .inr (.inl ⟨h1, j, by omega, by omega, h4, h5, fun l => hx l j h6⟩)
        · exact .inr (.inr ⟨h1, h2, fun l a b => hx l (i + (m + 1)) (fun l a b => h3 l a (by omega)) a b⟩)

end Go.Proofs.YtpnfbabiibopnaaGreat

/-! The control block of a config, and the keys that are put on its shelves; how many; what stands stays. Plain. -/
namespace Go.Proofs.YtpnfbabiibopnaaGreat
open Go Go.RowKit

theorem Field.start (d : FindR) {n : Nat} (hn : (n : Int) = sizeW d.a d.p d.s d.q d.v) : Field d (fieldD n) (fun _ => none) := by
  have hl : liveAt (fieldD n).L 1 = some ⟨List.replicate n 0, ⟨#[]⟩, false⟩ := rfl
  refine ⟨rfl, ⟨_, hl, by rw [← hn]; simp⟩, fun b hb => ?_, fun sh h0 h1 => ?_⟩
  · have hb' : b = ⟨List.replicate n 0, ⟨#[]⟩, false⟩ := by
      have : b ∈ [(⟨List.replicate n 0, ⟨#[]⟩, false⟩ : BlkD)] := hb
      simpa using this
    subst hb'
    exact ⟨fun w hw => by rw [List.eq_of_mem_replicate hw]; omega, by show (⟨#[]⟩ : ByteArray).size ≤ _; exact Nat.zero_le _⟩
  · show wordAt (fieldD n).L 1 _ = 0
    unfold wordAt
    rw [hl]
    show (List.replicate n (0 : Int)).getD _ 0 = 0
    rw [List.getD_eq_getElem?_getD, List.getElem?_replicate]
    split <;> rfl
/-- A shelf more has a key. -/
def Shelves.put (K : Shelves) (sh : Int) (t : List UInt8) : Shelves := fun x => if x = sh then some t else K x
def putD (D : HpD) (c : Int) (t : ByteArray) : HpD := storeD (makeD D 0 t) 1 c ((D.L.length + 1 : Nat) : Int)
section
variable {d : FindR} {D : HpD} {K : Shelves}
theorem makeD_zero (D : HpD) (t : ByteArray) : makeD D 0 t = D.add ⟨[], t, false⟩ := by
  unfold makeD
  rw [if_pos (by decide)]
  rfl
theorem putD_is (h : Field d D K) (hr : rightC d.a d.p d.s d.q d.v = true) {sh : Int} (h0 : 0 ≤ sh) (h1 : sh < d.s) (t : ByteArray) :
    ∃ b, liveAt D.L 1 = some b ∧ (b.ws.length : Int) = sizeW d.a d.p d.s d.q d.v ∧ spot (makeD D 0 t).L 1 (keyW d.a d.p d.s d.q d.v sh) = 0 ∧
      putD D (keyW d.a d.p d.s d.q d.v sh) t = ⟨(D.L ++ [(⟨[], t, false⟩ : BlkD)]).set 0 ⟨b.ws.set (keyW d.a d.p d.s d.q d.v sh).toNat ((D.L.length + 1 : Nat) : Int), b.text, false⟩, D.locked, D.faults⟩ := by
  obtain ⟨b, hb, hl⟩ := h.ctrl
  obtain ⟨-, k0, k1⟩ := keyW_in hr h0 h1
  have hlen := (liveAt_some hb).2.1
  have hb1 : liveAt (makeD D 0 t).L 1 = some b := by
    rw [makeD_zero]
    show liveAt (D.L ++ [_]) 1 = _
    rw [liveAt_snoc, if_neg (by omega), hb]
  have hsp : spot (makeD D 0 t).L 1 (keyW d.a d.p d.s d.q d.v sh) = 0 := by rw [spot_some hb1, if_neg (by omega)]
  refine ⟨b, hb, hl, hsp, ?_⟩
  unfold putD storeD
  rw [if_pos hsp]
  unfold HpD.word
  rw [hb1, makeD_zero]
  rfl
theorem putD_length (h : Field d D K) (hr : rightC d.a d.p d.s d.q d.v = true) {sh : Int} (h0 : 0 ≤ sh) (h1 : sh < d.s) (t : ByteArray) : (putD D (keyW d.a d.p d.s d.q d.v sh) t).L.length = D.L.length + 1 := by
  obtain ⟨b, -, -, -, e⟩ := putD_is h hr h0 h1 t
  rw [e]; simp
theorem Field.put (h : Field d D K) (hr : rightC d.a d.p d.s d.q d.v = true) {sh : Int} (h0 : 0 ≤ sh) (h1 : sh < d.s) {t : ByteArray} (ht : t.size ≤ 281474976710656) (hm : D.L.length ≤ 1000000) :
    Field d (putD D (keyW d.a d.p d.s d.q d.v sh) t) (K.put sh t.toList) := by
  obtain ⟨b, hb, hl, hsp, e⟩ := putD_is h hr h0 h1 t
  obtain ⟨ek, k0, k1⟩ := keyW_in hr h0 h1
  have hlen := (liveAt_some hb).2.1
  rw [e]
  have hL : ∀ k, liveAt ((D.L ++ [(⟨[], t, false⟩ : BlkD)]).set 0 ⟨b.ws.set (keyW d.a d.p d.s d.q d.v sh).toNat ((D.L.length + 1 : Nat) : Int), b.text, false⟩) k =
      if k = 1 then some ⟨b.ws.set (keyW d.a d.p d.s d.q d.v sh).toNat ((D.L.length + 1 : Nat) : Int), b.text, false⟩ else if k = D.L.length + 1 then some ⟨[], t, false⟩ else liveAt D.L k := fun k => by
    have := liveAt_set (D.L ++ [(⟨[], t, false⟩ : BlkD)]) 1 k ⟨b.ws.set (keyW d.a d.p d.s d.q d.v sh).toNat ((D.L.length + 1 : Nat) : Int), b.text, false⟩ (Nat.le_refl _) (by simp)
    rw [show (1 : Nat) - 1 = 0 from rfl] at this
    rw [this, liveAt_snoc]
    rfl
  have h1L := hL 1
  rw [if_pos rfl] at h1L
  refine ⟨h.faults, ⟨_, h1L, by rw [← hl]; simp⟩, fun x hx => ?_, fun x hx0 hx1 => ?_⟩
  · rcases List.mem_or_eq_of_mem_set hx with hx | rfl
    · rcases List.mem_append.1 hx with hx | hx
      · exact h.fine x hx
      · obtain rfl := List.mem_singleton.1 hx
        exact ⟨fun w hw => (by cases hw), ht⟩
    · have hbf := h.fine.at hb
      refine ⟨fun w hw => ?_, hbf.2⟩
      rcases List.mem_or_eq_of_mem_set hw with hw | rfl
      · exact hbf.1 w hw
      · omega
  · obtain ⟨ex, x0, x1⟩ := keyW_in hr hx0 hx1
    have hw : wordAt ((D.L ++ [(⟨[], t, false⟩ : BlkD)]).set 0 ⟨b.ws.set (keyW d.a d.p d.s d.q d.v sh).toNat ((D.L.length + 1 : Nat) : Int), b.text, false⟩) 1 (keyW d.a d.p d.s d.q d.v x) =
        if x = sh then ((D.L.length + 1 : Nat) : Int) else wordAt D.L 1 (keyW d.a d.p d.s d.q d.v x) := by
      unfold wordAt
      rw [h1L, hb]
      show (b.ws.set _ _).getD _ 0 = _
      rw [List.getD_eq_getElem?_getD]
      by_cases hxs : x = sh
      · subst hxs
        rw [if_pos rfl, List.getElem?_set_self (by omega)]; rfl
      · rw [if_neg hxs, List.getElem?_set_ne (by omega)]
        show _ = b.ws.getD _ 0
        rw [List.getD_eq_getElem?_getD]
    unfold Shelves.put
    by_cases hxs : x = sh
    · subst hxs
      simp only [if_pos]
      rw [hw, if_pos rfl]
      have hk := hL (D.L.length + 1)
      rw [if_neg (by omega), if_pos rfl] at hk
      exact ⟨D.L.length + 1, by omega, rfl, there_hit hk, by rw [textAt_hit hk]⟩
    · simp only [if_neg hxs]
      rw [hw, if_neg hxs]
      have := h.keys x hx0 hx1
      cases hK : K x with
      | none => rw [hK] at this; exact this
      | some u =>
        rw [hK] at this
        obtain ⟨k, a1, a2, a3, a4⟩ := this
        have hlive : ∃ y, liveAt D.L k = some y := by
          cases hy : liveAt D.L k with
          | none => rw [there_lost hy] at a3; rcases lost_nz D.L k with q | q <;> rw [q] at a3 <;> cases a3
          | some y => exact ⟨y, rfl⟩
        obtain ⟨y, hy⟩ := hlive
        have hk := hL k
        by_cases hk1 : k = 1
        · subst hk1
          rw [if_pos rfl] at hk
          refine ⟨1, a1, a2, there_hit hk, ?_⟩
          rw [textAt_hit hk]
          rw [textAt_hit hy] at a4
          rw [hb] at hy
          cases hy
          exact a4
        · rw [if_neg hk1, if_neg (by have := (liveAt_some hy).2.1; omega)] at hk
          refine ⟨k, a1, a2, ?_, ?_⟩
          · rw [there_hit (hk.trans hy)]
          · rw [textAt_hit (hk.trans hy)]
            rw [textAt_hit hy] at a4
            exact a4
theorem Field.few (h : Field d D K) {n : Nat} (hn : n ≤ 800000) (hm : D.L.length ≤ 1000) : FewD D n := ⟨by rw [h.faults]; omega, by omega, h.fine⟩
end

/-! ### how many shelves have keys -/
def cntK (K : Shelves) : Nat → Nat
  | 0 => 0
  | n + 1 => cntK K n + if (K n).isSome then 1 else 0
theorem cntK_none : ∀ n, cntK (fun _ => none) n = 0
  | 0 => rfl
  | n + 1 => by unfold cntK; rw [cntK_none n]; rfl
theorem cntK_all {K : Shelves} : ∀ n, (∀ i : Nat, i < n → (K i).isSome = true) → cntK K n = n
  | 0, _ => rfl
  | n + 1, h => by unfold cntK; rw [cntK_all n (fun i hi => h i (by omega)), h n (by omega), if_pos rfl]
theorem cntK_put_other {K : Shelves} {sh : Int} {t : List UInt8} : ∀ n : Nat, (n : Int) ≤ sh → cntK (K.put sh t) n = cntK K n
  | 0, _ => rfl
  | n + 1, h => by
    unfold cntK
    rw [cntK_put_other n (by omega)]
    have e : (K.put sh t) (n : Int) = K (n : Int) := by unfold Shelves.put; rw [if_neg (by omega)]
    rw [e]
theorem cntK_put {K : Shelves} {sh : Int} {t : List UInt8} (h0 : 0 ≤ sh) (hK : K sh = none) : ∀ n : Nat, sh < (n : Int) → cntK (K.put sh t) n = cntK K n + 1
  | 0, h => by omega
  | n + 1, h => by
    unfold cntK
    by_cases hn : sh < (n : Int)
    · rw [cntK_put h0 hK n hn]
      have e : (K.put sh t) (n : Int) = K (n : Int) := by unfold Shelves.put; rw [if_neg (by omega)]
      rw [e]; omega
    · have hsn : sh = (n : Int) := by omega
      subst hsn
      rw [cntK_put_other n (Int.le_refl _), hK]
      have e : (K.put (n : Int) t) (n : Int) = some t := by unfold Shelves.put; rw [if_pos rfl]
      rw [e]
      simp
theorem cntK_le (K : Shelves) : ∀ n, cntK K n ≤ n
  | 0 => Nat.le_refl _
  | n + 1 => by
    have := cntK_le K n
    unfold cntK
    split <;> omega
/-- A way goes by each shelf. -/
theorem way_all (d : FindR) {sh : Int} (h0 : 0 ≤ sh) (h1 : sh < d.s) : ∃ l : Nat, (l : Int) < d.s ∧ d.way l = sh := by
  have b0 := (startOf_bd d.n d.s).1
  have b1 := (startOf_bd d.n d.s).2.1 (by omega)
  by_cases hle : startOf d.n d.s ≤ sh
  · refine ⟨(sh - startOf d.n d.s).toNat, by omega, ?_⟩
    have e : (((sh - startOf d.n d.s).toNat : Nat) : Int) = sh - startOf d.n d.s := by omega
    rcases place_cases d.n d.s (sh - startOf d.n d.s).toNat (by omega) with ⟨q, _⟩ | ⟨q, _⟩
    · unfold FindR.way; rw [q]; omega
    · omega
  · refine ⟨(sh - startOf d.n d.s + d.s).toNat, by omega, ?_⟩
    rcases place_cases d.n d.s (sh - startOf d.n d.s + d.s).toNat (by omega) with ⟨q, _⟩ | ⟨q, _⟩
    · omega
    · unfold FindR.way; rw [q]; omega

/-! ### what stands stays -/
/-- The key stands on this shelf, and whoever comes by its way meets others ahead of it. -/
def Stands (K : Shelves) (d : FindR) (sh : Int) : Prop := ∃ j : Nat, (j : Int) < d.s ∧ sh = d.way j ∧ K (d.way j) = some d.key.toList ∧ ∀ l, l < j → Other K d l
def Shut (K : Shelves) (d : FindR) : Prop := ∀ l : Nat, (l : Int) < d.s → Other K d l
theorem Other.put {K : Shelves} {d : FindR} {l : Nat} (h : Other K d l) {sh : Int} (hK : K sh = none) (t : List UInt8) : Other (K.put sh t) d l := by
  obtain ⟨u, h1, h2⟩ := h
  refine ⟨u, ?_, h2⟩
  unfold Shelves.put
  rw [if_neg (fun e => by rw [e, hK] at h1; cases h1)]
  exact h1
theorem Stands.put {K : Shelves} {d : FindR} {x : Int} (h : Stands K d x) {sh : Int} (hK : K sh = none) (t : List UInt8) : Stands (K.put sh t) d x := by
  obtain ⟨j, h1, h2, h3, h4⟩ := h
  refine ⟨j, h1, h2, ?_, fun l hl => (h4 l hl).put hK t⟩
  unfold Shelves.put
  rw [if_neg (fun e => by rw [e, hK] at h3; cases h3)]
  exact h3
theorem Shut.put {K : Shelves} {d : FindR} (h : Shut K d) {sh : Int} (hK : K sh = none) (t : List UInt8) : Shut (K.put sh t) d := fun l hl => (h l hl).put hK t
/-- What is found there. -/
theorem Stands.found {K : Shelves} {d : FindR} {x : Int} (h : Stands K d x) : (findK K d d.s.toNat 0).1.k = 1 ∧ (findK K d d.s.toNat 0).1.sh = x := by
  obtain ⟨j, h1, h2, h3, h4⟩ := h
  rcases findK_says K d d.s.toNat 0 with ⟨_, i, _, q2, _, q4, q5⟩ | ⟨q0, i, _, q2, q3, q4, q5⟩ | ⟨_, _, q3⟩
  · rcases Nat.lt_trichotomy i j with hij | rfl | hij
    · obtain ⟨u, u1, _⟩ := h4 i hij; rw [q4] at u1; cases u1
    · rw [q4] at h3; cases h3
    · obtain ⟨u, u1, u2⟩ := q5 j (Nat.zero_le _) hij; rw [h3] at u1; cases u1; exact absurd rfl u2
  · refine ⟨q0, ?_⟩
    rcases Nat.lt_trichotomy i j with hij | rfl | hij
    · obtain ⟨u, u1, u2⟩ := h4 i hij; rw [q4] at u1; cases u1; exact absurd rfl u2
    · rw [q3, h2]
    · obtain ⟨u, u1, u2⟩ := q5 j (Nat.zero_le _) hij; rw [h3] at u1; cases u1; exact absurd rfl u2
  · obtain ⟨u, u1, u2⟩ := q3 j (Nat.zero_le _) (by omega); rw [h3] at u1; cases u1; exact absurd rfl u2
theorem Shut.found {K : Shelves} {d : FindR} (h : Shut K d) : (findK K d d.s.toNat 0).1.k = 3 ∧ (findK K d d.s.toNat 0).1.sh = 0 := by
  rcases findK_says K d d.s.toNat 0 with ⟨_, i, _, q2, _, q4, q5⟩ | ⟨q0, i, _, q2, q3, q4, q5⟩ | ⟨q1, q2, q3⟩
  · obtain ⟨u, u1, _⟩ := h i (by omega); rw [q4] at u1; cases u1
  · obtain ⟨u, u1, u2⟩ := h i (by omega); rw [q4] at u1; cases u1; exact absurd rfl u2
  · exact ⟨q1, q2⟩
/-- What a look comes to: the free shelf, its own one, or none; and what then stands. -/
theorem findK_cases (K : Shelves) (d : FindR) :
    ((findK K d d.s.toNat 0).1.k = 2 ∧ 0 ≤ (findK K d d.s.toNat 0).1.sh ∧ (findK K d d.s.toNat 0).1.sh < d.s ∧ K (findK K d d.s.toNat 0).1.sh = none ∧ Stands (K.put (findK K d d.s.toNat 0).1.sh d.key.toList) d (findK K d d.s.toNat 0).1.sh) ∨
    ((findK K d d.s.toNat 0).1.k = 1 ∧ 0 ≤ (findK K d d.s.toNat 0).1.sh ∧ (findK K d d.s.toNat 0).1.sh < d.s ∧ Stands K d (findK K d d.s.toNat 0).1.sh) ∨
    ((findK K d d.s.toNat 0).1.k = 3 ∧ (findK K d d.s.toNat 0).1.sh = 0 ∧ Shut K d) := by
  rcases findK_says K d d.s.toNat 0 with ⟨q0, i, _, q2, q3, q4, q5⟩ | ⟨q0, i, _, q2, q3, q4, q5⟩ | ⟨q1, q2, q3⟩
  · have hi : (i : Int) < d.s := by omega
    refine .inl ⟨q0, ?_⟩
    rw [q3]
    refine ⟨(way_in d hi).1, (way_in d hi).2, q4, i, hi, rfl, ?_, fun l hl => (q5 l (Nat.zero_le _) hl).put q4 _⟩
    unfold Shelves.put
    rw [if_pos rfl]
  · have hi : (i : Int) < d.s := by omega
    refine .inr (.inl ⟨q0, ?_⟩)
    rw [q3]
    exact ⟨(way_in d hi).1, (way_in d hi).2, i, hi, rfl, q4, fun l hl => q5 l (Nat.zero_le _) hl⟩
  · exact .inr (.inr ⟨q1, q2, fun l hl => q3 l (Nat.zero_le _) (by omega)⟩)
/-- Where none is free, each has a key. -/
theorem Shut.full {K : Shelves} {d : FindR} (h : Shut K d) (hs : 0 ≤ d.s) : (cntK K d.s.toNat : Int) = d.s := by
  have : cntK K d.s.toNat = d.s.toNat := cntK_all _ (fun i hi => by
    obtain ⟨l, hl, e⟩ := way_all d (sh := (i : Int)) (by omega) (by omega)
    obtain ⟨u, u1, _⟩ := h l hl
    rw [← e, u1]; rfl)
  omega
/-- A key that is put on the first shelf of its way is found there, by two acts. -/
theorem findK_first {K : Shelves} {d : FindR} (hs : 1 ≤ d.s) (h : K (d.way 0) = some d.key.toList) : (findK K d d.s.toNat 0).1.k = 1 ∧ (findK K d d.s.toNat 0).1.sh = d.way 0 ∧ (findK K d d.s.toNat 0).2 = 2 := by
  obtain ⟨m, hm⟩ : ∃ m, d.s.toNat = m + 1 := ⟨d.s.toNat - 1, by omega⟩
  rw [hm]
  unfold findK
  rw [h]
  dsimp only
  rw [if_pos rfl]
  exact ⟨rfl, rfl, rfl⟩
theorem findK_empty {d : FindR} (hs : 1 ≤ d.s) : (findK (fun _ => none) d d.s.toNat 0).1.k = 2 ∧ (findK (fun _ => none) d d.s.toNat 0).1.sh = d.way 0 ∧ (findK (fun _ => none) d d.s.toNat 0).2 = 1 := by
  obtain ⟨m, hm⟩ : ∃ m, d.s.toNat = m + 1 := ⟨d.s.toNat - 1, by omega⟩
  rw [hm]
  unfold findK
  exact ⟨rfl, rfl, rfl⟩

end Go.Proofs.YtpnfbabiibopnaaGreat

/-! shelf's routine: what it does next, and where it stands behind an answer; its methods. -/
namespace Go.Proofs.YtpnfbabiibopnaaGreat
open Go Go.RowKit
attribute [local go_sem ↓] Go.wp_at_zero Go.wp_at_succ

/-- A version that is made: what it will have, where the routine stands, the block. -/
structure VerD where
  epoch : Int
  next : Int
  has : Bool
  text : ByteArray
  place : Nat
  block : Nat
def VerD.fits (v : VerD) : Prop := (0 ≤ v.epoch ∧ v.epoch < 18446744073709551616) ∧ (0 ≤ v.next ∧ v.next < 18446744073709551616) ∧ v.text.size ≤ 281474976710656 ∧ (1 ≤ v.place ∧ v.place ≤ 5) ∧ v.block < 18446744073709551616
def storeV (b : Nat) (c w : Int) : Option ActD := if b = 0 then none else some ⟨2, b, c, 0, w, ⟨#[]⟩⟩
/-- What is to be done at a place. -/
def todoV (v : VerD) : Nat → Option ActD
  | 1 => some ⟨5, 0, 3, 0, 0, v.text⟩
  | 2 => storeV v.block 0 v.epoch
  | 3 => if v.next = 0 then none else storeV v.block 1 v.next
  | 4 => if v.has then storeV v.block 2 1 else none
  | _ => none
def nextV (v : VerD) : Option ActD := todoV v v.place
/-- The first place from a on where there is something to be done. -/
def firstV (v : VerD) (a : Nat) : Nat :=
  if a ≤ 2 ∧ (todoV v 2).isSome then 2 else if a ≤ 3 ∧ (todoV v 3).isSome then 3 else if a ≤ 4 ∧ (todoV v 4).isSome then 4 else 5
def VerD.to (v : VerD) (a : Nat) : VerD := ⟨v.epoch, v.next, v.has, v.text, a, v.block⟩
def VerD.of (v : VerD) (b : Nat) : VerD := ⟨v.epoch, v.next, v.has, v.text, v.place, b⟩
def takeV (v : VerD) (w : Int) (_ : ByteArray) : VerD :=
  let v1 := if v.place = 1 then v.of w.toNat else v
  v1.to (firstV v1 (v.place + 1))
theorem storeV_kind {b : Nat} {c w : Int} {x : ActD} (h : storeV b c w = some x) : x = ⟨2, b, c, 0, w, ⟨#[]⟩⟩ ∧ b ≠ 0 := by
  unfold storeV at h
  split at h
  · cases h
  · exact ⟨(Option.some.inj h).symm, by assumption⟩
theorem todoV_kind {v : VerD} {a : Nat} {x : ActD} (h : todoV v a = some x) : x.kind = 5 ∨ x.kind = 2 := by
  unfold todoV at h
  split at h
  · cases h; exact .inl rfl
  · obtain ⟨rfl, _⟩ := storeV_kind h; exact .inr rfl
  · split at h
    · cases h
    · obtain ⟨rfl, _⟩ := storeV_kind h; exact .inr rfl
  · split at h
    · obtain ⟨rfl, _⟩ := storeV_kind h; exact .inr rfl
    · cases h
  · cases h
theorem todoV_fits {v : VerD} {a : Nat} {x : ActD} (hv : v.fits) (h : todoV v a = some x) : x.fits := by
  obtain ⟨h1, h2, h3, h4, h5⟩ := hv
  have he : (⟨#[]⟩ : ByteArray).size = 0 := rfl
  unfold todoV at h
  split at h
  · cases h; unfold ActD.fits; simp only; omega
  · obtain ⟨rfl, _⟩ := storeV_kind h; unfold ActD.fits; simp only; omega
  · split at h
    · cases h
    · obtain ⟨rfl, _⟩ := storeV_kind h; unfold ActD.fits; simp only; omega
  · split at h
    · obtain ⟨rfl, _⟩ := storeV_kind h; unfold ActD.fits; simp only; omega
    · cases h
  · cases h
theorem firstV_le (v : VerD) {a : Nat} (ha : 2 ≤ a) (ha5 : a ≤ 5) : a ≤ firstV v a ∧ firstV v a ≤ 5 := by
  unfold firstV
  split
  · omega
  split
  · omega
  split <;> omega
theorem firstV_at {v : VerD} {a : Nat} (ha : 2 ≤ a) (h : (todoV v a).isSome = true) : firstV v a = a := by
  unfold firstV
  have h5 : a = 2 ∨ a = 3 ∨ a = 4 := by
    rcases Nat.lt_or_ge a 5 with h5 | h5
    · omega
    · unfold todoV at h; split at h <;> first | omega | cases h
  rcases h5 with rfl | rfl | rfl <;> simp [h]
theorem firstV_on {v : VerD} {a : Nat} (ha : 2 ≤ a) (ha5 : a < 5) (h : todoV v a = none) : firstV v a = firstV v (a + 1) := by
  have h5 : a = 2 ∨ a = 3 ∨ a = 4 := by omega
  unfold firstV
  rcases h5 with rfl | rfl | rfl <;> simp [h]
theorem takeV_fits {v : VerD} {w : Int} {t : ByteArray} (hv : v.fits) (hw : 0 ≤ w ∧ w < 18446744073709551616) : (takeV v w t).fits := by
  obtain ⟨h1, h2, h3, h4, h5⟩ := hv
  unfold takeV
  rcases Nat.lt_or_ge v.place 5 with hlt | hge
  · have := firstV_le (if v.place = 1 then v.of w.toNat else v) (a := v.place + 1) (by omega) (by omega)
    by_cases hp : v.place = 1
    · rw [if_pos hp] at this ⊢; exact ⟨h1, h2, h3, ⟨by simp only [VerD.to]; omega, by simp only [VerD.to]; omega⟩, by simp only [VerD.to, VerD.of]; omega⟩
    · rw [if_neg hp] at this ⊢; exact ⟨h1, h2, h3, ⟨by simp only [VerD.to]; omega, by simp only [VerD.to]; omega⟩, h5⟩
  · have e : v.place = 5 := by omega
    rw [if_neg (by omega), e]
    exact ⟨h1, h2, h3, ⟨by simp [VerD.to, firstV], by simp [VerD.to, firstV]⟩, h5⟩

/-! ### in memory -/
abbrev verO (v : VerD) : Obj := .cells #[.int .u64 v.epoch, .int .u64 v.next, .bool v.has, .string v.text, .int .i64 (v.place : Int), .int .u64 (v.block : Int)] 162 (0, 0)
structure VerAt (W : World) (B r : Nat) (v : VerD) (f : Nat → Prop) : Prop where
  own : W.heap[r]? = some (verO v)
  foot : f = fun k => k = r
  base : B ≤ r
  fits : v.fits
section
variable {W W' : World} {B r : Nat} {v : VerD} {f : Nat → Prop}
theorem VerAt.stays (h : VerAt W B r v f) (hs : ∀ k, f k → W'.heap[k]? = W.heap[k]?) : VerAt W' B r v f := ⟨(hs r (by rw [h.foot])).trans h.own, h.foot, h.base, h.fits⟩
theorem VerAt.lt (h : VerAt W B r v f) : ∀ k, f k → k < W.heap.size := fun k hk => by
  rw [h.foot] at hk; subst hk; exact heap_at_lt h.own
theorem VerAt.cells (h : VerAt W B r v f) : W.cell? ⟨r, 0, none⟩ = some (.int .u64 v.epoch) ∧ W.cell? ⟨r, 1, none⟩ = some (.int .u64 v.next) ∧ W.cell? ⟨r, 2, none⟩ = some (.bool v.has) ∧ W.cell? ⟨r, 3, none⟩ = some (.string v.text) ∧ W.cell? ⟨r, 4, none⟩ = some (.int .i64 (v.place : Int)) ∧ W.cell? ⟨r, 5, none⟩ = some (.int .u64 (v.block : Int)) :=
  six_at h.own
theorem VerAt.free (h : VerAt W B r v f) : W.frozen? ⟨r, 0, none⟩ = false ∧ W.frozen? ⟨r, 1, none⟩ = false ∧ W.frozen? ⟨r, 2, none⟩ = false ∧ W.frozen? ⟨r, 3, none⟩ = false ∧ W.frozen? ⟨r, 4, none⟩ = false ∧ W.frozen? ⟨r, 5, none⟩ = false := six_free h.own
theorem VerAt.below (h : VerAt W B r v f) (hb : Below W.heap.size W W') : VerAt W' B r v f := h.stays (fun k hk => hb.block k (h.lt k hk))
theorem VerAt.setPlace (h : VerAt W B r v f) (a : Nat) (ha : 1 ≤ a ∧ a ≤ 5) : VerAt (W.setCell ⟨r, 4, none⟩ (.int .i64 (a : Int))) B r (v.to a) f ∧ Step f f W (W.setCell ⟨r, 4, none⟩ (.int .i64 (a : Int))) :=
  ⟨⟨(heap_setAt h.own).trans rfl, h.foot, h.base, ⟨h.fits.1, h.fits.2.1, h.fits.2.2.1, ha, h.fits.2.2.2.2⟩⟩, Step.setCell _ (by rw [h.foot])⟩
theorem VerAt.setBlock (h : VerAt W B r v f) (b : Nat) (hb : b < 18446744073709551616) : VerAt (W.setCell ⟨r, 5, none⟩ (.int .u64 (b : Int))) B r (v.of b) f ∧ Step f f W (W.setCell ⟨r, 5, none⟩ (.int .u64 (b : Int))) :=
  ⟨⟨(heap_setAt h.own).trans rfl, h.foot, h.base, ⟨h.fits.1, h.fits.2.1, h.fits.2.2.1, h.fits.2.2.2.1, hb⟩⟩, Step.setCell _ (by rw [h.foot])⟩
end

/-! ### its methods -/
def actE (x : Option ActD) (W : World) (e : Ending) (W' : World) : Prop := e = .returned (actOf (x.getD noAct)) ∧ Below W.heap.size W W'

set_option maxRecDepth 100000 in
set_option maxHeartbeats 2000000 in
theorem store_is {B r : Nat} {v : VerD} {f : Nat → Prop} (W : World) (h : VerAt W B r v f) (c w : Int) : Calls Tryz.prog 123 #[.pointer (some ⟨r, 0, none⟩), .int .i64 c, .int .u64 w] W (actE (storeV v.block c w) W) := by
  obtain ⟨-, -, -, -, -, c5⟩ := h.cells
  have hlt := heap_at_lt h.own
  have HC := Lib.hid (fun X (hX : Below W.heap.size W X) => (hX.cell (p := ⟨r, 5, none⟩) hlt).trans c5)
  have HB := Lib.hid (below_alloc W noO)
  have HN := Lib.hid (World.alloc_heap_new W noO)
  obtain ⟨b, hb⟩ : ∃ b, v.block = b := ⟨_, rfl⟩
  rw [hb] at HC c5 ⊢
  clear h hlt hb
  by_cases h0 : b = 0
  · subst h0
    have e1 : storeV 0 c w = none := rfl
    rw [e1]
    have c6 := HC.out _ HB.out
    obtain ⟨z0, z1, z2, z3, z4, z5⟩ := six_free HN.out
    obtain ⟨m0, m1, m2, m3, m4, m5⟩ := six_at HN.out
    go_enter Tryz.func123, Tryz.ntmps123
    go_wp2_with fail
    refine bodyPost_ret (v := zeroV) (by rw [results_cell1 (by rfl)]; go_simp) rfl ⟨rfl, ?_⟩
    exact HB.out
  · have e1 : storeV b c w = some ⟨2, b, c, 0, w, ⟨#[]⟩⟩ := by unfold storeV; rw [if_neg h0]
    rw [e1]
    have hb0 : ((b : Int) == 0) = false := by simp; omega
    have c6 := HC.out _ HB.out
    obtain ⟨z0, z1, z2, z3, z4, z5⟩ := six_free HN.out
    obtain ⟨m0, m1, m2, m3, m4, m5⟩ := six_at HN.out
    clear h0
    go_enter Tryz.func123, Tryz.ntmps123
    go_wp2_with fail
    refine bodyPost_ret (v := actOf ⟨2, b, c, 0, w, ⟨#[]⟩⟩) (by rw [results_cell1 (by rfl)]; go_simp) rfl ⟨rfl, ?_⟩
    exact below_alloc _ _

theorem todo_end {W X : World} {n : Nat} {x : ActD} {o : Option ActD} {T : Array Value} (h : X.heap[n]? = some (.cells (actCells x) 31 (0, 0))) (hb : Below W.heap.size W X) (h2 : T.getD 2 undef = .pointer (some ⟨n, 0, none⟩)) (ho : o.getD noAct = x) :
    bodyPost Tryz.prog Tryz.f122 (actE o W) .ret { tmps := T, defers := [] } X :=
  bodyPost_ret (v := actOf x) (by rw [results_cell1 (by rfl), h2]; simp only [asAddr, Sem.run_pure, Result.andThen_ok, load_act h]) rfl ⟨by rw [ho], hb⟩
/-- The three ways on from a store. -/
theorem todo_mid {W w1 : World} (HN : (W.alloc noO).heap[W.heap.size]? = some noO) (hb : Below (W.alloc noO).heap.size (W.alloc noO) w1) :
    w1.heap[W.heap.size]? = some noO ∧ Below W.heap.size W w1 :=
  ⟨(hb.block _ (heap_at_lt HN)).trans HN, (below_alloc W noO).trans (hb.mono (below_alloc W noO).size)⟩

set_option maxRecDepth 100000 in
set_option maxHeartbeats 4000000 in
theorem todo_is {B r : Nat} {v : VerD} {f : Nat → Prop} (W : World) (h : VerAt W B r v f) : Calls Tryz.prog 122 #[.pointer (some ⟨r, 0, none⟩)] W (actE (nextV v) W) := by
  have HB := Lib.hid (below_alloc W noO)
  have HN := Lib.hid (World.alloc_heap_new W noO)
  have HV := Lib.hid (h.below HB.out)
  have HS := Lib.hid (fun X (hX : Below W.heap.size W X) (c w : Int) => store_is X (h.below hX) c w)
  have hp := h.fits.2.2.2.1
  obtain ⟨c0, c1, c2, c3, c4, c5⟩ := HV.out.cells
  obtain ⟨ep, nx, hs, tx, pl, bl⟩ := v
  simp only at c0 c1 c2 c3 c4 c5 HS hp
  unfold nextV
  clear h HV
  have h5 : pl = 1 ∨ pl = 2 ∨ pl = 3 ∨ pl = 4 ∨ pl = 5 := by omega
  clear hp
  rcases h5 with rfl | rfl | rfl | rfl | rfl
  · obtain ⟨z0, z1, z2, z3, z4, z5⟩ := six_free HN.out
    obtain ⟨m0, m1, m2, m3, m4, m5⟩ := six_at HN.out
    show Calls _ _ _ _ (actE (some ⟨5, 0, 3, 0, 0, tx⟩) W)
    go_enter Tryz.func122, Tryz.ntmps122
    go_wp2_with fail
    refine bodyPost_ret (v := actOf ⟨5, 0, 3, 0, 0, tx⟩) (by rw [results_cell1 (by rfl)]; go_simp) rfl ⟨rfl, ?_⟩
    exact below_alloc _ _
  · show Calls _ _ _ _ (actE (storeV bl 0 ep) W)
    obtain ⟨y, hy⟩ : ∃ y, (storeV bl 0 ep).getD noAct = y := ⟨_, rfl⟩
    have HY := Lib.hid hy
    go_enter Tryz.func122, Tryz.ntmps122
    go_wp2_with fail
    refine (HS.out _ HB.out _ _).mono ?_
    rintro en w1 ⟨rfl, hb⟩
    rw [hy]
    obtain ⟨h1, hb1⟩ := todo_mid HN.out hb
    have HB1 := Lib.hid hb1
    have H1 := Lib.hid h1
    obtain ⟨z0, z1, z2, z3, z4, z5⟩ := six_free h1
    obtain ⟨m0, m1, m2, m3, m4, m5⟩ := six_at h1
    clear hb h1 hb1 hy c0 c1 c2 c3 c4 c5
    go_wp2_with fail
    exact todo_end (set6 H1.out _ _ _ _ _ _) (below6 HB1.out (Nat.le_refl _) _ _ _ _ _ _) rfl HY.out
  · by_cases hn : nx = 0
    · subst hn
      show Calls _ _ _ _ (actE none W)
      go_enter Tryz.func122, Tryz.ntmps122
      obtain ⟨z0, z1, z2, z3, z4, z5⟩ := six_free HN.out
      obtain ⟨m0, m1, m2, m3, m4, m5⟩ := six_at HN.out
      go_wp2_with fail
      refine bodyPost_ret (v := zeroV) (by rw [results_cell1 (by rfl)]; go_simp) rfl ⟨rfl, ?_⟩
      exact below_alloc _ _
    · have hn0 : (nx == 0) = false := by simpa using hn
      have e1 : todoV ⟨ep, nx, hs, tx, 3, bl⟩ 3 = storeV bl 1 nx := by unfold todoV; simp only; rw [if_neg hn]
      rw [e1]
      clear hn e1
      obtain ⟨y, hy⟩ : ∃ y, (storeV bl 1 nx).getD noAct = y := ⟨_, rfl⟩
      have HY := Lib.hid hy
      go_enter Tryz.func122, Tryz.ntmps122
      go_wp2_with fail
      refine (HS.out _ HB.out _ _).mono ?_
      rintro en w1 ⟨rfl, hb⟩
      rw [hy]
      obtain ⟨h1, hb1⟩ := todo_mid HN.out hb
      have HB1 := Lib.hid hb1
      have H1 := Lib.hid h1
      obtain ⟨z0, z1, z2, z3, z4, z5⟩ := six_free h1
      obtain ⟨m0, m1, m2, m3, m4, m5⟩ := six_at h1
      clear hb h1 hb1 hy c0 c1 c2 c3 c4 c5
      go_wp2_with fail
      exact todo_end (set6 H1.out _ _ _ _ _ _) (below6 HB1.out (Nat.le_refl _) _ _ _ _ _ _) rfl HY.out
  · cases hs with
    | false =>
      show Calls _ _ _ _ (actE none W)
      go_enter Tryz.func122, Tryz.ntmps122
      obtain ⟨z0, z1, z2, z3, z4, z5⟩ := six_free HN.out
      obtain ⟨m0, m1, m2, m3, m4, m5⟩ := six_at HN.out
      go_wp2_with fail
      refine bodyPost_ret (v := zeroV) (by rw [results_cell1 (by rfl)]; go_simp) rfl ⟨rfl, ?_⟩
      exact below_alloc _ _
    | true =>
      show Calls _ _ _ _ (actE (storeV bl 2 1) W)
      obtain ⟨y, hy⟩ : ∃ y, (storeV bl 2 1).getD noAct = y := ⟨_, rfl⟩
      have HY := Lib.hid hy
      go_enter Tryz.func122, Tryz.ntmps122
      go_wp2_with fail
      refine (HS.out _ HB.out _ _).mono ?_
      rintro en w1 ⟨rfl, hb⟩
      rw [hy]
      obtain ⟨h1, hb1⟩ := todo_mid HN.out hb
      have HB1 := Lib.hid hb1
      have H1 := Lib.hid h1
      obtain ⟨z0, z1, z2, z3, z4, z5⟩ := six_free h1
      obtain ⟨m0, m1, m2, m3, m4, m5⟩ := six_at h1
      clear hb h1 hb1 hy c0 c1 c2 c3 c4 c5
      go_wp2_with fail
      exact todo_end (set6 H1.out _ _ _ _ _ _) (below6 HB1.out (Nat.le_refl _) _ _ _ _ _ _) rfl HY.out
  · show Calls _ _ _ _ (actE none W)
    go_enter Tryz.func122, Tryz.ntmps122
    obtain ⟨z0, z1, z2, z3, z4, z5⟩ := six_free HN.out
    obtain ⟨m0, m1, m2, m3, m4, m5⟩ := six_at HN.out
    go_wp2_with fail
    refine bodyPost_ret (v := zeroV) (by rw [results_cell1 (by rfl)]; go_simp) rfl ⟨rfl, ?_⟩
    exact below_alloc _ _

end Go.Proofs.YtpnfbabiibopnaaGreat
