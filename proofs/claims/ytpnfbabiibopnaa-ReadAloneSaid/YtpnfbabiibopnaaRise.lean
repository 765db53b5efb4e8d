/-
  Rows of pairs whose keys rise: what put, delete, look and 'from' make of them, by place and by recursion. Plain mathematics: nothing of one program.
-/
import GoSem.Op.String
namespace Go.Proofs.Ytpnfbabiibopnaa
open Go

abbrev Pairs := List (ByteArray × ByteArray)

/-- Does a text stand ahead of another? -/
def lt (a b : ByteArray) : Bool := Op.bytesLess a.toList b.toList

theorem bl_irrefl : ∀ l : List UInt8, Op.bytesLess l l = false
  | [] => rfl
  | a :: l => by simp [Op.bytesLess, bl_irrefl l]
theorem bl_trans : ∀ a b c : List UInt8, Op.bytesLess a b = true → Op.bytesLess b c = true → Op.bytesLess a c = true
  | _, _, [], _, h => by simp [Op.bytesLess] at h
  | _, [], _ :: _, h, _ => by simp [Op.bytesLess] at h
  | [], _ :: _, _ :: _, _, _ => rfl
  | a :: x, b :: y, c :: z, h1, h2 => by
    simp only [Op.bytesLess, Bool.or_eq_true, Bool.and_eq_true, decide_eq_true_eq, beq_iff_eq] at h1 h2 ⊢
    rcases h1 with h1 | ⟨rfl, h1⟩ <;> rcases h2 with h2 | ⟨rfl, h2⟩
    · exact .inl (UInt8.lt_trans h1 h2)
    · exact .inl h1
    · exact .inl h2
    · exact .inr ⟨rfl, bl_trans x y z h1 h2⟩
theorem bl_tri : ∀ a b : List UInt8, Op.bytesLess a b = false → Op.bytesLess b a = false → a = b
  | [], [], _, _ => rfl
  | [], _ :: _, h, _ => by simp [Op.bytesLess] at h
  | _ :: _, [], _, h => by simp [Op.bytesLess] at h
  | a :: x, b :: y, h1, h2 => by
    simp only [Op.bytesLess, Bool.or_eq_false_iff, Bool.and_eq_false_iff, decide_eq_false_iff_not, beq_eq_false_iff_ne, UInt8.not_lt] at h1 h2
    have e : a = b := UInt8.le_antisymm h2.1 h1.1
    subst e
    have h1' := h1.2.resolve_left (fun h => h rfl)
    have h2' := h2.2.resolve_left (fun h => h rfl)
    rw [bl_tri x y h1' h2']

theorem ba_ext {a b : ByteArray} (h : a.toList = b.toList) : a = b := by
  have toL : ∀ c : ByteArray, c.toList = c.data.toList := fun c => by
    have loop : ∀ (n i : Nat) (acc : List UInt8), c.size - i = n → ByteArray.toList.loop c i acc = acc.reverse ++ c.data.toList.drop i := by
      intro n
      induction n with
      | zero =>
        intro i acc h
        unfold ByteArray.toList.loop
        have hle : c.data.toList.length ≤ i := by rw [Array.length_toList]; show c.size ≤ i; omega
        rw [if_neg (by omega), List.drop_of_length_le hle, List.append_nil]
      | succ n ih =>
        intro i acc h
        unfold ByteArray.toList.loop
        have hlt : i < c.data.toList.length := by rw [Array.length_toList]; show i < c.size; omega
        rw [if_pos (by omega), ih (i + 1) _ (by omega), List.drop_eq_getElem_cons hlt]
        simp [ByteArray.get!, Array.getElem_toList, getElem!_pos c.data i (by simpa using hlt)]
    unfold ByteArray.toList
    rw [loop _ 0 [] rfl]; rfl
  rw [toL, toL] at h
  cases a; cases b
  exact congrArg ByteArray.mk (Array.toList_inj.1 h)

theorem lt_irrefl (a : ByteArray) : lt a a = false := bl_irrefl _
theorem lt_trans {a b c : ByteArray} (h : lt a b = true) (h' : lt b c = true) : lt a c = true := bl_trans _ _ _ h h'
theorem lt_tri {a b : ByteArray} (h : lt a b = false) (h' : lt b a = false) : a = b := ba_ext (bl_tri _ _ h h')
theorem lt_asymm {a b : ByteArray} (h : lt a b = true) : lt b a = false := by
  cases e : lt b a with
  | false => rfl
  | true => have := lt_trans h e; rw [lt_irrefl] at this; cases this
theorem lt_ne {a b : ByteArray} (h : lt a b = true) : a ≠ b := fun e => by subst e; rw [lt_irrefl] at h; cases h

/-- Keys rise. -/
def Rise (D : Pairs) : Prop := D.Pairwise fun a b => lt a.1 b.1 = true

/-- How many keys stand ahead of k. -/
def rk : Pairs → ByteArray → Nat
  | [], _ => 0
  | p :: r, k => if lt p.1 k then rk r k + 1 else 0
def prD : Pairs → ByteArray → ByteArray → Pairs
  | [], k, v => [(k, v)]
  | p :: r, k, v => if lt p.1 k then p :: prD r k v else if p.1 = k then (k, v) :: r else (k, v) :: p :: r
def getD : Pairs → ByteArray → Option ByteArray
  | [], _ => none
  | p :: r, k => if p.1 = k then some p.2 else getD r k
def delD (D : Pairs) (k : ByteArray) : Pairs := D.filter fun p => !decide (p.1 = k)
def fromD (D : Pairs) (k : ByteArray) : Pairs := D.filter fun p => !lt p.1 k

theorem rk_le : ∀ (D : Pairs) (k : ByteArray), rk D k ≤ D.length
  | [], _ => Nat.le_refl _
  | p :: r, k => by unfold rk; split <;> simp [rk_le r k]

theorem lt_of_rk : ∀ (D : Pairs) (k : ByteArray) (t : Nat) (h : t < D.length), t < rk D k → lt D[t].1 k = true
  | p :: r, k, t, h, ht => by
    unfold rk at ht
    split at ht
    · cases t with
      | zero => simpa
      | succ t => simpa using lt_of_rk r k t (by simpa using h) (by omega)
    · omega
theorem not_lt_of_rk : ∀ (D : Pairs) (k : ByteArray) (_ : Rise D) (t : Nat) (h : t < D.length), rk D k ≤ t → lt D[t].1 k = false
  | p :: r, k, hR, t, h, ht => by
    obtain ⟨hp, hR'⟩ := List.pairwise_cons.1 hR
    unfold rk at ht
    split at ht
    · cases t with
      | zero => omega
      | succ t => simpa using not_lt_of_rk r k hR' t (by simpa using h) (by omega)
    · rename_i hn
      cases t with
      | zero => simpa using hn
      | succ t =>
        have hlt : t < r.length := by simpa using h
        have h1 : lt p.1 r[t].1 = true := hp _ (List.getElem_mem hlt)
        cases e : lt (p :: r)[t + 1].1 k with
        | false => rfl
        | true => exact absurd (lt_trans h1 (by simpa using e)) hn

/-- Has the key a value? -/
def hasD (D : Pairs) (k : ByteArray) : Bool := (getD D k).isSome

theorem getD_ne : ∀ (D : Pairs) (k : ByteArray), (∀ p ∈ D, p.1 ≠ k) → getD D k = none
  | [], _, _ => rfl
  | p :: r, k, h => by
    unfold getD
    rw [if_neg (h p (by simp)), getD_ne r k (fun q hq => h q (by simp [hq]))]

/-- By place: the key has a value just where it stands at the place that is its own. -/
theorem getD_rk : ∀ (D : Pairs) (k : ByteArray), Rise D → getD D k = if h : rk D k < D.length then (if D[rk D k].1 = k then some D[rk D k].2 else none) else none
  | [], k, _ => by simp [getD, rk]
  | p :: r, k, hR => by
    obtain ⟨hp, hR'⟩ := List.pairwise_cons.1 hR
    unfold getD
    by_cases hl : lt p.1 k = true
    · rw [if_neg (lt_ne hl), getD_rk r k hR']
      simp only [rk, hl, if_true, List.length_cons, Nat.add_lt_add_iff_right, List.getElem_cons_succ]
    · by_cases he : p.1 = k
      · have e0 : rk (p :: r) k = 0 := by simp [rk, hl]
        rw [if_pos he, dif_pos (by rw [e0]; simp)]
        simp only [e0, List.getElem_cons_zero, he, if_true]
      · rw [if_neg he]
        simp only [rk, hl, Bool.false_eq_true, if_false, List.length_cons, Nat.zero_lt_succ, dite_true, List.getElem_cons_zero, he]
        refine getD_ne r k (fun q hq e => ?_)
        have h1 := hp q hq
        rw [e] at h1
        exact hl h1

theorem hasD_at {D : Pairs} {k : ByteArray} (hR : Rise D) (h : hasD D k = true) : ∃ hlt : rk D k < D.length, D[rk D k].1 = k ∧ getD D k = some D[rk D k].2 := by
  unfold hasD at h
  have e := getD_rk D k hR
  by_cases hlt : rk D k < D.length
  · rw [dif_pos hlt] at e
    by_cases hk : D[rk D k].1 = k
    · rw [if_pos hk] at e; exact ⟨hlt, hk, e⟩
    · rw [if_neg hk] at e; rw [e] at h; cases h
  · rw [dif_neg hlt] at e; rw [e] at h; cases h
theorem hasD_not {D : Pairs} {k : ByteArray} (hR : Rise D) (h : hasD D k = false) (hlt : rk D k < D.length) : D[rk D k].1 ≠ k := by
  intro hk
  have e := getD_rk D k hR
  rw [dif_pos hlt, if_pos hk] at e
  unfold hasD at h; rw [e] at h; cases h

theorem putD_has : ∀ (D : Pairs) (k v : ByteArray), Rise D → hasD D k = true → prD D k v = D.set (rk D k) (k, v)
  | [], k, v, _, h => by simp [hasD, getD] at h
  | p :: r, k, v, hR, h => by
    obtain ⟨hp, hR'⟩ := List.pairwise_cons.1 hR
    unfold prD rk
    by_cases hl : lt p.1 k = true
    · rw [if_pos hl, if_pos hl, putD_has r k v hR' (by unfold hasD getD at h; rw [if_neg (lt_ne hl)] at h; exact h)]; rfl
    · rw [if_neg hl, if_neg hl]
      by_cases he : p.1 = k
      · rw [if_pos he]; rfl
      · obtain ⟨_, hk, _⟩ := hasD_at hR h
        simp only [rk, hl, Bool.false_eq_true, if_false, List.getElem_cons_zero] at hk
        exact absurd hk he
theorem putD_new : ∀ (D : Pairs) (k v : ByteArray), Rise D → hasD D k = false → prD D k v = D.take (rk D k) ++ (k, v) :: D.drop (rk D k)
  | [], k, v, _, _ => by simp [prD, rk]
  | p :: r, k, v, hR, h => by
    obtain ⟨hp, hR'⟩ := List.pairwise_cons.1 hR
    unfold prD rk
    by_cases hl : lt p.1 k = true
    · rw [if_pos hl, if_pos hl, putD_new r k v hR' (by unfold hasD getD at h; rw [if_neg (lt_ne hl)] at h; exact h)]; rfl
    · rw [if_neg hl, if_neg hl]
      have he : p.1 ≠ k := by
        intro e; unfold hasD getD at h; rw [if_pos e] at h; cases h
      rw [if_neg he]; rfl
theorem delD_has : ∀ (D : Pairs) (k : ByteArray), Rise D → hasD D k = true → delD D k = D.take (rk D k) ++ D.drop (rk D k + 1)
  | [], k, _, h => by simp [hasD, getD] at h
  | p :: r, k, hR, h => by
    obtain ⟨hp, hR'⟩ := List.pairwise_cons.1 hR
    unfold delD rk
    by_cases hl : lt p.1 k = true
    · have ih := delD_has r k hR' (by unfold hasD getD at h; rw [if_neg (lt_ne hl)] at h; exact h)
      unfold delD at ih
      rw [List.filter_cons, if_pos (by simp [lt_ne hl]), ih, if_pos hl]; rfl
    · obtain ⟨_, hk, _⟩ := hasD_at hR h
      simp only [rk, hl, Bool.false_eq_true, if_false, List.getElem_cons_zero] at hk
      have : r.filter (fun q => !decide (q.1 = k)) = r := List.filter_eq_self.2 fun q hq => by
        have h1 := hp q hq
        rw [hk] at h1
        have h2 : ¬ q.1 = k := fun e => lt_ne h1 e.symm
        simp [h2]
      rw [List.filter_cons, if_neg (by simp [hk]), this, if_neg hl]; rfl
theorem delD_not {D : Pairs} {k : ByteArray} (h : hasD D k = false) : delD D k = D := by
  refine List.filter_eq_self.2 fun q hq => ?_
  suffices h0 : q.1 ≠ k by simp [h0]
  intro e
  have : ∀ (E : Pairs), q ∈ E → (getD E k).isSome = true := by
    intro E hE
    induction E with
    | nil => cases hE
    | cons p r ih =>
      unfold getD
      by_cases hp : p.1 = k
      · rw [if_pos hp]; rfl
      · rw [if_neg hp]
        rcases List.mem_cons.1 hE with rfl | hr
        · exact absurd e hp
        · exact ih hr
  have h1 := this D hq
  unfold hasD at h; rw [h] at h1; cases h1
theorem fromD_rk : ∀ (D : Pairs) (k : ByteArray), Rise D → fromD D k = D.drop (rk D k)
  | [], _, _ => rfl
  | p :: r, k, hR => by
    obtain ⟨hp, hR'⟩ := List.pairwise_cons.1 hR
    unfold fromD rk
    by_cases hl : lt p.1 k = true
    · have ih := fromD_rk r k hR'
      unfold fromD at ih
      rw [List.filter_cons, if_neg (by simp [hl]), ih, if_pos hl]; rfl
    · have : r.filter (fun q => !lt q.1 k) = r := List.filter_eq_self.2 fun q hq => by
        have h1 := hp q hq
        cases e : lt q.1 k with
        | false => rfl
        | true => exact absurd (lt_trans h1 e) hl
      rw [List.filter_cons, if_pos (by simp [hl]), this, if_neg hl]; rfl

theorem mem_putD {D : Pairs} {k v : ByteArray} {q : ByteArray × ByteArray} : q ∈ prD D k v → q = (k, v) ∨ q ∈ D := by
  induction D with
  | nil => intro h; simpa [prD] using h
  | cons p r ih =>
    intro h
    unfold prD at h
    split at h
    · rcases List.mem_cons.1 h with rfl | h
      · exact .inr (by simp)
      · rcases ih h with h | h
        · exact .inl h
        · exact .inr (by simp [h])
    · split at h <;> rcases List.mem_cons.1 h with h | h
      · exact .inl h
      · exact .inr (by simp [h])
      · exact .inl h
      · exact .inr h
theorem Rise.put : ∀ {D : Pairs}, Rise D → ∀ (k v : ByteArray), Rise (prD D k v)
  | [], _, k, v => by simp [prD, Rise]
  | p :: r, hR, k, v => by
    obtain ⟨hp, hR'⟩ := List.pairwise_cons.1 hR
    unfold prD
    by_cases hl : lt p.1 k = true
    · rw [if_pos hl]
      refine List.pairwise_cons.2 ⟨fun q hq => ?_, Rise.put hR' k v⟩
      rcases mem_putD hq with rfl | hq
      · exact hl
      · exact hp q hq
    · rw [if_neg hl]
      by_cases he : p.1 = k
      · rw [if_pos he]
        exact List.pairwise_cons.2 ⟨fun q hq => by have := hp q hq; rw [he] at this; exact this, hR'⟩
      · rw [if_neg he]
        have hk : lt k p.1 = true := by
          cases e : lt k p.1 with
          | true => rfl
          | false => exact absurd (lt_tri (by simpa using hl) e) he
        refine List.pairwise_cons.2 ⟨fun q hq => ?_, hR⟩
        rcases List.mem_cons.1 hq with rfl | hq
        · exact hk
        · exact lt_trans hk (hp q hq)
theorem Rise.del {D : Pairs} (h : Rise D) (k : ByteArray) : Rise (delD D k) := h.filter _
theorem Rise.nil : Rise [] := List.Pairwise.nil
theorem Rise.from {D : Pairs} (h : Rise D) (k : ByteArray) : Rise (fromD D k) := h.filter _
theorem length_prD : ∀ (D : Pairs) (k v : ByteArray), (prD D k v).length ≤ D.length + 1
  | [], _, _ => Nat.le_refl _
  | p :: r, k, v => by
    have := length_prD r k v
    unfold prD
    split
    · simp; omega
    · split <;> simp
theorem length_delD (D : Pairs) (k : ByteArray) : (delD D k).length ≤ D.length := List.length_filter_le _ _

/-! ### the reference's own put, round by round -/
def putStep (k v : ByteArray) (s : Pairs × Bool) (p : ByteArray × ByteArray) : Pairs × Bool :=
  let s' := if !s.2 && !lt p.1 k then (s.1 ++ [(k, v)], true) else s
  if p.1 = k then s' else (s'.1 ++ [p], s'.2)
def putFold (k v : ByteArray) (D : Pairs) : Pairs × Bool := D.foldl (putStep k v) ([], false)
def putEnd (k v : ByteArray) (s : Pairs × Bool) : Pairs := if s.2 then s.1 else s.1 ++ [(k, v)]

theorem putStep_done (k v : ByteArray) : ∀ (D : Pairs) (out : Pairs), (∀ p ∈ D, p.1 ≠ k) → D.foldl (putStep k v) (out, true) = (out ++ D, true)
  | [], out, _ => by simp
  | p :: r, out, h => by
    rw [List.foldl_cons]
    have e : putStep k v (out, true) p = (out ++ [p], true) := by simp [putStep, h p (by simp)]
    rw [e, putStep_done k v r _ (fun q hq => h q (by simp [hq]))]; simp
theorem putFold_gen (k v : ByteArray) : ∀ (D : Pairs) (out : Pairs), Rise D → putEnd k v (D.foldl (putStep k v) (out, false)) = out ++ prD D k v
  | [], out, _ => by simp [putEnd, prD]
  | p :: r, out, hR => by
    obtain ⟨hp, hR'⟩ := List.pairwise_cons.1 hR
    rw [List.foldl_cons]
    unfold prD
    by_cases hl : lt p.1 k = true
    · have e : putStep k v (out, false) p = (out ++ [p], false) := by simp [putStep, hl, lt_ne hl]
      rw [e, putFold_gen k v r _ hR', if_pos hl]; simp
    · have hne : ∀ q ∈ r, lt p.1 q.1 = true → lt k q.1 = true ∨ p.1 = k → q.1 ≠ k := fun q _ h1 h2 e => by
        rcases h2 with h2 | h2
        · exact lt_ne h2 e.symm
        · rw [h2] at h1; exact lt_ne h1 e.symm
      rw [if_neg hl]
      by_cases he : p.1 = k
      · have e : putStep k v (out, false) p = (out ++ [(k, v)], true) := by simp [putStep, he, lt_irrefl]
        rw [e, putStep_done k v r _ (fun q hq => hne q hq (hp q hq) (.inr he)), if_pos he]; simp [putEnd]
      · have hk : lt k p.1 = true := by
          cases e : lt k p.1 with
          | true => rfl
          | false => exact absurd (lt_tri (by simpa using hl) e) he
        have e : putStep k v (out, false) p = (out ++ [(k, v)] ++ [p], true) := by simp [putStep, hl, he]
        rw [e, putStep_done k v r _ (fun q hq => hne q hq (hp q hq) (.inl (lt_trans hk (hp q hq)))), if_neg he]; simp [putEnd]
theorem putFold_eq (k v : ByteArray) {D : Pairs} (hR : Rise D) : putEnd k v (putFold k v D) = prD D k v := by
  unfold putFold; rw [putFold_gen k v D [] hR]; rfl
theorem putFold_snoc (k v : ByteArray) (D : Pairs) (p : ByteArray × ByteArray) : putFold k v (D ++ [p]) = putStep k v (putFold k v D) p := by simp [putFold]
theorem putFold_len (k v : ByteArray) (D : Pairs) : (putFold k v D).1.length ≤ 2 * D.length := by
  unfold putFold
  suffices h : ∀ (D : Pairs) (s : Pairs × Bool), (D.foldl (putStep k v) s).1.length ≤ s.1.length + 2 * D.length from by simpa using h D ([], false)
  intro D
  induction D with
  | nil => intro s; simp
  | cons p r ih =>
    intro s
    rw [List.foldl_cons]
    have h1 : (putStep k v s p).1.length ≤ s.1.length + 2 := by
      unfold putStep
      by_cases h : (!s.2 && !lt p.1 k) = true
      · simp only [h, if_true]; split <;> simp
      · simp only [h]; split <;> simp
    have := ih (putStep k v s p)
    simp only [List.length_cons]; omega

end Go.Proofs.Ytpnfbabiibopnaa
