/-
  What changes from one row of pairs whose keys rise to another, and what changes make of one. Plain mathematics: nothing of one program.
-/
import Derived.Test.YtbddicaabjlbjaaStab
namespace Go.Proofs.Ytbddicaabjlbjaa
open Go

instance : DecidableEq ChD := fun a b =>
  if h : a.key = b.key ∧ a.has = b.has ∧ a.val = b.val then isTrue (by cases a; cases b; simp_all) else isFalse (fun e => h (by subst e; exact ⟨rfl, rfl, rfl⟩))

def yes (p : ByteArray × ByteArray) : ChD := ⟨p.1, true, p.2⟩
def no (k : ByteArray) : ChD := ⟨k, false, ⟨#[]⟩⟩

/-- Each key of two rows, rising: what it has in the one, and in the other. -/
def bothD : Pairs → Pairs → List (ChD × ChD)
  | [], b => b.map fun q => (no q.1, yes q)
  | p :: r, [] => (yes p, no p.1) :: bothD r []
  | p :: r, q :: s => if lt p.1 q.1 then (yes p, no p.1) :: bothD r (q :: s) else if p.1 = q.1 then (yes p, yes q) :: bothD r s else (no q.1, yes q) :: bothD (p :: r) s
termination_by a b => a.length + b.length

def picked (l : List (ChD × ChD)) : List ChD := (l.filter fun q => !decide (q.1 = q.2)).map (·.2)
def diffD (a b : Pairs) : List ChD := picked (bothD a b)
theorem picked_snoc (l : List (ChD × ChD)) (x : ChD × ChD) : picked (l ++ [x]) = if x.1 = x.2 then picked l else picked l ++ [x.2] := by
  unfold picked
  by_cases h : x.1 = x.2 <;> simp [h]
theorem picked_cons (l : List (ChD × ChD)) (x : ChD × ChD) : picked (x :: l) = if x.1 = x.2 then picked l else x.2 :: picked l := by
  unfold picked
  by_cases h : x.1 = x.2 <;> simp [h]
theorem picked_length (l : List (ChD × ChD)) : (picked l).length ≤ l.length := by
  unfold picked; rw [List.length_map]; exact List.length_filter_le _ _
theorem bothD_length : ∀ (a b : Pairs), (bothD a b).length ≤ a.length + b.length
  | [], b => by rw [bothD]; simp
  | p :: r, [] => by
    rw [bothD]
    have := bothD_length r []
    simp only [List.length_cons, List.length_nil] at this ⊢; omega
  | p :: r, q :: s => by
    have h1 := bothD_length r (q :: s)
    have h2 := bothD_length r s
    have h3 := bothD_length (p :: r) s
    rw [bothD]
    split
    · simp only [List.length_cons] at h1 ⊢; omega
    · split <;> simp only [List.length_cons] at h2 h3 ⊢ <;> omega
termination_by a b => a.length + b.length
theorem diffD_length (a b : Pairs) : (diffD a b).length ≤ a.length + b.length := Nat.le_trans (picked_length _) (bothD_length a b)

/-- What a key has, as a change. -/
def asC (k : ByteArray) : Option ByteArray → ChD
  | some v => ⟨k, true, v⟩
  | none => no k
theorem asC_inj {k : ByteArray} {A B : Option ByteArray} (h : asC k A = asC k B) : A = B := by
  cases A <;> cases B <;> simp_all [asC, no]
theorem asC_key (k : ByteArray) (A : Option ByteArray) : (asC k A).key = k := by cases A <;> rfl
/-- What changes at a key. -/
def chg (a b : Pairs) (k : ByteArray) : List ChD := if getD a k = getD b k then [] else [asC k (getD b k)]

/-- What is said of what changes. -/
def Good (a b : Pairs) : Prop := (diffD a b).Pairwise (fun x y => lt x.key y.key = true) ∧ ∀ k, ofK k (diffD a b) = chg a b k

theorem getD_some : ∀ (D : Pairs) (k : ByteArray), getD D k ≠ none → ∃ p ∈ D, p.1 = k
  | [], k, h => by simp [getD] at h
  | p :: r, k, h => by
    unfold getD at h
    by_cases e : p.1 = k
    · exact ⟨p, by simp, e⟩
    · rw [if_neg e] at h
      obtain ⟨q, hq, e2⟩ := getD_some r k h
      exact ⟨q, by simp [hq], e2⟩

theorem good_keys {a b : Pairs} (h : Good a b) {c : ChD} (hc : c ∈ diffD a b) : (∃ p ∈ a, p.1 = c.key) ∨ (∃ p ∈ b, p.1 = c.key) := by
  have h1 : c ∈ ofK c.key (diffD a b) := List.mem_filter.2 ⟨hc, decide_eq_true rfl⟩
  rw [h.2] at h1
  unfold chg at h1
  by_cases e : getD a c.key = getD b c.key
  · rw [if_pos e] at h1; cases h1
  · cases ha : getD a c.key with
    | some v => exact .inl (getD_some a c.key (by rw [ha]; intro e; cases e))
    | none =>
      refine .inr (getD_some b c.key (fun hb => e (by rw [ha, hb])))

theorem good_step {a b a' b' : Pairs} {κ : ByteArray} {A B : Option ByteArray} (h : bothD a b = (asC κ A, asC κ B) :: bothD a' b') (ha : ∀ k, getD a k = if k = κ then A else getD a' k) (hb : ∀ k, getD b k = if k = κ then B else getD b' k)
    (la : ∀ q ∈ a', lt κ q.1 = true) (lb : ∀ q ∈ b', lt κ q.1 = true) (G : Good a' b') : Good a b := by
  have hlow : ∀ c ∈ diffD a' b', lt κ c.key = true := fun c hc => by
    rcases good_keys G hc with ⟨p, hp, e⟩ | ⟨p, hp, e⟩
    · rw [← e]; exact la p hp
    · rw [← e]; exact lb p hp
  have hno : ofK κ (diffD a' b') = [] := ofK_nil fun c hc e => lt_ne (hlow c hc) e.symm
  have hd : diffD a b = if A = B then diffD a' b' else asC κ B :: diffD a' b' := by
    unfold diffD
    rw [h, picked_cons]
    by_cases e : A = B
    · rw [if_pos e, e, if_pos rfl]
    · rw [if_neg e, if_neg (fun e2 => e (asC_inj e2))]
  have hck : chg a b κ = if A = B then [] else [asC κ B] := by
    unfold chg
    rw [ha, hb, if_pos rfl, if_pos rfl]
  have hcn : ∀ k, k ≠ κ → chg a b k = chg a' b' k := fun k hk => by
    unfold chg
    rw [ha, hb, if_neg hk, if_neg hk]
  refine ⟨?_, fun k => ?_⟩
  · rw [hd]
    split
    · exact G.1
    · refine List.pairwise_cons.2 ⟨fun c hc => ?_, G.1⟩
      rw [asC_key]; exact hlow c hc
  · by_cases hk : k = κ
    · subst hk
      rw [hck, hd]
      split
      · exact hno
      · show List.filter _ (_ :: _) = _
        rw [List.filter_cons, if_pos (by rw [asC_key]; simp)]
        congr 1
    · rw [hcn k hk, hd]
      split
      · exact G.2 k
      · show List.filter _ (_ :: _) = _
        rw [List.filter_cons, if_neg (by rw [asC_key]; simpa using fun e => hk e.symm)]
        exact G.2 k

theorem getD_cons (p : ByteArray × ByteArray) (r : Pairs) (k : ByteArray) : getD (p :: r) k = if k = p.1 then some p.2 else getD r k := by
  rw [getD]
  by_cases e : p.1 = k
  · rw [if_pos e, if_pos e.symm]
  · rw [if_neg e, if_neg (fun h => e h.symm)]
theorem getD_low {κ : ByteArray} {D : Pairs} (h : ∀ q ∈ D, lt κ q.1 = true) (k : ByteArray) : getD D k = if k = κ then none else getD D k := by
  by_cases e : k = κ
  · rw [if_pos e, e]; exact getD_ne D κ fun q hq e2 => lt_ne (h q hq) e2.symm
  · rw [if_neg e]

theorem good : ∀ (a b : Pairs), Rise a → Rise b → Good a b
  | [], [], _, _ => by
    have e : diffD [] [] = [] := by unfold diffD; rw [bothD]; rfl
    refine ⟨by rw [e]; exact List.Pairwise.nil, fun k => ?_⟩
    rw [e]; unfold chg; rw [if_pos rfl]; rfl
  | [], q :: s, ha, hb => by
    obtain ⟨hq, hb'⟩ := List.pairwise_cons.1 hb
    exact good_step (κ := q.1) (A := none) (B := some q.2) (a' := []) (b' := s) (by rw [bothD, bothD]; rfl) (fun k => by simp [getD]) (getD_cons q s) (fun _ h => by cases h) hq (good [] s ha hb')
  | p :: r, [], ha, hb => by
    obtain ⟨hp, ha'⟩ := List.pairwise_cons.1 ha
    exact good_step (κ := p.1) (A := some p.2) (B := none) (a' := r) (b' := []) (by rw [bothD]; rfl) (getD_cons p r) (fun k => by simp [getD]) hp (fun _ h => by cases h) (good r [] ha' hb)
  | p :: r, q :: s, ha, hb => by
    obtain ⟨hp, ha'⟩ := List.pairwise_cons.1 ha
    obtain ⟨hq, hb'⟩ := List.pairwise_cons.1 hb
    by_cases hl : lt p.1 q.1 = true
    · have hlow : ∀ x ∈ q :: s, lt p.1 x.1 = true := fun x hx => by
        rcases List.mem_cons.1 hx with rfl | hx
        · exact hl
        · exact lt_trans hl (hq x hx)
      exact good_step (κ := p.1) (A := some p.2) (B := none) (a' := r) (b' := q :: s) (by rw [bothD, if_pos hl]; rfl) (getD_cons p r) (getD_low hlow) hp hlow (good r (q :: s) ha' hb)
    · by_cases he : p.1 = q.1
      · exact good_step (κ := q.1) (A := some p.2) (B := some q.2) (a' := r) (b' := s) (by rw [bothD, if_neg hl, if_pos he]; show (yes p, yes q) :: _ = _; unfold yes asC; rw [he]) (fun k => by rw [getD_cons, he]) (getD_cons q s)
          (fun x hx => by rw [← he]; exact hp x hx) hq (good r s ha' hb')
      · have hql : lt q.1 p.1 = true := by
          cases e : lt q.1 p.1 with
          | true => rfl
          | false => exact absurd (lt_tri (by simpa using hl) e) he
        have hlow : ∀ x ∈ p :: r, lt q.1 x.1 = true := fun x hx => by
          rcases List.mem_cons.1 hx with rfl | hx
          · exact hql
          · exact lt_trans hql (hp x hx)
        exact good_step (κ := q.1) (A := none) (B := some q.2) (a' := p :: r) (b' := s) (by rw [bothD, if_neg hl, if_neg he]; rfl) (getD_low hlow) (getD_cons q s) hlow hq (good (p :: r) s ha hb')
termination_by a b => a.length + b.length

/-! ### what changes make -/
def applyC (D : Pairs) (c : ChD) : Pairs := if c.has then putD D c.key c.val else delD D c.key
def patchD (m : Pairs) (l : List ChD) : Pairs := l.foldl applyC m
theorem patchD_snoc (m : Pairs) (l : List ChD) (c : ChD) : patchD m (l ++ [c]) = applyC (patchD m l) c := by simp [patchD]
theorem Rise.apply {D : Pairs} (h : Rise D) (c : ChD) : Rise (applyC D c) := by
  unfold applyC; split
  · exact h.put _ _
  · exact h.del _
theorem Rise.patch : ∀ (l : List ChD) {m : Pairs}, Rise m → Rise (patchD m l)
  | [], _, h => h
  | c :: r, m, h => Rise.patch r (m := applyC m c) (h.apply c)
theorem length_apply (D : Pairs) (c : ChD) : (applyC D c).length ≤ D.length + 1 := by
  unfold applyC; split
  · exact length_putD _ _ _
  · exact Nat.le_trans (length_delD _ _) (Nat.le_succ _)
theorem length_patch : ∀ (l : List ChD) (m : Pairs), (patchD m l).length ≤ m.length + l.length
  | [], _ => Nat.le_refl _
  | c :: r, m => by
    have h1 := length_patch r (applyC m c)
    have h2 := length_apply m c
    show (patchD (applyC m c) r).length ≤ _
    simp only [List.length_cons]; omega

theorem getD_put : ∀ (D : Pairs) (x v k : ByteArray), getD (putD D x v) k = if k = x then some v else getD D k
  | [], x, v, k => by
    show getD [(x, v)] k = _
    rw [getD_cons]
  | p :: r, x, v, k => by
    unfold putD
    by_cases hl : lt p.1 x = true
    · rw [if_pos hl, getD_cons, getD_put r x v k, getD_cons]
      by_cases h1 : k = x
      · have : ¬ k = p.1 := fun e => lt_ne hl (e.symm.trans h1)
        rw [if_neg this, if_pos h1, if_pos h1]
      · rw [if_neg h1, if_neg h1]
    · rw [if_neg hl]
      by_cases he : p.1 = x
      · rw [if_pos he, getD_cons, getD_cons]
        by_cases h1 : k = x
        · rw [if_pos h1, if_pos h1]
        · rw [if_neg h1, if_neg h1, if_neg (fun e => h1 (e.trans he))]
      · rw [if_neg he, getD_cons]
theorem getD_del : ∀ (D : Pairs) (x k : ByteArray), getD (delD D x) k = if k = x then none else getD D k
  | [], x, k => by simp [delD, getD]
  | p :: r, x, k => by
    have ih := getD_del r x k
    unfold delD at ih ⊢
    by_cases he : p.1 = x
    · rw [List.filter_cons, if_neg (by simp [he]), ih, getD_cons]
      by_cases h1 : k = x
      · rw [if_pos h1, if_pos h1]
      · rw [if_neg h1, if_neg h1, if_neg (fun e => h1 (e.trans he))]
    · rw [List.filter_cons, if_pos (by simp [he]), getD_cons, ih, getD_cons]
      by_cases h1 : k = x
      · rw [if_pos h1, if_pos h1, if_neg (fun e => he (e.symm.trans h1))]
      · rw [if_neg h1, if_neg h1]

theorem rise_ext : ∀ {D E : Pairs}, Rise D → Rise E → (∀ k, getD D k = getD E k) → D = E
  | [], [], _, _, _ => rfl
  | [], q :: s, _, _, h => by have := h q.1; rw [getD_cons, if_pos rfl] at this; simp [getD] at this
  | p :: r, [], _, _, h => by have := h p.1; rw [getD_cons, if_pos rfl] at this; simp [getD] at this
  | p :: r, q :: s, hD, hE, h => by
    obtain ⟨hp, hD'⟩ := List.pairwise_cons.1 hD
    obtain ⟨hq, hE'⟩ := List.pairwise_cons.1 hE
    have key : p.1 = q.1 := by
      refine lt_tri ?_ ?_
      · cases e : lt p.1 q.1 with
        | false => rfl
        | true =>
          have := h p.1
          rw [getD_cons, if_pos rfl, getD_cons, if_neg (lt_ne e), getD_ne s p.1 (fun x hx e2 => lt_ne (lt_trans e (hq x hx)) e2.symm)] at this
          cases this
      · cases e : lt q.1 p.1 with
        | false => rfl
        | true =>
          have := h q.1
          rw [getD_cons, if_neg (lt_ne e), getD_ne r q.1 (fun x hx e2 => lt_ne (lt_trans e (hp x hx)) e2.symm), getD_cons, if_pos rfl] at this
          cases this
    have val : p.2 = q.2 := by
      have := h p.1
      rw [getD_cons, if_pos rfl, getD_cons, if_pos key] at this
      exact Option.some.inj this
    have hpq : p = q := Prod.ext key val
    subst hpq
    congr 1
    refine rise_ext hD' hE' fun k => ?_
    by_cases e : k = p.1
    · rw [e, getD_ne r p.1 (fun x hx e2 => lt_ne (hp x hx) e2.symm), getD_ne s p.1 (fun x hx e2 => lt_ne (hq x hx) e2.symm)]
    · have := h k
      rw [getD_cons, if_neg e, getD_cons, if_neg e] at this
      exact this

/-- By key: what the last change of a key says, counts. -/
def lastD (m : Pairs) (k : ByteArray) : List ChD → Option ByteArray
  | [] => getD m k
  | c :: r => match r with
    | [] => if c.has then some c.val else none
    | d :: r => lastD m k (d :: r)
theorem lastD_snoc (m : Pairs) (k : ByteArray) : ∀ (l : List ChD) (c : ChD), lastD m k (l ++ [c]) = if c.has then some c.val else none
  | [], c => rfl
  | [d], c => rfl
  | d :: e :: r, c => by
    show lastD m k (d :: (e :: r ++ [c])) = _
    have := lastD_snoc m k (e :: r) c
    rw [← this]; rfl
theorem patch_get (m : Pairs) (k : ByteArray) (l : List ChD) : getD (patchD m l) k = lastD m k (ofK k l) := by
  suffices h : ∀ n (l : List ChD), l.length = n → getD (patchD m l) k = lastD m k (ofK k l) from h _ l rfl
  intro n
  induction n with
  | zero => intro l hl; obtain rfl := List.eq_nil_of_length_eq_zero hl; rfl
  | succ n ih =>
    intro l hl
    obtain ⟨r, c, rfl⟩ : ∃ r c, l = r ++ [c] := ⟨l.dropLast, l.getLast (by intro e; subst e; simp at hl), (List.dropLast_concat_getLast _).symm⟩
    have ihr := ih r (by simpa using hl)
    rw [patchD_snoc, ofK_append]
    unfold applyC
    by_cases hk : c.key = k
    · have : ofK k [c] = [c] := by simp [ofK, hk]
      rw [this, lastD_snoc]
      split
      · rw [getD_put, if_pos hk.symm]
      · rw [getD_del, if_pos hk.symm]
    · have : ofK k [c] = [] := by simp [ofK, hk]
      rw [this, List.append_nil, ← ihr]
      split
      · rw [getD_put, if_neg (fun e => hk e.symm)]
      · rw [getD_del, if_neg (fun e => hk e.symm)]

theorem patch_kp {m : Pairs} (hm : Rise m) {l l' : List ChD} (h : KP l l') : patchD m l = patchD m l' :=
  rise_ext (Rise.patch l hm) (Rise.patch l' hm) fun k => by rw [patch_get, patch_get, h.2]

theorem ofK_yes : ∀ (m : Pairs) (k : ByteArray), Rise m → ofK k (m.map yes) = match getD m k with | some v => [⟨k, true, v⟩] | none => []
  | [], k, _ => by simp [ofK, getD]
  | p :: r, k, h => by
    obtain ⟨hp, h'⟩ := List.pairwise_cons.1 h
    rw [List.map_cons]
    show List.filter _ (_ :: _) = _
    rw [getD_cons, List.filter_cons]
    by_cases e : k = p.1
    · rw [if_pos e, if_pos (by simp [yes, e])]
      have hno : ofK k (r.map yes) = [] := ofK_nil fun x hx e2 => by
        obtain ⟨q, hq, rfl⟩ := List.mem_map.1 hx
        exact lt_ne (hp q hq) ((e2.trans e).symm)
      have hno' : List.filter (fun x => decide (x.key = k)) (r.map yes) = [] := hno
      rw [hno', e]; rfl
    · rw [if_neg e, if_neg (by intro h; exact e (of_decide_eq_true h).symm)]
      exact ofK_yes r k h'
theorem patch_yes {m : Pairs} (hm : Rise m) : patchD [] (m.map yes) = m :=
  rise_ext (Rise.patch _ Rise.nil) hm fun k => by
    rw [patch_get, ofK_yes m k hm]
    cases getD m k <;> rfl
theorem patch_from {m : Pairs} (hm : Rise m) (l : List ChD) : patchD [] (m.map yes ++ l) = patchD m l := by
  have : patchD [] (m.map yes ++ l) = patchD (patchD [] (m.map yes)) l := by simp [patchD]
  rw [this, patch_yes hm]
theorem diff_nil (m : Pairs) : diffD [] m = m.map yes := by
  unfold diffD
  rw [bothD]
  induction m with
  | nil => rfl
  | cons p r ih =>
    rw [List.map_cons, picked_cons, if_neg (by simp [yes, no]), ih]
    simp [yes]

/-- What changes from a to b makes b of a. -/
theorem patch_back {a b : Pairs} (ha : Rise a) (hb : Rise b) : patchD a (diffD a b) = b :=
  rise_ext (Rise.patch _ ha) hb fun k => by
    rw [patch_get, (good a b ha hb).2 k]
    unfold chg
    by_cases e : getD a k = getD b k
    · rw [if_pos e]; exact e
    · rw [if_neg e]
      cases h : getD b k <;> rfl
theorem diff_self {a : Pairs} (ha : Rise a) : diffD a a = [] := by
  have G := good a a ha ha
  cases h : diffD a a with
  | nil => rfl
  | cons c r =>
    have h1 : c ∈ ofK c.key (diffD a a) := List.mem_filter.2 ⟨by rw [h]; simp, decide_eq_true rfl⟩
    rw [G.2] at h1
    unfold chg at h1
    rw [if_pos rfl] at h1; cases h1

end Go.Proofs.Ytbddicaabjlbjaa
