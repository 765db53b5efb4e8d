/-
  The mathematics of a stable sort of changes by their keys: sorted rows, the same changes with those of one key in the same order, insertion, merging by rotation. Plain mathematics: nothing of one program.
-/
import Derived.Test.YtbddicaabjlbjaaRise
import Derived.Sort.LotA
import Derived.Sort.WalkA
namespace Go.Proofs.Ytbddicaabjlbjaa
open Go Go.Sort

/-- A change: a key, whether it has a value, that value. -/
structure ChD where
  key : ByteArray
  has : Bool
  val : ByteArray
instance : Inhabited ChD := ⟨⟨⟨#[]⟩, false, ⟨#[]⟩⟩⟩

/-- Less by key. -/
def ltC (x y : ChD) : Bool := lt x.key y.key

theorem le_lt {a b c : ByteArray} (h : lt b a = false) (h' : lt b c = true) : lt a c = true := by
  cases e : lt a b with
  | true => exact lt_trans e h'
  | false => rw [lt_tri e h]; exact h'
theorem lt_le {a b c : ByteArray} (h : lt a b = true) (h' : lt c b = false) : lt a c = true := by
  cases e : lt b c with
  | true => exact lt_trans h e
  | false => rw [← lt_tri e h']; exact h
theorem le_le {a b c : ByteArray} (h : lt b a = false) (h' : lt c b = false) : lt c a = false := by
  cases e : lt c a with
  | false => rfl
  | true => rw [lt_le e h] at h'; cases h'

theorem ltC_swo : SWO ltC where
  irrefl := fun _ => lt_irrefl _
  trans := fun _ _ _ h h' => lt_trans h h'
  ntrans := fun _ _ _ h h' => le_le h' h

/-- Keys rise, weakly. -/
def KS (L : List ChD) : Prop := L.Pairwise fun x y => lt y.key x.key = false
def ofK (k : ByteArray) (L : List ChD) : List ChD := L.filter fun x => decide (x.key = k)
/-- The same changes, those of one key in the same order. -/
def KP (L R : List ChD) : Prop := L.length = R.length ∧ ∀ k, ofK k L = ofK k R

theorem ofK_append (k : ByteArray) (A B : List ChD) : ofK k (A ++ B) = ofK k A ++ ofK k B := List.filter_append _ _
theorem KP.refl (L : List ChD) : KP L L := ⟨rfl, fun _ => rfl⟩
theorem KP.symm {A B : List ChD} (h : KP A B) : KP B A := ⟨h.1.symm, fun k => (h.2 k).symm⟩
theorem KP.trans {A B C : List ChD} (h : KP A B) (h' : KP B C) : KP A C := ⟨h.1.trans h'.1, fun k => (h.2 k).trans (h'.2 k)⟩
theorem KP.append {A A' B B' : List ChD} (h : KP A A') (h' : KP B B') : KP (A ++ B) (A' ++ B') :=
  ⟨by rw [List.length_append, List.length_append, h.1, h'.1], fun k => by rw [ofK_append, ofK_append, h.2, h'.2]⟩
theorem KP.mem {A B : List ChD} (h : KP A B) {x : ChD} (hx : x ∈ A) : x ∈ B := by
  have h1 : x ∈ ofK x.key A := List.mem_filter.2 ⟨hx, decide_eq_true rfl⟩
  rw [h.2] at h1
  exact (List.mem_filter.1 h1).1
theorem KP.cancel {X Y U R : List ChD} (h : KP (X ++ (U ++ Y)) (X ++ (R ++ Y))) : KP U R := by
  refine ⟨by have := h.1; simp only [List.length_append] at this; omega, fun k => ?_⟩
  have := h.2 k
  rw [ofK_append, ofK_append, ofK_append, ofK_append] at this
  exact List.append_cancel_right (List.append_cancel_left this)
theorem ofK_nil {k : ByteArray} {A : List ChD} (h : ∀ x ∈ A, x.key ≠ k) : ofK k A = [] :=
  List.filter_eq_nil_iff.2 fun x hx => by simpa using h x hx
theorem KP.swap {U V : List ChD} (h : ∀ u ∈ U, ∀ v ∈ V, u.key ≠ v.key) : KP (U ++ V) (V ++ U) := by
  refine ⟨by simp only [List.length_append]; omega, fun k => ?_⟩
  rw [ofK_append, ofK_append]
  by_cases hu : ∃ u ∈ U, u.key = k
  · obtain ⟨u, hu, rfl⟩ := hu
    rw [ofK_nil (A := V) (fun v hv e => h u hu v hv e.symm)]; simp
  · rw [ofK_nil (A := U) (fun u hu' e => hu ⟨u, hu', e⟩)]; simp
theorem KS.append {A B : List ChD} (hA : KS A) (hB : KS B) (h : ∀ a ∈ A, ∀ b ∈ B, lt b.key a.key = false) : KS (A ++ B) := List.pairwise_append.2 ⟨hA, hB, h⟩
theorem KS.left {A B : List ChD} (h : KS (A ++ B)) : KS A := (List.pairwise_append.1 h).1
theorem KS.right {A B : List ChD} (h : KS (A ++ B)) : KS B := (List.pairwise_append.1 h).2.1
theorem KS.across {A B : List ChD} (h : KS (A ++ B)) : ∀ a ∈ A, ∀ b ∈ B, lt b.key a.key = false := (List.pairwise_append.1 h).2.2
theorem KS.nil : KS [] := List.Pairwise.nil
theorem KS.one (x : ChD) : KS [x] := List.pairwise_singleton _ _

/-- One change goes behind those that are less. -/
theorem merge_first {u : ChD} {V1 V2 : List ChD} (hV : KS (V1 ++ V2)) (h1 : ∀ v ∈ V1, lt v.key u.key = true) (h2 : ∀ v ∈ V2, lt v.key u.key = false) :
    KS (V1 ++ ([u] ++ V2)) ∧ KP ([u] ++ (V1 ++ V2)) (V1 ++ ([u] ++ V2)) := by
  refine ⟨KS.append hV.left (KS.append (KS.one u) hV.right (fun a ha b hb => ?_)) (fun a ha b hb => ?_), ?_⟩
  · obtain rfl : a = u := by simpa using ha
    exact h2 b hb
  · rcases List.mem_append.1 hb with hb | hb
    · obtain rfl : b = u := by simpa using hb
      exact lt_asymm (h1 a ha)
    · exact hV.across a ha b hb
  · have := (KP.swap (U := [u]) (V := V1) (fun a ha b hb => by
      obtain rfl : a = u := by simpa using ha
      exact fun e => lt_ne (h1 b hb) e.symm)).append (KP.refl V2)
    simpa only [List.append_assoc] using this
/-- One change goes ahead of those that are greater. -/
theorem merge_last {v : ChD} {U1 U2 : List ChD} (hU : KS (U1 ++ U2)) (h1 : ∀ u ∈ U1, lt v.key u.key = false) (h2 : ∀ u ∈ U2, lt v.key u.key = true) :
    KS (U1 ++ ([v] ++ U2)) ∧ KP (U1 ++ (U2 ++ [v])) (U1 ++ ([v] ++ U2)) := by
  refine ⟨KS.append hU.left (KS.append (KS.one v) hU.right (fun a ha b hb => ?_)) (fun a ha b hb => ?_), ?_⟩
  · obtain rfl : a = v := by simpa using ha
    exact lt_asymm (h2 b hb)
  · rcases List.mem_append.1 hb with hb | hb
    · obtain rfl : b = v := by simpa using hb
      exact h1 a ha
    · exact hU.across a ha b hb
  · exact (KP.refl U1).append (KP.swap (U := U2) (V := [v]) (fun a ha b hb => by
      obtain rfl : b = v := by simpa using hb
      exact fun e => lt_ne (h2 a ha) e.symm))
/-- Both halves of a rotation, merged each. -/
theorem merge_halves {U1 U2 V1 V2 R1 R2 : List ChD} (hU : KS (U1 ++ U2)) (hV : KS (V1 ++ V2)) (hA : ∀ x ∈ U2, ∀ y ∈ V1, lt y.key x.key = true) (hB : ∀ x ∈ U1, ∀ y ∈ V2, lt y.key x.key = false)
    (k1 : KS R1) (p1 : KP (U1 ++ V1) R1) (k2 : KS R2) (p2 : KP (U2 ++ V2) R2) : KS (R1 ++ R2) ∧ KP ((U1 ++ U2) ++ (V1 ++ V2)) (R1 ++ R2) := by
  refine ⟨KS.append k1 k2 (fun a ha b hb => ?_), ?_⟩
  · have ha' := p1.symm.mem ha
    have hb' := p2.symm.mem hb
    rcases List.mem_append.1 ha' with ha' | ha' <;> rcases List.mem_append.1 hb' with hb' | hb'
    · exact hU.across a ha' b hb'
    · exact hB a ha' b hb'
    · exact lt_asymm (hA b hb' a ha')
    · exact hV.across a ha' b hb'
  · refine KP.trans ?_ (p1.append p2)
    have := ((KP.refl U1).append (KP.swap (U := U2) (V := V1) (fun a ha b hb e => lt_ne (hA a ha b hb) e.symm))).append (KP.refl V2)
    simpa only [List.append_assoc] using this

/-! ### by place -/
theorem at_mid {X U T : List ChD} {i : Nat} (h1 : X.length ≤ i) (h2 : i < X.length + U.length) : (X ++ (U ++ T))[i]! = U[i - X.length]! := by
  rw [List.getElem!_eq_getElem?_getD, List.getElem!_eq_getElem?_getD, List.getElem?_append_right h1, List.getElem?_append_left (by omega)]
theorem ks_at {X U T : List ChD} (h : KS U) {i j : Nat} (h1 : X.length ≤ i) (hij : i ≤ j) (h2 : j < X.length + U.length) : lt (X ++ (U ++ T))[j]!.key (X ++ (U ++ T))[i]!.key = false := by
  rw [at_mid h1 (by omega), at_mid (by omega) h2]
  have hj : j - X.length < U.length := by omega
  have hi : i - X.length < U.length := by omega
  rw [getElem!_pos U _ hj, getElem!_pos U _ hi]
  rcases Nat.lt_or_ge (i - X.length) (j - X.length) with hlt | hge
  · exact List.pairwise_iff_getElem.1 h _ _ hi hj hlt
  · obtain rfl : i = j := by omega
    exact lt_irrefl _
theorem mem_take_at {X U T : List ChD} {t : Nat} {x : ChD} (h : x ∈ U.take t) : ∃ i, X.length ≤ i ∧ i < X.length + t ∧ i < X.length + U.length ∧ (X ++ (U ++ T))[i]! = x := by
  obtain ⟨i, hi, rfl⟩ := List.getElem_of_mem h
  rw [List.length_take] at hi
  refine ⟨X.length + i, by omega, by omega, by omega, ?_⟩
  rw [at_mid (by omega) (by omega), Nat.add_sub_cancel_left, getElem!_pos U i (by omega), List.getElem_take]
theorem mem_drop_at {X U T : List ChD} {t : Nat} {x : ChD} (h : x ∈ U.drop t) : ∃ i, X.length + t ≤ i ∧ i < X.length + U.length ∧ (X ++ (U ++ T))[i]! = x := by
  obtain ⟨i, hi, rfl⟩ := List.getElem_of_mem h
  rw [List.length_drop] at hi
  refine ⟨X.length + t + i, by omega, by omega, ?_⟩
  rw [at_mid (by omega) (by omega), show X.length + t + i - X.length = t + i by omega, getElem!_pos U _ (by omega), List.getElem_drop]

/-- Halving: P holds below i, and not from j on. -/
structure Srch (P : Nat → Prop) (lo hi i j : Nat) : Prop where
  le : lo ≤ i ∧ i ≤ j ∧ j ≤ hi
  yes : ∀ c, lo ≤ c → c < i → P c
  no : ∀ c, j ≤ c → c < hi → ¬ P c
theorem Srch.start {P : Nat → Prop} {lo hi : Nat} (h : lo ≤ hi) : Srch P lo hi lo hi := ⟨⟨Nat.le_refl _, h, Nat.le_refl _⟩, fun c h1 h2 => by omega, fun c h1 h2 => by omega⟩
theorem Srch.up {P : Nat → Prop} {lo hi i j h : Nat} (s : Srch P lo hi i j) (hm : ∀ c c', lo ≤ c → c ≤ c' → c' < hi → P c' → P c) (h1 : i ≤ h) (h2 : h < j) (hp : P h) : Srch P lo hi (h + 1) j :=
  ⟨by have := s.le; omega, fun c hc hc' => hm c h hc (by omega) (by have := s.le; omega) hp, s.no⟩
theorem Srch.down {P : Nat → Prop} {lo hi i j h : Nat} (s : Srch P lo hi i j) (hm : ∀ c c', lo ≤ c → c ≤ c' → c' < hi → P c' → P c) (h1 : i ≤ h) (h2 : h < j) (hp : ¬ P h) : Srch P lo hi i h :=
  ⟨by have := s.le; omega, s.yes, fun c hc hc' hpc => hp (hm h c (by have := s.le; omega) hc hc' hpc)⟩

/-! ### exchanges -/
theorem swp_list (A B C : List ChD) (x y : ChD) : swp (A ++ x :: (B ++ y :: C)).toArray A.length (A.length + 1 + B.length) = (A ++ y :: (B ++ x :: C)).toArray := by
  have e1 : (A ++ x :: (B ++ y :: C)).toArray[A.length]! = x := by simp
  have e2 : (A ++ x :: (B ++ y :: C)).toArray[A.length + 1 + B.length]! = y := by
    rw [getElem!_pos _ _ (by simp; omega)]
    simp only [List.getElem_toArray]
    rw [List.getElem_append_right (by omega)]
    simp only [show A.length + 1 + B.length - A.length = B.length + 1 by omega, List.getElem_cons_succ]
    rw [List.getElem_append_right (Nat.le_refl _)]
    simp
  unfold swp
  rw [e1, e2]
  simp only [List.setIfInBounds_toArray]
  congr 1
  rw [List.set_append_right _ _ (Nat.le_refl _), Nat.sub_self, List.set_cons_zero, List.set_append_right _ _ (by omega), show A.length + 1 + B.length - A.length = B.length + 1 by omega, List.set_cons_succ, List.set_append_right _ _ (Nat.le_refl _), Nat.sub_self, List.set_cons_zero]
theorem swp_list' (A B C : List ChD) (x y : ChD) : swp (A ++ x :: (B ++ y :: C)).toArray (A.length + 1 + B.length) A.length = (A ++ y :: (B ++ x :: C)).toArray := by
  have e1 : (A ++ x :: (B ++ y :: C)).toArray[A.length]! = x := by simp
  have e2 : (A ++ x :: (B ++ y :: C)).toArray[A.length + 1 + B.length]! = y := by
    rw [getElem!_pos _ _ (by simp; omega)]
    simp only [List.getElem_toArray]
    rw [List.getElem_append_right (by omega)]
    simp only [show A.length + 1 + B.length - A.length = B.length + 1 by omega, List.getElem_cons_succ]
    rw [List.getElem_append_right (Nat.le_refl _)]
    simp
  unfold swp
  rw [e1, e2]
  simp only [List.setIfInBounds_toArray]
  congr 1
  rw [List.set_append_right _ _ (by omega), show A.length + 1 + B.length - A.length = B.length + 1 by omega, List.set_cons_succ, List.set_append_right _ _ (Nat.le_refl _), Nat.sub_self, List.set_cons_zero, List.set_append_right _ _ (Nat.le_refl _), Nat.sub_self, List.set_cons_zero]

/-! ### insertion -/
theorem arr_split (d : Array ChD) (j : Nat) (h : j + 1 < d.size) : ∃ A C, d = (A ++ d[j]! :: ([] ++ d[j + 1]! :: C)).toArray ∧ A.length = j := by
  refine ⟨d.toList.take j, d.toList.drop (j + 2), ?_, by rw [List.length_take, Array.length_toList]; omega⟩
  apply Array.toList_inj.1
  rw [List.nil_append]
  have h1 : j < d.toList.length := by rw [Array.length_toList]; omega
  have h2 : j + 1 < d.toList.length := by rw [Array.length_toList]; omega
  rw [getElem!_pos d j (by omega), getElem!_pos d (j + 1) h, ← Array.getElem_toList (by omega), ← Array.getElem_toList h]
  rw [← List.drop_eq_getElem_cons h2, ← List.drop_eq_getElem_cons h1, List.take_append_drop]

theorem kp_swp (d : Array ChD) (j : Nat) (h : j + 1 < d.size) (hl : ltC d[j + 1]! d[j]! = true) : KP d.toList (swp d (j + 1) j).toList := by
  obtain ⟨A, C, hd, hA⟩ := arr_split d j h
  obtain ⟨x, hx⟩ : ∃ x, d[j]! = x := ⟨_, rfl⟩
  obtain ⟨y, hy⟩ : ∃ y, d[j + 1]! = y := ⟨_, rfl⟩
  rw [hx, hy] at hd
  rw [hx, hy] at hl
  subst hA
  have := swp_list' A [] C x y
  rw [List.length_nil, Nat.add_zero, ← hd] at this
  rw [this, hd]
  show KP (A ++ x :: y :: C) (A ++ y :: x :: C)
  have h2 := (KP.refl A).append ((KP.swap (U := [x]) (V := [y]) (fun a ha b hb e => by
    obtain rfl : a = x := by simpa using ha
    obtain rfl : b = y := by simpa using hb
    exact lt_ne hl e.symm)).append (KP.refl C))
  simpa using h2

theorem size_insInner (a : Nat) : ∀ (j : Nat) (d : Array ChD), (insInner ltC a j d).size = d.size
  | 0, d => rfl
  | j + 1, d => by
    unfold insInner
    split
    · rw [size_insInner a j]; simp [swp]
    · rfl
theorem kp_insInner (a : Nat) : ∀ (j : Nat) (d : Array ChD), j < d.size → KP d.toList (insInner ltC a j d).toList
  | 0, d, _ => KP.refl _
  | j + 1, d, h => by
    unfold insInner
    split
    · rename_i hc
      have hl : ltC d[j + 1]! d[j]! = true := by
        rw [Bool.and_eq_true] at hc; exact hc.2
      exact (kp_swp d j h hl).trans (kp_insInner a j _ (by simp [swp]; omega))
    · exact KP.refl _
theorem kp_insOuter (a b : Nat) : ∀ (n i : Nat) (d : Array ChD), b - i = n → b ≤ d.size → KP d.toList (insOuter ltC a b i d).toList := by
  intro n
  induction n with
  | zero =>
    intro i d h hb
    rw [insOuter_stop _ _ _ _ _ (by omega)]
    exact KP.refl _
  | succ n ih =>
    intro i d h hb
    rw [insOuter_go _ _ _ _ _ (by omega)]
    exact (kp_insInner a i d (by omega)).trans (ih (i + 1) _ (by omega) (by rw [size_insInner]; exact hb))

/-- What the insertion sort makes of a part of a row. -/
theorem insertion_list (X U Y : List ChD) : ∃ R, insertionSort ltC (X ++ (U ++ Y)).toArray X.length (X.length + U.length) = (X ++ (R ++ Y)).toArray ∧ KS R ∧ KP U R := by
  obtain ⟨hP, hS⟩ := insertionSort_holds ltC_swo (X ++ (U ++ Y)).toArray X.length (X.length + U.length) (by omega) (by simp)
  have hK : KP (X ++ (U ++ Y)) (insertionSort ltC (X ++ (U ++ Y)).toArray X.length (X.length + U.length)).toList := kp_insOuter _ _ _ _ _ rfl (by simp)
  obtain ⟨d', hd⟩ : ∃ d', insertionSort ltC (X ++ (U ++ Y)).toArray X.length (X.length + U.length) = d' := ⟨_, rfl⟩
  rw [hd] at hP hS hK ⊢
  obtain ⟨hsz, hout, _⟩ := hP
  have hlen : d'.toList.length = X.length + (U.length + Y.length) := by rw [Array.length_toList, hsz]; simp
  have hout' : ∀ i, (i < X.length ∨ X.length + U.length ≤ i) → d'.toList[i]? = (X ++ (U ++ Y))[i]? := fun i hi => by
    rcases Nat.lt_or_ge i d'.size with h | h
    · have h1 := hout i hi
      have h2 : i < (X ++ (U ++ Y)).length := by simp only [List.length_append]; rw [Array.length_toList] at hlen; omega
      rw [getElem!_pos d' i h, getElem!_pos _ i (by simpa using h2)] at h1
      rw [List.getElem?_eq_getElem (by simpa using h), List.getElem?_eq_getElem h2]
      simpa using h1
    · rw [List.getElem?_eq_none (by simpa using h), List.getElem?_eq_none (by simp only [List.length_append]; rw [Array.length_toList] at hlen; omega)]
  have e : d'.toList = X ++ ((d'.toList.drop X.length).take U.length ++ Y) := by
    apply List.ext_getElem?
    intro i
    rcases Nat.lt_or_ge i X.length with h | h
    · rw [hout' i (.inl h), List.getElem?_append_left h, List.getElem?_append_left h]
    · rcases Nat.lt_or_ge i (X.length + U.length) with h2 | h2
      · rw [List.getElem?_append_right h, List.getElem?_append_left (by rw [List.length_take, List.length_drop]; omega), List.getElem?_take_of_lt (by omega), List.getElem?_drop, show X.length + (i - X.length) = i by omega]
      · rw [hout' i (.inr h2), List.getElem?_append_right h, List.getElem?_append_right (by omega), List.getElem?_append_right h, List.getElem?_append_right (by rw [List.length_take, List.length_drop]; omega), List.length_take, List.length_drop]
        congr 1; omega
  obtain ⟨R, hR⟩ : ∃ R, (d'.toList.drop X.length).take U.length = R := ⟨_, rfl⟩
  have hRl : R.length = U.length := by rw [← hR, List.length_take, List.length_drop]; omega
  rw [hR] at e
  refine ⟨R, by apply Array.toList_inj.1; rw [e], ?_, ?_⟩
  · refine List.pairwise_iff_getElem.2 fun i j hi hj hij => ?_
    have := hS (X.length + i) (X.length + j) (by omega) (by omega) (by omega)
    have g : ∀ t (ht : t < R.length), d'[X.length + t]! = R[t] := fun t ht => by
      have h1 : X.length + t < d'.size := by rw [← Array.length_toList, hlen]; omega
      rw [getElem!_pos d' _ h1, ← Array.getElem_toList]
      have h2 := e
      have h3 : d'.toList[X.length + t]? = R[t]? := by
        rw [h2, List.getElem?_append_right (by omega), List.getElem?_append_left (by omega)]; congr 1; omega
      rw [List.getElem?_eq_getElem (by simpa using h1), List.getElem?_eq_getElem ht] at h3
      exact Option.some.inj h3
    rw [g i hi, g j hj] at this
    exact this
  · rw [e] at hK
    exact KP.cancel hK

end Go.Proofs.Ytbddicaabjlbjaa
