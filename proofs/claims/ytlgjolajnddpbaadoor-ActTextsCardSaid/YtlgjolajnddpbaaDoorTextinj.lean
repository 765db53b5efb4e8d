/-
  Acts that may be and are unlike have unlike texts.
-/
import Derived.Test.YtlgjolajnddpbaaDoorTextany
namespace Go.Proofs.YtlgjolajnddpbaaDoor
open Go Go.Shelf Go.RowKit

/-- No blank. -/
def noBlank (l : List UInt8) : Prop := ∀ c ∈ l, c ≠ 32
theorem blank_split : ∀ {a b c d : List UInt8}, noBlank a → noBlank b → a ++ 32 :: c = b ++ 32 :: d → a = b ∧ c = d
  | [], [], _, _, _, _, h => ⟨rfl, by simpa using h⟩
  | [], y :: b, _, _, _, hb, h => by
    simp only [List.nil_append, List.cons_append, List.cons.injEq] at h
    exact absurd h.1.symm (hb y (by simp))
  | x :: a, [], _, _, ha, _, h => by
    simp only [List.nil_append, List.cons_append, List.cons.injEq] at h
    exact absurd h.1 (ha x (by simp))
  | x :: a, y :: b, c, d, ha, hb, h => by
    simp only [List.cons_append, List.cons.injEq] at h
    obtain ⟨h1, h2⟩ := blank_split (fun z hz => ha z (by simp [hz])) (fun z hz => hb z (by simp [hz])) h.2
    exact ⟨by rw [h.1, h1], h2⟩
theorem blank_end : ∀ {a b c : List UInt8}, noBlank b → a ++ 32 :: c ≠ b := fun hb h => hb 32 (by rw [← h]; simp) rfl
/-- Words with blanks between tell themselves. -/
theorem join_inj : ∀ (l r : List (List UInt8)), (∀ w ∈ l, noBlank w) → (∀ w ∈ r, noBlank w) → l ≠ [] → r ≠ [] → Lib.join l [32] = Lib.join r [32] → l = r
  | [], _, _, _, h, _, _ => absurd rfl h
  | _ :: _, [], _, _, _, h, _ => absurd rfl h
  | [a], [b], _, _, _, _, h => by rw [Lib.join_one, Lib.join_one] at h; rw [h]
  | [a], b :: b' :: r, ha, _, _, _, h => by
    rw [Lib.join_one, Lib.join_cons] at h
    have : Lib.joinTail [32] (b' :: r) = 32 :: (b' ++ Lib.joinTail [32] r) := by simp [Lib.joinTail]
    rw [this] at h
    exact absurd h.symm (blank_end (ha a (by simp)))
  | a :: a' :: l, [b], _, hb, _, _, h => by
    rw [Lib.join_one, Lib.join_cons] at h
    have : Lib.joinTail [32] (a' :: l) = 32 :: (a' ++ Lib.joinTail [32] l) := by simp [Lib.joinTail]
    rw [this] at h
    exact absurd h (blank_end (hb b (by simp)))
  | a :: a' :: l, b :: b' :: r, ha, hb, _, _, h => by
    rw [Lib.join_cons, Lib.join_cons] at h
    have e1 : Lib.joinTail [32] (a' :: l) = 32 :: Lib.join (a' :: l) [32] := by rw [Lib.join_cons]; simp [Lib.joinTail]
    have e2 : Lib.joinTail [32] (b' :: r) = 32 :: Lib.join (b' :: r) [32] := by rw [Lib.join_cons]; simp [Lib.joinTail]
    rw [e1, e2] at h
    obtain ⟨h1, h2⟩ := blank_split (ha a (by simp)) (hb b (by simp)) h
    have := join_inj (a' :: l) (b' :: r) (fun w hw => ha w (List.mem_cons_of_mem _ hw)) (fun w hw => hb w (List.mem_cons_of_mem _ hw)) (by simp) (by simp) h2
    rw [h1, this]

/-! ### digits -/
theorem dec_inj : ∀ {u v : Nat}, Lib.decDigits u = Lib.decDigits v → u = v := by
  intro u
  induction u using Nat.strongRecOn with
  | ind u ih =>
    intro v h
    have e1 := dgt_first u
    have e2 := dgt_first v
    rw [h, e2] at e1
    have hl := congrArg List.getLast? e1
    have hi := congrArg List.dropLast e1
    simp only [List.getLast?_append, List.getLast?_singleton, Option.some_or, Option.some.injEq] at hl
    rw [List.dropLast_concat, List.dropLast_concat] at hi
    have hd : v % 10 = u % 10 := by
      have a1 := dgt_int u
      have a2 := dgt_int v
      rw [hl] at a2
      omega
    by_cases hu : u > 9
    · by_cases hv : v > 9
      · rw [if_pos hu, if_pos hv] at hi
        have := ih (u / 10) (by omega) hi.symm
        omega
      · rw [if_pos hu, if_neg hv] at hi
        have hp := Lib.nDigits_pos (u / 10)
        rw [← Lib.decDigits_length, ← hi] at hp
        simp at hp
    · by_cases hv : v > 9
      · rw [if_neg hu, if_pos hv] at hi
        have hp := Lib.nDigits_pos (v / 10)
        rw [← Lib.decDigits_length, hi] at hp
        simp at hp
      · omega
theorem dec_noblank : ∀ u : Nat, noBlank (Lib.decDigits u) := by
  intro u
  induction u using Nat.strongRecOn with
  | ind u ih =>
    intro c hc
    rw [dgt_first u] at hc
    rcases List.mem_append.1 hc with h | h
    · by_cases hu : u > 9
      · rw [if_pos hu] at h
        exact ih (u / 10) (by omega) c h
      · rw [if_neg hu] at h; cases h
    · rw [List.mem_singleton] at h
      subst h
      intro e
      have a1 := dgt_int u
      rw [e] at a1
      have : ((32 : UInt8).toNat : Int) = 32 := rfl
      omega

/-! ### words of texts -/
theorem q1_all : ((List.range 256).all fun n => (q1 (UInt8.ofNat n)).all (fun d => d.toNat != 32)) = true := by kernel_rfl
theorem q1_noblank (c : UInt8) : noBlank (q1 c) := by
  have := List.all_eq_true.1 q1_all c.toNat (List.mem_range.2 c.toNat_lt)
  rw [UInt8.ofNat_toNat] at this
  intro d hd e
  have h2 := List.all_eq_true.1 this d hd
  rw [e] at h2
  exact absurd h2 (by decide)
theorem hxd_all : ((List.range 16).all fun i => (List.range 16).all fun j => (hxd i).toNat != (hxd j).toNat || i == j) = true := by kernel_rfl
theorem hxd_inj {i j : Nat} (hi : i < 16) (hj : j < 16) (h : hxd i = hxd j) : i = j := by
  have h1 := List.all_eq_true.1 hxd_all i (List.mem_range.2 hi)
  have h2 := List.all_eq_true.1 h1 j (List.mem_range.2 hj)
  rw [h] at h2
  simpa using h2
theorem q1_split {x y : UInt8} {s t : List UInt8} (h : q1 x ++ s = q1 y ++ t) : x = y ∧ s = t := by
  have p37 : plainZ ((37 : UInt8).toNat : Int) = false := by kernel_rfl
  unfold q1 at h
  cases hx : plainZ (x.toNat : Int) <;> cases hy : plainZ (y.toNat : Int) <;> rw [hx, hy] at h
  · simp only [Bool.false_eq_true, if_false, List.cons_append, List.nil_append, List.cons.injEq, true_and] at h
    obtain ⟨h1, h2, h3⟩ := h
    have hx2 := x.toNat_lt
    have hy2 := y.toNat_lt
    have e1 := hxd_inj (by omega) (by omega) h1
    have e2 := hxd_inj (by omega) (by omega) h2
    refine ⟨UInt8.toNat_inj.1 ?_, h3⟩
    omega
  · simp only [Bool.false_eq_true, if_false, if_true, List.cons_append, List.nil_append, List.cons.injEq] at h
    rw [← h.1, p37] at hy
    cases hy
  · simp only [Bool.false_eq_true, if_false, if_true, List.cons_append, List.nil_append, List.cons.injEq] at h
    rw [h.1, p37] at hx
    cases hx
  · simp only [if_true, List.cons_append, List.nil_append, List.cons.injEq] at h
    exact h
theorem q1_ne (c : UInt8) : q1 c ≠ [] := by unfold q1; split <;> simp
theorem flat_inj : ∀ {a b : List UInt8}, a.flatMap q1 = b.flatMap q1 → a = b
  | [], [], _ => rfl
  | [], y :: b, h => by
    simp only [List.flatMap_nil, List.flatMap_cons] at h
    exact absurd (List.append_eq_nil_iff.1 h.symm).1 (q1_ne y)
  | x :: a, [], h => by
    simp only [List.flatMap_nil, List.flatMap_cons] at h
    exact absurd (List.append_eq_nil_iff.1 h).1 (q1_ne x)
  | x :: a, y :: b, h => by
    simp only [List.flatMap_cons] at h
    obtain ⟨h1, h2⟩ := q1_split h
    rw [h1, flat_inj h2]
theorem dash_not {b : List UInt8} (hb : b ≠ []) : b.flatMap q1 ≠ [45] := by
  intro h
  cases b with
  | nil => exact hb rfl
  | cons y b =>
    have p45 : plainZ ((45 : UInt8).toNat : Int) = false := by kernel_rfl
    simp only [List.flatMap_cons] at h
    unfold q1 at h
    cases hy : plainZ (y.toNat : Int) <;> rw [hy] at h
    · simp at h
    · simp only [if_true, List.cons_append, List.nil_append, List.cons.injEq] at h
      rw [h.1, p45] at hy
      cases hy
theorem quoteL_inj {a b : List UInt8} (h : quoteL a = quoteL b) : a = b := by
  unfold quoteL at h
  by_cases ha : a = [] <;> by_cases hb : b = []
  · rw [ha, hb]
  · rw [if_pos ha, if_neg hb] at h; exact absurd h.symm (dash_not hb)
  · rw [if_neg ha, if_pos hb] at h; exact absurd h (dash_not ha)
  · rw [if_neg ha, if_neg hb] at h; exact flat_inj h
theorem quoteL_noblank (a : List UInt8) : noBlank (quoteL a) := by
  unfold quoteL
  split
  · intro c hc; rw [List.mem_singleton] at hc; subst hc; decide
  · intro c hc
    obtain ⟨d, -, hd⟩ := List.mem_flatMap.1 hc
    exact q1_noblank d c hd

/-! ### acts -/
theorem ba_list {a b : ByteArray} (h : a.data.toList = b.data.toList) : a = b := by
  obtain ⟨⟨a⟩⟩ := a
  obtain ⟨⟨b⟩⟩ := b
  simp only at h
  rw [h]
theorem digN_inj {u v : Nat} (h : digN u = digN v) : u = v := by
  unfold digN at h
  have := congrArg (fun x : ByteArray => x.data.toList) h
  exact dec_inj (by simpa using this)
theorem quoteB_inj {s t : ByteArray} (h : quoteB s = quoteB t) : s = t := by
  unfold quoteB at h
  have := congrArg (fun x : ByteArray => x.data.toList) h
  exact ba_list (quoteL_inj (by simpa using this))
theorem digN_noblank (u : Nat) : noBlank (digN u).data.toList := by unfold digN; simpa using dec_noblank u
theorem quoteB_noblank (s : ByteArray) : noBlank (quoteB s).data.toList := by unfold quoteB; simpa using quoteL_noblank _
theorem name_all : ((List.range 11).all fun i => (nameA i).data.toList.all (fun d => d.toNat != 32)) = true := by kernel_rfl
theorem name_noblank {i : Nat} (h : i < 11) : noBlank (nameA i).data.toList := by
  have h1 := List.all_eq_true.1 name_all i (List.mem_range.2 h)
  intro d hd e
  have h2 := List.all_eq_true.1 h1 d hd
  rw [e] at h2
  exact absurd h2 (by decide)
theorem names_all : ((List.range 11).all fun i => (List.range 11).all fun j => (nameA i).data.toList.map UInt8.toNat != (nameA j).data.toList.map UInt8.toNat || i == j) = true := by kernel_rfl
theorem name_inj {i j : Nat} (hi : i < 11) (hj : j < 11) (h : nameA i = nameA j) : i = j := by
  have h1 := List.all_eq_true.1 names_all i (List.mem_range.2 hi)
  have h2 := List.all_eq_true.1 h1 j (List.mem_range.2 hj)
  rw [h] at h2
  simpa using h2
theorem parts_noblank {x : ActD} (hk : x.kind.toNat < 11) : ∀ w ∈ (partsA x).map (·.data.toList), noBlank w := by
  intro w hw
  obtain ⟨p, hp, rfl⟩ := List.mem_map.1 hw
  unfold partsA at hp
  rcases List.mem_cons.1 hp with rfl | hp
  · exact name_noblank hk
  · split at hp
    · simp only [List.mem_cons, List.not_mem_nil, or_false] at hp
      rcases hp with rfl | rfl <;> exact digN_noblank _
    · split at hp
      · simp only [List.mem_cons, List.not_mem_nil, or_false] at hp
        rcases hp with rfl | rfl | rfl <;> exact digN_noblank _
      · split at hp
        · simp only [List.mem_cons, List.not_mem_nil, or_false] at hp
          rcases hp with rfl | rfl | rfl | rfl <;> exact digN_noblank _
        · split at hp
          · simp only [List.mem_cons, List.not_mem_nil, or_false] at hp
            rcases hp with rfl | rfl
            · exact digN_noblank _
            · exact quoteB_noblank _
          · split at hp
            · simp only [List.mem_cons, List.not_mem_nil, or_false] at hp
              subst hp
              exact digN_noblank _
            · cases hp
theorem parts_inj {x y : ActD} (hx : x.kind.toNat < 11) (hy : y.kind.toNat < 11) (h : lineB (partsA x) = lineB (partsA y)) : partsA x = partsA y := by
  unfold lineB at h
  have h1 := congrArg (fun b : ByteArray => b.data.toList) h
  have h2 := join_inj _ _ (parts_noblank hx) (parts_noblank hy) (by simp [partsA]) (by simp [partsA]) (show Lib.join ((partsA x).map (·.data.toList)) [32] = Lib.join ((partsA y).map (·.data.toList)) [32] from by simpa using h1)
  exact List.map_inj_right (fun a b hab => ba_list hab) |>.1 h2

theorem right_rest {x : ActD} (h : rightA x = true) : zeroA (restA x) = true := by
  unfold rightA at h
  simp only [Bool.and_eq_true] at h
  exact h.2.2
theorem toList_nil {t : ByteArray} (h : t.toList = []) : t = ⟨#[]⟩ := by
  rw [ByteArray.toList_eq] at h
  exact ba_list h
theorem same_0 {b cn on nn b' cn' on' nn' : Nat} {t t' : ByteArray} (h1 : zeroA (restA ⟨0, b, (cn : Int), (on : Int), (nn : Int), t⟩) = true) (h2 : zeroA (restA ⟨0, b', (cn' : Int), (on' : Int), (nn' : Int), t'⟩) = true)
    (_ : partsA ⟨0, b, (cn : Int), (on : Int), (nn : Int), t⟩ = partsA ⟨0, b', (cn' : Int), (on' : Int), (nn' : Int), t'⟩) : (⟨0, b, (cn : Int), (on : Int), (nn : Int), t⟩ : ActD) = ⟨0, b', (cn' : Int), (on' : Int), (nn' : Int), t'⟩ := by
  simp [restA, zeroA] at h1 h2
  obtain ⟨zb, zc, zo, zn, zt⟩ := h1
  obtain ⟨yb, yc, yo, yn, yt⟩ := h2
  rw [toList_nil zt, toList_nil yt, zb, yb, zc, yc, zo, yo, zn, yn]
theorem same_1 {b cn on nn b' cn' on' nn' : Nat} {t t' : ByteArray} (h1 : zeroA (restA ⟨1, b, (cn : Int), (on : Int), (nn : Int), t⟩) = true) (h2 : zeroA (restA ⟨1, b', (cn' : Int), (on' : Int), (nn' : Int), t'⟩) = true)
    (hp : partsA ⟨1, b, (cn : Int), (on : Int), (nn : Int), t⟩ = partsA ⟨1, b', (cn' : Int), (on' : Int), (nn' : Int), t'⟩) : (⟨1, b, (cn : Int), (on : Int), (nn : Int), t⟩ : ActD) = ⟨1, b', (cn' : Int), (on' : Int), (nn' : Int), t'⟩ := by
  simp [restA, zeroA] at h1 h2
  simp [partsA] at hp
  obtain ⟨zo, zn, zt⟩ := h1
  obtain ⟨yo, yn, yt⟩ := h2
  obtain ⟨pb, pc⟩ := hp
  obtain rfl : b = b' := digN_inj pb
  obtain rfl : cn = cn' := digN_inj pc
  rw [toList_nil zt, toList_nil yt, zo, yo, zn, yn]
theorem same_2 {b cn on nn b' cn' on' nn' : Nat} {t t' : ByteArray} (h1 : zeroA (restA ⟨2, b, (cn : Int), (on : Int), (nn : Int), t⟩) = true) (h2 : zeroA (restA ⟨2, b', (cn' : Int), (on' : Int), (nn' : Int), t'⟩) = true)
    (hp : partsA ⟨2, b, (cn : Int), (on : Int), (nn : Int), t⟩ = partsA ⟨2, b', (cn' : Int), (on' : Int), (nn' : Int), t'⟩) : (⟨2, b, (cn : Int), (on : Int), (nn : Int), t⟩ : ActD) = ⟨2, b', (cn' : Int), (on' : Int), (nn' : Int), t'⟩ := by
  simp [restA, zeroA] at h1 h2
  simp [partsA] at hp
  obtain ⟨zo, zt⟩ := h1
  obtain ⟨yo, yt⟩ := h2
  obtain ⟨pb, pc, pn⟩ := hp
  obtain rfl : b = b' := digN_inj pb
  obtain rfl : cn = cn' := digN_inj pc
  obtain rfl : nn = nn' := digN_inj pn
  rw [toList_nil zt, toList_nil yt, zo, yo]
theorem same_3 {b cn on nn b' cn' on' nn' : Nat} {t t' : ByteArray} (h1 : zeroA (restA ⟨3, b, (cn : Int), (on : Int), (nn : Int), t⟩) = true) (h2 : zeroA (restA ⟨3, b', (cn' : Int), (on' : Int), (nn' : Int), t'⟩) = true)
    (hp : partsA ⟨3, b, (cn : Int), (on : Int), (nn : Int), t⟩ = partsA ⟨3, b', (cn' : Int), (on' : Int), (nn' : Int), t'⟩) : (⟨3, b, (cn : Int), (on : Int), (nn : Int), t⟩ : ActD) = ⟨3, b', (cn' : Int), (on' : Int), (nn' : Int), t'⟩ := by
  simp [restA, zeroA] at h1 h2
  simp [partsA] at hp
  have zt := h1
  have yt := h2
  obtain ⟨pb, pc, po, pn⟩ := hp
  obtain rfl : b = b' := digN_inj pb
  obtain rfl : cn = cn' := digN_inj pc
  obtain rfl : on = on' := digN_inj po
  obtain rfl : nn = nn' := digN_inj pn
  rw [toList_nil zt, toList_nil yt]
theorem same_4 {b cn on nn b' cn' on' nn' : Nat} {t t' : ByteArray} (h1 : zeroA (restA ⟨4, b, (cn : Int), (on : Int), (nn : Int), t⟩) = true) (h2 : zeroA (restA ⟨4, b', (cn' : Int), (on' : Int), (nn' : Int), t'⟩) = true)
    (hp : partsA ⟨4, b, (cn : Int), (on : Int), (nn : Int), t⟩ = partsA ⟨4, b', (cn' : Int), (on' : Int), (nn' : Int), t'⟩) : (⟨4, b, (cn : Int), (on : Int), (nn : Int), t⟩ : ActD) = ⟨4, b', (cn' : Int), (on' : Int), (nn' : Int), t'⟩ := by
  simp [restA, zeroA] at h1 h2
  simp [partsA] at hp
  obtain ⟨zo, zt⟩ := h1
  obtain ⟨yo, yt⟩ := h2
  obtain ⟨pb, pc, pn⟩ := hp
  obtain rfl : b = b' := digN_inj pb
  obtain rfl : cn = cn' := digN_inj pc
  obtain rfl : nn = nn' := digN_inj pn
  rw [toList_nil zt, toList_nil yt, zo, yo]
theorem same_5 {b cn on nn b' cn' on' nn' : Nat} {t t' : ByteArray} (h1 : zeroA (restA ⟨5, b, (cn : Int), (on : Int), (nn : Int), t⟩) = true) (h2 : zeroA (restA ⟨5, b', (cn' : Int), (on' : Int), (nn' : Int), t'⟩) = true)
    (hp : partsA ⟨5, b, (cn : Int), (on : Int), (nn : Int), t⟩ = partsA ⟨5, b', (cn' : Int), (on' : Int), (nn' : Int), t'⟩) : (⟨5, b, (cn : Int), (on : Int), (nn : Int), t⟩ : ActD) = ⟨5, b', (cn' : Int), (on' : Int), (nn' : Int), t'⟩ := by
  simp [restA, zeroA] at h1 h2
  simp [partsA] at hp
  obtain ⟨zb, zo, zn⟩ := h1
  obtain ⟨yb, yo, yn⟩ := h2
  obtain ⟨pc, pt⟩ := hp
  obtain rfl : cn = cn' := digN_inj pc
  obtain rfl : t = t' := quoteB_inj pt
  rw [zb, yb, zo, yo, zn, yn]
theorem same_6 {b cn on nn b' cn' on' nn' : Nat} {t t' : ByteArray} (h1 : zeroA (restA ⟨6, b, (cn : Int), (on : Int), (nn : Int), t⟩) = true) (h2 : zeroA (restA ⟨6, b', (cn' : Int), (on' : Int), (nn' : Int), t'⟩) = true)
    (hp : partsA ⟨6, b, (cn : Int), (on : Int), (nn : Int), t⟩ = partsA ⟨6, b', (cn' : Int), (on' : Int), (nn' : Int), t'⟩) : (⟨6, b, (cn : Int), (on : Int), (nn : Int), t⟩ : ActD) = ⟨6, b', (cn' : Int), (on' : Int), (nn' : Int), t'⟩ := by
  simp [restA, zeroA] at h1 h2
  simp [partsA] at hp
  obtain ⟨zc, zo, zn, zt⟩ := h1
  obtain ⟨yc, yo, yn, yt⟩ := h2
  have pb := hp
  obtain rfl : b = b' := digN_inj pb
  rw [toList_nil zt, toList_nil yt, zc, yc, zo, yo, zn, yn]
theorem same_7 {b cn on nn b' cn' on' nn' : Nat} {t t' : ByteArray} (h1 : zeroA (restA ⟨7, b, (cn : Int), (on : Int), (nn : Int), t⟩) = true) (h2 : zeroA (restA ⟨7, b', (cn' : Int), (on' : Int), (nn' : Int), t'⟩) = true)
    (hp : partsA ⟨7, b, (cn : Int), (on : Int), (nn : Int), t⟩ = partsA ⟨7, b', (cn' : Int), (on' : Int), (nn' : Int), t'⟩) : (⟨7, b, (cn : Int), (on : Int), (nn : Int), t⟩ : ActD) = ⟨7, b', (cn' : Int), (on' : Int), (nn' : Int), t'⟩ := by
  simp [restA, zeroA] at h1 h2
  simp [partsA] at hp
  obtain ⟨zc, zo, zn, zt⟩ := h1
  obtain ⟨yc, yo, yn, yt⟩ := h2
  have pb := hp
  obtain rfl : b = b' := digN_inj pb
  rw [toList_nil zt, toList_nil yt, zc, yc, zo, yo, zn, yn]
theorem same_8 {b cn on nn b' cn' on' nn' : Nat} {t t' : ByteArray} (h1 : zeroA (restA ⟨8, b, (cn : Int), (on : Int), (nn : Int), t⟩) = true) (h2 : zeroA (restA ⟨8, b', (cn' : Int), (on' : Int), (nn' : Int), t'⟩) = true)
    (_ : partsA ⟨8, b, (cn : Int), (on : Int), (nn : Int), t⟩ = partsA ⟨8, b', (cn' : Int), (on' : Int), (nn' : Int), t'⟩) : (⟨8, b, (cn : Int), (on : Int), (nn : Int), t⟩ : ActD) = ⟨8, b', (cn' : Int), (on' : Int), (nn' : Int), t'⟩ := by
  simp [restA, zeroA] at h1 h2
  obtain ⟨zb, zc, zo, zn, zt⟩ := h1
  obtain ⟨yb, yc, yo, yn, yt⟩ := h2
  rw [toList_nil zt, toList_nil yt, zb, yb, zc, yc, zo, yo, zn, yn]
theorem same_9 {b cn on nn b' cn' on' nn' : Nat} {t t' : ByteArray} (h1 : zeroA (restA ⟨9, b, (cn : Int), (on : Int), (nn : Int), t⟩) = true) (h2 : zeroA (restA ⟨9, b', (cn' : Int), (on' : Int), (nn' : Int), t'⟩) = true)
    (_ : partsA ⟨9, b, (cn : Int), (on : Int), (nn : Int), t⟩ = partsA ⟨9, b', (cn' : Int), (on' : Int), (nn' : Int), t'⟩) : (⟨9, b, (cn : Int), (on : Int), (nn : Int), t⟩ : ActD) = ⟨9, b', (cn' : Int), (on' : Int), (nn' : Int), t'⟩ := by
  simp [restA, zeroA] at h1 h2
  obtain ⟨zb, zc, zo, zn, zt⟩ := h1
  obtain ⟨yb, yc, yo, yn, yt⟩ := h2
  rw [toList_nil zt, toList_nil yt, zb, yb, zc, yc, zo, yo, zn, yn]
theorem same_10 {b cn on nn b' cn' on' nn' : Nat} {t t' : ByteArray} (h1 : zeroA (restA ⟨10, b, (cn : Int), (on : Int), (nn : Int), t⟩) = true) (h2 : zeroA (restA ⟨10, b', (cn' : Int), (on' : Int), (nn' : Int), t'⟩) = true)
    (hp : partsA ⟨10, b, (cn : Int), (on : Int), (nn : Int), t⟩ = partsA ⟨10, b', (cn' : Int), (on' : Int), (nn' : Int), t'⟩) : (⟨10, b, (cn : Int), (on : Int), (nn : Int), t⟩ : ActD) = ⟨10, b', (cn' : Int), (on' : Int), (nn' : Int), t'⟩ := by
  simp [restA, zeroA] at h1 h2
  simp [partsA] at hp
  obtain ⟨zo, zn, zt⟩ := h1
  obtain ⟨yo, yn, yt⟩ := h2
  obtain ⟨pb, pc⟩ := hp
  obtain rfl : b = b' := digN_inj pb
  obtain rfl : cn = cn' := digN_inj pc
  rw [toList_nil zt, toList_nil yt, zo, yo, zn, yn]

theorem text_inj {x y : ActD} (hx : rightA x = true) (hy : rightA y = true) (fx : x.fits) (fy : y.fits) (h : textA x = textA y) : x = y := by
  unfold textA at h
  rw [hx, hy] at h
  simp only [if_true] at h
  have kx := right_kind hx
  have ky := right_kind hy
  have hp := parts_inj (by omega) (by omega) h
  have hk : x.kind = y.kind := by
    have h1 := hp
    unfold partsA at h1
    simp only [List.cons.injEq] at h1
    have := name_inj (by omega) (by omega) h1.1
    omega
  obtain ⟨cn, on, nn, x1, x2, x3, -, -, -⟩ := right_nat fx hx
  obtain ⟨cn', on', nn', y1, y2, y3, -, -, -⟩ := right_nat fy hy
  have zx := right_rest hx
  have zy := right_rest hy
  obtain ⟨k, b, c, o, n, t⟩ := x
  obtain ⟨k', b', c', o', n', t'⟩ := y
  simp only at hk x1 x2 x3 y1 y2 y3 kx
  subst hk x1 x2 x3 y1 y2 y3
  clear hx hy fx fy h ky
  rcases kx with rfl | rfl | rfl | rfl | rfl | rfl | rfl | rfl | rfl | rfl | rfl
  · exact same_0 zx zy hp
  · exact same_1 zx zy hp
  · exact same_2 zx zy hp
  · exact same_3 zx zy hp
  · exact same_4 zx zy hp
  · exact same_5 zx zy hp
  · exact same_6 zx zy hp
  · exact same_7 zx zy hp
  · exact same_8 zx zy hp
  · exact same_9 zx zy hp
  · exact same_10 zx zy hp

end Go.Proofs.YtlgjolajnddpbaaDoor
