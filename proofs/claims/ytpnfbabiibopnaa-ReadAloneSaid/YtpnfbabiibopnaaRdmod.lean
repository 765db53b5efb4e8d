/-
  The pairs that the document has against what is laid: what one more version does to both. Plain.
-/
import Derived.Test.YtpnfbabiibopnaaRefput6
import Derived.Test.YtpnfbabiibopnaaRdaw
namespace Go.Proofs.Ytpnfbabiibopnaa
open Go Go.RowKit

theorem getD_cons' (p : ByteArray × ByteArray) (r : Pairs) (k : ByteArray) : getD (p :: r) k = if k = p.1 then some p.2 else getD r k := by
  show (if p.1 = k then some p.2 else getD r k) = _
  by_cases h : p.1 = k
  · rw [if_pos h, if_pos h.symm]
  · rw [if_neg h, if_neg (fun e => h e.symm)]
theorem getD_put' : ∀ (D : Pairs) (x v k : ByteArray), getD (prD D x v) k = if k = x then some v else getD D k
  | [], x, v, k => by
    show getD [(x, v)] k = _
    rw [getD_cons']
  | p :: r, x, v, k => by
    unfold prD
    by_cases hl : lt p.1 x = true
    · rw [if_pos hl, getD_cons', getD_put' r x v k, getD_cons']
      by_cases h1 : k = x
      · have : ¬ k = p.1 := fun e => lt_ne hl (e.symm.trans h1)
        rw [if_neg this, if_pos h1, if_pos h1]
      · rw [if_neg h1, if_neg h1]
    · rw [if_neg hl]
      by_cases he : p.1 = x
      · rw [if_pos he, getD_cons', getD_cons']
        by_cases h1 : k = x
        · rw [if_pos h1, if_pos h1]
        · rw [if_neg h1, if_neg h1, if_neg (fun e => h1 (e.trans he))]
      · rw [if_neg he, getD_cons']
theorem getD_del' : ∀ (D : Pairs) (x k : ByteArray), getD (delD D x) k = if k = x then none else getD D k
  | [], x, k => by simp [delD, getD]
  | p :: r, x, k => by
    have ih := getD_del' r x k
    unfold delD at ih ⊢
    by_cases he : p.1 = x
    · rw [List.filter_cons, if_neg (by simp [he]), ih, getD_cons']
      by_cases h1 : k = x
      · rw [if_pos h1, if_pos h1]
      · rw [if_neg h1, if_neg h1, if_neg (fun e => h1 (e.trans he))]
    · rw [List.filter_cons, if_pos (by simp [he]), getD_cons', ih, getD_cons']
      by_cases h1 : k = x
      · rw [if_pos h1, if_pos h1, if_neg (fun e => he (e.symm.trans h1))]
      · rw [if_neg h1, if_neg h1]

def valOf (u : Bool × ByteArray × Nat) : Option ByteArray := if u.1 then some u.2.1 else none
theorem lastAt_agree {V V' : Nat → VsnD} {e : Int} : ∀ {n : Nat}, (∀ j, j < n → V' j = V j) → lastAt V' e n = lastAt V e n
  | 0, _ => rfl
  | n + 1, h => by
    unfold lastAt
    rw [h n (Nat.lt_succ_self _), lastAt_agree (fun j hj => h j (by omega))]
theorem seenC_agree {V V' : Nat → VsnD} {e : Int} {n : Nat} (h : ∀ j, j < n → V' j = V j) : seenC V' e n = seenC V e n := by
  unfold seenC
  rw [lastAt_agree h]
  cases hl : lastAt V e n with
  | none => rfl
  | some j => simp only; rw [h j (lastAt_lt hl)]
theorem seenC_txt (V : Nat → VsnD) (e : Int) (n : Nat) (h : (seenC V e n).1 = false) : (seenC V e n).2.1 = ⟨#[]⟩ := by
  unfold seenC at h ⊢
  cases hl : lastAt V e n with
  | none => rfl
  | some j =>
    rw [hl] at h
    simp only at h ⊢
    rw [h]; rfl
/-- The pairs at the epoch e: each key that a shelf has, and no other. -/
structure ModI (s e : Int) (K : Shelves) (V : Int → Nat → VsnD) (N : Int → Nat) (L : Pairs) : Prop where
  rise : Rise L
  on : ∀ sh, 0 ≤ sh → sh < s → ∀ key : ByteArray, K sh = some key.toList → getD L key = valOf (seenC (V sh) e (N sh))
  off : ∀ key : ByteArray, (∀ sh, 0 ≤ sh → sh < s → K sh ≠ some key.toList) → getD L key = none
section
variable {a p s q v x e : Int} {D : HpD} {G : Nat → Int} {K : Shelves} {V : Int → Nat → VsnD} {N : Int → Nat} {L L' : Pairs}
theorem ModI.start (s e : Int) (V : Int → Nat → VsnD) : ModI s e (fun _ => none) V (fun _ => 0) [] :=
  ⟨Rise.nil, fun _ _ _ _ h => (by cases h), fun _ _ => rfl⟩
theorem seen_push_new {V : Int → Nat → VsnD} {N : Int → Nat} {sh : Int} {y : VsnD} (h : y.ep ≤ e) : seenC (pushV V N sh y sh) e (pushN N sh sh) = (y.has, if y.has then y.text else ⟨#[]⟩, y.block) := by
  have e1 : pushN N sh sh = N sh + 1 := if_pos rfl
  have e2 : pushV V N sh y sh (N sh) = y := if_pos ⟨rfl, rfl⟩
  rw [e1]
  unfold seenC lastAt
  rw [e2, if_pos h]
  simp only [e2]
theorem seen_push_late {V : Int → Nat → VsnD} {N : Int → Nat} {sh : Int} {y : VsnD} (h : ¬ y.ep ≤ e) : seenC (pushV V N sh y sh) e (pushN N sh sh) = seenC (V sh) e (N sh) := by
  have e1 : pushN N sh sh = N sh + 1 := if_pos rfl
  have e2 : pushV V N sh y sh (N sh) = y := if_pos ⟨rfl, rfl⟩
  have hl : lastAt (pushV V N sh y sh) e (N sh + 1) = lastAt (pushV V N sh y sh) e (N sh) := by
    show (if (pushV V N sh y sh (N sh)).ep ≤ e then some (N sh) else lastAt (pushV V N sh y sh) e (N sh)) = _
    rw [e2, if_neg h]
  have h2 : seenC (pushV V N sh y sh) e (N sh + 1) = seenC (pushV V N sh y sh) e (N sh) := by unfold seenC; rw [hl]
  rw [e1, h2]
  exact seenC_agree (fun j hj => if_neg (by omega))
theorem seen_push_other {V : Int → Nat → VsnD} {N : Int → Nat} {sh z : Int} {y : VsnD} (h : z ≠ sh) : seenC (pushV V N sh y z) e (pushN N sh z) = seenC (V z) e (N z) := by
  have e1 : pushN N sh z = N z := if_neg h
  rw [e1]
  exact seenC_agree (fun j _ => if_neg (fun hh => h hh.1))
/-- One more version. -/
theorem ModI.more (hM : ModI s e K V N L) (hL : Laid a p s q v x D G K V N) {sh : Int} {key : ByteArray} (hsh : sh = (seenF K (newF a p s q v x key)).1.sh) (h0 : 0 ≤ sh) (h1 : sh < s) (hK : K sh = none ∨ K sh = some key.toList) {ep : Int} {has : Bool} {val : ByteArray} {bl : Nat}
    (hL' : Rise L') (hin : ep ≤ e → ∀ k, getD L' k = if k = key then (if has then some val else none) else getD L k) (hout : ¬ ep ≤ e → L' = L) :
    ModI s e (K.put sh key.toList) (pushV V N sh ⟨ep, has, putT has val, bl⟩) (pushN N sh) L' := by
  have hother : ∀ y, 0 ≤ y → y < s → y ≠ sh → ∀ k : ByteArray, K y = some k.toList → k ≠ key := fun y y0 y1 hne k hk e => by
    subst e
    have := (hL.own y y0 y1 k hk).found.2
    exact hne (by rw [hsh]; exact this.symm)
  have hput : ∀ y, y ≠ sh → (K.put sh key.toList) y = K y := fun y hy => if_neg hy
  have hputs : (K.put sh key.toList) sh = some key.toList := if_pos rfl
  refine ⟨hL', fun y y0 y1 k hk => ?_, fun k hk => ?_⟩
  · by_cases hy : y = sh
    · subst hy
      rw [hputs] at hk
      obtain rfl := bytes_inj (Option.some.inj hk)
      by_cases hle : ep ≤ e
      · rw [hin hle, if_pos rfl, seen_push_new (y := ⟨ep, has, putT has val, bl⟩) hle]
        unfold valOf putT
        cases has <;> rfl
      · rw [hout hle, seen_push_late (y := ⟨ep, has, putT has val, bl⟩) hle]
        rcases hK with hn | hs
        · have := hM.off key (fun z z0 z1 hz => by
            have hf := (hL.own z z0 z1 key hz).found.2
            have hzs : z = y := by rw [hsh]; exact hf.symm
            rw [hzs, hn] at hz; cases hz)
          rw [this, (hL.free y y0 y1 hn).2]
          rfl
        · exact hM.on y y0 y1 key hs
    · rw [hput y hy] at hk
      have hne := hother y y0 y1 hy k hk
      rw [seen_push_other hy, ← hM.on y y0 y1 k hk]
      by_cases hle : ep ≤ e
      · rw [hin hle, if_neg hne]
      · rw [hout hle]
  · have hne : k ≠ key := fun e => hk sh h0 h1 (by rw [hputs, e])
    have hoff := hM.off k (fun y y0 y1 hy => by
      by_cases e : y = sh
      · subst e
        rcases hK with hn | hs
        · rw [hn] at hy; cases hy
        · rw [hs] at hy; exact hne (bytes_inj (Option.some.inj hy)).symm
      · exact hk y y0 y1 (by rw [hput y e]; exact hy))
    by_cases hle : ep ≤ e
    · rw [hin hle, if_neg hne]; exact hoff
    · rw [hout hle]; exact hoff
/-- What a read tells is what the pairs have. -/
theorem ModI.read (hM : ModI s e K V N L) (hL : Laid a p s q v x D G K V N) (key : ByteArray) : (readK K V N (newF a p s q v x key) e).1 = (getD L key).isSome ∧ (readK K V N (newF a p s q v x key) e).2 = (getD L key).getD ⟨#[]⟩ := by
  have hds : (newF a p s q v x key).s = s := rfl
  have hdk : (newF a p s q v x key).key = key := rfl
  rcases findK_cases K (newF a p s q v x key) with ⟨h1, -, -, -, -⟩ | ⟨h1, y0, y1, hst⟩ | ⟨h1, -, -⟩
  · have hn : ∀ sh, 0 ≤ sh → sh < s → K sh ≠ some key.toList := fun sh h0 h2 hk => by
      have := (hL.own sh h0 h2 key hk).found.1
      rw [h1] at this; cases this
    have e1 : readK K V N (newF a p s q v x key) e = (false, ⟨#[]⟩) := by unfold readK; rw [if_neg (by rw [h1]; decide)]
    rw [e1, hM.off key hn]; exact ⟨rfl, rfl⟩
  · obtain ⟨j, j1, j2, j3, -⟩ := hst
    obtain ⟨sh, hsh⟩ : ∃ sh, (findK K (newF a p s q v x key) (newF a p s q v x key).s.toNat 0).1.sh = sh := ⟨_, rfl⟩
    rw [hsh] at y0 y1 j2
    have hk : K sh = some key.toList := by rw [j2]; exact j3
    have e1 : readK K V N (newF a p s q v x key) e = ((seenC (V sh) e (N sh)).1, (seenC (V sh) e (N sh)).2.1) := by unfold readK; rw [if_pos h1, hsh]
    rw [e1, hM.on sh y0 y1 key hk]
    unfold valOf
    cases hb : (seenC (V sh) e (N sh)).1 with
    | true => exact ⟨rfl, rfl⟩
    | false => exact ⟨rfl, seenC_txt _ _ _ hb⟩
  · have hn : ∀ sh, 0 ≤ sh → sh < s → K sh ≠ some key.toList := fun sh h0 h2 hk => by
      have := (hL.own sh h0 h2 key hk).found.1
      rw [h1] at this; cases this
    have e1 : readK K V N (newF a p s q v x key) e = (false, ⟨#[]⟩) := by unfold readK; rw [if_neg (by rw [h1]; decide)]
    rw [e1, hM.off key hn]; exact ⟨rfl, rfl⟩
end

end Go.Proofs.Ytpnfbabiibopnaa
