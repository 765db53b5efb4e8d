/-
  The control block of a config, and the keys that are put on its shelves; how many; what stands stays. Plain.
-/
import Derived.Test.YtdnjlpccopeagaaFmath
namespace Go.Proofs.Ytdnjlpccopeagaa
open Go Go.RowKit

def fieldD (n : Nat) : HpD := emptyD.add ⟨List.replicate n 0, ⟨#[]⟩, false⟩
theorem Field.start (d : FindR) {n : Nat} (hn : (n : Int) = sizeW d.a d.p d.s d.q d.v) : Field d (fieldD n) (fun _ => none) := by
  have hl : liveAt (fieldD n).L 1 = some ⟨List.replicate n 0, ⟨#[]⟩, false⟩ := rfl
  refine ⟨rfl, ⟨_, hl, by rw [← hn]; simp⟩, fun b hb => ?_, fun sh h0 h1 => ?_⟩
  · have hb' : b = ⟨List.replicate n 0, ⟨#[]⟩, false⟩ := by
      have : b ∈ [(⟨List.replicate n 0, ⟨#[]⟩, false⟩ : BlkD)] := hb
      simpa using this
    subst hb'
    exact ⟨fun w hw => by rw [List.eq_of_mem_replicate hw]; omega, by show (⟨#[]⟩ : ByteArray).size ≤ _; exact Nat.zero_le _⟩
  · show wordAt (fieldD n).L 1 _ = 0
    unfold wordAt
    rw [hl]
    show (List.replicate n (0 : Int)).getD _ 0 = 0
    rw [List.getD_eq_getElem?_getD, List.getElem?_replicate]
    split <;> rfl
/-- A shelf more has a key. -/
def Shelves.put (K : Shelves) (sh : Int) (t : List UInt8) : Shelves := fun x => if x = sh then some t else K x
def putD (D : HpD) (c : Int) (t : ByteArray) : HpD := storeD (makeD D 0 t) 1 c ((D.L.length + 1 : Nat) : Int)
section
variable {d : FindR} {D : HpD} {K : Shelves}
theorem makeD_zero (D : HpD) (t : ByteArray) : makeD D 0 t = D.add ⟨[], t, false⟩ := by
  unfold makeD
  rw [if_pos (by decide)]
  rfl
theorem putD_is (h : Field d D K) (hr : rightC d.a d.p d.s d.q d.v = true) {sh : Int} (h0 : 0 ≤ sh) (h1 : sh < d.s) (t : ByteArray) :
    ∃ b, liveAt D.L 1 = some b ∧ (b.ws.length : Int) = sizeW d.a d.p d.s d.q d.v ∧ spot (makeD D 0 t).L 1 (keyW d.a d.p d.s d.q d.v sh) = 0 ∧
      putD D (keyW d.a d.p d.s d.q d.v sh) t = ⟨(D.L ++ [(⟨[], t, false⟩ : BlkD)]).set 0 ⟨b.ws.set (keyW d.a d.p d.s d.q d.v sh).toNat ((D.L.length + 1 : Nat) : Int), b.text, false⟩, D.locked, D.faults⟩ := by
  obtain ⟨b, hb, hl⟩ := h.ctrl
  obtain ⟨-, k0, k1⟩ := keyW_in hr h0 h1
  have hlen := (liveAt_some hb).2.1
  have hb1 : liveAt (makeD D 0 t).L 1 = some b := by
    rw [makeD_zero]
    show liveAt (D.L ++ [_]) 1 = _
    rw [liveAt_snoc, if_neg (by omega), hb]
  have hsp : spot (makeD D 0 t).L 1 (keyW d.a d.p d.s d.q d.v sh) = 0 := by rw [spot_some hb1, if_neg (by omega)]
  refine ⟨b, hb, hl, hsp, ?_⟩
  unfold putD storeD
  rw [if_pos hsp]
  unfold HpD.word
  rw [hb1, makeD_zero]
  rfl
theorem putD_length (h : Field d D K) (hr : rightC d.a d.p d.s d.q d.v = true) {sh : Int} (h0 : 0 ≤ sh) (h1 : sh < d.s) (t : ByteArray) : (putD D (keyW d.a d.p d.s d.q d.v sh) t).L.length = D.L.length + 1 := by
  obtain ⟨b, -, -, -, e⟩ := putD_is h hr h0 h1 t
  rw [e]; simp
theorem Field.put (h : Field d D K) (hr : rightC d.a d.p d.s d.q d.v = true) {sh : Int} (h0 : 0 ≤ sh) (h1 : sh < d.s) {t : ByteArray} (ht : t.size ≤ 281474976710656) (hm : D.L.length ≤ 1000000) :
    Field d (putD D (keyW d.a d.p d.s d.q d.v sh) t) (K.put sh t.toList) := by
  obtain ⟨b, hb, hl, hsp, e⟩ := putD_is h hr h0 h1 t
  obtain ⟨ek, k0, k1⟩ := keyW_in hr h0 h1
  have hlen := (liveAt_some hb).2.1
  rw [e]
  have hL : ∀ k, liveAt ((D.L ++ [(⟨[], t, false⟩ : BlkD)]).set 0 ⟨b.ws.set (keyW d.a d.p d.s d.q d.v sh).toNat ((D.L.length + 1 : Nat) : Int), b.text, false⟩) k =
      if k = 1 then some ⟨b.ws.set (keyW d.a d.p d.s d.q d.v sh).toNat ((D.L.length + 1 : Nat) : Int), b.text, false⟩ else if k = D.L.length + 1 then some ⟨[], t, false⟩ else liveAt D.L k := fun k => by
    have := liveAt_set (D.L ++ [(⟨[], t, false⟩ : BlkD)]) 1 k ⟨b.ws.set (keyW d.a d.p d.s d.q d.v sh).toNat ((D.L.length + 1 : Nat) : Int), b.text, false⟩ (Nat.le_refl _) (by simp)
    rw [show (1 : Nat) - 1 = 0 from rfl] at this
    rw [this, liveAt_snoc]
    rfl
  have h1L := hL 1
  rw [if_pos rfl] at h1L
  refine ⟨h.faults, ⟨_, h1L, by rw [← hl]; simp⟩, fun x hx => ?_, fun x hx0 hx1 => ?_⟩
  · rcases List.mem_or_eq_of_mem_set hx with hx | rfl
    · rcases List.mem_append.1 hx with hx | hx
      · exact h.fine x hx
      · obtain rfl := List.mem_singleton.1 hx
        exact ⟨fun w hw => (by cases hw), ht⟩
    · have hbf := h.fine.at hb
      refine ⟨fun w hw => ?_, hbf.2⟩
      rcases List.mem_or_eq_of_mem_set hw with hw | rfl
      · exact hbf.1 w hw
      · omega
  · obtain ⟨ex, x0, x1⟩ := keyW_in hr hx0 hx1
    have hw : wordAt ((D.L ++ [(⟨[], t, false⟩ : BlkD)]).set 0 ⟨b.ws.set (keyW d.a d.p d.s d.q d.v sh).toNat ((D.L.length + 1 : Nat) : Int), b.text, false⟩) 1 (keyW d.a d.p d.s d.q d.v x) =
        if x = sh then ((D.L.length + 1 : Nat) : Int) else wordAt D.L 1 (keyW d.a d.p d.s d.q d.v x) := by
      unfold wordAt
      rw [h1L, hb]
      show (b.ws.set _ _).getD _ 0 = _
      rw [List.getD_eq_getElem?_getD]
      by_cases hxs : x = sh
      · subst hxs
        rw [if_pos rfl, List.getElem?_set_self (by omega)]; rfl
      · rw [if_neg hxs, List.getElem?_set_ne (by omega)]
        show _ = b.ws.getD _ 0
        rw [List.getD_eq_getElem?_getD]
    unfold Shelves.put
    by_cases hxs : x = sh
    · subst hxs
      simp only [if_pos]
      rw [hw, if_pos rfl]
      have hk := hL (D.L.length + 1)
      rw [if_neg (by omega), if_pos rfl] at hk
      exact ⟨D.L.length + 1, by omega, rfl, there_hit hk, by rw [textAt_hit hk]⟩
    · simp only [if_neg hxs]
      rw [hw, if_neg hxs]
      have := h.keys x hx0 hx1
      cases hK : K x with
      | none => rw [hK] at this; exact this
      | some u =>
        rw [hK] at this
        obtain ⟨k, a1, a2, a3, a4⟩ := this
        have hlive : ∃ y, liveAt D.L k = some y := by
          cases hy : liveAt D.L k with
          | none => rw [there_lost hy] at a3; rcases lost_nz D.L k with q | q <;> rw [q] at a3 <;> cases a3
          | some y => exact ⟨y, rfl⟩
        obtain ⟨y, hy⟩ := hlive
        have hk := hL k
        by_cases hk1 : k = 1
        · subst hk1
          rw [if_pos rfl] at hk
          refine ⟨1, a1, a2, there_hit hk, ?_⟩
          rw [textAt_hit hk]
          rw [textAt_hit hy] at a4
          rw [hb] at hy
          cases hy
          exact a4
        · rw [if_neg hk1, if_neg (by have := (liveAt_some hy).2.1; omega)] at hk
          refine ⟨k, a1, a2, ?_, ?_⟩
          · rw [there_hit (hk.trans hy)]
          · rw [textAt_hit (hk.trans hy)]
            rw [textAt_hit hy] at a4
            exact a4
theorem Field.few (h : Field d D K) {n : Nat} (hn : n ≤ 800000) (hm : D.L.length ≤ 1000) : FewD D n := ⟨by rw [h.faults]; omega, by omega, h.fine⟩
end

/-! ### how many shelves have keys -/
def cntK (K : Shelves) : Nat → Nat
  | 0 => 0
  | n + 1 => cntK K n + if (K n).isSome then 1 else 0
theorem cntK_none : ∀ n, cntK (fun _ => none) n = 0
  | 0 => rfl
  | n + 1 => by unfold cntK; rw [cntK_none n]; rfl
theorem cntK_all {K : Shelves} : ∀ n, (∀ i : Nat, i < n → (K i).isSome = true) → cntK K n = n
  | 0, _ => rfl
  | n + 1, h => by unfold cntK; rw [cntK_all n (fun i hi => h i (by omega)), h n (by omega), if_pos rfl]
theorem cntK_put_other {K : Shelves} {sh : Int} {t : List UInt8} : ∀ n : Nat, (n : Int) ≤ sh → cntK (K.put sh t) n = cntK K n
  | 0, _ => rfl
  | n + 1, h => by
    unfold cntK
    rw [cntK_put_other n (by omega)]
    have e : (K.put sh t) (n : Int) = K (n : Int) := by unfold Shelves.put; rw [if_neg (by omega)]
    rw [e]
theorem cntK_put {K : Shelves} {sh : Int} {t : List UInt8} (h0 : 0 ≤ sh) (hK : K sh = none) : ∀ n : Nat, sh < (n : Int) → cntK (K.put sh t) n = cntK K n + 1
  | 0, h => by omega
  | n + 1, h => by
    unfold cntK
    by_cases hn : sh < (n : Int)
    · rw [cntK_put h0 hK n hn]
      have e : (K.put sh t) (n : Int) = K (n : Int) := by unfold Shelves.put; rw [if_neg (by omega)]
      rw [e]; omega
    · have hsn : sh = (n : Int) := by omega
      subst hsn
      rw [cntK_put_other n (Int.le_refl _), hK]
      have e : (K.put (n : Int) t) (n : Int) = some t := by unfold Shelves.put; rw [if_pos rfl]
      rw [e]
      simp
theorem cntK_le (K : Shelves) : ∀ n, cntK K n ≤ n
  | 0 => Nat.le_refl _
  | n + 1 => by
    have := cntK_le K n
    unfold cntK
    split <;> omega
/-- A way goes by each shelf. -/
theorem way_all (d : FindR) {sh : Int} (h0 : 0 ≤ sh) (h1 : sh < d.s) : ∃ l : Nat, (l : Int) < d.s ∧ d.way l = sh := by
  have b0 := (startOf_bd d.n d.s).1
  have b1 := (startOf_bd d.n d.s).2.1 (by omega)
  by_cases hle : startOf d.n d.s ≤ sh
  · refine ⟨(sh - startOf d.n d.s).toNat, by omega, ?_⟩
    have e : (((sh - startOf d.n d.s).toNat : Nat) : Int) = sh - startOf d.n d.s := by omega
    rcases place_cases d.n d.s (sh - startOf d.n d.s).toNat (by omega) with ⟨q, _⟩ | ⟨q, _⟩
    · unfold FindR.way; rw [q]; omega
    · omega
  · refine ⟨(sh - startOf d.n d.s + d.s).toNat, by omega, ?_⟩
    rcases place_cases d.n d.s (sh - startOf d.n d.s + d.s).toNat (by omega) with ⟨q, _⟩ | ⟨q, _⟩
    · omega
    · unfold FindR.way; rw [q]; omega

/-! ### what stands stays -/
/-- The key stands on this shelf, and whoever comes by its way meets others ahead of it. -/
def Stands (K : Shelves) (d : FindR) (sh : Int) : Prop := ∃ j : Nat, (j : Int) < d.s ∧ sh = d.way j ∧ K (d.way j) = some d.key.toList ∧ ∀ l, l < j → Other K d l
def Shut (K : Shelves) (d : FindR) : Prop := ∀ l : Nat, (l : Int) < d.s → Other K d l
theorem Other.put {K : Shelves} {d : FindR} {l : Nat} (h : Other K d l) {sh : Int} (hK : K sh = none) (t : List UInt8) : Other (K.put sh t) d l := by
  obtain ⟨u, h1, h2⟩ := h
  refine ⟨u, ?_, h2⟩
  unfold Shelves.put
  rw [if_neg (fun e => by rw [e, hK] at h1; cases h1)]
  exact h1
theorem Stands.put {K : Shelves} {d : FindR} {x : Int} (h : Stands K d x) {sh : Int} (hK : K sh = none) (t : List UInt8) : Stands (K.put sh t) d x := by
  obtain ⟨j, h1, h2, h3, h4⟩ := h
  refine ⟨j, h1, h2, ?_, fun l hl => (h4 l hl).put hK t⟩
  unfold Shelves.put
  rw [if_neg (fun e => by rw [e, hK] at h3; cases h3)]
  exact h3
theorem Shut.put {K : Shelves} {d : FindR} (h : Shut K d) {sh : Int} (hK : K sh = none) (t : List UInt8) : Shut (K.put sh t) d := fun l hl => (h l hl).put hK t
/-- What is found there. -/
theorem Stands.found {K : Shelves} {d : FindR} {x : Int} (h : Stands K d x) : (findK K d d.s.toNat 0).1.k = 1 ∧ (findK K d d.s.toNat 0).1.sh = x := by
  obtain ⟨j, h1, h2, h3, h4⟩ := h
  rcases findK_says K d d.s.toNat 0 with ⟨_, i, _, q2, _, q4, q5⟩ | ⟨q0, i, _, q2, q3, q4, q5⟩ | ⟨_, _, q3⟩
  · rcases Nat.lt_trichotomy i j with hij | rfl | hij
    · obtain ⟨u, u1, _⟩ := h4 i hij; rw [q4] at u1; cases u1
    · rw [q4] at h3; cases h3
    · obtain ⟨u, u1, u2⟩ := q5 j (Nat.zero_le _) hij; rw [h3] at u1; cases u1; exact absurd rfl u2
  · refine ⟨q0, ?_⟩
    rcases Nat.lt_trichotomy i j with hij | rfl | hij
    · obtain ⟨u, u1, u2⟩ := h4 i hij; rw [q4] at u1; cases u1; exact absurd rfl u2
    · rw [q3, h2]
    · obtain ⟨u, u1, u2⟩ := q5 j (Nat.zero_le _) hij; rw [h3] at u1; cases u1; exact absurd rfl u2
  · obtain ⟨u, u1, u2⟩ := q3 j (Nat.zero_le _) (by omega); rw [h3] at u1; cases u1; exact absurd rfl u2
theorem Shut.found {K : Shelves} {d : FindR} (h : Shut K d) : (findK K d d.s.toNat 0).1.k = 3 ∧ (findK K d d.s.toNat 0).1.sh = 0 := by
  rcases findK_says K d d.s.toNat 0 with ⟨_, i, _, q2, _, q4, q5⟩ | ⟨q0, i, _, q2, q3, q4, q5⟩ | ⟨q1, q2, q3⟩
  · obtain ⟨u, u1, _⟩ := h i (by omega); rw [q4] at u1; cases u1
  · obtain ⟨u, u1, u2⟩ := h i (by omega); rw [q4] at u1; cases u1; exact absurd rfl u2
  · exact ⟨q1, q2⟩
/-- What a look comes to: the free shelf, its own one, or none; and what then stands. -/
theorem findK_cases (K : Shelves) (d : FindR) :
    ((findK K d d.s.toNat 0).1.k = 2 ∧ 0 ≤ (findK K d d.s.toNat 0).1.sh ∧ (findK K d d.s.toNat 0).1.sh < d.s ∧ K (findK K d d.s.toNat 0).1.sh = none ∧ Stands (K.put (findK K d d.s.toNat 0).1.sh d.key.toList) d (findK K d d.s.toNat 0).1.sh) ∨
    ((findK K d d.s.toNat 0).1.k = 1 ∧ 0 ≤ (findK K d d.s.toNat 0).1.sh ∧ (findK K d d.s.toNat 0).1.sh < d.s ∧ Stands K d (findK K d d.s.toNat 0).1.sh) ∨
    ((findK K d d.s.toNat 0).1.k = 3 ∧ (findK K d d.s.toNat 0).1.sh = 0 ∧ Shut K d) := by
  rcases findK_says K d d.s.toNat 0 with ⟨q0, i, _, q2, q3, q4, q5⟩ | ⟨q0, i, _, q2, q3, q4, q5⟩ | ⟨q1, q2, q3⟩
  · have hi : (i : Int) < d.s := by omega
    refine .inl ⟨q0, ?_⟩
    rw [q3]
    refine ⟨(way_in d hi).1, (way_in d hi).2, q4, i, hi, rfl, ?_, fun l hl => (q5 l (Nat.zero_le _) hl).put q4 _⟩
    unfold Shelves.put
    rw [if_pos rfl]
  · have hi : (i : Int) < d.s := by omega
    refine .inr (.inl ⟨q0, ?_⟩)
    rw [q3]
    exact ⟨(way_in d hi).1, (way_in d hi).2, i, hi, rfl, q4, fun l hl => q5 l (Nat.zero_le _) hl⟩
  · exact .inr (.inr ⟨q1, q2, fun l hl => q3 l (Nat.zero_le _) (by omega)⟩)
/-- Where none is free, each has a key. -/
theorem Shut.full {K : Shelves} {d : FindR} (h : Shut K d) (hs : 0 ≤ d.s) : (cntK K d.s.toNat : Int) = d.s := by
  have : cntK K d.s.toNat = d.s.toNat := cntK_all _ (fun i hi => by
    obtain ⟨l, hl, e⟩ := way_all d (sh := (i : Int)) (by omega) (by omega)
    obtain ⟨u, u1, _⟩ := h l hl
    rw [← e, u1]; rfl)
  omega
/-- A key that is put on the first shelf of its way is found there, by two acts. -/
theorem findK_first {K : Shelves} {d : FindR} (hs : 1 ≤ d.s) (h : K (d.way 0) = some d.key.toList) : (findK K d d.s.toNat 0).1.k = 1 ∧ (findK K d d.s.toNat 0).1.sh = d.way 0 ∧ (findK K d d.s.toNat 0).2 = 2 := by
  obtain ⟨m, hm⟩ : ∃ m, d.s.toNat = m + 1 := ⟨d.s.toNat - 1, by omega⟩
  rw [hm]
  unfold findK
  rw [h]
  dsimp only
  rw [if_pos rfl]
  exact ⟨rfl, rfl, rfl⟩
theorem findK_empty {d : FindR} (hs : 1 ≤ d.s) : (findK (fun _ => none) d d.s.toNat 0).1.k = 2 ∧ (findK (fun _ => none) d d.s.toNat 0).1.sh = d.way 0 ∧ (findK (fun _ => none) d d.s.toNat 0).2 = 1 := by
  obtain ⟨m, hm⟩ : ∃ m, d.s.toNat = m + 1 := ⟨d.s.toNat - 1, by omega⟩
  rw [hm]
  unfold findK
  exact ⟨rfl, rfl, rfl⟩

end Go.Proofs.Ytdnjlpccopeagaa
