/-
  Ffield, Chn, Chn2, Chnm, in one text.
-/
import Derived.Test.YtpnfbabiibopnaaQ08
import Derived.Test.YtpnfbabiibopnaaQ06
import Derived.Test.YtpnfbabiibopnaaQ03
import Derived.WalkMore
/-! The control block of a config, and the keys that are put on its shelves; how many; what stands stays. Plain. -/
namespace Go.Proofs.Ytpnfbabiibopnaa
open Go Go.RowKit

theorem Field.start (d : FindR) {n : Nat} (hn : (n : Int) = sizeW d.a d.p d.s d.q d.v) : Field d (fieldD n) (fun _ => none) := by
  have hl : liveAt (fieldD n).L 1 = some ⟨List.replicate n 0, ⟨#[]⟩, false⟩ := rfl
  refine ⟨rfl, ⟨_, hl, by rw [← hn]; simp⟩, fun b hb => ?_, fun sh h0 h1 => ?_⟩
  · have hb' : b = ⟨List.replicate n 0, ⟨#[]⟩, false⟩ := by
      have : b ∈ [(⟨List.replicate n 0, ⟨#[]⟩, false⟩ : BlkD)] := hb
      simpa using this
    subst hb'
    exact ⟨fun w hw => by rw [List.eq_of_mem_replicate hw]; omega, by show (⟨#[]⟩ : ByteArray).size ≤ _; exact Nat.zero_le _⟩
  · show wordAt (fieldD n).L 1 _ = 0
    unfold wordAt
    rw [hl]
    show (List.replicate n (0 : Int)).getD _ 0 = 0
    rw [List.getD_eq_getElem?_getD, List.getElem?_replicate]
    split <;> rfl
/-- A shelf more has a key. -/
def Shelves.put (K : Shelves) (sh : Int) (t : List UInt8) : Shelves := fun x => if x = sh then some t else K x
def putD (D : HpD) (c : Int) (t : ByteArray) : HpD := storeD (makeD D 0 t) 1 c ((D.L.length + 1 : Nat) : Int)
section
variable {d : FindR} {D : HpD} {K : Shelves}
theorem makeD_zero (D : HpD) (t : ByteArray) : makeD D 0 t = D.add ⟨[], t, false⟩ := by
  unfold makeD
  rw [if_pos (by decide)]
  rfl
theorem putD_is (h : Field d D K) (hr : rightC d.a d.p d.s d.q d.v = true) {sh : Int} (h0 : 0 ≤ sh) (h1 : sh < d.s) (t : ByteArray) :
    ∃ b, liveAt D.L 1 = some b ∧ (b.ws.length : Int) = sizeW d.a d.p d.s d.q d.v ∧ spot (makeD D 0 t).L 1 (keyW d.a d.p d.s d.q d.v sh) = 0 ∧
      putD D (keyW d.a d.p d.s d.q d.v sh) t = ⟨(D.L ++ [(⟨[], t, false⟩ : BlkD)]).set 0 ⟨b.ws.set (keyW d.a d.p d.s d.q d.v sh).toNat ((D.L.length + 1 : Nat) : Int), b.text, false⟩, D.locked, D.faults⟩ := by
  obtain ⟨b, hb, hl⟩ := h.ctrl
  obtain ⟨-, k0, k1⟩ := keyW_in hr h0 h1
  have hlen := (liveAt_some hb).2.1
  have hb1 : liveAt (makeD D 0 t).L 1 = some b := by
    rw [makeD_zero]
    show liveAt (D.L ++ [_]) 1 = _
    rw [liveAt_snoc, if_neg (by omega), hb]
  have hsp : spot (makeD D 0 t).L 1 (keyW d.a d.p d.s d.q d.v sh) = 0 := by rw [spot_some hb1, if_neg (by omega)]
  refine ⟨b, hb, hl, hsp, ?_⟩
  unfold putD storeD
  rw [if_pos hsp]
  unfold HpD.word
  rw [hb1, makeD_zero]
  rfl
theorem putD_length (h : Field d D K) (hr : rightC d.a d.p d.s d.q d.v = true) {sh : Int} (h0 : 0 ≤ sh) (h1 : sh < d.s) (t : ByteArray) : (putD D (keyW d.a d.p d.s d.q d.v sh) t).L.length = D.L.length + 1 := by
  obtain ⟨b, -, -, -, e⟩ := putD_is h hr h0 h1 t
  rw [e]; simp
theorem Field.put (h : Field d D K) (hr : rightC d.a d.p d.s d.q d.v = true) {sh : Int} (h0 : 0 ≤ sh) (h1 : sh < d.s) {t : ByteArray} (ht : t.size ≤ 281474976710656) (hm : D.L.length ≤ 1000000) :
    Field d (putD D (keyW d.a d.p d.s d.q d.v sh) t) (K.put sh t.toList) := by
  obtain ⟨b, hb, hl, hsp, e⟩ := putD_is h hr h0 h1 t
  obtain ⟨ek, k0, k1⟩ := keyW_in hr h0 h1
  have hlen := (liveAt_some hb).2.1
  rw [e]
  have hL : ∀ k, liveAt ((D.L ++ [(⟨[], t, false⟩ : BlkD)]).set 0 ⟨b.ws.set (keyW d.a d.p d.s d.q d.v sh).toNat ((D.L.length + 1 : Nat) : Int), b.text, false⟩) k =
      if k = 1 then some ⟨b.ws.set (keyW d.a d.p d.s d.q d.v sh).toNat ((D.L.length + 1 : Nat) : Int), b.text, false⟩ else if k = D.L.length + 1 then some ⟨[], t, false⟩ else liveAt D.L k := fun k => by
    have := liveAt_set (D.L ++ [(⟨[], t, false⟩ : BlkD)]) 1 k ⟨b.ws.set (keyW d.a d.p d.s d.q d.v sh).toNat ((D.L.length + 1 : Nat) : Int), b.text, false⟩ (Nat.le_refl _) (by simp)
    rw [show (1 : Nat) - 1 = 0 from rfl] at this
    rw [this, liveAt_snoc]
    rfl
  have h1L := hL 1
  rw [if_pos rfl] at h1L
  refine ⟨h.faults, ⟨_, h1L, by rw [← hl]; simp⟩, fun x hx => ?_, fun x hx0 hx1 => ?_⟩
  · rcases List.mem_or_eq_of_mem_set hx with hx | rfl
    · rcases List.mem_append.1 hx with hx | hx
      · exact h.fine x hx
      · obtain rfl := List.mem_singleton.1 hx
        exact ⟨fun w hw => (by cases hw), ht⟩
    · have hbf := h.fine.at hb
      refine ⟨fun w hw => ?_, hbf.2⟩
      rcases List.mem_or_eq_of_mem_set hw with hw | rfl
      · exact hbf.1 w hw
      · omega
  · obtain ⟨ex, x0, x1⟩ := keyW_in hr hx0 hx1
    have hw : wordAt ((D.L ++ [(⟨[], t, false⟩ : BlkD)]).set 0 ⟨b.ws.set (keyW d.a d.p d.s d.q d.v sh).toNat ((D.L.length + 1 : Nat) : Int), b.text, false⟩) 1 (keyW d.a d.p d.s d.q d.v x) =
        if x = sh then ((D.L.length + 1 : Nat) : Int) else wordAt D.L 1 (keyW d.a d.p d.s d.q d.v x) := by
      unfold wordAt
      rw [h1L, hb]
      show (b.ws.set _ _).getD _ 0 = _
      rw [List.getD_eq_getElem?_getD]
      by_cases hxs : x = sh
      · subst hxs
        rw [if_pos rfl, List.getElem?_set_self (by omega)]; rfl
      · rw [if_neg hxs, List.getElem?_set_ne (by omega)]
        show _ = b.ws.getD _ 0
        rw [List.getD_eq_getElem?_getD]
    unfold Shelves.put
    by_cases hxs : x = sh
    · subst hxs
      simp only [if_pos]
      rw [hw, if_pos rfl]
      have hk := hL (D.L.length + 1)
      rw [if_neg (by omega), if_pos rfl] at hk
      exact ⟨D.L.length + 1, by omega, rfl, there_hit hk, by rw [textAt_hit hk]⟩
    · simp only [if_neg hxs]
      rw [hw, if_neg hxs]
      have := h.keys x hx0 hx1
      cases hK : K x with
      | none => rw [hK] at this; exact this
      | some u =>
        rw [hK] at this
        obtain ⟨k, a1, a2, a3, a4⟩ := this
        have hlive : ∃ y, liveAt D.L k = some y := by
          cases hy : liveAt D.L k with
          | none => rw [there_lost hy] at a3; rcases lost_nz D.L k with q | q <;> rw [q] at a3 <;> cases a3
          | some y => exact ⟨y, rfl⟩
        obtain ⟨y, hy⟩ := hlive
        have hk := hL k
        by_cases hk1 : k = 1
        · subst hk1
          rw [if_pos rfl] at hk
          refine ⟨1, a1, a2, there_hit hk, ?_⟩
          rw [textAt_hit hk]
          rw [textAt_hit hy] at a4
          rw [hb] at hy
          cases hy
          exact a4
        · rw [if_neg hk1, if_neg (by have := (liveAt_some hy).2.1; omega)] at hk
          refine ⟨k, a1, a2, ?_, ?_⟩
          · rw [there_hit (hk.trans hy)]
          · rw [textAt_hit (hk.trans hy)]
            rw [textAt_hit hy] at a4
            exact a4
theorem Field.few (h : Field d D K) {n : Nat} (hn : n ≤ 800000) (hm : D.L.length ≤ 1000) : FewD D n := ⟨by rw [h.faults]; omega, by omega, h.fine⟩
end

/-! ### how many shelves have keys -/
def cntK (K : Shelves) : Nat → Nat
  | 0 => 0
  | n + 1 => cntK K n + if (K n).isSome then 1 else 0
theorem cntK_none : ∀ n, cntK (fun _ => none) n = 0
  | 0 => rfl
  | n + 1 => by unfold cntK; rw [cntK_none n]; rfl
theorem cntK_all {K : Shelves} : ∀ n, (∀ i : Nat, i < n → (K i).isSome = true) → cntK K n = n
  | 0, _ => rfl
  | n + 1, h => by unfold cntK; rw [cntK_all n (fun i hi => h i (by omega)), h n (by omega), if_pos rfl]
theorem cntK_put_other {K : Shelves} {sh : Int} {t : List UInt8} : ∀ n : Nat, (n : Int) ≤ sh → cntK (K.put sh t) n = cntK K n
  | 0, _ => rfl
  | n + 1, h => by
    unfold cntK
    rw [cntK_put_other n (by omega)]
    have e : (K.put sh t) (n : Int) = K (n : Int) := by unfold Shelves.put; rw [if_neg (by omega)]
    rw [e]
theorem cntK_put {K : Shelves} {sh : Int} {t : List UInt8} (h0 : 0 ≤ sh) (hK : K sh = none) : ∀ n : Nat, sh < (n : Int) → cntK (K.put sh t) n = cntK K n + 1
  | 0, h => by omega
  | n + 1, h => by
    unfold cntK
    by_cases hn : sh < (n : Int)
    · rw [cntK_put h0 hK n hn]
      have e : (K.put sh t) (n : Int) = K (n : Int) := by unfold Shelves.put; rw [if_neg (by omega)]
      rw [e]; omega
    · have hsn : sh = (n : Int) := by omega
      subst hsn
      rw [cntK_put_other n (Int.le_refl _), hK]
      have e : (K.put (n : Int) t) (n : Int) = some t := by unfold Shelves.put; rw [if_pos rfl]
      rw [e]
      simp
theorem cntK_le (K : Shelves) : ∀ n, cntK K n ≤ n
  | 0 => Nat.le_refl _
  | n + 1 => by
    have := cntK_le K n
    unfold cntK
    split <;> omega
/-- A way goes by each shelf. -/
theorem way_all (d : FindR) {sh : Int} (h0 : 0 ≤ sh) (h1 : sh < d.s) : ∃ l : Nat, (l : Int) < d.s ∧ d.way l = sh := by
  have b0 := (startOf_bd d.n d.s).1
  have b1 := (startOf_bd d.n d.s).2.1 (by omega)
  by_cases hle : startOf d.n d.s ≤ sh
  · refine ⟨(sh - startOf d.n d.s).toNat, by omega, ?_⟩
    have e : (((sh - startOf d.n d.s).toNat : Nat) : Int) = sh - startOf d.n d.s := by omega
    rcases place_cases d.n d.s (sh - startOf d.n d.s).toNat (by omega) with ⟨q, _⟩ | ⟨q, _⟩
    · unfold FindR.way; rw [q]; omega
    · omega
  · refine ⟨(sh - startOf d.n d.s + d.s).toNat, by omega, ?_⟩
    rcases place_cases d.n d.s (sh - startOf d.n d.s + d.s).toNat (by omega) with ⟨q, _⟩ | ⟨q, _⟩
    · omega
    · unfold FindR.way; rw [q]; omega

/-! ### what stands stays -/
/-- The key stands on this shelf, and whoever comes by its way meets others ahead of it. -/
def Stands (K : Shelves) (d : FindR) (sh : Int) : Prop := ∃ j : Nat, (j : Int) < d.s ∧ sh = d.way j ∧ K (d.way j) = some d.key.toList ∧ ∀ l, l < j → Other K d l
def Shut (K : Shelves) (d : FindR) : Prop := ∀ l : Nat, (l : Int) < d.s → Other K d l
theorem Other.put {K : Shelves} {d : FindR} {l : Nat} (h : Other K d l) {sh : Int} (hK : K sh = none) (t : List UInt8) : Other (K.put sh t) d l := by
  obtain ⟨u, h1, h2⟩ := h
  refine ⟨u, ?_, h2⟩
  unfold Shelves.put
  rw [if_neg (fun e => by rw [e, hK] at h1; cases h1)]
  exact h1
theorem Stands.put {K : Shelves} {d : FindR} {x : Int} (h : Stands K d x) {sh : Int} (hK : K sh = none) (t : List UInt8) : Stands (K.put sh t) d x := by
  obtain ⟨j, h1, h2, h3, h4⟩ := h
  refine ⟨j, h1, h2, ?_, fun l hl => (h4 l hl).put hK t⟩
  unfold Shelves.put
  rw [if_neg (fun e => by rw [e, hK] at h3; cases h3)]
  exact h3
theorem Shut.put {K : Shelves} {d : FindR} (h : Shut K d) {sh : Int} (hK : K sh = none) (t : List UInt8) : Shut (K.put sh t) d := fun l hl => (h l hl).put hK t
/-- What is found there. -/
theorem Stands.found {K : Shelves} {d : FindR} {x : Int} (h : Stands K d x) : (findK K d d.s.toNat 0).1.k = 1 ∧ (findK K d d.s.toNat 0).1.sh = x := by
  obtain ⟨j, h1, h2, h3, h4⟩ := h
  rcases findK_says K d d.s.toNat 0 with ⟨_, i, _, q2, _, q4, q5⟩ | ⟨q0, i, _, q2, q3, q4, q5⟩ | ⟨_, _, q3⟩
  · rcases Nat.lt_trichotomy i j with hij | rfl | hij
    · obtain ⟨u, u1, _⟩ := h4 i hij; rw [q4] at u1; cases u1
    · rw [q4] at h3; cases h3
    · obtain ⟨u, u1, u2⟩ := q5 j (Nat.zero_le _) hij; rw [h3] at u1; cases u1; exact absurd rfl u2
  · refine ⟨q0, ?_⟩
    rcases Nat.lt_trichotomy i j with hij | rfl | hij
    · obtain ⟨u, u1, u2⟩ := h4 i hij; rw [q4] at u1; cases u1; exact absurd rfl u2
    · rw [q3, h2]
    · obtain ⟨u, u1, u2⟩ := q5 j (Nat.zero_le _) hij; rw [h3] at u1; cases u1; exact absurd rfl u2
  · obtain ⟨u, u1, u2⟩ := q3 j (Nat.zero_le _) (by omega); rw [h3] at u1; cases u1; exact absurd rfl u2
theorem Shut.found {K : Shelves} {d : FindR} (h : Shut K d) : (findK K d d.s.toNat 0).1.k = 3 ∧ (findK K d d.s.toNat 0).1.sh = 0 := by
  rcases findK_says K d d.s.toNat 0 with ⟨_, i, _, q2, _, q4, q5⟩ | ⟨q0, i, _, q2, q3, q4, q5⟩ | ⟨q1, q2, q3⟩
  · obtain ⟨u, u1, _⟩ := h i (by omega); rw [q4] at u1; cases u1
  · obtain ⟨u, u1, u2⟩ := h i (by omega); rw [q4] at u1; cases u1; exact absurd rfl u2
  · exact ⟨q1, q2⟩
/-- What a look comes to: the free shelf, its own one, or none; and what then stands. -/
theorem findK_cases (K : Shelves) (d : FindR) :
    ((findK K d d.s.toNat 0).1.k = 2 ∧ 0 ≤ (findK K d d.s.toNat 0).1.sh ∧ (findK K d d.s.toNat 0).1.sh < d.s ∧ K (findK K d d.s.toNat 0).1.sh = none ∧ Stands (K.put (findK K d d.s.toNat 0).1.sh d.key.toList) d (findK K d d.s.toNat 0).1.sh) ∨
    ((findK K d d.s.toNat 0).1.k = 1 ∧ 0 ≤ (findK K d d.s.toNat 0).1.sh ∧ (findK K d d.s.toNat 0).1.sh < d.s ∧ Stands K d (findK K d d.s.toNat 0).1.sh) ∨
    ((findK K d d.s.toNat 0).1.k = 3 ∧ (findK K d d.s.toNat 0).1.sh = 0 ∧ Shut K d) := by
  rcases findK_says K d d.s.toNat 0 with ⟨q0, i, _, q2, q3, q4, q5⟩ | ⟨q0, i, _, q2, q3, q4, q5⟩ | ⟨q1, q2, q3⟩
  · have hi : (i : Int) < d.s := by omega
    refine .inl ⟨q0, ?_⟩
    rw [q3]
    refine ⟨(way_in d hi).1, (way_in d hi).2, q4, i, hi, rfl, ?_, fun l hl => (q5 l (Nat.zero_le _) hl).put q4 _⟩
    unfold Shelves.put
    rw [if_pos rfl]
  · have hi : (i : Int) < d.s := by omega
    refine .inr (.inl ⟨q0, ?_⟩)
    rw [q3]
    exact ⟨(way_in d hi).1, (way_in d hi).2, i, hi, rfl, q4, fun l hl => q5 l (Nat.zero_le _) hl⟩
  · exact .inr (.inr ⟨q1, q2, fun l hl => q3 l (Nat.zero_le _) (by omega)⟩)
/-- Where none is free, each has a key. -/
theorem Shut.full {K : Shelves} {d : FindR} (h : Shut K d) (hs : 0 ≤ d.s) : (cntK K d.s.toNat : Int) = d.s := by
  have : cntK K d.s.toNat = d.s.toNat := cntK_all _ (fun i hi => by
    obtain ⟨l, hl, e⟩ := way_all d (sh := (i : Int)) (by omega) (by omega)
    obtain ⟨u, u1, _⟩ := h l hl
    rw [← e, u1]; rfl)
  omega
/-- A key that is put on the first shelf of its way is found there, by two acts. -/
theorem findK_first {K : Shelves} {d : FindR} (hs : 1 ≤ d.s) (h : K (d.way 0) = some d.key.toList) : (findK K d d.s.toNat 0).1.k = 1 ∧ (findK K d d.s.toNat 0).1.sh = d.way 0 ∧ (findK K d d.s.toNat 0).2 = 2 := by
  obtain ⟨m, hm⟩ : ∃ m, d.s.toNat = m + 1 := ⟨d.s.toNat - 1, by omega⟩
  rw [hm]
  unfold findK
  rw [h]
  dsimp only
  rw [if_pos rfl]
  exact ⟨rfl, rfl, rfl⟩
theorem findK_empty {d : FindR} (hs : 1 ≤ d.s) : (findK (fun _ => none) d d.s.toNat 0).1.k = 2 ∧ (findK (fun _ => none) d d.s.toNat 0).1.sh = d.way 0 ∧ (findK (fun _ => none) d d.s.toNat 0).2 = 1 := by
  obtain ⟨m, hm⟩ : ∃ m, d.s.toNat = m + 1 := ⟨d.s.toNat - 1, by omega⟩
  rw [hm]
  unfold findK
  exact ⟨rfl, rfl, rfl⟩

end Go.Proofs.Ytpnfbabiibopnaa

/-! chain's routine: what it does next, and where it stands behind an answer; its methods. -/
namespace Go.Proofs.Ytpnfbabiibopnaa
open Go Go.RowKit
attribute [local go_sem ↓] Go.wp_at_zero Go.wp_at_succ

/-- A chain that is read: the shelf's cell, the epoch, what is asked next (1 to 5; 6: nothing more), how many were passed, what was read. -/
structure ChnD where
  head : Int
  ep : Int
  asks : Nat
  passed : Int
  has : Bool
  text : ByteArray
  block : Nat
def ChnD.fits (v : ChnD) : Prop := (-9223372036854775808 ≤ v.head ∧ v.head ≤ 9223372036854775807) ∧ (0 ≤ v.ep ∧ v.ep < 18446744073709551616) ∧ (1 ≤ v.asks ∧ v.asks ≤ 6) ∧ (-9223372036854775808 ≤ v.passed ∧ v.passed ≤ 9223372036854775807) ∧ v.block < 18446744073709551616
def loadC (b : Nat) (c : Int) : ActD := ⟨1, b, c, 0, 0, ⟨#[]⟩⟩
def textC (b : Nat) : ActD := ⟨6, b, 0, 0, 0, ⟨#[]⟩⟩
def nextC (v : ChnD) : Option ActD := match v.asks with
  | 1 => some (loadC 1 v.head)
  | 2 => some (loadC v.block 0)
  | 3 => some (loadC v.block 1)
  | 4 => some (loadC v.block 2)
  | 5 => some (textC v.block)
  | _ => none
def anyC (w : Int) (n : Nat) : Nat := if w = 0 then 6 else n
def takeC (v : ChnD) (w : Int) (t : ByteArray) : ChnD := match v.asks with
  | 1 => ⟨v.head, v.ep, anyC w 2, v.passed, v.has, v.text, w.toNat⟩
  | 2 => ⟨v.head, v.ep, if v.ep < w then 3 else 4, v.passed, v.has, v.text, v.block⟩
  | 3 => ⟨v.head, v.ep, anyC w 2, wrap64 (v.passed + 1), v.has, v.text, w.toNat⟩
  | 4 => ⟨v.head, v.ep, anyC w 5, v.passed, !(w == 0), v.text, v.block⟩
  | 5 => ⟨v.head, v.ep, 6, v.passed, v.has, t, v.block⟩
  | _ => v
theorem loadC_fits {b : Nat} {c : Int} (hb : b < 18446744073709551616) (hc : -9223372036854775808 ≤ c ∧ c ≤ 9223372036854775807) : (loadC b c).fits := by
  have he : (⟨#[]⟩ : ByteArray).size = 0 := rfl
  unfold ActD.fits loadC; simp only; omega
theorem textC_fits {b : Nat} (hb : b < 18446744073709551616) : (textC b).fits := by
  have he : (⟨#[]⟩ : ByteArray).size = 0 := rfl
  unfold ActD.fits textC; simp only; omega
theorem nextC_fits {v : ChnD} {x : ActD} (hv : v.fits) (h : nextC v = some x) : x.fits ∧ (x.kind = 1 ∨ x.kind = 6) := by
  obtain ⟨h1, h2, h3, h4, h5⟩ := hv
  unfold nextC at h
  split at h
  · cases h; exact ⟨loadC_fits (by omega) h1, .inl rfl⟩
  · cases h; exact ⟨loadC_fits h5 (by omega), .inl rfl⟩
  · cases h; exact ⟨loadC_fits h5 (by omega), .inl rfl⟩
  · cases h; exact ⟨loadC_fits h5 (by omega), .inl rfl⟩
  · cases h; exact ⟨textC_fits h5, .inr rfl⟩
  · cases h
theorem wrap_i64_in (a : Int) : -9223372036854775808 ≤ wrap64 a ∧ wrap64 a ≤ 9223372036854775807 := by
  unfold wrap64; omega
theorem anyC_in (w : Int) {n : Nat} (hn : 1 ≤ n ∧ n ≤ 6) : 1 ≤ anyC w n ∧ anyC w n ≤ 6 := by
  unfold anyC; split <;> omega
theorem takeC_fits {v : ChnD} {w : Int} {t : ByteArray} (hv : v.fits) (hw : 0 ≤ w ∧ w < 18446744073709551616) : (takeC v w t).fits := by
  obtain ⟨h1, h2, h3, h4, h5⟩ := hv
  unfold takeC
  split
  · exact ⟨h1, h2, anyC_in w (by omega), h4, by show w.toNat < _; omega⟩
  · exact ⟨h1, h2, by show 1 ≤ (if v.ep < w then 3 else 4) ∧ (if v.ep < w then 3 else 4) ≤ 6; split <;> omega, h4, h5⟩
  · exact ⟨h1, h2, anyC_in w (by omega), wrap_i64_in _, by show w.toNat < _; omega⟩
  · exact ⟨h1, h2, anyC_in w (by omega), h4, h5⟩
  · exact ⟨h1, h2, by show 1 ≤ 6 ∧ 6 ≤ 6; omega, h4, h5⟩
  · exact ⟨h1, h2, h3, h4, h5⟩

/-! ### in memory -/
abbrev chnC (v : ChnD) : Array Value := #[.int .i64 v.head, .int .u64 v.ep, .int .i64 (v.asks : Int), .int .i64 v.passed, .bool v.has, .string v.text, .int .u64 (v.block : Int)]
abbrev chnO (v : ChnD) : Obj := .cells (chnC v) 136 (0, 0)
section
variable {X : World} {r : Nat} {v : ChnD}
theorem chn_at (h : X.heap[r]? = some (chnO v)) :
    X.cell? ⟨r, 0, none⟩ = some (.int .i64 v.head) ∧ X.cell? ⟨r, 1, none⟩ = some (.int .u64 v.ep) ∧ X.cell? ⟨r, 2, none⟩ = some (.int .i64 (v.asks : Int)) ∧ X.cell? ⟨r, 3, none⟩ = some (.int .i64 v.passed) ∧ X.cell? ⟨r, 4, none⟩ = some (.bool v.has) ∧ X.cell? ⟨r, 5, none⟩ = some (.string v.text) ∧ X.cell? ⟨r, 6, none⟩ = some (.int .u64 (v.block : Int)) :=
  ⟨(cell_of h).trans rfl, (cell_of h).trans rfl, (cell_of h).trans rfl, (cell_of h).trans rfl, (cell_of h).trans rfl, (cell_of h).trans rfl, (cell_of h).trans rfl⟩
theorem chn_free (h : X.heap[r]? = some (chnO v)) (i : Nat) : X.frozen? ⟨r, i, none⟩ = false := by simp [World.frozen?, h]
end

/-! ### Act -/
theorem cload_any (W : World) (b : Nat) (c : Int) : Calls Try.prog 61 #[.int .u64 (b : Int), .int .i64 c] W fun e W' => e = .returned (actOf (loadC b c)) ∧ Below W.heap.size W W' := by
  have HN := Lib.hid (World.alloc_heap_new W noO)
  obtain ⟨z0, z1, z2, z3, z4, z5⟩ := six_free HN.out
  obtain ⟨m0, m1, m2, m3, m4, m5⟩ := six_at HN.out
  go_enter Try.func61, Try.ntmps61
  go_wp2_with fail
  refine bodyPost_ret (v := actOf (loadC b c)) (by rw [results_cell1 (by rfl)]; go_simp; exact ⟨rfl, rfl, rfl, rfl, rfl, rfl⟩) rfl ⟨rfl, ?_⟩
  exact below_alloc _ _

def CactE (y : ActD) (q : Bool) (W : World) (e : Ending) (W' : World) : Prop := e = .returned (.tuple #[actOf y, .bool q]) ∧ Below W.heap.size W W'
theorem cact_end {W X : World} {n : Nat} {x : ActD} {is : Bool} {T : Array Value} (h : X.heap[n]? = some (.cells (actCells x) 59 (0, 0))) (hb : Below W.heap.size W X) (h2 : T.getD 2 undef = .pointer (some ⟨n, 0, none⟩)) (h3 : T.getD 3 undef = .bool is) :
    bodyPost Try.prog Try.f38 (CactE x is W) .ret { tmps := T, defers := [] } X :=
  bodyPost_ret (v := .tuple #[actOf x, .bool is]) (by rw [results_cell2 (by rfl), h2, h3]; simp only [asAddr, Sem.run_pure, Result.andThen_ok, load_act h]) rfl ⟨rfl, hb⟩
theorem cact_mid {W w1 : World} (HN : (W.alloc noO).heap[W.heap.size]? = some noO) (hb : Below (W.alloc noO).heap.size (W.alloc noO) w1) :
    w1.heap[W.heap.size]? = some noO ∧ Below W.heap.size W w1 :=
  ⟨(hb.block _ (heap_at_lt HN)).trans HN, (below_alloc W noO).trans (hb.mono (below_alloc W noO).size)⟩

set_option maxRecDepth 100000 in
set_option maxHeartbeats 4000000 in
theorem cact_any (W : World) {r : Nat} {v : ChnD} (h : W.heap[r]? = some (chnO v)) (hv : v.fits) :
    Calls Try.prog 38 #[.pointer (some ⟨r, 0, none⟩)] W (CactE ((nextC v).getD noAct) (nextC v).isSome W) := by
  have HB := Lib.hid (below_alloc W noO)
  have HN := Lib.hid (World.alloc_heap_new W noO)
  obtain ⟨c0, c1, c2, c3, c4, c5, c6⟩ := chn_at ((HB.out.block r (heap_at_lt h)).trans h)
  have hp := hv.2.2.1
  have HL := Lib.hid (fun (X : World) (b : Nat) (c : Int) => cload_any X b c)
  obtain ⟨hd, ep, ak, pa, hs, tx, bl⟩ := v
  simp only at c0 c1 c2 c3 c4 c5 c6 hp
  have hne : W.heap.size ≠ r := by have := heap_at_lt h; omega
  clear h hv
  have h6 : ak = 1 ∨ ak = 2 ∨ ak = 3 ∨ ak = 4 ∨ ak = 5 ∨ ak = 6 := by omega
  clear hp
  rcases h6 with rfl | rfl | rfl | rfl | rfl | rfl
  · show Calls _ _ _ _ (CactE (loadC 1 hd) true W)
    go_enter Try.func38, Try.ntmps38
    go_wp2_with fail
    refine (HL.out _ 1 hd).mono ?_
    rintro en w1 ⟨rfl, hb⟩
    obtain ⟨h1, hb1⟩ := cact_mid HN.out hb
    have HB1 := Lib.hid hb1
    have H1 := Lib.hid h1
    obtain ⟨z0, z1, z2, z3, z4, z5⟩ := six_free h1
    obtain ⟨m0, m1, m2, m3, m4, m5⟩ := six_at h1
    clear hb h1 hb1 c0 c1 c2 c3 c4 c5 c6
    go_wp2_with fail
    exact cact_end (set6 H1.out _ _ _ _ _ _) (below6 HB1.out (Nat.le_refl _) _ _ _ _ _ _) rfl rfl
  · show Calls _ _ _ _ (CactE (loadC bl 0) true W)
    go_enter Try.func38, Try.ntmps38
    go_wp2_with fail
    refine (HL.out _ bl 0).mono ?_
    rintro en w1 ⟨rfl, hb⟩
    obtain ⟨h1, hb1⟩ := cact_mid HN.out hb
    have HB1 := Lib.hid hb1
    have H1 := Lib.hid h1
    obtain ⟨z0, z1, z2, z3, z4, z5⟩ := six_free h1
    obtain ⟨m0, m1, m2, m3, m4, m5⟩ := six_at h1
    clear hb h1 hb1 c0 c1 c2 c3 c4 c5 c6
    go_wp2_with fail
    exact cact_end (set6 H1.out _ _ _ _ _ _) (below6 HB1.out (Nat.le_refl _) _ _ _ _ _ _) rfl rfl
  · show Calls _ _ _ _ (CactE (loadC bl 1) true W)
    go_enter Try.func38, Try.ntmps38
    go_wp2_with fail
    refine (HL.out _ bl 1).mono ?_
    rintro en w1 ⟨rfl, hb⟩
    obtain ⟨h1, hb1⟩ := cact_mid HN.out hb
    have HB1 := Lib.hid hb1
    have H1 := Lib.hid h1
    obtain ⟨z0, z1, z2, z3, z4, z5⟩ := six_free h1
    obtain ⟨m0, m1, m2, m3, m4, m5⟩ := six_at h1
    clear hb h1 hb1 c0 c1 c2 c3 c4 c5 c6
    go_wp2_with fail
    exact cact_end (set6 H1.out _ _ _ _ _ _) (below6 HB1.out (Nat.le_refl _) _ _ _ _ _ _) rfl rfl
  · show Calls _ _ _ _ (CactE (loadC bl 2) true W)
    go_enter Try.func38, Try.ntmps38
    go_wp2_with fail
    refine (HL.out _ bl 2).mono ?_
    rintro en w1 ⟨rfl, hb⟩
    obtain ⟨h1, hb1⟩ := cact_mid HN.out hb
    have HB1 := Lib.hid hb1
    have H1 := Lib.hid h1
    obtain ⟨z0, z1, z2, z3, z4, z5⟩ := six_free h1
    obtain ⟨m0, m1, m2, m3, m4, m5⟩ := six_at h1
    clear hb h1 hb1 c0 c1 c2 c3 c4 c5 c6
    go_wp2_with fail
    exact cact_end (set6 H1.out _ _ _ _ _ _) (below6 HB1.out (Nat.le_refl _) _ _ _ _ _ _) rfl rfl
  · show Calls _ _ _ _ (CactE (textC bl) true W)
    obtain ⟨z0, z1, z2, z3, z4, z5⟩ := six_free HN.out
    obtain ⟨m0, m1, m2, m3, m4, m5⟩ := six_at HN.out
    go_enter Try.func38, Try.ntmps38
    go_wp2_with fail
    refine bodyPost_ret (v := .tuple #[actOf (textC bl), .bool true]) (by rw [results_cell2 (by rfl)]; go_simp; exact ⟨rfl, rfl, rfl, rfl, rfl, rfl⟩) rfl ⟨rfl, ?_⟩
    exact below_alloc _ _
  · show Calls _ _ _ _ (CactE noAct false W)
    obtain ⟨z0, z1, z2, z3, z4, z5⟩ := six_free HN.out
    obtain ⟨m0, m1, m2, m3, m4, m5⟩ := six_at HN.out
    go_enter Try.func38, Try.ntmps38
    go_wp2_with fail
    refine bodyPost_ret (v := .tuple #[actOf noAct, .bool false]) (by rw [results_cell2 (by rfl)]; go_simp; exact ⟨rfl, rfl, rfl, rfl, rfl, rfl⟩) rfl ⟨rfl, ?_⟩
    exact HB.out
set_option maxRecDepth 100000 in
set_option maxHeartbeats 800000 in
/-- No routine. -/
theorem cact_nil (W : World) : Calls Try.prog 38 #[.pointer none] W (CactE noAct false W) := by
  have HB := Lib.hid (below_alloc W noO)
  have HN := Lib.hid (World.alloc_heap_new W noO)
  obtain ⟨z0, z1, z2, z3, z4, z5⟩ := six_free HN.out
  obtain ⟨m0, m1, m2, m3, m4, m5⟩ := six_at HN.out
  go_enter Try.func38, Try.ntmps38
  go_wp2_with fail
  refine bodyPost_ret (v := .tuple #[actOf noAct, .bool false]) (by rw [results_cell2 (by rfl)]; go_simp; exact ⟨rfl, rfl, rfl, rfl, rfl, rfl⟩) rfl ⟨rfl, ?_⟩
  exact HB.out

end Go.Proofs.Ytpnfbabiibopnaa

/-! chain's routine: Take, Result, Passed, New. -/
namespace Go.Proofs.Ytpnfbabiibopnaa
open Go Go.RowKit
attribute [local go_sem ↓] Go.wp_at_zero Go.wp_at_succ

theorem ifany_any (X : World) (w : Int) (n : Nat) : Calls Try.prog 100 #[.int .u64 w, .int .i64 (n : Int)] X fun e X' => e = .returned (.int .i64 (anyC w n : Nat)) ∧ X' = X := by
  by_cases h : w = 0
  · subst h
    go_enter Try.func100, Try.ntmps100
    go_wp2_with fail
    go_ret
    exact ⟨rfl, rfl⟩
  · have hb : (w == 0) = false := by simpa using h
    have e : anyC w n = n := if_neg h
    rw [e]
    clear h e
    go_enter Try.func100, Try.ntmps100
    go_wp2_with fail
    go_ret
    exact ⟨rfl, rfl⟩

/-! ### Take -/
def CtakeE (v : ChnD) (r : Nat) (W : World) (e : Ending) (W' : World) : Prop := e = .returned (.tuple #[]) ∧ W'.heap[r]? = some (chnO v) ∧ Step (fun k => k = r) (fun k => k = r) W W'
/-- In the middle of Take. -/
structure CMid (W : World) (r : Nat) (v : ChnD) (w : Int) (t : ByteArray) (X : World) : Prop where
  own : X.heap[r]? = some (chnO v)
  got : X.heap[W.heap.size]? = some (gotO w t)
  ne : W.heap.size ≠ r
  st : Step (fun k => k = r) (fun k => k = r) W X
section
variable {W X Y : World} {r : Nat} {v : ChnD} {w : Int} {t : ByteArray}
theorem CMid.below (h : CMid W r v w t X) (hb : Below X.heap.size X Y) : CMid W r v w t Y :=
  ⟨(hb.block _ (heap_at_lt h.own)).trans h.own, (hb.block _ (heap_at_lt h.got)).trans h.got, h.ne, h.st.trans (Step.of_below hb)⟩
theorem CMid.set (h : CMid W r v w t X) (i : Nat) (u : Value) {v' : ChnD} (e : (chnC v).setIfInBounds i u = chnC v') : CMid W r v' w t (X.setCell ⟨r, i, none⟩ u) :=
  ⟨(heap_setAt h.own).trans (by rw [e]), (Below.heap_setCell _ _ _ _ h.ne).trans h.got, h.ne, h.st.trans (Step.setCell u rfl)⟩
theorem CMid.end (h : CMid W r v w t X) : CtakeE v r W (.returned (.tuple #[])) X := ⟨rfl, h.own, h.st⟩
end

set_option maxRecDepth 100000 in
set_option maxHeartbeats 4000000 in
theorem ctake_any (W : World) {r : Nat} {v : ChnD} (h : W.heap[r]? = some (chnO v)) (hv : v.fits) (hs : (nextC v).isSome = true) (w : Int) (t : ByteArray) (hg : Good w t) :
    Calls Try.prog 95 #[.pointer (some ⟨r, 0, none⟩), gotV w t] W (CtakeE (takeC v w t) r W) := by
  have HM := Lib.hid (show CMid W r v w t (W.alloc (gotO w t)) from ⟨((below_alloc W _).block r (heap_at_lt h)).trans h, World.alloc_heap_new W _, by have := heap_at_lt h; omega, Step.of_below (below_alloc W _)⟩)
  have HI := Lib.hid (fun (X : World) (n : Nat) => ifany_any X w n)
  have HC := Lib.hid (fun (X : World) => clone_any t X hg.2)
  have hw0 := hg.1.1
  obtain ⟨g0, g1⟩ := two_at HM.out.got
  obtain ⟨c0, c1, c2, c3, c4, c5, c6⟩ := chn_at HM.out.own
  have zz := chn_free HM.out.own
  have z2 := zz 2
  have z3 := zz 3
  have z4 := zz 4
  have z5 := zz 5
  have z6 := zz 6
  have hp := hv.2.2.1
  have hep := hv.2.1
  have hps := hv.2.2.2.1
  obtain ⟨hd, ep, ak, pa, has, tx, bl⟩ := v
  simp only at c0 c1 c2 c3 c4 c5 c6 hp hep hps
  have h5 : ak = 1 ∨ ak = 2 ∨ ak = 3 ∨ ak = 4 ∨ ak = 5 := by
    have : ak ≠ 6 := fun e => by subst e; cases hs
    omega
  have ewt : ((w.toNat : Nat) : Int) = w := by omega
  clear h hv hs hg zz hp
  rcases h5 with rfl | rfl | rfl | rfl | rfl
  · show Calls _ _ _ _ (CtakeE ⟨hd, ep, anyC w 2, pa, has, tx, w.toNat⟩ r W)
    have HA := Lib.hid (show CMid W r ⟨hd, ep, 1, pa, has, tx, w.toNat⟩ w t ((W.alloc (gotO w t)).setCell ⟨r, 6, none⟩ (.int .u64 w)) from HM.out.set 6 _ (by rw [← ewt]; rfl))
    go_enter Try.func95, Try.ntmps95
    go_wp2_with fail
    refine (HI.out _ 2).mono ?_
    rintro en w1 ⟨rfl, rfl⟩
    have HF := Lib.hid ((HA.out.set 2 (.int .i64 ((anyC w 2 : Nat) : Int)) (v' := ⟨hd, ep, anyC w 2, pa, has, tx, w.toNat⟩) rfl).end)
    generalize ((anyC w 2 : Nat) : Int) = k at HF ⊢
    go_wp2_with fail
    go_end0
    exact HF.out
  · show Calls _ _ _ _ (CtakeE ⟨hd, ep, if ep < w then 3 else 4, pa, has, tx, bl⟩ r W)
    have HA := Lib.hid (show CMid W r ⟨hd, ep, 4, pa, has, tx, bl⟩ w t ((W.alloc (gotO w t)).setCell ⟨r, 2, none⟩ (.int .i64 4)) from HM.out.set 2 _ rfl)
    by_cases hl : ep < w
    · rw [if_pos hl]
      go_enter Try.func95, Try.ntmps95
      go_wp2_with fail
      generalize (W.alloc (gotO w t)).setCell ⟨r, 2, none⟩ (.int .i64 4) = w1 at HA ⊢
      clear g0 g1 c0 c1 c2 c3 c4 c5 c6 z2 z3 z4 z5 z6
      obtain ⟨g0, g1⟩ := two_at HA.out.got
      obtain ⟨c0, c1, c2, c3, c4, c5, c6⟩ := chn_at HA.out.own
      go_quiet (fail)
      rename Nat => nq
      have HB := Lib.hid (HA.out.below (below_draws w1 nq))
      generalize w1.drewN nq = w2 at HB ⊢
      have z2 := chn_free HB.out.own 2
      have c2 := (chn_at HB.out.own).2.2.1
      have HF := Lib.hid ((HB.out.set 2 (.int .i64 3) (v' := ⟨hd, ep, 3, pa, has, tx, bl⟩) rfl).end)
      go_wp2_with fail
      go_end0
      exact HF.out
    · rw [if_neg hl]
      go_enter Try.func95, Try.ntmps95
      go_wp2_with fail
      generalize (W.alloc (gotO w t)).setCell ⟨r, 2, none⟩ (.int .i64 4) = w1 at HA ⊢
      clear g0 g1 c0 c1 c2 c3 c4 c5 c6 z2 z3 z4 z5 z6
      obtain ⟨g0, g1⟩ := two_at HA.out.got
      obtain ⟨c0, c1, c2, c3, c4, c5, c6⟩ := chn_at HA.out.own
      go_quiet (fail)
      rename Nat => nq
      have HB := Lib.hid (HA.out.below (below_draws w1 nq))
      generalize w1.drewN nq = w2 at HB ⊢
      have HF := Lib.hid HB.out.end
      go_wp2_with fail
      go_end0
      exact HF.out
  · show Calls _ _ _ _ (CtakeE ⟨hd, ep, anyC w 2, wrap64 (pa + 1), has, tx, w.toNat⟩ r W)
    obtain ⟨pw, hpw⟩ : ∃ z, wrap64 (pa + 1) = z := ⟨_, rfl⟩
    rw [hpw]
    have HA := Lib.hid (show CMid W r ⟨hd, ep, 3, pw, has, tx, w.toNat⟩ w t (((W.alloc (gotO w t)).setCell ⟨r, 3, none⟩ (.int .i64 pw)).setCell ⟨r, 6, none⟩ (.int .u64 w)) from (HM.out.set 3 (.int .i64 pw) (v' := ⟨hd, ep, 3, pw, has, tx, bl⟩) rfl).set 6 _ (by rw [← ewt]; rfl))
    go_enter Try.func95, Try.ntmps95
    go_wp2_with fail
    refine (HI.out _ 2).mono ?_
    rintro en w1 ⟨rfl, rfl⟩
    have HF := Lib.hid ((HA.out.set 2 (.int .i64 ((anyC w 2 : Nat) : Int)) (v' := ⟨hd, ep, anyC w 2, pw, has, tx, w.toNat⟩) rfl).end)
    generalize ((anyC w 2 : Nat) : Int) = k at HF ⊢
    go_wp2_with fail
    go_end0
    exact HF.out
  · show Calls _ _ _ _ (CtakeE ⟨hd, ep, anyC w 5, pa, !(w == 0), tx, bl⟩ r W)
    obtain ⟨hb, hhb⟩ : ∃ z, (!(w == 0)) = z := ⟨_, rfl⟩
    have hhb2 : (w != 0) = hb := hhb
    rw [hhb]
    have HA := Lib.hid (show CMid W r ⟨hd, ep, 4, pa, hb, tx, bl⟩ w t ((W.alloc (gotO w t)).setCell ⟨r, 4, none⟩ (.bool hb)) from HM.out.set 4 _ rfl)
    go_enter Try.func95, Try.ntmps95
    go_wp2_with fail
    refine (HI.out _ 5).mono ?_
    rintro en w1 ⟨rfl, rfl⟩
    have HF := Lib.hid ((HA.out.set 2 (.int .i64 ((anyC w 5 : Nat) : Int)) (v' := ⟨hd, ep, anyC w 5, pa, hb, tx, bl⟩) rfl).end)
    generalize ((anyC w 5 : Nat) : Int) = k at HF ⊢
    go_wp2_with fail
    go_end0
    exact HF.out
  · show Calls _ _ _ _ (CtakeE ⟨hd, ep, 6, pa, has, t, bl⟩ r W)
    go_enter Try.func95, Try.ntmps95
    go_wp2_with fail
    refine (HC.out _).mono ?_
    rintro en w1 ⟨rfl, hb⟩
    have HA := Lib.hid (HM.out.below hb)
    have HF := Lib.hid (((HA.out.set 5 (.string t) (v' := ⟨hd, ep, 5, pa, has, t, bl⟩) rfl).set 2 (.int .i64 6) (v' := ⟨hd, ep, 6, pa, has, t, bl⟩) rfl).end)
    clear g0 g1 c0 c1 c2 c3 c4 c5 c6 z2 z3 z4 z5 z6 hb
    obtain ⟨c0, c1, c2, c3, c4, c5, c6⟩ := chn_at HA.out.own
    have z5 := chn_free HA.out.own 5
    have z2 := chn_free HA.out.own 2
    go_wp2_with fail
    go_end0
    exact HF.out

/-! ### Result, Passed -/
abbrev valV (h : Bool) (t : ByteArray) (b : Int) : Value := .agg #[.bool h, .string t, .int .u64 b]
abbrev valO (h : Bool) (t : ByteArray) (b : Int) : Obj := .cells #[.bool h, .string t, .int .u64 b] 134 (0, 0)
theorem val_at {X : World} {n : Nat} {h : Bool} {t : ByteArray} {b : Int} (hX : X.heap[n]? = some (valO h t b)) : X.cell? ⟨n, 0, none⟩ = some (.bool h) ∧ X.cell? ⟨n, 1, none⟩ = some (.string t) ∧ X.cell? ⟨n, 2, none⟩ = some (.int .u64 b) :=
  ⟨(cell_of hX).trans rfl, (cell_of hX).trans rfl, (cell_of hX).trans rfl⟩
theorem val_free {X : World} {n : Nat} {h : Bool} {t : ByteArray} {b : Int} (hX : X.heap[n]? = some (valO h t b)) (i : Nat) : X.frozen? ⟨n, i, none⟩ = false := by simp [World.frozen?, hX]
theorem load_val {X : World} {n : Nat} {k : Bool} {t : ByteArray} {b : Int} (h : X.heap[n]? = some (valO k t b)) : (loadVar 134 ⟨n, 0, none⟩).run Try.prog X = .ok (valV k t b) X := by
  obtain ⟨m0, m1, m2⟩ := val_at h
  go_simp

set_option maxRecDepth 100000 in
set_option maxHeartbeats 2000000 in
theorem cres_any (W : World) {r : Nat} {v : ChnD} (h : W.heap[r]? = some (chnO v)) (h6 : v.asks = 6) :
    Calls Try.prog 96 #[.pointer (some ⟨r, 0, none⟩)] W fun e W' => e = .returned (.tuple #[valV v.has v.text v.block, .bool true]) ∧ Below W.heap.size W W' := by
  have HB := Lib.hid (below_alloc W (valO false ⟨#[]⟩ 0))
  have HN := Lib.hid (World.alloc_heap_new W (valO false ⟨#[]⟩ 0))
  obtain ⟨m0, m1, m2⟩ := val_at HN.out
  have z0 := val_free HN.out 0
  have z1 := val_free HN.out 1
  have z2 := val_free HN.out 2
  obtain ⟨c0, c1, c2, c3, c4, c5, c6⟩ := chn_at ((HB.out.block r (heap_at_lt h)).trans h)
  have hne : W.heap.size ≠ r := by have := heap_at_lt h; omega
  obtain ⟨hd, ep, ak, pa, hs, tx, bl⟩ := v
  simp only at c0 c1 c2 c3 c4 c5 c6 h6
  subst h6
  clear h
  go_enter Try.func96, Try.ntmps96
  go_wp2_with fail
  refine bodyPost_ret (v := .tuple #[valV hs tx bl, .bool true]) (by rw [results_cell2 (by rfl)]; go_simp) rfl ⟨rfl, ?_⟩
  exact below_alloc _ _

/-! ### New -/
def CnewE (v : ChnD) (W : World) (e : Ending) (W' : World) : Prop := ∃ r, e = .returned (.pointer (some ⟨r, 0, none⟩)) ∧ W.heap.size ≤ r ∧ W'.heap[r]? = some (chnO v) ∧ Below W.heap.size W W'
/-- A chain that is read, at its beginning. -/
def newC (h ep : Int) : ChnD := ⟨h, ep, 1, 0, false, ⟨#[]⟩, 0⟩

set_option maxRecDepth 100000 in
set_option maxHeartbeats 2000000 in
theorem cnew_any (W : World) (a p s q v x sh ep : Int) (hh : 0 ≤ headW a p s q v sh) :
    Calls Try.prog 94 #[cfV a p s q v x, .int .i64 sh, .int .u64 ep] W (CnewE (newC (headW a p s q v sh) ep) W) := by
  have HH := Lib.hid (fun X : World => head_any a p s q v x sh X)
  generalize headW a p s q v sh = h at HH hh ⊢
  have X0 := Lib.hid (BoxC.start W a p s q v x)
  obtain ⟨c0, c1, c2, c3, c4, c5⟩ := X0.out.six
  have hn : ¬ h < 0 := by omega
  go_enter Try.func94, Try.ntmps94
  go_wp2_with fail
  refine (HH.out _).mono ?_
  rintro en w1 ⟨rfl, hb⟩
  have HB := Lib.hid (X0.out.lo.trans (hb.mono X0.out.lo.size))
  clear hb c0 c1 c2 c3 c4 c5
  go_wp2_with fail
  go_ret
  exact ⟨_, rfl, HB.out.size, World.alloc_heap_new w1 (chnO (newC h ep)), HB.out.trans ((below_alloc w1 _).mono HB.out.size)⟩

end Go.Proofs.Ytpnfbabiibopnaa

/-! chain's routine as a kind of routine. -/
namespace Go.Proofs.Ytpnfbabiibopnaa
open Go Go.RowKit

structure ChnAt (W : World) (B r : Nat) (v : ChnD) (f : Nat → Prop) : Prop where
  own : W.heap[r]? = some (chnO v)
  foot : f = fun k => k = r
  base : B ≤ r
  fits : v.fits
theorem ChnAt.stays {W W' : World} {B r : Nat} {v : ChnD} {f : Nat → Prop} (h : ChnAt W B r v f) (hs : ∀ k, f k → W'.heap[k]? = W.heap[k]?) : ChnAt W' B r v f := ⟨(hs r (by rw [h.foot])).trans h.own, h.foot, h.base, h.fits⟩
theorem ChnAt.lt {W : World} {B r : Nat} {v : ChnD} {f : Nat → Prop} (h : ChnAt W B r v f) : ∀ k, f k → k < W.heap.size := fun k hk => by
  rw [h.foot] at hk; subst hk; exact heap_at_lt h.own
theorem chn_takes {W : World} {B r : Nat} {v : ChnD} {f : Nat → Prop} {w : Int} {t : ByteArray} (h : ChnAt W B r v f) (hs : (nextC v).isSome = true) (hg : Good w t) :
    Calls Try.prog 95 #[.pointer (some ⟨r, 0, none⟩), gotV w t] W fun e W' => ∃ f', e = .returned (.tuple #[]) ∧ ChnAt W' B r (takeC v w t) f' ∧ Step f f' W W' := by
  refine (ctake_any W h.own h.fits hs w t hg).mono ?_
  rintro en W' ⟨rfl, h2, h3⟩
  refine ⟨fun k => k = r, rfl, ⟨h2, rfl, h.base, takeC_fits h.fits hg.1⟩, ?_⟩
  rw [h.foot]; exact h3

theorem chn_metA (n r : Nat) (w : World) : (method (n + 1) 88 (.pointer (some ⟨r, 0, none⟩)) "Act").run Try.prog w = .ok (38, .pointer (some ⟨r, 0, none⟩)) w := by kernel_rfl
theorem chn_metT (n r : Nat) (w : World) : (method (n + 1) 88 (.pointer (some ⟨r, 0, none⟩)) "Take").run Try.prog w = .ok (95, .pointer (some ⟨r, 0, none⟩)) w := by kernel_rfl
theorem chn_entA (args : Array Value) (w : World) : (callFunc 38 args).run Try.prog w = .ok (.enter 38 args) w := enters_of Try.func38 (by kernel_rfl) rfl args w
theorem chn_entT (args : Array Value) (w : World) : (callFunc 95 args).run Try.prog w = .ok (.enter 95 args) w := enters_of Try.func95 (by kernel_rfl) rfl args w
def ChnM : Mach ChnD where
  tid := 88
  fA := 38
  fT := 95
  next := nextC
  take := takeC
  At := ChnAt
  metA := chn_metA
  metT := chn_metT
  entA := chn_entA
  entT := chn_entT
  stays := fun h hs => h.stays hs
  lt := fun h => h.lt
  base := fun h k hk => by rw [h.foot] at hk; subst hk; exact h.base
  self := fun h => by rw [h.foot]
  fits := fun h hx => (nextC_fits h.fits hx).1
  act := fun h => cact_any _ h.own h.fits
  takes := fun h hs hg => chn_takes h hs hg
theorem newC_fits {h ep : Int} (hh : -9223372036854775808 ≤ h ∧ h ≤ 9223372036854775807) (he : 0 ≤ ep ∧ ep < 18446744073709551616) : (newC h ep).fits :=
  ⟨hh, he, by show 1 ≤ 1 ∧ 1 ≤ 6; omega, by show (-9223372036854775808 : Int) ≤ 0 ∧ (0 : Int) ≤ 9223372036854775807; omega, by show 0 < 18446744073709551616; omega⟩

/-! ### loads and texts, whatever kind of routine asks for them -/
section
variable {σ : Type} {M : Mach σ} {D : HpD} {E : σ}
theorem adv_look {x : ActD} (hn : M.next E = some x) (hk : x.kind = 1 ∨ x.kind = 6) : advM M ⟨D, E⟩ = ⟨doN D x, M.take E (doW D x) (doT D x)⟩ ∧ (stepM M ⟨D, E⟩).isSome = true := by
  have hr : readyA D x = true := by
    unfold readyA
    split
    · rw [if_neg (by omega), if_neg (by omega)]
    · rfl
  have hs : stepM M ⟨D, E⟩ = some ⟨x, doW D x, doT D x⟩ := by
    unfold stepM
    show (match M.next E with | some x => if readyA D x then some (⟨x, doW D x, doT D x⟩ : StepD) else none | none => none) = _
    rw [hn]; simp [hr]
  refine ⟨?_, by rw [hs]; rfl⟩
  unfold advM
  rw [hs]
  exact nextM_some (M := M) (S := ⟨D, E⟩) hn
theorem loadC_right {b : Nat} {c : Int} (hc : 0 ≤ c) : rightA (loadC b c) = true := by
  simp [rightA, loadC, zeroA, restA, hc, show (⟨#[]⟩ : ByteArray).size = 0 from rfl]
theorem textC_right (b : Nat) : rightA (textC b) = true := by
  simp [rightA, textC, zeroA, restA, show (⟨#[]⟩ : ByteArray).size = 0 from rfl]
/-- A load of a cell that is there. -/
theorem adv_loads {b : Nat} {c : Int} (hn : M.next E = some (loadC b c)) (hc : 0 ≤ c) (hs : spot D.L b c = 0) : advM M ⟨D, E⟩ = ⟨D, M.take E (wordAt D.L b c) ⟨#[]⟩⟩ ∧ (stepM M ⟨D, E⟩).isSome = true := by
  have hA := loadC_right (b := b) hc
  have e1 : doW D (loadC b c) = wordAt D.L b c := by
    unfold doW; rw [hA, if_pos rfl]
    show loadV D b c = _
    unfold loadV; rw [if_pos hs]
  have e2 : doN D (loadC b c) = D := by
    unfold doN; rw [hA, if_pos rfl]
    show loadD D b c = _
    unfold loadD; rw [if_pos hs]
  have e3 : doT D (loadC b c) = ⟨#[]⟩ := by
    unfold doT; rw [hA, if_pos rfl]; rfl
  obtain ⟨a1, a2⟩ := adv_look (D := D) hn (.inl rfl)
  rw [e1, e2, e3] at a1
  exact ⟨a1, a2⟩
/-- The text of a block that is there. -/
theorem adv_texts {b : Nat} (hn : M.next E = some (textC b)) (ht : there D.L b = 0) : advM M ⟨D, E⟩ = ⟨D, M.take E 0 (textAt D.L b)⟩ ∧ (stepM M ⟨D, E⟩).isSome = true := by
  have hA := textC_right b
  have e1 : doW D (textC b) = 0 := by unfold doW; rw [hA, if_pos rfl]; rfl
  have e2 : doN D (textC b) = D := by
    unfold doN; rw [hA, if_pos rfl]
    show wordsD D b = _
    unfold wordsD; rw [if_pos ht]
  have e3 : doT D (textC b) = textAt D.L b := by
    unfold doT; rw [hA, if_pos rfl]; rfl
  obtain ⟨a1, a2⟩ := adv_look (D := D) hn (.inr rfl)
  rw [e1, e2, e3] at a1
  exact ⟨a1, a2⟩
end

end Go.Proofs.Ytpnfbabiibopnaa
