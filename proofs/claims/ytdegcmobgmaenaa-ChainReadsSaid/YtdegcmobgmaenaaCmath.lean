/-
  A shelf's chain on a heap: its versions, the newest first; one more is put at its head; what is read at an epoch, and by how many acts. Plain.
-/
import Derived.Test.YtdegcmobgmaenaaChnm
import Derived.Test.YtdegcmobgmaenaaVerm
import Derived.Test.YtdegcmobgmaenaaFld
namespace Go.Proofs.Ytdegcmobgmaenaa
open Go Go.RowKit

/-- A version: its epoch, whether it has a value, its text, its block. -/
structure VsnD where
  ep : Int
  has : Bool
  text : ByteArray
  block : Nat
def wordV (has : Bool) : Int := if has then 1 else 0
/-- From b down lie the versions V (n - 1), V (n - 2) and so on. -/
def Down (D : HpD) (V : Nat → VsnD) : Nat → Nat → Prop
  | 0, b => b = 0
  | n + 1, b => b = (V n).block ∧ 2 ≤ b ∧ (0 ≤ (V n).ep ∧ (V n).ep < 18446744073709551616) ∧ ∃ nx : Nat, liveAt D.L b = some (blkV [(V n).ep, (nx : Int), wordV (V n).has] (V n).text) ∧ Down D V n nx
/-- The version that is read: the newest one that is not newer than at. -/
def lastAt (V : Nat → VsnD) (at_ : Int) : Nat → Option Nat
  | 0 => none
  | n + 1 => if (V n).ep ≤ at_ then some n else lastAt V at_ n
theorem lastAt_lt {V : Nat → VsnD} {at_ : Int} : ∀ {n j : Nat}, lastAt V at_ n = some j → j < n
  | 0, _, h => by cases h
  | n + 1, j, h => by
    unfold lastAt at h
    split at h
    · cases h; omega
    · have := lastAt_lt h; omega
/-- How many are passed of n. -/
def passN (V : Nat → VsnD) (at_ : Int) (n : Nat) : Nat := match lastAt V at_ n with | none => n | some j => n - 1 - j
theorem passN_le (V : Nat → VsnD) (at_ : Int) (n : Nat) : passN V at_ n ≤ n := by unfold passN; split <;> omega
/-- What is read. -/
def seenC (V : Nat → VsnD) (at_ : Int) (n : Nat) : Bool × ByteArray × Nat := match lastAt V at_ n with | none => (false, ⟨#[]⟩, 0) | some j => ((V j).has, if (V j).has then (V j).text else ⟨#[]⟩, (V j).block)
/-- The acts behind the head's load. -/
def actsC (V : Nat → VsnD) (at_ : Int) (n : Nat) : Nat := 2 * passN V at_ n + match lastAt V at_ n with | none => 0 | some j => if (V j).has then 3 else 2
def endC (h : Int) (V : Nat → VsnD) (at_ : Int) (n p : Nat) : ChnD := ⟨h, at_, 6, ((p + passN V at_ n : Nat) : Int), (seenC V at_ n).1, (seenC V at_ n).2.1, (seenC V at_ n).2.2⟩

/-- Where it stands behind a load of the head, or of a Next. -/
def atC (h at_ : Int) (p b : Nat) : ChnD := ⟨h, at_, if b = 0 then 6 else 2, (p : Int), false, ⟨#[]⟩, b⟩
theorem anyC_nat (b n : Nat) : anyC (b : Int) n = if b = 0 then 6 else n := by
  unfold anyC
  by_cases h : b = 0
  · subst h; rfl
  · rw [if_neg (by omega), if_neg h]

theorem spot_live {D : HpD} {b : Nat} {ws : List Int} {t : ByteArray} {c : Int} (h : liveAt D.L b = some (blkV ws t)) (h0 : 0 ≤ c) (h1 : c < (ws.length : Int)) : spot D.L b c = 0 := by
  rw [spot_some h, if_neg (by show ¬ (c < 0 ∨ (ws.length : Int) ≤ c); omega)]
theorem word_live {D : HpD} {b : Nat} {ws : List Int} {t : ByteArray} {c : Int} (h : liveAt D.L b = some (blkV ws t)) : wordAt D.L b c = ws.getD c.toNat 0 := by
  unfold wordAt; rw [h]; rfl

theorem chain_runs {D : HpD} {V : Nat → VsnD} {h at_ : Int} (S0 : PmS ChnD) : ∀ (n b p n0 : Nat), Down D V n b → p + n ≤ 1000000 → stM ChnM S0 n0 = ⟨D, atC h at_ p b⟩ ∧ (toM ChnM S0 n0).length = n0 →
    stM ChnM S0 (n0 + actsC V at_ n) = ⟨D, endC h V at_ n p⟩ ∧ (toM ChnM S0 (n0 + actsC V at_ n)).length = n0 + actsC V at_ n
  | 0, b, p, n0, hd, hp, h0 => by
    obtain rfl : b = 0 := hd
    exact h0
  | n + 1, b, p, n0, hd, hp, h0 => by
    obtain ⟨hb, hb2, he, nx, hl, hd2⟩ := hd
    have hb0 : b ≠ 0 := by omega
    have e0 : atC h at_ p b = ⟨h, at_, 2, (p : Int), false, ⟨#[]⟩, b⟩ := by unfold atC; rw [if_neg hb0]
    rw [e0] at h0
    have s1 := stM_succ h0 (adv_loads (M := ChnM) (D := D) (E := (⟨h, at_, 2, (p : Int), false, ⟨#[]⟩, b⟩ : ChnD)) (b := b) (c := 0) rfl (by decide) (spot_live hl (by decide) (by simp)))
    rw [word_live hl] at s1
    by_cases hle : (V n).ep ≤ at_
    · have e1 : takeC ⟨h, at_, 2, (p : Int), false, ⟨#[]⟩, b⟩ (V n).ep ⟨#[]⟩ = ⟨h, at_, 4, (p : Int), false, ⟨#[]⟩, b⟩ := by
        show (⟨h, at_, if at_ < (V n).ep then 3 else 4, _, _, _, _⟩ : ChnD) = _
        rw [if_neg (by omega)]
      have s1' : stM ChnM S0 (n0 + 1) = ⟨D, ⟨h, at_, 4, (p : Int), false, ⟨#[]⟩, b⟩⟩ ∧ (toM ChnM S0 (n0 + 1)).length = n0 + 1 := ⟨s1.1.trans (by rw [← e1]; rfl), s1.2⟩
      have s2 := stM_succ s1' (adv_loads (M := ChnM) (D := D) (E := (⟨h, at_, 4, (p : Int), false, ⟨#[]⟩, b⟩ : ChnD)) (b := b) (c := 2) rfl (by decide) (spot_live hl (by decide) (by simp)))
      rw [word_live hl] at s2
      have eL : lastAt V at_ (n + 1) = some n := by unfold lastAt; rw [if_pos hle]
      have eP : passN V at_ (n + 1) = 0 := by unfold passN; rw [eL]; show n + 1 - 1 - n = 0; omega
      have eS : seenC V at_ (n + 1) = ((V n).has, if (V n).has then (V n).text else ⟨#[]⟩, (V n).block) := by unfold seenC; rw [eL]
      have eA : actsC V at_ (n + 1) = if (V n).has then 3 else 2 := by unfold actsC; rw [eL, eP]; simp
      have eE : endC h V at_ (n + 1) p = ⟨h, at_, 6, (p : Int), (V n).has, if (V n).has then (V n).text else ⟨#[]⟩, b⟩ := by unfold endC; rw [eP, eS, hb]; rfl
      rw [eA, eE]
      cases hh : (V n).has with
      | false =>
        rw [hh] at s2
        exact s2
      | true =>
        rw [hh] at s2
        have s2' : stM ChnM S0 (n0 + 1 + 1) = ⟨D, ⟨h, at_, 5, (p : Int), true, ⟨#[]⟩, b⟩⟩ ∧ (toM ChnM S0 (n0 + 1 + 1)).length = n0 + 1 + 1 := s2
        have s3 := stM_succ s2' (adv_texts (M := ChnM) (D := D) (E := (⟨h, at_, 5, (p : Int), true, ⟨#[]⟩, b⟩ : ChnD)) (b := b) rfl (there_hit hl))
        rw [textAt_hit hl] at s3
        exact s3
    · have e1 : takeC ⟨h, at_, 2, (p : Int), false, ⟨#[]⟩, b⟩ (V n).ep ⟨#[]⟩ = ⟨h, at_, 3, (p : Int), false, ⟨#[]⟩, b⟩ := by
        show (⟨h, at_, if at_ < (V n).ep then 3 else 4, _, _, _, _⟩ : ChnD) = _
        rw [if_pos (by omega)]
      have s1' : stM ChnM S0 (n0 + 1) = ⟨D, ⟨h, at_, 3, (p : Int), false, ⟨#[]⟩, b⟩⟩ ∧ (toM ChnM S0 (n0 + 1)).length = n0 + 1 := ⟨s1.1.trans (by rw [← e1]; rfl), s1.2⟩
      have s2 := stM_succ s1' (adv_loads (M := ChnM) (D := D) (E := (⟨h, at_, 3, (p : Int), false, ⟨#[]⟩, b⟩ : ChnD)) (b := b) (c := 1) rfl (by decide) (spot_live hl (by decide) (by simp)))
      rw [word_live hl] at s2
      have e2 : takeC ⟨h, at_, 3, (p : Int), false, ⟨#[]⟩, b⟩ (nx : Int) ⟨#[]⟩ = atC h at_ (p + 1) nx := by
        show (⟨h, at_, anyC (nx : Int) 2, wrap64 ((p : Int) + 1), false, ⟨#[]⟩, ((nx : Int)).toNat⟩ : ChnD) = _
        rw [anyC_nat, IntWalk.wrap64_in _ (by omega), Int.toNat_natCast]
        rfl
      have s2' : stM ChnM S0 (n0 + 1 + 1) = ⟨D, atC h at_ (p + 1) nx⟩ ∧ (toM ChnM S0 (n0 + 1 + 1)).length = n0 + 1 + 1 := ⟨s2.1.trans (by rw [← e2]; rfl), s2.2⟩
      have ih := chain_runs S0 n nx (p + 1) (n0 + 1 + 1) hd2 (by omega) s2'
      have eL : lastAt V at_ (n + 1) = lastAt V at_ n := by
        show (if (V n).ep ≤ at_ then some n else lastAt V at_ n) = _
        rw [if_neg hle]
      have eP : passN V at_ (n + 1) = passN V at_ n + 1 := by
        unfold passN; rw [eL]
        split
        · rfl
        · rename_i j hj; have := lastAt_lt hj; omega
      have eA : actsC V at_ (n + 1) = actsC V at_ n + 2 := by unfold actsC; rw [eL, eP]; omega
      have eS : seenC V at_ (n + 1) = seenC V at_ n := by unfold seenC; rw [eL]
      have eE : endC h V at_ (n + 1) p = endC h V at_ n (p + 1) := by
        unfold endC; rw [eS, eP, show p + (passN V at_ n + 1) = p + 1 + passN V at_ n from by omega]
      rw [eA, eE, show n0 + (actsC V at_ n + 2) = n0 + 1 + 1 + actsC V at_ n from by omega]
      exact ih

/-- Alone: what is read. -/
theorem actsC_le (V : Nat → VsnD) (at_ : Int) (n : Nat) : actsC V at_ n ≤ 2 * passN V at_ n + 3 := by
  unfold actsC
  split
  · omega
  · split <;> omega
theorem chain_alone {D : HpD} {V : Nat → VsnD} {h at_ : Int} {n b : Nat} (hc : 0 ≤ h) (hs : spot D.L 1 h = 0) (hw : wordAt D.L 1 h = (b : Int)) (hd : Down D V n b) (hn : n ≤ 1000) (m : Nat) (hm : 2 * n + 4 ≤ m) :
    stM ChnM ⟨D, newC h at_⟩ m = ⟨D, endC h V at_ n 0⟩ ∧ (toM ChnM ⟨D, newC h at_⟩ m).length = 1 + actsC V at_ n := by
  have s1 := stM_succ (M := ChnM) (S := ⟨D, newC h at_⟩) (T := ⟨D, newC h at_⟩) (n := 0) ⟨rfl, rfl⟩ (adv_loads (M := ChnM) (D := D) (E := newC h at_) (b := 1) (c := h) rfl hc hs)
  rw [hw] at s1
  have e1 : takeC (newC h at_) (b : Int) ⟨#[]⟩ = atC h at_ 0 b := by
    show (⟨h, at_, anyC (b : Int) 2, 0, false, ⟨#[]⟩, ((b : Int)).toNat⟩ : ChnD) = _
    rw [anyC_nat, Int.toNat_natCast]
    rfl
  have s1' : stM ChnM ⟨D, newC h at_⟩ (0 + 1) = ⟨D, atC h at_ 0 b⟩ ∧ (toM ChnM ⟨D, newC h at_⟩ (0 + 1)).length = 0 + 1 := ⟨s1.1.trans (by rw [← e1]; rfl), s1.2⟩
  obtain ⟨r1, r2⟩ := chain_runs ⟨D, newC h at_⟩ n b 0 (0 + 1) hd (by omega) s1'
  have hno : stepM ChnM (stM ChnM ⟨D, newC h at_⟩ (0 + 1 + actsC V at_ n)) = none := by
    rw [r1]; rfl
  have hl := actsC_le V at_ n
  have hp := passN_le V at_ n
  obtain ⟨q1, q2⟩ := mstop_stays hno (m - (0 + 1 + actsC V at_ n))
  rw [show 0 + 1 + actsC V at_ n + (m - (0 + 1 + actsC V at_ n)) = m from by omega] at q1 q2
  exact ⟨by rw [q2, r1], by rw [q1, r2]⟩

/-! ### one more at the head -/
/-- The control block of z cells; in its cell k stands the head of a chain of the first n of V. -/
structure Shl (k z : Int) (D : HpD) (V : Nat → VsnD) (n : Nat) : Prop where
  faults : D.faults = 0
  fine : Fine D
  ctrl : ∃ ws t, liveAt D.L 1 = some (blkV ws t) ∧ (ws.length : Int) = z
  inn : 0 ≤ k ∧ k < z
  down : ∃ b : Nat, wordAt D.L 1 k = (b : Int) ∧ Down D V n b
  len : D.L.length = 1 + n
def pushD (D : HpD) (k ep : Int) (has : Bool) (t : ByteArray) : HpD := storeD (D.add (blkV [ep, wordAt D.L 1 k, wordV has] t)) 1 k ((D.L.length + 1 : Nat) : Int)
section
variable {k z : Int} {D : HpD} {V : Nat → VsnD} {n : Nat}
theorem Shl.spot (h : Shl k z D V n) : spot D.L 1 k = 0 := by
  obtain ⟨ws, t, h1, h2⟩ := h.ctrl
  have := h.inn
  exact spot_live h1 this.1 (by omega)
theorem Shl.few (h : Shl k z D V n) {m : Nat} (hm : m ≤ 800000) (hn : n ≤ 1000) : FewD D m := ⟨by rw [h.faults]; omega, by rw [h.len]; omega, h.fine⟩
theorem Shl.start (V : Nat → VsnD) (h0 : 0 ≤ k) (h1 : k < z) : Shl k z (fieldD z.toNat) V 0 := by
  have hl : liveAt (fieldD z.toNat).L 1 = some (blkV (List.replicate z.toNat 0) ⟨#[]⟩) := rfl
  refine ⟨rfl, (field_few (z := z) (n := 0) (by omega)).fine, ⟨_, _, hl, by simp; omega⟩, ⟨h0, h1⟩, ⟨0, ?_, rfl⟩, rfl⟩
  rw [word_live hl, List.getD_eq_getElem?_getD, List.getElem?_replicate]
  split <;> rfl
theorem Down.stays {D' : HpD} : ∀ {n b : Nat}, Down D V n b → (∀ j, 2 ≤ j → j ≤ D.L.length → liveAt D'.L j = liveAt D.L j) → Down D' V n b
  | 0, _, h, _ => h
  | _ + 1, b, ⟨h1, h2, h3, nx, h4, h5⟩, hs => ⟨h1, h2, h3, nx, (hs b h2 (liveAt_some h4).2.1).trans h4, h5.stays hs⟩
theorem Shl.pushed (h : Shl k z D V n) (ep : Int) (has : Bool) (t : ByteArray) : ∃ ws u, liveAt D.L 1 = some (blkV ws u) ∧ (ws.length : Int) = z ∧ Go.Proofs.Ytdegcmobgmaenaa.spot (D.add (blkV [ep, wordAt D.L 1 k, wordV has] t)).L 1 k = 0 ∧
    pushD D k ep has t = ⟨(D.L ++ [blkV [ep, wordAt D.L 1 k, wordV has] t]).set 0 (blkV (ws.set k.toNat ((D.L.length + 1 : Nat) : Int)) u), D.locked, D.faults⟩ := by
  obtain ⟨ws, u, hb, hl⟩ := h.ctrl
  have hlen := (liveAt_some hb).2.1
  have hin := h.inn
  have hb1 : liveAt (D.add (blkV [ep, wordAt D.L 1 k, wordV has] t)).L 1 = some (blkV ws u) := by
    show liveAt (D.L ++ [_]) 1 = _
    rw [liveAt_snoc, if_neg (by omega), hb]
  have hsp := spot_live (D := D.add (blkV [ep, wordAt D.L 1 k, wordV has] t)) (c := k) hb1 hin.1 (by omega)
  refine ⟨ws, u, hb, hl, hsp, ?_⟩
  unfold pushD storeD
  rw [if_pos hsp]
  unfold HpD.word
  rw [hb1]
  rfl
/-- The next one of V is put at the head. -/
theorem Shl.push (h : Shl k z D V n) (hb : (V n).block = D.L.length + 1) (he : 0 ≤ (V n).ep ∧ (V n).ep < 18446744073709551616) (ht : (V n).text.size ≤ 281474976710656) (hn : n ≤ 1000) :
    Shl k z (pushD D k (V n).ep (V n).has (V n).text) V (n + 1) := by
  obtain ⟨ws, u, hl1, hlw, -, e⟩ := h.pushed (V n).ep (V n).has (V n).text
  obtain ⟨b0, hw, hd⟩ := h.down
  have hin := h.inn
  have hlen := h.len
  rw [e, hw]
  have hL : ∀ j, liveAt ((D.L ++ [blkV [(V n).ep, (b0 : Int), wordV (V n).has] (V n).text]).set 0 (blkV (ws.set k.toNat ((D.L.length + 1 : Nat) : Int)) u)) j =
      if j = 1 then some (blkV (ws.set k.toNat ((D.L.length + 1 : Nat) : Int)) u) else if j = D.L.length + 1 then some (blkV [(V n).ep, (b0 : Int), wordV (V n).has] (V n).text) else liveAt D.L j := fun j => by
    have := liveAt_set (D.L ++ [blkV [(V n).ep, (b0 : Int), wordV (V n).has] (V n).text]) 1 j (blkV (ws.set k.toNat ((D.L.length + 1 : Nat) : Int)) u) (Nat.le_refl _) (by simp)
    rw [show (1 : Nat) - 1 = 0 from rfl] at this
    rw [this, liveAt_snoc]
    rfl
  have h1L := hL 1
  rw [if_pos rfl] at h1L
  have hnL := hL (D.L.length + 1)
  rw [if_neg (by omega), if_pos rfl] at hnL
  refine ⟨h.faults, fun x hx => ?_, ⟨_, _, h1L, by rw [← hlw]; simp⟩, hin, ⟨D.L.length + 1, ?_, hb.symm, by omega, he, b0, hnL, hd.stays (fun j h2 hj => ?_)⟩, by simp; omega⟩
  · have hb0 := h.fine.wordAt 1 k
    rw [hw] at hb0
    rcases List.mem_or_eq_of_mem_set hx with hx | rfl
    · rcases List.mem_append.1 hx with hx | hx
      · exact h.fine x hx
      · obtain rfl := List.mem_singleton.1 hx
        refine ⟨fun w hw => ?_, ht⟩
        have hw' : w = (V n).ep ∨ w = (b0 : Int) ∨ w = wordV (V n).has := by simpa [blkV] using hw
        rcases hw' with rfl | rfl | rfl
        · exact he
        · exact hb0
        · unfold wordV; split <;> omega
    · have hbf := h.fine.at hl1
      refine ⟨fun w hw => ?_, hbf.2⟩
      rcases List.mem_or_eq_of_mem_set hw with hw | rfl
      · exact hbf.1 w hw
      · omega
  · rw [word_live (D := ⟨_, D.locked, D.faults⟩) h1L, List.getD_eq_getElem?_getD, List.getElem?_set_self (by omega)]; rfl
  · show liveAt _ j = _
    rw [hL j, if_neg (by omega), if_neg (by omega)]
end

end Go.Proofs.Ytdegcmobgmaenaa
