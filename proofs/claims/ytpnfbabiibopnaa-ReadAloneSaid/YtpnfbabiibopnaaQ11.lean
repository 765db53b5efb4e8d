/-
  Laid, Pnr, Pnt, Pnr2, in one text.
-/
import Derived.Test.YtpnfbabiibopnaaQ07
import Derived.Test.YtpnfbabiibopnaaQ09
import Derived.Test.YtpnfbabiibopnaaQ10
import Derived.Test.YtpnfbabiibopnaaQ06
import Derived.Test.YtpnfbabiibopnaaQ08
import Derived.Deep.RegionHeld3
import Derived.WalkMore
import Derived.StillTailTactics
import Derived.Deep.QuietTactic
import Derived.BigQuiet
/-! A heap with keys on its shelves, and a chain of versions for each: what a block more does, and what acts of the control block's first cells leave. Plain. -/
namespace Go.Proofs.Ytpnfbabiibopnaa
open Go Go.RowKit

theorem bytes_inj {a b : ByteArray} (h : a.toList = b.toList) : a = b := by
  rw [ByteArray.toList_eq, ByteArray.toList_eq] at h
  exact congrArg ByteArray.mk (Array.toList_inj.1 h)
/-! ### a block more, whose number is put into the control block -/
def newD (D : HpD) (b : BlkD) (c : Nat) : HpD := storeD (D.add b) 1 (c : Int) ((D.L.length + 1 : Nat) : Int)
/-- The other blocks are as they were. -/
def Oth (D D' : HpD) : Prop := D'.L.length = D.L.length ∧ ∀ j, 2 ≤ j → liveAt D'.L j = liveAt D.L j
theorem Oth.refl (D : HpD) : Oth D D := ⟨rfl, fun _ _ => rfl⟩
theorem Oth.trans {D D' D'' : HpD} (h : Oth D D') (g : Oth D' D'') : Oth D D'' := ⟨g.1.trans h.1, fun j hj => (g.2 j hj).trans (h.2 j hj)⟩
section
variable {n : Nat} {D : HpD} {G : Nat → Int}
theorem Ctl.one (h : Ctl n D G) : 1 ≤ D.L.length := by obtain ⟨ws, t, h1, _⟩ := h.live; exact (liveAt_some h1).2.1
theorem Ctl.word_oth (h : Ctl n D G) (c : Nat) (u : Int) : Oth D (D.word 1 (c : Int) u) := by
  obtain ⟨ws, t, h1, h2, h3⟩ := h.live
  rw [word_hit h1]
  refine ⟨by simp [HpD.at], fun j hj => ?_⟩
  show liveAt (D.L.set (1 - 1) _) j = _
  rw [liveAt_set _ 1 j _ (Nat.le_refl _) (liveAt_some h1).2.1, if_neg (by omega)]
theorem Ctl.add (h : Ctl n D G) {b : BlkD} (hb : (∀ w ∈ b.ws, 0 ≤ w ∧ w < 18446744073709551616) ∧ b.text.size ≤ 281474976710656) (hl : D.L.length ≤ 999) : Ctl n (D.add b) G := by
  obtain ⟨ws, t, h1, h2, h3⟩ := h.live
  have hlen := (liveAt_some h1).2.1
  refine ⟨h.faults, by show (D.L ++ [b]).length ≤ 1000; simp; omega, ⟨ws, t, ?_, h2, h3⟩, fun y hy => ?_⟩
  · show liveAt (D.L ++ [b]) 1 = _
    rw [liveAt_snoc, if_neg (by omega)]; exact h1
  · rcases List.mem_append.1 hy with hy | hy
    · exact h.fine y hy
    · obtain rfl := List.mem_singleton.1 hy
      exact hb
theorem Ctl.news (h : Ctl n D G) {c : Nat} (hc : c < n) {b : BlkD} (hb : (∀ w ∈ b.ws, 0 ≤ w ∧ w < 18446744073709551616) ∧ b.text.size ≤ 281474976710656) (hg : b.gone = false) (hl : D.L.length ≤ 999) :
    Ctl n (newD D b c) (upd G c ((D.L.length + 1 : Nat) : Int)) ∧ (newD D b c).L.length = D.L.length + 1 ∧ liveAt (newD D b c).L (D.L.length + 1) = some b ∧ ∀ j, 2 ≤ j → j ≤ D.L.length → liveAt (newD D b c).L j = liveAt D.L j := by
  have ha := h.add hb hl
  have h1 := h.one
  have e : newD D b c = (D.add b).word 1 (c : Int) ((D.L.length + 1 : Nat) : Int) := by unfold newD storeD; rw [if_pos (ha.spot hc)]
  have hp := ha.put hc (u := ((D.L.length + 1 : Nat) : Int)) (by omega)
  have hw := ha.word_oth c ((D.L.length + 1 : Nat) : Int)
  rw [e]
  refine ⟨hp.1, by rw [hw.1]; show (D.L ++ [b]).length = _; simp, ?_, fun j hj hj2 => ?_⟩
  · rw [hw.2 _ (by omega)]
    show liveAt (D.L ++ [b]) _ = _
    rw [liveAt_snoc, if_pos rfl, hg]; rfl
  · rw [hw.2 _ hj]
    show liveAt (D.L ++ [b]) _ = _
    rw [liveAt_snoc, if_neg (by omega)]
end

/-! ### keys and chains -/
structure Laid (a p s q v x : Int) (D : HpD) (G : Nat → Int) (K : Shelves) (V : Int → Nat → VsnD) (N : Int → Nat) : Prop where
  rc : rightC a p s q v = true
  ctl : Ctl (sizeW a p s q v).toNat D G
  keys : ∀ sh, 0 ≤ sh → sh < s → ∀ t, K sh = some t → ∃ k : Nat, 2 ≤ k ∧ G (keyW a p s q v sh).toNat = (k : Int) ∧ ∃ ws u, liveAt D.L k = some ⟨ws, u, false⟩ ∧ u.toList = t
  free : ∀ sh, 0 ≤ sh → sh < s → K sh = none → G (keyW a p s q v sh).toNat = 0 ∧ N sh = 0
  down : ∀ sh, 0 ≤ sh → sh < s → ∃ b : Nat, G (headW a p s q v sh).toNat = (b : Int) ∧ Down D (V sh) (N sh) b
  own : ∀ sh, 0 ≤ sh → sh < s → ∀ key : ByteArray, K sh = some key.toList → Stands K (newF a p s q v x key) sh
section
variable {a p s q v x : Int} {D D' : HpD} {G G' : Nat → Int} {K : Shelves} {V : Int → Nat → VsnD} {N : Int → Nat}
theorem keyW_at (hr : rightC a p s q v = true) {sh : Int} (h0 : 0 ≤ sh) (h1 : sh < s) : keyW a p s q v sh = 3 + p + a + 2 * sh := if_pos ⟨hr, h0, by omega⟩
theorem sizeW_at (hr : rightC a p s q v = true) : sizeW a p s q v = 3 + p + a + 2 * s := if_pos hr
theorem Laid.start (hr : rightC a p s q v = true) (x : Int) (V : Int → Nat → VsnD) : Laid a p s q v x (fieldD (sizeW a p s q v).toNat) (fun _ => 0) (fun _ => none) V (fun _ => 0) :=
  ⟨hr, Ctl.start _, fun _ _ _ _ h => (by cases h), fun _ _ _ _ => ⟨rfl, rfl⟩, fun _ _ _ => ⟨0, rfl, rfl⟩, fun _ _ _ _ h => (by cases h)⟩
theorem Laid.field (h : Laid a p s q v x D G K V N) (key : ByteArray) : Field (newF a p s q v x key) D K := by
  have hb := rightC_bd h.rc
  have hz := sizeW_at h.rc
  refine ⟨h.ctl.faults, ?_, h.ctl.fine, fun sh h0 h1 => ?_⟩
  · obtain ⟨ws, t, h1, h2, _⟩ := h.ctl.live
    exact ⟨_, h1, by show (ws.length : Int) = sizeW a p s q v; omega⟩
  · have h1' : sh < s := h1
    have hk := keyW_at h.rc h0 h1'
    have hw : wordAt D.L 1 (keyW a p s q v sh) = G (keyW a p s q v sh).toNat := by
      have := h.ctl.word (c := (keyW a p s q v sh).toNat) (by omega)
      rw [show (((keyW a p s q v sh).toNat : Nat) : Int) = keyW a p s q v sh by omega] at this
      exact this
    cases hK : K sh with
    | none => exact hw.trans (h.free sh h0 h1' hK).1
    | some t =>
      obtain ⟨k, k2, kg, ws, u, kl, ku⟩ := h.keys sh h0 h1' t hK
      exact ⟨k, by omega, hw.trans kg, there_hit kl, by rw [textAt_hit kl]; exact ku⟩
/-- The first cells turn. -/
theorem Laid.touch (h : Laid a p s q v x D G K V N) (hC : Ctl (sizeW a p s q v).toNat D' G') (hG : ∀ i : Nat, 3 + p ≤ (i : Int) → G' i = G i) (hO : ∀ j, 2 ≤ j → liveAt D'.L j = liveAt D.L j) : Laid a p s q v x D' G' K V N := by
  have hb := rightC_bd h.rc
  refine ⟨h.rc, hC, fun sh h0 h1 t ht => ?_, fun sh h0 h1 ht => ?_, fun sh h0 h1 => ?_, h.own⟩
  · obtain ⟨k, k2, kg, ws, u, kl, ku⟩ := h.keys sh h0 h1 t ht
    have hk := keyW_at h.rc h0 h1
    exact ⟨k, k2, by rw [hG _ (by omega)]; exact kg, ws, u, (hO k k2).trans kl, ku⟩
  · have hk := keyW_at h.rc h0 h1
    exact ⟨by rw [hG _ (by omega)]; exact (h.free sh h0 h1 ht).1, (h.free sh h0 h1 ht).2⟩
  · obtain ⟨b, b1, b2⟩ := h.down sh h0 h1
    have hk : headW a p s q v sh = 3 + p + a + 2 * sh + 1 := if_pos ⟨h.rc, h0, by omega⟩
    exact ⟨b, by rw [hG _ (by omega)]; exact b1, b2.stays (fun j hj _ => hO j hj)⟩
/-- A key more. -/
theorem Laid.put (h : Laid a p s q v x D G K V N) {sh : Int} (h0 : 0 ≤ sh) (h1 : sh < s) (hK : K sh = none) {key : ByteArray} (hs : key.size ≤ 281474976710656) (hst : Stands (K.put sh key.toList) (newF a p s q v x key) sh) (hl : D.L.length ≤ 999) :
    Laid a p s q v x (newD D ⟨[], key, false⟩ (keyW a p s q v sh).toNat) (upd G (keyW a p s q v sh).toNat ((D.L.length + 1 : Nat) : Int)) (K.put sh key.toList) V N := by
  have hb := rightC_bd h.rc
  have hz := sizeW_at h.rc
  have hk := keyW_at h.rc h0 h1
  have h1L := h.ctl.one
  obtain ⟨n1, n2, n3, n4⟩ := h.ctl.news (c := (keyW a p s q v sh).toNat) (by omega) (b := ⟨[], key, false⟩) ⟨fun w hw => (by cases hw), hs⟩ rfl hl
  refine ⟨h.rc, n1, fun y y0 y1 t ht => ?_, fun y y0 y1 ht => ?_, fun y y0 y1 => ?_, fun y y0 y1 k' hk' => ?_⟩
  · have hky := keyW_at h.rc y0 y1
    by_cases e : y = sh
    · subst e
      have ht' : some key.toList = some t := by rw [← ht]; unfold Shelves.put; rw [if_pos rfl]
      cases ht'
      exact ⟨D.L.length + 1, by omega, upd_self _ _ _, [], key, n3, rfl⟩
    · have ht' : K y = some t := by rw [← ht]; unfold Shelves.put; rw [if_neg e]
      obtain ⟨k, k2, kg, ws, u, kl, ku⟩ := h.keys y y0 y1 t ht'
      exact ⟨k, k2, by rw [upd_other (by omega)]; exact kg, ws, u, (n4 k k2 (liveAt_some kl).2.1).trans kl, ku⟩
  · have hky := keyW_at h.rc y0 y1
    by_cases e : y = sh
    · subst e; unfold Shelves.put at ht; rw [if_pos rfl] at ht; cases ht
    · have ht' : K y = none := by rw [← ht]; unfold Shelves.put; rw [if_neg e]
      exact ⟨by rw [upd_other (by omega)]; exact (h.free y y0 y1 ht').1, (h.free y y0 y1 ht').2⟩
  · have hhy : headW a p s q v y = 3 + p + a + 2 * y + 1 := if_pos ⟨h.rc, y0, by omega⟩
    obtain ⟨b, b1, b2⟩ := h.down y y0 y1
    exact ⟨b, by rw [upd_other (by omega)]; exact b1, b2.stays n4⟩
  · by_cases e : y = sh
    · subst e
      have hk2 : some key.toList = some k'.toList := by rw [← hk']; unfold Shelves.put; rw [if_pos rfl]
      rw [← bytes_inj (Option.some.inj hk2)]
      exact hst
    · have hk2 : K y = some k'.toList := by rw [← hk']; unfold Shelves.put; rw [if_neg e]
      exact (h.own y y0 y1 k' hk2).put hK _
/-- A version more on a shelf. -/
def pushV (V : Int → Nat → VsnD) (N : Int → Nat) (sh : Int) (y : VsnD) : Int → Nat → VsnD := fun z j => if z = sh ∧ j = N sh then y else V z j
def pushN (N : Int → Nat) (sh : Int) : Int → Nat := fun z => if z = sh then N sh + 1 else N z
theorem Down.agree {V V' : Nat → VsnD} : ∀ {n b : Nat}, Down D V n b → (∀ j, j < n → V' j = V j) → Down D V' n b
  | 0, _, h, _ => h
  | n + 1, b, ⟨h1, h2, h3, nx, h4, h5⟩, hs => by
    have e := hs n (Nat.lt_succ_self _)
    refine ⟨by rw [e]; exact h1, h2, by rw [e]; exact h3, nx, by rw [e]; exact h4, h5.agree (fun j hj => hs j (by omega))⟩
theorem Laid.push (h : Laid a p s q v x D G K V N) {sh : Int} (h0 : 0 ≤ sh) (h1 : sh < s) (hK : (K sh).isSome = true) {ep : Int} (he : 0 ≤ ep ∧ ep < 18446744073709551616) (has : Bool) {t : ByteArray} (ht : t.size ≤ 281474976710656) (hl : D.L.length ≤ 999) :
    Laid a p s q v x (pushD D (headW a p s q v sh) ep has t) (upd G (headW a p s q v sh).toNat ((D.L.length + 1 : Nat) : Int)) K (pushV V N sh ⟨ep, has, t, D.L.length + 1⟩) (pushN N sh) ∧ (pushD D (headW a p s q v sh) ep has t).L.length = D.L.length + 1 := by
  have hb := rightC_bd h.rc
  have hz := sizeW_at h.rc
  have hk : headW a p s q v sh = 3 + p + a + 2 * sh + 1 := if_pos ⟨h.rc, h0, by omega⟩
  have h1L := h.ctl.one
  obtain ⟨b0, g0, d0⟩ := h.down sh h0 h1
  have hw : wordAt D.L 1 (headW a p s q v sh) = (b0 : Int) := by
    have := h.ctl.word (c := (headW a p s q v sh).toNat) (by omega)
    rw [show (((headW a p s q v sh).toNat : Nat) : Int) = headW a p s q v sh by omega] at this
    exact this.trans g0
  have hbd := h.ctl.fine.wordAt 1 (headW a p s q v sh)
  have e : pushD D (headW a p s q v sh) ep has t = newD D (blkV [ep, (b0 : Int), wordV has] t) (headW a p s q v sh).toNat := by
    unfold pushD newD
    rw [hw, show (((headW a p s q v sh).toNat : Nat) : Int) = headW a p s q v sh by omega]
  rw [hw] at hbd
  obtain ⟨n1, n2, n3, n4⟩ := h.ctl.news (c := (headW a p s q v sh).toNat) (by omega) (b := blkV [ep, (b0 : Int), wordV has] t) ⟨fun w hw => by
    have hw' : w = ep ∨ w = (b0 : Int) ∨ w = wordV has := by simpa [blkV] using hw
    rcases hw' with rfl | rfl | rfl
    · exact he
    · exact hbd
    · unfold wordV; split <;> omega, ht⟩ rfl hl
  rw [e]
  refine ⟨⟨h.rc, n1, fun y y0 y1 t ht => ?_, fun y y0 y1 ht => ?_, fun y y0 y1 => ?_, h.own⟩, n2⟩
  · have hky := keyW_at h.rc y0 y1
    obtain ⟨k, k2, kg, ws, u, kl, ku⟩ := h.keys y y0 y1 t ht
    exact ⟨k, k2, by rw [upd_other (by omega)]; exact kg, ws, u, (n4 k k2 (liveAt_some kl).2.1).trans kl, ku⟩
  · have hky := keyW_at h.rc y0 y1
    have hne : y ≠ sh := fun e => by rw [e] at ht; rw [ht] at hK; cases hK
    exact ⟨by rw [upd_other (by omega)]; exact (h.free y y0 y1 ht).1, by unfold pushN; rw [if_neg hne]; exact (h.free y y0 y1 ht).2⟩
  · have hhy : headW a p s q v y = 3 + p + a + 2 * y + 1 := if_pos ⟨h.rc, y0, by omega⟩
    by_cases ey : y = sh
    · subst ey
      have eN : pushN N y y = N y + 1 := if_pos rfl
      have eV : pushV V N y ⟨ep, has, t, D.L.length + 1⟩ y (N y) = ⟨ep, has, t, D.L.length + 1⟩ := if_pos ⟨rfl, rfl⟩
      rw [eN]
      refine ⟨D.L.length + 1, upd_self _ _ _, by rw [eV], by omega, by rw [eV]; exact he, b0, by rw [eV]; exact n3, ?_⟩
      exact (d0.stays n4).agree (fun j hj => if_neg (by omega))
    · obtain ⟨b, b1, b2⟩ := h.down y y0 y1
      have eN : pushN N sh y = N y := if_neg ey
      rw [eN]
      exact ⟨b, by rw [upd_other (by omega)]; exact b1, (b2.stays n4).agree (fun j _ => if_neg (fun h => ey h.1))⟩
end

end Go.Proofs.Ytpnfbabiibopnaa

/-! pin's routine: what it does next, and where it stands behind an answer; how it lies. -/
namespace Go.Proofs.Ytpnfbabiibopnaa
open Go Go.RowKit
attribute [local go_sem ↓] Go.wp_at_zero Go.wp_at_succ

/-- A pin that is looked for: its config, the part (0: none that New made; 1 to 4; 5: done), how many were tried, the pin, the epoch, whether all were taken. -/
structure PinD where
  a : Int
  p : Int
  s : Int
  q : Int
  v : Int
  x : Int
  part : Nat
  tried : Int
  pn : Int
  ep : Int
  taken : Bool
def PinD.fit1 (v : PinD) : Prop := rightC v.a v.p v.s v.q v.v = true ∧ 1 ≤ v.part ∧ (0 ≤ v.tried ∧ v.tried ≤ v.p) ∧ (0 ≤ v.pn ∧ v.pn < v.p) ∧ (v.part ≤ 2 → v.tried < v.p)
def PinD.fits (v : PinD) : Prop := v.part ≤ 5 ∧ (0 ≤ v.ep ∧ v.ep < 18446744073709551616) ∧ (v.part = 0 ∨ v.fit1)
def PinD.zero : PinD := ⟨0, 0, 0, 0, 0, 0, 0, 0, 0, 0, false⟩
/-- The cell of the pin that is tried. -/
def PinD.cell (v : PinD) : Int := pinW v.a v.p v.s v.q v.v v.pn
/-- The epoch and one. -/
def upE (e : Int) : Int := IntKind.u64.wrap (e + 1)
def loadE : ActD := ⟨1, 1, 0, 0, 0, ⟨#[]⟩⟩
def swapE (c e : Int) : ActD := ⟨3, 1, c, 0, upE e, ⟨#[]⟩⟩
def storeE (c e : Int) : ActD := ⟨2, 1, c, 0, upE e, ⟨#[]⟩⟩
def nextP (v : PinD) : Option ActD := match v.part with
  | 1 => some loadE
  | 2 => some (swapE v.cell v.ep)
  | 3 => some loadE
  | 4 => some (storeE v.cell v.ep)
  | _ => none
def PinD.to (v : PinD) (k : Nat) : PinD := ⟨v.a, v.p, v.s, v.q, v.v, v.x, k, v.tried, v.pn, v.ep, v.taken⟩
def PinD.at (v : PinD) (k : Nat) (e : Int) : PinD := ⟨v.a, v.p, v.s, v.q, v.v, v.x, k, v.tried, v.pn, e, v.taken⟩
/-- Behind a pin that was not free. -/
def PinD.miss (v : PinD) : PinD := if v.tried + 1 = v.p then ⟨v.a, v.p, v.s, v.q, v.v, v.x, 5, v.tried + 1, 0, 0, true⟩ else ⟨v.a, v.p, v.s, v.q, v.v, v.x, 2, v.tried + 1, (v.pn + 1) % v.p, v.ep, v.taken⟩
def takeP (v : PinD) (w : Int) (_ : ByteArray) : PinD := match v.part with
  | 1 => v.at 2 w
  | 2 => if w = 0 then v.to 3 else v.miss
  | 3 => if w = v.ep then v.to 5 else v.at 4 w
  | 4 => v.to 3
  | _ => v
theorem takeP_1 {v : PinD} (e : v.part = 1) (w : Int) (t : ByteArray) : takeP v w t = v.at 2 w := by unfold takeP; rw [e]; rfl
theorem takeP_2 {v : PinD} (e : v.part = 2) (w : Int) (t : ByteArray) : takeP v w t = if w = 0 then v.to 3 else v.miss := by unfold takeP; rw [e]; rfl
theorem takeP_3 {v : PinD} (e : v.part = 3) (w : Int) (t : ByteArray) : takeP v w t = if w = v.ep then v.to 5 else v.at 4 w := by unfold takeP; rw [e]; rfl
theorem takeP_4 {v : PinD} (e : v.part = 4) (w : Int) (t : ByteArray) : takeP v w t = v.to 3 := by unfold takeP; rw [e]; rfl
theorem upE_in (e : Int) : 0 ≤ upE e ∧ upE e < 18446744073709551616 := u64_wrap_in _
theorem pinW_in {a p s q v i : Int} (hr : rightC a p s q v = true) (h0 : 0 ≤ i) (h1 : i < p) : pinW a p s q v i = 3 + i := if_pos ⟨hr, h0, by omega⟩
theorem pinW_fits {a p s q v i : Int} : -1 ≤ pinW a p s q v i ∧ pinW a p s q v i ≤ 11 := by
  unfold pinW
  split
  · rename_i h
    have := rightC_bd h.1
    omega
  · omega
theorem empty_size : (⟨#[]⟩ : ByteArray).size = 0 := rfl
theorem loadE_fits : loadE.fits := by have he := empty_size; unfold ActD.fits loadE; simp only; omega
theorem swapE_fits {c : Int} (hc : -1 ≤ c ∧ c ≤ 11) (e : Int) : (swapE c e).fits := by have he := empty_size; have := upE_in e; unfold ActD.fits swapE; simp only; omega
theorem storeE_fits {c : Int} (hc : -1 ≤ c ∧ c ≤ 11) (e : Int) : (storeE c e).fits := by have he := empty_size; have := upE_in e; unfold ActD.fits storeE; simp only; omega
theorem nextP_fits {v : PinD} {x : ActD} (h : nextP v = some x) : x.fits ∧ (x.kind = 1 ∨ x.kind = 2 ∨ x.kind = 3) := by
  unfold nextP at h
  split at h
  · cases h; exact ⟨loadE_fits, .inl rfl⟩
  · cases h; exact ⟨swapE_fits pinW_fits _, .inr (.inr rfl)⟩
  · cases h; exact ⟨loadE_fits, .inl rfl⟩
  · cases h; exact ⟨storeE_fits pinW_fits _, .inr (.inl rfl)⟩
  · cases h
theorem nextP_part {v : PinD} (h : (nextP v).isSome = true) : v.part = 1 ∨ v.part = 2 ∨ v.part = 3 ∨ v.part = 4 := by
  unfold nextP at h
  split at h
  · exact .inl (by assumption)
  · exact .inr (.inl (by assumption))
  · exact .inr (.inr (.inl (by assumption)))
  · exact .inr (.inr (.inr (by assumption)))
  · cases h
theorem PinD.miss_fits {v : PinD} (hv : v.fits) (h2 : v.part = 2) : v.miss.fits := by
  obtain ⟨h1, he, h3⟩ := hv
  have hf : v.fit1 := h3.elim (fun e => by omega) id
  obtain ⟨hr, h4, h5, h6, h7⟩ := hf
  have h7' := h7 (by omega)
  have hp := (rightC_bd hr).2.1
  unfold PinD.miss
  split
  · exact ⟨Nat.le_refl _, ⟨Int.le_refl _, by show (0 : Int) < 18446744073709551616; omega⟩, .inr ⟨hr, by show 1 ≤ 5; omega, ⟨by show 0 ≤ v.tried + 1; omega, by show v.tried + 1 ≤ v.p; omega⟩, ⟨Int.le_refl _, by show 0 < v.p; omega⟩, fun h => absurd (show 5 ≤ 2 from h) (by omega)⟩⟩
  · have hm := Int.emod_nonneg (v.pn + 1) (show v.p ≠ 0 by omega)
    have hm2 := Int.emod_lt_of_pos (v.pn + 1) (show 0 < v.p by omega)
    exact ⟨by show 2 ≤ 5; omega, he, .inr ⟨hr, by show 1 ≤ 2; omega, ⟨by show 0 ≤ v.tried + 1; omega, by show v.tried + 1 ≤ v.p; omega⟩, ⟨hm, hm2⟩, fun _ => by show v.tried + 1 < v.p; omega⟩⟩
theorem takeP_fits {v : PinD} {w : Int} {t : ByteArray} (hv : v.fits) (hw : 0 ≤ w ∧ w < 18446744073709551616) : (takeP v w t).fits := by
  have hv0 := hv
  obtain ⟨h1, he, h3⟩ := hv
  unfold takeP
  split
  · rename_i h
    obtain ⟨hr, h4, h5, h6, h7⟩ : v.fit1 := h3.elim (fun e => by omega) id
    exact ⟨by show 2 ≤ 5; omega, hw, .inr ⟨hr, by show 1 ≤ 2; omega, h5, h6, fun _ => h7 (by omega)⟩⟩
  · rename_i h
    obtain ⟨hr, h4, h5, h6, h7⟩ : v.fit1 := h3.elim (fun e => by omega) id
    split
    · exact ⟨by show 3 ≤ 5; omega, he, .inr ⟨hr, by show 1 ≤ 3; omega, h5, h6, fun h => absurd (show 3 ≤ 2 from h) (by omega)⟩⟩
    · exact PinD.miss_fits hv0 h
  · rename_i h
    obtain ⟨hr, h4, h5, h6, h7⟩ : v.fit1 := h3.elim (fun e => by omega) id
    split
    · exact ⟨by show 5 ≤ 5; omega, he, .inr ⟨hr, by show 1 ≤ 5; omega, h5, h6, fun h => absurd (show 5 ≤ 2 from h) (by omega)⟩⟩
    · exact ⟨by show 4 ≤ 5; omega, hw, .inr ⟨hr, by show 1 ≤ 4; omega, h5, h6, fun h => absurd (show 4 ≤ 2 from h) (by omega)⟩⟩
  · rename_i h
    obtain ⟨hr, h4, h5, h6, h7⟩ : v.fit1 := h3.elim (fun e => by omega) id
    exact ⟨by show 3 ≤ 5; omega, he, .inr ⟨hr, by show 1 ≤ 3; omega, h5, h6, fun h => absurd (show 3 ≤ 2 from h) (by omega)⟩⟩
  · exact hv0

/-! ### in memory -/
abbrev pnrC (v : PinD) : Array Value := #[.int .i64 v.a, .int .i64 v.p, .int .i64 v.s, .int .i64 v.q, .int .i64 v.v, .int .u64 v.x, .int .i64 (v.part : Int), .int .i64 v.tried, .int .i64 v.pn, .int .u64 v.ep, .bool v.taken]
abbrev pnrO (v : PinD) : Obj := .cells (pnrC v) 130 (0, 0)
section
variable {X : World} {r : Nat} {v : PinD}
theorem pnr_at (h : X.heap[r]? = some (pnrO v)) :
    (X.cell? ⟨r, 0, none⟩ = some (.int .i64 v.a) ∧ X.cell? ⟨r, 1, none⟩ = some (.int .i64 v.p) ∧ X.cell? ⟨r, 2, none⟩ = some (.int .i64 v.s) ∧ X.cell? ⟨r, 3, none⟩ = some (.int .i64 v.q) ∧ X.cell? ⟨r, 4, none⟩ = some (.int .i64 v.v) ∧ X.cell? ⟨r, 5, none⟩ = some (.int .u64 v.x)) ∧
    X.cell? ⟨r, 6, none⟩ = some (.int .i64 (v.part : Int)) ∧ X.cell? ⟨r, 7, none⟩ = some (.int .i64 v.tried) ∧ X.cell? ⟨r, 8, none⟩ = some (.int .i64 v.pn) ∧ X.cell? ⟨r, 9, none⟩ = some (.int .u64 v.ep) ∧ X.cell? ⟨r, 10, none⟩ = some (.bool v.taken) :=
  ⟨⟨(cell_of h).trans rfl, (cell_of h).trans rfl, (cell_of h).trans rfl, (cell_of h).trans rfl, (cell_of h).trans rfl, (cell_of h).trans rfl⟩, (cell_of h).trans rfl, (cell_of h).trans rfl, (cell_of h).trans rfl, (cell_of h).trans rfl, (cell_of h).trans rfl⟩
theorem pnr_free (h : X.heap[r]? = some (pnrO v)) (i : Nat) : X.frozen? ⟨r, i, none⟩ = false := by simp [World.frozen?, h]
end

end Go.Proofs.Ytpnfbabiibopnaa

/-! pin's routine: todo and Act. -/
namespace Go.Proofs.Ytpnfbabiibopnaa
open Go Go.RowKit
attribute [local go_sem ↓] Go.wp_at_zero Go.wp_at_succ

/-! ### todo -/
def PtodoE (y : ActD) (W : World) (e : Ending) (W' : World) : Prop := e = .returned (actOf y) ∧ Below W.heap.size W W'
theorem ptodo_end {W X : World} {n : Nat} {x : ActD} {T : Array Value} (h : X.heap[n]? = some (.cells (actCells x) 59 (0, 0))) (hb : Below W.heap.size W X) (h2 : T.getD 2 undef = .pointer (some ⟨n, 0, none⟩)) :
    bodyPost Try.prog Try.f60 (PtodoE x W) .ret { tmps := T, defers := [] } X :=
  bodyPost_ret (v := actOf x) (by rw [results_cell1 (by rfl), h2]; simp only [asAddr, Sem.run_pure, Result.andThen_ok, load_act h]) rfl ⟨rfl, hb⟩
/-- The routine, and the box of the act that is told. -/
structure TodoI (W : World) (r : Nat) (v : PinD) (X : World) : Prop where
  own : X.heap[r]? = some (pnrO v)
  box : X.heap[W.heap.size]? = some noO
  lo : Below W.heap.size W X
theorem TodoI.below {W X Y : World} {r : Nat} {v : PinD} (h : TodoI W r v X) (hb : Below X.heap.size X Y) : TodoI W r v Y :=
  ⟨(hb.block _ (heap_at_lt h.own)).trans h.own, (hb.block _ (heap_at_lt h.box)).trans h.box, h.lo.trans (hb.mono h.lo.size)⟩
/-- What the region that tells an act at a pin reads. -/
def Seven (r : Nat) (v : PinD) (X : World) : Prop := X.cell? ⟨r, 0, none⟩ = some (.int .i64 v.a) ∧ X.cell? ⟨r, 1, none⟩ = some (.int .i64 v.p) ∧ X.cell? ⟨r, 2, none⟩ = some (.int .i64 v.s) ∧ X.cell? ⟨r, 3, none⟩ = some (.int .i64 v.q) ∧ X.cell? ⟨r, 4, none⟩ = some (.int .i64 v.v) ∧ X.cell? ⟨r, 5, none⟩ = some (.int .u64 v.x) ∧ X.cell? ⟨r, 8, none⟩ = some (.int .i64 v.pn)
theorem TodoI.seven {W X : World} {r : Nat} {v : PinD} (h : TodoI W r v X) : Seven r v X := by
  obtain ⟨⟨c0, c1, c2, c3, c4, c5⟩, -, -, c8, -, -⟩ := pnr_at h.own
  exact ⟨c0, c1, c2, c3, c4, c5, c8⟩

set_option maxRecDepth 100000 in
set_option maxHeartbeats 4000000 in
theorem ptodo_look (W : World) {r : Nat} {v : PinD} (h : W.heap[r]? = some (pnrO v)) (hp : v.part = 1 ∨ v.part = 3) :
    Calls Try.prog 60 #[.pointer (some ⟨r, 0, none⟩)] W (PtodoE loadE W) := by
  have HI := Lib.hid (show TodoI W r v (W.alloc noO) from ⟨((below_alloc W noO).block r (heap_at_lt h)).trans h, World.alloc_heap_new W noO, below_alloc W noO⟩)
  obtain ⟨⟨c0, c1, c2, c3, c4, c5⟩, c6, c7, c8, c9, c10⟩ := pnr_at HI.out.own
  obtain ⟨z0, z1, z2, z3, z4, z5⟩ := six_free HI.out.box
  obtain ⟨m0, m1, m2, m3, m4, m5⟩ := six_at HI.out.box
  clear h
  rcases hp with hp | hp
  all_goals
    rw [hp] at c6
    clear hp
    go_enter Try.func60, Try.ntmps60
    go_wp2_with fail
    refine bodyPost_ret (v := actOf loadE) (by rw [results_cell1 (by rfl)]; go_simp; exact ⟨rfl, rfl, rfl, rfl, rfl, rfl⟩) rfl ⟨rfl, ?_⟩
    exact below_alloc _ _

set_option maxRecDepth 100000 in
set_option maxHeartbeats 4000000 in
theorem ptodo_none (W : World) {r : Nat} {v : PinD} (h : W.heap[r]? = some (pnrO v)) (hp : v.part = 0 ∨ v.part = 5) :
    Calls Try.prog 60 #[.pointer (some ⟨r, 0, none⟩)] W (PtodoE noAct W) := by
  have HI := Lib.hid (show TodoI W r v (W.alloc noO) from ⟨((below_alloc W noO).block r (heap_at_lt h)).trans h, World.alloc_heap_new W noO, below_alloc W noO⟩)
  obtain ⟨⟨c0, c1, c2, c3, c4, c5⟩, c6, c7, c8, c9, c10⟩ := pnr_at HI.out.own
  obtain ⟨z0, z1, z2, z3, z4, z5⟩ := six_free HI.out.box
  obtain ⟨m0, m1, m2, m3, m4, m5⟩ := six_at HI.out.box
  clear h
  rcases hp with hp | hp
  all_goals
    rw [hp] at c6
    clear hp
    go_enter Try.func60, Try.ntmps60
    go_wp2_with fail
    refine bodyPost_ret (v := actOf noAct) (by rw [results_cell1 (by rfl)]; go_simp; exact ⟨rfl, rfl, rfl, rfl, rfl, rfl⟩) rfl ⟨rfl, ?_⟩
    exact below_alloc _ _

/-- The act is told. -/
theorem TodoI.put {W X : World} {r : Nat} {v : PinD} (h : TodoI W r v X) (x : ActD) :
    ((((((X.setCell ⟨W.heap.size, 0, none⟩ (.int .i64 x.kind)).setCell ⟨W.heap.size, 1, none⟩ (.int .u64 (x.block : Int))).setCell ⟨W.heap.size, 2, none⟩ (.int .i64 x.cell)).setCell ⟨W.heap.size, 3, none⟩ (.int .u64 x.old)).setCell ⟨W.heap.size, 4, none⟩ (.int .u64 x.new)).setCell ⟨W.heap.size, 5, none⟩ (.string x.text)).heap[W.heap.size]? = some (.cells (actCells x) 59 (0, 0)) ∧
    Below W.heap.size W ((((((X.setCell ⟨W.heap.size, 0, none⟩ (.int .i64 x.kind)).setCell ⟨W.heap.size, 1, none⟩ (.int .u64 (x.block : Int))).setCell ⟨W.heap.size, 2, none⟩ (.int .i64 x.cell)).setCell ⟨W.heap.size, 3, none⟩ (.int .u64 x.old)).setCell ⟨W.heap.size, 4, none⟩ (.int .u64 x.new)).setCell ⟨W.heap.size, 5, none⟩ (.string x.text)) ∧
    (W.heap.size ≠ r → Seven r v ((((((X.setCell ⟨W.heap.size, 0, none⟩ (.int .i64 x.kind)).setCell ⟨W.heap.size, 1, none⟩ (.int .u64 (x.block : Int))).setCell ⟨W.heap.size, 2, none⟩ (.int .i64 x.cell)).setCell ⟨W.heap.size, 3, none⟩ (.int .u64 x.old)).setCell ⟨W.heap.size, 4, none⟩ (.int .u64 x.new)).setCell ⟨W.heap.size, 5, none⟩ (.string x.text))) := by
  refine ⟨set6 h.box _ _ _ _ _ _, below6 h.lo (Nat.le_refl _) _ _ _ _ _ _, fun hne => ?_⟩
  have hc : ∀ i, ((((((X.setCell ⟨W.heap.size, 0, none⟩ (.int .i64 x.kind)).setCell ⟨W.heap.size, 1, none⟩ (.int .u64 (x.block : Int))).setCell ⟨W.heap.size, 2, none⟩ (.int .i64 x.cell)).setCell ⟨W.heap.size, 3, none⟩ (.int .u64 x.old)).setCell ⟨W.heap.size, 4, none⟩ (.int .u64 x.new)).setCell ⟨W.heap.size, 5, none⟩ (.string x.text)).cell? ⟨r, i, none⟩ = X.cell? ⟨r, i, none⟩ := fun i => World.cell?_of_block (a := ⟨r, i, none⟩) (by
    have hk : r ≠ W.heap.size := Ne.symm hne
    rw [Below.heap_setCell _ _ _ _ hk, Below.heap_setCell _ _ _ _ hk, Below.heap_setCell _ _ _ _ hk, Below.heap_setCell _ _ _ _ hk, Below.heap_setCell _ _ _ _ hk, Below.heap_setCell _ _ _ _ hk])
  obtain ⟨h0, h1, h2, h3, h4, h5, h8⟩ := h.seven
  exact ⟨(hc _).trans h0, (hc _).trans h1, (hc _).trans h2, (hc _).trans h3, (hc _).trans h4, (hc _).trans h5, (hc _).trans h8⟩

-- BEGIN
set_option maxRecDepth 100000 in
set_option maxHeartbeats 4000000 in
theorem ptodo_try (W : World) {r : Nat} {v : PinD} (h : W.heap[r]? = some (pnrO v)) (hp : v.part = 2) :
    Calls Try.prog 60 #[.pointer (some ⟨r, 0, none⟩)] W (PtodoE (swapE v.cell v.ep) W) := by
  have HI := Lib.hid (show TodoI W r v (W.alloc noO) from ⟨((below_alloc W noO).block r (heap_at_lt h)).trans h, World.alloc_heap_new W noO, below_alloc W noO⟩)
  have HP := Lib.hid (fun X => pin_any v.a v.p v.s v.q v.v v.x v.pn X)
  obtain ⟨c, hc⟩ : ∃ c, v.cell = c := ⟨_, rfl⟩
  have hc' : pinW v.a v.p v.s v.q v.v v.pn = c := hc
  rw [hc'] at HP
  rw [hc]
  obtain ⟨⟨c0, c1, c2, c3, c4, c5⟩, c6, c7, c8, c9, c10⟩ := pnr_at HI.out.own
  rw [hp] at c6
  have HNe := Lib.hid (show W.heap.size ≠ r from by have := heap_at_lt h; omega)
  clear h hp hc hc'
  go_enter Try.func60, Try.ntmps60
  go_wp2_with fail
  clear c0 c1 c2 c3 c4 c5 c6 c7 c8 c9 c10
  have HS := Lib.hid (show Seven r v (W.alloc noO).drew from (HI.out.below (below_drew _)).seven)
  refine wp_region_held_drew (S := fun w' => w'.cell? ⟨r, 0, none⟩ = some (.int .i64 v.a) ∧ w'.cell? ⟨r, 1, none⟩ = some (.int .i64 v.p) ∧ w'.cell? ⟨r, 2, none⟩ = some (.int .i64 v.s) ∧ w'.cell? ⟨r, 3, none⟩ = some (.int .i64 v.q) ∧ w'.cell? ⟨r, 4, none⟩ = some (.int .i64 v.v) ∧ w'.cell? ⟨r, 5, none⟩ = some (.int .u64 v.x) ∧ w'.cell? ⟨r, 8, none⟩ = some (.int .i64 v.pn)) (by kernel_rfl) HS.out (fun _ => ?_)
  refine (fun h => h) ?_
  refine wpAnyH_look (i := 0) (v := ?v0) 20 rfl (by kernel_rfl) (by kernel_rfl) (by kernel_rfl) (fun _ _ _ _ h => h) (by rfl) HS.out (Or.inl ⟨by rfl, ?y0⟩) ?r0
  case y0 => intro w hSw; (try dsimp only at hSw); go_simp; (try with_reducible rfl)
  simp only [List.setIfInBounds_toArray, List.set_cons_zero, List.set_cons_succ]
  refine wpAnyH_look (i := 1) (v := ?v1) 21 rfl (by kernel_rfl) (by kernel_rfl) (by kernel_rfl) (fun _ _ _ _ h => h) (by rfl) HS.out (Or.inl ⟨by rfl, ?y1⟩) ?r1
  case y1 => intro w hSw; (try dsimp only at hSw); go_simp; (try with_reducible rfl)
  simp only [List.setIfInBounds_toArray, List.set_cons_zero, List.set_cons_succ]
  refine wpAnyH_look (i := 2) (v := ?v2) 22 rfl (by kernel_rfl) (by kernel_rfl) (by kernel_rfl) (fun _ _ _ _ h => h) (by rfl) HS.out (Or.inl ⟨by rfl, ?y2⟩) ?r2
  case y2 => intro w hSw; (try dsimp only at hSw); go_simp; (try with_reducible rfl)
  simp only [List.setIfInBounds_toArray, List.set_cons_zero, List.set_cons_succ]
  refine wpAnyH_look (i := 3) (v := ?v3) 23 rfl (by kernel_rfl) (by kernel_rfl) (by kernel_rfl) (fun _ _ _ _ h => h) (by rfl) HS.out (Or.inl ⟨by rfl, ?y3⟩) ?r3
  case y3 => intro w hSw; (try dsimp only at hSw); go_simp; (try with_reducible rfl)
  simp only [List.setIfInBounds_toArray, List.set_cons_zero, List.set_cons_succ]
  refine wpAnyH_look (i := 4) (v := ?v4) 24 rfl (by kernel_rfl) (by kernel_rfl) (by kernel_rfl) (fun _ _ _ _ h => h) (by rfl) HS.out (Or.inl ⟨by rfl, ?y4⟩) ?r4
  case y4 => intro w hSw; (try dsimp only at hSw); go_simp; (try with_reducible rfl)
  simp only [List.setIfInBounds_toArray, List.set_cons_zero, List.set_cons_succ]
  refine wpAnyH_look (i := 5) (v := ?v5) 25 rfl (by kernel_rfl) (by kernel_rfl) (by kernel_rfl) (fun _ _ _ _ h => h) (by rfl) HS.out (Or.inl ⟨by rfl, ?y5⟩) ?r5
  case y5 => intro w hSw; (try dsimp only at hSw); go_simp; (try with_reducible rfl)
  simp only [List.setIfInBounds_toArray, List.set_cons_zero, List.set_cons_succ]
  refine wpAnyH_look (i := 6) (v := ?v6) 26 rfl (by kernel_rfl) (by kernel_rfl) (by kernel_rfl) (fun _ _ _ _ h => h) (by rfl) HS.out (Or.inl ⟨by rfl, ?y6⟩) ?r6
  case y6 => intro w hSw; (try dsimp only at hSw); go_simp; (try with_reducible rfl)
  simp only [List.setIfInBounds_toArray, List.set_cons_zero, List.set_cons_succ]
  refine wpAnyH_look (i := 7) (v := ?v7) 27 rfl (by kernel_rfl) (by kernel_rfl) (by kernel_rfl) (fun _ _ _ _ h => h) (by rfl) HS.out (Or.inl ⟨by rfl, ?y7⟩) ?r7
  case y7 => intro w hSw; (try dsimp only at hSw); go_simp; (try with_reducible rfl)
  simp only [List.setIfInBounds_toArray, List.set_cons_zero, List.set_cons_succ]
  refine wpAnyH_look (i := 8) (v := ?v8) 28 rfl (by kernel_rfl) (by kernel_rfl) (by kernel_rfl) (fun _ _ _ _ h => h) (by rfl) HS.out (Or.inl ⟨by rfl, ?y8⟩) ?r8
  case y8 => intro w hSw; (try dsimp only at hSw); go_simp; (try with_reducible rfl)
  simp only [List.setIfInBounds_toArray, List.set_cons_zero, List.set_cons_succ]
  refine wpAnyH_look (i := 10) (v := ?v10) 30 rfl (by kernel_rfl) (by kernel_rfl) (by kernel_rfl) (fun _ _ _ _ h => h) (by rfl) HS.out (Or.inl ⟨by rfl, ?y10⟩) ?r10
  case y10 => intro w hSw; (try dsimp only at hSw); go_simp; (try with_reducible rfl)
  simp only [List.setIfInBounds_toArray, List.set_cons_zero, List.set_cons_succ]
  refine wpAnyH_ready (rs := [9]) (by kernel_rfl) (by simp) ?_
  refine AllReadyH.cons rfl (fun K hK => ?_) AllReadyH.nil
  go_simp
  go_at_call 17
  refine (HP.out _).mono ?_
  rintro en x1 ⟨rfl, hb⟩
  have HI1 := Lib.hid ((HI.out.below (below_drew _)).below hb)
  have HS := Lib.hid HI1.out.seven
  clear hb
  go_simp
  refine hK.out _ _ HS.out (fun _ => ?_)
  clear hK K
  refine wpAnyH_look (i := 11) (v := ?v11) 31 rfl (by kernel_rfl) (by kernel_rfl) (by kernel_rfl) (fun _ _ _ _ h => h) (by rfl) HS.out (Or.inl ⟨by rfl, ?y11⟩) ?r11
  case y11 => intro w hSw; (try dsimp only at hSw); go_simp; (try with_reducible rfl)
  simp only [List.setIfInBounds_toArray, List.set_cons_zero, List.set_cons_succ]
  obtain ⟨z0, z1, z2, z3, z4, z5⟩ := six_free HI1.out.box
  obtain ⟨m0, m1, m2, m3, m4, m5⟩ := six_at HI1.out.box
  have HE := Lib.hid (HI1.out.put (swapE c v.ep))
  refine wpAnyH_ready (rs := [12]) (by kernel_rfl) (by simp) ?_
  refine AllReadyH.cons rfl (fun K hK => ?_) AllReadyH.nil
  go_simp
  have HS := Lib.hid (HE.out.2.2 HNe.out)
  refine hK.out _ _ HS.out (fun _ => ?_)
  clear hK K
  refine ⟨by kernel_rfl, ?_⟩
  go_wp2_with fail
  exact ptodo_end HE.out.1 HE.out.2.1 rfl

set_option maxRecDepth 100000 in
set_option maxHeartbeats 4000000 in
theorem ptodo_set (W : World) {r : Nat} {v : PinD} (h : W.heap[r]? = some (pnrO v)) (hp : v.part = 4) :
    Calls Try.prog 60 #[.pointer (some ⟨r, 0, none⟩)] W (PtodoE (storeE v.cell v.ep) W) := by
  have HI := Lib.hid (show TodoI W r v (W.alloc noO) from ⟨((below_alloc W noO).block r (heap_at_lt h)).trans h, World.alloc_heap_new W noO, below_alloc W noO⟩)
  have HP := Lib.hid (fun X => pin_any v.a v.p v.s v.q v.v v.x v.pn X)
  obtain ⟨c, hc⟩ : ∃ c, v.cell = c := ⟨_, rfl⟩
  have hc' : pinW v.a v.p v.s v.q v.v v.pn = c := hc
  rw [hc'] at HP
  rw [hc]
  obtain ⟨⟨c0, c1, c2, c3, c4, c5⟩, c6, c7, c8, c9, c10⟩ := pnr_at HI.out.own
  rw [hp] at c6
  have HNe := Lib.hid (show W.heap.size ≠ r from by have := heap_at_lt h; omega)
  clear h hp hc hc'
  go_enter Try.func60, Try.ntmps60
  go_wp2_with fail
  clear c0 c1 c2 c3 c4 c5 c6 c7 c8 c9 c10
  have HS := Lib.hid (show Seven r v (W.alloc noO).drew from (HI.out.below (below_drew _)).seven)
  refine wp_region_held_drew (S := fun w' => w'.cell? ⟨r, 0, none⟩ = some (.int .i64 v.a) ∧ w'.cell? ⟨r, 1, none⟩ = some (.int .i64 v.p) ∧ w'.cell? ⟨r, 2, none⟩ = some (.int .i64 v.s) ∧ w'.cell? ⟨r, 3, none⟩ = some (.int .i64 v.q) ∧ w'.cell? ⟨r, 4, none⟩ = some (.int .i64 v.v) ∧ w'.cell? ⟨r, 5, none⟩ = some (.int .u64 v.x) ∧ w'.cell? ⟨r, 8, none⟩ = some (.int .i64 v.pn)) (by kernel_rfl) HS.out (fun _ => ?_)
  refine (fun h => h) ?_
  refine wpAnyH_look (i := 0) (v := ?v0) 34 rfl (by kernel_rfl) (by kernel_rfl) (by kernel_rfl) (fun _ _ _ _ h => h) (by rfl) HS.out (Or.inl ⟨by rfl, ?y0⟩) ?r0
  case y0 => intro w hSw; (try dsimp only at hSw); go_simp; (try with_reducible rfl)
  simp only [List.setIfInBounds_toArray, List.set_cons_zero, List.set_cons_succ]
  refine wpAnyH_look (i := 1) (v := ?v1) 35 rfl (by kernel_rfl) (by kernel_rfl) (by kernel_rfl) (fun _ _ _ _ h => h) (by rfl) HS.out (Or.inl ⟨by rfl, ?y1⟩) ?r1
  case y1 => intro w hSw; (try dsimp only at hSw); go_simp; (try with_reducible rfl)
  simp only [List.setIfInBounds_toArray, List.set_cons_zero, List.set_cons_succ]
  refine wpAnyH_look (i := 2) (v := ?v2) 36 rfl (by kernel_rfl) (by kernel_rfl) (by kernel_rfl) (fun _ _ _ _ h => h) (by rfl) HS.out (Or.inl ⟨by rfl, ?y2⟩) ?r2
  case y2 => intro w hSw; (try dsimp only at hSw); go_simp; (try with_reducible rfl)
  simp only [List.setIfInBounds_toArray, List.set_cons_zero, List.set_cons_succ]
  refine wpAnyH_look (i := 3) (v := ?v3) 37 rfl (by kernel_rfl) (by kernel_rfl) (by kernel_rfl) (fun _ _ _ _ h => h) (by rfl) HS.out (Or.inl ⟨by rfl, ?y3⟩) ?r3
  case y3 => intro w hSw; (try dsimp only at hSw); go_simp; (try with_reducible rfl)
  simp only [List.setIfInBounds_toArray, List.set_cons_zero, List.set_cons_succ]
  refine wpAnyH_look (i := 4) (v := ?v4) 38 rfl (by kernel_rfl) (by kernel_rfl) (by kernel_rfl) (fun _ _ _ _ h => h) (by rfl) HS.out (Or.inl ⟨by rfl, ?y4⟩) ?r4
  case y4 => intro w hSw; (try dsimp only at hSw); go_simp; (try with_reducible rfl)
  simp only [List.setIfInBounds_toArray, List.set_cons_zero, List.set_cons_succ]
  refine wpAnyH_look (i := 5) (v := ?v5) 39 rfl (by kernel_rfl) (by kernel_rfl) (by kernel_rfl) (fun _ _ _ _ h => h) (by rfl) HS.out (Or.inl ⟨by rfl, ?y5⟩) ?r5
  case y5 => intro w hSw; (try dsimp only at hSw); go_simp; (try with_reducible rfl)
  simp only [List.setIfInBounds_toArray, List.set_cons_zero, List.set_cons_succ]
  refine wpAnyH_look (i := 6) (v := ?v6) 40 rfl (by kernel_rfl) (by kernel_rfl) (by kernel_rfl) (fun _ _ _ _ h => h) (by rfl) HS.out (Or.inl ⟨by rfl, ?y6⟩) ?r6
  case y6 => intro w hSw; (try dsimp only at hSw); go_simp; (try with_reducible rfl)
  simp only [List.setIfInBounds_toArray, List.set_cons_zero, List.set_cons_succ]
  refine wpAnyH_look (i := 7) (v := ?v7) 41 rfl (by kernel_rfl) (by kernel_rfl) (by kernel_rfl) (fun _ _ _ _ h => h) (by rfl) HS.out (Or.inl ⟨by rfl, ?y7⟩) ?r7
  case y7 => intro w hSw; (try dsimp only at hSw); go_simp; (try with_reducible rfl)
  simp only [List.setIfInBounds_toArray, List.set_cons_zero, List.set_cons_succ]
  refine wpAnyH_look (i := 8) (v := ?v8) 42 rfl (by kernel_rfl) (by kernel_rfl) (by kernel_rfl) (fun _ _ _ _ h => h) (by rfl) HS.out (Or.inl ⟨by rfl, ?y8⟩) ?r8
  case y8 => intro w hSw; (try dsimp only at hSw); go_simp; (try with_reducible rfl)
  simp only [List.setIfInBounds_toArray, List.set_cons_zero, List.set_cons_succ]
  refine wpAnyH_look (i := 10) (v := ?v10) 44 rfl (by kernel_rfl) (by kernel_rfl) (by kernel_rfl) (fun _ _ _ _ h => h) (by rfl) HS.out (Or.inl ⟨by rfl, ?y10⟩) ?r10
  case y10 => intro w hSw; (try dsimp only at hSw); go_simp; (try with_reducible rfl)
  simp only [List.setIfInBounds_toArray, List.set_cons_zero, List.set_cons_succ]
  refine wpAnyH_ready (rs := [9]) (by kernel_rfl) (by simp) ?_
  refine AllReadyH.cons rfl (fun K hK => ?_) AllReadyH.nil
  go_simp
  go_at_call 17
  refine (HP.out _).mono ?_
  rintro en x1 ⟨rfl, hb⟩
  have HI1 := Lib.hid ((HI.out.below (below_drew _)).below hb)
  have HS := Lib.hid HI1.out.seven
  clear hb
  go_simp
  refine hK.out _ _ HS.out (fun _ => ?_)
  clear hK K
  refine wpAnyH_look (i := 11) (v := ?v11) 45 rfl (by kernel_rfl) (by kernel_rfl) (by kernel_rfl) (fun _ _ _ _ h => h) (by rfl) HS.out (Or.inl ⟨by rfl, ?y11⟩) ?r11
  case y11 => intro w hSw; (try dsimp only at hSw); go_simp; (try with_reducible rfl)
  simp only [List.setIfInBounds_toArray, List.set_cons_zero, List.set_cons_succ]
  obtain ⟨z0, z1, z2, z3, z4, z5⟩ := six_free HI1.out.box
  obtain ⟨m0, m1, m2, m3, m4, m5⟩ := six_at HI1.out.box
  have HE := Lib.hid (HI1.out.put (storeE c v.ep))
  refine wpAnyH_ready (rs := [12]) (by kernel_rfl) (by simp) ?_
  refine AllReadyH.cons rfl (fun K hK => ?_) AllReadyH.nil
  go_simp
  have HS := Lib.hid (HE.out.2.2 HNe.out)
  refine hK.out _ _ HS.out (fun _ => ?_)
  clear hK K
  refine ⟨by kernel_rfl, ?_⟩
  go_wp2_with fail
  exact ptodo_end HE.out.1 HE.out.2.1 rfl

-- END

/-! ### Act -/
def PactE (y : ActD) (q : Bool) (W : World) (e : Ending) (W' : World) : Prop := e = .returned (.tuple #[actOf y, .bool q]) ∧ Below W.heap.size W W'
theorem pact_end {W X : World} {n : Nat} {x : ActD} {is : Bool} {T : Array Value} (h : X.heap[n]? = some noO) (hb : Below W.heap.size W X) (hn : W.heap.size ≤ n) (h2 : T.getD 2 undef = .pointer (some ⟨n, 0, none⟩)) (h3 : T.getD 3 undef = .bool is) :
    bodyPost Try.prog Try.f36 (PactE x is W) .ret { tmps := T, defers := [] }
      (((((((X.setCell ⟨n, 0, none⟩ (.int .i64 x.kind)).setCell ⟨n, 1, none⟩ (.int .u64 (x.block : Int))).setCell ⟨n, 2, none⟩ (.int .i64 x.cell)).setCell ⟨n, 3, none⟩ (.int .u64 x.old)).setCell ⟨n, 4, none⟩ (.int .u64 x.new)).setCell ⟨n, 5, none⟩ (.string x.text)).drew) := by
  have h6 := set6 h (.int .i64 x.kind) (.int .u64 (x.block : Int)) (.int .i64 x.cell) (.int .u64 x.old) (.int .u64 x.new) (.string x.text)
  have hb6 := below_turned (below6 hb hn (.int .i64 x.kind) (.int .u64 (x.block : Int)) (.int .i64 x.cell) (.int .u64 x.old) (.int .u64 x.new) (.string x.text))
  generalize ((((((X.setCell ⟨n, 0, none⟩ (.int .i64 x.kind)).setCell ⟨n, 1, none⟩ (.int .u64 (x.block : Int))).setCell ⟨n, 2, none⟩ (.int .i64 x.cell)).setCell ⟨n, 3, none⟩ (.int .u64 x.old)).setCell ⟨n, 4, none⟩ (.int .u64 x.new)).setCell ⟨n, 5, none⟩ (.string x.text)) = Y at h6 hb6 ⊢
  have h7 : Y.drew.heap[n]? = some (.cells (actCells x) 59 (0, 0)) := h6
  exact bodyPost_ret (v := .tuple #[actOf x, .bool is]) (by rw [results_cell2 (by rfl), h2, h3]; simp only [asAddr, Sem.run_pure, Result.andThen_ok, load_act h7]) rfl ⟨rfl, hb6⟩
theorem ptodo_any (W : World) {r : Nat} {v : PinD} (h : W.heap[r]? = some (pnrO v)) (hv : v.part ≤ 5) :
    Calls Try.prog 60 #[.pointer (some ⟨r, 0, none⟩)] W (PtodoE ((nextP v).getD noAct) W) := by
  have h6 : v.part = 0 ∨ v.part = 1 ∨ v.part = 2 ∨ v.part = 3 ∨ v.part = 4 ∨ v.part = 5 := by omega
  unfold nextP
  rcases h6 with e | e | e | e | e | e
  · have := ptodo_none W h (.inl e); rw [e]; exact this
  · have := ptodo_look W h (.inl e); rw [e]; exact this
  · have := ptodo_try W h e; rw [e]; exact this
  · have := ptodo_look W h (.inr e); rw [e]; exact this
  · have := ptodo_set W h e; rw [e]; exact this
  · have := ptodo_none W h (.inr e); rw [e]; exact this
theorem pact_mid {W w1 : World} (HN : (W.alloc noO).heap[W.heap.size]? = some noO) (hb : Below (W.alloc noO).heap.size (W.alloc noO) w1) :
    w1.heap[W.heap.size]? = some noO ∧ Below W.heap.size W w1 :=
  ⟨(hb.block _ (heap_at_lt HN)).trans HN, (below_alloc W noO).trans (hb.mono (below_alloc W noO).size)⟩

set_option maxRecDepth 100000 in
set_option maxHeartbeats 4000000 in
theorem pact_any (W : World) {r : Nat} {v : PinD} (h : W.heap[r]? = some (pnrO v)) (hv : v.part ≤ 5) :
    Calls Try.prog 36 #[.pointer (some ⟨r, 0, none⟩)] W (PactE ((nextP v).getD noAct) (nextP v).isSome W) := by
  have HB := Lib.hid (below_alloc W noO)
  have HN := Lib.hid (World.alloc_heap_new W noO)
  have HT := Lib.hid (fun X (hX : Below W.heap.size W X) => ptodo_any X ((hX.block r (heap_at_lt h)).trans h) hv)
  obtain ⟨o, ho⟩ : ∃ o, nextP v = o := ⟨_, rfl⟩
  have hk : ∀ x, o = some x → x.kind = 1 ∨ x.kind = 2 ∨ x.kind = 3 := fun x hx => (nextP_fits (ho.trans hx)).2
  rw [ho] at HT ⊢
  obtain ⟨y, hy⟩ : ∃ y, o.getD noAct = y := ⟨_, rfl⟩
  obtain ⟨q, hq⟩ : ∃ q, o.isSome = q := ⟨_, rfl⟩
  have hrun : ∀ w : World, (binOp .neq 59 (actV y.kind y.block y.cell y.old y.new y.text) (actV 0 0 0 0 0 ⟨#[]⟩)).run Try.prog w = .ok (.bool q) w := fun w => by
    rw [neqA_run, ← hq, ← hy]
    cases o with
    | none => simp [noAct]
    | some x =>
      have : (x.kind == 0) = false := by rcases hk x rfl with e | e | e <;> rw [e] <;> rfl
      simp [this]
  have HY := Lib.hid hy
  rw [hy, hq]
  clear h hv hk hq ho hy
  go_enter Try.func36, Try.ntmps36
  go_wp2_with fail
  refine (HT.out _ HB.out).mono ?_
  rintro en w1 ⟨rfl, hb⟩
  rw [HY.out]
  obtain ⟨h1, hb1⟩ := pact_mid HN.out hb
  have hne := heap_at_lt h1
  have HB1 := Lib.hid (hb1.trans ((below_alloc w1 (actO y)).mono hb1.size))
  have H1 := Lib.hid (((below_alloc w1 (actO y)).block _ hne).trans h1)
  have HA1 := Lib.hid (World.alloc_heap_new w1 (actO y))
  obtain ⟨n1, hn1⟩ : ∃ n, w1.heap.size = n := ⟨_, rfl⟩
  go_wp2_with fail
  rw [hn1] at HA1 hne
  generalize w1.alloc (actO y) = w2 at HB1 H1 HA1 ⊢
  have hne' : W.heap.size ≠ n1 := by omega
  obtain ⟨z0, z1, z2, z3, z4, z5⟩ := six_free H1.out
  obtain ⟨m0, m1, m2, m3, m4, m5⟩ := six_at H1.out
  obtain ⟨a0, a1, a2, a3, a4, a5⟩ := six_at HA1.out
  clear hb h1 hb1 hne hn1
  go_region
  all_goals
    go_wp2_with fail
    exact pact_end H1.out HB1.out (Nat.le_refl _) rfl rfl
set_option maxRecDepth 100000 in
set_option maxHeartbeats 800000 in
/-- No routine. -/
theorem pact_nil (W : World) : Calls Try.prog 36 #[.pointer none] W (PactE noAct false W) := by
  have HB := Lib.hid (below_alloc W noO)
  have HN := Lib.hid (World.alloc_heap_new W noO)
  obtain ⟨z0, z1, z2, z3, z4, z5⟩ := six_free HN.out
  obtain ⟨m0, m1, m2, m3, m4, m5⟩ := six_at HN.out
  go_enter Try.func36, Try.ntmps36
  go_wp2_with fail
  refine bodyPost_ret (v := .tuple #[actOf noAct, .bool false]) (by rw [results_cell2 (by rfl)]; go_simp; exact ⟨rfl, rfl, rfl, rfl, rfl, rfl⟩) rfl ⟨rfl, ?_⟩
  exact HB.out

end Go.Proofs.Ytpnfbabiibopnaa

/-! pin's routine: try, look, Take, Result. -/
namespace Go.Proofs.Ytpnfbabiibopnaa
open Go Go.RowKit
attribute [local go_sem ↓] Go.wp_at_zero Go.wp_at_succ

/-- What is left of a call that turns the routine alone. -/
def PtakeE (v : PinD) (r : Nat) (W : World) (e : Ending) (W' : World) : Prop := e = .returned (.tuple #[]) ∧ W'.heap[r]? = some (pnrO v) ∧ Step (fun k => k = r) (fun k => k = r) W W'
structure PMid (W : World) (r : Nat) (v : PinD) (X : World) : Prop where
  own : X.heap[r]? = some (pnrO v)
  st : Step (fun k => k = r) (fun k => k = r) W X
section
variable {W X Y : World} {r : Nat} {v : PinD}
theorem PMid.below (h : PMid W r v X) (hb : Below X.heap.size X Y) : PMid W r v Y := ⟨(hb.block _ (heap_at_lt h.own)).trans h.own, h.st.trans (Step.of_below hb)⟩
theorem PMid.set (h : PMid W r v X) (i : Nat) (u : Value) {v' : PinD} (e : (pnrC v).setIfInBounds i u = pnrC v') : PMid W r v' (X.setCell ⟨r, i, none⟩ u) := ⟨(heap_setAt h.own).trans (by rw [e]), h.st.trans (Step.setCell u rfl)⟩
theorem PMid.end (h : PMid W r v X) : PtakeE v r W (.returned (.tuple #[])) X := ⟨rfl, h.own, h.st⟩
end

set_option maxRecDepth 100000 in
set_option maxHeartbeats 2000000 in
theorem ptry_free (W : World) {r : Nat} {v : PinD} (h : W.heap[r]? = some (pnrO v)) :
    Calls Try.prog 98 #[.pointer (some ⟨r, 0, none⟩), .bool true] W (PtakeE (v.to 3) r W) := by
  have HF := Lib.hid ((show PMid W r v W from ⟨h, Step.refl _ _⟩).set 6 (.int .i64 3) (v' := v.to 3) rfl).end
  have z6 := pnr_free h 6
  have c6 := (pnr_at h).2.1
  clear h
  go_enter Try.func98, Try.ntmps98
  go_wp2_with fail
  go_end0
  exact HF.out

set_option maxRecDepth 100000 in
set_option maxHeartbeats 4000000 in
theorem ptry_miss (W : World) {r : Nat} {v : PinD} (h : W.heap[r]? = some (pnrO v)) (hp : 1 ≤ v.p ∧ v.p ≤ 8) (ht : 0 ≤ v.tried ∧ v.tried < v.p) (hn : 0 ≤ v.pn ∧ v.pn < v.p) (h2 : v.part = 2) :
    Calls Try.prog 98 #[.pointer (some ⟨r, 0, none⟩), .bool false] W (PtakeE v.miss r W) := by
  obtain ⟨a, p, s, q, v', x, part, tried, pn, ep, tk⟩ := v
  simp only at hp ht hn h2
  subst h2
  have HA := Lib.hid (show PMid W r ⟨a, p, s, q, v', x, 2, tried + 1, pn, ep, tk⟩ (W.setCell ⟨r, 7, none⟩ (.int .i64 (tried + 1))) from (show PMid W r _ W from ⟨h, Step.refl _ _⟩).set 7 _ rfl)
  have z7 := pnr_free h 7
  have c7 := (pnr_at h).2.2.1
  simp only at c7
  obtain ⟨m, hm⟩ : ∃ m, (pn + 1) % p = m := ⟨_, rfl⟩
  have hm0 := Int.emod_nonneg (pn + 1) (show p ≠ 0 by omega)
  have hm1 := Int.emod_lt_of_pos (pn + 1) (show 0 < p by omega)
  have htm := tmod_of (a := p) (show 0 ≤ pn + 1 by omega)
  rw [hm] at hm0 hm1 htm
  have hwm : IntKind.i64.wrap m = m := awrap (by omega)
  have hwn : IntKind.i64.wrap (pn + 1) = pn + 1 := awrap (by omega)
  have hwt : IntKind.i64.wrap (tried + 1) = tried + 1 := awrap (by omega)
  have hp0 : ¬ p = 0 := by omega
  have hmix : Try.prog.follows .mixedOrders = true := by kernel_rfl
  have HMs := Lib.hid (show PinD.miss ⟨a, p, s, q, v', x, 2, tried, pn, ep, tk⟩ = if tried + 1 = p then ⟨a, p, s, q, v', x, 5, tried + 1, 0, 0, true⟩ else ⟨a, p, s, q, v', x, 2, tried + 1, m, ep, tk⟩ from by rw [← hm]; rfl)
  obtain ⟨u, hu⟩ : ∃ u, PinD.miss ⟨a, p, s, q, v', x, 2, tried, pn, ep, tk⟩ = u := ⟨_, rfl⟩
  have HU := Lib.hid (HMs.out.symm.trans hu)
  rw [hu]
  clear h hm HMs hu
  go_enter Try.func98, Try.ntmps98
  go_wp2_with fail
  generalize W.setCell ⟨r, 7, none⟩ (.int .i64 (tried + 1)) = w1 at HA ⊢
  clear c7 z7
  obtain ⟨⟨-, c1, -, -, -, -⟩, -, c7, c8, c9, c10⟩ := pnr_at HA.out.own
  simp only at c1 c7 c8 c9 c10
  go_still_tail 16, hmix
  change wpList _ _ _ _ _ w1.drew
  have HB := Lib.hid (HA.out.below (below_drew w1))
  clear c1 c7 c8 c9 c10
  generalize w1.drew = w2 at HB ⊢
  have z8 := pnr_free HB.out.own 8
  have c8 := (pnr_at HB.out.own).2.2.2.1
  have HC := Lib.hid (HB.out.set 8 (.int .i64 m) (v' := ⟨a, p, s, q, v', x, 2, tried + 1, m, ep, tk⟩) rfl)
  clear HA HB
  go_wp2_with fail
  generalize w2.setCell ⟨r, 8, none⟩ (.int .i64 m) = w3 at HC ⊢
  clear c8 z8
  obtain ⟨⟨-, c1, -, -, -, -⟩, -, c7, -, -, -⟩ := pnr_at HC.out.own
  simp only at c1 c7
  by_cases hl : tried + 1 = p
  · have hlb : (tried + 1 == p) = true := by simpa using hl
    have HU2 := Lib.hid (show ⟨a, p, s, q, v', x, 5, tried + 1, 0, 0, true⟩ = u from by have := HU.out; rwa [if_pos hl] at this)
    clear hl HU
    go_quiet (fail)
    rename Nat => nq
    have HD := Lib.hid (HC.out.below (below_draws w3 nq))
    clear c1 c7
    generalize w3.drewN nq = w4 at HD ⊢
    have z6 := pnr_free HD.out.own 6
    have z8 := pnr_free HD.out.own 8
    have z9 := pnr_free HD.out.own 9
    have z10 := pnr_free HD.out.own 10
    obtain ⟨-, c6, -, c8, c9, c10⟩ := pnr_at HD.out.own
    have HF := Lib.hid (by
      have h4 := (((HD.out.set 8 (.int .i64 0) (v' := ⟨a, p, s, q, v', x, 2, tried + 1, 0, ep, tk⟩) rfl).set 9 (.int .u64 0) (v' := ⟨a, p, s, q, v', x, 2, tried + 1, 0, 0, tk⟩) rfl).set 10 (.bool true) (v' := ⟨a, p, s, q, v', x, 2, tried + 1, 0, 0, true⟩) rfl).set 6 (.int .i64 5) (v' := ⟨a, p, s, q, v', x, 5, tried + 1, 0, 0, true⟩) rfl
      rw [HU2.out] at h4
      exact h4.end)
    go_wp2_with fail
    go_end0
    exact HF.out
  · have hlb : (tried + 1 == p) = false := by simpa using hl
    have HU2 := Lib.hid (show ⟨a, p, s, q, v', x, 2, tried + 1, m, ep, tk⟩ = u from by have := HU.out; rwa [if_neg hl] at this)
    clear hl HU
    go_quiet (fail)
    rename Nat => nq
    have HF := Lib.hid (by
      have h4 := HC.out.below (below_draws w3 nq)
      rw [HU2.out] at h4
      exact h4.end)
    go_wp2_with fail
    go_end0
    exact HF.out

set_option maxRecDepth 100000 in
set_option maxHeartbeats 2000000 in
theorem plook_any (W : World) {r : Nat} {v : PinD} (h : W.heap[r]? = some (pnrO v)) (w : Int) :
    Calls Try.prog 99 #[.pointer (some ⟨r, 0, none⟩), .int .u64 w] W (PtakeE (if w = v.ep then v.to 5 else v.at 4 w) r W) := by
  have hM : PMid W r v W := ⟨h, Step.refl _ _⟩
  have HF := Lib.hid (hM.set 6 (.int .i64 5) (v' := v.to 5) rfl).end
  have HG := Lib.hid ((hM.set 9 (.int .u64 w) (v' := v.at v.part w) rfl).set 6 (.int .i64 4) (v' := v.at 4 w) rfl).end
  have z6 := pnr_free h 6
  have z9 := pnr_free h 9
  have c6 := (pnr_at h).2.1
  have c9 := (pnr_at h).2.2.2.2.1
  clear h hM
  by_cases he : w = v.ep
  · rw [if_pos he]
    have he' : (w == v.ep) = true := by simpa using he
    generalize v.ep = e at c9 he' ⊢
    clear he HG
    go_enter Try.func99, Try.ntmps99
    go_wp2_with fail
    go_end0
    exact HF.out
  · rw [if_neg he]
    have he' : (w == v.ep) = false := by simpa using he
    generalize v.ep = e at c9 he' ⊢
    clear he HF
    go_enter Try.func99, Try.ntmps99
    go_wp2_with fail
    go_end0
    exact HG.out

/-! ### Take -/
set_option maxRecDepth 100000 in
set_option maxHeartbeats 4000000 in
theorem ptake_any (W : World) {r : Nat} {v : PinD} (h : W.heap[r]? = some (pnrO v)) (hv : v.fits) (hs : (nextP v).isSome = true) (w : Int) (t : ByteArray) :
    Calls Try.prog 89 #[.pointer (some ⟨r, 0, none⟩), gotV w t] W (PtakeE (takeP v w t) r W) := by
  have hb := below_alloc W (gotO w t)
  have HM := Lib.hid (show PMid W r v (W.alloc (gotO w t)) from ⟨(hb.block r (heap_at_lt h)).trans h, Step.of_below hb⟩)
  have HG := Lib.hid (World.alloc_heap_new W (gotO w t))
  have HFin := Lib.hid (fun (u : PinD) e X' (hl : PtakeE u r (W.alloc (gotO w t)) e X') => (show PtakeE u r W e X' from ⟨hl.1, hl.2.1, HM.out.st.trans hl.2.2⟩))
  obtain ⟨g0, g1⟩ := two_at HG.out
  obtain ⟨-, c6, -, -, c9, -⟩ := pnr_at HM.out.own
  have z6 := pnr_free HM.out.own 6
  have z9 := pnr_free HM.out.own 9
  obtain ⟨-, -, h3⟩ := hv
  rcases nextP_part hs with e | e | e | e
  · have hT := takeP_1 e w t
    rw [hT]
    rw [e] at c6
    have HF := Lib.hid ((HM.out.set 9 (.int .u64 w) (v' := v.at 1 w) (by rw [← e]; rfl)).set 6 (.int .i64 2) (v' := v.at 2 w) rfl).end
    clear h hb h3 hs e hT
    go_enter Try.func89, Try.ntmps89
    go_wp2_with fail
    go_end0
    exact HF.out
  · obtain ⟨hr, h4, h5, h6, h7⟩ : v.fit1 := h3.elim (fun e' => by omega) id
    have h7' := h7 (by omega)
    have hp := (rightC_bd hr).2.1
    obtain ⟨u, hu⟩ : ∃ u, takeP v w t = u := ⟨_, rfl⟩
    have hTu : (if w = 0 then v.to 3 else v.miss) = u := by rw [← hu]; exact (takeP_2 e w t).symm
    have HT := Lib.hid (show Calls Try.prog 98 #[.pointer (some ⟨r, 0, none⟩), .bool (w == 0)] (W.alloc (gotO w t)) (PtakeE u r (W.alloc (gotO w t))) from by
      by_cases hw : w = 0
      · rw [if_pos hw] at hTu
        rw [show (w == 0) = true from by simpa using hw, ← hTu]
        exact ptry_free _ HM.out.own
      · rw [if_neg hw] at hTu
        rw [show (w == 0) = false from by simpa using hw, ← hTu]
        exact ptry_miss _ HM.out.own hp ⟨h5.1, h7'⟩ h6 e)
    rw [hu]
    rw [e] at c6
    obtain ⟨b, hwb⟩ : ∃ b, (w == 0) = b := ⟨_, rfl⟩
    rw [hwb] at HT
    clear h hb h3 hs e hr h4 h5 h6 h7 h7' hp hu hTu
    go_enter Try.func89, Try.ntmps89
    go_wp2_with fail
    refine HT.out.mono ?_
    intro en X' hl
    have HE := Lib.hid (HFin.out _ _ _ hl)
    obtain ⟨rfl, -, -⟩ := hl
    go_wp2_with fail
    go_end0
    exact HE.out
  · have hT := takeP_3 e w t
    have HL := Lib.hid (plook_any _ HM.out.own w)
    rw [hT]
    rw [e] at c6
    obtain ⟨u, hu⟩ : ∃ u, (if w = v.ep then v.to 5 else v.at 4 w) = u := ⟨_, rfl⟩
    rw [hu] at HL ⊢
    clear h hb h3 hs e hT hu
    go_enter Try.func89, Try.ntmps89
    go_wp2_with fail
    refine HL.out.mono ?_
    intro en X' hl
    have HE := Lib.hid (HFin.out _ _ _ hl)
    obtain ⟨rfl, -, -⟩ := hl
    go_wp2_with fail
    go_end0
    exact HE.out
  · have hT := takeP_4 e w t
    rw [hT]
    rw [e] at c6
    have HF := Lib.hid (HM.out.set 6 (.int .i64 3) (v' := v.to 3) rfl).end
    clear h hb h3 hs e hT
    go_enter Try.func89, Try.ntmps89
    go_wp2_with fail
    go_end0
    exact HF.out

/-! ### Result -/
abbrev pndV (n e : Int) (b : Bool) : Value := .agg #[.int .i64 n, .int .u64 e, .bool b]
abbrev pndO (n e : Int) (b : Bool) : Obj := .cells #[.int .i64 n, .int .u64 e, .bool b] 103 (0, 0)
theorem pnd_at {X : World} {m : Nat} {n e : Int} {b : Bool} {t : TypeId} (hX : X.heap[m]? = some (.cells #[.int .i64 n, .int .u64 e, .bool b] t (0, 0))) : X.cell? ⟨m, 0, none⟩ = some (.int .i64 n) ∧ X.cell? ⟨m, 1, none⟩ = some (.int .u64 e) ∧ X.cell? ⟨m, 2, none⟩ = some (.bool b) :=
  ⟨(cell_of hX).trans rfl, (cell_of hX).trans rfl, (cell_of hX).trans rfl⟩
theorem pnd_free {X : World} {m : Nat} {n e : Int} {b : Bool} {t : TypeId} (hX : X.heap[m]? = some (.cells #[.int .i64 n, .int .u64 e, .bool b] t (0, 0))) (i : Nat) : X.frozen? ⟨m, i, none⟩ = false := by simp [World.frozen?, hX]
/-- What Result tells. -/
def resP (v : PinD) : (Int × Int × Bool) × Bool := if v.part = 5 then ((v.pn, v.ep, v.taken), true) else ((0, 0, false), false)
def PresE (v : PinD) (W : World) (e : Ending) (W' : World) : Prop := e = .returned (.tuple #[pndV (resP v).1.1 (resP v).1.2.1 (resP v).1.2.2, .bool (resP v).2]) ∧ Below W.heap.size W W'

set_option maxRecDepth 100000 in
set_option maxHeartbeats 2000000 in
theorem pres_any (W : World) {r : Nat} {v : PinD} (h : W.heap[r]? = some (pnrO v)) : Calls Try.prog 39 #[.pointer (some ⟨r, 0, none⟩)] W (PresE v W) := by
  have HB := Lib.hid (below_alloc W (pndO 0 0 false))
  have HN := Lib.hid (World.alloc_heap_new W (pndO 0 0 false))
  obtain ⟨m0, m1, m2⟩ := pnd_at HN.out
  have z0 := pnd_free HN.out 0
  have z1 := pnd_free HN.out 1
  have z2 := pnd_free HN.out 2
  obtain ⟨-, c6, -, c8, c9, c10⟩ := pnr_at ((HB.out.block r (heap_at_lt h)).trans h)
  have hne : W.heap.size ≠ r := by have := heap_at_lt h; omega
  obtain ⟨a, p, s, q, v', x, part, tried, pn, ep, tk⟩ := v
  simp only at c6 c8 c9 c10
  clear h
  by_cases h5 : part = 5
  · subst h5
    show Calls _ _ _ _ (fun e W' => e = .returned (.tuple #[pndV pn ep tk, .bool true]) ∧ Below W.heap.size W W')
    go_enter Try.func39, Try.ntmps39
    go_wp2_with fail
    refine bodyPost_ret (v := .tuple #[pndV pn ep tk, .bool true]) (by rw [results_cell2 (by rfl)]; go_simp) rfl ⟨rfl, ?_⟩
    exact below_alloc _ _
  · have hR : resP ⟨a, p, s, q, v', x, part, tried, pn, ep, tk⟩ = ((0, 0, false), false) := if_neg h5
    unfold PresE
    rw [hR]
    have hb : ((part : Int) != 5) = true := by simp; omega
    clear h5 hR
    go_enter Try.func39, Try.ntmps39
    go_wp2_with fail
    refine bodyPost_ret (v := .tuple #[pndV 0 0 false, .bool false]) (by rw [results_cell2 (by rfl)]; go_simp) rfl ⟨rfl, ?_⟩
    exact below_alloc _ _

end Go.Proofs.Ytpnfbabiibopnaa
