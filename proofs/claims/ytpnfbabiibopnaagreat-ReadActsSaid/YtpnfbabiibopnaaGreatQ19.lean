/-
  Laid, Rd, Rda, in one text.
-/
import Derived.Test.YtpnfbabiibopnaaGreatQ12
import Derived.Test.YtpnfbabiibopnaaGreatQ17
import Derived.Test.YtpnfbabiibopnaaGreatQ18
import Derived.Test.YtpnfbabiibopnaaGreatQ11
import Derived.Test.YtpnfbabiibopnaaGreatQ15
import Derived.Test.YtpnfbabiibopnaaGreatChnm
import Derived.Test.YtpnfbabiibopnaaGreatQ10
import Derived.Deep.RegionHeld3
import Derived.WalkMore
/-! A heap with keys on its shelves, and a chain of versions for each: what a block more does, and what acts of the control block's first cells leave. Plain. -/
namespace Go.Proofs.YtpnfbabiibopnaaGreat
open Go Go.RowKit

theorem bytes_inj {a b : ByteArray} (h : a.toList = b.toList) : a = b := by
  rw [ByteArray.toList_eq, ByteArray.toList_eq] at h
  exact congrArg ByteArray.mk (Array.toList_inj.1 h)
/-! ### a block more, whose number is put into the control block -/
def newD (D : HpD) (b : BlkD) (c : Nat) : HpD := storeD (D.add b) 1 (c : Int) ((D.L.length + 1 : Nat) : Int)
/-- The other blocks are as they were. -/
def Oth (D D' : HpD) : Prop := D'.L.length = D.L.length ∧ ∀ j, 2 ≤ j → liveAt D'.L j = liveAt D.L j
theorem Oth.refl (D : HpD) : Oth D D := ⟨rfl, fun _ _ => rfl⟩
theorem Oth.trans {D D' D'' : HpD} (h : Oth D D') (g : Oth D' D'') : Oth D D'' := ⟨g.1.trans h.1, fun j hj => (g.2 j hj).trans (h.2 j hj)⟩
section
variable {n : Nat} {D : HpD} {G : Nat → Int}
theorem Ctl.one (h : Ctl n D G) : 1 ≤ D.L.length := by obtain ⟨ws, t, h1, _⟩ := h.live; exact (liveAt_some h1).2.1
theorem Ctl.word_oth (h : Ctl n D G) (c : Nat) (u : Int) : Oth D (D.word 1 (c : Int) u) := by
  obtain ⟨ws, t, h1, h2, h3⟩ := h.live
  rw [word_hit h1]
  refine ⟨by simp [HpD.at], fun j hj => ?_⟩
  show liveAt (D.L.set (1 - 1) _) j = _
  rw [liveAt_set _ 1 j _ (Nat.le_refl _) (liveAt_some h1).2.1, if_neg (by omega)]
theorem Ctl.add (h : Ctl n D G) {b : BlkD} (hb : (∀ w ∈ b.ws, 0 ≤ w ∧ w < 18446744073709551616) ∧ b.text.size ≤ 281474976710656) (hl : D.L.length ≤ 999) : Ctl n (D.add b) G := by
  obtain ⟨ws, t, h1, h2, h3⟩ := h.live
  have hlen := (liveAt_some h1).2.1
  refine ⟨h.faults, by show (D.L ++ [b]).length ≤ 1000; simp; omega, ⟨ws, t, ?_, h2, h3⟩, fun y hy => ?_⟩
  · show liveAt (D.L ++ [b]) 1 = _
    rw [liveAt_snoc, if_neg (by omega)]; exact h1
  · rcases List.mem_append.1 hy with hy | hy
    · exact h.fine y hy
    · obtain rfl := List.mem_singleton.1 hy
      exact hb
theorem Ctl.news (h : Ctl n D G) {c : Nat} (hc : c < n) {b : BlkD} (hb : (∀ w ∈ b.ws, 0 ≤ w ∧ w < 18446744073709551616) ∧ b.text.size ≤ 281474976710656) (hg : b.gone = false) (hl : D.L.length ≤ 999) :
    Ctl n (newD D b c) (upd G c ((D.L.length + 1 : Nat) : Int)) ∧ (newD D b c).L.length = D.L.length + 1 ∧ liveAt (newD D b c).L (D.L.length + 1) = some b ∧ ∀ j, 2 ≤ j → j ≤ D.L.length → liveAt (newD D b c).L j = liveAt D.L j := by
  have ha := h.add hb hl
  have h1 := h.one
  have e : newD D b c = (D.add b).word 1 (c : Int) ((D.L.length + 1 : Nat) : Int) := by unfold newD storeD; rw [if_pos (ha.spot hc)]
  have hp := ha.put hc (u := ((D.L.length + 1 : Nat) : Int)) (by omega)
  have hw := ha.word_oth c ((D.L.length + 1 : Nat) : Int)
  rw [e]
  refine ⟨hp.1, by rw [hw.1]; show (D.L ++ [b]).length = _; simp, ?_, fun j hj hj2 => ?_⟩
  · rw [hw.2 _ (by omega)]
    show liveAt (D.L ++ [b]) _ = _
    rw [liveAt_snoc, if_pos rfl, hg]; rfl
  · rw [hw.2 _ hj]
    show liveAt (D.L ++ [b]) _ = _
    rw [liveAt_snoc, if_neg (by omega)]
end

/-! ### keys and chains -/
structure Laid (a p s q v x : Int) (D : HpD) (G : Nat → Int) (K : Shelves) (V : Int → Nat → VsnD) (N : Int → Nat) : Prop where
  rc : rightC a p s q v = true
  ctl : Ctl (sizeW a p s q v).toNat D G
  keys : ∀ sh, 0 ≤ sh → sh < s → ∀ t, K sh = some t → ∃ k : Nat, 2 ≤ k ∧ G (keyW a p s q v sh).toNat = (k : Int) ∧ ∃ ws u, liveAt D.L k = some ⟨ws, u, false⟩ ∧ u.toList = t
  free : ∀ sh, 0 ≤ sh → sh < s → K sh = none → G (keyW a p s q v sh).toNat = 0 ∧ N sh = 0
  down : ∀ sh, 0 ≤ sh → sh < s → ∃ b : Nat, G (headW a p s q v sh).toNat = (b : Int) ∧ Down D (V sh) (N sh) b
  own : ∀ sh, 0 ≤ sh → sh < s → ∀ key : ByteArray, K sh = some key.toList → Stands K (newF a p s q v x key) sh
section
variable {a p s q v x : Int} {D D' : HpD} {G G' : Nat → Int} {K : Shelves} {V : Int → Nat → VsnD} {N : Int → Nat}
theorem keyW_at (hr : rightC a p s q v = true) {sh : Int} (h0 : 0 ≤ sh) (h1 : sh < s) : keyW a p s q v sh = 3 + p + a + 2 * sh := if_pos ⟨hr, h0, by omega⟩
theorem sizeW_at (hr : rightC a p s q v = true) : sizeW a p s q v = 3 + p + a + 2 * s := if_pos hr
theorem Laid.start (hr : rightC a p s q v = true) (x : Int) (V : Int → Nat → VsnD) : Laid a p s q v x (fieldD (sizeW a p s q v).toNat) (fun _ => 0) (fun _ => none) V (fun _ => 0) :=
  ⟨hr, Ctl.start _, fun _ _ _ _ h => (by cases h), fun _ _ _ _ => ⟨rfl, rfl⟩, fun _ _ _ => ⟨0, rfl, rfl⟩, fun _ _ _ _ h => (by cases h)⟩
theorem Laid.field (h : Laid a p s q v x D G K V N) (key : ByteArray) : Field (newF a p s q v x key) D K := by
  have hb := rightC_bd h.rc
  have hz := sizeW_at h.rc
  refine ⟨h.ctl.faults, ?_, h.ctl.fine, fun sh h0 h1 => ?_⟩
  · obtain ⟨ws, t, h1, h2, _⟩ := h.ctl.live
    exact ⟨_, h1, by show (ws.length : Int) = sizeW a p s q v; omega⟩
  · have h1' : sh < s := h1
    have hk := keyW_at h.rc h0 h1'
    have hw : wordAt D.L 1 (keyW a p s q v sh) = G (keyW a p s q v sh).toNat := by
      have := h.ctl.word (c := (keyW a p s q v sh).toNat) (by omega)
      rw [show (((keyW a p s q v sh).toNat : Nat) : Int) = keyW a p s q v sh by omega] at this
      exact this
    cases hK : K sh with
    | none => exact hw.trans (h.free sh h0 h1' hK).1
    | some t =>
      obtain ⟨k, k2, kg, ws, u, kl, ku⟩ := h.keys sh h0 h1' t hK
      exact ⟨k, by omega, hw.trans kg, there_hit kl, by rw [textAt_hit kl]; exact ku⟩
/-- The first cells turn. -/
theorem Laid.touch (h : Laid a p s q v x D G K V N) (hC : Ctl (sizeW a p s q v).toNat D' G') (hG : ∀ i : Nat, 3 + p ≤ (i : Int) → G' i = G i) (hO : ∀ j, 2 ≤ j → liveAt D'.L j = liveAt D.L j) : Laid a p s q v x D' G' K V N := by
  have hb := rightC_bd h.rc
  refine ⟨h.rc, hC, fun sh h0 h1 t ht => ?_, fun sh h0 h1 ht => ?_, fun sh h0 h1 => ?_, h.own⟩
  · obtain ⟨k, k2, kg, ws, u, kl, ku⟩ := h.keys sh h0 h1 t ht
    have hk := keyW_at h.rc h0 h1
    exact ⟨k, k2, by rw [hG _ (by omega)]; exact kg, ws, u, (hO k k2).trans kl, ku⟩
  · have hk := keyW_at h.rc h0 h1
    exact ⟨by rw [hG _ (by omega)]; exact (h.free sh h0 h1 ht).1, (h.free sh h0 h1 ht).2⟩
  · obtain ⟨b, b1, b2⟩ := h.down sh h0 h1
    have hk : headW a p s q v sh = 3 + p + a + 2 * sh + 1 := if_pos ⟨h.rc, h0, by omega⟩
    exact ⟨b, by rw [hG _ (by omega)]; exact b1, b2.stays (fun j hj _ => hO j hj)⟩
/-- A key more. -/
theorem Laid.put (h : Laid a p s q v x D G K V N) {sh : Int} (h0 : 0 ≤ sh) (h1 : sh < s) (hK : K sh = none) {key : ByteArray} (hs : key.size ≤ 281474976710656) (hst : Stands (K.put sh key.toList) (newF a p s q v x key) sh) (hl : D.L.length ≤ 999) :
    Laid a p s q v x (newD D ⟨[], key, false⟩ (keyW a p s q v sh).toNat) (upd G (keyW a p s q v sh).toNat ((D.L.length + 1 : Nat) : Int)) (K.put sh key.toList) V N := by
  have hb := rightC_bd h.rc
  have hz := sizeW_at h.rc
  have hk := keyW_at h.rc h0 h1
  have h1L := h.ctl.one
  obtain ⟨n1, n2, n3, n4⟩ := h.ctl.news (c := (keyW a p s q v sh).toNat) (by omega) (b := ⟨[], key, false⟩) ⟨fun w hw => (by cases hw), hs⟩ rfl hl
  refine ⟨h.rc, n1, fun y y0 y1 t ht => ?_, fun y y0 y1 ht => ?_, fun y y0 y1 => ?_, fun y y0 y1 k' hk' => ?_⟩
  · have hky := keyW_at h.rc y0 y1
    by_cases e : y = sh
    · subst e
      have ht' : some key.toList = some t := by rw [← ht]; unfold Shelves.put; rw [if_pos rfl]
      cases ht'
      exact ⟨D.L.length + 1, by omega, upd_self _ _ _, [], key, n3, rfl⟩
    · have ht' : K y = some t := by rw [← ht]; unfold Shelves.put; rw [if_neg e]
      obtain ⟨k, k2, kg, ws, u, kl, ku⟩ := h.keys y y0 y1 t ht'
      exact ⟨k, k2, by rw [upd_other (by omega)]; exact kg, ws, u, (n4 k k2 (liveAt_some kl).2.1).trans kl, ku⟩
  · have hky := keyW_at h.rc y0 y1
    by_cases e : y = sh
    · subst e; unfold Shelves.put at ht; rw [if_pos rfl] at ht; cases ht
    · have ht' : K y = none := by rw [← ht]; unfold Shelves.put; rw [if_neg e]
      exact ⟨by rw [upd_other (by omega)]; exact (h.free y y0 y1 ht').1, (h.free y y0 y1 ht').2⟩
  · have hhy : headW a p s q v y = 3 + p + a + 2 * y + 1 := if_pos ⟨h.rc, y0, by omega⟩
    obtain ⟨b, b1, b2⟩ := h.down y y0 y1
    exact ⟨b, by rw [upd_other (by omega)]; exact b1, b2.stays n4⟩
  · by_cases e : y = sh
    · subst e
      have hk2 : some key.toList = some k'.toList := by rw [← hk']; unfold Shelves.put; rw [if_pos rfl]
      rw [← bytes_inj (Option.some.inj hk2)]
      exact hst
    · have hk2 : K y = some k'.toList := by rw [← hk']; unfold Shelves.put; rw [if_neg e]
      exact (h.own y y0 y1 k' hk2).put hK _
/-- A version more on a shelf. -/
def pushV (V : Int → Nat → VsnD) (N : Int → Nat) (sh : Int) (y : VsnD) : Int → Nat → VsnD := fun z j => if z = sh ∧ j = N sh then y else V z j
def pushN (N : Int → Nat) (sh : Int) : Int → Nat := fun z => if z = sh then N sh + 1 else N z
theorem Down.agree {V V' : Nat → VsnD} : ∀ {n b : Nat}, Down D V n b → (∀ j, j < n → V' j = V j) → Down D V' n b
  | 0, _, h, _ => h
  | n + 1, b, ⟨h1, h2, h3, nx, h4, h5⟩, hs => by
    have e := hs n (Nat.lt_succ_self _)
    refine ⟨by rw [e]; exact h1, h2, by rw [e]; exact h3, nx, by rw [e]; exact h4, h5.agree (fun j hj => hs j (by omega))⟩
theorem Laid.push (h : Laid a p s q v x D G K V N) {sh : Int} (h0 : 0 ≤ sh) (h1 : sh < s) (hK : (K sh).isSome = true) {ep : Int} (he : 0 ≤ ep ∧ ep < 18446744073709551616) (has : Bool) {t : ByteArray} (ht : t.size ≤ 281474976710656) (hl : D.L.length ≤ 999) :
    Laid a p s q v x (pushD D (headW a p s q v sh) ep has t) (upd G (headW a p s q v sh).toNat ((D.L.length + 1 : Nat) : Int)) K (pushV V N sh ⟨ep, has, t, D.L.length + 1⟩) (pushN N sh) ∧ (pushD D (headW a p s q v sh) ep has t).L.length = D.L.length + 1 := by
  have hb := rightC_bd h.rc
  have hz := sizeW_at h.rc
  have hk : headW a p s q v sh = 3 + p + a + 2 * sh + 1 := if_pos ⟨h.rc, h0, by omega⟩
  have h1L := h.ctl.one
  obtain ⟨b0, g0, d0⟩ := h.down sh h0 h1
  have hw : wordAt D.L 1 (headW a p s q v sh) = (b0 : Int) := by
    have := h.ctl.word (c := (headW a p s q v sh).toNat) (by omega)
    rw [show (((headW a p s q v sh).toNat : Nat) : Int) = headW a p s q v sh by omega] at this
    exact this.trans g0
  have hbd := h.ctl.fine.wordAt 1 (headW a p s q v sh)
  have e : pushD D (headW a p s q v sh) ep has t = newD D (blkV [ep, (b0 : Int), wordV has] t) (headW a p s q v sh).toNat := by
    unfold pushD newD
    rw [hw, show (((headW a p s q v sh).toNat : Nat) : Int) = headW a p s q v sh by omega]
  rw [hw] at hbd
  obtain ⟨n1, n2, n3, n4⟩ := h.ctl.news (c := (headW a p s q v sh).toNat) (by omega) (b := blkV [ep, (b0 : Int), wordV has] t) ⟨fun w hw => by
    have hw' : w = ep ∨ w = (b0 : Int) ∨ w = wordV has := by simpa [blkV] using hw
    rcases hw' with rfl | rfl | rfl
    · exact he
    · exact hbd
    · unfold wordV; split <;> omega, ht⟩ rfl hl
  rw [e]
  refine ⟨⟨h.rc, n1, fun y y0 y1 t ht => ?_, fun y y0 y1 ht => ?_, fun y y0 y1 => ?_, h.own⟩, n2⟩
  · have hky := keyW_at h.rc y0 y1
    obtain ⟨k, k2, kg, ws, u, kl, ku⟩ := h.keys y y0 y1 t ht
    exact ⟨k, k2, by rw [upd_other (by omega)]; exact kg, ws, u, (n4 k k2 (liveAt_some kl).2.1).trans kl, ku⟩
  · have hky := keyW_at h.rc y0 y1
    have hne : y ≠ sh := fun e => by rw [e] at ht; rw [ht] at hK; cases hK
    exact ⟨by rw [upd_other (by omega)]; exact (h.free y y0 y1 ht).1, by unfold pushN; rw [if_neg hne]; exact (h.free y y0 y1 ht).2⟩
  · have hhy : headW a p s q v y = 3 + p + a + 2 * y + 1 := if_pos ⟨h.rc, y0, by omega⟩
    by_cases ey : y = sh
    · subst ey
      have eN : pushN N y y = N y + 1 := if_pos rfl
      have eV : pushV V N y ⟨ep, has, t, D.L.length + 1⟩ y (N y) = ⟨ep, has, t, D.L.length + 1⟩ := if_pos ⟨rfl, rfl⟩
      rw [eN]
      refine ⟨D.L.length + 1, upd_self _ _ _, by rw [eV], by omega, by rw [eV]; exact he, b0, by rw [eV]; exact n3, ?_⟩
      exact (d0.stays n4).agree (fun j hj => if_neg (by omega))
    · obtain ⟨b, b1, b2⟩ := h.down y y0 y1
      have eN : pushN N sh y = N y := if_neg ey
      rw [eN]
      exact ⟨b, by rw [upd_other (by omega)]; exact b1, (b2.stays n4).agree (fun j _ => if_neg (fun h => ey h.1))⟩
end

end Go.Proofs.YtpnfbabiibopnaaGreat

/-! read's routine: what it does next, and where it stands behind an answer; how it lies. -/
namespace Go.Proofs.YtpnfbabiibopnaaGreat
open Go Go.RowKit

/-- A key that is read: its config, the part (1 to 5), the routines of the parts, and what is told. -/
structure RdD where
  a : Int
  p : Int
  s : Int
  q : Int
  v : Int
  x : Int
  part : Nat
  pin : PinD
  fnd : FindR
  chn : ChnD
  code : Int
  took : Bool
  val : ByteArray
  mark : Int
def RdD.free (E : RdD) : ActD := freeE (pinW E.a E.p E.s E.q E.v E.pin.pn)
def nextR (E : RdD) : Option ActD := match E.part with
  | 1 => nextP E.pin
  | 2 => nextF E.fnd
  | 3 => nextC E.chn
  | 4 => some E.free
  | _ => none
/-- Behind an act of pinning. -/
def pinnedR (E : RdD) (P : PinD) : RdD :=
  if P.part = 5 then
    (if P.taken then ⟨E.a, E.p, E.s, E.q, E.v, E.x, 5, P, E.fnd, E.chn, 11, false, ⟨#[]⟩, 0⟩
     else ⟨E.a, E.p, E.s, E.q, E.v, E.x, 2, P, E.fnd, E.chn, E.code, E.took, E.val, wrap64 (E.mark + 1)⟩)
  else ⟨E.a, E.p, E.s, E.q, E.v, E.x, E.part, P, E.fnd, E.chn, E.code, E.took, E.val, wrap64 (E.mark + 1)⟩
/-- Behind an act of looking for the key. -/
def foundR (E : RdD) (F : FindR) : RdD :=
  if F.k = 0 then ⟨E.a, E.p, E.s, E.q, E.v, E.x, E.part, E.pin, F, E.chn, E.code, E.took, E.val, E.mark⟩
  else if F.k = 1 then ⟨E.a, E.p, E.s, E.q, E.v, E.x, 3, E.pin, F, newC (headW E.a E.p E.s E.q E.v F.sh) E.pin.ep, E.code, E.took, E.val, E.mark⟩
  else ⟨E.a, E.p, E.s, E.q, E.v, E.x, 4, E.pin, F, E.chn, E.code, E.took, E.val, E.mark⟩
/-- Behind an act of reading the chain. -/
def chainedR (E : RdD) (C : ChnD) : RdD :=
  if C.asks = 6 then ⟨E.a, E.p, E.s, E.q, E.v, E.x, 4, E.pin, E.fnd, C, E.code, C.has, C.text, E.mark⟩
  else ⟨E.a, E.p, E.s, E.q, E.v, E.x, E.part, E.pin, E.fnd, C, E.code, E.took, E.val, E.mark⟩
def RdD.done (E : RdD) : RdD := ⟨E.a, E.p, E.s, E.q, E.v, E.x, 5, E.pin, E.fnd, E.chn, E.code, E.took, E.val, E.mark⟩
def takeR (E : RdD) (w : Int) (t : ByteArray) : RdD := match E.part with
  | 1 => pinnedR E (takeP E.pin w t)
  | 2 => foundR E (takeF E.fnd w t)
  | 3 => chainedR E (takeC E.chn w t)
  | 4 => E.done
  | _ => E
section
variable {E : RdD}
theorem nextR_1 (h : E.part = 1) : nextR E = nextP E.pin := by unfold nextR; rw [h]; rfl
theorem nextR_2 (h : E.part = 2) : nextR E = nextF E.fnd := by unfold nextR; rw [h]; rfl
theorem nextR_3 (h : E.part = 3) : nextR E = nextC E.chn := by unfold nextR; rw [h]; rfl
theorem nextR_4 (h : E.part = 4) : nextR E = some E.free := by unfold nextR; rw [h]; rfl
theorem nextR_5 (h : E.part = 5) : nextR E = none := by unfold nextR; rw [h]; rfl
theorem takeR_1 (h : E.part = 1) (w : Int) (t : ByteArray) : takeR E w t = pinnedR E (takeP E.pin w t) := by unfold takeR; rw [h]; rfl
theorem takeR_2 (h : E.part = 2) (w : Int) (t : ByteArray) : takeR E w t = foundR E (takeF E.fnd w t) := by unfold takeR; rw [h]; rfl
theorem takeR_3 (h : E.part = 3) (w : Int) (t : ByteArray) : takeR E w t = chainedR E (takeC E.chn w t) := by unfold takeR; rw [h]; rfl
theorem takeR_4 (h : E.part = 4) (w : Int) (t : ByteArray) : takeR E w t = E.done := by unfold takeR; rw [h]; rfl
end
/-- One that may be. -/
structure RdD.fits (E : RdD) : Prop where
  rc : rightC E.a E.p E.s E.q E.v = true
  part : 1 ≤ E.part ∧ E.part ≤ 5
  fs : E.fnd.s = E.s
  held : 2 ≤ E.part → E.part ≤ 4 → E.pin.part = 5
theorem freeE_fits {c : Int} (hc : -1 ≤ c ∧ c ≤ 11) : (freeE c).fits := by
  have he := empty_size
  unfold freeE
  split
  · unfold ActD.fits noAct; simp only; omega
  · unfold ActD.fits; simp only; omega
theorem RdD.free_fits (E : RdD) : E.free.fits := freeE_fits pinW_fits
theorem headW_in {a p s q v : Int} (hr : rightC a p s q v = true) {sh : Int} (h0 : 0 ≤ sh) (h1 : sh < s) : headW a p s q v sh = 3 + p + a + 2 * sh + 1 := if_pos ⟨hr, h0, by omega⟩
theorem headW_le {a p s q v sh : Int} : -1 ≤ headW a p s q v sh ∧ headW a p s q v sh ≤ 1000 := by
  unfold headW
  split
  · rename_i h
    have := rightC_bd h.1
    omega
  · omega
/-- What a look comes to. -/
theorem lookN_says (d : FindR) (i : Nat) : ((lookN d i).k = 0 ∧ (lookN d i).sh = 0) ∨ ((lookN d i).k = 3 ∧ (lookN d i).sh = 0) := by
  unfold lookN
  split
  · exact .inl ⟨rfl, rfl⟩
  · exact .inr ⟨rfl, rfl⟩
theorem takeF_says (F : FindR) (w : Int) (t : ByteArray) :
    ((takeF F w t).k = 0 ∧ (takeF F w t).sh = 0) ∨ ((takeF F w t).k = 1 ∧ 0 ≤ (takeF F w t).sh ∧ (takeF F w t).sh < F.s) ∨ ((takeF F w t).k ≠ 0 ∧ (takeF F w t).k ≠ 1) := by
  unfold takeF lookY
  split
  · rename_i hi
    have hw := place_bd F.n F.s F.i.toNat hi
    split
    · exact .inl ⟨rfl, rfl⟩
    split
    · split
      · exact .inr (.inr ⟨by show (2 : Int) ≠ 0; decide, by show (2 : Int) ≠ 1; decide⟩)
      · exact .inl ⟨rfl, rfl⟩
    split
    · exact .inr (.inl ⟨rfl, hw.1, hw.2⟩)
    · rcases lookN_says F (F.i.toNat + 1) with h | h
      · exact .inl h
      · exact .inr (.inr ⟨by rw [h.1]; decide, by rw [h.1]; decide⟩)
  · exact .inr (.inr ⟨by show (3 : Int) ≠ 0; decide, by show (3 : Int) ≠ 1; decide⟩)
theorem lookN_s (d : FindR) (i : Nat) : (lookN d i).s = d.s := by unfold lookN; split <;> rfl
theorem takeF_s (F : FindR) (w : Int) (t : ByteArray) : (takeF F w t).s = F.s := by
  unfold takeF lookY
  split
  · split
    · rfl
    split
    · split <;> rfl
    split
    · rfl
    · exact lookN_s _ _
  · rfl

/-! ### in memory -/
abbrev rdC (E : RdD) (rp rf : Nat) (rc : Option Addr) : Array Value := #[.int .i64 E.a, .int .i64 E.p, .int .i64 E.s, .int .i64 E.q, .int .i64 E.v, .int .u64 E.x, .int .i64 (E.part : Int), .pointer (some ⟨rp, 0, none⟩), .pointer (some ⟨rf, 0, none⟩), .pointer rc, .int .i64 E.code, .int .i64 0, .int .i64 0, .bool E.took, .string E.val, .slice none 0 0, .int .i64 0, .slice none 0 0, .int .i64 E.mark, .int .u64 0]
abbrev rdO (E : RdD) (rp rf : Nat) (rc : Option Addr) : Obj := .cells (rdC E rp rf rc) 67 (0, 0)
section
variable {X : World} {r rp rf : Nat} {rc : Option Addr} {E : RdD}
theorem rd_at (h : X.heap[r]? = some (rdO E rp rf rc)) :
    (X.cell? ⟨r, 0, none⟩ = some (.int .i64 E.a) ∧ X.cell? ⟨r, 1, none⟩ = some (.int .i64 E.p) ∧ X.cell? ⟨r, 2, none⟩ = some (.int .i64 E.s) ∧ X.cell? ⟨r, 3, none⟩ = some (.int .i64 E.q) ∧ X.cell? ⟨r, 4, none⟩ = some (.int .i64 E.v) ∧ X.cell? ⟨r, 5, none⟩ = some (.int .u64 E.x)) ∧
    (X.cell? ⟨r, 6, none⟩ = some (.int .i64 (E.part : Int)) ∧ X.cell? ⟨r, 7, none⟩ = some (.pointer (some ⟨rp, 0, none⟩)) ∧ X.cell? ⟨r, 8, none⟩ = some (.pointer (some ⟨rf, 0, none⟩)) ∧ X.cell? ⟨r, 9, none⟩ = some (.pointer rc)) ∧
    (X.cell? ⟨r, 10, none⟩ = some (.int .i64 E.code) ∧ X.cell? ⟨r, 11, none⟩ = some (.int .i64 0) ∧ X.cell? ⟨r, 12, none⟩ = some (.int .i64 0) ∧ X.cell? ⟨r, 13, none⟩ = some (.bool E.took) ∧ X.cell? ⟨r, 14, none⟩ = some (.string E.val) ∧ X.cell? ⟨r, 15, none⟩ = some (.slice none 0 0) ∧ X.cell? ⟨r, 16, none⟩ = some (.int .i64 0) ∧ X.cell? ⟨r, 17, none⟩ = some (.slice none 0 0)) ∧
    X.cell? ⟨r, 18, none⟩ = some (.int .i64 E.mark) ∧ X.cell? ⟨r, 19, none⟩ = some (.int .u64 0) :=
  ⟨⟨(cell_of h).trans rfl, (cell_of h).trans rfl, (cell_of h).trans rfl, (cell_of h).trans rfl, (cell_of h).trans rfl, (cell_of h).trans rfl⟩, ⟨(cell_of h).trans rfl, (cell_of h).trans rfl, (cell_of h).trans rfl, (cell_of h).trans rfl⟩,
   ⟨(cell_of h).trans rfl, (cell_of h).trans rfl, (cell_of h).trans rfl, (cell_of h).trans rfl, (cell_of h).trans rfl, (cell_of h).trans rfl, (cell_of h).trans rfl, (cell_of h).trans rfl⟩, (cell_of h).trans rfl, (cell_of h).trans rfl⟩
theorem rd_free (h : X.heap[r]? = some (rdO E rp rf rc)) (i : Nat) : X.frozen? ⟨r, i, none⟩ = false := by simp [World.frozen?, h]
end
/-- A routine and those that it points to. -/
structure RdIn (W : World) (B r : Nat) (E : RdD) (rp rf : Nat) (rc : Option Addr) : Prop where
  own : W.heap[r]? = some (rdO E rp rf rc)
  pn : PinAt W B rp E.pin (fun k => k = rp)
  fn : FindAt W B rf E.fnd (fun k => k = rf)
  ch : E.part = 3 → ∃ c, rc = some ⟨c, 0, none⟩ ∧ ChnAt W B c E.chn (fun k => k = c) ∧ c ≠ r ∧ c ≠ rp ∧ c ≠ rf
  ne : r ≠ rp ∧ r ≠ rf ∧ rp ≠ rf
  base : B ≤ r
  fits : E.fits
def footR (E : RdD) (r rp rf : Nat) (rc : Option Addr) (k : Nat) : Prop := k = r ∨ k = rp ∨ k = rf ∨ (E.part = 3 ∧ rc = some ⟨k, 0, none⟩)
def RdAt (W : World) (B r : Nat) (E : RdD) (f : Nat → Prop) : Prop := ∃ rp rf rc, RdIn W B r E rp rf rc ∧ f = footR E r rp rf rc
section
variable {W X : World} {B r rp rf : Nat} {rc : Option Addr} {E : RdD} {f : Nat → Prop}
theorem RdIn.stays (h : RdIn W B r E rp rf rc) (hs : ∀ k, footR E r rp rf rc k → X.heap[k]? = W.heap[k]?) : RdIn X B r E rp rf rc :=
  ⟨(hs r (.inl rfl)).trans h.own, h.pn.stays (fun k hk => hs k (.inr (.inl hk))), h.fn.stays (fun k hk => hs k (.inr (.inr (.inl hk)))), fun h3 => by
    obtain ⟨c, h1, h2, h4⟩ := h.ch h3
    exact ⟨c, h1, h2.stays (fun k hk => hs k (.inr (.inr (.inr ⟨h3, by rw [hk]; exact h1⟩)))), h4⟩, h.ne, h.base, h.fits⟩
theorem RdIn.lt (h : RdIn W B r E rp rf rc) : ∀ k, footR E r rp rf rc k → k < W.heap.size ∧ B ≤ k := fun k hk => by
  rcases hk with rfl | rfl | rfl | ⟨h3, e⟩
  · exact ⟨heap_at_lt h.own, h.base⟩
  · exact ⟨heap_at_lt h.pn.own, h.pn.base⟩
  · exact ⟨heap_at_lt h.fn.own, h.fn.base⟩
  · obtain ⟨c, h1, h2, _⟩ := h.ch h3
    rw [h1] at e
    cases e
    exact ⟨heap_at_lt h2.own, h2.base⟩
theorem RdIn.below (h : RdIn W B r E rp rf rc) (hb : Below W.heap.size W X) : RdIn X B r E rp rf rc := h.stays (fun k hk => hb.block k (h.lt k hk).1)
end

end Go.Proofs.YtpnfbabiibopnaaGreat

/-! read's routine: Act. -/
namespace Go.Proofs.YtpnfbabiibopnaaGreat
open Go Go.RowKit
attribute [local go_sem ↓] Go.wp_at_zero Go.wp_at_succ

def RactE (y : ActD) (q : Bool) (W : World) (e : Ending) (W' : World) : Prop := e = .returned (.tuple #[actOf y, .bool q]) ∧ Below W.heap.size W W'
theorem ract_end {W X : World} {n : Nat} {x : ActD} {is : Bool} {T : Array Value} (h : X.heap[n]? = some (.cells (actCells x) 31 (0, 0))) (hb : Below W.heap.size W X) (h2 : T.getD 2 undef = .pointer (some ⟨n, 0, none⟩)) (h3 : T.getD 3 undef = .bool is) :
    bodyPost Tryz.prog Tryz.f7 (RactE x is W) .ret { tmps := T, defers := [] } X :=
  bodyPost_ret (v := .tuple #[actOf x, .bool is]) (by rw [results_cell2 (by rfl), h2, h3]; simp only [asAddr, Sem.run_pure, Result.andThen_ok, load_act h]) rfl ⟨rfl, hb⟩
theorem ract_mid {W w1 : World} (HN : (W.alloc noO).heap[W.heap.size]? = some noO) (hb : Below (W.alloc noO).heap.size (W.alloc noO) w1) :
    w1.heap[W.heap.size]? = some noO ∧ Below W.heap.size W w1 :=
  ⟨(hb.block _ (heap_at_lt HN)).trans HN, (below_alloc W noO).trans (hb.mono (below_alloc W noO).size)⟩

set_option maxRecDepth 100000 in
set_option maxHeartbeats 800000 in
/-- No routine. -/
theorem ract_nil (W : World) : Calls Tryz.prog 7 #[.pointer none] W (RactE noAct false W) := by
  have HB := Lib.hid (below_alloc W noO)
  have HN := Lib.hid (World.alloc_heap_new W noO)
  obtain ⟨z0, z1, z2, z3, z4, z5⟩ := six_free HN.out
  obtain ⟨m0, m1, m2, m3, m4, m5⟩ := six_at HN.out
  go_enter Tryz.func7, Tryz.ntmps7
  go_wp2_with fail
  refine bodyPost_ret (v := .tuple #[actOf noAct, .bool false]) (by rw [results_cell2 (by rfl)]; go_simp; exact ⟨rfl, rfl, rfl, rfl, rfl, rfl⟩) rfl ⟨rfl, ?_⟩
  exact HB.out
set_option maxRecDepth 100000 in
set_option maxHeartbeats 2000000 in
/-- Nothing to do. -/
theorem ract_none (W : World) {r : Nat} {n : Int} (h : W.cell? ⟨r, 6, none⟩ = some (.int .i64 n)) (hp : n = 5 ∨ n = 0) :
    Calls Tryz.prog 7 #[.pointer (some ⟨r, 0, none⟩)] W (RactE noAct false W) := by
  have HB := Lib.hid (below_alloc W noO)
  have HN := Lib.hid (World.alloc_heap_new W noO)
  obtain ⟨z0, z1, z2, z3, z4, z5⟩ := six_free HN.out
  obtain ⟨m0, m1, m2, m3, m4, m5⟩ := six_at HN.out
  have c6 := (World.cell?_of_block (a := ⟨r, 6, none⟩) (HB.out.block r (cell_lt h))).trans h
  clear h
  rcases hp with hp | hp
  all_goals
    rw [hp] at c6
    go_enter Tryz.func7, Tryz.ntmps7
    go_wp2_with fail
    refine bodyPost_ret (v := .tuple #[actOf noAct, .bool false]) (by rw [results_cell2 (by rfl)]; go_simp; exact ⟨rfl, rfl, rfl, rfl, rfl, rfl⟩) rfl ⟨rfl, ?_⟩
    exact HB.out

set_option maxRecDepth 100000 in
set_option maxHeartbeats 4000000 in
theorem ract_1 (W : World) {B r rp rf : Nat} {rc : Option Addr} {E : RdD} (h : RdIn W B r E rp rf rc) (hp : E.part = 1) :
    Calls Tryz.prog 7 #[.pointer (some ⟨r, 0, none⟩)] W (RactE ((nextR E).getD noAct) (nextR E).isSome W) := by
  rw [nextR_1 hp]
  have HB := Lib.hid (below_alloc W noO)
  have HN := Lib.hid (World.alloc_heap_new W noO)
  have h' := h.below HB.out
  have HA := Lib.hid (show Calls Tryz.prog 21 #[.pointer (some ⟨rp, 0, none⟩)] (W.alloc noO) fun e W' => e = .returned (.tuple #[actOf ((nextP E.pin).getD noAct), .bool (nextP E.pin).isSome]) ∧ Below (W.alloc noO).heap.size (W.alloc noO) W' from PinM.act h'.pn)
  obtain ⟨-, ⟨c6, c7, c8, c9⟩, -, -⟩ := rd_at h'.own
  rw [hp] at c6
  obtain ⟨y, hy⟩ : ∃ y, (nextP E.pin).getD noAct = y := ⟨_, rfl⟩
  obtain ⟨q, hq⟩ : ∃ q, (nextP E.pin).isSome = q := ⟨_, rfl⟩
  rw [hy, hq] at HA ⊢
  clear h h' hp hy hq
  go_enter Tryz.func7, Tryz.ntmps7
  go_wp2_with fail
  refine HA.out.mono ?_
  rintro en w1 ⟨rfl, hb⟩
  obtain ⟨h1, hb1⟩ := ract_mid HN.out hb
  have HB1 := Lib.hid hb1
  have H1 := Lib.hid h1
  obtain ⟨z0, z1, z2, z3, z4, z5⟩ := six_free h1
  obtain ⟨m0, m1, m2, m3, m4, m5⟩ := six_at h1
  clear hb h1 hb1 c6 c7 c8 c9
  go_wp2_with fail
  exact ract_end (set6 H1.out _ _ _ _ _ _) (below6 HB1.out (Nat.le_refl _) _ _ _ _ _ _) rfl rfl

set_option maxRecDepth 100000 in
set_option maxHeartbeats 4000000 in
theorem ract_2 (W : World) {B r rp rf : Nat} {rc : Option Addr} {E : RdD} (h : RdIn W B r E rp rf rc) (hp : E.part = 2) :
    Calls Tryz.prog 7 #[.pointer (some ⟨r, 0, none⟩)] W (RactE ((nextR E).getD noAct) (nextR E).isSome W) := by
  rw [nextR_2 hp]
  have HB := Lib.hid (below_alloc W noO)
  have HN := Lib.hid (World.alloc_heap_new W noO)
  have h' := h.below HB.out
  have HA := Lib.hid (show Calls Tryz.prog 22 #[.pointer (some ⟨rf, 0, none⟩)] (W.alloc noO) fun e W' => e = .returned (.tuple #[actOf ((nextF E.fnd).getD noAct), .bool (nextF E.fnd).isSome]) ∧ Below (W.alloc noO).heap.size (W.alloc noO) W' from FindM.act h'.fn)
  obtain ⟨-, ⟨c6, c7, c8, c9⟩, -, -⟩ := rd_at h'.own
  rw [hp] at c6
  obtain ⟨y, hy⟩ : ∃ y, (nextF E.fnd).getD noAct = y := ⟨_, rfl⟩
  obtain ⟨q, hq⟩ : ∃ q, (nextF E.fnd).isSome = q := ⟨_, rfl⟩
  rw [hy, hq] at HA ⊢
  clear h h' hp hy hq
  go_enter Tryz.func7, Tryz.ntmps7
  go_wp2_with fail
  refine HA.out.mono ?_
  rintro en w1 ⟨rfl, hb⟩
  obtain ⟨h1, hb1⟩ := ract_mid HN.out hb
  have HB1 := Lib.hid hb1
  have H1 := Lib.hid h1
  obtain ⟨z0, z1, z2, z3, z4, z5⟩ := six_free h1
  obtain ⟨m0, m1, m2, m3, m4, m5⟩ := six_at h1
  clear hb h1 hb1 c6 c7 c8 c9
  go_wp2_with fail
  exact ract_end (set6 H1.out _ _ _ _ _ _) (below6 HB1.out (Nat.le_refl _) _ _ _ _ _ _) rfl rfl

set_option maxRecDepth 100000 in
set_option maxHeartbeats 4000000 in
theorem ract_3 (W : World) {B r rp rf : Nat} {rc : Option Addr} {E : RdD} (h : RdIn W B r E rp rf rc) (hp : E.part = 3) :
    Calls Tryz.prog 7 #[.pointer (some ⟨r, 0, none⟩)] W (RactE ((nextR E).getD noAct) (nextR E).isSome W) := by
  rw [nextR_3 hp]
  have HB := Lib.hid (below_alloc W noO)
  have HN := Lib.hid (World.alloc_heap_new W noO)
  have h' := h.below HB.out
  obtain ⟨c, e, hc, -⟩ := h'.ch hp
  have HA := Lib.hid (show Calls Tryz.prog 23 #[.pointer (some ⟨c, 0, none⟩)] (W.alloc noO) fun e W' => e = .returned (.tuple #[actOf ((nextC E.chn).getD noAct), .bool (nextC E.chn).isSome]) ∧ Below (W.alloc noO).heap.size (W.alloc noO) W' from ChnM.act hc)
  obtain ⟨-, ⟨c6, c7, c8, c9⟩, -, -⟩ := rd_at h'.own
  rw [hp] at c6
  rw [e] at c9
  obtain ⟨y, hy⟩ : ∃ y, (nextC E.chn).getD noAct = y := ⟨_, rfl⟩
  obtain ⟨q, hq⟩ : ∃ q, (nextC E.chn).isSome = q := ⟨_, rfl⟩
  rw [hy, hq] at HA ⊢
  clear h h' hp hy hq
  go_enter Tryz.func7, Tryz.ntmps7
  go_wp2_with fail
  refine HA.out.mono ?_
  rintro en w1 ⟨rfl, hb⟩
  obtain ⟨h1, hb1⟩ := ract_mid HN.out hb
  have HB1 := Lib.hid hb1
  have H1 := Lib.hid h1
  obtain ⟨z0, z1, z2, z3, z4, z5⟩ := six_free h1
  obtain ⟨m0, m1, m2, m3, m4, m5⟩ := six_at h1
  clear hb h1 hb1 c6 c7 c8 c9
  go_wp2_with fail
  exact ract_end (set6 H1.out _ _ _ _ _ _) (below6 HB1.out (Nat.le_refl _) _ _ _ _ _ _) rfl rfl

/-! ### the pin is given back -/
/-- The routine, the box of the act that is told, and the one of what was pinned. -/
structure FrI (W : World) (r rp rf : Nat) (rc : Option Addr) (E : RdD) (g : Nat) (X : World) : Prop where
  own : X.heap[r]? = some (rdO E rp rf rc)
  box : X.heap[W.heap.size]? = some noO
  hld : X.heap[g]? = some (pndO E.pin.pn E.pin.ep E.pin.taken)
  lo : Below W.heap.size W X
  ne : r < W.heap.size ∧ W.heap.size < g
def LooksA (r g : Nat) (E : RdD) (X : World) : Prop := X.cell? ⟨r, 0, none⟩ = some (.int .i64 E.a) ∧ X.cell? ⟨r, 1, none⟩ = some (.int .i64 E.p) ∧ X.cell? ⟨r, 2, none⟩ = some (.int .i64 E.s) ∧ X.cell? ⟨r, 3, none⟩ = some (.int .i64 E.q) ∧ X.cell? ⟨r, 4, none⟩ = some (.int .i64 E.v) ∧ X.cell? ⟨r, 5, none⟩ = some (.int .u64 E.x) ∧ X.cell? ⟨g, 0, none⟩ = some (.int .i64 E.pin.pn)
section
variable {W X Y : World} {r rp rf g : Nat} {rc : Option Addr} {E : RdD}
theorem FrI.below (h : FrI W r rp rf rc E g X) (hb : Below X.heap.size X Y) : FrI W r rp rf rc E g Y :=
  ⟨(hb.block _ (heap_at_lt h.own)).trans h.own, (hb.block _ (heap_at_lt h.box)).trans h.box, (hb.block _ (heap_at_lt h.hld)).trans h.hld, h.lo.trans (hb.mono h.lo.size), h.ne⟩
theorem FrI.looks (h : FrI W r rp rf rc E g X) : LooksA r g E X := by
  obtain ⟨⟨c0, c1, c2, c3, c4, c5⟩, -, -, -⟩ := rd_at h.own
  exact ⟨c0, c1, c2, c3, c4, c5, (pnd_at h.hld).1⟩
theorem FrI.put (h : FrI W r rp rf rc E g X) (x : ActD) :
    ((((((X.setCell ⟨W.heap.size, 0, none⟩ (.int .i64 x.kind)).setCell ⟨W.heap.size, 1, none⟩ (.int .u64 (x.block : Int))).setCell ⟨W.heap.size, 2, none⟩ (.int .i64 x.cell)).setCell ⟨W.heap.size, 3, none⟩ (.int .u64 x.old)).setCell ⟨W.heap.size, 4, none⟩ (.int .u64 x.new)).setCell ⟨W.heap.size, 5, none⟩ (.string x.text)).heap[W.heap.size]? = some (.cells (actCells x) 31 (0, 0)) ∧
    Below W.heap.size W ((((((X.setCell ⟨W.heap.size, 0, none⟩ (.int .i64 x.kind)).setCell ⟨W.heap.size, 1, none⟩ (.int .u64 (x.block : Int))).setCell ⟨W.heap.size, 2, none⟩ (.int .i64 x.cell)).setCell ⟨W.heap.size, 3, none⟩ (.int .u64 x.old)).setCell ⟨W.heap.size, 4, none⟩ (.int .u64 x.new)).setCell ⟨W.heap.size, 5, none⟩ (.string x.text)) ∧
    LooksA r g E ((((((X.setCell ⟨W.heap.size, 0, none⟩ (.int .i64 x.kind)).setCell ⟨W.heap.size, 1, none⟩ (.int .u64 (x.block : Int))).setCell ⟨W.heap.size, 2, none⟩ (.int .i64 x.cell)).setCell ⟨W.heap.size, 3, none⟩ (.int .u64 x.old)).setCell ⟨W.heap.size, 4, none⟩ (.int .u64 x.new)).setCell ⟨W.heap.size, 5, none⟩ (.string x.text)) := by
  refine ⟨set6 h.box _ _ _ _ _ _, below6 h.lo (Nat.le_refl _) _ _ _ _ _ _, ?_⟩
  have hc : ∀ k i, k ≠ W.heap.size → ((((((X.setCell ⟨W.heap.size, 0, none⟩ (.int .i64 x.kind)).setCell ⟨W.heap.size, 1, none⟩ (.int .u64 (x.block : Int))).setCell ⟨W.heap.size, 2, none⟩ (.int .i64 x.cell)).setCell ⟨W.heap.size, 3, none⟩ (.int .u64 x.old)).setCell ⟨W.heap.size, 4, none⟩ (.int .u64 x.new)).setCell ⟨W.heap.size, 5, none⟩ (.string x.text)).cell? ⟨k, i, none⟩ = X.cell? ⟨k, i, none⟩ := fun k i hk => World.cell?_of_block (a := ⟨k, i, none⟩) (by
    rw [Below.heap_setCell _ _ _ _ hk, Below.heap_setCell _ _ _ _ hk, Below.heap_setCell _ _ _ _ hk, Below.heap_setCell _ _ _ _ hk, Below.heap_setCell _ _ _ _ hk, Below.heap_setCell _ _ _ _ hk])
  obtain ⟨h0, h1, h2, h3, h4, h5, h8⟩ := h.looks
  have hr := h.ne.1
  have hg := h.ne.2
  exact ⟨(hc r _ (by omega)).trans h0, (hc r _ (by omega)).trans h1, (hc r _ (by omega)).trans h2, (hc r _ (by omega)).trans h3, (hc r _ (by omega)).trans h4, (hc r _ (by omega)).trans h5, (hc g _ (by omega)).trans h8⟩
end

set_option maxRecDepth 100000 in
set_option maxHeartbeats 4000000 in
theorem ract_4 (W : World) {B r rp rf : Nat} {rc : Option Addr} {E : RdD} (h : RdIn W B r E rp rf rc) (hp : E.part = 4) :
    Calls Tryz.prog 7 #[.pointer (some ⟨r, 0, none⟩)] W (RactE ((nextR E).getD noAct) (nextR E).isSome W) := by
  rw [nextR_4 hp]
  show Calls _ _ _ _ (RactE E.free true W)
  have HB := Lib.hid (below_alloc W noO)
  have HN := Lib.hid (World.alloc_heap_new W noO)
  have h' := h.below HB.out
  have HRs := Lib.hid (pres_any (W.alloc noO) h'.pn.own)
  unfold PresE at HRs
  rw [show resP E.pin = ((E.pin.pn, E.pin.ep, E.pin.taken), true) from if_pos (h.fits.held (by omega) (by omega))] at HRs
  obtain ⟨⟨c0, c1, c2, c3, c4, c5⟩, ⟨c6, c7, c8, c9⟩, -, -⟩ := rd_at h'.own
  rw [hp] at c6
  have HOw := Lib.hid (And.intro h'.own (heap_at_lt h.own))
  have HFr := Lib.hid (fun X => pfree_any X E.a E.p E.s E.q E.v E.x E.pin.pn)
  obtain ⟨y, hy⟩ : ∃ y, freeE (pinW E.a E.p E.s E.q E.v E.pin.pn) = y := ⟨_, rfl⟩
  rw [hy] at HFr
  rw [show E.free = y from hy]
  clear h h' hp hy
  go_enter Tryz.func7, Tryz.ntmps7
  go_wp2_with fail
  refine HRs.out.mono ?_
  rintro en w1 ⟨rfl, hb⟩
  have HI := Lib.hid (show FrI W r rp rf rc E w1.heap.size (w1.alloc (pndO E.pin.pn E.pin.ep E.pin.taken)) from by
    obtain ⟨h1, hb1⟩ := ract_mid HN.out hb
    have hx := below_alloc w1 (pndO E.pin.pn E.pin.ep E.pin.taken)
    have ho := (hb.block _ (heap_at_lt HOw.out.1)).trans HOw.out.1
    exact ⟨(hx.block _ (heap_at_lt ho)).trans ho, (hx.block _ (heap_at_lt h1)).trans h1, World.alloc_heap_new _ _, hb1.trans (hx.mono hb1.size), HOw.out.2, heap_at_lt h1⟩)
  clear hb c0 c1 c2 c3 c4 c5 c6 c7 c8 c9 HRs HOw
  go_wp2_with fail
  obtain ⟨g, hg⟩ : ∃ g, w1.heap.size = g := ⟨_, rfl⟩
  rw [hg] at HI ⊢
  generalize w1.alloc (pndO E.pin.pn E.pin.ep E.pin.taken) = w2 at HI ⊢
  clear hg
  have HS := Lib.hid (show LooksA r g E w2.drew from (HI.out.below (below_drew _)).looks)
  refine wp_region_held_drew (S := fun w' => w'.cell? ⟨r, 0, none⟩ = some (.int .i64 E.a) ∧ w'.cell? ⟨r, 1, none⟩ = some (.int .i64 E.p) ∧ w'.cell? ⟨r, 2, none⟩ = some (.int .i64 E.s) ∧ w'.cell? ⟨r, 3, none⟩ = some (.int .i64 E.q) ∧ w'.cell? ⟨r, 4, none⟩ = some (.int .i64 E.v) ∧ w'.cell? ⟨r, 5, none⟩ = some (.int .u64 E.x) ∧ w'.cell? ⟨g, 0, none⟩ = some (.int .i64 E.pin.pn)) (by kernel_rfl) HS.out (fun _ => ?_)
  refine (fun h => h) ?_
  refine wpAnyH_look (i := 0) (v := ?v0) 50 rfl (by kernel_rfl) (by kernel_rfl) (by kernel_rfl) (fun _ _ _ _ h => h) (by rfl) HS.out (Or.inl ⟨by rfl, ?y0⟩) ?r0
  case y0 => intro w hSw; (try dsimp only at hSw); go_simp; (try with_reducible rfl)
  simp only [List.setIfInBounds_toArray, List.set_cons_zero, List.set_cons_succ]
  refine wpAnyH_look (i := 1) (v := ?v1) 51 rfl (by kernel_rfl) (by kernel_rfl) (by kernel_rfl) (fun _ _ _ _ h => h) (by rfl) HS.out (Or.inl ⟨by rfl, ?y1⟩) ?r1
  case y1 => intro w hSw; (try dsimp only at hSw); go_simp; (try with_reducible rfl)
  simp only [List.setIfInBounds_toArray, List.set_cons_zero, List.set_cons_succ]
  refine wpAnyH_look (i := 2) (v := ?v2) 52 rfl (by kernel_rfl) (by kernel_rfl) (by kernel_rfl) (fun _ _ _ _ h => h) (by rfl) HS.out (Or.inl ⟨by rfl, ?y2⟩) ?r2
  case y2 => intro w hSw; (try dsimp only at hSw); go_simp; (try with_reducible rfl)
  simp only [List.setIfInBounds_toArray, List.set_cons_zero, List.set_cons_succ]
  refine wpAnyH_look (i := 3) (v := ?v3) 53 rfl (by kernel_rfl) (by kernel_rfl) (by kernel_rfl) (fun _ _ _ _ h => h) (by rfl) HS.out (Or.inl ⟨by rfl, ?y3⟩) ?r3
  case y3 => intro w hSw; (try dsimp only at hSw); go_simp; (try with_reducible rfl)
  simp only [List.setIfInBounds_toArray, List.set_cons_zero, List.set_cons_succ]
  refine wpAnyH_look (i := 4) (v := ?v4) 54 rfl (by kernel_rfl) (by kernel_rfl) (by kernel_rfl) (fun _ _ _ _ h => h) (by rfl) HS.out (Or.inl ⟨by rfl, ?y4⟩) ?r4
  case y4 => intro w hSw; (try dsimp only at hSw); go_simp; (try with_reducible rfl)
  simp only [List.setIfInBounds_toArray, List.set_cons_zero, List.set_cons_succ]
  refine wpAnyH_look (i := 5) (v := ?v5) 55 rfl (by kernel_rfl) (by kernel_rfl) (by kernel_rfl) (fun _ _ _ _ h => h) (by rfl) HS.out (Or.inl ⟨by rfl, ?y5⟩) ?r5
  case y5 => intro w hSw; (try dsimp only at hSw); go_simp; (try with_reducible rfl)
  simp only [List.setIfInBounds_toArray, List.set_cons_zero, List.set_cons_succ]
  refine wpAnyH_ready (rs := [6]) (by kernel_rfl) (by simp) ?_
  refine AllReadyH.cons rfl (fun K hK => ?_) AllReadyH.nil
  go_simp
  go_at_call 25
  refine (HFr.out _).mono ?_
  rintro en x1 ⟨rfl, hb⟩
  have HI1 := Lib.hid ((HI.out.below (below_drew _)).below hb)
  have HS := Lib.hid HI1.out.looks
  clear hb
  go_simp
  refine hK.out _ _ HS.out (fun _ => ?_)
  clear hK K
  obtain ⟨z0, z1, z2, z3, z4, z5⟩ := six_free HI1.out.box
  obtain ⟨m0, m1, m2, m3, m4, m5⟩ := six_at HI1.out.box
  have HE := Lib.hid (HI1.out.put y)
  refine wpAnyH_ready (rs := [7]) (by kernel_rfl) (by simp) ?_
  refine AllReadyH.cons rfl (fun K hK => ?_) AllReadyH.nil
  go_simp
  have HS := Lib.hid HE.out.2.2
  refine hK.out _ _ HS.out (fun _ => ?_)
  clear hK K
  refine wpAnyH_look (i := 8) (v := ?v8) 3 rfl (by kernel_rfl) (by kernel_rfl) (by kernel_rfl) (fun _ _ _ _ h => h) (by rfl) HS.out (Or.inl ⟨by rfl, ?y8⟩) ?r8
  case y8 => intro w hSw; (try dsimp only at hSw); go_simp; (try with_reducible rfl)
  simp only [List.setIfInBounds_toArray, List.set_cons_zero, List.set_cons_succ]
  refine ⟨by kernel_rfl, ?_⟩
  go_wp2_with fail
  exact ract_end HE.out.1 HE.out.2.1 rfl rfl

end Go.Proofs.YtpnfbabiibopnaaGreat
