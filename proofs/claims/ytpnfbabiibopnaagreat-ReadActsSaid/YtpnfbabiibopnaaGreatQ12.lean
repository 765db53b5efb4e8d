/-
  Ctl, Pnmath, Emb, in one text.
-/
import Derived.Test.YtpnfbabiibopnaaGreatQ09
import Derived.Test.YtpnfbabiibopnaaGreatQ11
/-! A heap's first block as a function of its cells: loads, stores, swaps and bumps of it, as acts; a routine of any kind that does them. Plain. -/
namespace Go.Proofs.YtpnfbabiibopnaaGreat
open Go Go.RowKit

/-- The first block has n cells, with G's words. -/
structure Ctl (n : Nat) (D : HpD) (G : Nat → Int) : Prop where
  faults : D.faults = 0
  small : D.L.length ≤ 1000
  live : ∃ ws t, liveAt D.L 1 = some ⟨ws, t, false⟩ ∧ ws.length = n ∧ ∀ i, i < n → ws[i]? = some (G i)
  fine : Fine D
/-- One cell is another. -/
def upd (G : Nat → Int) (c : Nat) (u : Int) : Nat → Int := fun i => if i = c then u else G i
theorem upd_self (G : Nat → Int) (c : Nat) (u : Int) : upd G c u c = u := if_pos rfl
theorem upd_other {G : Nat → Int} {c i : Nat} {u : Int} (h : i ≠ c) : upd G c u i = G i := if_neg h
section
variable {n : Nat} {D : HpD} {G : Nat → Int}
theorem Ctl.same {G' : Nat → Int} (h : Ctl n D G) (hs : ∀ i, i < n → G' i = G i) : Ctl n D G' := by
  obtain ⟨ws, t, h1, h2, h3⟩ := h.live
  exact ⟨h.faults, h.small, ⟨ws, t, h1, h2, fun i hi => by rw [h3 i hi, hs i hi]⟩, h.fine⟩
theorem Ctl.few (h : Ctl n D G) {m : Nat} (hm : m ≤ 800000) : FewD D m := ⟨by rw [h.faults]; omega, by have := h.small; omega, h.fine⟩
theorem Ctl.start (n : Nat) : Ctl n (fieldD n) (fun _ => 0) := by
  refine ⟨rfl, by show 1 ≤ 1000; omega, ⟨List.replicate n 0, ⟨#[]⟩, rfl, by simp, fun i hi => by simp [hi]⟩, fun b hb => ?_⟩
  have hb' : b = ⟨List.replicate n 0, ⟨#[]⟩, false⟩ := by
    have : b ∈ [(⟨List.replicate n 0, ⟨#[]⟩, false⟩ : BlkD)] := hb
    simpa using this
  subst hb'
  exact ⟨fun w hw => by rw [List.eq_of_mem_replicate hw]; omega, by show (⟨#[]⟩ : ByteArray).size ≤ _; exact Nat.zero_le _⟩
theorem Ctl.spot (h : Ctl n D G) {c : Nat} (hc : c < n) : spot D.L 1 (c : Int) = 0 := by
  obtain ⟨ws, t, h1, h2, _⟩ := h.live
  exact spot_hit h1 (by show c < ws.length; omega)
theorem Ctl.word (h : Ctl n D G) {c : Nat} (hc : c < n) : wordAt D.L 1 (c : Int) = G c := by
  obtain ⟨ws, t, h1, h2, h3⟩ := h.live
  have h4 := h3 c hc
  have hl : c < ws.length := by omega
  rw [List.getElem?_eq_getElem hl] at h4
  rw [wordAt_hit h1 hl]
  exact Option.some.inj h4
theorem Ctl.in64 (h : Ctl n D G) {c : Nat} (hc : c < n) : 0 ≤ G c ∧ G c < 18446744073709551616 := by
  rw [← h.word hc]; exact h.fine.wordAt _ _
/-- A word is put. -/
theorem Ctl.put (h : Ctl n D G) {c : Nat} (hc : c < n) {u : Int} (hu : 0 ≤ u ∧ u < 18446744073709551616) : Ctl n (D.word 1 (c : Int) u) (upd G c u) ∧ (D.word 1 (c : Int) u).L.length = D.L.length := by
  have hf := h.fine.word 1 (c : Int) hu
  obtain ⟨ws, t, h1, h2, h3⟩ := h.live
  rw [word_hit h1] at hf ⊢
  simp only at hf ⊢
  have hlen := (liveAt_some h1).2.1
  have hL : (D.at 1 ⟨ws.set c u, t, false⟩).L.length = D.L.length := by simp [HpD.at]
  refine ⟨⟨h.faults, by have := h.small; omega, ⟨ws.set c u, t, ?_, by simp [h2], fun i hi => ?_⟩, hf⟩, hL⟩
  · exact liveAt_mk (Nat.le_refl _) (by show (D.L.set 0 _)[0]? = _; rw [List.getElem?_set_self (by omega)]) rfl
  · by_cases e : i = c
    · subst e; rw [upd_self, List.getElem?_set_self (by omega)]
    · rw [upd_other e, List.getElem?_set_ne (Ne.symm e)]; exact h3 i hi

/-! ### acts -/
def actL (b : Nat) (c : Int) : ActD := ⟨1, b, c, 0, 0, ⟨#[]⟩⟩
def actS (b : Nat) (c u : Int) : ActD := ⟨2, b, c, 0, u, ⟨#[]⟩⟩
def actW3 (b : Nat) (c o u : Int) : ActD := ⟨3, b, c, o, u, ⟨#[]⟩⟩
def actB (b : Nat) (c u : Int) : ActD := ⟨4, b, c, 0, u, ⟨#[]⟩⟩
theorem actL_right {b : Nat} {c : Int} (hc : 0 ≤ c) : rightA (actL b c) = true := by simp [rightA, actL, zeroA, restA, hc, show (⟨#[]⟩ : ByteArray).size = 0 from rfl]
theorem actS_right {b : Nat} {c u : Int} (hc : 0 ≤ c) : rightA (actS b c u) = true := by simp [rightA, actS, zeroA, restA, hc, show (⟨#[]⟩ : ByteArray).size = 0 from rfl]
theorem actW3_right {b : Nat} {c o u : Int} (hc : 0 ≤ c) : rightA (actW3 b c o u) = true := by simp [rightA, actW3, zeroA, restA, hc, show (⟨#[]⟩ : ByteArray).size = 0 from rfl]
theorem actB_right {b : Nat} {c u : Int} (hc : 0 ≤ c) : rightA (actB b c u) = true := by simp [rightA, actB, zeroA, restA, hc, show (⟨#[]⟩ : ByteArray).size = 0 from rfl]
/-- What an act does to the first block, and what it is answered. -/
structure DoesC (n : Nat) (D : HpD) (x : ActD) (w : Int) (G' : Nat → Int) : Prop where
  word : doW D x = w
  text : doT D x = ⟨#[]⟩
  ready : readyA D x = true
  ctl : Ctl n (doN D x) G'
  len : (doN D x).L.length = D.L.length
theorem Ctl.loads (h : Ctl n D G) {c : Nat} (hc : c < n) : DoesC n D (actL 1 c) (G c) G := by
  have hA := actL_right (b := 1) (c := (c : Int)) (by omega)
  have e : doN D (actL 1 c) = D := by
    unfold doN; rw [hA, if_pos rfl]
    show loadD D 1 c = _
    unfold loadD; rw [if_pos (h.spot hc)]
  refine ⟨?_, by unfold doT; rw [hA, if_pos rfl]; rfl, by unfold readyA; rw [hA]; rfl, by rw [e]; exact h, by rw [e]⟩
  unfold doW; rw [hA, if_pos rfl]
  show loadV D 1 c = _
  unfold loadV; rw [if_pos (h.spot hc), h.word hc]
theorem Ctl.stores (h : Ctl n D G) {c : Nat} (hc : c < n) {u : Int} (hu : 0 ≤ u ∧ u < 18446744073709551616) : DoesC n D (actS 1 c u) 0 (upd G c u) := by
  have hA := actS_right (b := 1) (c := (c : Int)) (u := u) (by omega)
  have e : doN D (actS 1 c u) = D.word 1 c u := by
    unfold doN; rw [hA, if_pos rfl]
    show storeD D 1 c u = _
    unfold storeD; rw [if_pos (h.spot hc)]
  have hp := h.put hc hu
  exact ⟨by unfold doW; rw [hA, if_pos rfl]; rfl, by unfold doT; rw [hA, if_pos rfl]; rfl, by unfold readyA; rw [hA]; rfl, by rw [e]; exact hp.1, by rw [e]; exact hp.2⟩
theorem Ctl.swaps (h : Ctl n D G) {c : Nat} (hc : c < n) {u : Int} (hu : 0 ≤ u ∧ u < 18446744073709551616) (o : Int) : DoesC n D (actW3 1 c o u) (G c) (if G c = o then upd G c u else G) := by
  have hA := actW3_right (b := 1) (c := (c : Int)) (o := o) (u := u) (by omega)
  have e : doN D (actW3 1 c o u) = if G c = o then D.word 1 c u else D := by
    unfold doN; rw [hA, if_pos rfl]
    show swapD D 1 c o u = _
    unfold swapD; rw [if_pos (h.spot hc), h.word hc]
  have hp := h.put hc hu
  refine ⟨?_, by unfold doT; rw [hA, if_pos rfl]; rfl, by unfold readyA; rw [hA]; rfl, ?_, ?_⟩
  · unfold doW; rw [hA, if_pos rfl]
    show loadV D 1 c = _
    unfold loadV; rw [if_pos (h.spot hc), h.word hc]
  · rw [e]; split
    · exact hp.1
    · exact h
  · rw [e]; split
    · exact hp.2
    · rfl
theorem Ctl.loads_same (h : Ctl n D G) {c : Nat} (hc : c < n) : doN D (actL 1 c) = D := by
  unfold doN; rw [actL_right (b := 1) (c := (c : Int)) (by omega), if_pos rfl]
  show loadD D 1 c = _
  unfold loadD; rw [if_pos (h.spot hc)]
theorem Ctl.swaps_not (h : Ctl n D G) {c : Nat} (hc : c < n) {o : Int} (u : Int) (hz : ¬ G c = o) : doN D (actW3 1 c o u) = D := by
  unfold doN; rw [actW3_right (b := 1) (c := (c : Int)) (o := o) (u := u) (by omega), if_pos rfl]
  show swapD D 1 c o u = _
  unfold swapD; rw [if_pos (h.spot hc), h.word hc, if_neg hz]
theorem Ctl.bumps (h : Ctl n D G) {c : Nat} (hc : c < n) (u : Int) : DoesC n D (actB 1 c u) (G c) (upd G c (IntKind.u64.wrap (G c + u))) := by
  have hA := actB_right (b := 1) (c := (c : Int)) (u := u) (by omega)
  have e : doN D (actB 1 c u) = D.word 1 c (IntKind.u64.wrap (G c + u)) := by
    unfold doN; rw [hA, if_pos rfl]
    show bumpD D 1 c u = _
    unfold bumpD; rw [if_pos (h.spot hc), h.word hc]
  have hp := h.put hc (u64_wrap_in (G c + u))
  refine ⟨?_, by unfold doT; rw [hA, if_pos rfl]; rfl, by unfold readyA; rw [hA]; rfl, by rw [e]; exact hp.1, by rw [e]; exact hp.2⟩
  unfold doW; rw [hA, if_pos rfl]
  show loadV D 1 c = _
  unfold loadV; rw [if_pos (h.spot hc), h.word hc]
end

/-! ### a routine that does one -/
section
variable {σ : Type} {M : Mach σ} {D : HpD} {E : σ} {n : Nat}
theorem stepM_ready {x : ActD} (hn : M.next E = some x) (hr : readyA D x = true) : stepM M ⟨D, E⟩ = some ⟨x, doW D x, doT D x⟩ := by
  unfold stepM
  show (match M.next E with | some x => if readyA D x then some (⟨x, doW D x, doT D x⟩ : StepD) else none | none => none) = _
  rw [hn]; simp [hr]
theorem advM_ready {x : ActD} (hn : M.next E = some x) (hr : readyA D x = true) : advM M ⟨D, E⟩ = ⟨doN D x, M.take E (doW D x) (doT D x)⟩ ∧ (stepM M ⟨D, E⟩).isSome = true := by
  have hs := stepM_ready hn hr
  refine ⟨?_, by rw [hs]; rfl⟩
  unfold advM
  rw [hs]
  exact nextM_some (M := M) (S := ⟨D, E⟩) hn
theorem advM_does {x : ActD} {w : Int} {G' : Nat → Int} (hn : M.next E = some x) (h : DoesC n D x w G') : advM M ⟨D, E⟩ = ⟨doN D x, M.take E w ⟨#[]⟩⟩ ∧ (stepM M ⟨D, E⟩).isSome = true := by
  have := advM_ready hn h.ready
  rw [h.word, h.text] at this
  exact this
end

end Go.Proofs.YtpnfbabiibopnaaGreat

/-! A pin that is looked for alone: which one is taken, and by how many acts. Plain. -/
namespace Go.Proofs.YtpnfbabiibopnaaGreat
open Go Go.RowKit

/-- The i-th pin on the way. -/
def wayP (th p : Int) (i : Nat) : Int := (th % p + (i : Int)) % p
theorem wayP_zero (th p : Int) (hp : 1 ≤ p) : wayP th p 0 = th % p := by
  have hm := Int.emod_nonneg th (show p ≠ 0 by omega)
  have hm2 := Int.emod_lt_of_pos th (show 0 < p by omega)
  unfold wayP
  rw [Int.emod_eq_of_lt (by omega) (by omega)]
  omega
theorem wayP_in (th p : Int) (hp : 1 ≤ p) (i : Nat) : 0 ≤ wayP th p i ∧ wayP th p i < p :=
  ⟨Int.emod_nonneg _ (by omega), Int.emod_lt_of_pos _ (by omega)⟩
theorem wayP_succ (th p : Int) (i : Nat) : (wayP th p i + 1) % p = wayP th p (i + 1) := by
  unfold wayP
  rw [Int.emod_add_emod]
  congr 1
  push_cast
  omega
/-- Each pin is on the way. -/
theorem wayP_all (th p : Int) (hp : 1 ≤ p) {k : Int} (h0 : 0 ≤ k) (h1 : k < p) : ∃ i : Nat, (i : Int) < p ∧ wayP th p i = k := by
  have hm := Int.emod_nonneg th (show p ≠ 0 by omega)
  have hm2 := Int.emod_lt_of_pos th (show 0 < p by omega)
  by_cases h : th % p ≤ k
  · refine ⟨(k - th % p).toNat, by omega, ?_⟩
    unfold wayP
    rw [show th % p + ((k - th % p).toNat : Int) = k by omega, Int.emod_eq_of_lt h0 h1]
  · refine ⟨(k + p - th % p).toNat, by omega, ?_⟩
    unfold wayP
    rw [show th % p + ((k + p - th % p).toNat : Int) = k + p by omega, Int.add_emod_right, Int.emod_eq_of_lt h0 h1]

/-- The first place on the way at which a pin is free, among m from the i-th on. -/
def firstP (G : Nat → Int) (th p : Int) : Nat → Nat → Option Nat
  | 0, _ => none
  | m + 1, i => if G (3 + wayP th p i).toNat = 0 then some i else firstP G th p m (i + 1)
theorem firstP_some {G : Nat → Int} {th p : Int} : ∀ {m i j : Nat}, firstP G th p m i = some j → i ≤ j ∧ j < i + m ∧ G (3 + wayP th p j).toNat = 0
  | 0, _, _, h => by cases h
  | m + 1, i, j, h => by
    unfold firstP at h
    split at h
    · cases h; exact ⟨Nat.le_refl _, by omega, by assumption⟩
    · obtain ⟨h1, h2, h3⟩ := firstP_some h
      exact ⟨by omega, by omega, h3⟩
theorem firstP_none {G : Nat → Int} {th p : Int} : ∀ {m i : Nat}, firstP G th p m i = none → ∀ j, i ≤ j → j < i + m → G (3 + wayP th p j).toNat ≠ 0
  | 0, _, _, j, h1, h2 => by omega
  | m + 1, i, h, j, h1, h2 => by
    unfold firstP at h
    split at h
    · cases h
    · rename_i hn
      rcases Nat.eq_or_lt_of_le h1 with e | hl
      · subst e; exact hn
      · exact firstP_none h j hl (by omega)

/-- Where it stands at the i-th try. -/
def tryP (a p s q v x th e : Int) (i : Nat) : PinD := ⟨a, p, s, q, v, x, 2, (i : Int), wayP th p i, e, false⟩
def takenP (a p s q v x : Int) : PinD := ⟨a, p, s, q, v, x, 5, p, 0, 0, true⟩
def gotP (a p s q v x th e : Int) (i : Nat) : PinD := ⟨a, p, s, q, v, x, 5, (i : Int), wayP th p i, e, false⟩

section
variable {a p s q v x th e : Int} {n : Nat} {D : HpD} {G : Nat → Int}
theorem tryP_cell (hr : rightC a p s q v = true) (i : Nat) : (tryP a p s q v x th e i).cell = ((3 + wayP th p i).toNat : Int) := by
  obtain ⟨h0, h1⟩ := wayP_in th p (rightC_bd hr).2.1.1 i
  show pinW a p s q v (wayP th p i) = _
  rw [pinW_in hr h0 h1]; omega
/-- From the i-th try on. -/
theorem pin_runs (S0 : PmS PinD) (hr : rightC a p s q v = true) (hn : (n : Int) = sizeW a p s q v) (hC : Ctl n D G) (hG : G 0 = e) : ∀ (m i n0 : Nat), (i : Int) + m = p → (stM PinM S0 n0 = ⟨D, if m = 0 then takenP a p s q v x else tryP a p s q v x th e i⟩ ∧ (toM PinM S0 n0).length = n0) →
    match firstP G th p m i with
    | none => stM PinM S0 (n0 + m) = ⟨D, takenP a p s q v x⟩ ∧ (toM PinM S0 (n0 + m)).length = n0 + m
    | some j => ∃ D', Ctl n D' (upd G (3 + wayP th p j).toNat (upE e)) ∧ stM PinM S0 (n0 + (j - i) + 2) = ⟨D', gotP a p s q v x th e j⟩ ∧ (toM PinM S0 (n0 + (j - i) + 2)).length = n0 + (j - i) + 2
  | 0, i, n0, hi, h0 => h0
  | m + 1, i, n0, hi, h0 => by
    rw [if_neg (by omega)] at h0
    obtain ⟨⟨a1, a32⟩, ⟨p1, p8⟩, s1, s64⟩ := rightC_bd hr
    have hsz : sizeW a p s q v = 3 + p + a + 2 * s := if_pos hr
    obtain ⟨w0, w1⟩ := wayP_in th p p1 i
    have hc : (3 + wayP th p i).toNat < n := by omega
    have hD := hC.swaps hc (upE_in e) 0
    have hnx : PinM.next (tryP a p s q v x th e i) = some (actW3 1 ((3 + wayP th p i).toNat : Int) 0 (upE e)) := by
      show some (swapE (tryP a p s q v x th e i).cell e) = _
      rw [tryP_cell hr]; rfl
    have s1 := stM_succ h0 (advM_does (M := PinM) hnx hD)
    unfold firstP
    by_cases hz : G (3 + wayP th p i).toNat = 0
    · rw [if_pos hz]
      show ∃ D', Ctl n D' (upd G (3 + wayP th p i).toNat (upE e)) ∧ stM PinM S0 (n0 + (i - i) + 2) = _ ∧ _
      rw [Nat.sub_self, Nat.add_zero]
      have hD2 := hD.ctl
      rw [if_pos hz] at hD2
      have e1 : PinM.take (tryP a p s q v x th e i) (G (3 + wayP th p i).toNat) ⟨#[]⟩ = (tryP a p s q v x th e i).to 3 := by
        rw [PinM_take, takeP_2 rfl, if_pos hz]
      rw [e1] at s1
      have hG0 : upd G (3 + wayP th p i).toNat (upE e) 0 = e := by rw [upd_other (by omega)]; exact hG
      have hL := hD2.loads (c := 0) (by omega)
      rw [hG0] at hL
      have s2 := stM_succ s1 (advM_does (M := PinM) (E := (tryP a p s q v x th e i).to 3) (x := actL 1 ((0 : Nat) : Int)) rfl hL)
      have e2 : PinM.take ((tryP a p s q v x th e i).to 3) e ⟨#[]⟩ = gotP a p s q v x th e i := by
        rw [PinM_take, takeP_3 rfl]; exact if_pos rfl
      rw [e2] at s2
      exact ⟨_, hL.ctl, s2.1, s2.2⟩
    · rw [if_neg hz]
      have e0 := hC.swaps_not hc (upE e) hz
      have e1 : PinM.take (tryP a p s q v x th e i) (G (3 + wayP th p i).toNat) ⟨#[]⟩ = if m = 0 then takenP a p s q v x else tryP a p s q v x th e (i + 1) := by
        rw [PinM_take, takeP_2 rfl, if_neg hz]
        unfold PinD.miss
        show (if (i : Int) + 1 = p then _ else _) = _
        by_cases hm : m = 0
        · rw [if_pos hm, if_pos (by omega)]
          show (⟨a, p, s, q, v, x, 5, (i : Int) + 1, 0, 0, true⟩ : PinD) = _
          rw [show (i : Int) + 1 = p by omega]; rfl
        · rw [if_neg hm, if_neg (by omega)]
          show (⟨a, p, s, q, v, x, 2, (i : Int) + 1, (wayP th p i + 1) % p, e, false⟩ : PinD) = _
          rw [wayP_succ]; rfl
      rw [e0, e1] at s1
      have ih := pin_runs S0 hr hn hC hG m (i + 1) (n0 + 1) (by omega) s1
      cases hf : firstP G th p m (i + 1) with
      | none =>
        rw [hf] at ih
        rw [show n0 + (m + 1) = n0 + 1 + m by omega]
        exact ih
      | some j =>
        rw [hf] at ih
        have hj := (firstP_some hf).1
        obtain ⟨D', h1, h2, h3⟩ := ih
        rw [show n0 + 1 + (j - (i + 1)) = n0 + (j - i) by omega] at h2 h3
        exact ⟨D', h1, h2, h3⟩
/-- What a pin that is looked for alone comes to. -/
structure AloneP (a p s q v x th : Int) (n : Nat) (D : HpD) (G : Nat → Int) (m : Nat) (k : Nat) (E : PinD) (D' : HpD) (G' : Nat → Int) : Prop where
  st : stM PinM ⟨D, newP a p s q v x th⟩ m = ⟨D', E⟩
  to : (toM PinM ⟨D, newP a p s q v x th⟩ m).length = k
  stop : PinM.next E = none
  ctl : Ctl n D' G'
theorem pin_alone (hr : rightC a p s q v = true) (hn : (n : Int) = sizeW a p s q v) (hC : Ctl n D G) (m : Nat) (hm : p + 2 ≤ (m : Int)) :
    (firstP G th p p.toNat 0 = none → AloneP a p s q v x th n D G m (p.toNat + 1) (takenP a p s q v x) D G) ∧
    (∀ j, firstP G th p p.toNat 0 = some j → ∃ D', AloneP a p s q v x th n D G m (j + 3) (gotP a p s q v x th (G 0) j) D' (upd G (3 + wayP th p j).toNat (upE (G 0)))) := by
  obtain ⟨⟨a1, a32⟩, ⟨p1, p8⟩, s1, s64⟩ := rightC_bd hr
  have hsz : sizeW a p s q v = 3 + p + a + 2 * s := if_pos hr
  have hL := hC.loads (c := 0) (by omega)
  have hld := hC.loads_same (c := 0) (by omega)
  have h1 := stM_succ (M := PinM) (S := ⟨D, newP a p s q v x th⟩) (n := 0) ⟨rfl, rfl⟩ (advM_does (M := PinM) (E := newP a p s q v x th) (x := actL 1 ((0 : Nat) : Int)) rfl hL)
  have e1 : PinM.take (newP a p s q v x th) (G 0) ⟨#[]⟩ = tryP a p s q v x th (G 0) 0 := by
    rw [PinM_take, takeP_1 rfl]
    show (⟨a, p, s, q, v, x, 2, 0, th % p, G 0, false⟩ : PinD) = ⟨a, p, s, q, v, x, 2, 0, wayP th p 0, G 0, false⟩
    rw [wayP_zero th p p1]
  rw [hld, e1] at h1
  have hr1 := pin_runs (th := th) (x := x) ⟨D, newP a p s q v x th⟩ hr hn hC rfl p.toNat 0 1 (by omega) ⟨by rw [if_neg (by omega)]; exact h1.1, h1.2⟩
  constructor
  · intro hf
    rw [hf] at hr1
    obtain ⟨r1, r2⟩ := hr1
    have hst : stepM PinM (stM PinM ⟨D, newP a p s q v x th⟩ (1 + p.toNat)) = none := by rw [r1]; rfl
    obtain ⟨u1, u2⟩ := mstop_stays hst (m - (1 + p.toNat))
    rw [show 1 + p.toNat + (m - (1 + p.toNat)) = m by omega] at u1 u2
    exact ⟨u2.trans r1, by rw [u1, r2]; omega, rfl, hC⟩
  · intro j hf
    rw [hf] at hr1
    obtain ⟨D', r0, r1, r2⟩ := hr1
    have hj := (firstP_some hf).2.1
    have hst : stepM PinM (stM PinM ⟨D, newP a p s q v x th⟩ (1 + (j - 0) + 2)) = none := by rw [r1]; rfl
    obtain ⟨u1, u2⟩ := mstop_stays hst (m - (1 + (j - 0) + 2))
    rw [show 1 + (j - 0) + 2 + (m - (1 + (j - 0) + 2)) = m by omega] at u1 u2
    exact ⟨D', u2.trans r1, by rw [u1, r2]; omega, rfl, r0⟩
end

/-! ### pins that are taken ahead -/
/-- The words once the first j were looked at. -/
def takG (tk : Nat → Bool) (j : Nat) : Nat → Int := fun c => if 3 ≤ c ∧ c < 3 + j ∧ tk (c - 3) = true then 9 else 0
def freeN (tk : Nat → Bool) : Nat → Nat
  | 0 => 0
  | j + 1 => freeN tk j + if tk j = true then 0 else 1
theorem freeN_le (tk : Nat → Bool) : ∀ j, freeN tk j ≤ j
  | 0 => Nat.le_refl _
  | j + 1 => by have := freeN_le tk j; unfold freeN; split <;> omega
theorem freeN_zero {tk : Nat → Bool} : ∀ {j : Nat}, freeN tk j = 0 ↔ ∀ i, i < j → tk i = true
  | 0 => ⟨fun _ i hi => absurd hi (Nat.not_lt_zero _), fun _ => rfl⟩
  | j + 1 => by
    unfold freeN
    constructor
    · intro h i hi
      by_cases ht : tk j = true
      · rw [if_pos ht] at h
        rcases Nat.eq_or_lt_of_le (Nat.le_of_lt_succ hi) with e | hl
        · rw [e]; exact ht
        · exact freeN_zero.1 h i hl
      · rw [if_neg ht] at h; omega
    · intro h
      rw [if_pos (h j (Nat.lt_succ_self _)), Nat.add_zero]
      exact freeN_zero.2 fun i hi => h i (Nat.lt_succ_of_lt hi)
theorem takG_hit {tk : Nat → Bool} {j : Nat} (h : tk j = true) : ∀ c, upd (takG tk j) (3 + j) 9 c = takG tk (j + 1) c := fun c => by
  unfold upd takG
  by_cases e : c = 3 + j
  · subst e
    rw [if_pos rfl, if_pos ⟨by omega, by omega, by rw [show 3 + j - 3 = j by omega]; exact h⟩]
  · rw [if_neg e]
    by_cases h1 : 3 ≤ c ∧ c < 3 + j ∧ tk (c - 3) = true
    · rw [if_pos h1, if_pos ⟨h1.1, by omega, h1.2.2⟩]
    · rw [if_neg h1, if_neg (fun h2 => h1 ⟨h2.1, by omega, h2.2.2⟩)]
theorem takG_miss {tk : Nat → Bool} {j : Nat} (h : ¬ tk j = true) : ∀ c, takG tk (j + 1) c = takG tk j c := fun c => by
  unfold takG
  by_cases e : c = 3 + j
  · subst e
    rw [if_neg (fun h2 => h (by have := h2.2.2; rwa [show 3 + j - 3 = j by omega] at this)), if_neg (fun h2 => by omega)]
  · by_cases h1 : 3 ≤ c ∧ c < 3 + j ∧ tk (c - 3) = true
    · rw [if_pos h1, if_pos ⟨h1.1, by omega, h1.2.2⟩]
    · rw [if_neg h1, if_neg (fun h2 => h1 ⟨h2.1, by omega, h2.2.2⟩)]
/-- Whether all are taken. -/
theorem takG_first {tk : Nat → Bool} {th p : Int} (hp : 1 ≤ p ∧ p ≤ 8) : firstP (takG tk p.toNat) th p p.toNat 0 = none ↔ freeN tk p.toNat = 0 := by
  constructor
  · intro h
    refine freeN_zero.2 fun i hi => ?_
    obtain ⟨j, hj, hw⟩ := wayP_all th p hp.1 (k := (i : Int)) (by omega) (by omega)
    have := firstP_none h j (Nat.zero_le _) (by omega)
    rw [hw] at this
    unfold takG at this
    by_cases hc : 3 ≤ (3 + (i : Int)).toNat ∧ (3 + (i : Int)).toNat < 3 + p.toNat ∧ tk ((3 + (i : Int)).toNat - 3) = true
    · have := hc.2.2; rwa [show (3 + (i : Int)).toNat - 3 = i by omega] at this
    · rw [if_neg hc] at this; exact absurd rfl this
  · intro h
    cases hf : firstP (takG tk p.toNat) th p p.toNat 0 with
    | none => rfl
    | some j =>
      obtain ⟨-, hj, hz⟩ := firstP_some hf
      obtain ⟨w0, w1⟩ := wayP_in th p hp.1 j
      have := freeN_zero.1 h (wayP th p j).toNat (by omega)
      unfold takG at hz
      rw [if_pos ⟨by omega, by omega, by rw [show (3 + wayP th p j).toNat - 3 = (wayP th p j).toNat by omega]; exact this⟩] at hz
      cases hz

end Go.Proofs.YtpnfbabiibopnaaGreat

/-! A routine that does what another one does, till that one is done: of any kinds. Plain. -/
namespace Go.Proofs.YtpnfbabiibopnaaGreat
open Go Go.RowKit

section
variable {τ σ : Type} {N : Mach τ} {M : Mach σ} {ι : Nat → τ → σ} {I : τ → Prop}
/-- Where N stands at E behind k acts, M stands at ι k E. -/
structure Emb (N : Mach τ) (M : Mach σ) (ι : Nat → τ → σ) (I : τ → Prop) : Prop where
  next : ∀ k E, I E → (N.next E).isSome = true → M.next (ι k E) = N.next E
  take : ∀ k E w t, I E → (N.next E).isSome = true → M.take (ι k E) w t = ι (k + 1) (N.take E w t) ∧ I (N.take E w t)
theorem stepM_yes {D : HpD} {E : τ} (h : (stepM N ⟨D, E⟩).isSome = true) : ∃ x, N.next E = some x ∧ readyA D x = true := by
  unfold stepM at h
  cases hn : N.next E with
  | none =>
    have e : (match N.next E with | some x => if readyA D x then some (⟨x, doW D x, doT D x⟩ : StepD) else none | none => none) = none := by rw [hn]
    have h' : ((match N.next E with | some x => if readyA D x then some (⟨x, doW D x, doT D x⟩ : StepD) else none | none => none) : Option StepD).isSome = true := h
    rw [e] at h'; cases h'
  | some x =>
    refine ⟨x, rfl, ?_⟩
    have h' : ((match N.next E with | some x => if readyA D x then some (⟨x, doW D x, doT D x⟩ : StepD) else none | none => none) : Option StepD).isSome = true := h
    rw [hn] at h'
    cases hr : readyA D x with
    | true => rfl
    | false => simp [hr] at h'
theorem toM_succ_len {S : PmS τ} {n : Nat} (h : (toM N S (n + 1)).length = n + 1) : (toM N S n).length = n ∧ (stepM N (stM N S n)).isSome = true := by
  have hl := toM_len N S n
  have e : toM N S (n + 1) = toM N S n ++ (stepM N (stM N S n)).toList := rfl
  rw [e, List.length_append] at h
  cases hs : stepM N (stM N S n) with
  | none => rw [hs] at h; simp at h; omega
  | some y => rw [hs] at h; simp at h; exact ⟨by omega, rfl⟩
theorem toM_exact {S : PmS τ} {m k : Nat} (h : (toM N S m).length = k) : (toM N S k).length = k ∧ stM N S k = stM N S m := by
  obtain ⟨h1, h2, h3, h4⟩ := toM_walk N S m
  rw [h] at h1 h2 h3 h4
  refine ⟨?_, h4.symm⟩
  obtain ⟨g1, g2, g3, g4⟩ := toM_walk N S k
  rcases Nat.lt_or_ge (toM N S k).length k with hlt | hge
  · have n1 := g3 hlt
    have n2 := h2 _ hlt
    rw [n1] at n2
    rw [List.getElem?_eq_getElem (by omega)] at n2
    cases n2
  · omega
/-- The runs of both. -/
theorem emb_runs (e : Emb N M ι I) {S0 : PmS σ} {n0 k : Nat} {D : HpD} {E : τ} (hI : I E) (h0 : stM M S0 n0 = ⟨D, ι k E⟩ ∧ (toM M S0 n0).length = n0) : ∀ n, (toM N ⟨D, E⟩ n).length = n →
    (stM M S0 (n0 + n) = ⟨(stM N ⟨D, E⟩ n).D, ι (k + n) (stM N ⟨D, E⟩ n).s⟩ ∧ (toM M S0 (n0 + n)).length = n0 + n) ∧ I (stM N ⟨D, E⟩ n).s
  | 0, _ => ⟨h0, hI⟩
  | n + 1, hn => by
    obtain ⟨hl, hs⟩ := toM_succ_len hn
    obtain ⟨ih, iI⟩ := emb_runs e hI h0 n hl
    have hst : stM N ⟨D, E⟩ (n + 1) = advM N (stM N ⟨D, E⟩ n) := rfl
    generalize hT : stM N ⟨D, E⟩ n = T at *
    obtain ⟨D', E'⟩ := T
    obtain ⟨x, hx, hr⟩ := stepM_yes hs
    have a1 := (advM_ready (M := N) hx hr).1
    have hx2 : M.next (ι (k + n) E') = some x := by rw [e.next _ _ iI (by rw [hx]; rfl)]; exact hx
    have a2 := advM_ready (M := M) (D := D') hx2 hr
    obtain ⟨t1, t2⟩ := e.take (k + n) E' (doW D' x) (doT D' x) iI (by rw [hx]; rfl)
    rw [t1] at a2
    rw [hst, a1]
    exact ⟨stM_succ ih a2, t2⟩
end

end Go.Proofs.YtpnfbabiibopnaaGreat
