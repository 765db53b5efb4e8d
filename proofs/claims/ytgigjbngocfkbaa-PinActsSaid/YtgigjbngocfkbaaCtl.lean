/-
  A heap's first block as a function of its cells: loads, stores, swaps and bumps of it, as acts; a routine of any kind that does them. Plain.
-/
import Derived.Test.YtgigjbngocfkbaaMrun
import Derived.Test.YtgigjbngocfkbaaFld
namespace Go.Proofs.Ytgigjbngocfkbaa
open Go Go.RowKit

/-- The first block has n cells, with G's words. -/
structure Ctl (n : Nat) (D : HpD) (G : Nat → Int) : Prop where
  faults : D.faults = 0
  small : D.L.length ≤ 1000
  live : ∃ ws t, liveAt D.L 1 = some ⟨ws, t, false⟩ ∧ ws.length = n ∧ ∀ i, i < n → ws[i]? = some (G i)
  fine : Fine D
/-- One cell is another. -/
def upd (G : Nat → Int) (c : Nat) (u : Int) : Nat → Int := fun i => if i = c then u else G i
theorem upd_self (G : Nat → Int) (c : Nat) (u : Int) : upd G c u c = u := if_pos rfl
theorem upd_other {G : Nat → Int} {c i : Nat} {u : Int} (h : i ≠ c) : upd G c u i = G i := if_neg h
section
variable {n : Nat} {D : HpD} {G : Nat → Int}
theorem Ctl.same {G' : Nat → Int} (h : Ctl n D G) (hs : ∀ i, i < n → G' i = G i) : Ctl n D G' := by
  obtain ⟨ws, t, h1, h2, h3⟩ := h.live
  exact ⟨h.faults, h.small, ⟨ws, t, h1, h2, fun i hi => by rw [h3 i hi, hs i hi]⟩, h.fine⟩
theorem Ctl.few (h : Ctl n D G) {m : Nat} (hm : m ≤ 800000) : FewD D m := ⟨by rw [h.faults]; omega, by have := h.small; omega, h.fine⟩
theorem Ctl.start (n : Nat) : Ctl n (fieldD n) (fun _ => 0) := by
  refine ⟨rfl, by show 1 ≤ 1000; omega, ⟨List.replicate n 0, ⟨#[]⟩, rfl, by simp, fun i hi => by simp [hi]⟩, fun b hb => ?_⟩
  have hb' : b = ⟨List.replicate n 0, ⟨#[]⟩, false⟩ := by
    have : b ∈ [(⟨List.replicate n 0, ⟨#[]⟩, false⟩ : BlkD)] := hb
    simpa using this
  subst hb'
  exact ⟨fun w hw => by rw [List.eq_of_mem_replicate hw]; omega, by show (⟨#[]⟩ : ByteArray).size ≤ _; exact Nat.zero_le _⟩
theorem Ctl.spot (h : Ctl n D G) {c : Nat} (hc : c < n) : spot D.L 1 (c : Int) = 0 := by
  obtain ⟨ws, t, h1, h2, _⟩ := h.live
  exact spot_hit h1 (by show c < ws.length; omega)
theorem Ctl.word (h : Ctl n D G) {c : Nat} (hc : c < n) : wordAt D.L 1 (c : Int) = G c := by
  obtain ⟨ws, t, h1, h2, h3⟩ := h.live
  have h4 := h3 c hc
  have hl : c < ws.length := by omega
  rw [List.getElem?_eq_getElem hl] at h4
  rw [wordAt_hit h1 hl]
  exact Option.some.inj h4
theorem Ctl.in64 (h : Ctl n D G) {c : Nat} (hc : c < n) : 0 ≤ G c ∧ G c < 18446744073709551616 := by
  rw [← h.word hc]; exact h.fine.wordAt _ _
/-- A word is put. -/
theorem Ctl.put (h : Ctl n D G) {c : Nat} (hc : c < n) {u : Int} (hu : 0 ≤ u ∧ u < 18446744073709551616) : Ctl n (D.word 1 (c : Int) u) (upd G c u) ∧ (D.word 1 (c : Int) u).L.length = D.L.length := by
  have hf := h.fine.word 1 (c : Int) hu
  obtain ⟨ws, t, h1, h2, h3⟩ := h.live
  rw [word_hit h1] at hf ⊢
  simp only at hf ⊢
  have hlen := (liveAt_some h1).2.1
  have hL : (D.at 1 ⟨ws.set c u, t, false⟩).L.length = D.L.length := by simp [HpD.at]
  refine ⟨⟨h.faults, by have := h.small; omega, ⟨ws.set c u, t, ?_, by simp [h2], fun i hi => ?_⟩, hf⟩, hL⟩
  · exact liveAt_mk (Nat.le_refl _) (by show (D.L.set 0 _)[0]? = _; rw [List.getElem?_set_self (by omega)]) rfl
  · by_cases e : i = c
    · subst e; rw [upd_self, List.getElem?_set_self (by omega)]
    · rw [upd_other e, List.getElem?_set_ne (Ne.symm e)]; exact h3 i hi

/-! ### acts -/
def actL (b : Nat) (c : Int) : ActD := ⟨1, b, c, 0, 0, ⟨#[]⟩⟩
def actS (b : Nat) (c u : Int) : ActD := ⟨2, b, c, 0, u, ⟨#[]⟩⟩
def actW3 (b : Nat) (c o u : Int) : ActD := ⟨3, b, c, o, u, ⟨#[]⟩⟩
def actB (b : Nat) (c u : Int) : ActD := ⟨4, b, c, 0, u, ⟨#[]⟩⟩
theorem actL_right {b : Nat} {c : Int} (hc : 0 ≤ c) : rightA (actL b c) = true := by simp [rightA, actL, zeroA, restA, hc, show (⟨#[]⟩ : ByteArray).size = 0 from rfl]
theorem actS_right {b : Nat} {c u : Int} (hc : 0 ≤ c) : rightA (actS b c u) = true := by simp [rightA, actS, zeroA, restA, hc, show (⟨#[]⟩ : ByteArray).size = 0 from rfl]
theorem actW3_right {b : Nat} {c o u : Int} (hc : 0 ≤ c) : rightA (actW3 b c o u) = true := by simp [rightA, actW3, zeroA, restA, hc, show (⟨#[]⟩ : ByteArray).size = 0 from rfl]
theorem actB_right {b : Nat} {c u : Int} (hc : 0 ≤ c) : rightA (actB b c u) = true := by simp [rightA, actB, zeroA, restA, hc, show (⟨#[]⟩ : ByteArray).size = 0 from rfl]
/-- What an act does to the first block, and what it is answered. -/
structure DoesC (n : Nat) (D : HpD) (x : ActD) (w : Int) (G' : Nat → Int) : Prop where
  word : doW D x = w
  text : doT D x = ⟨#[]⟩
  ready : readyA D x = true
  ctl : Ctl n (doN D x) G'
  len : (doN D x).L.length = D.L.length
theorem Ctl.loads (h : Ctl n D G) {c : Nat} (hc : c < n) : DoesC n D (actL 1 c) (G c) G := by
  have hA := actL_right (b := 1) (c := (c : Int)) (by omega)
  have e : doN D (actL 1 c) = D := by
    unfold doN; rw [hA, if_pos rfl]
    show loadD D 1 c = _
    unfold loadD; rw [if_pos (h.spot hc)]
  refine ⟨?_, by unfold doT; rw [hA, if_pos rfl]; rfl, by unfold readyA; rw [hA]; rfl, by rw [e]; exact h, by rw [e]⟩
  unfold doW; rw [hA, if_pos rfl]
  show loadV D 1 c = _
  unfold loadV; rw [if_pos (h.spot hc), h.word hc]
theorem Ctl.stores (h : Ctl n D G) {c : Nat} (hc : c < n) {u : Int} (hu : 0 ≤ u ∧ u < 18446744073709551616) : DoesC n D (actS 1 c u) 0 (upd G c u) := by
  have hA := actS_right (b := 1) (c := (c : Int)) (u := u) (by omega)
  have e : doN D (actS 1 c u) = D.word 1 c u := by
    unfold doN; rw [hA, if_pos rfl]
    show storeD D 1 c u = _
    unfold storeD; rw [if_pos (h.spot hc)]
  have hp := h.put hc hu
  exact ⟨by unfold doW; rw [hA, if_pos rfl]; rfl, by unfold doT; rw [hA, if_pos rfl]; rfl, by unfold readyA; rw [hA]; rfl, by rw [e]; exact hp.1, by rw [e]; exact hp.2⟩
theorem Ctl.swaps (h : Ctl n D G) {c : Nat} (hc : c < n) {u : Int} (hu : 0 ≤ u ∧ u < 18446744073709551616) (o : Int) : DoesC n D (actW3 1 c o u) (G c) (if G c = o then upd G c u else G) := by
  have hA := actW3_right (b := 1) (c := (c : Int)) (o := o) (u := u) (by omega)
  have e : doN D (actW3 1 c o u) = if G c = o then D.word 1 c u else D := by
    unfold doN; rw [hA, if_pos rfl]
    show swapD D 1 c o u = _
    unfold swapD; rw [if_pos (h.spot hc), h.word hc]
  have hp := h.put hc hu
  refine ⟨?_, by unfold doT; rw [hA, if_pos rfl]; rfl, by unfold readyA; rw [hA]; rfl, ?_, ?_⟩
  · unfold doW; rw [hA, if_pos rfl]
    show loadV D 1 c = _
    unfold loadV; rw [if_pos (h.spot hc), h.word hc]
  · rw [e]; split
    · exact hp.1
    · exact h
  · rw [e]; split
    · exact hp.2
    · rfl
theorem Ctl.loads_same (h : Ctl n D G) {c : Nat} (hc : c < n) : doN D (actL 1 c) = D := by
  unfold doN; rw [actL_right (b := 1) (c := (c : Int)) (by omega), if_pos rfl]
  show loadD D 1 c = _
  unfold loadD; rw [if_pos (h.spot hc)]
theorem Ctl.swaps_not (h : Ctl n D G) {c : Nat} (hc : c < n) {o : Int} (u : Int) (hz : ¬ G c = o) : doN D (actW3 1 c o u) = D := by
  unfold doN; rw [actW3_right (b := 1) (c := (c : Int)) (o := o) (u := u) (by omega), if_pos rfl]
  show swapD D 1 c o u = _
  unfold swapD; rw [if_pos (h.spot hc), h.word hc, if_neg hz]
theorem Ctl.bumps (h : Ctl n D G) {c : Nat} (hc : c < n) (u : Int) : DoesC n D (actB 1 c u) (G c) (upd G c (IntKind.u64.wrap (G c + u))) := by
  have hA := actB_right (b := 1) (c := (c : Int)) (u := u) (by omega)
  have e : doN D (actB 1 c u) = D.word 1 c (IntKind.u64.wrap (G c + u)) := by
    unfold doN; rw [hA, if_pos rfl]
    show bumpD D 1 c u = _
    unfold bumpD; rw [if_pos (h.spot hc), h.word hc]
  have hp := h.put hc (u64_wrap_in (G c + u))
  refine ⟨?_, by unfold doT; rw [hA, if_pos rfl]; rfl, by unfold readyA; rw [hA]; rfl, by rw [e]; exact hp.1, by rw [e]; exact hp.2⟩
  unfold doW; rw [hA, if_pos rfl]
  show loadV D 1 c = _
  unfold loadV; rw [if_pos (h.spot hc), h.word hc]
end

/-! ### a routine that does one -/
section
variable {σ : Type} {M : Mach σ} {D : HpD} {E : σ} {n : Nat}
theorem stepM_ready {x : ActD} (hn : M.next E = some x) (hr : readyA D x = true) : stepM M ⟨D, E⟩ = some ⟨x, doW D x, doT D x⟩ := by
  unfold stepM
  show (match M.next E with | some x => if readyA D x then some (⟨x, doW D x, doT D x⟩ : StepD) else none | none => none) = _
  rw [hn]; simp [hr]
theorem advM_ready {x : ActD} (hn : M.next E = some x) (hr : readyA D x = true) : advM M ⟨D, E⟩ = ⟨doN D x, M.take E (doW D x) (doT D x)⟩ ∧ (stepM M ⟨D, E⟩).isSome = true := by
  have hs := stepM_ready hn hr
  refine ⟨?_, by rw [hs]; rfl⟩
  unfold advM
  rw [hs]
  exact nextM_some (M := M) (S := ⟨D, E⟩) hn
theorem advM_does {x : ActD} {w : Int} {G' : Nat → Int} (hn : M.next E = some x) (h : DoesC n D x w G') : advM M ⟨D, E⟩ = ⟨doN D x, M.take E w ⟨#[]⟩⟩ ∧ (stepM M ⟨D, E⟩).isSome = true := by
  have := advM_ready hn h.ready
  rw [h.word, h.text] at this
  exact this
end

end Go.Proofs.Ytgigjbngocfkbaa
