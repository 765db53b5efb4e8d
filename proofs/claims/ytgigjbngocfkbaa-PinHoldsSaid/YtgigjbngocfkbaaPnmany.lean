/-
  Many threads that pin, and whoever is picked: who has a pin has it alone, and it tells the epoch. Plain.
-/
import Derived.Test.YtgigjbngocfkbaaPnaw
import Derived.Test.YtgigjbngocfkbaaMny
namespace Go.Proofs.Ytgigjbngocfkbaa
open Go Go.RowKit

def PinO : One PinM where
  obj := pnrO
  fit := PinD.fits
  into := fun h => ⟨PinAt.own h, PinAt.fits h, PinAt.base h, PinAt.foot h⟩
  back := fun h hf hb => show PinAt _ _ _ _ _ from ⟨h, rfl, hb, hf⟩

/-- It has a pin. -/
def PinD.has (v : PinD) : Prop := v.part = 3 ∨ v.part = 4 ∨ (v.part = 5 ∧ v.taken = false)
/-- A thread that is under way, b being the epoch. -/
structure PinOk (a p s q v x : Int) (b : Nat) (G : Nat → Int) (E : PinD) : Prop where
  cfg : E.a = a ∧ E.p = p ∧ E.s = s ∧ E.q = q ∧ E.v = v ∧ E.x = x
  fits : E.fits
  part : 1 ≤ E.part
  ep : 0 ≤ E.ep ∧ E.ep ≤ (b : Int)
  free : E.part ≠ 5 → E.taken = false
  three : E.part = 3 → G (3 + E.pn).toNat = E.ep + 1
  four : E.part = 4 → G (3 + E.pn).toNat ≠ 0
  five : E.part = 5 → E.taken = false → G (3 + E.pn).toNat = E.ep + 1
structure PinsI (a p s q v x : Int) (N n b : Nat) (D : HpD) (G : Nat → Int) (S : Nat → PinD) : Prop where
  ctl : Ctl n D G
  epoch : G 0 = (b : Int)
  one : ∀ j, j < N → PinOk a p s q v x b G (S j)
  two : ∀ i j, i < N → j < N → i ≠ j → (S i).has → (S j).has → (S i).pn ≠ (S j).pn
section
variable {a p s q v x : Int} {N n b : Nat} {D : HpD} {G : Nat → Int} {S : Nat → PinD} {E : PinD}
theorem PinOk.fit1 (h : PinOk a p s q v x b G E) : E.fit1 := h.fits.2.2.elim (fun e => by have := h.part; omega) id
theorem PinOk.pin (h : PinOk a p s q v x b G E) : 0 ≤ E.pn ∧ E.pn < p := by have := h.fit1.2.2.2.1; rw [h.cfg.2.1] at this; exact this
theorem PinOk.cell (h : PinOk a p s q v x b G E) : E.cell = ((3 + E.pn).toNat : Int) := by
  obtain ⟨hr, _, _, h0, _⟩ := h.fit1
  unfold PinD.cell
  rw [pinW_in hr h0.1 h0.2]; omega
theorem PinOk.has_ne (h : PinOk a p s q v x b G E) (hh : E.has) : G (3 + E.pn).toNat ≠ 0 := by
  have := h.ep
  rcases hh with e | e | ⟨e, e2⟩
  · rw [h.three e]; omega
  · exact h.four e
  · rw [h.five e e2]; omega
/-- Where its own pin's cell stays it stays. -/
theorem PinOk.stays (h : PinOk a p s q v x b G E) {b' : Nat} (hb : b ≤ b') {G' : Nat → Int} (hG : E.has → G' (3 + E.pn).toNat = G (3 + E.pn).toNat) : PinOk a p s q v x b' G' E :=
  ⟨h.cfg, h.fits, h.part, ⟨h.ep.1, by have := h.ep.2; omega⟩, h.free, fun e => (hG (.inl e)).trans (h.three e), fun e => by rw [hG (.inr (.inl e))]; exact h.four e, fun e e2 => (hG (.inr (.inr ⟨e, e2⟩))).trans (h.five e e2)⟩
/-- One of them turns. -/
theorem PinsI.turn (h : PinsI a p s q v x N n b D G S) {k : Nat} (_hk : k < N) {D' : HpD} {G' : Nat → Int} {E' : PinD} (hC : Ctl n D' G') (h0 : G' 0 = (b : Int)) (hE : PinOk a p s q v x b G' E')
    (hG : ∀ j, j < N → j ≠ k → (S j).has → G' (3 + (S j).pn).toNat = G (3 + (S j).pn).toNat) (h2 : ∀ j, j < N → j ≠ k → (S j).has → E'.has → (S j).pn ≠ E'.pn) : PinsI a p s q v x N n b D' G' (upS S k E') := by
  refine ⟨hC, h0, fun j hj => ?_, fun i j hi hj hij hhi hhj => ?_⟩
  · by_cases e : j = k
    · rw [e, upS_self]; exact hE
    · rw [upS_other e]; exact (h.one j hj).stays (Nat.le_refl _) (hG j hj e)
  · by_cases ei : i = k
    · have ej : j ≠ k := fun e => hij (ei.trans e.symm)
      rw [ei, upS_self] at hhi ⊢
      rw [upS_other ej] at hhj ⊢
      exact Ne.symm (h2 j hj ej hhj hhi)
    · rw [upS_other ei] at hhi ⊢
      by_cases ej : j = k
      · rw [ej, upS_self] at hhj ⊢
        exact h2 i hi ei hhi hhj
      · rw [upS_other ej] at hhj ⊢
        exact h.two i j hi hj hij hhi hhj
theorem upE_small {e : Int} {b : Nat} (h : 0 ≤ e ∧ e ≤ (b : Int)) (hb : b ≤ 1000) : upE e = e + 1 := by
  unfold upE
  have : IntKind.u64.wrap (e + 1) = (e + 1) % 18446744073709551616 := by simp [IntKind.wrap, IntKind.bits, IntKind.signed]
  omega
/-- What a thread's next act does. -/
theorem pins_step (h : PinsI a p s q v x N n b D G S) (hr : rightC a p s q v = true) (hn : (n : Int) = sizeW a p s q v) (hb : b ≤ 1000) {k : Nat} (hk : k < N) :
    (PinM.next (S k) = none ∧ (S k).part = 5) ∨
    (∃ y w G', PinM.next (S k) = some y ∧ y.fits ∧ DoesC n D y w G' ∧ (S k).part ≠ 5 ∧ PinsI a p s q v x N n b (doN D y) G' (upS S k (takeP (S k) w ⟨#[]⟩)) ∧ ((takeP (S k) w ⟨#[]⟩).part = 5 → (takeP (S k) w ⟨#[]⟩).taken = false → (takeP (S k) w ⟨#[]⟩).ep = (b : Int))) := by
  obtain ⟨⟨a1, a32⟩, ⟨p1, p8⟩, s1, s64⟩ := rightC_bd hr
  have hsz : sizeW a p s q v = 3 + p + a + 2 * s := if_pos hr
  obtain ⟨E, hE⟩ : ∃ E, S k = E := ⟨_, rfl⟩
  have hk1 := h.one k hk
  rw [hE] at hk1 ⊢
  obtain ⟨w0, w1⟩ := hk1.pin
  have hc : (3 + E.pn).toNat < n := by omega
  have hc3 : 3 ≤ (3 + E.pn).toNat := by omega
  have hcl := hk1.cell
  have hfit := hk1.fits
  have hw0 := h.ctl.in64 (c := 0) (by omega)
  have h5 : E.part = 1 ∨ E.part = 2 ∨ E.part = 3 ∨ E.part = 4 ∨ E.part = 5 := by have := hk1.part; have := hfit.1; omega
  -- another's cell is another
  have other : ∀ j, j < N → j ≠ k → (S j).has → E.has → (3 + (S j).pn).toNat ≠ (3 + E.pn).toNat := fun j hj hjk hh hhE => by
    have := h.two j k hj hk hjk hh (by rw [hE]; exact hhE)
    rw [hE] at this
    have := (h.one j hj).pin
    omega
  rcases h5 with e | e | e | e | e
  · -- the epoch is loaded
    have hL := h.ctl.loads (c := 0) (by omega)
    have ht := takeP_1 e (G 0) ⟨#[]⟩
    refine .inr ⟨actL 1 ((0 : Nat) : Int), G 0, G, by rw [PinM_next]; unfold nextP; rw [e]; rfl, loadE_fits, hL, by omega, ?_, ?_⟩
    · rw [ht]
      refine h.turn hk hL.ctl h.epoch ⟨hk1.cfg, ?_, by show 1 ≤ 2; omega, by show 0 ≤ G 0 ∧ G 0 ≤ _; rw [h.epoch]; omega, fun _ => hk1.free (by omega), fun e' => absurd (show 2 = 3 from e') (by omega), fun e' => absurd (show 2 = 4 from e') (by omega), fun e' => absurd (show 2 = 5 from e') (by omega)⟩ (fun _ _ _ _ => rfl) (fun j hj hjk hh hhE => ?_)
      · have := takeP_fits (t := ⟨#[]⟩) hfit hw0; rwa [ht] at this
      · rcases hhE with e' | e' | ⟨e', _⟩
        · exact absurd (show 2 = 3 from e') (by omega)
        · exact absurd (show 2 = 4 from e') (by omega)
        · exact absurd (show 2 = 5 from e') (by omega)
    · rw [ht]; exact fun e' => absurd (show 2 = 5 from e') (by omega)
  · -- a pin is tried
    have hL := h.ctl.swaps hc (upE_in E.ep) 0
    have hwc := h.ctl.in64 hc
    have ht := takeP_2 e (G (3 + E.pn).toNat) ⟨#[]⟩
    have hft := takeP_fits (t := ⟨#[]⟩) hfit hwc
    refine .inr ⟨actW3 1 ((3 + E.pn).toNat : Int) 0 (upE E.ep), G (3 + E.pn).toNat, _, by rw [PinM_next]; unfold nextP; rw [e]; show some (swapE E.cell E.ep) = _; rw [hcl]; rfl, swapE_fits (by omega) _, hL, by omega, ?_, ?_⟩
    · rw [ht] at hft ⊢
      have hctl := hL.ctl
      by_cases hz : G (3 + E.pn).toNat = 0
      · rw [if_pos hz] at hctl hft ⊢
        rw [if_pos hz]
        have oth : ∀ j, j < N → j ≠ k → (S j).has → (3 + (S j).pn).toNat ≠ (3 + E.pn).toNat := fun j hj hjk hh e' => (h.one j hj).has_ne hh (by rw [e']; exact hz)
        refine h.turn hk hctl (by rw [upd_other (by omega)]; exact h.epoch) ⟨hk1.cfg, hft, by show 1 ≤ 3; omega, hk1.ep, fun _ => hk1.free (by omega), fun _ => ?_, fun e' => absurd (show 3 = 4 from e') (by omega), fun e' => absurd (show 3 = 5 from e') (by omega)⟩ (fun j hj hjk hh => upd_other (oth j hj hjk hh)) (fun j hj hjk hh _ e' => oth j hj hjk hh (by rw [e']; rfl))
        show upd G (3 + E.pn).toNat (upE E.ep) (3 + E.pn).toNat = E.ep + 1
        rw [upd_self, upE_small hk1.ep hb]
      · rw [if_neg hz] at hctl hft ⊢
        rw [if_neg hz]
        have hm : (E.miss.part = 2 ∧ E.miss.taken = E.taken ∧ E.miss.ep = E.ep) ∨ (E.miss.part = 5 ∧ E.miss.taken = true ∧ E.miss.ep = 0) := by
          unfold PinD.miss
          split
          · exact .inr ⟨rfl, rfl, rfl⟩
          · exact .inl ⟨rfl, rfl, rfl⟩
        have hcf : E.miss.a = E.a ∧ E.miss.p = E.p ∧ E.miss.s = E.s ∧ E.miss.q = E.q ∧ E.miss.v = E.v ∧ E.miss.x = E.x := by
          unfold PinD.miss
          split <;> exact ⟨rfl, rfl, rfl, rfl, rfl, rfl⟩
        have hno : ¬ E.miss.has := fun hh => by
          rcases hm with ⟨m1, m2, _⟩ | ⟨m1, m2, _⟩
          · rcases hh with e' | e' | ⟨e', _⟩ <;> omega
          · rcases hh with e' | e' | ⟨e', e2⟩
            · omega
            · omega
            · rw [m2] at e2; cases e2
        obtain ⟨f1, f2, f3, f4, f5, f6⟩ := hk1.cfg
        obtain ⟨g1, g2, g3, g4, g5, g6⟩ := hcf
        refine h.turn hk hctl h.epoch ⟨⟨g1.trans f1, g2.trans f2, g3.trans f3, g4.trans f4, g5.trans f5, g6.trans f6⟩, hft, by rcases hm with m | m <;> omega, ?_, fun h5 => ?_, fun e' => by rcases hm with m | m <;> omega, fun e' => by rcases hm with m | m <;> omega, fun e' e2 => absurd (.inr (.inr ⟨e', e2⟩)) hno⟩ (fun _ _ _ _ => rfl) (fun j hj hjk hh hhE => absurd hhE hno)
        · have := hk1.ep
          rcases hm with m | m
          · rw [m.2.2]; exact hk1.ep
          · rw [m.2.2]; omega
        · rcases hm with m | m
          · rw [m.2.1]; exact hk1.free (by omega)
          · exact absurd m.1 h5
    · rw [ht]
      intro e5 e6
      by_cases hz : G (3 + E.pn).toNat = 0
      · rw [if_pos hz] at e5; exact absurd (show 3 = 5 from e5) (by omega)
      · rw [if_neg hz] at e5 e6
        unfold PinD.miss at e5 e6
        split at e5
        · rename_i hl; rw [if_pos hl] at e6; cases e6
        · exact absurd (show 2 = 5 from e5) (by omega)
  · -- the epoch is looked at again
    have hL := h.ctl.loads (c := 0) (by omega)
    have ht := takeP_3 e (G 0) ⟨#[]⟩
    have hft := takeP_fits (t := ⟨#[]⟩) hfit hw0
    have hhE : E.has := .inl e
    refine .inr ⟨actL 1 ((0 : Nat) : Int), G 0, G, by rw [PinM_next]; unfold nextP; rw [e]; rfl, loadE_fits, hL, by omega, ?_, ?_⟩
    · rw [ht] at hft ⊢
      by_cases hz : G 0 = E.ep
      · rw [if_pos hz] at hft ⊢
        exact h.turn hk hL.ctl h.epoch ⟨hk1.cfg, hft, by show 1 ≤ 5; omega, hk1.ep, fun e' => absurd rfl e', fun e' => absurd (show 5 = 3 from e') (by omega), fun e' => absurd (show 5 = 4 from e') (by omega), fun _ _ => hk1.three e⟩ (fun _ _ _ _ => rfl) (fun j hj hjk hh _ e' => other j hj hjk hh hhE (by rw [e']; rfl))
      · rw [if_neg hz] at hft ⊢
        exact h.turn hk hL.ctl h.epoch ⟨hk1.cfg, hft, by show 1 ≤ 4; omega, by show 0 ≤ G 0 ∧ G 0 ≤ _; rw [h.epoch]; omega, fun _ => hk1.free (by omega), fun e' => absurd (show 4 = 3 from e') (by omega), fun _ => hk1.has_ne hhE, fun e' => absurd (show 4 = 5 from e') (by omega)⟩ (fun _ _ _ _ => rfl) (fun j hj hjk hh _ e' => other j hj hjk hh hhE (by rw [e']; rfl))
    · rw [ht]
      intro e5 _
      by_cases hz : G 0 = E.ep
      · rw [if_pos hz]
        show E.ep = _
        rw [← hz]; exact h.epoch
      · rw [if_neg hz] at e5; exact absurd (show 4 = 5 from e5) (by omega)
  · -- the epoch that is now is stored
    have hL := h.ctl.stores hc (upE_in E.ep)
    have ht := takeP_4 e 0 ⟨#[]⟩
    have hft := takeP_fits (w := 0) (t := ⟨#[]⟩) hfit (by omega)
    have hhE : E.has := .inr (.inl e)
    refine .inr ⟨actS 1 ((3 + E.pn).toNat : Int) (upE E.ep), 0, _, by rw [PinM_next]; unfold nextP; rw [e]; show some (storeE E.cell E.ep) = _; rw [hcl]; rfl, storeE_fits (by omega) _, hL, by omega, ?_, ?_⟩
    · rw [ht] at hft ⊢
      refine h.turn hk hL.ctl (by rw [upd_other (by omega)]; exact h.epoch) ⟨hk1.cfg, hft, by show 1 ≤ 3; omega, hk1.ep, fun _ => hk1.free (by omega), fun _ => ?_, fun e' => absurd (show 3 = 4 from e') (by omega), fun e' => absurd (show 3 = 5 from e') (by omega)⟩ (fun j hj hjk hh => upd_other (other j hj hjk hh hhE)) (fun j hj hjk hh _ e' => other j hj hjk hh hhE (by rw [e']; rfl))
      show upd G (3 + E.pn).toNat (upE E.ep) (3 + E.pn).toNat = E.ep + 1
      rw [upd_self, upE_small hk1.ep hb]
    · rw [ht]; exact fun e' => absurd (show 3 = 5 from e') (by omega)
  · exact .inl ⟨by rw [PinM_next]; unfold nextP; rw [e]; rfl, e⟩
/-- The epoch goes on. -/
theorem pins_bump (h : PinsI a p s q v x N n b D G S) (hr : rightC a p s q v = true) (hn : (n : Int) = sizeW a p s q v) (hb : b ≤ 1000) :
    ∃ w, DoesC n D (actB 1 0 1) w (upd G 0 ((b + 1 : Nat) : Int)) ∧ PinsI a p s q v x N n (b + 1) (doN D (actB 1 0 1)) (upd G 0 ((b + 1 : Nat) : Int)) S := by
  obtain ⟨⟨a1, a32⟩, ⟨p1, p8⟩, s1, s64⟩ := rightC_bd hr
  have hsz : sizeW a p s q v = 3 + p + a + 2 * s := if_pos hr
  have hL := h.ctl.bumps (c := 0) (by omega) 1
  have e : IntKind.u64.wrap (G 0 + 1) = ((b + 1 : Nat) : Int) := by
    rw [h.epoch]
    have : IntKind.u64.wrap ((b : Int) + 1) = ((b : Int) + 1) % 18446744073709551616 := by simp [IntKind.wrap, IntKind.bits, IntKind.signed]
    omega
  rw [e] at hL
  refine ⟨_, hL, hL.ctl, upd_self _ _ _, fun j hj => (h.one j hj).stays (Nat.le_succ _) (fun _ => upd_other ?_), h.two⟩
  have := (h.one j hj).pin
  omega
/-- One more thread. -/
theorem PinsI.more (h : PinsI a p s q v x N n 0 D G S) (hr : rightC a p s q v = true) (th : Int) : PinsI a p s q v x (N + 1) n 0 D G (upS S N (newP a p s q v x th)) := by
  have hno : ¬ (newP a p s q v x th).has := fun hh => by
    rcases hh with e' | e' | ⟨e', _⟩
    · exact absurd (show 1 = 3 from e') (by omega)
    · exact absurd (show 1 = 4 from e') (by omega)
    · exact absurd (show 1 = 5 from e') (by omega)
  refine ⟨h.ctl, h.epoch, fun j hj => ?_, fun i j hi hj hij hhi hhj => ?_⟩
  · by_cases e : j = N
    · rw [e, upS_self]
      exact ⟨⟨rfl, rfl, rfl, rfl, rfl, rfl⟩, newP_fits hr x th, Nat.le_refl _, ⟨Int.le_refl _, by show (0 : Int) ≤ _; omega⟩, fun _ => rfl, fun e' => absurd (show 1 = 3 from e') (by omega), fun e' => absurd (show 1 = 4 from e') (by omega), fun e' => absurd (show 1 = 5 from e') (by omega)⟩
    · rw [upS_other e]; exact h.one j (by omega)
  · by_cases ei : i = N
    · rw [ei, upS_self] at hhi; exact absurd hhi hno
    · rw [upS_other ei] at hhi ⊢
      by_cases ej : j = N
      · rw [ej, upS_self] at hhj; exact absurd hhj hno
      · rw [upS_other ej] at hhj ⊢
        exact h.two i j (by omega) (by omega) hij hhi hhj
end

end Go.Proofs.Ytgigjbngocfkbaa
