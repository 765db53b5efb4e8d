/-
  A region that draws its order: operations that only look at cells that stay, then those that call or make memory, one behind the other, and then the rest, which may store where was looked. Nothing of one program.
-/
import Derived.StillTail
import Derived.OrdersHeld
namespace Go.Proofs.Ytgigjbngocfkbaa
open Go

section
variable {P : Program} {ops : Array Oper} {Q : Exit → Act → World → Prop} {md : Region.Mode} {S : World → Prop} {m : Nat}

/-- Whatever order is picked from here on; behind each of the first m operations S holds. -/
def wpAnyU (P : Program) (md : Region.Mode) (ops : Array Oper) (Q : Exit → Act → World → Prop) (S : World → Prop) (m : Nat) : Nat → Array Bool → Act → World → Prop
  | 0, listed, a, w => Region.ready md ops listed = [] ∧ Q .normal a w
  | fuel + 1, listed, a, w =>
    (Region.ready md ops listed = [] → Q .normal a w) ∧
    ∀ i ∈ Region.ready md ops listed, wpOp P ops Q i (fun a' w' => (i < m → S w') ∧ wpAnyU P md ops Q S m fuel (listed.setIfInBounds i true) a' w') a w

theorem wpAny_of_U : ∀ (fuel : Nat) (listed : Array Bool) (a : Act) (w : World), wpAnyU P md ops Q S m fuel listed a w → wpAny P md ops Q fuel listed a w
  | 0, _, _, _, h => h
  | fuel + 1, _, _, _, h => ⟨h.1, fun i hi => wpOp_mono (fun a' w' h' => wpAny_of_U fuel _ a' w' h'.2) (h.2 i hi)⟩

theorem wpAnyU_first {i : Nat} {oi : Oper} {v : Value} (hi : ops[i]? = some oi) (hsel : ∀ (j : Nat) (o : Oper) cs b, ops[j]? = some o → o.op ≠ .select cs b)
    (hQ : ∀ c a w, Q (.panic c) (a.put oi.dst v) w → Q (.panic c) a w) (hs : Region.sinkB md ops m = true) (hc : Region.chainB md ops m = true) (hmn : m < ops.size) (him : i < m) :
    ∀ (fuel : Nat) (listed : Array Bool) (a : Act) (w : World), HeadInv md ops m listed →
      (∀ j oj, ops[j]? = some oj → j ≠ i → listed.getD j true = false → (∀ e ∈ oj.after, Region.binds md e = true → e.on ≠ i) → oi.apart ops oj = true) →
      i ∈ Region.ready md ops listed → YieldsIf P ops S oi v a → S w →
      wpAnyU P md ops Q S m fuel (listed.setIfInBounds i true) (a.put oi.dst v) w → wpAnyU P md ops Q S m (fuel + 1) listed a w := by
  intro fuel
  induction fuel with
  | zero =>
    intro listed a w inv _ hr hy hS H
    refine ⟨fun h => (by rw [h] at hr; cases hr), fun j hj => ?_⟩
    by_cases hji : j = i
    · subst hji; exact hy.wpOp hi hS ⟨fun _ => hS, H⟩
    · have := ready_mono hj hji
      rw [H.1] at this
      cases this
  | succ fuel ih =>
    intro listed a w inv hfree hr hy hS H
    refine ⟨fun h => (by rw [h] at hr; cases hr), fun j hj => ?_⟩
    have hun := (mem_ready.1 hr).1
    by_cases hji : j = i
    · subst hji; exact hy.wpOp hi hS ⟨fun _ => hS, H⟩
    · have hjm : j < m := by
        rcases Nat.lt_or_ge j m with h | h
        · exact h
        · exact absurd hj (tail_waits hs hc hmn inv _ i rfl him hun j h)
      have h1 := H.2 j (ready_mono hj hji)
      obtain ⟨hjun, oj, hoj, hall⟩ := mem_ready.1 hj
      have hnot : ∀ e ∈ oj.after, Region.binds md e = true → e.on ≠ i := fun e he hb heq => by
        have h1 := hall e he hb
        rw [heq, getD_both hun] at h1
        cases h1
      have h2 := wpOp_putIf hoj (hfree j oj hoj hji hjun hnot) (fun cs b => hsel i oi cs b hi) (fun cs b => hsel j oj cs b hoj) hQ hy h1
      have hfree' : ∀ k ok, ops[k]? = some ok → k ≠ i → (listed.setIfInBounds j true).getD k true = false →
          (∀ e ∈ ok.after, Region.binds md e = true → e.on ≠ i) → oi.apart ops ok = true := fun k ok hk hki hun hno => by
        refine hfree k ok hk hki ?_ hno
        by_cases hjk : j = k
        · subst hjk; exact hjun
        · rw [getD_set_ne true hjk] at hun; exact hun
      refine wpOp_mono (fun a' w' h3 => ⟨h3.2.1, ih (listed.setIfInBounds j true) a' w' (inv.set hj hjm) hfree' (ready_mono hr (Ne.symm hji)) h3.1 (h3.2.1 hjm) ?_⟩) h2
      rw [Array.setIfInBounds_comm _ _ hji]
      exact h3.2.2

/-- The operations of these places, each of which only looks, in every world that meets S. -/
def heldU (P : Program) (ops : Array Oper) (S : World → Prop) (K : Act → Prop) : List Nat → Act → Prop
  | [], a => K a
  | k :: r, a => ∃ o v, ops[k]? = some o ∧ o.guard = none ∧ (∀ w, S w → (execOp a.eval o).run P w = .ok (.value v) w) ∧ heldU P ops S K r (a.put o.dst v)

/-- The head in the order given. -/
def Region.headUB (md : Region.Mode) (ops : Array Oper) (m : Nat) : List Nat → Array Bool → Bool
  | [], _ => true
  | k :: r, listed => decide (k < m) && (Region.ready md ops listed).contains k && Region.free md ops listed k && Region.headUB md ops m r (listed.setIfInBounds k true)
def Region.listU : List Nat → Array Bool → Array Bool
  | [], listed => listed
  | k :: r, listed => Region.listU r (listed.setIfInBounds k true)
/-- Behind the head nothing else is ready but these, one behind the other. -/
def Region.midUB (md : Region.Mode) (ops : Array Oper) (m : Nat) : List Nat → Array Bool → Bool
  | [], _ => true
  | k :: r, listed => decide (k < m) && decide (Region.ready md ops listed = [k]) && Region.midUB md ops m r (listed.setIfInBounds k true)

/-- The operations between the head and the tail. -/
def midU (P : Program) (ops : Array Oper) (Q : Exit → Act → World → Prop) (S : World → Prop) (K : Act → World → Prop) : List Nat → Act → World → Prop
  | [], a, w => K a w
  | k :: r, a, w => ∃ o, ops[k]? = some o ∧ o.guard = none ∧ o.wp P a w (fun a' w' => S w' ∧ midU P ops Q S K r a' w') Q

theorem heldU_step {K : Act → Prop} {k : Nat} {r : List Nat} {o : Oper} {a : Act} (v : Value) (h0 : ops[k]? = some o) (hg : o.guard = none) (hv : ∀ w, S w → (execOp a.eval o).run P w = .ok (.value v) w)
    (h : ∀ K' : Act → Prop, (∀ a, heldU P ops S K r a → K' a) → K' (a.put o.dst v)) : heldU P ops S K (k :: r) a := ⟨o, v, h0, hg, hv, h _ fun _ h => h⟩
theorem midU_step {K : Act → World → Prop} {k : Nat} {r : List Nat} {o : Oper} {a : Act} {w : World} (h0 : ops[k]? = some o) (hg : o.guard = none)
    (h : ∀ K' : Act → World → Prop, (∀ a w, S w ∧ midU P ops Q S K r a w → K' a w) → o.wp P a w K' Q) : midU P ops Q S K (k :: r) a w := ⟨o, h0, hg, h _ fun _ _ h => h⟩

theorem wpAnyU_head (hsel : Region.noSelect ops = true) (hQ : ∀ c a w d v, Q (.panic c) (Act.put a d v) w → Q (.panic c) a w)
    (hs : Region.sinkB md ops m = true) (hc : Region.chainB md ops m = true) (hmn : m < ops.size) {w : World} (hS : S w) {g : Nat} {L : Array Bool} {K : Act → Prop}
    (hK : ∀ a, HeadInv md ops m L → K a → wpAnyU P md ops Q S m g L a w) :
    ∀ (l : List Nat) (listed : Array Bool) (a : Act), HeadInv md ops m listed → Region.headUB md ops m l listed = true → Region.listU l listed = L →
      heldU P ops S K l a → wpAnyU P md ops Q S m (l.length + g) listed a w
  | [], listed, a, inv, _, hL, h => by rw [List.length_nil, Nat.zero_add]; have : listed = L := hL; subst this; exact hK a inv h
  | k :: l, listed, a, inv, hB, hL, h => by
    simp only [Region.headUB, Bool.and_eq_true, decide_eq_true_eq] at hB
    obtain ⟨⟨⟨hkm, hr⟩, hf⟩, hB'⟩ := hB
    obtain ⟨o, v, h0, hg, hv, hrest⟩ := h
    have hr' : k ∈ Region.ready md ops listed := by simpa using hr
    rw [show (k :: l).length + g = (l.length + g) + 1 by simp; omega]
    refine wpAnyU_first h0 (Region.noSelect_spec hsel) (fun c a w => hQ c a w _ _) hs hc hmn hkm _ listed a w inv (Region.free_spec h0 hf) hr' (.inl ⟨by simp [Region.wanted, hg], hv⟩) hS ?_
    exact wpAnyU_head hsel hQ hs hc hmn hS hK l _ _ (inv.set hr' hkm) hB' hL hrest

theorem wpAnyU_mid {g : Nat} {L : Array Bool} {K : Act → World → Prop}
    (hK : ∀ a w, K a w → wpAnyU P md ops Q S m g L a w) :
    ∀ (l : List Nat) (listed : Array Bool) (a : Act) (w : World), Region.midUB md ops m l listed = true → Region.listU l listed = L →
      midU P ops Q S K l a w → wpAnyU P md ops Q S m (l.length + g) listed a w
  | [], listed, a, w, _, hL, h => by rw [List.length_nil, Nat.zero_add]; have : listed = L := hL; subst this; exact hK a w h
  | k :: l, listed, a, w, hB, hL, h => by
    simp only [Region.midUB, Bool.and_eq_true, decide_eq_true_eq] at hB
    obtain ⟨⟨hkm, hr⟩, hB'⟩ := hB
    obtain ⟨o, h0, hg, h⟩ := h
    rw [show (k :: l).length + g = (l.length + g) + 1 by simp; omega]
    refine ⟨fun h0 => (by rw [hr] at h0; cases h0), fun i hi => ?_⟩
    rw [hr] at hi
    have hik : i = k := by simpa using hi
    subst hik
    unfold wpOp
    rw [h0]
    have hw : Region.wanted o (yielded ops a.tmps) = true := by simp [Region.wanted, hg]
    simp only [hw, if_true]
    exact .inl (Oper.wp_mono (fun a2 w2 h2 => ⟨fun _ => h2.1, wpAnyU_mid hK l _ a2 w2 hB' hL h2.2⟩) h)

theorem wpAnyU_tail : ∀ (r : List Oper) (q : Nat) (listed : Array Bool) (a : Act) (w : World), (∀ j, r[j]? = ops[q + j]?) → m ≤ q →
    Region.seqB md ops r.length q listed = true → wpList P ops Q r a w → wpAnyU P md ops Q S m r.length listed a w
  | [], q, listed, a, w, _, _, hB, h => ⟨by simpa [Region.seqB] using hB, h⟩
  | o2 :: r, q, listed, a, w, hl, hq, hB, h => by
    have h0 : ops[q]? = some o2 := by simpa using (hl 0).symm
    simp only [List.length_cons, Region.seqB, Bool.and_eq_true, decide_eq_true_eq] at hB
    refine ⟨fun h1 => (by rw [hB.1] at h1; cases h1), fun i2 hi2 => ?_⟩
    rw [hB.1] at hi2
    have hik : i2 = q := by simpa using hi2
    subst hik
    have hw : wpOp P ops Q i2 (wpList P ops Q r) a w := by unfold wpOp; simp only [h0]; exact h
    exact wpOp_mono (fun a' w' h' => ⟨fun hlt => absurd hlt (by omega), wpAnyU_tail r (i2 + 1) _ a' w' (fun j => by have := hl (j + 1); simpa [Nat.add_assoc, Nat.add_comm 1 j] using this) (by omega) hB.2 h'⟩) hw

/-- All that is asked of the region's shape: the looks in the order given, the others between, and the tail from m on, one behind the other. -/
def Region.heldUB (md : Region.Mode) (ops : Array Oper) (m : Nat) (head mid : List Nat) : Bool :=
  Region.noSelect ops && decide (m < ops.size) && Region.sinkB md ops m && Region.chainB md ops m && Region.headUB md ops m head (Array.replicate ops.size false) &&
    Region.midUB md ops m mid (Region.listU head (Array.replicate ops.size false)) && Region.seqB md ops (ops.size - m) m (Region.listU mid (Region.listU head (Array.replicate ops.size false))) &&
    decide (head.length + (mid.length + (ops.size - m)) = ops.size)

theorem wp_region_heldU {id : Nat} {a : Act} {w : World} {l : List Oper} (m : Nat) (head mid : List Nat)
    (hQ : ∀ c a w d v, Q (.panic c) (Act.put a d v) w → Q (.panic c) a w) (hm : P.follows .mixedOrders = true) (hB : Region.heldUB .any l.toArray m head mid = true) (S : World → Prop) (hS : S w.drew)
    (h : heldU P l.toArray S (fun a' => midU P l.toArray Q S (fun a2 w2 => wpList P l.toArray Q (l.drop m) a2 w2) mid a' w.drew) head a) : (Code.region id l.toArray true).wp P Q a w := by
  simp only [Region.heldUB, Bool.and_eq_true, decide_eq_true_eq] at hB
  obtain ⟨⟨⟨⟨⟨⟨⟨hsel, hn⟩, hs⟩, hc⟩, hhead⟩, hmid⟩, hseq⟩, hlen⟩ := hB
  have hdl : (l.drop m).length = l.toArray.size - m := by simp
  have inv0 : HeadInv .any l.toArray m (Array.replicate l.toArray.size false) :=
    ⟨by simp, fun j oj _ hl => (by rw [getD_replicate_false] at hl; cases hl), fun t _ ht => getD_in (by simpa using ht) (getD_replicate_false _ _)⟩
  refine wp_region_any hm ?_
  have hT := wpAnyU_head (P := P) (Q := Q) (md := .any) (S := S) (m := m) hsel hQ hs hc hn (w := w.drew) hS (g := mid.length + (l.drop m).length)
    (fun a' _ ha' => wpAnyU_mid (fun a2 w2 h2 => wpAnyU_tail (l.drop m) m _ a2 w2 (fun j => by simp [List.getElem?_drop]) (Nat.le_refl _) (by rw [hdl]; exact hseq) h2) mid _ a' w.drew hmid rfl ha')
    head _ a inv0 hhead rfl h
  have := wpAny_of_U _ _ _ _ hT
  rw [hdl, hlen] at this
  exact this
end

end Go.Proofs.Ytgigjbngocfkbaa
