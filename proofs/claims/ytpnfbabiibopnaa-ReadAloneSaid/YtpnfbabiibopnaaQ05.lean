/-
  Actready, Heldo, Mach, Mnext, in one text.
-/
import Derived.Test.YtpnfbabiibopnaaQ04
import Derived.Deep.QuietTactic
import Derived.BigQuiet
import Derived.StillTail
import Derived.OrdersHeld
import Derived.Defers
import Derived.Recover
import Derived.Laws.Pointers
/-! Ready: whether an act needs not wait. -/
namespace Go.Proofs.Ytpnfbabiibopnaa
open Go Go.RowKit
attribute [local go_sem ↓] Go.wp_at_zero Go.wp_at_succ

/-- Needs an act not wait? -/
def readyA (D : HpD) (x : ActD) : Bool := if rightA x then (if x.kind = 8 then !D.locked else if x.kind = 10 then (decide (x.cell < (sizeAt D.L x.block : Int)) && !(loadV D x.block x.cell == 0)) else true) else true
theorem load_there {D : HpD} {k : Nat} {i : Int} (h0 : 0 ≤ i) (h1 : i < (sizeAt D.L k : Int)) : spot D.L k i = 0 ∧ loadD D k i = D := by
  have hs : spot D.L k i = 0 := by
    unfold sizeAt at h1
    unfold spot
    cases hb : liveAt D.L k with
    | none => rw [hb] at h1; simp only at h1; omega
    | some b => rw [hb] at h1; simp only at h1 ⊢; rw [if_neg (by omega)]
  exact ⟨hs, by unfold loadD; rw [if_pos hs]⟩
theorem right_cell {x : ActD} (h : rightA x = true) : 0 ≤ x.cell := by
  unfold rightA at h
  simp only [Bool.and_eq_true, decide_eq_true_eq] at h
  exact h.1

set_option maxRecDepth 100000 in
set_option maxHeartbeats 4000000 in
theorem ready_any (W : World) {B p : Nat} {D : HpD} {f : Nat → Prop} (h : Hp W B p D f) (hf : D.faults < 1000000) (x : ActD) (hx : x.fits) :
    Calls Try.prog 41 #[.pointer (some ⟨p, 0, none⟩), actV x.kind x.block x.cell x.old x.new x.text] W (HpR B p f W (.bool (readyA D x)) D) := by
  have HR := Lib.hid (fun X => right_any x.kind x.block x.cell x.old x.new x.text X)
  have HH := Lib.hid h
  obtain ⟨k, b, c, o, n, t⟩ := x
  obtain ⟨-, hx2, -, -, -, -⟩ := hx
  simp only at hx2 HR ⊢
  have HA := Lib.hid (World.alloc_heap_new W (.cells #[.int .i64 k, .int .u64 (b : Int), .int .i64 c, .int .u64 o, .int .u64 n, .string t] 59))
  have HF := Lib.hid (And.intro hf hx2)
  cases hr : rightA ⟨k, b, c, o, n, t⟩ with
  | false =>
    have e1 : readyA D ⟨k, b, c, o, n, t⟩ = true := by unfold readyA; rw [hr]; rfl
    rw [e1]
    rw [hr] at HR
    clear h hf hx2 hr e1
    go_enter Try.func41, Try.ntmps41
    go_wp2_with fail
    refine (HR.out _).mono ?_
    rintro en w1 ⟨rfl, hb⟩
    have HB := Lib.hid ((below_alloc W _).trans (hb.mono (by simp)))
    clear hb
    go_wp2_with fail
    go_ret
    exact ⟨f, rfl, HH.out.below HB.out, Step.of_below HB.out⟩
  | true =>
    have hc0 := right_cell hr
    simp only at hc0
    rw [hr] at HR
    by_cases h8 : k = 8
    · subst h8
      have e1 : readyA D ⟨8, b, c, o, n, t⟩ = !D.locked := by unfold readyA; rw [hr]; rfl
      rw [e1]
      have HK := Lib.hid (fun X (hX : Hp X B p D f) => locked_any X hX)
      obtain ⟨l, hlk⟩ : ∃ l, D.locked = l := ⟨_, rfl⟩
      rw [hlk] at HK ⊢
      clear h hf hx2 hr e1 hlk hc0
      go_enter Try.func41, Try.ntmps41
      go_wp2_with fail
      refine (HR.out _).mono ?_
      rintro en w1 ⟨rfl, hb⟩
      have HB := Lib.hid ((below_alloc W _).trans (hb.mono (by simp)))
      have k0 : w1.cell? ⟨W.heap.size, 0, none⟩ = some (.int .i64 8) := (cell_of ((hb.block _ (heap_at_lt HA.out)).trans HA.out)).trans rfl
      clear hb
      go_wp2_with fail
      refine (HK.out _ (HH.out.below HB.out)).mono ?_
      rintro en w2 ⟨rfl, rfl⟩
      go_wp2_with fail
      go_ret
      exact ⟨f, rfl, HH.out.below HB.out, Step.of_below HB.out⟩
    · by_cases h10 : k = 10
      · subst h10
        have e1 : readyA D ⟨10, b, c, o, n, t⟩ = (decide (c < (sizeAt D.L b : Int)) && !(loadV D b c == 0)) := by unfold readyA; rw [hr]; rfl
        rw [e1]
        have HZ := Lib.hid (fun X (hX : Hp X B p D f) => (size_any X hX b hx2).mono fun _ _ hh => (And.intro hh.1 hh.2.symm))
        have HL := Lib.hid (fun X (hX : Hp X B p D f) => load_any X hX hf b hx2 c)
        by_cases hlt : c < (sizeAt D.L b : Int)
        · obtain ⟨hsp, hld⟩ := load_there hc0 hlt
          rw [hld, hsp] at HL
          have hge : decide ((sizeAt D.L b : Int) ≤ c) = false := decide_eq_false (by omega)
          have hlt' := decide_eq_true hlt
          rw [hlt']
          obtain ⟨z, hz⟩ : ∃ z, (sizeAt D.L b : Int) = z := ⟨_, rfl⟩
          rw [hz] at HZ hge hlt
          obtain ⟨v, hv⟩ : ∃ v, loadV D b c = v := ⟨_, rfl⟩
          rw [hv] at HL ⊢
          clear h hf hx2 hr e1 hz hsp hld hv hlt' h8
          go_enter Try.func41, Try.ntmps41
          go_wp2_with fail
          refine (HR.out _).mono ?_
          rintro en w1 ⟨rfl, hb⟩
          have HB := Lib.hid ((below_alloc W _).trans (hb.mono (by simp)))
          have k0 : w1.cell? ⟨W.heap.size, 0, none⟩ = some (.int .i64 10) := (cell_of ((hb.block _ (heap_at_lt HA.out)).trans HA.out)).trans rfl
          have k1 : w1.cell? ⟨W.heap.size, 1, none⟩ = some (.int .u64 (b : Int)) := (cell_of ((hb.block _ (heap_at_lt HA.out)).trans HA.out)).trans rfl
          have k2 : w1.cell? ⟨W.heap.size, 2, none⟩ = some (.int .i64 c) := (cell_of ((hb.block _ (heap_at_lt HA.out)).trans HA.out)).trans rfl
          clear hb
          go_wp2_with fail
          go_quiet (exact Calls.quiet_of_same (HZ.out _ (HH.out.below (HB.out.trans ((below_draws _ _).mono HB.out.size)))))
          go_wp2_with fail
          refine (HL.out _ (HH.out.below (HB.out.trans ((below_draws _ _).mono HB.out.size)))).mono ?_
          rintro en w2 ⟨f1, rfl, h1, s1⟩
          have H2 := Lib.hid h1
          have S2 := Lib.hid ((Step.of_below (HB.out.trans ((below_draws _ _).mono HB.out.size))).trans s1)
          clear h1 s1
          go_wp2_with fail
          go_ret
          exact ⟨f1, by rw [Bool.true_and]; rfl, H2.out, S2.out⟩
        · have hge : decide ((sizeAt D.L b : Int) ≤ c) = true := decide_eq_true (by omega)
          have hlt' := decide_eq_false hlt
          rw [hlt']
          obtain ⟨z, hz⟩ : ∃ z, (sizeAt D.L b : Int) = z := ⟨_, rfl⟩
          rw [hz] at HZ hge hlt
          clear h hf hx2 hr e1 hz HL hlt' h8
          go_enter Try.func41, Try.ntmps41
          go_wp2_with fail
          refine (HR.out _).mono ?_
          rintro en w1 ⟨rfl, hb⟩
          have HB := Lib.hid ((below_alloc W _).trans (hb.mono (by simp)))
          have k0 : w1.cell? ⟨W.heap.size, 0, none⟩ = some (.int .i64 10) := (cell_of ((hb.block _ (heap_at_lt HA.out)).trans HA.out)).trans rfl
          have k1 : w1.cell? ⟨W.heap.size, 1, none⟩ = some (.int .u64 (b : Int)) := (cell_of ((hb.block _ (heap_at_lt HA.out)).trans HA.out)).trans rfl
          have k2 : w1.cell? ⟨W.heap.size, 2, none⟩ = some (.int .i64 c) := (cell_of ((hb.block _ (heap_at_lt HA.out)).trans HA.out)).trans rfl
          clear hb
          go_wp2_with fail
          go_quiet (exact Calls.quiet_of_same (HZ.out _ (HH.out.below (HB.out.trans ((below_draws _ _).mono HB.out.size)))))
          go_wp2_with fail
          go_ret
          exact ⟨f, by simp, HH.out.below (HB.out.trans ((below_draws _ _).mono HB.out.size)), Step.of_below (HB.out.trans ((below_draws _ _).mono HB.out.size))⟩
      · have e1 : readyA D ⟨k, b, c, o, n, t⟩ = true := by unfold readyA; rw [hr]; simp only [if_true]; rw [if_neg h8, if_neg h10]
        rw [e1]
        clear h hf hx2 hr e1 hc0

        go_enter Try.func41, Try.ntmps41
        go_wp2_with fail
        refine (HR.out _).mono ?_
        rintro en w1 ⟨rfl, hb⟩
        have HB := Lib.hid ((below_alloc W _).trans (hb.mono (by simp)))
        have k0 : w1.cell? ⟨W.heap.size, 0, none⟩ = some (.int .i64 k) := (cell_of ((hb.block _ (heap_at_lt HA.out)).trans HA.out)).trans rfl
        clear hb
        go_wp2_with fail
        go_ret
        exact ⟨f, rfl, HH.out.below HB.out, Step.of_below HB.out⟩

end Go.Proofs.Ytpnfbabiibopnaa

/-! A region that draws its order: operations that only look at cells that stay, then those that call or make memory, one behind the other, and then the rest, which may store where was looked. Nothing of one program. -/
namespace Go.Proofs.Ytpnfbabiibopnaa
open Go

section
variable {P : Program} {ops : Array Oper} {Q : Exit → Act → World → Prop} {md : Region.Mode} {S : World → Prop} {m : Nat}

/-- Whatever order is picked from here on; behind each of the first m operations S holds. -/
def wpAnyU (P : Program) (md : Region.Mode) (ops : Array Oper) (Q : Exit → Act → World → Prop) (S : World → Prop) (m : Nat) : Nat → Array Bool → Act → World → Prop
  | 0, listed, a, w => Region.ready md ops listed = [] ∧ Q .normal a w
  | fuel + 1, listed, a, w =>
    (Region.ready md ops listed = [] → Q .normal a w) ∧
    ∀ i ∈ Region.ready md ops listed, wpOp P ops Q i (fun a' w' => (i < m → S w') ∧ wpAnyU P md ops Q S m fuel (listed.setIfInBounds i true) a' w') a w

theorem wpAny_of_U : ∀ (fuel : Nat) (listed : Array Bool) (a : Act) (w : World), wpAnyU P md ops Q S m fuel listed a w → wpAny P md ops Q fuel listed a w
  | 0, _, _, _, h => h
  | fuel + 1, _, _, _, h => ⟨h.1, fun i hi => wpOp_mono (fun a' w' h' => wpAny_of_U fuel _ a' w' h'.2) (h.2 i hi)⟩

theorem wpAnyU_first {i : Nat} {oi : Oper} {v : Value} (hi : ops[i]? = some oi) (hsel : ∀ (j : Nat) (o : Oper) cs b, ops[j]? = some o → o.op ≠ .select cs b)
    (hQ : ∀ c a w, Q (.panic c) (a.put oi.dst v) w → Q (.panic c) a w) (hs : Region.sinkB md ops m = true) (hc : Region.chainB md ops m = true) (hmn : m < ops.size) (him : i < m) :
    ∀ (fuel : Nat) (listed : Array Bool) (a : Act) (w : World), HeadInv md ops m listed →
      (∀ j oj, ops[j]? = some oj → j ≠ i → listed.getD j true = false → (∀ e ∈ oj.after, Region.binds md e = true → e.on ≠ i) → oi.apart ops oj = true) →
      i ∈ Region.ready md ops listed → YieldsIf P ops S oi v a → S w →
      wpAnyU P md ops Q S m fuel (listed.setIfInBounds i true) (a.put oi.dst v) w → wpAnyU P md ops Q S m (fuel + 1) listed a w := by
  intro fuel
  induction fuel with
  | zero =>
    intro listed a w inv _ hr hy hS H
    refine ⟨fun h => (by rw [h] at hr; cases hr), fun j hj => ?_⟩
    by_cases hji : j = i
    · subst hji; exact hy.wpOp hi hS ⟨fun _ => hS, H⟩
    · have := ready_mono hj hji
      rw [H.1] at this
      cases this
  | succ fuel ih =>
    intro listed a w inv hfree hr hy hS H
    refine ⟨fun h => (by rw [h] at hr; cases hr), fun j hj => ?_⟩
    have hun := (mem_ready.1 hr).1
    by_cases hji : j = i
    · subst hji; exact hy.wpOp hi hS ⟨fun _ => hS, H⟩
    · have hjm : j < m := by
        rcases Nat.lt_or_ge j m with h | h
        · exact h
        · exact absurd hj (tail_waits hs hc hmn inv _ i rfl him hun j h)
      have h1 := H.2 j (ready_mono hj hji)
      obtain ⟨hjun, oj, hoj, hall⟩ := mem_ready.1 hj
      have hnot : ∀ e ∈ oj.after, Region.binds md e = true → e.on ≠ i := fun e he hb heq => by
        have h1 := hall e he hb
        rw [heq, getD_both hun] at h1
        cases h1
      have h2 := wpOp_putIf hoj (hfree j oj hoj hji hjun hnot) (fun cs b => hsel i oi cs b hi) (fun cs b => hsel j oj cs b hoj) hQ hy h1
      have hfree' : ∀ k ok, ops[k]? = some ok → k ≠ i → (listed.setIfInBounds j true).getD k true = false →
          (∀ e ∈ ok.after, Region.binds md e = true → e.on ≠ i) → oi.apart ops ok = true := fun k ok hk hki hun hno => by
        refine hfree k ok hk hki ?_ hno
        by_cases hjk : j = k
        · subst hjk; exact hjun
        · rw [getD_set_ne true hjk] at hun; exact hun
      refine wpOp_mono (fun a' w' h3 => ⟨h3.2.1, ih (listed.setIfInBounds j true) a' w' (inv.set hj hjm) hfree' (ready_mono hr (Ne.symm hji)) h3.1 (h3.2.1 hjm) ?_⟩) h2
      rw [Array.setIfInBounds_comm _ _ hji]
      exact h3.2.2

/-- The operations of these places, each of which only looks, in every world that meets S. -/
def heldU (P : Program) (ops : Array Oper) (S : World → Prop) (K : Act → Prop) : List Nat → Act → Prop
  | [], a => K a
  | k :: r, a => ∃ o v, ops[k]? = some o ∧ o.guard = none ∧ (∀ w, S w → (execOp a.eval o).run P w = .ok (.value v) w) ∧ heldU P ops S K r (a.put o.dst v)

/-- The head in the order given. -/
def Region.headUB (md : Region.Mode) (ops : Array Oper) (m : Nat) : List Nat → Array Bool → Bool
  | [], _ => true
  | k :: r, listed => decide (k < m) && (Region.ready md ops listed).contains k && Region.free md ops listed k && Region.headUB md ops m r (listed.setIfInBounds k true)
def Region.listU : List Nat → Array Bool → Array Bool
  | [], listed => listed
  | k :: r, listed => Region.listU r (listed.setIfInBounds k true)
/-- Behind the head nothing else is ready but these, one behind the other. -/
def Region.midUB (md : Region.Mode) (ops : Array Oper) (m : Nat) : List Nat → Array Bool → Bool
  | [], _ => true
  | k :: r, listed => decide (k < m) && decide (Region.ready md ops listed = [k]) && Region.midUB md ops m r (listed.setIfInBounds k true)

/-- The operations between the head and the tail. -/
def midU (P : Program) (ops : Array Oper) (Q : Exit → Act → World → Prop) (S : World → Prop) (K : Act → World → Prop) : List Nat → Act → World → Prop
  | [], a, w => K a w
  | k :: r, a, w => ∃ o, ops[k]? = some o ∧ o.guard = none ∧ o.wp P a w (fun a' w' => S w' ∧ midU P ops Q S K r a' w') Q

theorem heldU_step {K : Act → Prop} {k : Nat} {r : List Nat} {o : Oper} {a : Act} (v : Value) (h0 : ops[k]? = some o) (hg : o.guard = none) (hv : ∀ w, S w → (execOp a.eval o).run P w = .ok (.value v) w)
    (h : ∀ K' : Act → Prop, (∀ a, heldU P ops S K r a → K' a) → K' (a.put o.dst v)) : heldU P ops S K (k :: r) a := ⟨o, v, h0, hg, hv, h _ fun _ h => h⟩
theorem midU_step {K : Act → World → Prop} {k : Nat} {r : List Nat} {o : Oper} {a : Act} {w : World} (h0 : ops[k]? = some o) (hg : o.guard = none)
    (h : ∀ K' : Act → World → Prop, (∀ a w, S w ∧ midU P ops Q S K r a w → K' a w) → o.wp P a w K' Q) : midU P ops Q S K (k :: r) a w := ⟨o, h0, hg, h _ fun _ _ h => h⟩

theorem wpAnyU_head (hsel : Region.noSelect ops = true) (hQ : ∀ c a w d v, Q (.panic c) (Act.put a d v) w → Q (.panic c) a w)
    (hs : Region.sinkB md ops m = true) (hc : Region.chainB md ops m = true) (hmn : m < ops.size) {w : World} (hS : S w) {g : Nat} {L : Array Bool} {K : Act → Prop}
    (hK : ∀ a, HeadInv md ops m L → K a → wpAnyU P md ops Q S m g L a w) :
    ∀ (l : List Nat) (listed : Array Bool) (a : Act), HeadInv md ops m listed → Region.headUB md ops m l listed = true → Region.listU l listed = L →
      heldU P ops S K l a → wpAnyU P md ops Q S m (l.length + g) listed a w
  | [], listed, a, inv, _, hL, h => by rw [List.length_nil, Nat.zero_add]; have : listed = L := hL; subst this; exact hK a inv h
  | k :: l, listed, a, inv, hB, hL, h => by
    simp only [Region.headUB, Bool.and_eq_true, decide_eq_true_eq] at hB
    obtain ⟨⟨⟨hkm, hr⟩, hf⟩, hB'⟩ := hB
    obtain ⟨o, v, h0, hg, hv, hrest⟩ := h
    have hr' : k ∈ Region.ready md ops listed := by simpa using hr
    rw [show (k :: l).length + g = (l.length + g) + 1 by simp; omega]
    refine wpAnyU_first h0 (Region.noSelect_spec hsel) (fun c a w => hQ c a w _ _) hs hc hmn hkm _ listed a w inv (Region.free_spec h0 hf) hr' (.inl ⟨by simp [Region.wanted, hg], hv⟩) hS ?_
    exact wpAnyU_head hsel hQ hs hc hmn hS hK l _ _ (inv.set hr' hkm) hB' hL hrest

theorem wpAnyU_mid {g : Nat} {L : Array Bool} {K : Act → World → Prop}
    (hK : ∀ a w, K a w → wpAnyU P md ops Q S m g L a w) :
    ∀ (l : List Nat) (listed : Array Bool) (a : Act) (w : World), Region.midUB md ops m l listed = true → Region.listU l listed = L →
      midU P ops Q S K l a w → wpAnyU P md ops Q S m (l.length + g) listed a w
  | [], listed, a, w, _, hL, h => by rw [List.length_nil, Nat.zero_add]; have : listed = L := hL; subst this; exact hK a w h
  | k :: l, listed, a, w, hB, hL, h => by
    simp only [Region.midUB, Bool.and_eq_true, decide_eq_true_eq] at hB
    obtain ⟨⟨hkm, hr⟩, hB'⟩ := hB
    obtain ⟨o, h0, hg, h⟩ := h
    rw [show (k :: l).length + g = (l.length + g) + 1 by simp; omega]
    refine ⟨fun h0 => (by rw [hr] at h0; cases h0), fun i hi => ?_⟩
    rw [hr] at hi
    have hik : i = k := by simpa using hi
    subst hik
    unfold wpOp
    rw [h0]
    have hw : Region.wanted o (yielded ops a.tmps) = true := by simp [Region.wanted, hg]
    simp only [hw, if_true]
    exact .inl (Oper.wp_mono (fun a2 w2 h2 => ⟨fun _ => h2.1, wpAnyU_mid hK l _ a2 w2 hB' hL h2.2⟩) h)

theorem wpAnyU_tail : ∀ (r : List Oper) (q : Nat) (listed : Array Bool) (a : Act) (w : World), (∀ j, r[j]? = ops[q + j]?) → m ≤ q →
    Region.seqB md ops r.length q listed = true → wpList P ops Q r a w → wpAnyU P md ops Q S m r.length listed a w
  | [], q, listed, a, w, _, _, hB, h => ⟨by simpa [Region.seqB] using hB, h⟩
  | o2 :: r, q, listed, a, w, hl, hq, hB, h => by
    have h0 : ops[q]? = some o2 := by simpa using (hl 0).symm
    simp only [List.length_cons, Region.seqB, Bool.and_eq_true, decide_eq_true_eq] at hB
    refine ⟨fun h1 => (by rw [hB.1] at h1; cases h1), fun i2 hi2 => ?_⟩
    rw [hB.1] at hi2
    have hik : i2 = q := by simpa using hi2
    subst hik
    have hw : wpOp P ops Q i2 (wpList P ops Q r) a w := by unfold wpOp; simp only [h0]; exact h
    exact wpOp_mono (fun a' w' h' => ⟨fun hlt => absurd hlt (by omega), wpAnyU_tail r (i2 + 1) _ a' w' (fun j => by have := hl (j + 1); simpa [Nat.add_assoc, Nat.add_comm 1 j] using this) (by omega) hB.2 h'⟩) hw

/-- All that is asked of the region's shape: the looks in the order given, the others between, and the tail from m on, one behind the other. -/
def Region.heldUB (md : Region.Mode) (ops : Array Oper) (m : Nat) (head mid : List Nat) : Bool :=
  Region.noSelect ops && decide (m < ops.size) && Region.sinkB md ops m && Region.chainB md ops m && Region.headUB md ops m head (Array.replicate ops.size false) &&
    Region.midUB md ops m mid (Region.listU head (Array.replicate ops.size false)) && Region.seqB md ops (ops.size - m) m (Region.listU mid (Region.listU head (Array.replicate ops.size false))) &&
    decide (head.length + (mid.length + (ops.size - m)) = ops.size)

theorem wp_region_heldU {id : Nat} {a : Act} {w : World} {l : List Oper} (m : Nat) (head mid : List Nat)
    (hQ : ∀ c a w d v, Q (.panic c) (Act.put a d v) w → Q (.panic c) a w) (hm : P.follows .mixedOrders = true) (hB : Region.heldUB .any l.toArray m head mid = true) (S : World → Prop) (hS : S w.drew)
    (h : heldU P l.toArray S (fun a' => midU P l.toArray Q S (fun a2 w2 => wpList P l.toArray Q (l.drop m) a2 w2) mid a' w.drew) head a) : (Code.region id l.toArray true).wp P Q a w := by
  simp only [Region.heldUB, Bool.and_eq_true, decide_eq_true_eq] at hB
  obtain ⟨⟨⟨⟨⟨⟨⟨hsel, hn⟩, hs⟩, hc⟩, hhead⟩, hmid⟩, hseq⟩, hlen⟩ := hB
  have hdl : (l.drop m).length = l.toArray.size - m := by simp
  have inv0 : HeadInv .any l.toArray m (Array.replicate l.toArray.size false) :=
    ⟨by simp, fun j oj _ hl => (by rw [getD_replicate_false] at hl; cases hl), fun t _ ht => getD_in (by simpa using ht) (getD_replicate_false _ _)⟩
  refine wp_region_any hm ?_
  have hT := wpAnyU_head (P := P) (Q := Q) (md := .any) (S := S) (m := m) hsel hQ hs hc hn (w := w.drew) hS (g := mid.length + (l.drop m).length)
    (fun a' _ ha' => wpAnyU_mid (fun a2 w2 h2 => wpAnyU_tail (l.drop m) m _ a2 w2 (fun j => by simp [List.getElem?_drop]) (Nat.le_refl _) (by rw [hdl]; exact hseq) h2) mid _ a' w.drew hmid rfl ha')
    head _ a inv0 hhead rfl h
  have := wpAny_of_U _ _ _ _ hT
  rw [hdl, hlen] at this
  exact this
end

end Go.Proofs.Ytpnfbabiibopnaa

/-! A kind of routine, whatever it is: what its Act tells and its Take takes; drive's ask and hand of it. -/
namespace Go.Proofs.Ytpnfbabiibopnaa
open Go Go.RowKit
attribute [local go_sem ↓] Go.wp_at_zero Go.wp_at_succ

theorem results_cell2 {fn : Func} {p q : Tmp} {ty : TypeId} (h : fn.results = #[.cell p ty, .tmp q]) (tmps : Array Value) (P : Program) (w : World) :
    (results fn tmps).run P w = ((asAddr (tmps.getD p undef)).run P w).andThen fun a w₁ => ((loadVar ty a).run P w₁).andThen fun v w₂ => .ok (.tuple #[v, tmps.getD q undef]) w₂ := by
  simp [results, h]
theorem results_cell3 {fn : Func} {p q r : Tmp} {ty : TypeId} (h : fn.results = #[.cell p ty, .tmp q, .tmp r]) (tmps : Array Value) (P : Program) (w : World) :
    (results fn tmps).run P w = ((asAddr (tmps.getD p undef)).run P w).andThen fun a w₁ => ((loadVar ty a).run P w₁).andThen fun v w₂ => .ok (.tuple #[v, tmps.getD q undef, tmps.getD r undef]) w₂ := by
  simp [results, h]

abbrev zeroV : Value := actV 0 0 0 0 0 ⟨#[]⟩
abbrev actOf (x : ActD) : Value := actV x.kind x.block x.cell x.old x.new x.text
def noAct : ActD := ⟨0, 0, 0, 0, 0, ⟨#[]⟩⟩
/-- An answer that may be. -/
def Good (w : Int) (t : ByteArray) : Prop := (0 ≤ w ∧ w < 18446744073709551616) ∧ t.size ≤ 281474976710656

/-- A kind of routine: its type and its two functions; what it does next, and where it stands behind an answer; how it lies at r, what it writes to being f's blocks. -/
structure Mach (σ : Type) where
  tid : TypeId
  fA : FuncId
  fT : FuncId
  next : σ → Option ActD
  take : σ → Int → ByteArray → σ
  At : World → Nat → Nat → σ → (Nat → Prop) → Prop
  metA : ∀ (n r : Nat) (w : World), (method (n + 1) tid (.pointer (some ⟨r, 0, none⟩)) "Act").run Try.prog w = .ok (fA, .pointer (some ⟨r, 0, none⟩)) w
  metT : ∀ (n r : Nat) (w : World), (method (n + 1) tid (.pointer (some ⟨r, 0, none⟩)) "Take").run Try.prog w = .ok (fT, .pointer (some ⟨r, 0, none⟩)) w
  entA : ∀ (args : Array Value) (w : World), (callFunc fA args).run Try.prog w = .ok (.enter fA args) w
  entT : ∀ (args : Array Value) (w : World), (callFunc fT args).run Try.prog w = .ok (.enter fT args) w
  stays : ∀ {W W' : World} {B r : Nat} {s : σ} {f : Nat → Prop}, At W B r s f → (∀ k, f k → W'.heap[k]? = W.heap[k]?) → At W' B r s f
  lt : ∀ {W : World} {B r : Nat} {s : σ} {f : Nat → Prop}, At W B r s f → ∀ k, f k → k < W.heap.size
  base : ∀ {W : World} {B r : Nat} {s : σ} {f : Nat → Prop}, At W B r s f → ∀ k, f k → B ≤ k
  self : ∀ {W : World} {B r : Nat} {s : σ} {f : Nat → Prop}, At W B r s f → f r
  fits : ∀ {W : World} {B r : Nat} {s : σ} {f : Nat → Prop} {x : ActD}, At W B r s f → next s = some x → x.fits
  act : ∀ {W : World} {B r : Nat} {s : σ} {f : Nat → Prop}, At W B r s f → Calls Try.prog fA #[.pointer (some ⟨r, 0, none⟩)] W fun e W' => e = .returned (.tuple #[actOf ((next s).getD noAct), .bool (next s).isSome]) ∧ Below W.heap.size W W'
  takes : ∀ {W : World} {B r : Nat} {s : σ} {f : Nat → Prop} {w : Int} {t : ByteArray}, At W B r s f → (next s).isSome = true → Good w t → Calls Try.prog fT #[.pointer (some ⟨r, 0, none⟩), gotV w t] W fun e W' => ∃ f', e = .returned (.tuple #[]) ∧ At W' B r (take s w t) f' ∧ Step f f' W W'

abbrev rowV (tid : TypeId) (r : Nat) : Value := .iface tid (.pointer (some ⟨r, 0, none⟩))
section
variable {σ : Type} {M : Mach σ} {W W' : World} {B r : Nat} {s : σ} {f : Nat → Prop}
theorem Mach.below (h : M.At W B r s f) (hb : Below W.heap.size W W') : M.At W' B r s f := M.stays h (fun k hk => hb.block k (M.lt h k hk))
theorem Mach.size (h : M.At W B r s f) : B ≤ W.heap.size := Nat.le_trans (M.base h r (M.self h)) (Nat.le_of_lt (M.lt h r (M.self h)))
end

theorem askrec (w : World) : CallsD Try.prog 59 #[] .returning w fun e u' w' => e = .returned (.tuple #[]) ∧ u' = .returning ∧ w' = w := by
  refine callsD_of_wpS Try.func59 rfl fun c₀ cs hu => ?_
  apply wpS_region
  simp [wpOpsS, go_sem, recoverD, hu, Try.ntmps59, bodyPostS, results, Try.results59]
  cases c₀
  simp_all
theorem handrec (w : World) : CallsD Try.prog 64 #[] .returning w fun e u' w' => e = .returned (.tuple #[]) ∧ u' = .returning ∧ w' = w := by
  refine callsD_of_wpS Try.func64 rfl fun c₀ cs hu => ?_
  apply wpS_region
  simp [wpOpsS, go_sem, recoverD, hu, Try.ntmps64, bodyPostS, results, Try.results64]
  cases c₀
  simp_all

theorem set6 {X : World} {n : Nat} {t : TypeId} {a0 a1 a2 a3 a4 a5 : Value} (h : X.heap[n]? = some (.cells #[a0, a1, a2, a3, a4, a5] t (0, 0))) (v0 v1 v2 v3 v4 v5 : Value) :
    ((((((X.setCell ⟨n, 0, none⟩ v0).setCell ⟨n, 1, none⟩ v1).setCell ⟨n, 2, none⟩ v2).setCell ⟨n, 3, none⟩ v3).setCell ⟨n, 4, none⟩ v4).setCell ⟨n, 5, none⟩ v5).heap[n]? = some (.cells #[v0, v1, v2, v3, v4, v5] t (0, 0)) :=
  heap_setAt (heap_setAt (heap_setAt (heap_setAt (heap_setAt (heap_setAt h)))))
theorem below6 {W X : World} {n m : Nat} (h : Below m W X) (hn : m ≤ n) (v0 v1 v2 v3 v4 v5 : Value) :
    Below m W ((((((X.setCell ⟨n, 0, none⟩ v0).setCell ⟨n, 1, none⟩ v1).setCell ⟨n, 2, none⟩ v2).setCell ⟨n, 3, none⟩ v3).setCell ⟨n, 4, none⟩ v4).setCell ⟨n, 5, none⟩ v5) :=
  (((((h.setCell hn _).setCell hn _).setCell hn _).setCell hn _).setCell hn _).setCell hn _
theorem load_act {X : World} {n : Nat} {x : ActD} (h : X.heap[n]? = some (.cells (actCells x) 59 (0, 0))) : (loadVar 59 ⟨n, 0, none⟩).run Try.prog X = .ok (actOf x) X := by
  unfold actCells at h
  have m0 := (cell_of (i := 0) h).trans rfl
  have m1 := (cell_of (i := 1) h).trans rfl
  have m2 := (cell_of (i := 2) h).trans rfl
  have m3 := (cell_of (i := 3) h).trans rfl
  have m4 := (cell_of (i := 4) h).trans rfl
  have m5 := (cell_of (i := 5) h).trans rfl
  go_simp
theorem ask_end {W X : World} {n : Nat} {x : ActD} {is : Bool} {T : Array Value} (h : X.heap[n]? = some (.cells (actCells x) 59 (0, 0))) (hb : Below W.heap.size W X) (h2 : T.getD 2 undef = .pointer (some ⟨n, 0, none⟩)) (h3 : T.getD 3 undef = .bool is) (h4 : T.getD 4 undef = .bool true) :
    bodyPostD Try.prog Try.f35 (fun e W' => e = .returned (.tuple #[actOf x, .bool is, .bool true]) ∧ Below W.heap.size W W') .ret { tmps := T, defers := [{ target := .fn (.func 59) #[], args := #[] }] } X := by
  refine leaves_cons (f := 59) (args := #[]) (by simp) (by simp [go_sem]) ?_
  refine (askrec _).mono ?_
  rintro e u' w'' ⟨rfl, rfl, rfl⟩
  simp only [Leaves, settle]
  refine ⟨_, by rw [results_cell3 (by rfl), h2, h3, h4]; simp only [asAddr, Sem.run_pure, Result.andThen_ok, load_act h], rfl, hb⟩

abbrev actO (x : ActD) : Obj := .cells #[.int .i64 x.kind, .int .u64 (x.block : Int), .int .i64 x.cell, .int .u64 x.old, .int .u64 x.new, .string x.text] 59 (0, 0)
abbrev gotO (w : Int) (t : ByteArray) : Obj := .cells #[.int .u64 w, .string t] 63 (0, 0)
abbrev noO : Obj := .cells #[.int .i64 0, .int .u64 0, .int .i64 0, .int .u64 0, .int .u64 0, .string ⟨#[]⟩] 59 (0, 0)
theorem six_at {X : World} {n : Nat} {t : TypeId} {a0 a1 a2 a3 a4 a5 : Value} (h : X.heap[n]? = some (.cells #[a0, a1, a2, a3, a4, a5] t (0, 0))) :
    X.cell? ⟨n, 0, none⟩ = some a0 ∧ X.cell? ⟨n, 1, none⟩ = some a1 ∧ X.cell? ⟨n, 2, none⟩ = some a2 ∧ X.cell? ⟨n, 3, none⟩ = some a3 ∧ X.cell? ⟨n, 4, none⟩ = some a4 ∧ X.cell? ⟨n, 5, none⟩ = some a5 :=
  ⟨(cell_of h).trans rfl, (cell_of h).trans rfl, (cell_of h).trans rfl, (cell_of h).trans rfl, (cell_of h).trans rfl, (cell_of h).trans rfl⟩
theorem six_free {X : World} {n : Nat} {t : TypeId} {a0 a1 a2 a3 a4 a5 : Value} (h : X.heap[n]? = some (.cells #[a0, a1, a2, a3, a4, a5] t (0, 0))) :
    X.frozen? ⟨n, 0, none⟩ = false ∧ X.frozen? ⟨n, 1, none⟩ = false ∧ X.frozen? ⟨n, 2, none⟩ = false ∧ X.frozen? ⟨n, 3, none⟩ = false ∧ X.frozen? ⟨n, 4, none⟩ = false ∧ X.frozen? ⟨n, 5, none⟩ = false := by
  simp [World.frozen?, h]
theorem two_at {X : World} {n : Nat} {t : TypeId} {a0 a1 : Value} (h : X.heap[n]? = some (.cells #[a0, a1] t (0, 0))) : X.cell? ⟨n, 0, none⟩ = some a0 ∧ X.cell? ⟨n, 1, none⟩ = some a1 := ⟨(cell_of h).trans rfl, (cell_of h).trans rfl⟩

set_option maxRecDepth 100000 in
set_option maxHeartbeats 2000000 in
/-- Over whatever Act tells. -/
theorem ask_any (W : World) (tid : TypeId) (fA : FuncId) (r : Nat) (x : ActD) (is : Bool) (hm : ∀ (n r : Nat) (w : World), (method (n + 1) tid (.pointer (some ⟨r, 0, none⟩)) "Act").run Try.prog w = .ok (fA, .pointer (some ⟨r, 0, none⟩)) w)
    (hE : ∀ (args : Array Value) (w : World), (callFunc fA args).run Try.prog w = .ok (.enter fA args) w) (HA : Hid (∀ X, Below W.heap.size W X → Calls Try.prog fA #[.pointer (some ⟨r, 0, none⟩)] X fun e X' => e = .returned (.tuple #[actOf x, .bool is]) ∧ Below X.heap.size X X')) :
    Calls Try.prog 35 #[rowV tid r] W fun e W' => e = .returned (.tuple #[actOf x, .bool is, .bool true]) ∧ Below W.heap.size W W' := by
  go_enter_defers Try.func35, Try.ntmps35
  go_wp2_with fail
  have HB := Lib.hid (below_alloc W noO)
  have HN := Lib.hid (World.alloc_heap_new W noO)
  generalize W.alloc noO = X1 at HB HN ⊢
  refine (HA.out _ HB.out).mono ?_
  rintro en X3 ⟨rfl, hb⟩
  have HB3 := Lib.hid (HB.out.trans (hb.mono HB.out.size))
  have h3 := (hb.block _ (heap_at_lt HN.out)).trans HN.out
  clear hb
  obtain ⟨m0, m1, m2, m3, m4, m5⟩ := six_at h3
  obtain ⟨z0, z1, z2, z3, z4, z5⟩ := six_free h3
  go_wp2_with fail
  exact ask_end (set6 (set6 h3 _ _ _ _ _ _) _ _ _ _ _ _) (below6 (below6 HB3.out (Nat.le_refl _) _ _ _ _ _ _) (Nat.le_refl _) _ _ _ _ _ _) rfl rfl rfl

set_option maxRecDepth 100000 in
set_option maxHeartbeats 2000000 in
/-- Over whatever Take does. -/
theorem hand_any {R : World → Prop} (W : World) (tid : TypeId) (fT : FuncId) (r : Nat) (hm : ∀ (n r : Nat) (w : World), (method (n + 1) tid (.pointer (some ⟨r, 0, none⟩)) "Take").run Try.prog w = .ok (fT, .pointer (some ⟨r, 0, none⟩)) w)
    (hE : ∀ (args : Array Value) (w : World), (callFunc fT args).run Try.prog w = .ok (.enter fT args) w) (x : Int) (t : ByteArray)
    (HT : Hid (∀ X, Below W.heap.size W X → Calls Try.prog fT #[.pointer (some ⟨r, 0, none⟩), gotV x t] X fun e X' => e = .returned (.tuple #[]) ∧ R X')) :
    Calls Try.prog 42 #[.func (.method "Take") #[rowV tid r] #[], gotV x t] W fun e X' => e = .returned (.tuple #[]) ∧ R X' := by
  go_enter_defers Try.func42, Try.ntmps42
  go_wp2_with fail
  refine (HT.out _ (below_alloc _ _)).mono ?_
  rintro en w1 ⟨rfl, h1⟩
  have HE := Lib.hid h1
  clear h1
  go_wp2_with fail
  refine leaves_cons (f := 64) (args := #[]) (by simp) (by simp [go_sem]) ?_
  refine (handrec _).mono ?_
  rintro e u' w'' ⟨rfl, rfl, rfl⟩
  simp only [Leaves, settle]
  exact ⟨_, results_none rfl _ _ _, rfl, HE.out⟩

/-! ### acts compared; small words -/
theorem neqA_run (k b c o n k' b' c' o' n' : Int) (t t' : ByteArray) (w : World) : (binOp .neq 59 (actV k b c o n t) (actV k' b' c' o' n' t')).run Try.prog w = .ok (.bool (!(k == k' && (b == b' && (c == c' && (o == o' && (n == n' && t.toList == t'.toList))))))) w := by
  have u3 := Try.underlying3
  have u32 := Try.underlying22
  have u9 := Try.underlying9
  have hS : Try.prog.underlying 59 = some (.struct (Try.prog.fieldsOf 59)) := by kernel_rfl
  have hp : Try.prog.stoodInHeld 59 = false := by kernel_rfl
  rw [run_neq_struct, show (10000 : Nat) = 9999 + 1 from rfl, run_equalIn_agg w 9999 59 _ _ hS hp]
  simp only [Program.fieldsOf, Try.underlying59]
  have a3 := Try.isAgg3
  have z3 := Try.sizeOf3
  have a32 := Try.isAgg22
  have z32 := Try.sizeOf22
  have a9 := Try.isAgg9
  have z9 := Try.sizeOf9
  go_simp
  by_cases h1 : k = k' <;> by_cases h2 : b = b' <;> by_cases h3 : c = c' <;> by_cases h4 : o = o' <;> by_cases h5 : n = n' <;> by_cases h6 : t.toList = t'.toList <;> simp [h1, h2, h3, h4, h5, h6]
theorem neqA_same (k b c o n : Int) (t : ByteArray) (w : World) : (binOp .neq 59 (actV k b c o n t) (actV k b c o n t)).run Try.prog w = .ok (.bool false) w := by
  rw [neqA_run]; simp
theorem below_turned {n : Nat} {W X : World} (h : Below n W X) : Below n W X.drew := ⟨h.os, h.tape, h.output, h.size, h.block⟩
theorem two_free {X : World} {n : Nat} {t : TypeId} {a0 a1 : Value} (h : X.heap[n]? = some (.cells #[a0, a1] t (0, 0))) : X.frozen? ⟨n, 0, none⟩ = false ∧ X.frozen? ⟨n, 1, none⟩ = false := by simp [World.frozen?, h]

end Go.Proofs.Ytpnfbabiibopnaa

/-! A routine beside a heap, whatever kind it is: what may be done next, what it is answered, and both behind it; drive's Next. -/
namespace Go.Proofs.Ytpnfbabiibopnaa
open Go Go.RowKit
attribute [local go_sem ↓] Go.wp_at_zero Go.wp_at_succ

/-- No more blocks than one more, no more faults than one more. -/
def Nigh (D D' : HpD) : Prop := D'.L.length ≤ D.L.length + 1 ∧ D'.faults ≤ D.faults + 1
theorem Nigh.same (D : HpD) : Nigh D D := ⟨by omega, by omega⟩
theorem Nigh.fault (D : HpD) : Nigh D D.fault := ⟨Nat.le_succ _, Nat.le_refl _⟩
theorem Nigh.word (D : HpD) (k : Nat) (i u : Int) : Nigh D (D.word k i u) := by
  unfold HpD.word
  split
  · exact Nigh.same D
  · exact ⟨by simp [HpD.at], by simp [HpD.at]⟩
theorem Nigh.lose (D : HpD) (k : Nat) : Nigh D (D.lose k) := by
  unfold HpD.lose
  split
  · exact Nigh.same D
  · exact ⟨by simp [HpD.at], by simp [HpD.at]⟩
theorem act_nigh (D : HpD) (x : ActD) : Nigh D (actN D x) := by
  unfold actN
  split
  · unfold loadD; split
    · exact Nigh.same D
    · exact Nigh.fault D
  split
  · unfold storeD; split
    · exact Nigh.word ..
    · exact Nigh.fault D
  split
  · unfold swapD; split
    · split
      · exact Nigh.word ..
      · exact Nigh.same D
    · exact Nigh.fault D
  split
  · unfold bumpD; split
    · exact Nigh.word ..
    · exact Nigh.fault D
  split
  · unfold makeD; split
    · exact ⟨by simp [HpD.add], by simp [HpD.add]⟩
    · exact Nigh.same D
  split
  · unfold wordsD; split
    · exact Nigh.same D
    · exact Nigh.fault D
  split
  · unfold dropD; split
    · exact Nigh.lose ..
    · exact Nigh.fault D
  split
  · exact ⟨by simp [HpD.lock], by simp [HpD.lock]⟩
  split
  · unfold unlockD; split
    · exact ⟨by simp [HpD.lock], by simp [HpD.lock]⟩
    · exact Nigh.fault D
  · exact Nigh.same D
theorem do_nigh (D : HpD) (x : ActD) : Nigh D (doN D x) := by
  unfold doN
  split
  · exact act_nigh D x
  · exact Nigh.same D
theorem act_few (D : HpD) (x : ActD) : (doN D x).L.length ≤ D.L.length + 1 ∧ (doN D x).faults ≤ D.faults + 1 := do_nigh D x

/-! ### Words that may be -/
/-- All words that stand there may be words, and no text is too long. -/
def Fine (D : HpD) : Prop := ∀ b ∈ D.L, (∀ w ∈ b.ws, 0 ≤ w ∧ w < 18446744073709551616) ∧ b.text.size ≤ 281474976710656
theorem Fine.at {D : HpD} {k : Nat} {b : BlkD} (h : Fine D) (hb : liveAt D.L k = some b) : (∀ w ∈ b.ws, 0 ≤ w ∧ w < 18446744073709551616) ∧ b.text.size ≤ 281474976710656 := by
  obtain ⟨-, -, h3, -⟩ := liveAt_some hb
  exact h b (List.mem_of_getElem? h3)
theorem Fine.set {D : HpD} {k : Nat} {x : BlkD} (h : Fine D) (hx : (∀ w ∈ x.ws, 0 ≤ w ∧ w < 18446744073709551616) ∧ x.text.size ≤ 281474976710656) : Fine (D.at k x) := fun b hb => by
  rcases List.mem_or_eq_of_mem_set hb with hb | rfl
  · exact h b hb
  · exact hx
theorem Fine.word {D : HpD} (h : Fine D) (k : Nat) (i : Int) {u : Int} (hu : 0 ≤ u ∧ u < 18446744073709551616) : Fine (D.word k i u) := by
  unfold HpD.word
  split
  · exact h
  · rename_i b hb
    refine h.set ⟨fun w hw => ?_, (h.at hb).2⟩
    rcases List.mem_or_eq_of_mem_set hw with hw | rfl
    · exact (h.at hb).1 w hw
    · exact hu
theorem Fine.lose {D : HpD} (h : Fine D) (k : Nat) : Fine (D.lose k) := by
  unfold HpD.lose
  split
  · exact h
  · rename_i b hb
    have hb' := h.at hb
    exact h.set (x := ⟨b.ws, b.text, true⟩) hb'
theorem Fine.fault {D : HpD} (h : Fine D) : Fine D.fault := h
theorem Fine.lock {D : HpD} (h : Fine D) (b : Bool) : Fine (D.lock b) := h
theorem Fine.made {D : HpD} (h : Fine D) {c : Int} {s : ByteArray} (hs : s.size ≤ 281474976710656) : Fine (makeD D c s) := by
  unfold makeD
  split
  · intro b hb
    rcases List.mem_append.1 hb with hb | hb
    · exact h b hb
    · obtain rfl := List.mem_singleton.1 hb
      refine ⟨fun w hw => ?_, hs⟩
      rw [List.eq_of_mem_replicate hw]; omega
  · exact h
theorem Fine.wordAt {D : HpD} (h : Fine D) (k : Nat) (i : Int) : 0 ≤ wordAt D.L k i ∧ wordAt D.L k i < 18446744073709551616 := by
  unfold Go.Proofs.Ytpnfbabiibopnaa.wordAt
  split
  · omega
  · rename_i b hb
    rcases Nat.lt_or_ge i.toNat b.ws.length with hl | hl
    · have := (h.at hb).1 _ (List.getElem_mem hl)
      rw [List.getD_eq_getElem?_getD, List.getElem?_eq_getElem hl]
      exact this
    · rw [List.getD_eq_getElem?_getD, List.getElem?_eq_none hl]
      simp
theorem Fine.loadV {D : HpD} (h : Fine D) (k : Nat) (i : Int) : 0 ≤ loadV D k i ∧ loadV D k i < 18446744073709551616 := by
  unfold Go.Proofs.Ytpnfbabiibopnaa.loadV
  split
  · exact h.wordAt k i
  · omega
theorem u64_wrap_in (a : Int) : 0 ≤ IntKind.u64.wrap a ∧ IntKind.u64.wrap a < 18446744073709551616 := by
  have : IntKind.u64.wrap a = a % 18446744073709551616 := by simp [IntKind.wrap, IntKind.bits, IntKind.signed]
  omega
theorem Fine.does {D : HpD} (h : Fine D) {x : ActD} (hx : x.fits) : Fine (doN D x) := by
  obtain ⟨-, -, -, -, hn, ht⟩ := hx
  unfold doN
  split
  · unfold actN
    split
    · unfold loadD; split
      · exact h
      · exact h.fault
    split
    · unfold storeD; split
      · exact h.word _ _ hn
      · exact h.fault
    split
    · unfold swapD; split
      · split
        · exact h.word _ _ hn
        · exact h
      · exact h.fault
    split
    · unfold bumpD; split
      · exact h.word _ _ (u64_wrap_in _)
      · exact h.fault
    split
    · exact h.made ht
    split
    · unfold wordsD; split
      · exact h
      · exact h.fault
    split
    · unfold dropD; split
      · exact h.lose _
      · exact h.fault
    split
    · exact h.lock _
    split
    · unfold unlockD; split
      · exact h.lock _
      · exact h.fault
    · exact h
  · exact h
theorem Fine.good {D : HpD} (h : Fine D) (hl : D.L.length ≤ 1000000) (x : ActD) : Good (doW D x) (doT D x) := by
  refine ⟨?_, ?_⟩
  · unfold doW
    split
    · unfold actW
      split
      · exact h.loadV _ _
      split
      · unfold makeV; split <;> omega
      split
      · split <;> omega
      · omega
    · omega
  · unfold doT
    split
    · unfold actT
      split
      · unfold textAt
        split
        · exact Nat.zero_le _
        · rename_i b hb
          exact (h.at hb).2
      · exact Nat.zero_le _
    · exact Nat.zero_le _
/-- Few blocks, few faults: so many acts may be done yet. -/
structure FewD (D : HpD) (n : Nat) : Prop where
  faults : D.faults + n ≤ 900000
  blocks : D.L.length + n ≤ 900000
  fine : Fine D
theorem FewD.does {D : HpD} {n : Nat} (h : FewD D (n + 1)) {x : ActD} (hx : x.fits) : FewD (doN D x) n := by
  obtain ⟨h1, h2⟩ := do_nigh D x
  exact ⟨by have := h.faults; omega, by have := h.blocks; omega, h.fine.does hx⟩
theorem FewD.mono {D : HpD} {n m : Nat} (h : FewD D n) (hm : m ≤ n) : FewD D m := ⟨by have := h.faults; omega, by have := h.blocks; omega, h.fine⟩

/-- Blocks that lie as they lay, none of them the heap's. -/
def Keeps (l : List (Nat × Obj)) (f : Nat → Prop) (X : World) : Prop := ∀ q ∈ l, X.heap[q.1]? = some q.2 ∧ ¬ f q.1
section
variable {l : List (Nat × Obj)} {f f1 : Nat → Prop} {X Y : World}
theorem Keeps.nil : Keeps [] f X := fun _ h => by cases h
theorem Keeps.turn (h : Keeps l f X) (s : Step f f1 X Y) : Keeps l f1 Y := fun q hq =>
  ⟨(s.block _ (heap_at_lt (h q hq).1) (h q hq).2).trans (h q hq).1, s.off (heap_at_lt (h q hq).1) (h q hq).2⟩
theorem Keeps.below (h : Keeps l f X) (hb : Below X.heap.size X Y) : Keeps l f Y := fun q hq =>
  ⟨(hb.block _ (heap_at_lt (h q hq).1)).trans (h q hq).1, (h q hq).2⟩
theorem Keeps.add (h : Keeps l f X) (hlt : ∀ k, f k → k < X.heap.size) (o : Obj) : Keeps ((X.heap.size, o) :: l) f (X.alloc o) := fun q hq => by
  rcases List.mem_cons.1 hq with rfl | hq
  · exact ⟨World.alloc_heap_new X o, fun hf => absurd (hlt _ hf) (Nat.lt_irrefl _)⟩
  · exact h.below (below_alloc X o) q hq
theorem Keeps.cell {n i : Nat} {cs : Array Value} {t : TypeId} (h : Keeps l f X) (hm : (n, Obj.cells cs t (0, 0)) ∈ l) : X.cell? ⟨n, i, none⟩ = cs[i]? := cell_of (h _ hm).1
end

/-- A step: an act, and what it was answered. -/
structure StepD where
  act : ActD
  w : Int
  t : ByteArray
abbrev stepV (who : Int) (s : StepD) : Value := .agg #[.int .i64 who, .int .i64 s.act.kind, .int .u64 (s.act.block : Int), .int .i64 s.act.cell, .int .u64 s.act.old, .int .u64 s.act.new, .string s.act.text, .int .u64 s.w, .string s.t]
abbrev zeroS : Value := .agg #[.int .i64 0, .int .i64 0, .int .u64 0, .int .i64 0, .int .u64 0, .int .u64 0, .string ⟨#[]⟩, .int .u64 0, .string ⟨#[]⟩]
/-- A heap and where a routine stands. -/
structure PmS (σ : Type) where
  D : HpD
  s : σ
section
variable {σ : Type}
def stepM (M : Mach σ) (S : PmS σ) : Option StepD := match M.next S.s with | some x => if readyA S.D x then some ⟨x, doW S.D x, doT S.D x⟩ else none | none => none
def nextM (M : Mach σ) (S : PmS σ) : PmS σ := match M.next S.s with | some x => ⟨doN S.D x, M.take S.s (doW S.D x) (doT S.D x)⟩ | none => S
theorem stepM_some {M : Mach σ} {S : PmS σ} {x : StepD} (h : stepM M S = some x) : ∃ y, M.next S.s = some y ∧ x = ⟨y, doW S.D y, doT S.D y⟩ ∧ readyA S.D y = true := by
  unfold stepM at h
  split at h
  · rename_i y hy
    split at h
    · rename_i hr
      exact ⟨y, hy, (Option.some.inj h).symm, hr⟩
    · cases h
  · cases h
theorem nextM_some {M : Mach σ} {S : PmS σ} {x : ActD} (h : M.next S.s = some x) : nextM M S = ⟨doN S.D x, M.take S.s (doW S.D x) (doT S.D x)⟩ := by
  unfold nextM; rw [h]

/-- A heap at p, and a routine at r beside it; what they write to are f's blocks; n acts may be done yet. -/
def PlM (M : Mach σ) (W : World) (B p r : Nat) (S : PmS σ) (n : Nat) (f : Nat → Prop) : Prop :=
  ∃ fh fr, Hp W B p S.D fh ∧ M.At W B r S.s fr ∧ (∀ j, fh j → ¬ fr j) ∧ f = (fun j => fh j ∨ fr j) ∧ FewD S.D n
variable {M : Mach σ} {W W' : World} {B p r n : Nat} {S : PmS σ} {f : Nat → Prop}
theorem PlM.lt (h : PlM M W B p r S n f) : ∀ k, f k → k < W.heap.size := by
  obtain ⟨fh, fr, h1, h2, -, rfl, -⟩ := h
  exact fun k hk => hk.elim (h1.lt k) (M.lt h2 k)
theorem PlM.size (h : PlM M W B p r S n f) : B ≤ W.heap.size := by obtain ⟨fh, fr, h1, _⟩ := h; exact h1.size
theorem PlM.base (h : PlM M W B p r S n f) : ∀ k, k < B → ¬ f k := by
  obtain ⟨fh, fr, h1, h2, -, rfl, -⟩ := h
  exact fun k hk hf => hf.elim (h1.base k hk) (fun h3 => by have := M.base h2 k h3; omega)
theorem PlM.stays (h : PlM M W B p r S n f) (hs : ∀ k, f k → W'.heap[k]? = W.heap[k]?) : PlM M W' B p r S n f := by
  obtain ⟨fh, fr, h1, h2, h3, rfl, h4⟩ := h
  exact ⟨fh, fr, h1.stays (fun k hk => hs k (.inl hk)), M.stays h2 (fun k hk => hs k (.inr hk)), h3, rfl, h4⟩
theorem PlM.below (h : PlM M W B p r S n f) (hb : Below W.heap.size W W') : PlM M W' B p r S n f := h.stays (fun k hk => hb.block k (h.lt k hk))
theorem PlM.mono (h : PlM M W B p r S n f) {m : Nat} (hm : m ≤ n) : PlM M W B p r S m f := by
  obtain ⟨fh, fr, h1, h2, h3, h4, h5⟩ := h
  exact ⟨fh, fr, h1, h2, h3, h4, h5.mono hm⟩
theorem step_or {f f' : Nat → Prop} {A B : World} (p : Step f f' A B) (O : Nat → Prop) : Step (fun k => f k ∨ O k) (fun k => f' k ∨ O k) A B :=
  ⟨p.os, p.tape, p.output, p.size, fun k hk h => p.block k hk (fun hf => h (.inl hf)), fun k hk => hk.elim (fun h => (p.foot k h).elim (fun h => .inl (.inl h)) .inr) (fun h => .inl (.inr h))⟩
theorem step_or' {f f' : Nat → Prop} {A B : World} (p : Step f f' A B) (O : Nat → Prop) : Step (fun k => O k ∨ f k) (fun k => O k ∨ f' k) A B :=
  ⟨p.os, p.tape, p.output, p.size, fun k hk h => p.block k hk (fun hf => h (.inr hf)), fun k hk => hk.elim (fun h => .inl (.inl h)) (fun h => (p.foot k h).elim (fun h => .inl (.inr h)) .inr)⟩
theorem plm_ask (h : PlM M W B p r S n f) : Calls Try.prog 35 #[rowV M.tid r] W fun e W' => e = .returned (.tuple #[actOf ((M.next S.s).getD noAct), .bool (M.next S.s).isSome, .bool true]) ∧ Below W.heap.size W W' := by
  obtain ⟨fh, fr, h1, h2, h3, rfl, h4⟩ := h
  exact ask_any W M.tid M.fA r _ _ M.metA M.entA (Lib.hid fun X hX => M.act (Mach.below h2 hX))
/-- What a call leaves that turns the heap or the routine. -/
def PmR (M : Mach σ) (B p r : Nat) (S' : PmS σ) (n : Nat) (v : Value) (f : Nat → Prop) (W : World) (e : Ending) (W' : World) : Prop := ∃ f', e = .returned v ∧ PlM M W' B p r S' n f' ∧ Step f f' W W'
theorem plm_ready (h : PlM M W B p r S n f) (x : ActD) (hx : x.fits) : Calls Try.prog 41 #[.pointer (some ⟨p, 0, none⟩), actOf x] W (PmR M B p r S n (.bool (readyA S.D x)) f W) := by
  obtain ⟨fh, fr, h1, h2, h3, rfl, h4⟩ := h
  refine (ready_any W h1 (by have := h4.faults; omega) x hx).mono fun e W' he => ?_
  obtain ⟨f', rfl, hp, hs⟩ := he
  exact ⟨_, rfl, ⟨f', fr, hp, M.stays h2 (fun j hj => hs.block j (M.lt h2 j hj) (fun hf => h3 j hf hj)), fun j hj hj' => (hs.foot j hj).elim (fun hf => h3 j hf hj') (fun hge => by have := M.lt h2 j hj'; omega), rfl, h4⟩, step_or hs fr⟩
/-- Behind the heap's turn, ahead of the routine's. -/
def MidM (M : Mach σ) (W : World) (B p r : Nat) (S : PmS σ) (D : HpD) (n : Nat) (f : Nat → Prop) : Prop :=
  ∃ fh fr, Hp W B p D fh ∧ M.At W B r S.s fr ∧ (∀ j, fh j → ¬ fr j) ∧ f = (fun j => fh j ∨ fr j) ∧ FewD D n
theorem MidM.below {D : HpD} (h : MidM M W B p r S D n f) (hb : Below W.heap.size W W') : MidM M W' B p r S D n f := by
  obtain ⟨fh, fr, h1, h2, h3, rfl, h4⟩ := h
  exact ⟨fh, fr, h1.below hb, Mach.below h2 hb, h3, rfl, h4⟩
theorem MidM.lt {D : HpD} (h : MidM M W B p r S D n f) : ∀ k, f k → k < W.heap.size := by
  obtain ⟨fh, fr, h1, h2, -, rfl, -⟩ := h
  exact fun k hk => hk.elim (h1.lt k) (M.lt h2 k)
theorem plm_do (h : PlM M W B p r S (n + 1) f) (x : ActD) (hx : x.fits) : Calls Try.prog 21 #[.pointer (some ⟨p, 0, none⟩), actOf x] W (fun e W' => ∃ f', e = .returned (gotV (doW S.D x) (doT S.D x)) ∧ MidM M W' B p r S (doN S.D x) n f' ∧ Step f f' W W') := by
  obtain ⟨fh, fr, h1, h2, h3, rfl, h4⟩ := h
  refine (do_any W h1 (by have := h4.faults; omega) (by have := h4.blocks; omega) x hx).mono fun e W' he => ?_
  obtain ⟨f', rfl, hp, hs⟩ := he
  exact ⟨_, rfl, ⟨f', fr, hp, M.stays h2 (fun j hj => hs.block j (M.lt h2 j hj) (fun hf => h3 j hf hj)), fun j hj hj' => (hs.foot j hj).elim (fun hf => h3 j hf hj') (fun hge => by have := M.lt h2 j hj'; omega), rfl, h4.does hx⟩, step_or hs fr⟩
theorem plm_hand {D : HpD} (h : MidM M W B p r S D n f) (hs : (M.next S.s).isSome = true) {w : Int} {t : ByteArray} (hg : Good w t) : Calls Try.prog 42 #[.func (.method "Take") #[rowV M.tid r] #[], gotV w t] W (PmR M B p r ⟨D, M.take S.s w t⟩ n (.tuple #[]) f W) := by
  obtain ⟨fh, fr, h1, h2, h3, rfl, h4⟩ := h
  refine (hand_any (R := fun W' => ∃ f', M.At W' B r (M.take S.s w t) f' ∧ Step fr f' W W') W M.tid M.fT r M.metT M.entT w t (Lib.hid fun X hX => (M.takes (Mach.below h2 hX) hs hg).mono fun e W' he => ?_)).mono fun e W' he => ?_
  · obtain ⟨f', rfl, ha, hst⟩ := he
    exact ⟨rfl, f', ha, (Step.of_below hX).trans hst⟩
  · obtain ⟨rfl, f', ha, hst⟩ := he
    exact ⟨_, rfl, ⟨fh, f', h1.stays (fun j hj => hst.block j (h1.lt j hj) (h3 j hj)), ha, fun j hj hj' => (hst.foot j hj').elim (fun hf => h3 j hj hf) (fun hge => by have := h1.lt j hj; omega), rfl, h4⟩, step_or' hst fh⟩
end

theorem set9 {X : World} {n : Nat} {t : TypeId} {a0 a1 a2 a3 a4 a5 a6 a7 a8 : Value} (h : X.heap[n]? = some (.cells #[a0, a1, a2, a3, a4, a5, a6, a7, a8] t (0, 0))) (v0 v1 v2 v3 v4 v5 v6 v7 v8 : Value) :
    (((((((((X.setCell ⟨n, 0, none⟩ v0).setCell ⟨n, 1, none⟩ v1).setCell ⟨n, 2, none⟩ v2).setCell ⟨n, 3, none⟩ v3).setCell ⟨n, 4, none⟩ v4).setCell ⟨n, 5, none⟩ v5).setCell ⟨n, 6, none⟩ v6).setCell ⟨n, 7, none⟩ v7).setCell ⟨n, 8, none⟩ v8).heap[n]? = some (.cells #[v0, v1, v2, v3, v4, v5, v6, v7, v8] t (0, 0)) := by
  have e0 := heap_setAt (o := 0) (u := v0) h
  have e1 := heap_setAt (o := 1) (u := v1) e0
  have e2 := heap_setAt (o := 2) (u := v2) e1
  have e3 := heap_setAt (o := 3) (u := v3) e2
  have e4 := heap_setAt (o := 4) (u := v4) e3
  have e5 := heap_setAt (o := 5) (u := v5) e4
  have e6 := heap_setAt (o := 6) (u := v6) e5
  have e7 := heap_setAt (o := 7) (u := v7) e6
  have e8 := heap_setAt (o := 8) (u := v8) e7
  simp only [List.setIfInBounds_toArray, List.set_cons_zero, List.set_cons_succ] at e8
  exact e8
theorem below9 {W X : World} {n : Nat} (h : Below W.heap.size W X) (hn : W.heap.size ≤ n) (v0 v1 v2 v3 v4 v5 v6 v7 v8 : Value) :
    Below W.heap.size W (((((((((X.setCell ⟨n, 0, none⟩ v0).setCell ⟨n, 1, none⟩ v1).setCell ⟨n, 2, none⟩ v2).setCell ⟨n, 3, none⟩ v3).setCell ⟨n, 4, none⟩ v4).setCell ⟨n, 5, none⟩ v5).setCell ⟨n, 6, none⟩ v6).setCell ⟨n, 7, none⟩ v7).setCell ⟨n, 8, none⟩ v8) :=
  ((((((((h.setCell hn v0).setCell hn v1).setCell hn v2).setCell hn v3).setCell hn v4).setCell hn v5).setCell hn v6).setCell hn v7).setCell hn v8
theorem load_nine {X : World} {n : Nat} {k0 k1 k2 k3 k4 k7 w : Int} {s t : ByteArray} (h : X.heap[n]? = some (.cells #[.int .i64 k0, .int .i64 k1, .int .u64 k2, .int .i64 k3, .int .u64 k4, .int .u64 k7, .string s, .int .u64 w, .string t] 65 (0, 0))) :
    (loadVar 65 ⟨n, 0, none⟩).run Try.prog X = .ok (.agg #[.int .i64 k0, .int .i64 k1, .int .u64 k2, .int .i64 k3, .int .u64 k4, .int .u64 k7, .string s, .int .u64 w, .string t]) X := by
  have m0 := (cell_of (i := 0) h).trans rfl
  have m1 := (cell_of (i := 1) h).trans rfl
  have m2 := (cell_of (i := 2) h).trans rfl
  have m3 := (cell_of (i := 3) h).trans rfl
  have m4 := (cell_of (i := 4) h).trans rfl
  have m5 := (cell_of (i := 5) h).trans rfl
  have m6 := (cell_of (i := 6) h).trans rfl
  have m7 := (cell_of (i := 7) h).trans rfl
  have m8 := (cell_of (i := 8) h).trans rfl
  go_simp
theorem nine_at {X : World} {n : Nat} {t : TypeId} {a0 a1 a2 a3 a4 a5 a6 a7 a8 : Value} (h : X.heap[n]? = some (.cells #[a0, a1, a2, a3, a4, a5, a6, a7, a8] t (0, 0))) :
    (X.cell? ⟨n, 0, none⟩ = some a0 ∧ X.cell? ⟨n, 1, none⟩ = some a1 ∧ X.cell? ⟨n, 2, none⟩ = some a2 ∧ X.cell? ⟨n, 3, none⟩ = some a3 ∧ X.cell? ⟨n, 4, none⟩ = some a4 ∧ X.cell? ⟨n, 5, none⟩ = some a5 ∧ X.cell? ⟨n, 6, none⟩ = some a6 ∧ X.cell? ⟨n, 7, none⟩ = some a7 ∧ X.cell? ⟨n, 8, none⟩ = some a8) ∧
    (X.frozen? ⟨n, 0, none⟩ = false ∧ X.frozen? ⟨n, 1, none⟩ = false ∧ X.frozen? ⟨n, 2, none⟩ = false ∧ X.frozen? ⟨n, 3, none⟩ = false ∧ X.frozen? ⟨n, 4, none⟩ = false ∧ X.frozen? ⟨n, 5, none⟩ = false ∧ X.frozen? ⟨n, 6, none⟩ = false ∧ X.frozen? ⟨n, 7, none⟩ = false ∧ X.frozen? ⟨n, 8, none⟩ = false) := by
  refine ⟨⟨(cell_of h).trans rfl, (cell_of h).trans rfl, (cell_of h).trans rfl, (cell_of h).trans rfl, (cell_of h).trans rfl, (cell_of h).trans rfl, (cell_of h).trans rfl, (cell_of h).trans rfl, (cell_of h).trans rfl⟩, ?_⟩
  simp [World.frozen?, h]
theorem next_end {X : World} {n : Nat} {T : Array Value} {v : Value} {b : Bool} {R : Ending → World → Prop} (hX : (loadVar 65 ⟨n, 0, none⟩).run Try.prog X = .ok v X) (h4 : T.getD 4 undef = .pointer (some ⟨n, 0, none⟩)) (h5 : T.getD 5 undef = .bool b)
    (hR : R (.returned (.tuple #[v, .bool b])) X) : bodyPost Try.prog Try.f20 R .ret { tmps := T, defers := [] } X :=
  bodyPost_ret (by rw [results_cell2 (by rfl), h4, h5]; simp only [asAddr, Sem.run_pure, Result.andThen_ok, hX]) rfl hR
abbrev zeroO : Obj := .cells #[.int .i64 0, .int .i64 0, .int .u64 0, .int .i64 0, .int .u64 0, .int .u64 0, .string ⟨#[]⟩, .int .u64 0, .string ⟨#[]⟩] 65 (0, 0)

theorem Step.own9 {f f' : Nat → Prop} {W X : World} {n : Nat} (h : Step f f' W X) (hn : W.heap.size ≤ n) (v0 v1 v2 v3 v4 v5 v6 v7 v8 : Value) :
    Step f f' W (((((((((X.setCell ⟨n, 0, none⟩ v0).setCell ⟨n, 1, none⟩ v1).setCell ⟨n, 2, none⟩ v2).setCell ⟨n, 3, none⟩ v3).setCell ⟨n, 4, none⟩ v4).setCell ⟨n, 5, none⟩ v5).setCell ⟨n, 6, none⟩ v6).setCell ⟨n, 7, none⟩ v7).setCell ⟨n, 8, none⟩ v8) :=
  (((((((((h.own hn).own hn).own hn).own hn).own hn).own hn).own hn).own hn).own hn)
theorem heap9 {X : World} {n k : Nat} (hk : k ≠ n) (v0 v1 v2 v3 v4 v5 v6 v7 v8 : Value) :
    (((((((((X.setCell ⟨n, 0, none⟩ v0).setCell ⟨n, 1, none⟩ v1).setCell ⟨n, 2, none⟩ v2).setCell ⟨n, 3, none⟩ v3).setCell ⟨n, 4, none⟩ v4).setCell ⟨n, 5, none⟩ v5).setCell ⟨n, 6, none⟩ v6).setCell ⟨n, 7, none⟩ v7).setCell ⟨n, 8, none⟩ v8).heap[k]? = X.heap[k]? := by
  rw [Below.heap_setCell _ _ _ _ hk, Below.heap_setCell _ _ _ _ hk, Below.heap_setCell _ _ _ _ hk, Below.heap_setCell _ _ _ _ hk, Below.heap_setCell _ _ _ _ hk, Below.heap_setCell _ _ _ _ hk, Below.heap_setCell _ _ _ _ hk, Below.heap_setCell _ _ _ _ hk, Below.heap_setCell _ _ _ _ hk]
theorem PlM.nine {σ : Type} {M : Mach σ} {X : World} {B p r n c : Nat} {S : PmS σ} {f : Nat → Prop} (h : PlM M X B p r S n f) (hn : ¬ f c) (v0 v1 v2 v3 v4 v5 v6 v7 v8 : Value) :
    PlM M (((((((((X.setCell ⟨c, 0, none⟩ v0).setCell ⟨c, 1, none⟩ v1).setCell ⟨c, 2, none⟩ v2).setCell ⟨c, 3, none⟩ v3).setCell ⟨c, 4, none⟩ v4).setCell ⟨c, 5, none⟩ v5).setCell ⟨c, 6, none⟩ v6).setCell ⟨c, 7, none⟩ v7).setCell ⟨c, 8, none⟩ v8) B p r S n f :=
  h.stays (fun k hk => heap9 (fun e => hn (by subst e; exact hk)) _ _ _ _ _ _ _ _ _)

section
variable {σ : Type} {M : Mach σ} {W : World} {B p r n : Nat} {S : PmS σ} {f : Nat → Prop}
set_option maxRecDepth 100000 in
set_option maxHeartbeats 4000000 in
theorem mnext_done (h : PlM M W B p r S n f) (hk : M.next S.s = none) :
    Calls Try.prog 20 #[.pointer (some ⟨p, 0, none⟩), rowV M.tid r] W (PmR M B p r S n (.tuple #[zeroS, .bool false]) f W) := by
  have HA := Lib.hid (fun X (hX : Below W.heap.size W X) => (by have := plm_ask (h.below hX); rw [hk] at this; exact this :
    Calls Try.prog 35 #[rowV M.tid r] X fun e W' => e = .returned (.tuple #[zeroV, .bool false, .bool true]) ∧ Below X.heap.size X W'))
  have HH := Lib.hid h
  have HB := Lib.hid (below_alloc W zeroO)
  have HN := Lib.hid (World.alloc_heap_new W zeroO)
  obtain ⟨tid, htid⟩ : ∃ t, M.tid = t := ⟨_, rfl⟩
  rw [htid] at HA ⊢
  clear h hk htid
  go_enter Try.func20, Try.ntmps20
  go_wp2_with fail
  refine (HA.out _ HB.out).mono ?_
  rintro en w1 ⟨rfl, hb⟩
  have HB1 := Lib.hid (HB.out.trans (hb.mono HB.out.size))
  have HN1 := Lib.hid ((hb.block _ (heap_at_lt HN.out)).trans HN.out)
  clear hb
  have HB2 := Lib.hid (HB1.out.trans ((below_alloc w1 noO).mono HB1.out.size))
  have HN2 := Lib.hid (((below_alloc w1 noO).block _ (heap_at_lt HN1.out)).trans HN1.out)
  obtain ⟨⟨m0, m1, m2, m3, m4, m5, m6, m7, m8⟩, z0, z1, z2, z3, z4, z5, z6, z7, z8⟩ := nine_at HN2.out
  go_wp2_with fail
  refine next_end (load_nine (set9 HN2.out _ _ _ _ _ _ _ _ _)) rfl rfl ⟨f, rfl, ?_, ?_⟩
  · exact HH.out.below (below9 HB2.out (Nat.le_refl _) _ _ _ _ _ _ _ _ _)
  · exact Step.of_below (below9 HB2.out (Nat.le_refl _) _ _ _ _ _ _ _ _ _)

set_option maxRecDepth 100000 in
set_option maxHeartbeats 4000000 in
theorem mnext_wait (h : PlM M W B p r S n f) {x : ActD} (hk : M.next S.s = some x) (hx : x.fits) (hr : readyA S.D x = false) :
    Calls Try.prog 20 #[.pointer (some ⟨p, 0, none⟩), rowV M.tid r] W (PmR M B p r S n (.tuple #[zeroS, .bool false]) f W) := by
  have HA := Lib.hid (fun X (hX : Below W.heap.size W X) => (by have := plm_ask (h.below hX); rw [hk] at this; exact this :
    Calls Try.prog 35 #[rowV M.tid r] X fun e W' => e = .returned (.tuple #[actOf x, .bool true, .bool true]) ∧ Below X.heap.size X W'))
  have HR := Lib.hid (fun X (hX : Below W.heap.size W X) => (by have := plm_ready (h.below hX) x hx; rw [hr] at this; exact this :
    Calls Try.prog 41 #[.pointer (some ⟨p, 0, none⟩), actOf x] X (PmR M B p r S n (.bool false) f X)))
  have HB := Lib.hid (below_alloc W zeroO)
  have HK := Lib.hid ((Keeps.nil (X := W) (f := f)).add h.lt zeroO)
  have HLt := Lib.hid h.lt
  obtain ⟨tid, htid⟩ : ∃ t, M.tid = t := ⟨_, rfl⟩
  rw [htid] at HA ⊢
  clear h hk hx hr htid
  go_enter Try.func20, Try.ntmps20
  go_wp2_with fail
  refine (HA.out _ HB.out).mono ?_
  rintro en w1 ⟨rfl, hb⟩
  have HB1 := Lib.hid (HB.out.trans (hb.mono HB.out.size))
  have HK1 := Lib.hid ((HK.out.below hb).add (fun k hk => Nat.lt_of_lt_of_le (HLt.out k hk) (HB1.out.size)) (actO x))
  have HB2 := Lib.hid (HB1.out.trans ((below_alloc w1 (actO x)).mono HB1.out.size))
  clear hb
  go_wp2_with fail
  refine (HR.out _ HB2.out).mono ?_
  rintro en w2 ⟨f2, rfl, h2, s2⟩
  have HK2 := Lib.hid (HK1.out.turn s2)
  have H2 := Lib.hid h2
  have S2 := Lib.hid ((Step.of_below HB2.out).trans s2)
  clear h2 s2
  obtain ⟨⟨m0, m1, m2, m3, m4, m5, m6, m7, m8⟩, z0, z1, z2, z3, z4, z5, z6, z7, z8⟩ := nine_at (HK2.out _ (.tail _ (.head _))).1
  go_wp2_with fail
  refine next_end (load_nine (set9 (HK2.out _ (.tail _ (.head _))).1 _ _ _ _ _ _ _ _ _)) rfl rfl ⟨f2, rfl, ?_, ?_⟩
  · exact H2.out.nine (HK2.out _ (.tail _ (.head _))).2 _ _ _ _ _ _ _ _ _
  · exact S2.out.own9 (Nat.le_refl _) _ _ _ _ _ _ _ _ _

set_option maxRecDepth 100000 in
set_option maxHeartbeats 4000000 in
theorem mnext_go (h : PlM M W B p r S (n + 1) f) {x : ActD} (hk : M.next S.s = some x) (hx : x.fits) (hr : readyA S.D x = true) :
    Calls Try.prog 20 #[.pointer (some ⟨p, 0, none⟩), rowV M.tid r] W (PmR M B p r ⟨doN S.D x, M.take S.s (doW S.D x) (doT S.D x)⟩ n (.tuple #[stepV 0 ⟨x, doW S.D x, doT S.D x⟩, .bool true]) f W) := by
  have HA := Lib.hid (fun X (hX : Below W.heap.size W X) => (by have := plm_ask (h.below hX); rw [hk] at this; exact this :
    Calls Try.prog 35 #[rowV M.tid r] X fun e W' => e = .returned (.tuple #[actOf x, .bool true, .bool true]) ∧ Below X.heap.size X W'))
  have HR := Lib.hid (fun X (hX : Below W.heap.size W X) => (by have := plm_ready (h.below hX) x hx; rw [hr] at this; exact this :
    Calls Try.prog 41 #[.pointer (some ⟨p, 0, none⟩), actOf x] X (PmR M B p r S (n + 1) (.bool true) f X)))
  have HD := Lib.hid (fun X g (hX : PlM M X B p r S (n + 1) g) => plm_do hX x hx)
  have hgd : Good (doW S.D x) (doT S.D x) := by
    obtain ⟨fh, fr, h1, h2, h3, rfl, h4⟩ := h
    exact h4.fine.good (by have := h4.blocks; omega) x
  have HG := Lib.hid (fun X g (hX : MidM M X B p r S (doN S.D x) n g) => plm_hand hX (by rw [hk]; rfl) hgd)
  have HB := Lib.hid (below_alloc W zeroO)
  have HK := Lib.hid ((Keeps.nil (X := W) (f := f)).add h.lt zeroO)
  have HLt := Lib.hid h.lt
  have hmix : Try.prog.follows .mixedOrders = true := by kernel_rfl
  obtain ⟨w, hw⟩ : ∃ w, doW S.D x = w := ⟨_, rfl⟩
  obtain ⟨t, ht⟩ : ∃ t, doT S.D x = t := ⟨_, rfl⟩
  rw [hw, ht] at HD HG ⊢
  obtain ⟨tid, htid⟩ : ∃ t, M.tid = t := ⟨_, rfl⟩
  rw [htid] at HA HG ⊢
  clear h hk hx hr hw ht hgd htid
  go_enter Try.func20, Try.ntmps20
  go_wp2_with fail
  refine (HA.out _ HB.out).mono ?_
  rintro en w1 ⟨rfl, hb⟩
  have HB1 := Lib.hid (HB.out.trans (hb.mono HB.out.size))
  have HK1 := Lib.hid ((HK.out.below hb).add (fun k hk => Nat.lt_of_lt_of_le (HLt.out k hk) (HB1.out.size)) (actO x))
  have HB2 := Lib.hid (HB1.out.trans ((below_alloc w1 (actO x)).mono HB1.out.size))
  clear hb
  go_wp2_with fail
  refine (HR.out _ HB2.out).mono ?_
  rintro en w2 ⟨f2, rfl, h2, s2⟩
  have HK2 := Lib.hid (HK1.out.turn s2)
  have H2 := Lib.hid h2
  have S2 := Lib.hid ((Step.of_below HB2.out).trans s2)
  clear h2 s2
  obtain ⟨a0, a1, a2, a3, a4, a5⟩ := six_at (HK2.out _ (.head _)).1
  go_wp2_with fail
  refine (HD.out _ _ H2.out).mono ?_
  rintro en w3 ⟨f3, rfl, h3, s3⟩
  have HK3 := Lib.hid ((HK2.out.turn s3).add h3.lt (gotO w t))
  have H3 := Lib.hid (h3.below (below_alloc w3 (gotO w t)))
  have S3 := Lib.hid ((S2.out.trans s3).trans (Step.of_below (below_alloc w3 (gotO w t))))
  clear h3 s3 a0 a1 a2 a3 a4 a5
  obtain ⟨g0, g1⟩ := two_at (HK3.out _ (.head _)).1
  go_wp2_with fail
  generalize w3.alloc (gotO w t) = w4 at HK3 H3 S3 g0 g1 ⊢
  go_still_tail 4, hmix
  change wpList _ _ _ _ _ w4.drew
  have HK4 := Lib.hid (HK3.out.below (below_drew w4))
  have H4 := Lib.hid (H3.out.below (below_drew w4))
  have S4 := Lib.hid (S3.out.trans (Step.of_below (below_drew w4)))
  clear g0 g1
  go_wp2_with fail
  refine (HG.out _ _ H4.out).mono ?_
  rintro en w5 ⟨f5, rfl, h5, s5⟩
  have HK5 := Lib.hid (HK4.out.turn s5)
  have H5 := Lib.hid h5
  have S5 := Lib.hid (S4.out.trans s5)
  clear h5 s5
  obtain ⟨g0, g1⟩ := two_at (HK5.out _ (.head _)).1
  obtain ⟨a0, a1, a2, a3, a4, a5⟩ := six_at (HK5.out _ (.tail _ (.head _))).1
  obtain ⟨⟨m0, m1, m2, m3, m4, m5, m6, m7, m8⟩, z0, z1, z2, z3, z4, z5, z6, z7, z8⟩ := nine_at (HK5.out _ (.tail _ (.tail _ (.head _)))).1
  go_wp2_with fail
  refine next_end (load_nine (set9 (HK5.out _ (.tail _ (.tail _ (.head _)))).1 _ _ _ _ _ _ _ _ _)) rfl rfl ⟨f5, rfl, ?_, ?_⟩
  · exact H5.out.nine (HK5.out _ (.tail _ (.tail _ (.head _)))).2 _ _ _ _ _ _ _ _ _
  · exact S5.out.own9 (Nat.le_refl _) _ _ _ _ _ _ _ _ _

theorem PlM.fits {x : ActD} (h : PlM M W B p r S n f) (hk : M.next S.s = some x) : x.fits := by
  obtain ⟨fh, fr, h1, h2, h3, rfl, h4⟩ := h
  exact M.fits h2 hk
/-- Next, of a routine. -/
theorem mnext_some (h : PlM M W B p r S (n + 1) f) {x : StepD} (hs : stepM M S = some x) :
    Calls Try.prog 20 #[.pointer (some ⟨p, 0, none⟩), rowV M.tid r] W (PmR M B p r (nextM M S) n (.tuple #[stepV 0 x, .bool true]) f W) := by
  obtain ⟨y, hk, rfl, hr⟩ := stepM_some hs
  rw [nextM_some hk]
  exact mnext_go h hk (h.fits hk) hr
theorem mnext_none (h : PlM M W B p r S n f) (hs : stepM M S = none) :
    Calls Try.prog 20 #[.pointer (some ⟨p, 0, none⟩), rowV M.tid r] W (PmR M B p r S n (.tuple #[zeroS, .bool false]) f W) := by
  cases hk : M.next S.s with
  | none => exact mnext_done h hk
  | some x =>
    refine mnext_wait h hk (h.fits hk) ?_
    unfold stepM at hs
    rw [hk] at hs
    simp only at hs
    split at hs
    · cases hs
    · rename_i hr; simpa using hr
end

end Go.Proofs.Ytpnfbabiibopnaa
