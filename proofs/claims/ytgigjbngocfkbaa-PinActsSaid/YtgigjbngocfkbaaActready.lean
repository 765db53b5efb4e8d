/-
  Ready: whether an act needs not wait.
-/
import Derived.Test.YtgigjbngocfkbaaActdo
import Derived.Deep.QuietTactic
import Derived.BigQuiet
namespace Go.Proofs.Ytgigjbngocfkbaa
open Go Go.RowKit
attribute [local go_sem ↓] Go.wp_at_zero Go.wp_at_succ

/-- Needs an act not wait? -/
def readyA (D : HpD) (x : ActD) : Bool := if rightA x then (if x.kind = 8 then !D.locked else if x.kind = 10 then (decide (x.cell < (sizeAt D.L x.block : Int)) && !(loadV D x.block x.cell == 0)) else true) else true
theorem load_there {D : HpD} {k : Nat} {i : Int} (h0 : 0 ≤ i) (h1 : i < (sizeAt D.L k : Int)) : spot D.L k i = 0 ∧ loadD D k i = D := by
  have hs : spot D.L k i = 0 := by
    unfold sizeAt at h1
    unfold spot
    cases hb : liveAt D.L k with
    | none => rw [hb] at h1; simp only at h1; omega
    | some b => rw [hb] at h1; simp only at h1 ⊢; rw [if_neg (by omega)]
  exact ⟨hs, by unfold loadD; rw [if_pos hs]⟩
theorem right_cell {x : ActD} (h : rightA x = true) : 0 ≤ x.cell := by
  unfold rightA at h
  simp only [Bool.and_eq_true, decide_eq_true_eq] at h
  exact h.1

set_option maxRecDepth 100000 in
set_option maxHeartbeats 4000000 in
theorem ready_any (W : World) {B p : Nat} {D : HpD} {f : Nat → Prop} (h : Hp W B p D f) (hf : D.faults < 1000000) (x : ActD) (hx : x.fits) :
    Calls Try.prog 44 #[.pointer (some ⟨p, 0, none⟩), actV x.kind x.block x.cell x.old x.new x.text] W (HpR B p f W (.bool (readyA D x)) D) := by
  have HR := Lib.hid (fun X => right_any x.kind x.block x.cell x.old x.new x.text X)
  have HH := Lib.hid h
  obtain ⟨k, b, c, o, n, t⟩ := x
  obtain ⟨-, hx2, -, -, -, -⟩ := hx
  simp only at hx2 HR ⊢
  have HA := Lib.hid (World.alloc_heap_new W (.cells #[.int .i64 k, .int .u64 (b : Int), .int .i64 c, .int .u64 o, .int .u64 n, .string t] 31))
  have HF := Lib.hid (And.intro hf hx2)
  cases hr : rightA ⟨k, b, c, o, n, t⟩ with
  | false =>
    have e1 : readyA D ⟨k, b, c, o, n, t⟩ = true := by unfold readyA; rw [hr]; rfl
    rw [e1]
    rw [hr] at HR
    clear h hf hx2 hr e1
    go_enter Try.func44, Try.ntmps44
    go_wp2_with fail
    refine (HR.out _).mono ?_
    rintro en w1 ⟨rfl, hb⟩
    have HB := Lib.hid ((below_alloc W _).trans (hb.mono (by simp)))
    clear hb
    go_wp2_with fail
    go_ret
    exact ⟨f, rfl, HH.out.below HB.out, Step.of_below HB.out⟩
  | true =>
    have hc0 := right_cell hr
    simp only at hc0
    rw [hr] at HR
    by_cases h8 : k = 8
    · subst h8
      have e1 : readyA D ⟨8, b, c, o, n, t⟩ = !D.locked := by unfold readyA; rw [hr]; rfl
      rw [e1]
      have HK := Lib.hid (fun X (hX : Hp X B p D f) => locked_any X hX)
      obtain ⟨l, hlk⟩ : ∃ l, D.locked = l := ⟨_, rfl⟩
      rw [hlk] at HK ⊢
      clear h hf hx2 hr e1 hlk hc0
      go_enter Try.func44, Try.ntmps44
      go_wp2_with fail
      refine (HR.out _).mono ?_
      rintro en w1 ⟨rfl, hb⟩
      have HB := Lib.hid ((below_alloc W _).trans (hb.mono (by simp)))
      have k0 : w1.cell? ⟨W.heap.size, 0, none⟩ = some (.int .i64 8) := (cell_of ((hb.block _ (heap_at_lt HA.out)).trans HA.out)).trans rfl
      clear hb
      go_wp2_with fail
      refine (HK.out _ (HH.out.below HB.out)).mono ?_
      rintro en w2 ⟨rfl, rfl⟩
      go_wp2_with fail
      go_ret
      exact ⟨f, rfl, HH.out.below HB.out, Step.of_below HB.out⟩
    · by_cases h10 : k = 10
      · subst h10
        have e1 : readyA D ⟨10, b, c, o, n, t⟩ = (decide (c < (sizeAt D.L b : Int)) && !(loadV D b c == 0)) := by unfold readyA; rw [hr]; rfl
        rw [e1]
        have HZ := Lib.hid (fun X (hX : Hp X B p D f) => (size_any X hX b hx2).mono fun _ _ hh => (And.intro hh.1 hh.2.symm))
        have HL := Lib.hid (fun X (hX : Hp X B p D f) => load_any X hX hf b hx2 c)
        by_cases hlt : c < (sizeAt D.L b : Int)
        · obtain ⟨hsp, hld⟩ := load_there hc0 hlt
          rw [hld, hsp] at HL
          have hge : decide ((sizeAt D.L b : Int) ≤ c) = false := decide_eq_false (by omega)
          have hlt' := decide_eq_true hlt
          rw [hlt']
          obtain ⟨z, hz⟩ : ∃ z, (sizeAt D.L b : Int) = z := ⟨_, rfl⟩
          rw [hz] at HZ hge hlt
          obtain ⟨v, hv⟩ : ∃ v, loadV D b c = v := ⟨_, rfl⟩
          rw [hv] at HL ⊢
          clear h hf hx2 hr e1 hz hsp hld hv hlt' h8
          go_enter Try.func44, Try.ntmps44
          go_wp2_with fail
          refine (HR.out _).mono ?_
          rintro en w1 ⟨rfl, hb⟩
          have HB := Lib.hid ((below_alloc W _).trans (hb.mono (by simp)))
          have k0 : w1.cell? ⟨W.heap.size, 0, none⟩ = some (.int .i64 10) := (cell_of ((hb.block _ (heap_at_lt HA.out)).trans HA.out)).trans rfl
          have k1 : w1.cell? ⟨W.heap.size, 1, none⟩ = some (.int .u64 (b : Int)) := (cell_of ((hb.block _ (heap_at_lt HA.out)).trans HA.out)).trans rfl
          have k2 : w1.cell? ⟨W.heap.size, 2, none⟩ = some (.int .i64 c) := (cell_of ((hb.block _ (heap_at_lt HA.out)).trans HA.out)).trans rfl
          clear hb
          go_wp2_with fail
          go_quiet (exact Calls.quiet_of_same (HZ.out _ (HH.out.below (HB.out.trans ((below_draws _ _).mono HB.out.size)))))
          go_wp2_with fail
          refine (HL.out _ (HH.out.below (HB.out.trans ((below_draws _ _).mono HB.out.size)))).mono ?_
          rintro en w2 ⟨f1, rfl, h1, s1⟩
          have H2 := Lib.hid h1
          have S2 := Lib.hid ((Step.of_below (HB.out.trans ((below_draws _ _).mono HB.out.size))).trans s1)
          clear h1 s1
          go_wp2_with fail
          go_ret
          exact ⟨f1, by rw [Bool.true_and]; rfl, H2.out, S2.out⟩
        · have hge : decide ((sizeAt D.L b : Int) ≤ c) = true := decide_eq_true (by omega)
          have hlt' := decide_eq_false hlt
          rw [hlt']
          obtain ⟨z, hz⟩ : ∃ z, (sizeAt D.L b : Int) = z := ⟨_, rfl⟩
          rw [hz] at HZ hge hlt
          clear h hf hx2 hr e1 hz HL hlt' h8
          go_enter Try.func44, Try.ntmps44
          go_wp2_with fail
          refine (HR.out _).mono ?_
          rintro en w1 ⟨rfl, hb⟩
          have HB := Lib.hid ((below_alloc W _).trans (hb.mono (by simp)))
          have k0 : w1.cell? ⟨W.heap.size, 0, none⟩ = some (.int .i64 10) := (cell_of ((hb.block _ (heap_at_lt HA.out)).trans HA.out)).trans rfl
          have k1 : w1.cell? ⟨W.heap.size, 1, none⟩ = some (.int .u64 (b : Int)) := (cell_of ((hb.block _ (heap_at_lt HA.out)).trans HA.out)).trans rfl
          have k2 : w1.cell? ⟨W.heap.size, 2, none⟩ = some (.int .i64 c) := (cell_of ((hb.block _ (heap_at_lt HA.out)).trans HA.out)).trans rfl
          clear hb
          go_wp2_with fail
          go_quiet (exact Calls.quiet_of_same (HZ.out _ (HH.out.below (HB.out.trans ((below_draws _ _).mono HB.out.size)))))
          go_wp2_with fail
          go_ret
          exact ⟨f, by simp, HH.out.below (HB.out.trans ((below_draws _ _).mono HB.out.size)), Step.of_below (HB.out.trans ((below_draws _ _).mono HB.out.size))⟩
      · have e1 : readyA D ⟨k, b, c, o, n, t⟩ = true := by unfold readyA; rw [hr]; simp only [if_true]; rw [if_neg h8, if_neg h10]
        rw [e1]
        clear h hf hx2 hr e1 hc0

        go_enter Try.func44, Try.ntmps44
        go_wp2_with fail
        refine (HR.out _).mono ?_
        rintro en w1 ⟨rfl, hb⟩
        have HB := Lib.hid ((below_alloc W _).trans (hb.mono (by simp)))
        have k0 : w1.cell? ⟨W.heap.size, 0, none⟩ = some (.int .i64 k) := (cell_of ((hb.block _ (heap_at_lt HA.out)).trans HA.out)).trans rfl
        clear hb
        go_wp2_with fail
        go_ret
        exact ⟨f, rfl, HH.out.below HB.out, Step.of_below HB.out⟩

end Go.Proofs.Ytgigjbngocfkbaa
