/-
  Text, at every act.
-/
import Derived.Test.YtlgjolajnddpbaaDoorText
import Derived.Test.YtlgjolajnddpbaaDoorActdo
namespace Go.Proofs.YtlgjolajnddpbaaDoor
open Go Go.Shelf Go.RowKit
attribute [local go_sem ↓] Go.wp_at_zero Go.wp_at_succ

theorem right_text {x : ActD} (h : rightA x = true) : x.text.size ≤ 4096 := by
  unfold rightA at h
  simp only [Bool.and_eq_true, decide_eq_true_eq] at h
  omega
theorem right_cell' {x : ActD} (h : rightA x = true) : 0 ≤ x.cell := by
  unfold rightA at h
  simp only [Bool.and_eq_true, decide_eq_true_eq] at h
  exact h.1
/-- An act that may be, its fields as naturals. -/
theorem right_nat {x : ActD} (hx : x.fits) (h : rightA x = true) : ∃ cn on nn : Nat, x.cell = (cn : Int) ∧ x.old = (on : Int) ∧ x.new = (nn : Int) ∧ cn ≤ 9223372036854775807 ∧ on < 18446744073709551616 ∧ nn < 18446744073709551616 := by
  obtain ⟨-, -, h3, h4, h5, -⟩ := hx
  have h0 := right_cell' h
  exact ⟨x.cell.toNat, x.old.toNat, x.new.toNat, by omega, by omega, by omega, by omega, by omega, by omega⟩

set_option maxRecDepth 100000 in
set_option maxHeartbeats 1000000 in
theorem text_any (x : ActD) (hx : x.fits) (W : World) (hT : Tabs W) : Calls Tryd.prog 22 #[actV x.kind x.block x.cell x.old x.new x.text] W fun e W' => e = .returned (.string (textA x)) ∧ Below W.heap.size W W' := by
  cases hr : rightA x with
  | true =>
    have e1 : textA x = lineB (partsA x) := by unfold textA; rw [hr]; rfl
    rw [e1]
    have hk := right_kind hr
    have ht := right_text hr
    obtain ⟨cn, on, nn, h1, h2, h3, h4, h5, h6⟩ := right_nat hx hr
    have h7 := hx.2.1
    obtain ⟨k, b, c, o, n, t⟩ := x
    simp only at hk ht h1 h2 h3 h7
    subst h1 h2 h3
    clear e1 hx
    rcases hk with rfl | rfl | rfl | rfl | rfl | rfl | rfl | rfl | rfl | rfl | rfl
    · exact text_0 b cn on nn t W hT h7 h4 h5 h6 ht hr
    · exact text_1 b cn on nn t W hT h7 h4 h5 h6 ht hr
    · exact text_2 b cn on nn t W hT h7 h4 h5 h6 ht hr
    · exact text_3 b cn on nn t W hT h7 h4 h5 h6 ht hr
    · exact text_4 b cn on nn t W hT h7 h4 h5 h6 ht hr
    · exact text_5 b cn on nn t W hT h7 h4 h5 h6 ht hr
    · exact text_6 b cn on nn t W hT h7 h4 h5 h6 ht hr
    · exact text_7 b cn on nn t W hT h7 h4 h5 h6 ht hr
    · exact text_8 b cn on nn t W hT h7 h4 h5 h6 ht hr
    · exact text_9 b cn on nn t W hT h7 h4 h5 h6 ht hr
    · exact text_10 b cn on nn t W hT h7 h4 h5 h6 ht hr
  | false =>
    have e1 : textA x = ⟨#[]⟩ := by unfold textA; rw [hr]; rfl
    rw [e1]
    have HR := Lib.hid (fun X => right_any x.kind x.block x.cell x.old x.new x.text X)
    rw [hr] at HR
    obtain ⟨k, b, c, o, n, t⟩ := x
    simp only at HR ⊢
    clear hr hx e1 hT
    go_enter Tryd.func22, Tryd.ntmps22
    go_wp2_with fail
    refine (HR.out _).mono ?_
    rintro en w1 ⟨rfl, hb⟩
    have HB := Lib.hid ((below_alloc W _).trans (hb.mono (by simp)))
    clear hb
    go_wp2_with fail
    go_ret
    exact ⟨rfl, HB.out⟩

end Go.Proofs.YtlgjolajnddpbaaDoor
