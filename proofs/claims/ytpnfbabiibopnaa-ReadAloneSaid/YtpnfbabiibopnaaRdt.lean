/-
  read's routine: goOn, and what is told behind each part.
-/
import Derived.Test.YtpnfbabiibopnaaQ12
import Derived.Test.YtpnfbabiibopnaaQ08
import Derived.StillTailTactics
import Derived.Deep.RegionHeld3
import Derived.WalkMore
namespace Go.Proofs.Ytpnfbabiibopnaa
open Go Go.RowKit
attribute [local go_sem ↓] Go.wp_at_zero Go.wp_at_succ

set_option maxRecDepth 100000 in
theorem goon_no (W : World) (r : Nat) (v : Value) : Calls Try.prog 90 #[.pointer (some ⟨r, 0, none⟩), .bool false, v] W fun e Y => e = .returned (.tuple #[]) ∧ Y = W := by
  go_enter Try.func90, Try.ntmps90
  go_wp2_with fail
  go_end0
  exact ⟨rfl, rfl⟩

set_option maxRecDepth 100000 in
/-- Over whatever the closure does. -/
theorem goon_yes {R : World → Prop} (W : World) (r : Nat) (fn : FuncId) (b1 b2 : Nat) (n : Int) (hE : ∀ (args : Array Value) (w : World), (callFunc fn args).run Try.prog w = .ok (.enter fn args) w)
    (HF : Hid (Calls Try.prog fn #[.pointer (some ⟨b1, 0, none⟩), .pointer (some ⟨b2, 0, none⟩)] W fun e X => e = .returned (.int .i64 n) ∧ R X)) (HR : Hid (∀ X, R X → X.frozen? ⟨r, 6, none⟩ = false ∧ ∃ m, X.cell? ⟨r, 6, none⟩ = some (.int .i64 m))) :
    Calls Try.prog 90 #[.pointer (some ⟨r, 0, none⟩), .bool true, .func (.func fn) #[] #[.pointer (some ⟨b1, 0, none⟩), .pointer (some ⟨b2, 0, none⟩)]] W fun e Y => e = .returned (.tuple #[]) ∧ ∃ X, R X ∧ Y = X.setCell ⟨r, 6, none⟩ (.int .i64 n) := by
  go_enter Try.func90, Try.ntmps90
  go_wp2_with fail
  refine HF.out.mono ?_
  rintro en w1 ⟨rfl, h1⟩
  obtain ⟨z6, m, c6⟩ := HR.out w1 h1
  have H1 := Lib.hid h1
  clear h1
  go_wp2_with fail
  go_end0
  exact ⟨rfl, w1, H1.out, rfl⟩

end Go.Proofs.Ytpnfbabiibopnaa
