/-
  The calls of the statements' tape.
-/
import Derived.Test.YtgigjbngocfkbaaTape
namespace Go.Proofs.Ytgigjbngocfkbaa
open Go Go.RowKit
attribute [local go_sem ↓] Go.wp_at_zero Go.wp_at_succ

abbrev tapZ (ga : Option Addr) (k c : Nat) : Obj := .cells #[.slice ga k c, .int .i64 0, .bool false, .int .i64 0, .int .u64 0, .int .i64 0, .int .u64 0, .int .u64 0, .string ⟨#[]⟩] 40 (0, 0)

theorem run_field_word (W : World) (w : Int) (t : ByteArray) : (Instr.field 45 (gotV w t) 0).run Try.prog W = .ok (.int .u64 w) W := by
  kernel_rfl

theorem run_field_text (W : World) (w : Int) (t : ByteArray) : (Instr.field 45 (gotV w t) 1).run Try.prog W = .ok (.string t) W := by
  kernel_rfl

section
variable {W : World} {b c : Nat} {ga : Option Addr} {G : List (Int × ByteArray)} {T : TapD}

set_option maxRecDepth 100000 in
set_option maxHeartbeats 2000000 in
theorem tape_load (h : TapAt W b ga c G T) (hga : ∀ a, ga = some a → a.block < W.heap.size) (k : Nat) (i : Int) :
    Calls Try.prog 25 #[.pointer (some ⟨b, 0, none⟩), .int .u64 (k : Int), .int .i64 i] W (TapR b ga c G (onT G T ⟨1, k, i, 0, 0, ⟨#[]⟩⟩) (.int .u64 (doW' G T)) W) := by
  have H := Lib.hid (tape_do W h hga ⟨1, k, i, 0, 0, ⟨#[]⟩⟩)
  obtain ⟨w', hw'⟩ : ∃ w, doW' G T = w := ⟨_, rfl⟩
  obtain ⟨t', ht'⟩ : ∃ w, doT' G T = w := ⟨_, rfl⟩
  rw [hw', ht'] at H
  rw [hw']
  have hfw := fun X => run_field_word X w' t'
  clear h hga hw' ht'
  go_enter Try.func25, Try.ntmps25
  go_wp2_with fail
  refine H.out.mono ?_
  rintro en w1 ⟨rfl, h1, s1⟩
  have H1 := Lib.hid (And.intro h1 s1)
  clear h1 s1
  go_wp2_with fail
  go_ret
  exact ⟨rfl, H1.out.1, H1.out.2⟩

set_option maxRecDepth 100000 in
set_option maxHeartbeats 2000000 in
theorem tape_store (h : TapAt W b ga c G T) (hga : ∀ a, ga = some a → a.block < W.heap.size) (k : Nat) (i w : Int) :
    Calls Try.prog 28 #[.pointer (some ⟨b, 0, none⟩), .int .u64 (k : Int), .int .i64 i, .int .u64 w] W (TapR b ga c G (onT G T ⟨2, k, i, 0, w, ⟨#[]⟩⟩) (.tuple #[]) W) := by
  have H := Lib.hid (tape_do W h hga ⟨2, k, i, 0, w, ⟨#[]⟩⟩)
  obtain ⟨w', hw'⟩ : ∃ w, doW' G T = w := ⟨_, rfl⟩
  obtain ⟨t', ht'⟩ : ∃ w, doT' G T = w := ⟨_, rfl⟩
  rw [hw', ht'] at H
  clear h hga hw' ht'
  go_enter Try.func28, Try.ntmps28
  go_wp2_with fail
  refine H.out.mono ?_
  rintro en w1 ⟨rfl, h1, s1⟩
  have H1 := Lib.hid (And.intro h1 s1)
  clear h1 s1
  go_wp2_with fail
  go_end0
  exact ⟨rfl, H1.out.1, H1.out.2⟩

set_option maxRecDepth 100000 in
set_option maxHeartbeats 2000000 in
theorem tape_swap (h : TapAt W b ga c G T) (hga : ∀ a, ga = some a → a.block < W.heap.size) (k : Nat) (i o w : Int) :
    Calls Try.prog 27 #[.pointer (some ⟨b, 0, none⟩), .int .u64 (k : Int), .int .i64 i, .int .u64 o, .int .u64 w] W (TapR b ga c G (onT G T ⟨3, k, i, o, w, ⟨#[]⟩⟩) (.int .u64 (doW' G T)) W) := by
  have H := Lib.hid (tape_do W h hga ⟨3, k, i, o, w, ⟨#[]⟩⟩)
  obtain ⟨w', hw'⟩ : ∃ w, doW' G T = w := ⟨_, rfl⟩
  obtain ⟨t', ht'⟩ : ∃ w, doT' G T = w := ⟨_, rfl⟩
  rw [hw', ht'] at H
  rw [hw']
  have hfw := fun X => run_field_word X w' t'
  clear h hga hw' ht'
  go_enter Try.func27, Try.ntmps27
  go_wp2_with fail
  refine H.out.mono ?_
  rintro en w1 ⟨rfl, h1, s1⟩
  have H1 := Lib.hid (And.intro h1 s1)
  clear h1 s1
  go_wp2_with fail
  go_ret
  exact ⟨rfl, H1.out.1, H1.out.2⟩

end

end Go.Proofs.Ytgigjbngocfkbaa
