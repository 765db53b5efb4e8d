/-
  strings.Clone, by the contract of the shelf.
-/
import Derived.Shelf.Pu.Clone
import Derived.Test.YtgigjbngocfkbaaHops3
namespace Go.Proofs.Ytgigjbngocfkbaa
open Go Go.Shelf Go.RowKit
def laysClone_ren : Go.Shelf.Ren := ⟨fun | 25 => 58 | n => n, fun | 9 => 9 | 3 => 3 | 4 => 4 | 37 => 47 | 0 => 0 | 47 => 118 | 5 => 5 | n => n, fun | n => n⟩
theorem laysClone : Go.Proofs.LaysPu.n25 Try.prog laysClone_ren := {
  mixed := by kernel_rfl
  f25 := Try.func58.trans (congrArg some (by kernel_rfl))
  t0 := Try.underlying0
  a0 := Try.isAgg0
  z0 := Try.sizeOf0
  v0 := Try.zeroValue0
  i0 := by kernel_rfl
  t3 := Try.underlying3
  a3 := Try.isAgg3
  z3 := Try.sizeOf3
  v3 := Try.zeroValue3
  i3 := by kernel_rfl
  t4 := Try.underlying4
  a4 := Try.isAgg4
  z4 := Try.sizeOf4
  v4 := Try.zeroValue4
  i4 := by kernel_rfl
  t5 := Try.underlying5
  a5 := Try.isAgg5
  z5 := Try.sizeOf5
  v5 := Try.zeroValue5
  i5 := by kernel_rfl
  t9 := Try.underlying9
  a9 := Try.isAgg9
  z9 := Try.sizeOf9
  v9 := Try.zeroValue9
  i9 := by kernel_rfl
  t37 := Try.underlying47
  a37 := Try.isAgg47
  z37 := Try.sizeOf47
  v37 := Try.zeroValue47
  i37 := by kernel_rfl
  t47 := Try.underlying118
  a47 := Try.isAgg118
  z47 := Try.sizeOf118
  v47 := Try.zeroValue118
  i47 := by kernel_rfl }

theorem clone_in (s : ByteArray) (W : World) (hs : s.size ≤ 281474976710656) : Calls Try.prog 58 #[.string s] W fun e W' => e = .returned (.string s) ∧ Below W.heap.size W W' :=
  Go.Proofs.AnyPu.stringslite_Clone laysClone s W hs

theorem clone_any (s : ByteArray) (W : World) (hs : s.size ≤ 281474976710656) : Calls Try.prog 49 #[.string s] W fun e W' => e = .returned (.string s) ∧ Below W.heap.size W W' := by
  go_enter Try.func49, Try.ntmps49
  go_wp2_with fail
  refine (clone_in s _ hs).mono ?_
  rintro e w' ⟨rfl, hb⟩
  have HB := Lib.hid hb
  clear hb
  go_wp2
  go_ret
  exact ⟨rfl, HB.out⟩

end Go.Proofs.Ytgigjbngocfkbaa
