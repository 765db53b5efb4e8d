/-
  strings.Clone, by the contract of the shelf.
-/
import Derived.Shelf.Pu.Clone
import Derived.Test.YtlgjolajnddpbaaDoorHops3
namespace Go.Proofs.YtlgjolajnddpbaaDoor
open Go Go.Shelf Go.RowKit
def laysClone_ren : Go.Shelf.Ren := ⟨fun | 25 => 70 | n => n, fun | 9 => 9 | 3 => 3 | 4 => 4 | 37 => 48 | 0 => 0 | 47 => 113 | 5 => 5 | n => n, fun | n => n⟩
theorem laysClone : Go.Proofs.LaysPu.n25 Tryd.prog laysClone_ren := {
  mixed := by kernel_rfl
  f25 := Tryd.func70.trans (congrArg some (by kernel_rfl))
  t0 := Tryd.underlying0
  a0 := Tryd.isAgg0
  z0 := Tryd.sizeOf0
  v0 := Tryd.zeroValue0
  i0 := by kernel_rfl
  t3 := Tryd.underlying3
  a3 := Tryd.isAgg3
  z3 := Tryd.sizeOf3
  v3 := Tryd.zeroValue3
  i3 := by kernel_rfl
  t4 := Tryd.underlying4
  a4 := Tryd.isAgg4
  z4 := Tryd.sizeOf4
  v4 := Tryd.zeroValue4
  i4 := by kernel_rfl
  t5 := Tryd.underlying5
  a5 := Tryd.isAgg5
  z5 := Tryd.sizeOf5
  v5 := Tryd.zeroValue5
  i5 := by kernel_rfl
  t9 := Tryd.underlying9
  a9 := Tryd.isAgg9
  z9 := Tryd.sizeOf9
  v9 := Tryd.zeroValue9
  i9 := by kernel_rfl
  t37 := Tryd.underlying48
  a37 := Tryd.isAgg48
  z37 := Tryd.sizeOf48
  v37 := Tryd.zeroValue48
  i37 := by kernel_rfl
  t47 := Tryd.underlying113
  a47 := Tryd.isAgg113
  z47 := Tryd.sizeOf113
  v47 := Tryd.zeroValue113
  i47 := by kernel_rfl }

theorem clone_in (s : ByteArray) (W : World) (hs : s.size ≤ 281474976710656) : Calls Tryd.prog 70 #[.string s] W fun e W' => e = .returned (.string s) ∧ Below W.heap.size W W' :=
  Go.Proofs.AnyPu.stringslite_Clone laysClone s W hs

theorem clone_any (s : ByteArray) (W : World) (hs : s.size ≤ 281474976710656) : Calls Tryd.prog 54 #[.string s] W fun e W' => e = .returned (.string s) ∧ Below W.heap.size W W' := by
  go_enter Tryd.func54, Tryd.ntmps54
  go_wp2_with fail
  refine (clone_in s _ hs).mono ?_
  rintro e w' ⟨rfl, hb⟩
  have HB := Lib.hid hb
  clear hb
  go_wp2
  go_ret
  exact ⟨rfl, HB.out⟩

end Go.Proofs.YtlgjolajnddpbaaDoor
