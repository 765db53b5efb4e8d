/-
  strings.Clone, by the contract of the shelf; a store of what lies there already turns nothing.
-/
import Derived.Shelf.Pu.Clone
import Derived.Test.YtkfnndhoccjffaaKept
namespace Go.Proofs.Ytkfnndhoccjffaa
open Go Go.Shelf Go.RowKit
def laysClone_ren : Go.Shelf.Ren := ⟨fun | 25 => 33 | n => n, fun | 9 => 9 | 3 => 3 | 4 => 4 | 37 => 75 | 0 => 0 | 47 => 76 | 5 => 5 | n => n, fun | n => n⟩
theorem laysClone : Go.Proofs.LaysPu.n25 Try.prog laysClone_ren := {
  mixed := by kernel_rfl
  f25 := Try.func33.trans (congrArg some (by kernel_rfl))
  t0 := Try.underlying0
  a0 := Try.isAgg0
  z0 := Try.sizeOf0
  v0 := Try.zeroValue0
  i0 := by kernel_rfl
  t3 := Try.underlying3
  a3 := Try.isAgg3
  z3 := Try.sizeOf3
  v3 := Try.zeroValue3
  i3 := by kernel_rfl
  t4 := Try.underlying4
  a4 := Try.isAgg4
  z4 := Try.sizeOf4
  v4 := Try.zeroValue4
  i4 := by kernel_rfl
  t5 := Try.underlying5
  a5 := Try.isAgg5
  z5 := Try.sizeOf5
  v5 := Try.zeroValue5
  i5 := by kernel_rfl
  t9 := Try.underlying9
  a9 := Try.isAgg9
  z9 := Try.sizeOf9
  v9 := Try.zeroValue9
  i9 := by kernel_rfl
  t37 := Try.underlying75
  a37 := Try.isAgg75
  z37 := Try.sizeOf75
  v37 := Try.zeroValue75
  i37 := by kernel_rfl
  t47 := Try.underlying76
  a47 := Try.isAgg76
  z47 := Try.sizeOf76
  v47 := Try.zeroValue76
  i47 := by kernel_rfl }

theorem clone_in (s : ByteArray) (W : World) (hs : s.size ≤ 281474976710656) : Calls Try.prog 33 #[.string s] W fun e W' => e = .returned (.string s) ∧ Below W.heap.size W W' :=
  Go.Proofs.AnyPu.stringslite_Clone laysClone s W hs

theorem clone_any (s : ByteArray) (W : World) (hs : s.size ≤ 281474976710656) : Calls Try.prog 28 #[.string s] W fun e W' => e = .returned (.string s) ∧ Below W.heap.size W W' := by
  go_enter Try.func28, Try.ntmps28
  go_wp2_with fail
  refine (clone_in s _ hs).mono ?_
  rintro e w' ⟨rfl, hb⟩
  have HB := Lib.hid hb
  clear hb
  go_wp2
  go_ret
  exact ⟨rfl, HB.out⟩

theorem setCell_same {W : World} {b o : Nat} {u : Value} (h : W.cell? ⟨b, o, none⟩ = some u) : W.setCell ⟨b, o, none⟩ u = W := by
  have hh : (W.setCell ⟨b, o, none⟩ u).heap = W.heap := by
    apply Array.ext_getElem?
    intro j
    show (W.heap.modify b _)[j]? = W.heap[j]?
    rw [Array.getElem?_modify]
    split
    · rename_i hj
      subst hj
      unfold World.cell? at h
      split at h
      · rename_i c e f hc
        simp only [Option.isSome_none, Bool.false_eq_true, if_false] at h
        simp only [hc, Option.map_some, Option.isSome_none, Bool.false_eq_true, if_false]
        congr 2
        apply Array.ext_getElem?
        intro i
        rw [Array.getElem?_setIfInBounds]
        split
        · rename_i hi
          subst hi
          split
          · exact h.symm
          · rename_i hlt
            exact absurd (Array.getElem?_eq_some_iff.1 h).1 hlt
        · rfl
      · cases h
    · rfl
  show ({ W with heap := (W.setCell ⟨b, o, none⟩ u).heap } : World) = W
  rw [hh]

end Go.Proofs.Ytkfnndhoccjffaa
