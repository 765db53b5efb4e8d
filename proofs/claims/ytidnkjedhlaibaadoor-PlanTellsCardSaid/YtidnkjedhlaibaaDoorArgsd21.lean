/-
  The table that start-up lays: the names of the things.
-/
import Derived.Test.YtidnkjedhlaibaaDoorArgs21
import Derived.Test.YtidnkjedhlaibaaDoorPwhere
import Derived.ProofKit
import Derived.Lib.LaidTab
import Derived.LaidMore
import Derived.Stop.Joined
namespace Go.Proofs.YtidnkjedhlaibaaDoor
open Go.ChangeShapes Go.WideShapes Go.ChangeAt Go.RowKit Go.Deep

set_option maxRecDepth 100000 in
theorem door_met (os : Os) (args : Array Value) : laidMetH Tryd.prog Rows.planTellsRow.laid ((World.doorLaid Tryd.prog 14 os).forCall (fun _ _ => 0) ⟨#[], args, []⟩).memory :=
  laidMetH_of_parts3 (fuel := 8) (laidMet_of_run' 8 (by kernel_rfl) (by kernel_rfl)) (by kernel_rfl) (by kernel_rfl)
/-- An array of texts that reads as these has these. -/
theorem cells_of_texts {H : Type} {enc : TypeId × Value → H} {P : Program} {w : World} {base : Nat} {sp : Nat → Bool} {held : Bool} {fuel : Nat} {t e : TypeId} {n : Nat} {cs : List Value} {zs : List (List UInt8)} {p : List MemPlace}
    (ht : P.underlying t = some (.array n e)) (he : P.underlying e = some .string) (hce : P.cellsOf e = 1) (hct : P.cellsOf t = n)
    (h : DataW.trod enc P w base sp held fuel t cs = some (.agg (zs.map fun z => .lit (.string z)), p)) : ∀ i, i < n → ∃ z s, zs[i]? = some z ∧ s.data.toList = z ∧ cs[i]? = some (.string s) := by
  cases fuel with
  | zero => simp [DataW.trod] at h
  | succ fuel =>
    simp only [DataW.trod, ht, hce, hct, Nat.mul_one] at h
    split at h
    · rename_i hl
      obtain ⟨xs, hm, hx⟩ := Option.map_eq_some_iff.1 h
      have hxs : xs.map (·.1) = zs.map fun z => (DataW.lit (.string z) : DataW H) := by
        have := congrArg Prod.fst hx
        simpa using this
      intro i hi
      obtain ⟨b, hb, hf⟩ := Lib.mapM_at hm i i (by simp [hi])
      obtain ⟨s, hc, rfl, _⟩ := DataW.trod_string he hf
      have h1 : cs[i]? = some (.string s) := by
        have := congrArg (·[0]?) hc
        simpa [List.getElem?_take, List.getElem?_drop] using this
      have h2 : (xs.map (·.1))[i]? = some (DataW.lit (.string s.data.toList) : DataW H) := by simp [hb]
      rw [hxs] at h2
      simp only [List.getElem?_map, Option.map_eq_some_iff, DataW.lit.injEq, Lit.string.injEq] at h2
      obtain ⟨z', hz', e⟩ := h2
      exact ⟨z', s, hz', e.symm, h1⟩
    · cases h
def namesName : String := Rows.planTellsRow.named.getD 0 default
theorem names_global : Tryd.prog.globalNamed namesName = some 0 := by kernel_rfl
def nameBytes : List (List UInt8) := (List.range 7).map fun i => (nameP i).data.toList
theorem name_bytes {i : Nat} {z : List UInt8} (hi : i < 7) (hz : nameBytes[i]? = some z) : (nameP i).data.toList = z := by
  unfold nameBytes at hz
  rw [List.getElem?_map, List.getElem?_range hi] at hz
  simpa using hz
theorem ba_eq {a b : ByteArray} (h : a.data.toList = b.data.toList) : a = b := by
  obtain ⟨⟨a⟩⟩ := a
  obtain ⟨⟨b⟩⟩ := b
  simp only at h
  rw [h]
theorem tabs_of_laid {W : World} (h : laidMetH Tryd.prog Rows.planTellsRow.laid W) : Tabs W := by
  rw [MakeChecks.laidMetH_plain _ _ _ (by kernel_rfl)] at h
  obtain ⟨ps, ⟨g2, t2, cs2, f2, p2, q2, hg2, ht2, hv2, hd2, _, _⟩, _⟩ := h
  obtain rfl := Option.some.inj (names_global.symm.trans hg2)
  obtain rfl := Option.some.inj ((show (Tryd.prog.globals[0]?).map (·.type) = some 47 by kernel_rfl).symm.trans ht2)
  intro i hi
  obtain ⟨z, s, hz, hs, hc⟩ := cells_of_texts (zs := nameBytes) Tryd.underlying47 Tryd.underlying9 (by kernel_rfl) (by kernel_rfl) hd2 i hi
  have hv := World.var?_cell names_global (show W.var? Tryd.prog namesName = some cs2 from hv2) i
  rw [hv]
  have h1 : cs2[i]? = some (.string s) := by simpa using hc
  rw [h1, ba_eq (hs.trans (name_bytes hi hz).symm)]

end Go.Proofs.YtidnkjedhlaibaaDoor
