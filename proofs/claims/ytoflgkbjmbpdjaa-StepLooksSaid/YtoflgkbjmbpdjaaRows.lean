/-
  No cell of these rows narrows 'for every input' (looked for: loops, veiled, ifaces, maps, wideKeys, modest, calm, conditions, laid).
  DERIVED. THE GIVEN ROWS OF THIS SEAT. 3 by the template 'for every input the law returns true; each argument reads behind the call as it read before'; 0 by the template 'total and deterministic' (their statements: YtoflgkbjmbpdjaaTotals.lean).
  GIVEN WITH THE SEED: the statements are not yours to turn. If you find one false, say at which input.
  Laid BY PROGRAM, IN A SANDBOX (cutbox-rows.mjs): the forced cells as the released guide's own fill.sh prints them over the translation aa0d01c38402b4b9… (all of the seat's roots in one cut). By AI agents, Wed Nov 11 2026. No macro, syntax, notation, axiom, sorry.
-/
import Derived.Test.YtoflgkbjmbpdjaaChecked
import GoSem.Claim
import GoSem.ClaimJoined
import GoSem.ClaimMapViews
import Derived.JoinedTies
import Derived.KernelRfl
namespace Go.Proofs.Ytoflgkbjmbpdjaa
/- THE CELL 'sum', in the pinned program and in every row, IS THE sha256 OF THE DUMP (.gsa) THAT YtoflgkbjmbpdjaaProg.lean LOADS. Nothing in Lean hashes anything: it is a label: what it is worth is what the hold of that sum in a sandbox is worth. -/
noncomputable def Try.pinned : Pinned := { name := "ytoflgkbjmbpdjaa", sum := "aa0d01c38402b4b9e3ebb5f121fb8f7cbd05d5373aad195db3d3e28b74a3076a", checked := Try.checked }
namespace Rows
def none {H : Type} : Left H := { results := [], args := [] }

/-- 'philtrelaw08.StepLooks': WHATEVER THE INPUT: true; the input reads as it did. -/
def stepLooksSpec : ChangeSpec := { name := "stepLooks", fn := fun _ => fun
  | [d1, d2] => { results := [.lit (.bool true)], args := [d1, d2] }
  | _ => none }
def stepLooksRow : OpenClaim := { program := "ytoflgkbjmbpdjaa", sum := "aa0d01c38402b4b9e3ebb5f121fb8f7cbd05d5373aad195db3d3e28b74a3076a", func := "philtre/philtrelaw08.StepLooks", spec := "stepLooks", inPlace := ["slices.overlaps[string]", "slices.overlaps[bool]"], unfollowed := true, recurses := true, apart := false }
def StepLooksSaid : Prop := stepLooksRow.holds Try.pinned (OpenSpec.ofChange stepLooksSpec)

/-- ITS FALSE NEIGHBOUR: 'it returns false'. Refute it at one input. -/
def stepLooksWrong : ChangeSpec := { name := "stepLooks", fn := fun _ => fun
  | [d1, d2] => { results := [.lit (.bool false)], args := [d1, d2] }
  | _ => none }
def StepLooksWrongFalsely : Prop := stepLooksRow.holds Try.pinned (OpenSpec.ofChange stepLooksWrong)

/-- 'philtrelaw08.StepKeys': WHATEVER THE INPUT: true; the input reads as it did. -/
def stepKeysSpec : ChangeSpec := { name := "stepKeys", fn := fun _ => fun
  | [d] => { results := [.lit (.bool true)], args := [d] }
  | _ => none }
def stepKeysRow : OpenClaim := { program := "ytoflgkbjmbpdjaa", sum := "aa0d01c38402b4b9e3ebb5f121fb8f7cbd05d5373aad195db3d3e28b74a3076a", func := "philtre/philtrelaw08.StepKeys", spec := "stepKeys", inPlace := ["slices.overlaps[string]", "slices.overlaps[bool]"], unfollowed := true, recurses := true, apart := false }
def StepKeysSaid : Prop := stepKeysRow.holds Try.pinned (OpenSpec.ofChange stepKeysSpec)

/-- ITS FALSE NEIGHBOUR: 'it returns false'. Refute it at one input. -/
def stepKeysWrong : ChangeSpec := { name := "stepKeys", fn := fun _ => fun
  | [d] => { results := [.lit (.bool false)], args := [d] }
  | _ => none }
def StepKeysWrongFalsely : Prop := stepKeysRow.holds Try.pinned (OpenSpec.ofChange stepKeysWrong)

/-- 'philtrelaw08.StepParts': WHATEVER THE INPUT: true; the input reads as it did. -/
def stepPartsSpec : ChangeSpec := { name := "stepParts", fn := fun _ => fun
  | [d] => { results := [.lit (.bool true)], args := [d] }
  | _ => none }
def stepPartsRow : OpenClaim := { program := "ytoflgkbjmbpdjaa", sum := "aa0d01c38402b4b9e3ebb5f121fb8f7cbd05d5373aad195db3d3e28b74a3076a", func := "philtre/philtrelaw08.StepParts", spec := "stepParts", inPlace := ["slices.overlaps[string]", "slices.overlaps[bool]"], unfollowed := true, recurses := true, apart := false }
def StepPartsSaid : Prop := stepPartsRow.holds Try.pinned (OpenSpec.ofChange stepPartsSpec)

/-- ITS FALSE NEIGHBOUR: 'it returns false'. Refute it at one input. -/
def stepPartsWrong : ChangeSpec := { name := "stepParts", fn := fun _ => fun
  | [d] => { results := [.lit (.bool false)], args := [d] }
  | _ => none }
def StepPartsWrongFalsely : Prop := stepPartsRow.holds Try.pinned (OpenSpec.ofChange stepPartsWrong)

/- THE SECOND FORM. 'bulk': how many values and letters a reading holds, each counted each time it is reached (what is shared counts as often as it is met; a slice's spare places count too). A statement '..UptoSaid' is the law's where the arguments, and the package variables that the reading takes, are together of bulk at most 1048576: NARROWER than '..Said'. Prove '..Said' where nothing that the law and all that it calls make is longer than what came in: it says more and counts as full. Else prove '..UptoSaid'. A law counts once. -/
mutual
def uptoBulk {H : Type} : DataW H → Nat
  | .lit (.string bytes) => bytes.length + 1
  | .lit _ => 1
  | .nil => 1
  | .ptr d => uptoBulk d + 1
  | .slice elems spare => uptoBulkAll elems + uptoBulkAll spare + 1
  | .agg parts => uptoBulkAll parts + 1
  | .iface _ d => uptoBulk d + 1
  | .map entries => uptoBulkEntries entries + 1
  | .held _ => 1
def uptoBulkAll {H : Type} : List (DataW H) → Nat
  | [] => 0
  | d :: r => uptoBulk d + uptoBulkAll r
def uptoBulkEntries {H : Type} : List (Lit × DataW H) → Nat
  | [] => 0
  | x :: r => uptoBulkEntry x + uptoBulkEntries r
def uptoBulkEntry {H : Type} : Lit × DataW H → Nat
  | (.string bytes, d) => bytes.length + uptoBulk d + 1
  | (_, d) => uptoBulk d + 1
 end
def uptoSmall : (H : Type) → List (DataW H) → Bool := fun _ ds => decide (uptoBulkAll ds ≤ 1048576)
def OpenSpec.upto (s : _root_.Go.ChangeSpec) : _root_.Go.OpenSpec := { _root_.Go.OpenSpec.ofChange s with cond := some uptoSmall }

/-- 'philtrelaw08.StepLooks', WHERE WHAT IT READS IS OF BULK AT MOST 1048576: true; the input reads as it did. -/
def stepLooksUptoRow : OpenClaim := { program := "ytoflgkbjmbpdjaa", sum := "aa0d01c38402b4b9e3ebb5f121fb8f7cbd05d5373aad195db3d3e28b74a3076a", func := "philtre/philtrelaw08.StepLooks", spec := "stepLooks", inPlace := ["slices.overlaps[string]", "slices.overlaps[bool]"], unfollowed := true, recurses := true, apart := false, narrowed := true }
def StepLooksUptoSaid : Prop := stepLooksUptoRow.holds Try.pinned (OpenSpec.upto stepLooksSpec)

/-- 'philtrelaw08.StepKeys', WHERE WHAT IT READS IS OF BULK AT MOST 1048576: true; the input reads as it did. -/
def stepKeysUptoRow : OpenClaim := { program := "ytoflgkbjmbpdjaa", sum := "aa0d01c38402b4b9e3ebb5f121fb8f7cbd05d5373aad195db3d3e28b74a3076a", func := "philtre/philtrelaw08.StepKeys", spec := "stepKeys", inPlace := ["slices.overlaps[string]", "slices.overlaps[bool]"], unfollowed := true, recurses := true, apart := false, narrowed := true }
def StepKeysUptoSaid : Prop := stepKeysUptoRow.holds Try.pinned (OpenSpec.upto stepKeysSpec)

/-- 'philtrelaw08.StepParts', WHERE WHAT IT READS IS OF BULK AT MOST 1048576: true; the input reads as it did. -/
def stepPartsUptoRow : OpenClaim := { program := "ytoflgkbjmbpdjaa", sum := "aa0d01c38402b4b9e3ebb5f121fb8f7cbd05d5373aad195db3d3e28b74a3076a", func := "philtre/philtrelaw08.StepParts", spec := "stepParts", inPlace := ["slices.overlaps[string]", "slices.overlaps[bool]"], unfollowed := true, recurses := true, apart := false, narrowed := true }
def StepPartsUptoSaid : Prop := stepPartsUptoRow.holds Try.pinned (OpenSpec.upto stepPartsSpec)

end Rows
end Go.Proofs.Ytoflgkbjmbpdjaa
