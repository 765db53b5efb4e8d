/-
  No cell of these rows narrows 'for every input' (looked for: loops, veiled, ifaces, maps, wideKeys, modest, calm, conditions, laid).
  DERIVED. THE GIVEN ROWS OF THIS SEAT. 3 by the template 'for every input the law returns true; each argument reads behind the call as it read before'; 0 by the template 'total and deterministic' (their statements: YtgigjbngocfkbaaTotals.lean).
  GIVEN WITH THE SEED: the statements are not yours to turn. If you find one false, say at which input.
  Laid BY PROGRAM, IN A SANDBOX (cutbox-rows.mjs): the forced cells as the released guide's own fill.sh prints them over the translation 661a89058e4240ef… (all of the seat's roots in one cut). By AI agents, Wed Nov 11 2026. No macro, syntax, notation, axiom, sorry.
-/
import Derived.Test.YtgigjbngocfkbaaChecked
import GoSem.Claim
import GoSem.ClaimJoined
import GoSem.ClaimMapViews
import Derived.JoinedTies
import Derived.KernelRfl
namespace Go.Proofs.Ytgigjbngocfkbaa
/- THE CELL 'sum', in the pinned program and in every row, IS THE sha256 OF THE DUMP (.gsa) THAT YtgigjbngocfkbaaProg.lean LOADS. Nothing in Lean hashes anything: it is a label: what it is worth is what the hold of that sum in a sandbox is worth. -/
noncomputable def Try.pinned : Pinned := { name := "ytgigjbngocfkbaa", sum := "661a89058e4240efe6caeec3b36a9d71611b16c5d0e86f3db02dd6f931825afa", checked := Try.checked }
namespace Rows
def none {H : Type} : Left H := { results := [], args := [] }

/-- 'philtrelaw25.PinActs': WHATEVER THE INPUT: true; the input reads as it did. -/
def pinActsSpec : ChangeSpec := { name := "pinActs", fn := fun _ => fun
  | [d1, d2, d3] => { results := [.lit (.bool true)], args := [d1, d2, d3] }
  | _ => none }
def pinActsRow : OpenClaim := { program := "ytgigjbngocfkbaa", sum := "661a89058e4240efe6caeec3b36a9d71611b16c5d0e86f3db02dd6f931825afa", func := "philtre/philtrelaw25.PinActs", spec := "pinActs", unfollowed := true, recurses := true, apart := false }
def PinActsSaid : Prop := pinActsRow.holds Try.pinned (OpenSpec.ofChange pinActsSpec)

/-- ITS FALSE NEIGHBOUR: 'it returns false'. Refute it at one input. -/
def pinActsWrong : ChangeSpec := { name := "pinActs", fn := fun _ => fun
  | [d1, d2, d3] => { results := [.lit (.bool false)], args := [d1, d2, d3] }
  | _ => none }
def PinActsWrongFalsely : Prop := pinActsRow.holds Try.pinned (OpenSpec.ofChange pinActsWrong)

/-- 'philtrelaw25.PinHolds': WHATEVER THE INPUT: true; the input reads as it did. -/
def pinHoldsSpec : ChangeSpec := { name := "pinHolds", fn := fun _ => fun
  | [d1, d2, d3] => { results := [.lit (.bool true)], args := [d1, d2, d3] }
  | _ => none }
def pinHoldsRow : OpenClaim := { program := "ytgigjbngocfkbaa", sum := "661a89058e4240efe6caeec3b36a9d71611b16c5d0e86f3db02dd6f931825afa", func := "philtre/philtrelaw25.PinHolds", spec := "pinHolds", unfollowed := true, recurses := true, apart := false }
def PinHoldsSaid : Prop := pinHoldsRow.holds Try.pinned (OpenSpec.ofChange pinHoldsSpec)

/-- ITS FALSE NEIGHBOUR: 'it returns false'. Refute it at one input. -/
def pinHoldsWrong : ChangeSpec := { name := "pinHolds", fn := fun _ => fun
  | [d1, d2, d3] => { results := [.lit (.bool false)], args := [d1, d2, d3] }
  | _ => none }
def PinHoldsWrongFalsely : Prop := pinHoldsRow.holds Try.pinned (OpenSpec.ofChange pinHoldsWrong)

/-- 'philtrelaw25.PinAlone': WHATEVER THE INPUT: true; the input reads as it did. -/
def pinAloneSpec : ChangeSpec := { name := "pinAlone", fn := fun _ => fun
  | [d1, d2, d3] => { results := [.lit (.bool true)], args := [d1, d2, d3] }
  | _ => none }
def pinAloneRow : OpenClaim := { program := "ytgigjbngocfkbaa", sum := "661a89058e4240efe6caeec3b36a9d71611b16c5d0e86f3db02dd6f931825afa", func := "philtre/philtrelaw25.PinAlone", spec := "pinAlone", unfollowed := true, recurses := true, apart := false }
def PinAloneSaid : Prop := pinAloneRow.holds Try.pinned (OpenSpec.ofChange pinAloneSpec)

/-- ITS FALSE NEIGHBOUR: 'it returns false'. Refute it at one input. -/
def pinAloneWrong : ChangeSpec := { name := "pinAlone", fn := fun _ => fun
  | [d1, d2, d3] => { results := [.lit (.bool false)], args := [d1, d2, d3] }
  | _ => none }
def PinAloneWrongFalsely : Prop := pinAloneRow.holds Try.pinned (OpenSpec.ofChange pinAloneWrong)

/- THE SECOND FORM. 'bulk': how many values and letters a reading holds, each counted each time it is reached (what is shared counts as often as it is met; a slice's spare places count too). A statement '..UptoSaid' is the law's where the arguments, and the package variables that the reading takes, are together of bulk at most 1048576: NARROWER than '..Said'. Prove '..Said' where nothing that the law and all that it calls make is longer than what came in: it says more and counts as full. Else prove '..UptoSaid'. A law counts once. -/
mutual
def uptoBulk {H : Type} : DataW H → Nat
  | .lit (.string bytes) => bytes.length + 1
  | .lit _ => 1
  | .nil => 1
  | .ptr d => uptoBulk d + 1
  | .slice elems spare => uptoBulkAll elems + uptoBulkAll spare + 1
  | .agg parts => uptoBulkAll parts + 1
  | .iface _ d => uptoBulk d + 1
  | .map entries => uptoBulkEntries entries + 1
  | .held _ => 1
def uptoBulkAll {H : Type} : List (DataW H) → Nat
  | [] => 0
  | d :: r => uptoBulk d + uptoBulkAll r
def uptoBulkEntries {H : Type} : List (Lit × DataW H) → Nat
  | [] => 0
  | x :: r => uptoBulkEntry x + uptoBulkEntries r
def uptoBulkEntry {H : Type} : Lit × DataW H → Nat
  | (.string bytes, d) => bytes.length + uptoBulk d + 1
  | (_, d) => uptoBulk d + 1
 end
def uptoSmall : (H : Type) → List (DataW H) → Bool := fun _ ds => decide (uptoBulkAll ds ≤ 1048576)
def OpenSpec.upto (s : _root_.Go.ChangeSpec) : _root_.Go.OpenSpec := { _root_.Go.OpenSpec.ofChange s with cond := some uptoSmall }

/-- 'philtrelaw25.PinActs', WHERE WHAT IT READS IS OF BULK AT MOST 1048576: true; the input reads as it did. -/
def pinActsUptoRow : OpenClaim := { program := "ytgigjbngocfkbaa", sum := "661a89058e4240efe6caeec3b36a9d71611b16c5d0e86f3db02dd6f931825afa", func := "philtre/philtrelaw25.PinActs", spec := "pinActs", unfollowed := true, recurses := true, apart := false, narrowed := true }
def PinActsUptoSaid : Prop := pinActsUptoRow.holds Try.pinned (OpenSpec.upto pinActsSpec)

/-- 'philtrelaw25.PinHolds', WHERE WHAT IT READS IS OF BULK AT MOST 1048576: true; the input reads as it did. -/
def pinHoldsUptoRow : OpenClaim := { program := "ytgigjbngocfkbaa", sum := "661a89058e4240efe6caeec3b36a9d71611b16c5d0e86f3db02dd6f931825afa", func := "philtre/philtrelaw25.PinHolds", spec := "pinHolds", unfollowed := true, recurses := true, apart := false, narrowed := true }
def PinHoldsUptoSaid : Prop := pinHoldsUptoRow.holds Try.pinned (OpenSpec.upto pinHoldsSpec)

/-- 'philtrelaw25.PinAlone', WHERE WHAT IT READS IS OF BULK AT MOST 1048576: true; the input reads as it did. -/
def pinAloneUptoRow : OpenClaim := { program := "ytgigjbngocfkbaa", sum := "661a89058e4240efe6caeec3b36a9d71611b16c5d0e86f3db02dd6f931825afa", func := "philtre/philtrelaw25.PinAlone", spec := "pinAlone", unfollowed := true, recurses := true, apart := false, narrowed := true }
def PinAloneUptoSaid : Prop := pinAloneUptoRow.holds Try.pinned (OpenSpec.upto pinAloneSpec)

end Rows
end Go.Proofs.Ytgigjbngocfkbaa
