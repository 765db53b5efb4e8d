/-
  No cell of these rows narrows 'for every input' (looked for: loops, veiled, ifaces, maps, wideKeys, modest, calm, conditions, laid).
  DERIVED. THE GIVEN ROWS OF THIS SEAT. 3 by the template 'for every input the law returns true; each argument reads behind the call as it read before'; 0 by the template 'total and deterministic' (their statements: YtdnjlpccopeagaaTotals.lean).
  GIVEN WITH THE SEED: the statements are not yours to turn. If you find one false, say at which input.
  Laid BY PROGRAM, IN A SANDBOX (cutbox-rows.mjs): the forced cells as the released guide's own fill.sh prints them over the translation e56db11d1c0bcdba… (all of the seat's roots in one cut). By AI agents, Wed Nov 11 2026. No macro, syntax, notation, axiom, sorry.
-/
import Derived.Test.YtdnjlpccopeagaaChecked
import GoSem.Claim
import GoSem.ClaimJoined
import GoSem.ClaimMapViews
import Derived.JoinedTies
import Derived.KernelRfl
namespace Go.Proofs.Ytdnjlpccopeagaa
/- THE CELL 'sum', in the pinned program and in every row, IS THE sha256 OF THE DUMP (.gsa) THAT YtdnjlpccopeagaaProg.lean LOADS. Nothing in Lean hashes anything: it is a label: what it is worth is what the hold of that sum in a sandbox is worth. -/
noncomputable def Try.pinned : Pinned := { name := "ytdnjlpccopeagaa", sum := "e56db11d1c0bcdba9100f68f5f8a1500eec218e7dd7c17ecf3192367d8a6ea9f", checked := Try.checked }
namespace Rows
def none {H : Type} : Left H := { results := [], args := [] }

/-- 'philtrelaw23.FindActs': WHATEVER THE INPUT: true; the input reads as it did. -/
def findActsSpec : ChangeSpec := { name := "findActs", fn := fun _ => fun
  | [d1, d2, d3] => { results := [.lit (.bool true)], args := [d1, d2, d3] }
  | _ => none }
def findActsRow : OpenClaim := { program := "ytdnjlpccopeagaa", sum := "e56db11d1c0bcdba9100f68f5f8a1500eec218e7dd7c17ecf3192367d8a6ea9f", func := "philtre/philtrelaw23.FindActs", spec := "findActs", unfollowed := true, recurses := true, apart := false }
def FindActsSaid : Prop := findActsRow.holds Try.pinned (OpenSpec.ofChange findActsSpec)

/-- ITS FALSE NEIGHBOUR: 'it returns false'. Refute it at one input. -/
def findActsWrong : ChangeSpec := { name := "findActs", fn := fun _ => fun
  | [d1, d2, d3] => { results := [.lit (.bool false)], args := [d1, d2, d3] }
  | _ => none }
def FindActsWrongFalsely : Prop := findActsRow.holds Try.pinned (OpenSpec.ofChange findActsWrong)

/-- 'philtrelaw23.FindFinds': WHATEVER THE INPUT: true; the input reads as it did. -/
def findFindsSpec : ChangeSpec := { name := "findFinds", fn := fun _ => fun
  | [d1, d2, d3] => { results := [.lit (.bool true)], args := [d1, d2, d3] }
  | _ => none }
def findFindsRow : OpenClaim := { program := "ytdnjlpccopeagaa", sum := "e56db11d1c0bcdba9100f68f5f8a1500eec218e7dd7c17ecf3192367d8a6ea9f", func := "philtre/philtrelaw23.FindFinds", spec := "findFinds", unfollowed := true, recurses := true, apart := false }
def FindFindsSaid : Prop := findFindsRow.holds Try.pinned (OpenSpec.ofChange findFindsSpec)

/-- ITS FALSE NEIGHBOUR: 'it returns false'. Refute it at one input. -/
def findFindsWrong : ChangeSpec := { name := "findFinds", fn := fun _ => fun
  | [d1, d2, d3] => { results := [.lit (.bool false)], args := [d1, d2, d3] }
  | _ => none }
def FindFindsWrongFalsely : Prop := findFindsRow.holds Try.pinned (OpenSpec.ofChange findFindsWrong)

/-- 'philtrelaw23.FindStays': WHATEVER THE INPUT: true; the input reads as it did. -/
def findStaysSpec : ChangeSpec := { name := "findStays", fn := fun _ => fun
  | [d1, d2, d3] => { results := [.lit (.bool true)], args := [d1, d2, d3] }
  | _ => none }
def findStaysRow : OpenClaim := { program := "ytdnjlpccopeagaa", sum := "e56db11d1c0bcdba9100f68f5f8a1500eec218e7dd7c17ecf3192367d8a6ea9f", func := "philtre/philtrelaw23.FindStays", spec := "findStays", unfollowed := true, recurses := true, apart := false }
def FindStaysSaid : Prop := findStaysRow.holds Try.pinned (OpenSpec.ofChange findStaysSpec)

/-- ITS FALSE NEIGHBOUR: 'it returns false'. Refute it at one input. -/
def findStaysWrong : ChangeSpec := { name := "findStays", fn := fun _ => fun
  | [d1, d2, d3] => { results := [.lit (.bool false)], args := [d1, d2, d3] }
  | _ => none }
def FindStaysWrongFalsely : Prop := findStaysRow.holds Try.pinned (OpenSpec.ofChange findStaysWrong)

/- THE SECOND FORM. 'bulk': how many values and letters a reading holds, each counted each time it is reached (what is shared counts as often as it is met; a slice's spare places count too). A statement '..UptoSaid' is the law's where the arguments, and the package variables that the reading takes, are together of bulk at most 1048576: NARROWER than '..Said'. Prove '..Said' where nothing that the law and all that it calls make is longer than what came in: it says more and counts as full. Else prove '..UptoSaid'. A law counts once. -/
mutual
def uptoBulk {H : Type} : DataW H → Nat
  | .lit (.string bytes) => bytes.length + 1
  | .lit _ => 1
  | .nil => 1
  | .ptr d => uptoBulk d + 1
  | .slice elems spare => uptoBulkAll elems + uptoBulkAll spare + 1
  | .agg parts => uptoBulkAll parts + 1
  | .iface _ d => uptoBulk d + 1
  | .map entries => uptoBulkEntries entries + 1
  | .held _ => 1
def uptoBulkAll {H : Type} : List (DataW H) → Nat
  | [] => 0
  | d :: r => uptoBulk d + uptoBulkAll r
def uptoBulkEntries {H : Type} : List (Lit × DataW H) → Nat
  | [] => 0
  | x :: r => uptoBulkEntry x + uptoBulkEntries r
def uptoBulkEntry {H : Type} : Lit × DataW H → Nat
  | (.string bytes, d) => bytes.length + uptoBulk d + 1
  | (_, d) => uptoBulk d + 1
 end
def uptoSmall : (H : Type) → List (DataW H) → Bool := fun _ ds => decide (uptoBulkAll ds ≤ 1048576)
def OpenSpec.upto (s : _root_.Go.ChangeSpec) : _root_.Go.OpenSpec := { _root_.Go.OpenSpec.ofChange s with cond := some uptoSmall }

/-- 'philtrelaw23.FindActs', WHERE WHAT IT READS IS OF BULK AT MOST 1048576: true; the input reads as it did. -/
def findActsUptoRow : OpenClaim := { program := "ytdnjlpccopeagaa", sum := "e56db11d1c0bcdba9100f68f5f8a1500eec218e7dd7c17ecf3192367d8a6ea9f", func := "philtre/philtrelaw23.FindActs", spec := "findActs", unfollowed := true, recurses := true, apart := false, narrowed := true }
def FindActsUptoSaid : Prop := findActsUptoRow.holds Try.pinned (OpenSpec.upto findActsSpec)

/-- 'philtrelaw23.FindFinds', WHERE WHAT IT READS IS OF BULK AT MOST 1048576: true; the input reads as it did. -/
def findFindsUptoRow : OpenClaim := { program := "ytdnjlpccopeagaa", sum := "e56db11d1c0bcdba9100f68f5f8a1500eec218e7dd7c17ecf3192367d8a6ea9f", func := "philtre/philtrelaw23.FindFinds", spec := "findFinds", unfollowed := true, recurses := true, apart := false, narrowed := true }
def FindFindsUptoSaid : Prop := findFindsUptoRow.holds Try.pinned (OpenSpec.upto findFindsSpec)

/-- 'philtrelaw23.FindStays', WHERE WHAT IT READS IS OF BULK AT MOST 1048576: true; the input reads as it did. -/
def findStaysUptoRow : OpenClaim := { program := "ytdnjlpccopeagaa", sum := "e56db11d1c0bcdba9100f68f5f8a1500eec218e7dd7c17ecf3192367d8a6ea9f", func := "philtre/philtrelaw23.FindStays", spec := "findStays", unfollowed := true, recurses := true, apart := false, narrowed := true }
def FindStaysUptoSaid : Prop := findStaysUptoRow.holds Try.pinned (OpenSpec.upto findStaysSpec)

end Rows
end Go.Proofs.Ytdnjlpccopeagaa
