/-
  What is done to a box, as it lies in memory: a slice of structs of a number, another one and a change.
-/
import Derived.Test.YtofkllokmecfgaaAwake15
namespace Go.Proofs.Ytofkllokmecfgaa
open Go Go.RowKit

/-- Something that is done: which, how many, and which change. -/
structure BD where
  kind : Int
  n : Int
  c : ChD
def BD.cells (o : BD) : List Value := [.int .i64 o.kind, .int .i64 o.n, .string o.c.key, .bool o.c.has, .string o.c.val]
def BD.fits (o : BD) : Prop := -9223372036854775808 ≤ o.kind ∧ o.kind ≤ 9223372036854775807 ∧ -9223372036854775808 ≤ o.n ∧ o.n ≤ 9223372036854775807 ∧ o.c.fits
/-- At p, a slice's address, they lie. -/
def Sb (W : World) (p : Option Addr) (L : List BD) : Prop :=
  ∀ j (h : j < L.length), ∃ b o, p = some ⟨b, o, none⟩ ∧ W.cell? ⟨b, o + j * 5, none⟩ = some (.int .i64 L[j].kind) ∧ W.cell? ⟨b, o + j * 5 + 1, none⟩ = some (.int .i64 L[j].n) ∧ W.cell? ⟨b, o + j * 5 + 2, none⟩ = some (.string L[j].c.key) ∧ W.cell? ⟨b, o + j * 5 + 3, none⟩ = some (.bool L[j].c.has) ∧ W.cell? ⟨b, o + j * 5 + 4, none⟩ = some (.string L[j].c.val)
theorem Sb.nil (W : World) (p : Option Addr) : Sb W p [] := fun _ h => absurd h (Nat.not_lt_zero _)
theorem Sb.grow {W W' : World} {p : Option Addr} {L : List BD} (h : Sb W p L) (hb : Below W.heap.size W W') : Sb W' p L := fun j hj => by
  obtain ⟨b, o, rfl, c1, c2, c3, c4, c5⟩ := h j hj
  exact ⟨b, o, rfl, (hb.cell (p := ⟨b, _, none⟩) (cell_lt c1)).trans c1, (hb.cell (p := ⟨b, _, none⟩) (cell_lt c2)).trans c2, (hb.cell (p := ⟨b, _, none⟩) (cell_lt c3)).trans c3, (hb.cell (p := ⟨b, _, none⟩) (cell_lt c4)).trans c4, (hb.cell (p := ⟨b, _, none⟩) (cell_lt c5)).trans c5⟩

end Go.Proofs.Ytofkllokmecfgaa
