/-
  The reference's tape, by which it is said what a routine does next: what it answers an act, and where it stands then.
-/
import Derived.Test.YtpnfbabiibopnaaQ05
import Derived.Deep.QuietTactic
import Derived.BigQuiet
namespace Go.Proofs.Ytpnfbabiibopnaa
open Go Go.RowKit
attribute [local go_sem ↓] Go.wp_at_zero Go.wp_at_succ

/-- Where a tape stands. -/
structure TapD where
  k : Nat
  over : Bool
  act : ActD
def tape0 : TapD := ⟨0, false, noAct⟩
/-- An act's answer on a tape, and the tape behind it. -/
def doW' (G : List (Int × ByteArray)) (T : TapD) : Int := if T.over then 0 else (match G[T.k]? with | some g => g.1 | none => 0)
def doT' (G : List (Int × ByteArray)) (T : TapD) : ByteArray := if T.over then ⟨#[]⟩ else (match G[T.k]? with | some g => g.2 | none => ⟨#[]⟩)
def onT (G : List (Int × ByteArray)) (T : TapD) (x : ActD) : TapD := if T.over then T else if T.k = G.length then ⟨T.k, true, x⟩ else ⟨T.k + 1, T.over, T.act⟩

/-- At p, a slice's address, these answers lie. -/
def Sgt (W : World) (p : Option Addr) (G : List (Int × ByteArray)) : Prop :=
  ∀ j (h : j < G.length), ∃ b o, p = some ⟨b, o, none⟩ ∧ W.cell? ⟨b, o + j * 2, none⟩ = some (.int .u64 G[j].1) ∧ W.cell? ⟨b, o + j * 2 + 1, none⟩ = some (.string G[j].2)
theorem Sgt.nil (W : World) (p : Option Addr) : Sgt W p [] := fun _ h => absurd h (Nat.not_lt_zero _)
theorem Sgt.grow {W W' : World} {p : Option Addr} {G : List (Int × ByteArray)} (h : Sgt W p G) (hb : Below W.heap.size W W') : Sgt W' p G := fun j hj => by
  obtain ⟨b, o, rfl, c1, c2⟩ := h j hj
  exact ⟨b, o, rfl, (hb.cell (p := ⟨b, _, none⟩) (cell_lt c1)).trans c1, (hb.cell (p := ⟨b, _, none⟩) (cell_lt c2)).trans c2⟩
theorem Sgt.take {W : World} {p : Option Addr} {G : List (Int × ByteArray)} (h : Sgt W p G) (n : Nat) : Sgt W p (G.take n) := fun j hj => by
  have hj' : j < G.length := by have := List.length_take_le' n G; omega
  obtain ⟨b, o, e, c1, c2⟩ := h j hj'
  refine ⟨b, o, e, ?_, ?_⟩
  · rw [List.getElem_take]; exact c1
  · rw [List.getElem_take]; exact c2
/-- What is read lies below B, so what is made above is of no matter. -/
def SgB (B : Nat) (W : World) (p : Option Addr) (G : List (Int × ByteArray)) : Prop := Sgt W p G ∧ ∀ a, p = some a → a.block < B

end Go.Proofs.Ytpnfbabiibopnaa
