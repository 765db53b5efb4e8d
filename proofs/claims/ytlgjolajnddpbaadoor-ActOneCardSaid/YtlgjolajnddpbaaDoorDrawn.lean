/-
  Two laws of regions that draw their order, of no program.
-/
import Derived.Test.YtlgjolajnddpbaaDoorFoot
import Derived.Deep.QuietTactic
import Derived.BigQuiet
namespace Go.Proofs.YtlgjolajnddpbaaDoor
open Go Go.RowKit

theorem calls_flip {P : Program} {f : FuncId} {args : Array Value} {X : World} {v : Ending} (h : Calls P f args X fun e W' => e = v ∧ X = W') : Calls P f args X fun e W' => e = v ∧ W' = X :=
  h.mono fun _ _ h => ⟨h.1, h.2.symm⟩
/-- An operation that only looks is taken first; where it puts what it sees is told. -/
theorem wpAny_look {P : Program} {ops : Array Oper} {Q : Exit → Act → World → Prop} {md : Region.Mode} {i : Nat} {oi : Oper} {v : Value} {fuel : Nat} {listed : Array Bool} {a : Act} {w : World} (d : Nat) (hi : ops[i]? = some oi)
    (hs : Region.noSelect ops = true) (hf : Region.free md ops listed i = true) (hr : (Region.ready md ops listed).contains i = true)
    (hQ : ∀ c a w v, Q (.panic c) (Act.put a oi.dst v) w → Q (.panic c) a w) (hd : oi.dst = some d) (hy : Yields P ops oi v a)
    (h : wpAny P md ops Q fuel (listed.setIfInBounds i true) { a with tmps := a.tmps.setIfInBounds d v } w) : wpAny P md ops Q (fuel + 1) listed a w := by
  refine wpAny_take hi hs hf hr (fun c a w => hQ c a w v) hy ?_
  rw [hd]
  exact h

/-- A region that draws its order, from where all that is left only looks (or calls what leaves memory as it lies): the order of the text serves. -/
theorem wpAny_lex_from {P : Program} {ops : Array Oper} {Q : Exit → Act → World → Prop} {md : Region.Mode} {a : Act} {w : World} {listed : Array Bool} {fuel : Nat} (k : Nat) (l : List Oper) (hl : ops.toList.drop k = l) (hf : l.length = fuel)
    (hs : Region.noSelect ops = true) (hB : Region.lexFrom md ops fuel k listed = true)
    (h : wpQuiet P ops (fun w' => ∃ n, w' = w.drewN n) (fun a' => ∀ w', (∃ n, w' = w.drewN n) → Q .normal a' w') l a) : wpAny P md ops Q fuel listed a w := by
  subst hf
  refine wpAny_of_quiet (C := fun w' => ∃ n, w' = w.drewN n) (Q := fun a' => ∀ w', (∃ n, w' = w.drewN n) → Q .normal a' w') (fun _ w' hw' h => h w' hw') _ _ _ _ ⟨0, rfl⟩ ?_
  refine wpAnyQ_lex hs l k listed a (fun j => ?_) hB h
  subst hl
  rw [List.getElem?_drop, Array.getElem?_toList]

end Go.Proofs.YtlgjolajnddpbaaDoor
