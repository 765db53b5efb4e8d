/-
  A table, its copy and what was told of them, side by side.
-/
import Derived.Test.YtkjkedaifdgjoaaLivesSt
import Derived.Test.YtkjkedaifdgjoaaCopy
namespace Go.Proofs.Ytkjkedaifdgjoaa
open Go Go.RowKit

/-- What one operation of the second row makes of the pairs. -/
def doM (D : Pairs) (o : OpD) : Pairs := if o.kind = 2 then delD D o.key else putD D o.key o.val
def mores (D : Pairs) (l : List OpD) : Pairs := l.foldl doM D
theorem mores_snoc (D : Pairs) (l : List OpD) (k : Nat) (h : k < l.length) : mores D (l.take (k + 1)) = doM (mores D (l.take k)) l[k] := by
  unfold mores
  rw [List.take_succ_eq_append_getElem h, List.foldl_append]; rfl
theorem mores_rise : ∀ (l : List OpD) {D : Pairs}, Rise D → Rise (mores D l)
  | [], _, h => h
  | o :: l, D, h => mores_rise l (show Rise (doM D o) by unfold doM; split; exact h.del _; exact h.put _ _)
theorem mores_length : ∀ (l : List OpD) (D : Pairs), (mores D l).length ≤ D.length + l.length
  | [], D => by simp [mores]
  | o :: l, D => by
    have h1 := mores_length l (doM D o)
    have h2 : (doM D o).length ≤ D.length + 1 := by unfold doM; split; exact Nat.le_trans (length_delD _ _) (Nat.le_succ _); exact length_putD _ _ _
    have h3 : mores D (o :: l) = mores (doM D o) l := rfl
    rw [h3, List.length_cons]; omega

theorem putD_ne (D : Pairs) (k v : ByteArray) : putD D k v ≠ [] := by
  cases D with
  | nil => simp [putD]
  | cons q D =>
    unfold putD
    split
    · simp
    · split <;> simp

/-- All keys taken away, one behind the other. -/
theorem del_drop {D : Pairs} (hR : Rise D) (j : Nat) (hj : j < D.length) : delD (D.drop j) D[j].1 = D.drop (j + 1) := by
  have hR' : Rise (D.drop j) := hR.sublist (List.drop_sublist _ _)
  rw [List.drop_eq_getElem_cons hj] at hR' ⊢
  unfold delD
  rw [List.filter_cons, if_neg (by simp)]
  refine List.filter_eq_self.2 fun q hq => ?_
  have := (List.pairwise_cons.1 hR').1 q hq
  have hne := lt_ne this
  simp only [Bool.not_eq_true', decide_eq_false_iff_not]
  exact fun e => hne e.symm

/-- A table that is still as New made it, where it has no pairs. -/
def Bare (W : World) (p : Nat) (D : Pairs) : Prop := D = [] → W.heap[p]? = some (.cells #[.slice none 0 0, .slice none 0 0] 28 (0, 0))
theorem Bare.cells {W : World} {p : Nat} {D : Pairs} (h : Bare W p D) (hD : D = []) : W.cell? ⟨p, 0, none⟩ = some (.slice none 0 0) ∧ W.cell? ⟨p, 1, none⟩ = some (.slice none 0 0) :=
  ⟨(cell_of_row W p 0 _ _ _ (h hD)).trans rfl, (cell_of_row W p 1 _ _ _ (h hD)).trans rfl⟩

/-- Between two puts. -/
def One (B n : Nat) (w : World) (p : Nat) (Dk : Nat → Pairs) (i : Value) (W : World) : Prop :=
  ∃ (k : Nat) (f : Nat → Prop), k ≤ n ∧ i = .int .i64 k ∧ Held B w W p (Dk k) f ∧ Bare W p (Dk k)

/-- Two tables and a row of pairs that was told. -/
structure Trio (B : Nat) (w W : World) (p pu : Nat) (D Du : Pairs) (f fu : Nat → Prop) (g : Nat) (L : Pairs) : Prop where
  duo : Duo B w W p pu D Du f fu
  lies : Lies W g L
  free : Free W f fu g

section
variable {B : Nat} {w W W' : World} {p pu : Nat} {D Du D' : Pairs} {f fu f' : Nat → Prop} {g : Nat} {L L' : Pairs}
theorem Trio.turn (s : Trio B w W p pu D Du f fu g L) (ht : Tab W' p D' f') (hs : Step f f' W W') : Trio B w W' p pu D' Du f' fu g L :=
  ⟨s.duo.turn ht hs, s.lies.stays (s.free.turn hs).2, (s.free.turn hs).1⟩
theorem Trio.swap (s : Trio B w W p pu D Du f fu g L) : Trio B w W pu p Du D fu f g L := ⟨s.duo.swap, s.lies, s.free.swap⟩
theorem Trio.grow (s : Trio B w W p pu D Du f fu g L) (hb : Below W.heap.size W W') : Trio B w W' p pu D Du f fu g L :=
  ⟨s.duo.grow hb, s.lies.stays (s.free.grow hb).2, (s.free.grow hb).1⟩
theorem Trio.drewN (s : Trio B w W p pu D Du f fu g L) (q : Nat) : Trio B w (W.drewN q) p pu D Du f fu g L := s.grow ⟨rfl, rfl, rfl, Nat.le_refl _, fun _ _ => rfl⟩
theorem Trio.drew (s : Trio B w W p pu D Du f fu g L) : Trio B w W.drew p pu D Du f fu g L := s.grow ⟨rfl, rfl, rfl, Nat.le_refl _, fun _ _ => rfl⟩
end

/-- Between two operations of the second row. -/
def Two (B n : Nat) (w : World) (p pu : Nat) (Dk : Nat → Pairs) (Du : Pairs) (fu : Nat → Prop) (g : Nat) (i : Value) (W : World) : Prop :=
  ∃ (k : Nat) (f : Nat → Prop), k ≤ n ∧ i = .int .i64 k ∧ Trio B w W p pu (Dk k) Du f fu g Du

/-- Between two deletes: what is left of the copy. -/
def Three (B n : Nat) (w : World) (p pu : Nat) (E D : Pairs) (f : Nat → Prop) (g h : Nat) (i : Value) (W : World) : Prop :=
  ∃ (k : Nat) (fu : Nat → Prop), k ≤ n ∧ i = .int .i64 k ∧ Trio B w W p pu E (D.drop k) f fu g D ∧ Trio B w W p pu E (D.drop k) f fu h E

end Go.Proofs.Ytkjkedaifdgjoaa
