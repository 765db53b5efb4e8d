/-
  Two tables, a row of pairs and one operation, side by side: what stays of them when one of them is turned.
-/
import Derived.Test.YtkjkedaifdgjoaaRangesWalk
namespace Go.Proofs.Ytkjkedaifdgjoaa
open Go Go.RowKit

/-- What one operation makes of the pairs. -/
def doD (D : Pairs) (o : OpD) : Pairs := if o.kind = 1 then putD D o.key o.val else if o.kind = 2 then delD D o.key else D
def lives (l : List OpD) : Pairs := l.foldl doD []
theorem lives_snoc (l : List OpD) (k : Nat) (h : k < l.length) : lives (l.take (k + 1)) = doD (lives (l.take k)) l[k] := by
  unfold lives
  rw [List.take_succ_eq_append_getElem h, List.foldl_append]; rfl
theorem doD_rise {D : Pairs} (h : Rise D) (o : OpD) : Rise (doD D o) := by
  unfold doD
  split
  · exact h.put _ _
  · split
    · exact h.del _
    · exact h
theorem lives_rise (l : List OpD) : Rise (lives l) := by
  unfold lives
  suffices h : ∀ (l : List OpD) (D : Pairs), Rise D → Rise (l.foldl doD D) from h l [] Rise.nil
  intro l
  induction l with
  | nil => intro D h; exact h
  | cons o l ih => intro D h; exact ih _ (doD_rise h o)
theorem doD_length (D : Pairs) (o : OpD) : (doD D o).length ≤ D.length + 1 := by
  unfold doD
  split
  · exact length_putD _ _ _
  · split
    · exact Nat.le_trans (length_delD _ _) (Nat.le_succ _)
    · exact Nat.le_succ _
theorem lives_length (l : List OpD) : (lives l).length ≤ l.length := by
  unfold lives
  suffices h : ∀ (l : List OpD) (D : Pairs), (l.foldl doD D).length ≤ D.length + l.length from by simpa using h l []
  intro l
  induction l with
  | nil => intro D; simp
  | cons o l ih => intro D; have h1 := ih (doD D o); have h2 := doD_length D o; simp only [List.foldl_cons, List.length_cons]; omega

/-- A block that is neither table's. -/
def Free (W : World) (f fu : Nat → Prop) (g : Nat) : Prop := g < W.heap.size ∧ ¬ f g ∧ ¬ fu g

/-- Two tables of the call's own. -/
structure Duo (B : Nat) (w W : World) (p pu : Nat) (D Du : Pairs) (f fu : Nat → Prop) : Prop where
  fst : Tab W p D f
  snd : Tab W pu Du fu
  apart : ∀ k, f k → ¬ fu k
  below : Below B w W
  mine : ∀ k, f k → B ≤ k
  mineu : ∀ k, fu k → B ≤ k
  size : B ≤ w.heap.size

section
variable {B : Nat} {w W W' : World} {p pu : Nat} {D Du D' : Pairs} {f fu f' : Nat → Prop} {g : Nat}
theorem Duo.room (d : Duo B w W p pu D Du f fu) : B ≤ W.heap.size := Nat.le_trans d.size d.below.size
theorem Duo.swap (d : Duo B w W p pu D Du f fu) : Duo B w W pu p Du D fu f := ⟨d.snd, d.fst, fun k hk hk' => d.apart k hk' hk, d.below, d.mineu, d.mine, d.size⟩
theorem Duo.turn (d : Duo B w W p pu D Du f fu) (ht : Tab W' p D' f') (hs : Step f f' W W') : Duo B w W' p pu D' Du f' fu :=
  ⟨ht, d.snd.stays hs.size (fun k hk => hs.block k (d.snd.lt k hk) (fun hf => d.apart k hf hk)), fun k hk hk' => (hs.foot k hk).elim (fun h => d.apart k h hk') (fun h => absurd (d.snd.lt k hk') (Nat.not_lt.2 h)),
    d.below.trans (hs.below d.room (fun k hk hf => absurd hk (Nat.not_lt.2 (d.mine k hf)))), fun k hk => (hs.foot k hk).elim (d.mine k) (fun h => Nat.le_trans d.room h), d.mineu, d.size⟩
theorem Duo.grow (d : Duo B w W p pu D Du f fu) (hb : Below W.heap.size W W') : Duo B w W' p pu D Du f fu :=
  ⟨d.fst.stays hb.size (fun k hk => hb.block k (d.fst.lt k hk)), d.snd.stays hb.size (fun k hk => hb.block k (d.snd.lt k hk)), d.apart, d.below.trans (hb.mono d.room), d.mine, d.mineu, d.size⟩
theorem Free.turn (h : Free W f fu g) (hs : Step f f' W W') : Free W' f' fu g ∧ W'.heap[g]? = W.heap[g]? :=
  ⟨⟨Nat.lt_of_lt_of_le h.1 hs.size, fun hf => (hs.foot g hf).elim h.2.1 (fun h' => absurd h.1 (Nat.not_lt.2 h')), h.2.2⟩, hs.block g h.1 h.2.1⟩
theorem Free.swap (h : Free W f fu g) : Free W fu f g := ⟨h.1, h.2.2, h.2.1⟩
theorem Free.grow (h : Free W f fu g) (hb : Below W.heap.size W W') : Free W' f fu g ∧ W'.heap[g]? = W.heap[g]? :=
  ⟨⟨Nat.lt_of_lt_of_le h.1 hb.size, h.2.1, h.2.2⟩, hb.block g h.1⟩
/-- A new block is neither table's. -/
theorem Duo.free (d : Duo B w W p pu D Du f fu) (h1 : W.heap.size ≤ g) (h2 : g < W'.heap.size) : Free W' f fu g :=
  ⟨h2, fun h => absurd (d.fst.lt g h) (Nat.not_lt.2 h1), fun h => absurd (d.snd.lt g h) (Nat.not_lt.2 h1)⟩
end

/-- All that a round of the statement knows. -/
structure St (B : Nat) (w W : World) (p pu : Nat) (D Du : Pairs) (f fu : Nat → Prop) (g : Nat) (L : Pairs) (bo : Nat) (o : OpD) : Prop where
  duo : Duo B w W p pu D Du f fu
  lies : Lies W g L
  fg : Free W f fu g
  ob : W.heap[bo]? = some (.cells #[.int .i64 o.kind, .string o.key, .string o.val] 31 (0, 0))
  fo : Free W f fu bo

section
variable {B : Nat} {w W W' : World} {p pu : Nat} {D Du D' : Pairs} {f fu f' : Nat → Prop} {g : Nat} {L L' : Pairs} {bo : Nat} {o : OpD}
theorem St.c0 (s : St B w W p pu D Du f fu g L bo o) : W.cell? ⟨bo, 0, none⟩ = some (.int .i64 o.kind) := (cell_of_row W bo 0 _ _ _ s.ob).trans rfl
theorem St.c1 (s : St B w W p pu D Du f fu g L bo o) : W.cell? ⟨bo, 1, none⟩ = some (.string o.key) := (cell_of_row W bo 1 _ _ _ s.ob).trans rfl
theorem St.c2 (s : St B w W p pu D Du f fu g L bo o) : W.cell? ⟨bo, 2, none⟩ = some (.string o.val) := (cell_of_row W bo 2 _ _ _ s.ob).trans rfl
theorem St.swap (s : St B w W p pu D Du f fu g L bo o) : St B w W pu p Du D fu f g L bo o := ⟨s.duo.swap, s.lies, s.fg.swap, s.ob, s.fo.swap⟩
theorem St.turn (s : St B w W p pu D Du f fu g L bo o) (ht : Tab W' p D' f') (hs : Step f f' W W') : St B w W' p pu D' Du f' fu g L bo o :=
  ⟨s.duo.turn ht hs, s.lies.stays (s.fg.turn hs).2, (s.fg.turn hs).1, (s.fo.turn hs).2.trans s.ob, (s.fo.turn hs).1⟩
theorem St.grow (s : St B w W p pu D Du f fu g L bo o) (hb : Below W.heap.size W W') : St B w W' p pu D Du f fu g L bo o :=
  ⟨s.duo.grow hb, s.lies.stays (s.fg.grow hb).2, (s.fg.grow hb).1, (s.fo.grow hb).2.trans s.ob, (s.fo.grow hb).1⟩
theorem St.drewN (s : St B w W p pu D Du f fu g L bo o) (q : Nat) : St B w (W.drewN q) p pu D Du f fu g L bo o := s.grow ⟨rfl, rfl, rfl, Nat.le_refl _, fun _ _ => rfl⟩
/-- The reference's row is another one now. -/
theorem St.row (s : St B w W p pu D Du f fu g L bo o) {g' cap : Nat} (hr : W'.ownsRow W.heap.size 42 2 (.slice (some ⟨g', 0, none⟩) L'.length cap) L'.length (flat L')) (hb : Below W.heap.size W W') : St B w W' p pu D Du f fu g' L' bo o := by
  have h1 := s.grow hb
  have h2 := Collected.lies hr
  exact ⟨h1.duo, h2.1, s.duo.free h2.2.1 h2.2.2, h1.ob, h1.fo⟩
end

/-- Between two rounds. -/
def Round (B n : Nat) (w : World) (p pu : Nat) (Dk : Nat → Pairs) (m i : Value) (W : World) : Prop :=
  ∃ (k g cap : Nat) (f fu : Nat → Prop), k ≤ n ∧ i = .int .i64 k ∧ m = .slice (some ⟨g, 0, none⟩) (Dk k).length cap ∧ Duo B w W p pu (Dk k) (Dk k) f fu ∧ Lies W g (Dk k) ∧ Free W f fu g

theorem Round.out {B n : Nat} {w : World} {p pu : Nat} {Dk : Nat → Pairs} {m i : Value} {W : World} (h : Round B n w p pu Dk m i W) :
    ∃ (k g cap d : Nat) (D : Pairs) (f fu : Nat → Prop), Dk k = D ∧ k ≤ n ∧ i = .int .i64 k ∧ Hid (D.length = d) ∧ m = .slice (some ⟨g, 0, none⟩) d cap ∧ Hid (Duo B w W p pu D D f fu ∧ Lies W g D ∧ Free W f fu g) := by
  obtain ⟨k, g, cap, f, fu, hk, hi, hm, h1, h2, h3⟩ := h
  exact ⟨k, g, cap, _, _, f, fu, rfl, hk, hi, rfl, hm, h1, h2, h3⟩
theorem Round.mk {B n : Nat} {w : World} {p pu : Nat} {Dk : Nat → Pairs} {m i : Value} {W : World} {k g cap d : Nat} {D D1 D2 : Pairs} {f fu : Nat → Prop} {bo : Nat} {o : OpD} (hD : Dk k = D) (hd : D.length = d) (h1 : D1 = D) (h2 : D2 = D) (hk : k ≤ n) (hi : i = .int .i64 k) (hm : m = .slice (some ⟨g, 0, none⟩) d cap)
    (s : St B w W p pu D1 D2 f fu g D bo o) : Round B n w p pu Dk m i W := by
  subst hD hd h1 h2
  exact ⟨k, g, cap, f, fu, hk, hi, hm, s.duo, s.lies, s.fg⟩

end Go.Proofs.Ytkjkedaifdgjoaa
