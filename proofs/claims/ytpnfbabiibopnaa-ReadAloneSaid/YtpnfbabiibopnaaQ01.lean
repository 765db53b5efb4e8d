/-
  Lot, Foot, Own, Hmap, in one text.
-/
import Derived.Deep.AppendLies
import Derived.WalkKit
import Derived.RegionTactic
import Derived.Test.YtpnfbabiibopnaaProg
import Derived.Tactics
import Derived.WalkLawsBesides
import Derived.LoopTactic
import Derived.BigQuiet
import Derived.Deep.QuietTactic
import Derived.Outline
import Derived.WalkSpells
import Derived.Lib.Hide
import Derived.Laws.StructEq
import Derived.Laws.ResultCell
import Derived.LoopN
import Derived.RangeFuncBox
import Derived.RangeFuncCalls
import Derived.Deep.RegionHeld3
import Derived.Deep.RegionLaw
import Derived.Deep.DrawnRows
import Derived.StillTailTactics
import Derived.Maps.OwnIn
import Derived.Maps.OwnSet
import Derived.Maps.RangeWalk
import Derived.KernelRfl
import Derived.RangeFuncNested
import Derived.RangeFuncBound
import Derived.RangeFuncLeaves
/-! A slice's things as they lie in memory, in a block that may have more room than the slice; append onto such a slice. Nothing of this is of one program. -/
namespace Go.Proofs.Ytpnfbabiibopnaa
open Go Go.RowKit

/-- At v lie n things of so many cells each, whose cells are xs; the block may have more room than the slice. -/
def Lot (W : World) (e : TypeId) (size : Nat) (v : Value) (n : Nat) (xs : List Value) : Prop :=
  xs.length = n * size ∧ ((v = .slice none 0 0 ∧ n = 0) ∨ ∃ g cap cur, v = .slice (some ⟨g, 0, none⟩) n cap ∧ W.heap[g]? = some (.cells cur e (0, 0)) ∧ n ≤ cap ∧ cap ≤ maxLen ∧ cap * size ≤ cur.size ∧ cur.toList.take (n * size) = xs)

section
variable {W W' : World} {e : TypeId} {size n : Nat} {v : Value} {xs : List Value}
theorem Lot.nil (W : World) (e : TypeId) (size : Nat) : Lot W e size (.slice none 0 0) 0 [] := ⟨by simp, .inl ⟨rfl, rfl⟩⟩
theorem Lot.of_owns {B : Nat} (h : W.ownsRow B e size v n xs) : Lot W e size v n xs := by
  refine ⟨h.1, ?_⟩
  rcases h.2 with h0 | ⟨g, cap, cur, hv, _, hg, h1, h2, h3, h4⟩
  · exact .inl h0
  · exact .inr ⟨g, cap, cur, hv, hg, h1, h2, Nat.le_of_eq h3.symm, h4⟩
theorem Lot.stays (h : Lot W e size v n xs) (hb : ∀ k, v.ownBlock = some k → W'.heap[k]? = W.heap[k]?) : Lot W' e size v n xs := by
  refine ⟨h.1, ?_⟩
  rcases h.2 with h0 | ⟨g, cap, cur, rfl, hg, rest⟩
  · exact .inl h0
  · exact .inr ⟨g, cap, cur, rfl, (hb g rfl).trans hg, rest⟩
theorem Lot.lt (h : Lot W e size v n xs) : ∀ k, v.ownBlock = some k → k < W.heap.size := by
  intro k hk
  rcases h.2 with ⟨rfl, _⟩ | ⟨g, cap, cur, rfl, hg, _⟩
  · cases hk
  · obtain rfl : g = k := by simpa [Value.ownBlock] using hk
    exact (Array.getElem?_eq_some_iff.1 hg).1
theorem Lot.below (h : Lot W e size v n xs) (hb : Below W.heap.size W W') : Lot W' e size v n xs := h.stays (fun k hk => hb.block k (h.lt k hk))
theorem Lot.kept {row : Option Nat} (h : Lot W e size v n xs) (hg : W.grownBy W' row) (hne : v.ownBlock = none ∨ v.ownBlock ≠ row) : Lot W' e size v n xs :=
  h.stays (fun k hk => hg.block k (h.lt k hk) (by rcases hne with h0 | h0; · rw [h0] at hk; cases hk
                                                  · rw [← hk]; exact h0))
theorem Lot.tag (h : Lot W e size v n xs) {k : Nat} (hk : v.ownBlock = some k) : ∃ cur, W.heap[k]? = some (.cells cur e (0, 0)) := by
  rcases h.2 with ⟨rfl, _⟩ | ⟨g, cap, cur, rfl, hg, _⟩
  · cases hk
  · obtain rfl : g = k := by simpa [Value.ownBlock] using hk
    exact ⟨cur, hg⟩
theorem Lot.form (h : Lot W e size v n xs) : ∃ a c, v = .slice a n c := by
  rcases h.2 with ⟨rfl, rfl⟩ | ⟨g, cap, cur, rfl, _⟩
  · exact ⟨_, _, rfl⟩
  · exact ⟨_, _, rfl⟩
theorem Lot.cells (h : Lot W e size v n xs) (hn : 0 < n) : ∃ g cap, v = .slice (some ⟨g, 0, none⟩) n cap ∧ ∀ j u, xs[j]? = some u → W.cell? ⟨g, j, none⟩ = some u := by
  rcases h.2 with ⟨_, h0⟩ | ⟨g, cap, cur, rfl, hg, h1, h2, h3, h4⟩
  · omega
  · refine ⟨g, cap, rfl, fun j u hu => ?_⟩
    rw [← h4, List.getElem?_take] at hu
    split at hu
    · rw [cell_of_row W g j cur e (0, 0) hg]; simpa using hu
    · cases hu
end

section
variable {P : Program} (w : World)
/-- append onto such a slice. -/
theorem run_append_lot (t ty e : TypeId) (i : TypeInfo) (z : Value) (size bytes : Nat) (ht : P.underlying t = some (.slice e)) (hi : P.info? e = some i) (hz : i.zero = some z)
    (hsize : i.size = size) (hby : i.bytes = bytes) (hzs : z.cells.size = size)
    (v : Value) (n : Nat) (xs : List Value) (h : Lot w e size v n xs)
    (a : Addr) (m c : Nat) (news : List Value) (hl : news.length = m * size) (hnews : ∀ j u, news[j]? = some u → w.cell? (a.add j) = some u) (h1 : ∀ u ∈ news, u.oneCell' = true)
    (hm : 0 < m) (h63 : n + m ≤ maxLen) (hbytes : (n + m) * bytes ≤ 140737488355328) :
    ∃ g cap w', (Builtin.append_ #[t, t] ty #[v, .slice (some a) m c]).run P w = .ok (.slice (some ⟨g, 0, none⟩) (n + m) cap) w' ∧ Lot w' e size (.slice (some ⟨g, 0, none⟩) (n + m) cap) (n + m) (xs ++ news) ∧ w.grownBy w' v.ownBlock ∧ (v.ownBlock = some g ∨ g = w.heap.size) := by
  subst hsize hby
  have hsmall : n + m ≤ 9223372036854775807 := by simp only [maxLen] at h63; omega
  have hlen : (xs ++ news).length = (n + m) * i.size := by rw [List.length_append, h.1, hl, Nat.add_mul]
  have grown : ∀ (old : Nat) (row : Option Nat), ∀ w', w' = w.drew.alloc (.cells (xs.toArray ++ news.toArray ++ Builtin.zeroCells z.cells (grownCap w (n + m) old e - (n + m))) e) →
      Lot w' e i.size (.slice (some ⟨w.heap.size, 0, none⟩) (n + m) (grownCap w (n + m) old e)) (n + m) (xs ++ news) ∧ w.grownBy w' row := by
    rintro old row w' rfl
    have hge := grownCap_ge w (n + m) old e
    have hcm : grownCap w (n + m) old e ≤ maxLen := grownCap_le_maxLen w (n + m) old e h63
    refine ⟨⟨hlen, .inr ⟨w.heap.size, _, _, rfl, heap_alloc_new w.drew _, hge, hcm, ?_, ?_⟩⟩, ⟨rfl, rfl, rfl, by simp, fun k hk _ => Below.heap_alloc w.drew _ k hk⟩⟩
    · simp only [Array.size_append, List.size_toArray, size_zeroCells, hzs, h.1, hl, ← Nat.add_mul]
      apply Nat.le_of_eq
      congr 1
      omega
    · simp only [Array.toList_append, List.append_assoc]
      rw [← List.append_assoc, ← hlen]
      exact List.take_left
  rcases h.2 with ⟨rfl, rfl⟩ | ⟨g, cap, cur, rfl, hg, hnc, hcm, hcs, htake⟩
  · have hx : xs = [] := List.eq_nil_of_length_eq_zero (by simpa using h.1)
    subst hx
    have hr := run_append_nil (P := P) w t ty e i z ht hi hz a m c news hl hnews (by omega) (by omega) (by have hb := hbytes; simp only [Nat.zero_add] at hb; omega)
    have hgr := grown 0 (Value.ownBlock (.slice none 0 0)) _ rfl
    simp only [Nat.zero_add, List.nil_append, Array.empty_append] at hgr ⊢
    exact ⟨_, _, _, hr, hgr.1, hgr.2, .inr rfl⟩
  · by_cases hroom : n + m ≤ cap
    · have hfit : n * i.size + news.length ≤ cur.size := by rw [hl, ← Nat.add_mul]; exact Nat.le_trans (Nat.mul_le_mul_right _ hroom) hcs
      have hr := run_append_room (P := P) w t ty e i ht hi g n cap cur hg a m c news hl hnews h1 hroom hfit
      refine ⟨_, _, _, hr, ⟨hlen, .inr ⟨g, cap, _, rfl, setRow_heap w g cur _ e _ hg, hroom, hcm, ?_, ?_⟩⟩, ⟨rfl, rfl, rfl, by simp, fun k _ hk => setRow_other w g k _ (fun e => hk (by simp [Value.ownBlock, e]))⟩, .inl rfl⟩
      · simp only [List.size_toArray, List.length_append, List.length_take, List.length_drop, Array.length_toList]
        omega
      · rw [htake, ← hlen]
        exact List.take_left
    · have holds : ∀ j u, xs[j]? = some u → w.cell? ((⟨g, 0, none⟩ : Addr).add j) = some u := by
        intro j u hu
        have hadd : (⟨g, 0, none⟩ : Addr).add j = ⟨g, j, none⟩ := by unfold Addr.add; split <;> simp_all
        rw [hadd, cell_of_row w g j cur e (0, 0) hg]
        rw [← htake, List.getElem?_take] at hu
        split at hu
        · simpa using hu
        · cases hu
      have hr := run_append_grow (P := P) w t ty e i z ht hi hz ⟨g, 0, none⟩ n cap xs h.1 holds a m c news hl hnews (by omega) (by omega) (growslice_fits (by omega) hbytes)
      have hgr := grown cap (Value.ownBlock (.slice (some ⟨g, 0, none⟩) n cap)) _ rfl
      exact ⟨_, _, _, hr, hgr.1, hgr.2, .inr rfl⟩

theorem wp_append_lot {o : Oper} {a : Act} {K : Act → World → Prop} {Q : Exit → Act → World → Prop} (s x : Operand) (t : TypeId)
    (ho : o.op = .call { callee := .builtin .append, args := #[s, x], argTypes := #[t, t] })
    (e : TypeId) (i : TypeInfo) (z : Value) (size bytes : Nat) (ht : P.underlying t = some (.slice e)) (hi : P.info? e = some i) (hz : i.zero = some z)
    (hsize : i.size = size) (hby : i.bytes = bytes) (hzs : z.cells.size = size)
    (v : Value) (n : Nat) (xs : List Value) (hs : a.eval s = v) (hown : Lot w e size v n xs)
    (ad : Addr) (m c : Nat) (news : List Value) (hx : a.eval x = .slice (some ad) m c) (hl : news.length = m * size) (hnews : ∀ j u, news[j]? = some u → w.cell? (ad.add j) = some u) (h1 : ∀ u ∈ news, u.oneCell' = true)
    (hm : 0 < m) (h63 : n + m ≤ maxLen) (hbytes : (n + m) * bytes ≤ 140737488355328) (H : Nat) (hH : w.heap.size = H)
    (h : ∀ g cap w', Lot w' e size (.slice (some ⟨g, 0, none⟩) (n + m) cap) (n + m) (xs ++ news) → w.grownBy w' v.ownBlock → (v.ownBlock = some g ∨ g = H) → K (a.put o.dst (.slice (some ⟨g, 0, none⟩) (n + m) cap)) w') : o.wp P a w K Q := by
  obtain ⟨g, cap, w', hr, h2, h3, h4⟩ := run_append_lot (P := P) w t o.type e i z size bytes ht hi hz hsize hby hzs v n xs hown ad m c news hl hnews h1 hm h63 hbytes
  unfold Oper.wp execOp
  simp only [ho, resolve, invoke, builtin, Sem.run_bind, Sem.run_pure, Result.andThen_ok, List.map_toArray, List.map_cons, List.map_nil, hs, hx, hr]
  exact h g cap w' h2 h3 (by rw [← hH]; exact h4)

/-- At the list of a plain region's operations. -/
theorem wpList_append_lot {ops : Array Oper} {rest : List Oper} {o : Oper} {a : Act} {Q : Exit → Act → World → Prop} (hgd : o.guard = none) (s x : Operand) (t : TypeId)
    (ho : o.op = .call { callee := .builtin .append, args := #[s, x], argTypes := #[t, t] })
    (e : TypeId) (i : TypeInfo) (z : Value) (size bytes : Nat) (ht : P.underlying t = some (.slice e)) (hi : P.info? e = some i) (hz : i.zero = some z)
    (hsize : i.size = size) (hby : i.bytes = bytes) (hzs : z.cells.size = size)
    (v : Value) (n : Nat) (xs : List Value) (hs : a.eval s = v) (hown : Lot w e size v n xs)
    (ad : Addr) (m c : Nat) (news : List Value) (hx : a.eval x = .slice (some ad) m c) (hl : news.length = m * size) (hnews : ∀ j u, news[j]? = some u → w.cell? (ad.add j) = some u) (h1 : ∀ u ∈ news, u.oneCell' = true)
    (hm : 0 < m) (h63 : n + m ≤ maxLen) (hbytes : (n + m) * bytes ≤ 140737488355328) (H : Nat) (hH : w.heap.size = H)
    (h : ∀ g cap w', Lot w' e size (.slice (some ⟨g, 0, none⟩) (n + m) cap) (n + m) (xs ++ news) → w.grownBy w' v.ownBlock → (v.ownBlock = some g ∨ g = H) → wpList P ops Q rest (a.put o.dst (.slice (some ⟨g, 0, none⟩) (n + m) cap)) w') : wpList P ops Q (o :: rest) a w :=
  wpList_plain hgd fun _ hK => wp_append_lot w s x t ho e i z size bytes ht hi hz hsize hby hzs v n xs hs hown ad m c news hx hl hnews h1 hm h63 hbytes H hH fun g cap w' h2 h3 h4 => hK _ _ (h g cap w' h2 h3 h4)

/-- At a step of a region that draws its order. -/
theorem step_append_lot {ops : Array Oper} {o : Oper} {a : Act} {K : Act → World → Prop} {Q : Exit → Act → World → Prop} {E : Prop} (hgd : o.guard = none) (s x : Operand) (t : TypeId)
    (ho : o.op = .call { callee := .builtin .append, args := #[s, x], argTypes := #[t, t] })
    (e : TypeId) (i : TypeInfo) (z : Value) (size bytes : Nat) (ht : P.underlying t = some (.slice e)) (hi : P.info? e = some i) (hz : i.zero = some z)
    (hsize : i.size = size) (hby : i.bytes = bytes) (hzs : z.cells.size = size)
    (v : Value) (n : Nat) (xs : List Value) (hs : a.eval s = v) (hown : Lot w e size v n xs)
    (ad : Addr) (m c : Nat) (news : List Value) (hx : a.eval x = .slice (some ad) m c) (hl : news.length = m * size) (hnews : ∀ j u, news[j]? = some u → w.cell? (ad.add j) = some u) (h1 : ∀ u ∈ news, u.oneCell' = true)
    (hm : 0 < m) (h63 : n + m ≤ maxLen) (hbytes : (n + m) * bytes ≤ 140737488355328) (H : Nat) (hH : w.heap.size = H)
    (h : ∀ g cap w', Lot w' e size (.slice (some ⟨g, 0, none⟩) (n + m) cap) (n + m) (xs ++ news) → w.grownBy w' v.ownBlock → (v.ownBlock = some g ∨ g = H) → K (a.put o.dst (.slice (some ⟨g, 0, none⟩) (n + m) cap)) w') :
    if Region.wanted o (yielded ops a.tmps) = true then Oper.wp P o a w K Q else E := by
  have hw : Region.wanted o (yielded ops a.tmps) = true := by simp [Region.wanted, hgd]
  rw [if_pos hw]
  exact wp_append_lot w s x t ho e i z size bytes ht hi hz hsize hby hzs v n xs hs hown ad m c news hx hl hnews h1 hm h63 hbytes H hH h
end

end Go.Proofs.Ytpnfbabiibopnaa

/-! What a call may turn, by the blocks that it may write to; small words on memory. Nothing of this is of one program but the imports. -/
namespace Go.Proofs.Ytpnfbabiibopnaa
open Go Go.RowKit

/-- An answer; what lay lies as it lay. -/
def Says (b : Bool) (w : World) (e : Ending) (w' : World) : Prop := e = .returned (.bool b) ∧ Below w.heap.size w w'
theorem Says.mk {b c : Bool} {w w' : World} (h : c = b) (hb : Below w.heap.size w w') : Says b w (.returned (.bool c)) w' := by subst h; exact ⟨rfl, hb⟩
theorem below_alloc (w : World) (o : Obj) : Below w.heap.size w (w.alloc o) := (Below.refl _ w).alloc (Nat.le_refl _) o
theorem below_draws (w : World) (q : Nat) : Below w.heap.size w (w.drewN q) := ⟨rfl, rfl, rfl, Nat.le_refl _, fun _ _ => rfl⟩
theorem below_drew (w : World) : Below w.heap.size w w.drew := below_draws w 1
theorem cell_lt {W : World} {b o : Nat} {v : Value} (h : W.cell? ⟨b, o, none⟩ = some v) : b < W.heap.size := World.block_lt_of_cell? W ⟨b, o, none⟩ h
theorem cell_of {W : World} {b i : Nat} {cs : Array Value} {t : TypeId} (h : W.heap[b]? = some (.cells cs t (0, 0))) : W.cell? ⟨b, i, none⟩ = cs[i]? := by simp [World.cell?, h]
theorem heap_setAt {W : World} {p o : Nat} {u : Value} {cs : Array Value} {t : TypeId} {fr : Nat × Nat} (h : W.heap[p]? = some (.cells cs t fr)) : (W.setCell ⟨p, o, none⟩ u).heap[p]? = some (.cells (cs.setIfInBounds o u) t fr) := by
  obtain ⟨hlt, hk⟩ := Array.getElem?_eq_some_iff.1 h
  show (W.heap.modify p _)[p]? = _
  rw [Array.getElem?_eq_getElem (by rw [Array.size_modify]; exact hlt), Array.getElem_modify_self, hk]
  rfl
theorem heap_at_lt {W : World} {p : Nat} {o : Obj} (h : W.heap[p]? = some o) : p < W.heap.size := (Array.getElem?_eq_some_iff.1 h).1

/-- From W to W' no block that lay has turned but those of f; what is owned then (f') was owned, or is new. -/
structure Step (f f' : Nat → Prop) (W W' : World) : Prop where
  os : W'.os = W.os
  tape : W'.tape = W.tape
  output : W'.output = W.output
  size : W.heap.size ≤ W'.heap.size
  block : ∀ k, k < W.heap.size → ¬ f k → W'.heap[k]? = W.heap[k]?
  foot : ∀ k, f' k → f k ∨ W.heap.size ≤ k
theorem Step.trans {f g h : Nat → Prop} {A B C : World} (p : Step f g A B) (q : Step g h B C) : Step f h A C :=
  ⟨q.os.trans p.os, q.tape.trans p.tape, q.output.trans p.output, Nat.le_trans p.size q.size,
    fun k hk hf => (q.block k (Nat.lt_of_lt_of_le hk p.size) (fun hg => (p.foot k hg).elim hf (fun h => absurd hk (Nat.not_lt.2 h)))).trans (p.block k hk hf),
    fun k hk => (q.foot k hk).elim (fun hg => p.foot k hg) (fun h => .inr (Nat.le_trans p.size h))⟩
theorem Step.of_below {f : Nat → Prop} {A B : World} (h : Below A.heap.size A B) : Step f f A B := ⟨h.os, h.tape, h.output, h.size, fun k hk _ => h.block k hk, fun _ h => .inl h⟩
theorem Step.below {f f' : Nat → Prop} {A B : World} (p : Step f f' A B) {n : Nat} (hn : n ≤ A.heap.size) (h : ∀ k, k < n → ¬ f k) : Below n A B :=
  ⟨p.os, p.tape, p.output, p.size, fun k hk => p.block k (by omega) (h k hk)⟩
theorem Step.refl (f : Nat → Prop) (W : World) : Step f f W W := Step.of_below (Below.refl _ _)
theorem Step.off {f f' : Nat → Prop} {A B : World} (h : Step f f' A B) {k : Nat} (hk : k < A.heap.size) (hf : ¬ f k) : ¬ f' k := fun h' => by
  rcases h.foot k h' with h0 | h0
  · exact hf h0
  · omega
/-- One block alone was written. -/
theorem Step.of_grown {f : Nat → Prop} {A B : World} {r : Nat} (h : A.grownBy B (some r)) (hr : f r) : Step f f A B :=
  ⟨h.os, h.tape, h.output, h.size, fun k hk hn => h.block k hk (fun e => hn (by cases e; exact hr)), fun _ h => .inl h⟩
theorem Step.setCell {f : Nat → Prop} {A : World} {r o : Nat} (u : Value) (hr : f r) : Step f f A (A.setCell ⟨r, o, none⟩ u) :=
  ⟨rfl, rfl, rfl, by simp [World.setCell], fun k _ hn => Below.heap_setCell _ _ _ _ (fun e => hn (by rw [e]; exact hr)), fun _ h => .inl h⟩

end Go.Proofs.Ytpnfbabiibopnaa

/-! An iterator that has things of its own which it turns between its rounds (a heap, a routine), and the law of 'for x := range seq' over it: nothing of this is of one program.
  The caller names the blocks that are its own (f), the iterator those that are its own (g) and those that it reads (ro): each party leaves the other's alone. -/
namespace Go.Proofs.Ytpnfbabiibopnaa
open Go Go.RowKit

theorem Step.putObj {f f' : Nat → Prop} {A B : World} (p : Step f f' A B) {l : Nat} (hl : A.heap.size ≤ l) (o : Obj) : Step f f' A (B.putObj l o) :=
  ⟨p.os, p.tape, p.output, Nat.le_trans p.size (by simp), fun k hk hn => (World.putObj_heap_other (by omega)).trans (p.block k hk hn), p.foot⟩

/-- The invariant hangs on the blocks of its footprint alone. -/
def Stable {β : Type} (J : β → (Nat → Prop) → World → Prop) : Prop :=
  ∀ s f W W', J s f W → W.heap.size ≤ W'.heap.size → (∀ k, f k → W'.heap[k]? = W.heap[k]?) → J s f W'

/-- The footprint lies within the heap. -/
def Bound {β : Type} (J : β → (Nat → Prop) → World → Prop) : Prop := ∀ s f W, J s f W → ∀ k, f k → k < W.heap.size

variable {F : Fence} {n : Nat} {P : Program}

/-- How a round may end: 'go on', or 'no more'. -/
def RoundEnds {α : Type} (J Jx : List α → (Nat → Prop) → World → Prop) (ys : List α) (f : Nat → Prop) (W : World) (e : Ending) (W' : World) : Prop :=
  (e = .returned (.bool true) ∧ ∃ f', Step f f' W W' ∧ J ys f' W') ∨ (e = .returned (.bool false) ∧ ∃ f', Step f f' W W' ∧ Jx ys f' W')

/-- How the body of a round may be left. -/
def footPost {α : Type} (I : List α → (Nat → Prop) → World → Prop) (Ix : Code → List α → (Nat → Prop) → World → Prop) (ys : List α) (f : Nat → Prop) (W : World) : Exit → Act → World → Prop
  | .normal, _, W' => ∃ f', Step f f' W W' ∧ I ys f' W'
  | .ret, _, W' => ∃ f', Step f f' W W' ∧ Ix .ret ys f' W'
  | .exit id, _, W' => ∃ f', Step f f' W W' ∧ Ix (.exit id) ys f' W'
  | .goto t, _, W' => ∃ f', Step f f' W W' ∧ Ix (.goto t) ys f' W'
  | .panic _, _, _ => False
  | .outgrown, _, _ => False

/-- What the iterator has hangs on its own blocks, and on those that it reads. -/
def StableO (Own : Nat → (Nat → Prop) → World → Prop) (ro : Nat → Prop) : Prop :=
  ∀ j g W W', Own j g W → W.heap.size ≤ W'.heap.size → (∀ k, g k ∨ ro k → W'.heap[k]? = W.heap[k]?) → Own j g W'
def BoundO (Own : Nat → (Nat → Prop) → World → Prop) (ro : Nat → Prop) : Prop := ∀ j g W, Own j g W → ∀ k, g k ∨ ro k → k < W.heap.size

/-- How the iterator may end: all have come, or it was stopped; what it has then. -/
def OwnEnds {α : Type} (J Jx : List α → (Nat → Prop) → World → Prop) (Own : Nat → (Nat → Prop) → World → Prop) (ro : Nat → Prop) (xs : List α) (f g : Nat → Prop) (W : World) (e : Ending) (W' : World) : Prop :=
  (∃ v, e = .returned v) ∧ ∃ pre f' g', Step (fun k => f k ∨ g k) (fun k => f' k ∨ g' k) W W' ∧ (∀ k, f' k → ¬ g' k ∧ ¬ ro k) ∧ Own pre.length g' W' ∧ ((pre = xs ∧ J pre f' W') ∨ (pre <+: xs ∧ Jx pre f' W'))

/-- **THE CONTRACT OF SUCH AN ITERATOR**, function gf with the captured values lb: it hands out xs, one behind the other; behind j of them it has Own j. -/
def IterO {α : Type} (F : Fence) (n : Nat) (P : Program) (gf : Nat) (lb : Array Value) (encs : α → Array Value) (xs : List α) (Own : Nat → (Nat → Prop) → World → Prop) (ro : Nat → Prop) : Prop :=
  ∀ (l : Nat) (J Jx : List α → (Nat → Prop) → World → Prop) (W : World) (f g : Nat → Prop), Stable J → Stable Jx → Bound J → Own 0 g W → (∀ k, f k → ¬ g k ∧ ¬ ro k) →
    (∀ pre x post f1 W1, xs = pre ++ x :: post → J pre f1 W1 → YieldAt F (n - 1) P l (encs x) W1 (RoundEnds J Jx (pre ++ [x]) f1 W1)) →
    J [] f W →
    CallsIn F n P gf (#[.func (.yield l) #[] #[]] ++ lb) W (OwnEnds J Jx Own ro xs f g W)

/-- **THE STATEMENT 'for x := range seq { body }' OVER SUCH AN ITERATOR, whose variables are boxed: the assignment lays blocks.** -/
theorem wpIn_rangeFunc_own {α : Type} {go : Operand} {ps : Array Tmp} {assign body : Code} {Q : Exit → Act → World → Prop} {a : Act} {w : World}
    (hro : F.round = none) (h1 : 1 ≤ n) {gf : Nat} {lb : Array Value} (hg : a.eval go = .func (.func gf) #[] lb) (hFg : F.fn gf) (eg : ∀ args w, (callFunc gf args).run P w = .ok (.enter gf args) w)
    {encs : α → Array Value} {xs : List α} {Own : Nat → (Nat → Prop) → World → Prop} {ro : Nat → Prop} (hOS : StableO Own ro) (hOB : BoundO Own ro) (hseq : IterO F (n - 1) P gf lb encs xs Own ro) (hps : ∀ x, (encs x).size = ps.size)
    (I : List α → (Nat → Prop) → World → Prop) (Ix : Code → List α → (Nat → Prop) → World → Prop) (hI : Stable I) (hIx : ∀ c, Stable (Ix c)) (bI : Bound I) (f g : Nat → Prop) (h0 : I [] f w) (hO0 : Own 0 g w) (hap : ∀ k, f k → ¬ g k ∧ ¬ ro k) (A₁ : α → Nat → Act → World → Prop)
    (hA : ∀ x m a' W W', A₁ x m a' W → W'.heap.size = W.heap.size → (∀ k, m ≤ k → W'.heap[k]? = W.heap[k]?) → A₁ x m a' W')
    (hassign : ∀ (l : Nat) (x : α) (W : World) (K : Act → World → Prop), (∀ a' W', Below W.heap.size W W' → A₁ x W.heap.size a' W' → K a' W') →
      assign.wpIn (F.inRound l) (n - 1 - 1) P (Exit.then K (fun _ _ _ => False)) { tmps := (ps.zip (encs x)).foldl (fun t (p, v) => t.setIfInBounds p v) a.tmps, defers := [] } W)
    (hbody : ∀ (l : Nat) (pre : List α) (x : α) (post : List α) (f1 : Nat → Prop) (a' : Act) (W : World) (m : Nat), xs = pre ++ x :: post → I pre f1 W → A₁ x m a' W → w.heap.size ≤ m → m ≤ W.heap.size → (∀ k, f1 k → k < m) →
      body.wpIn (F.inRound l) (n - 1 - 1) P (footPost I Ix (pre ++ [x]) f1 W) a' W)
    (hdone : ∀ (D : Nat) (f' g' : Nat → Prop) (W : World), w.heap.size ≤ D → ¬ f' D → ¬ g' D → ¬ ro D → Step (fun k => f k ∨ g k) (fun k => f' k ∨ g' k) w W → (∀ k, f' k → ¬ g' k ∧ ¬ ro k) → I xs f' W → Own xs.length g' W → W.heap[D]? = some (.deferred (some [])) → Q .normal { a with defers := { target := .collected D, args := #[] } :: a.defers } W)
    (hstop : ∀ (D : Nat) (c : Code) (pre : List α) (f' g' : Nat → Prop) (W : World), w.heap.size ≤ D → ¬ f' D → ¬ g' D → ¬ ro D → Step (fun k => f k ∨ g k) (fun k => f' k ∨ g' k) w W → (∀ k, f' k → ¬ g' k ∧ ¬ ro k) → pre <+: xs → Ix c pre f' W → Own pre.length g' W → W.heap[D]? = some (.deferred (some [])) →
      c.wpIn F n P Q { a with defers := { target := .collected D, args := #[] } :: a.defers } W) :
    (Code.rangeFunc go ps assign body).wpIn F n P Q a w := by
  refine wpIn_rangeFunc ?_
  intro fn hfn
  rw [hro]
  obtain ⟨rec, hrec⟩ : ∃ rec : LoopState → Option Code → Loop, rec = fun st pe => { state := st, pending := pe, fn, tmps := a.tmps, params := ps, assign, body, defers := w.heap.size } := ⟨_, rfl⟩
  obtain ⟨W1, hW1⟩ : ∃ W1, (w.alloc (.deferred (some []))).alloc (.loop (rec .ready none)) = W1 := ⟨_, rfl⟩
  have hL1 : W1.heap[w.heap.size + 1]? = some (.loop (rec .ready none)) := by
    rw [← hW1]; have := World.alloc_heap_new (w.alloc (.deferred (some []))) (.loop (rec .ready none)); rwa [World.size_alloc] at this
  have hK1 : W1.heap[w.heap.size]? = some (.deferred (some [])) := by
    rw [← hW1]; exact (Below.heap_alloc _ _ _ (by simp)).trans (World.alloc_heap_new w _)
  have hB1 : Below w.heap.size w W1 := by rw [← hW1]; exact ((Below.refl _ w).alloc (Nat.le_refl _) _).alloc (by simp) _
  have hI1 : I [] f W1 := hI _ _ _ _ h0 hB1.size (fun k hk => hB1.block k (bI _ _ _ h0 k hk))
  have hnD : ∀ k, w.heap.size ≤ k → ¬ f k := fun k hk hf => absurd (bI _ _ _ h0 k hf) (Nat.not_lt.2 hk)
  have hs1 : W1.heap.size = w.heap.size + 1 + 1 := by rw [← hW1]; simp
  have hO1 : Own 0 g W1 := hOS _ _ _ _ hO0 hB1.size (fun k hk => hB1.block k (hOB _ _ _ hO0 k hk))
  have hgl : ∀ k, g k ∨ ro k → k < w.heap.size := hOB _ _ _ hO0
  refine ⟨w.heap.size + 1, [{ target := .collected w.heap.size, args := #[] }], W1, { target := .fn (.func gf) lb, args := #[.func (.yield (w.heap.size + 1)) #[] #[]] }, W1, gf,
    #[.func (.yield (w.heap.size + 1)) #[] #[]] ++ lb, W1, ?_, ?_, ?_, ?_, fun _ => h1, ?_⟩
  · rw [← hW1, hrec]; exact run_enterLoop_outer _ _ _ _ _
  · simp only [resolve, hg]
    simp [go_sem]
  · intro f' hf'; simp [Target.leads] at hf'; subst hf'; exact hFg
  · simp [invoke, go_sem, eg]
  · refine (hseq (w.heap.size + 1)
      (fun pre fp W => ∃ f1, fp = (fun k => f1 k ∨ k = w.heap.size ∨ k = w.heap.size + 1) ∧ I pre f1 W ∧ W.heap[w.heap.size + 1]? = some (.loop (rec .ready none)) ∧ W.heap[w.heap.size]? = some (.deferred (some [])) ∧ ¬ f1 w.heap.size ∧ ¬ f1 (w.heap.size + 1))
      (fun pre fp W => ∃ c f1, fp = (fun k => f1 k ∨ k = w.heap.size ∨ k = w.heap.size + 1) ∧ Ix c pre f1 W ∧ W.heap[w.heap.size + 1]? = some (.loop (rec .done (some c))) ∧ W.heap[w.heap.size]? = some (.deferred (some [])) ∧ ¬ f1 w.heap.size ∧ ¬ f1 (w.heap.size + 1))
      W1 (fun k => f k ∨ k = w.heap.size ∨ k = w.heap.size + 1) g ?_ ?_ ?_ hO1 ?_ ?_ ⟨f, rfl, hI1, hL1, hK1, hnD _ (Nat.le_refl _), hnD _ (by omega)⟩).mono ?_
    · rintro s fp A B ⟨f1, rfl, hi, hl, hk, n1, n2⟩ hsz hbl
      exact ⟨f1, rfl, hI _ _ _ _ hi hsz (fun k hk => hbl k (.inl hk)), (hbl _ (.inr (.inr rfl))).trans hl, (hbl _ (.inr (.inl rfl))).trans hk, n1, n2⟩
    · rintro s fp A B ⟨c, f1, rfl, hi, hl, hk, n1, n2⟩ hsz hbl
      exact ⟨c, f1, rfl, hIx c _ _ _ _ hi hsz (fun k hk => hbl k (.inl hk)), (hbl _ (.inr (.inr rfl))).trans hl, (hbl _ (.inr (.inl rfl))).trans hk, n1, n2⟩
    · rintro s fp A ⟨f1, rfl, hi, hl, hk, n1, n2⟩ k hk'
      rcases hk' with h | rfl | rfl
      · exact bI _ _ _ hi k h
      · exact (Array.getElem?_eq_some_iff.1 hk).1
      · exact (Array.getElem?_eq_some_iff.1 hl).1
    · rintro k (hk | rfl | rfl)
      · exact hap k hk
      · exact ⟨fun h => by have := hgl _ (.inl h); omega, fun h => by have := hgl _ (.inr h); omega⟩
      · exact ⟨fun h => by have := hgl _ (.inl h); omega, fun h => by have := hgl _ (.inr h); omega⟩
    · -- ONE ROUND
      rintro pre x post fp W hxs ⟨f1, rfl, hi, hl, hk, n1, n2⟩
      have hlt : w.heap.size + 1 < W.heap.size := (Array.getElem?_eq_some_iff.1 hl).1
      have hy := run_yield (P := P) (args := encs x) hl (by rw [hrec]; exact hps x)
      rw [hrec] at hy
      refine ⟨fn, _, assign, body, hy, roundIn_of_wpIn hfn (hassign _ x W _ ?_)⟩
      intro a' W' hbel hA'
      have hI0 := hi
      have hlW := hl
      replace hl : W'.heap[w.heap.size + 1]? = some (.loop (rec .ready none)) := (hbel.block _ hlt).trans hl
      replace hk : W'.heap[w.heap.size]? = some (.deferred (some [])) := (hbel.block _ (by omega)).trans hk
      replace hi : I pre f1 W' := hI _ _ _ _ hi hbel.size (fun k hkf => hbel.block k (bI _ _ _ hI0 k hkf))
      have hlt' : w.heap.size + 1 < W'.heap.size := Nat.lt_of_lt_of_le hlt hbel.size
      refine ⟨_, run_beginRound hl (by rw [hrec]), ?_⟩
      have hl2 : (W'.putObj (w.heap.size + 1) (.loop { rec .ready none with state := .busy })).heap[w.heap.size + 1]? = some (.loop { rec .ready none with state := .busy }) := World.putObj_heap_same hlt'
      have hk2 : (W'.putObj (w.heap.size + 1) (.loop { rec .ready none with state := .busy })).heap[w.heap.size]? = some (.deferred (some [])) := (World.putObj_heap_other (by omega)).trans hk
      have hi2 : I pre f1 (W'.putObj (w.heap.size + 1) (.loop { rec .ready none with state := .busy })) := hI _ _ _ _ hi (by simp) (fun k hkf => World.putObj_heap_other (fun e => n2 (e ▸ hkf)))
      have hA2 : A₁ x W.heap.size a' (W'.putObj (w.heap.size + 1) (.loop { rec .ready none with state := .busy })) := hA _ _ _ _ _ hA' (by simp) (fun k hk' => World.putObj_heap_other (by omega))
      refine wpIn_mono (hbody _ pre x post f1 a' _ W.heap.size hxs hi2 hA2 (by omega) (by simpa using hbel.size) (bI _ _ _ hI0)) ?_
      have fin : ∀ (jump : Option Code) (f2 : Nat → Prop) (W3 : World), Step f1 f2 (W'.putObj (w.heap.size + 1) (.loop { rec .ready none with state := .busy })) W3 →
          (Instr.endRound (w.heap.size + 1) jump).run P W3 = .ok (.bool jump.isNone) (W3.putObj (w.heap.size + 1) (.loop (rec (if jump.isNone then .ready else .done) jump))) ∧
          (W3.putObj (w.heap.size + 1) (.loop (rec (if jump.isNone then .ready else .done) jump))).heap[w.heap.size + 1]? = some (.loop (rec (if jump.isNone then .ready else .done) jump)) ∧
          (W3.putObj (w.heap.size + 1) (.loop (rec (if jump.isNone then .ready else .done) jump))).heap[w.heap.size]? = some (.deferred (some [])) ∧
          ¬ f2 w.heap.size ∧ ¬ f2 (w.heap.size + 1) ∧
          Step (fun k => f1 k ∨ k = w.heap.size ∨ k = w.heap.size + 1) (fun k => f2 k ∨ k = w.heap.size ∨ k = w.heap.size + 1) W (W3.putObj (w.heap.size + 1) (.loop (rec (if jump.isNone then .ready else .done) jump))) := fun jump f2 W3 hs3 => by
        refine (show _ ∧ _ ∧ _ ∧ _ ∧ _ ∧ Step (fun k => f1 k ∨ k = w.heap.size ∨ k = w.heap.size + 1) (fun k => f2 k ∨ k = w.heap.size ∨ k = w.heap.size + 1) W' _ → _ from fun ⟨p1, p2, p3, p4, p5, p6⟩ => ⟨p1, p2, p3, p4, p5, (Step.of_below (f := fun k => f1 k ∨ k = w.heap.size ∨ k = w.heap.size + 1) hbel).trans p6⟩) ?_
        have hl3 := (hs3.block _ (by simp; omega) n2).trans hl2
        have hk3 := (hs3.block _ (by simp; omega) n1).trans hk2
        have hs3' := hs3.size
        have := run_endRound (P := P) jump hl3
        rw [hrec] at this ⊢
        refine ⟨this, World.putObj_heap_same (Array.getElem?_eq_some_iff.1 hl3).1, (World.putObj_heap_other (by omega)).trans hk3, fun h => ?_, fun h => ?_, hs3.os, hs3.tape, hs3.output, ?_, fun k hk' hn => ?_, fun k hk' => ?_⟩
        · rcases hs3.foot _ h with h | h
          · exact n1 h
          · simp at h; omega
        · rcases hs3.foot _ h with h | h
          · exact n2 h
          · simp at h; omega
        · simp at hs3' ⊢; omega
        · have hne : k ≠ w.heap.size + 1 := fun e => hn (.inr (.inr e))
          exact (World.putObj_heap_other hne).trans ((hs3.block k (by simpa using hk') (fun h => hn (.inl h))).trans (World.putObj_heap_other hne))
        · rcases hk' with h | h
          · rcases hs3.foot _ h with h | h
            · exact .inl (.inl h)
            · exact .inr (by simpa using h)
          · exact .inl (.inr h)
      rintro e a3 W3 hp
      cases e with
      | normal =>
        obtain ⟨f2, hs3, hi3⟩ := hp
        obtain ⟨hr, hl4, hk4, m1, m2, hst⟩ := fin none f2 W3 hs3
        exact ⟨_, _, hr, .inl ⟨rfl, _, hst, f2, rfl, hI _ _ _ _ hi3 (by simp) (fun k hkf => World.putObj_heap_other (fun e => m2 (e ▸ hkf))), hl4, hk4, m1, m2⟩⟩
      | ret =>
        obtain ⟨f2, hs3, hi3⟩ := hp
        obtain ⟨hr, hl4, hk4, m1, m2, hst⟩ := fin (some .ret) f2 W3 hs3
        exact ⟨_, _, hr, .inr ⟨rfl, _, hst, .ret, f2, rfl, hIx _ _ _ _ _ hi3 (by simp) (fun k hkf => World.putObj_heap_other (fun e => m2 (e ▸ hkf))), hl4, hk4, m1, m2⟩⟩
      | exit id =>
        obtain ⟨f2, hs3, hi3⟩ := hp
        obtain ⟨hr, hl4, hk4, m1, m2, hst⟩ := fin (some (.exit id)) f2 W3 hs3
        exact ⟨_, _, hr, .inr ⟨rfl, _, hst, .exit id, f2, rfl, hIx _ _ _ _ _ hi3 (by simp) (fun k hkf => World.putObj_heap_other (fun e => m2 (e ▸ hkf))), hl4, hk4, m1, m2⟩⟩
      | goto t =>
        obtain ⟨f2, hs3, hi3⟩ := hp
        obtain ⟨hr, hl4, hk4, m1, m2, hst⟩ := fin (some (.goto t)) f2 W3 hs3
        exact ⟨_, _, hr, .inr ⟨rfl, _, hst, .goto t, f2, rfl, hIx _ _ _ _ _ hi3 (by simp) (fun k hkf => World.putObj_heap_other (fun e => m2 (e ▸ hkf))), hl4, hk4, m1, m2⟩⟩
      | panic ch => exact hp.elim
      | outgrown => exact hp.elim
    · -- BEHIND THE ITERATOR
      have back : ∀ (fp f1 g1 : Nat → Prop) (W2 : World) (o : Obj), fp = (fun k => f1 k ∨ k = w.heap.size ∨ k = w.heap.size + 1) → Step (fun k => (f k ∨ k = w.heap.size ∨ k = w.heap.size + 1) ∨ g k) (fun k => fp k ∨ g1 k) W1 W2 →
          Step (fun k => f k ∨ g k) (fun k => f1 k ∨ g1 k) w (W2.putObj (w.heap.size + 1) o) := fun fp f1 g1 W2 o e hst => by
        subst e
        refine Step.putObj ⟨hst.os.trans hB1.os, hst.tape.trans hB1.tape, hst.output.trans hB1.output, Nat.le_trans hB1.size hst.size, fun k hk hn => ?_, fun k hk => ?_⟩ (by omega) o
        · refine (hst.block k (Nat.lt_of_lt_of_le hk hB1.size) (fun h => ?_)).trans (hB1.block k hk)
          rcases h with (h | h | h) | h
          · exact hn (.inl h)
          · omega
          · omega
          · exact hn (.inr h)
        · rcases hst.foot k (hk.elim (fun h => .inl (.inl h)) .inr) with ((h | rfl | rfl) | h) | h
          · exact .inl (.inl h)
          · exact .inr (Nat.le_refl _)
          · exact .inr (by omega)
          · exact .inl (.inr h)
          · exact .inr (by omega)
      rintro e W2 ⟨⟨v, rfl⟩, pre, fp, g1, hst, happ, hown, (⟨rfl, f1, rfl, hi, hl, hk, n1, n2⟩ | ⟨hpx, c, f1, rfl, hi, hl, hk, n1, n2⟩)⟩
      · have hgD := happ w.heap.size (.inr (.inl rfl))
        have hgl1 := happ (w.heap.size + 1) (.inr (.inr rfl))
        exact ⟨none, _, by have := run_endLoop (P := P) hl (by rw [hrec]; simp); rw [hrec] at this; exact this,
          hdone _ f1 g1 _ (Nat.le_refl _) n1 hgD.1 hgD.2 (back _ _ _ _ _ rfl hst) (fun k hk' => happ k (.inl hk')) (hI _ _ _ _ hi (by simp) (fun k hkf => World.putObj_heap_other (fun e => n2 (e ▸ hkf))))
            (hOS _ _ _ _ hown (by simp) (fun k hkg => World.putObj_heap_other (fun e => by subst e; exact hkg.elim hgl1.1 hgl1.2))) ((World.putObj_heap_other (by omega)).trans hk)⟩
      · have hgD := happ w.heap.size (.inr (.inl rfl))
        have hgl1 := happ (w.heap.size + 1) (.inr (.inr rfl))
        exact ⟨some c, _, by have := run_endLoop (P := P) hl (by rw [hrec]; simp); rw [hrec] at this; exact this,
          hstop _ c pre f1 g1 _ (Nat.le_refl _) n1 hgD.1 hgD.2 (back _ _ _ _ _ rfl hst) (fun k hk' => happ k (.inl hk')) hpx (hIx c _ _ _ _ hi (by simp) (fun k hkf => World.putObj_heap_other (fun e => n2 (e ▸ hkf))))
            (hOS _ _ _ _ hown (by simp) (fun k hkg => World.putObj_heap_other (fun e => by subst e; exact hkg.elim hgl1.1 hgl1.2))) ((World.putObj_heap_other (by omega)).trans hk)⟩

theorem yieldAt_any {m : Nat} {l : Nat} {args : Array Value} {W : World} {R : Ending → World → Prop} (hd : F.depth = none) (m' : Nat) (h : YieldAt F m P l args W R) : YieldAt F m' P l args W R := by
  obtain ⟨fn, tmps, assign, body, hy, hF, hR⟩ := h
  exact ⟨fn, tmps, assign, body, hy, hF, fun c cs _ => hR c cs (fun d hd' => by rw [hd] at hd'; cases hd')⟩

end Go.Proofs.Ytpnfbabiibopnaa

/-! A map keyed by words (uint64), told by what stands at each key; nothing is asked of its elements. -/
namespace Go.Proofs.Ytpnfbabiibopnaa
open Go Go.RowKit

/-- How an element reads: as itself. -/
def anyElem (v : Value) : Option (DataW Value × List MemPlace) := some (.held v, [])
theorem law_u64 : Maps.Keyed Try.prog 22 := Maps.int_keyed Try.underlying22
theorem wf_u64 {n : Nat} (h : n < 18446744073709551616) : (Lit.int .u64 (n : Int)).wf = true := by
  simp [Lit.wf, IntKind.min, IntKind.max, IntKind.signed, IntKind.bits]; omega
theorem key_u64 {n : Nat} (h : n < 18446744073709551616) : keyOf Try.prog 22 (.int .u64 (n : Int)) = some (.int .u64 (n : Int)) := Maps.keyOf_int_mk Try.underlying22 (wf_u64 h)

/-- What stands at a key, as the map's reading tells it. -/
def telly (φ : Nat → Option Value) (k : Nat) (z : DataW Value) : DataW Value := match φ k with | some v => .held v | none => z
/-- At m lies a map of at most n entries; at key k stands φ k. -/
def Mapped (W : World) (m n : Nat) (φ : Nat → Option Value) : Prop :=
  ∃ D : DataW Value, W.ownsMap Try.prog 22 anyElem m n D ∧ ∀ k : Nat, k < 18446744073709551616 → ∀ z, D.atKey (.int .u64 (k : Int)) z = telly φ k z

section
variable {W W' : World} {m n : Nat} {φ ψ : Nat → Option Value}
theorem Mapped.lt (h : Mapped W m n φ) : m < W.heap.size := by obtain ⟨D, h, _⟩ := h; exact h.lt
theorem Mapped.stays (h : Mapped W m n φ) (hb : W'.heap[m]? = W.heap[m]?) : Mapped W' m n φ := by
  obtain ⟨D, ⟨es, clock, h1, r⟩, h2⟩ := h
  exact ⟨D, ⟨es, clock, hb.trans h1, r⟩, h2⟩
theorem Mapped.tag (h : Mapped W m n φ) : ∃ es clock, W.heap[m]? = some (.map es clock) := by
  obtain ⟨D, ⟨es, clock, h1, r⟩, h2⟩ := h; exact ⟨es, clock, h1⟩
theorem Mapped.mono {n' : Nat} (h : Mapped W m n φ) (hn : n ≤ n') : Mapped W m n' φ := by
  obtain ⟨D, h1, h2⟩ := h; exact ⟨D, h1.mono hn, h2⟩
theorem Mapped.same (h : Mapped W m n φ) (he : ∀ k, k < 18446744073709551616 → ψ k = φ k) : Mapped W m n ψ := by
  obtain ⟨D, h1, h2⟩ := h; exact ⟨D, h1, fun k hk z => by unfold telly; rw [he k hk]; exact h2 k hk z⟩
theorem Mapped.made (W : World) : Mapped (W.alloc (.map #[] 0)) W.heap.size 0 (fun _ => none) :=
  ⟨.map [], World.ownsMap_made W _ _ _, fun k _ z => by simp [DataW.atKey, telly]⟩

theorem has_of {D : DataW Value} (h2 : ∀ k : Nat, k < 18446744073709551616 → ∀ z, D.atKey (.int .u64 (k : Int)) z = telly φ k z) {k : Nat} (hk : k < 18446744073709551616) : Maps.has D (.int .u64 (k : Int)) = (φ k).isSome := by
  have h := h2 k hk
  unfold telly at h
  cases hp : φ k with
  | none => rw [hp] at h; exact Maps.has_false_of_atKey h
  | some v => rw [hp] at h; exact Maps.has_true_of_atKey h

/-- A zero block: no cells, no text. -/
abbrev zeroB : Value := .agg #[.slice none 0 0, .string ⟨#[]⟩]
theorem zero_block (w : World) : (zeroValue 119).run Try.prog w = .ok zeroB w := Try.zeroValue119 w

theorem Mapped.look (h : Mapped W m n φ) (k : Nat) (hk : k < 18446744073709551616) : (Instr.lookup 99 (.map (some m)) (.int .u64 (k : Int)) true).run Try.prog W = .ok (.tuple #[(φ k).getD zeroB, .bool (φ k).isSome]) W := by
  obtain ⟨D, h1, h2⟩ := h
  obtain ⟨v, ps, hr, hv⟩ := h1.look_ok law_u64 Try.underlying99 (zero_block W) (zd := .held zeroB) (zp := []) rfl (key_u64 hk)
  rw [hr, has_of h2 hk]
  rw [h2 k hk] at hv
  unfold telly at hv
  unfold anyElem at hv
  cases hp : φ k with
  | none => rw [hp] at hv; simp at hv; simp [hv.1]
  | some u => rw [hp] at hv; simp at hv; simp [hv.1]
theorem Mapped.look0 (h : Mapped W m n φ) (k : Nat) (hk : k < 18446744073709551616) : (Instr.lookup 99 (.map (some m)) (.int .u64 (k : Int)) false).run Try.prog W = .ok ((φ k).getD zeroB) W := by
  obtain ⟨D, h1, h2⟩ := h
  obtain ⟨v, ps, hr, hv⟩ := h1.lookup law_u64 Try.underlying99 (zero_block W) (zd := .held zeroB) (zp := []) rfl (key_u64 hk)
  rw [hr]
  rw [h2 k hk] at hv
  unfold telly at hv
  unfold anyElem at hv
  cases hp : φ k with
  | none => rw [hp] at hv; simp at hv; simp [hv.1]
  | some u => rw [hp] at hv; simp at hv; simp [hv.1]
theorem look_none (k : Nat) (hk : k < 18446744073709551616) : (Instr.lookup 99 (.map none) (.int .u64 (k : Int)) true).run Try.prog W = .ok (.tuple #[zeroB, .bool false]) W :=
  Maps.look_nil true law_u64 Try.underlying99 (zero_block W) (key_u64 hk)
theorem look0_none (k : Nat) (hk : k < 18446744073709551616) : (Instr.lookup 99 (.map none) (.int .u64 (k : Int)) false).run Try.prog W = .ok zeroB W :=
  Maps.look_nil false law_u64 Try.underlying99 (zero_block W) (key_u64 hk)

theorem key_ne {a b : Nat} (h : a ≠ b) : Lit.int .u64 (a : Int) ≠ Lit.int .u64 (b : Int) := fun e => h (by have := (Lit.int.inj e).2; omega)

theorem Mapped.put (h : Mapped W m n φ) (hn : n < maxLen) (x : Nat) (hx : x < 18446744073709551616) (v : Value) : ∃ W', (Instr.mapUpdate 99 (.map (some m)) (.int .u64 (x : Int)) v).run Try.prog W = .ok () W' ∧ Mapped W' m (n + 1) (fun k => if k = x then some v else φ k) ∧ W.grownBy W' (some m) := by
  obtain ⟨D, h1, h2⟩ := h
  obtain ⟨W', hr, ho, hg⟩ := h1.update law_u64 Try.underlying99 hn (val := v) (d := .held v) (ps := []) (key_u64 hx) rfl
  refine ⟨W', hr, ⟨_, ho, fun k hk z => ?_⟩, hg⟩
  unfold telly
  by_cases hkx : k = x
  · subst hkx
    rw [Maps.atKey_put_same h1.isMap (show Go.WideAt.IsKeyLit (.int .u64 (k : Int)) from trivial)]
    simp
  · rw [Maps.atKey_put_other (key_ne hkx), h2 k hk]
    simp [hkx, telly]
theorem Mapped.drop (h : Mapped W m n φ) (x : Nat) (hx : x < 18446744073709551616) (ty : TypeId) : ∃ W', (Builtin.delete_ #[99, 22] ty #[.map (some m), .int .u64 (x : Int)]).run Try.prog W = .ok (.tuple #[]) W' ∧ Mapped W' m n (fun k => if k = x then none else φ k) ∧ W.grownBy W' (some m) := by
  obtain ⟨D, h1, h2⟩ := h
  obtain ⟨W', hr, ho, hg⟩ := h1.drop law_u64 Try.underlying99 (key_u64 hx) ty
  refine ⟨W', hr, ⟨_, ho, fun k hk z => ?_⟩, hg.grown⟩
  unfold telly
  by_cases hkx : k = x
  · subst hkx
    rw [Maps.atKey_del_same]
    simp
  · rw [Maps.atKey_del_other (key_ne hkx), h2 k hk]
    simp [hkx, telly]
/-- How many entries; a map that has one of its keys, and not more than one, has no other. -/
theorem Mapped.len (h : Mapped W m n φ) : ∃ c : Nat, c ≤ n ∧ (∀ ty, (Builtin.len_ #[99] ty #[.map (some m)]).run Try.prog W = .ok (.int .i64 c) W) ∧ (∀ x, x < 18446744073709551616 → (φ x).isSome = true → c ≤ 1 → ∀ k, k < 18446744073709551616 → k ≠ x → φ k = none) := by
  obtain ⟨D, h1, h2⟩ := h
  refine ⟨Maps.size D, h1.size_le, fun ty => h1.len Try.underlying99 ty, fun x hx hs h1' k hk hkx => ?_⟩
  obtain ⟨es, rfl⟩ := h1.isMap
  have e1 := has_of h2 hx
  have e2 := has_of h2 hk
  rw [hs] at e1
  cases hp : φ k with
  | none => rfl
  | some v =>
    rw [hp] at e2
    obtain ⟨p, hp1, hp2⟩ := List.any_eq_true.1 e1
    obtain ⟨q, hq1, hq2⟩ := List.any_eq_true.1 e2
    have hl : es.length ≤ 1 := h1'
    have : p = q := by
      match es, hp1, hq1, hl with
      | [a], hp1, hq1, _ => simp at hp1 hq1; rw [hp1, hq1]
    subst this
    have e3 := (Go.WideAt.sameKey_eq hp2).symm.trans (Go.WideAt.sameKey_eq hq2)
    exact absurd e3.symm (key_ne hkx)
theorem Mapped.clear (h : Mapped W m n φ) (ty : TypeId) : ∃ W', (Builtin.clear_ #[99] ty #[.map (some m)]).run Try.prog W = .ok (.tuple #[]) W' ∧ Mapped W' m n (fun _ => none) ∧ W.grownBy W' (some m) := by
  obtain ⟨D, ⟨es, clock, hb, F, hs, hD⟩, h2⟩ := h
  refine ⟨_, ?_, ⟨.map [], ⟨#[], clock, ChangeMaps.heap_setBlock_same hb _, ⟨by simp, MapKept.stamped_empty clock, by simp⟩, by simp, rfl⟩, fun k _ z => by simp [DataW.atKey, telly]⟩, ⟨rfl, rfl, rfl, by simp [ChangeMaps.setBlock], fun i _ hi => ChangeMaps.heap_setBlock_other hb _ (fun e => hi (by rw [e]))⟩⟩
  · simp [Builtin.clear_, run_underlying Try.underlying99, MapKept.run_getObj_map hb, MapKept.run_setObj_map _ hb, Result.andThen, ChangeMaps.setBlock]
end

end Go.Proofs.Ytpnfbabiibopnaa
