/-
  Names (api.Id) as keys of maps: what they read as; a map of names to bools and a set of names, as they lie in memory.
-/
import Derived.Test.YtkfnndhoccjffaaOpsb
import Derived.Test.YtkfnndhoccjffaaLot
import Derived.DeepKeys4
import Derived.Maps.OwnSet
import Derived.Maps.OwnIn
import Derived.KernelRfl
namespace Go.Proofs.Ytkfnndhoccjffaa
open Go Go.RowKit

/-- A name by its numbers. -/
structure IdD where
  o : Int
  s : Int
deriving DecidableEq
def IdD.fits (a : IdD) : Prop := (-9223372036854775808 ≤ a.o ∧ a.o ≤ 9223372036854775807) ∧ -9223372036854775808 ≤ a.s ∧ a.s ≤ 9223372036854775807
def IdD.cells (a : IdD) : List Value := [.int .i64 a.o, .int .i64 a.s]
abbrev IdD.val (a : IdD) : Value := .agg #[.int .i64 a.o, .int .i64 a.s]

theorem laid_out_b : laidOutB Try.prog = true := by kernel_rfl
theorem id_row : (34 : TypeId) < Try.prog.types.size := of_decide_eq_true (by kernel_rfl)
theorem id_wide : (match Try.prog.underlying 34 with | some (.array _ _) | some (.struct _) => true | _ => false) = true := by rw [Try.underlying34]
theorem law_id : Maps.Keyed Try.prog 34 := Maps.Keyed.of_law (deep_law_laid laid_out_b (m := 2) (by omega) id_row (by kernel_rfl) id_wide)
theorem id_key : Try.prog.keyType 34 = true := by kernel_rfl
theorem id_cells : Try.prog.cellsOf 34 = 2 := by kernel_rfl

/-- What a name reads as. -/
def keyL (a : IdD) : Lit := .string (keyBytes [.int .i64 a.o, .int .i64 a.s])

theorem wf_i64 {n : Int} (h : -9223372036854775808 ≤ n) (h' : n ≤ 9223372036854775807) : (Lit.int .i64 n).wf = true := by
  simp [Lit.wf, IntKind.min, IntKind.max, IntKind.signed, IntKind.bits]; omega

theorem id_lits (a : IdD) (h : a.fits) : Try.prog.keyLits (Try.prog.types.size + 1) 34 [.int .i64 a.o, .int .i64 a.s] = some [.int .i64 a.o, .int .i64 a.s] := by
  obtain ⟨⟨h1, h2⟩, h3, h4⟩ := h
  have w1 := wf_i64 h1 h2
  have w2 := wf_i64 h3 h4
  obtain ⟨m, hm⟩ : ∃ m, Try.prog.types.size = m + 1 := ⟨Try.prog.types.size - 1, by have : 0 < Try.prog.types.size := of_decide_eq_true (by kernel_rfl); omega⟩
  rw [hm]
  have c3 : Try.prog.cellsOf 3 = 1 := by kernel_rfl
  unfold Program.keyLits
  rw [Try.underlying34]
  simp [id_cells, c3, Program.keyLits, Try.underlying3, w1, w2]

theorem keyOf_id (a : IdD) (h : a.fits) : keyOf Try.prog 34 a.val = some (keyL a) := by
  unfold keyOf
  rw [Try.underlying34]
  have hfm : (IdD.val a).formed Try.prog 34 = true := by simp [Value.formed, Try.underlying34, id_cells]
  simp only [id_key, hfm, Bool.and_self, if_true]
  rw [show (IdD.val a).cells.toList = [.int .i64 a.o, .int .i64 a.s] from rfl, id_lits a h]
  rfl

theorem keyL_inj {a b : IdD} (ha : a.fits) (hb : b.fits) (h : keyL a = keyL b) : a = b := by
  have := law_id.inj (keyOf_id a ha) (h ▸ keyOf_id b hb)
  obtain ⟨o, s⟩ := a
  obtain ⟨o', s'⟩ := b
  simpa using this
theorem keyL_isKey (a : IdD) : WideAt.IsKeyLit (keyL a) := trivial

/-! ### names and bools -/
/-- At b lies a map of names in which those of L, and no others, are true. -/
def Named (W : World) (b n : Nat) (L : List IdD) : Prop :=
  ∃ D : DataW Unit, W.ownsMap Try.prog 34 (plainElem Try.prog 4) b n D ∧ ∀ a : IdD, a.fits → D.atKey (keyL a) (.lit (.bool false)) = .lit (.bool (decide (a ∈ L)))
/-- At b lies a set of names: those of L. -/
def Setted (W : World) (b n : Nat) (L : List IdD) : Prop :=
  ∃ D : DataW Unit, W.ownsMap Try.prog 34 unitElem b n D ∧ ∀ a : IdD, a.fits → Maps.has D (keyL a) = decide (a ∈ L)

theorem zero_bool (w : World) : (zeroValue 4).run Try.prog w = .ok (.bool false) w := Try.zeroValue4 w

section
variable {W W' : World} {b n : Nat} {L : List IdD}
theorem Named.lt (h : Named W b n L) : b < W.heap.size := by obtain ⟨D, h, _⟩ := h; exact h.lt
theorem Setted.lt (h : Setted W b n L) : b < W.heap.size := by obtain ⟨D, h, _⟩ := h; exact h.lt
theorem Named.stays (h : Named W b n L) (hb : W'.heap[b]? = W.heap[b]?) : Named W' b n L := by
  obtain ⟨D, ⟨es, clock, h1, r⟩, h2⟩ := h
  exact ⟨D, ⟨es, clock, hb.trans h1, r⟩, h2⟩
theorem Setted.stays (h : Setted W b n L) (hb : W'.heap[b]? = W.heap[b]?) : Setted W' b n L := by
  obtain ⟨D, ⟨es, clock, h1, r⟩, h2⟩ := h
  exact ⟨D, ⟨es, clock, hb.trans h1, r⟩, h2⟩
theorem Named.tag (h : Named W b n L) : ∃ es clock, W.heap[b]? = some (.map es clock) := by
  obtain ⟨D, ⟨es, clock, h1, r⟩, h2⟩ := h; exact ⟨es, clock, h1⟩
theorem Setted.tag (h : Setted W b n L) : ∃ es clock, W.heap[b]? = some (.map es clock) := by
  obtain ⟨D, ⟨es, clock, h1, r⟩, h2⟩ := h; exact ⟨es, clock, h1⟩
theorem Named.mem {L' : List IdD} (h : Named W b n L) (hl : ∀ a, a ∈ L' ↔ a ∈ L) : Named W b n L' := by
  obtain ⟨D, h1, h2⟩ := h
  refine ⟨D, h1, fun a ha => ?_⟩
  rw [h2 a ha]
  simp only [hl a]
theorem Named.mono {n' : Nat} (h : Named W b n L) (hn : n ≤ n') : Named W b n' L := by
  obtain ⟨D, h1, h2⟩ := h; exact ⟨D, h1.mono hn, h2⟩
theorem Named.made (W : World) : Named (W.alloc (.map #[] 0)) W.heap.size 0 [] :=
  ⟨.map [], World.ownsMap_made W _ _ _, fun a _ => by simp [DataW.atKey]⟩
theorem Setted.made (W : World) : Setted (W.alloc (.map #[] 0)) W.heap.size 0 [] :=
  ⟨.map [], World.ownsMap_made W _ _ _, fun a _ => by simp [Maps.has]⟩

theorem plainElem_bool_inv' {v : Value} {c : Bool} {ps : List MemPlace} (h : plainElem (H := Unit) Try.prog 4 v = some (.lit (.bool c), ps)) : v = .bool c := by
  unfold plainElem at h
  rw [Try.underlying4] at h
  cases v <;> simp at h
  rw [h.1]

theorem Named.look (h : Named W b n L) (a : IdD) (ha : a.fits) : (Instr.lookup 28 (.map (some b)) a.val false).run Try.prog W = .ok (.bool (decide (a ∈ L))) W := by
  obtain ⟨D, h1, h2⟩ := h
  obtain ⟨v, ps, hr, hv⟩ := h1.lookup law_id Try.underlying28 (zero_bool W) (plainElem_bool (H := Unit) Try.underlying4 false) (keyOf_id a ha)
  rw [h2 a ha] at hv
  rw [hr, plainElem_bool_inv' hv]

theorem Named.put (h : Named W b n L) (hn : n < maxLen) (x : IdD) (hx : x.fits) : ∃ W', (Instr.mapUpdate 28 (.map (some b)) x.val (.bool true)).run Try.prog W = .ok () W' ∧ Named W' b (n + 1) (L ++ [x]) ∧ W.grownBy W' (some b) := by
  obtain ⟨D, h1, h2⟩ := h
  obtain ⟨W', hr, ho, hg⟩ := h1.update law_id Try.underlying28 hn (keyOf_id x hx) (plainElem_bool (H := Unit) Try.underlying4 true)
  refine ⟨W', hr, ⟨_, ho, fun a ha => ?_⟩, hg⟩
  by_cases hax : a = x
  · subst hax
    rw [Maps.atKey_put_same h1.isMap (keyL_isKey a)]; simp
  · rw [Maps.atKey_put_other (fun e => hax (keyL_inj ha hx e)), h2 a ha]
    simp [hax]

theorem Named.drop (h : Named W b n L) (x : IdD) (hx : x.fits) (ty : TypeId) : ∃ W', (Builtin.delete_ #[28, 34] ty #[.map (some b), x.val]).run Try.prog W = .ok (.tuple #[]) W' ∧ Named W' b n (L.filter (fun a => decide (a ≠ x))) ∧ W.grownBy W' (some b) := by
  obtain ⟨D, h1, h2⟩ := h
  obtain ⟨W', hr, ho, hg⟩ := h1.drop law_id Try.underlying28 (keyOf_id x hx) ty
  refine ⟨W', hr, ⟨_, ho, fun a ha => ?_⟩, hg.grown⟩
  by_cases hax : a = x
  · subst hax
    rw [Maps.atKey_del_same]; simp
  · rw [Maps.atKey_del_other (fun e => hax (keyL_inj ha hx e)), h2 a ha]
    simp [hax]

theorem zero_unit (w : World) : (zeroValue 73).run Try.prog w = .ok (.agg #[]) w := Try.zeroValue73 w

theorem Setted.look (h : Setted W b n L) (a : IdD) (ha : a.fits) : (Instr.lookup 67 (.map (some b)) a.val true).run Try.prog W = .ok (.tuple #[.agg #[], .bool (decide (a ∈ L))]) W := by
  obtain ⟨D, h1, h2⟩ := h
  obtain ⟨v, ps, hr, hv⟩ := h1.look_ok law_id Try.underlying67 (zero_unit W) (unitElem_mk (H := Unit)) (keyOf_id a ha)
  obtain ⟨rfl, _⟩ := unitElem_inv hv
  rw [hr, h2 a ha]

theorem Setted.put (h : Setted W b n L) (hn : n < maxLen) (x : IdD) (hx : x.fits) : ∃ W', (Instr.mapUpdate 67 (.map (some b)) x.val (.agg #[])).run Try.prog W = .ok () W' ∧ Setted W' b (n + 1) (L ++ [x]) ∧ W.grownBy W' (some b) := by
  obtain ⟨D, h1, h2⟩ := h
  obtain ⟨W', hr, ho, hg⟩ := h1.update law_id Try.underlying67 hn (keyOf_id x hx) (unitElem_mk (H := Unit))
  refine ⟨W', hr, ⟨_, ho, fun a ha => ?_⟩, hg⟩
  by_cases hax : a = x
  · subst hax
    rw [Maps.has_put_same h1.isMap (keyL_isKey a)]; simp
  · rw [Maps.has_put_other (fun e => hax (keyL_inj ha hx e)), h2 a ha]
    simp [hax]

theorem look_none (a : IdD) (ha : a.fits) : (Instr.lookup 67 (.map none) a.val true).run Try.prog W = .ok (.tuple #[.agg #[], .bool false]) W :=
  Maps.look_nil true law_id Try.underlying67 (zero_unit W) (keyOf_id a ha)
theorem look_none_b (a : IdD) (ha : a.fits) : (Instr.lookup 28 (.map none) a.val false).run Try.prog W = .ok (.bool false) W :=
  Maps.look_nil false law_id Try.underlying28 (zero_bool W) (keyOf_id a ha)
end

end Go.Proofs.Ytkfnndhoccjffaa
