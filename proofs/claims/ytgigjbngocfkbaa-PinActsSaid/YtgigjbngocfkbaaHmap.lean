/-
  A map keyed by words (uint64), told by what stands at each key; nothing is asked of its elements.
-/
import Derived.Test.YtgigjbngocfkbaaFoot
namespace Go.Proofs.Ytgigjbngocfkbaa
open Go Go.RowKit

/-- How an element reads: as itself. -/
def anyElem (v : Value) : Option (DataW Value × List MemPlace) := some (.held v, [])
theorem law_u64 : Maps.Keyed Try.prog 22 := Maps.int_keyed Try.underlying22
theorem wf_u64 {n : Nat} (h : n < 18446744073709551616) : (Lit.int .u64 (n : Int)).wf = true := by
  simp [Lit.wf, IntKind.min, IntKind.max, IntKind.signed, IntKind.bits]; omega
theorem key_u64 {n : Nat} (h : n < 18446744073709551616) : keyOf Try.prog 22 (.int .u64 (n : Int)) = some (.int .u64 (n : Int)) := Maps.keyOf_int_mk Try.underlying22 (wf_u64 h)

/-- What stands at a key, as the map's reading tells it. -/
def telly (φ : Nat → Option Value) (k : Nat) (z : DataW Value) : DataW Value := match φ k with | some v => .held v | none => z
/-- At m lies a map of at most n entries; at key k stands φ k. -/
def Mapped (W : World) (m n : Nat) (φ : Nat → Option Value) : Prop :=
  ∃ D : DataW Value, W.ownsMap Try.prog 22 anyElem m n D ∧ ∀ k : Nat, k < 18446744073709551616 → ∀ z, D.atKey (.int .u64 (k : Int)) z = telly φ k z

section
variable {W W' : World} {m n : Nat} {φ ψ : Nat → Option Value}
theorem Mapped.lt (h : Mapped W m n φ) : m < W.heap.size := by obtain ⟨D, h, _⟩ := h; exact h.lt
theorem Mapped.stays (h : Mapped W m n φ) (hb : W'.heap[m]? = W.heap[m]?) : Mapped W' m n φ := by
  obtain ⟨D, ⟨es, clock, h1, r⟩, h2⟩ := h
  exact ⟨D, ⟨es, clock, hb.trans h1, r⟩, h2⟩
theorem Mapped.tag (h : Mapped W m n φ) : ∃ es clock, W.heap[m]? = some (.map es clock) := by
  obtain ⟨D, ⟨es, clock, h1, r⟩, h2⟩ := h; exact ⟨es, clock, h1⟩
theorem Mapped.mono {n' : Nat} (h : Mapped W m n φ) (hn : n ≤ n') : Mapped W m n' φ := by
  obtain ⟨D, h1, h2⟩ := h; exact ⟨D, h1.mono hn, h2⟩
theorem Mapped.same (h : Mapped W m n φ) (he : ∀ k, k < 18446744073709551616 → ψ k = φ k) : Mapped W m n ψ := by
  obtain ⟨D, h1, h2⟩ := h; exact ⟨D, h1, fun k hk z => by unfold telly; rw [he k hk]; exact h2 k hk z⟩
theorem Mapped.made (W : World) : Mapped (W.alloc (.map #[] 0)) W.heap.size 0 (fun _ => none) :=
  ⟨.map [], World.ownsMap_made W _ _ _, fun k _ z => by simp [DataW.atKey, telly]⟩

theorem has_of {D : DataW Value} (h2 : ∀ k : Nat, k < 18446744073709551616 → ∀ z, D.atKey (.int .u64 (k : Int)) z = telly φ k z) {k : Nat} (hk : k < 18446744073709551616) : Maps.has D (.int .u64 (k : Int)) = (φ k).isSome := by
  have h := h2 k hk
  unfold telly at h
  cases hp : φ k with
  | none => rw [hp] at h; exact Maps.has_false_of_atKey h
  | some v => rw [hp] at h; exact Maps.has_true_of_atKey h

/-- A zero block: no cells, no text. -/
abbrev zeroB : Value := .agg #[.slice none 0 0, .string ⟨#[]⟩]
theorem zero_block (w : World) : (zeroValue 111).run Try.prog w = .ok zeroB w := Try.zeroValue111 w

theorem Mapped.look (h : Mapped W m n φ) (k : Nat) (hk : k < 18446744073709551616) : (Instr.lookup 97 (.map (some m)) (.int .u64 (k : Int)) true).run Try.prog W = .ok (.tuple #[(φ k).getD zeroB, .bool (φ k).isSome]) W := by
  obtain ⟨D, h1, h2⟩ := h
  obtain ⟨v, ps, hr, hv⟩ := h1.look_ok law_u64 Try.underlying97 (zero_block W) (zd := .held zeroB) (zp := []) rfl (key_u64 hk)
  rw [hr, has_of h2 hk]
  rw [h2 k hk] at hv
  unfold telly at hv
  unfold anyElem at hv
  cases hp : φ k with
  | none => rw [hp] at hv; simp at hv; simp [hv.1]
  | some u => rw [hp] at hv; simp at hv; simp [hv.1]
theorem Mapped.look0 (h : Mapped W m n φ) (k : Nat) (hk : k < 18446744073709551616) : (Instr.lookup 97 (.map (some m)) (.int .u64 (k : Int)) false).run Try.prog W = .ok ((φ k).getD zeroB) W := by
  obtain ⟨D, h1, h2⟩ := h
  obtain ⟨v, ps, hr, hv⟩ := h1.lookup law_u64 Try.underlying97 (zero_block W) (zd := .held zeroB) (zp := []) rfl (key_u64 hk)
  rw [hr]
  rw [h2 k hk] at hv
  unfold telly at hv
  unfold anyElem at hv
  cases hp : φ k with
  | none => rw [hp] at hv; simp at hv; simp [hv.1]
  | some u => rw [hp] at hv; simp at hv; simp [hv.1]
theorem look_none (k : Nat) (hk : k < 18446744073709551616) : (Instr.lookup 97 (.map none) (.int .u64 (k : Int)) true).run Try.prog W = .ok (.tuple #[zeroB, .bool false]) W :=
  Maps.look_nil true law_u64 Try.underlying97 (zero_block W) (key_u64 hk)
theorem look0_none (k : Nat) (hk : k < 18446744073709551616) : (Instr.lookup 97 (.map none) (.int .u64 (k : Int)) false).run Try.prog W = .ok zeroB W :=
  Maps.look_nil false law_u64 Try.underlying97 (zero_block W) (key_u64 hk)

theorem key_ne {a b : Nat} (h : a ≠ b) : Lit.int .u64 (a : Int) ≠ Lit.int .u64 (b : Int) := fun e => h (by have := (Lit.int.inj e).2; omega)

theorem Mapped.put (h : Mapped W m n φ) (hn : n < maxLen) (x : Nat) (hx : x < 18446744073709551616) (v : Value) : ∃ W', (Instr.mapUpdate 97 (.map (some m)) (.int .u64 (x : Int)) v).run Try.prog W = .ok () W' ∧ Mapped W' m (n + 1) (fun k => if k = x then some v else φ k) ∧ W.grownBy W' (some m) := by
  obtain ⟨D, h1, h2⟩ := h
  obtain ⟨W', hr, ho, hg⟩ := h1.update law_u64 Try.underlying97 hn (val := v) (d := .held v) (ps := []) (key_u64 hx) rfl
  refine ⟨W', hr, ⟨_, ho, fun k hk z => ?_⟩, hg⟩
  unfold telly
  by_cases hkx : k = x
  · subst hkx
    rw [Maps.atKey_put_same h1.isMap (show Go.WideAt.IsKeyLit (.int .u64 (k : Int)) from trivial)]
    simp
  · rw [Maps.atKey_put_other (key_ne hkx), h2 k hk]
    simp [hkx, telly]
theorem Mapped.drop (h : Mapped W m n φ) (x : Nat) (hx : x < 18446744073709551616) (ty : TypeId) : ∃ W', (Builtin.delete_ #[97, 22] ty #[.map (some m), .int .u64 (x : Int)]).run Try.prog W = .ok (.tuple #[]) W' ∧ Mapped W' m n (fun k => if k = x then none else φ k) ∧ W.grownBy W' (some m) := by
  obtain ⟨D, h1, h2⟩ := h
  obtain ⟨W', hr, ho, hg⟩ := h1.drop law_u64 Try.underlying97 (key_u64 hx) ty
  refine ⟨W', hr, ⟨_, ho, fun k hk z => ?_⟩, hg.grown⟩
  unfold telly
  by_cases hkx : k = x
  · subst hkx
    rw [Maps.atKey_del_same]
    simp
  · rw [Maps.atKey_del_other (key_ne hkx), h2 k hk]
    simp [hkx, telly]
/-- How many entries; a map that has one of its keys, and not more than one, has no other. -/
theorem Mapped.len (h : Mapped W m n φ) : ∃ c : Nat, c ≤ n ∧ (∀ ty, (Builtin.len_ #[97] ty #[.map (some m)]).run Try.prog W = .ok (.int .i64 c) W) ∧ (∀ x, x < 18446744073709551616 → (φ x).isSome = true → c ≤ 1 → ∀ k, k < 18446744073709551616 → k ≠ x → φ k = none) := by
  obtain ⟨D, h1, h2⟩ := h
  refine ⟨Maps.size D, h1.size_le, fun ty => h1.len Try.underlying97 ty, fun x hx hs h1' k hk hkx => ?_⟩
  obtain ⟨es, rfl⟩ := h1.isMap
  have e1 := has_of h2 hx
  have e2 := has_of h2 hk
  rw [hs] at e1
  cases hp : φ k with
  | none => rfl
  | some v =>
    rw [hp] at e2
    obtain ⟨p, hp1, hp2⟩ := List.any_eq_true.1 e1
    obtain ⟨q, hq1, hq2⟩ := List.any_eq_true.1 e2
    have hl : es.length ≤ 1 := h1'
    have : p = q := by
      match es, hp1, hq1, hl with
      | [a], hp1, hq1, _ => simp at hp1 hq1; rw [hp1, hq1]
    subst this
    have e3 := (Go.WideAt.sameKey_eq hp2).symm.trans (Go.WideAt.sameKey_eq hq2)
    exact absurd e3.symm (key_ne hkx)
theorem Mapped.clear (h : Mapped W m n φ) (ty : TypeId) : ∃ W', (Builtin.clear_ #[97] ty #[.map (some m)]).run Try.prog W = .ok (.tuple #[]) W' ∧ Mapped W' m n (fun _ => none) ∧ W.grownBy W' (some m) := by
  obtain ⟨D, ⟨es, clock, hb, F, hs, hD⟩, h2⟩ := h
  refine ⟨_, ?_, ⟨.map [], ⟨#[], clock, ChangeMaps.heap_setBlock_same hb _, ⟨by simp, MapKept.stamped_empty clock, by simp⟩, by simp, rfl⟩, fun k _ z => by simp [DataW.atKey, telly]⟩, ⟨rfl, rfl, rfl, by simp [ChangeMaps.setBlock], fun i _ hi => ChangeMaps.heap_setBlock_other hb _ (fun e => hi (by rw [e]))⟩⟩
  · simp [Builtin.clear_, run_underlying Try.underlying97, MapKept.run_getObj_map hb, MapKept.run_setObj_map _ hb, Result.andThen, ChangeMaps.setBlock]
end

end Go.Proofs.Ytgigjbngocfkbaa
