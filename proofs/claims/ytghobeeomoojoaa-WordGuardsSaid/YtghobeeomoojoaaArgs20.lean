/-
  The arguments of word's statements: a pair of numbers, a slice of bytes.
-/
import Derived.Test.YtghobeeomoojoaaOpen
import Derived.Test.YtghobeeomoojoaaWguards
import Derived.Deep.Grids
import Derived.SliceStrings
import Derived.ChangeSlices
namespace Go.Proofs.Ytghobeeomoojoaa
open Go.ChangeShapes Go.WideShapes Go.ChangeAt Go.RowKit Go.Deep
open Go.ChangeMaps (open_string shut_string)

theorem bounds_u64 {n : Int} (h : (Lit.int .u64 n).wf = true) : 0 ≤ n ∧ n < 18446744073709551616 := by
  simp [Lit.wf, IntKind.min, IntKind.max, IntKind.signed, IntKind.bits] at h
  omega

theorem cells_pair : Try.prog.cellsOf 23 = 2 := by kernel_rfl
theorem cells_int : Try.prog.cellsOf 3 = 1 := by kernel_rfl

theorem list_two {α : Type} (l : List α) (h : (⟨l⟩ : Array α).size = 2) : ∃ a b, l = [a, b] := by
  match l, h with
  | [a, b], _ => exact ⟨a, b, rfl⟩

/-- An array of two numbers, handed over by its value. -/
theorem open_pair {H : Type} {enc : TypeId × Value → H} {W : World} {base : Nat} {sp : Nat → Bool} {held : Bool} {v : Value} {d : DataW H} {p : List MemPlace} {b0 : Nat}
    (hv : Value.okWide Try.prog W .any b0 23 v) (h : DataW.Trod enc Try.prog W base sp held 23 v d p) :
    ∃ a i : Int, v = .agg #[.int .i64 a, .int .i64 i] ∧ d = .agg [.lit (.int .i64 a), .lit (.int .i64 i)] ∧ p = [] ∧ (Lit.int .i64 a).wf = true ∧ (Lit.int .i64 i).wf = true := by
  obtain ⟨cs, rfl, hsz, _⟩ : ∃ cs, v = .agg cs ∧ cs.size = Try.prog.cellsOf 23 ∧ Row.okWide Try.prog W .any b0 23 cs := by
    simpa [Value.okWide, Try.underlying23] using hv
  rw [cells_pair] at hsz
  obtain ⟨l⟩ := cs
  obtain ⟨c0, c1, rfl⟩ := list_two l hsz
  obtain ⟨fuel, hf⟩ := h
  obtain ⟨xs, m, rfl, hx, _, hlen, hel⟩ := DataW.trod_array Try.underlying23 hf
  obtain ⟨y0, y1, rfl⟩ := list_two xs (by simpa using hlen)
  have hy0 := hel 0 (by omega)
  have hy1 := hel 1 (by omega)
  rw [cells_int] at hy0 hy1
  simp [Value.cells] at hy0 hy1
  obtain ⟨x0, e0, rfl, w0⟩ := DataW.trod_int Try.underlying3 hy0
  obtain ⟨x1, e1, rfl, w1⟩ := DataW.trod_int Try.underlying3 hy1
  simp at e0 e1
  subst e0 e1
  simp only [Prod.mk.injEq] at hx
  obtain ⟨rfl, rfl⟩ := hx
  exact ⟨x0, x1, rfl, rfl, rfl, w0, w1⟩

theorem shut_pair {H : Type} {enc : TypeId × Value → H} {W : World} {base : Nat} {sp : Nat → Bool} {held : Bool} {a i : Int} (wa : (Lit.int .i64 a).wf = true) (wi : (Lit.int .i64 i).wf = true) :
    DataW.Trod enc Try.prog W base sp held 23 (.agg #[.int .i64 a, .int .i64 i]) (.agg [.lit (.int .i64 a), .lit (.int .i64 i)]) [] :=
  ⟨2, by simp [DataW.trod, Value.cells, Try.underlying23, Try.underlying3, cells_pair, cells_int, wa, wi, show List.range 2 = [0, 1] from rfl]⟩

/-- An address at which a cell lies is plain. -/
theorem plain_add {W : World} {a : Addr} {v0 : Value} (h0 : W.cell? (a.add 0) = some v0) {i : Nat} {v : Value} (h : W.cell? (a.add i) = some v) : a = ⟨a.block, a.off, none⟩ ∧ W.cell? ⟨a.block, a.off + i, none⟩ = some v := by
  rw [add_zero'] at h0
  have ha := (addr_plain h0).1
  refine ⟨ha, ?_⟩
  rw [ha, Addr.add_lit] at h
  exact h

theorem bytes_open {H : Type} {enc : TypeId × Value → H} {W : World} {fuel : Nat} {cs : List Value} {x : DataW H × List MemPlace} (hf : DataW.trod enc Try.prog W 0 (fun _ => true) true fuel 31 cs = some x) :
    ∃ (pa : Option Addr) (len cap : Nat) (L : List Nat), cs = [.slice pa len cap] ∧ L.length = len ∧ Su W pa L ∧ (∀ z ∈ L, z ≤ 255) ∧ len ≤ maxLen := by
  rcases open_ints Try.underlying31 Try.underlying5 (by kernel_rfl) hf with ⟨hcs, _⟩ | ⟨a, len, cap, zs, hcs, hb, hl, hm, hzl, hx, hi, hw⟩
  · exact ⟨none, 0, 0, [], hcs, rfl, fun _ h => absurd h (Nat.not_lt_zero _), (fun _ h => by cases h), Nat.zero_le _⟩
  · have hzc : zs.length = cap := by simpa using hzl
    refine ⟨some a, len, cap, (zs.take len).map Int.toNat, hcs, by simp; omega, fun j hj => ?_, fun z hz => ?_, by omega⟩
    · have hj' : j < len ∧ j < zs.length := by simpa [Nat.lt_min] using hj
      obtain ⟨h1, h2⟩ := plain_add (hi 0 (by omega)) (hi j (by omega))
      refine ⟨a.block, a.off, by rw [← h1], ?_⟩
      have hwj := bounds_u8 (hw zs[j] (List.getElem_mem _))
      rw [h2]
      simp [List.getD, List.getElem?_eq_getElem hj'.2]
      omega
    · obtain ⟨q, hq, rfl⟩ := List.mem_map.1 hz
      have := bounds_u8 (hw q (List.mem_of_mem_take hq))
      omega

end Go.Proofs.Ytghobeeomoojoaa
