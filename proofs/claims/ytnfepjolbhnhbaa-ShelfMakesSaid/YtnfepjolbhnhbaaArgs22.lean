/-
  The arguments of shelf's statements: a pair of words, a change, a slice of answers.
-/
import Derived.Test.YtnfepjolbhnhbaaOpen
import Derived.Test.YtnfepjolbhnhbaaTape
import Derived.Deep.Grids
namespace Go.Proofs.Ytnfepjolbhnhbaa
open Go.ChangeShapes Go.WideShapes Go.ChangeAt Go.RowKit Go.Deep
open Go.ChangeMaps (open_string shut_string)

theorem bounds_u64 {n : Int} (h : (Lit.int .u64 n).wf = true) : 0 ≤ n ∧ n < 18446744073709551616 := by
  simp [Lit.wf, IntKind.min, IntKind.max, IntKind.signed, IntKind.bits] at h
  omega
theorem eqChange : Try.prog.underlying 25 = some (.struct (Try.prog.fieldsOf 25)) := by kernel_rfl
theorem eqGot : Try.prog.underlying 42 = some (.struct (Try.prog.fieldsOf 42)) := by kernel_rfl
theorem cells_pair : Try.prog.cellsOf 23 = 2 := by kernel_rfl
theorem cells_word : Try.prog.cellsOf 22 = 1 := by kernel_rfl
theorem list_two {α : Type} (l : List α) (h : (⟨l⟩ : Array α).size = 2) : ∃ a b, l = [a, b] := by
  match l, h with
  | [a, b], _ => exact ⟨a, b, rfl⟩

set_option maxRecDepth 100000 in
/-- An array of two words, handed over by its value. -/
theorem open_words {H : Type} {enc : TypeId × Value → H} {W : World} {base : Nat} {sp : Nat → Bool} {held : Bool} {v : Value} {d : DataW H} {p : List MemPlace} {b0 : Nat}
    (hv : Value.okWide Try.prog W .any b0 23 v) (h : DataW.Trod enc Try.prog W base sp held 23 v d p) :
    ∃ a i : Int, v = .agg #[.int .u64 a, .int .u64 i] ∧ d = .agg [.lit (.int .u64 a), .lit (.int .u64 i)] ∧ p = [] ∧ (Lit.int .u64 a).wf = true ∧ (Lit.int .u64 i).wf = true := by
  obtain ⟨cs, rfl, hsz, _⟩ : ∃ cs, v = .agg cs ∧ cs.size = Try.prog.cellsOf 23 ∧ Row.okWide Try.prog W .any b0 23 cs := by
    simpa [Value.okWide, Try.underlying23] using hv
  rw [cells_pair] at hsz
  obtain ⟨l⟩ := cs
  obtain ⟨c0, c1, rfl⟩ := list_two l hsz
  obtain ⟨fuel, hf⟩ := h
  obtain ⟨xs, m, rfl, hx, _, hlen, hel⟩ := DataW.trod_array Try.underlying23 hf
  obtain ⟨y0, y1, rfl⟩ := list_two xs (by simpa using hlen)
  have hy0 := hel 0 (by omega)
  have hy1 := hel 1 (by omega)
  rw [cells_word] at hy0 hy1
  simp [Value.cells] at hy0 hy1
  obtain ⟨x0, e0, rfl, w0⟩ := DataW.trod_int Try.underlying22 hy0
  obtain ⟨x1, e1, rfl, w1⟩ := DataW.trod_int Try.underlying22 hy1
  simp at e0 e1
  subst e0 e1
  simp only [Prod.mk.injEq] at hx
  obtain ⟨rfl, rfl⟩ := hx
  exact ⟨x0, x1, rfl, rfl, rfl, w0, w1⟩
set_option maxRecDepth 100000 in
theorem shut_words {H : Type} {enc : TypeId × Value → H} {W : World} {base : Nat} {sp : Nat → Bool} {held : Bool} {a i : Int} (wa : (Lit.int .u64 a).wf = true) (wi : (Lit.int .u64 i).wf = true) :
    DataW.Trod enc Try.prog W base sp held 23 (.agg #[.int .u64 a, .int .u64 i]) (.agg [.lit (.int .u64 a), .lit (.int .u64 i)]) [] :=
  ⟨2, by simp [DataW.trod, Value.cells, Try.underlying23, Try.underlying22, cells_pair, cells_word, wa, wi, show List.range 2 = [0, 1] from rfl]⟩

set_option maxRecDepth 100000 in
/-- A change's cells. -/
theorem change_cells {H : Type} {enc : TypeId × Value → H} {W : World} {fuel : Nat} {cs : List Value} {x : DataW H × List MemPlace} (h : DataW.trod enc Try.prog W 0 (fun _ => true) true fuel 25 cs = some x)
    (hz : ∀ n ∈ x.1.weights Try.prog 25, n ≤ reachBytes) : ∃ (key : ByteArray) (has : Bool) (val : ByteArray), cs = [.string key, .bool has, .string val] ∧ key.size ≤ 281474976710656 ∧ val.size ≤ 281474976710656 := by
  obtain ⟨xs, n, _, hx, hcl, hxl, hfs⟩ := DataW.trod_struct eqChange h
  have h2 : Try.prog.cellsOf 25 = 3 := by kernel_rfl
  have hl : xs.length = 3 := hxl
  rw [h2] at hcl
  have hd : x.1 = .agg (xs.map (·.1)) := by rw [hx]
  rw [hd] at hz
  have hf0 : (Try.prog.fieldsOf 25)[0]? = some { name := "Key", type := 9, offset := 0, embedded := false, tag := "", pkgPath := "", byteOffset := 0 } := by kernel_rfl
  have hf1 : (Try.prog.fieldsOf 25)[1]? = some { name := "Has", type := 4, offset := 1, embedded := false, tag := "", pkgPath := "", byteOffset := 16 } := by kernel_rfl
  have hf2 : (Try.prog.fieldsOf 25)[2]? = some { name := "Value", type := 9, offset := 2, embedded := false, tag := "", pkgPath := "", byteOffset := 24 } := by kernel_rfl
  have g0 := hfs 0 _ hf0
  have g1 := hfs 1 _ hf1
  have g2 := hfs 2 _ hf2
  have k1 : Try.prog.cellsOf 9 = 1 := by kernel_rfl
  have k2 : Try.prog.cellsOf 4 = 1 := by kernel_rfl
  obtain ⟨y0, y1, y2, rfl⟩ : ∃ y0 y1 y2, xs = [y0, y1, y2] := match xs, hl with | [a, b, c], _ => ⟨a, b, c, rfl⟩
  match cs, hcl with
  | [a, b, c], _ =>
    simp only [k1, k2, List.getElem?_cons_zero, List.getElem?_cons_succ, List.drop_zero, List.drop_succ_cons, List.take_succ_cons, List.take_zero] at g0 g1 g2
    obtain ⟨s0, hs0, hsy0, _⟩ := DataW.trod_string Try.underlying9 g0
    obtain ⟨b1, hs1, _⟩ := DataW.trod_bool Try.underlying4 g1
    obtain ⟨s2, hs2, hsy2, _⟩ := DataW.trod_string Try.underlying9 g2
    have hr0 : s0.size ≤ 281474976710656 := text_reach (H := H) (P := Try.prog) (t := 9) fun n hn => hz n (weight_struct eqChange hf0 (by rw [List.getElem?_map, List.getElem?_cons_zero, hsy0]; rfl) n hn)
    have hr2 : s2.size ≤ 281474976710656 := text_reach (H := H) (P := Try.prog) (t := 9) fun n hn => hz n (weight_struct eqChange hf2 (by rw [List.getElem?_map, List.getElem?_cons_succ, List.getElem?_cons_succ, List.getElem?_cons_zero, hsy2]; rfl) n hn)
    simp only [List.cons.injEq, and_true] at hs0 hs1 hs2
    subst hs0 hs1 hs2
    exact ⟨s0, b1, s2, rfl, hr0, hr2⟩
set_option maxRecDepth 100000 in
/-- An argument that is a change. -/
theorem change_open {H : Type} {enc : TypeId × Value → H} {W : World} {base : Nat} {v : Value} {d : DataW H} {ps : List MemPlace} (hok : Value.okWide Try.prog W .any base 25 v) (h : DataW.Trod enc Try.prog W 0 (fun _ => true) true 25 v d ps)
    (hz : ∀ n ∈ d.weights Try.prog 25, n ≤ reachBytes) : ∃ (key : ByteArray) (has : Bool) (val : ByteArray), v = .agg #[.string key, .bool has, .string val] ∧ key.size ≤ 281474976710656 ∧ val.size ≤ 281474976710656 := by
  obtain ⟨fuel, hf⟩ := h
  obtain ⟨cs, rfl, hcs⟩ := okWide_struct eqChange hok
  obtain ⟨key, has, val, hc, hfit⟩ := change_cells hf hz
  refine ⟨key, has, val, ?_, hfit⟩
  have : cs.toList = [.string key, .bool has, .string val] := by simpa [Value.cells] using hc
  rw [show cs = cs.toList.toArray by simp, this]

set_option maxRecDepth 100000 in
/-- Answers. -/
theorem gots_open {H : Type} {enc : TypeId × Value → H} {W : World} {fuel : Nat} {cs : List Value} {x : DataW H × List MemPlace} (hf : DataW.trod enc Try.prog W 0 (fun _ => true) true fuel 26 cs = some x)
    (hz : ∀ n ∈ x.1.weights Try.prog 26, n ≤ reachBytes) : ∃ (pa : Option Addr) (len cap : Nat) (G : List (Int × ByteArray)), cs = [.slice pa len cap] ∧ G.length = len ∧ Sgt W pa G ∧ (∀ g ∈ G, 0 ≤ g.1 ∧ g.1 < 18446744073709551616) ∧ (∀ g ∈ G, g.2.size ≤ 281474976710656) ∧ len ≤ cap ∧ cap ≤ maxLen := by
  have h6 : (Try.prog.fieldsOf 42).size = 2 := by kernel_rfl
  rcases open_slice_fields (fs := Try.prog.fieldsOf 42) Try.underlying26 eqGot (by kernel_rfl) (by kernel_rfl) hf with ⟨hcs, _⟩ | ⟨a, len, cap, m, D, Pl, hcs, hb, hl, hm, hmm, hx, hi⟩
  · exact ⟨none, 0, 0, [], hcs, rfl, Sgt.nil _ _, (fun _ h => by cases h), (fun _ h => by cases h), Nat.le_refl _, Nat.zero_le _⟩
  · have hmm' : m = cap := by simpa using hmm
    subst hmm'
    rw [h6] at hi
    have hd : x.1 = .slice ((List.range len).map D) ((List.range (m - len)).map fun j => D (len + j)) := by rw [hx]
    have el : ∀ i, i < len → ∃ o : Int × ByteArray, W.cell? (a.add (i * 2)) = some (.int .u64 o.1) ∧ W.cell? (a.add (i * 2 + 1)) = some (.string o.2) ∧ (0 ≤ o.1 ∧ o.1 < 18446744073709551616) ∧ o.2.size ≤ 281474976710656 := by
      intro i hil
      obtain ⟨ys, n, hD, hPl, hyl, hf⟩ := hi i (by omega)
      have hmem : D i ∈ (List.range len).map D := List.mem_map.2 ⟨i, List.mem_range.2 hil, rfl⟩
      have hw : ∀ n ∈ (D i).weights Try.prog 42, n ≤ reachBytes := fun n hn => hz n (by
        rw [hd]
        simp only [DataW.weights, Try.underlying26, List.mem_cons, List.mem_append]
        exact Or.inr (Or.inl (weightsAll_mem hmem _ hn)))
      rw [hD] at hw
      have hf0 : (Try.prog.fieldsOf 42)[0]? = some { name := "Word", type := 22, offset := 0, embedded := false, tag := "", pkgPath := "", byteOffset := 0 } := by kernel_rfl
      obtain ⟨v0, y0, hc0, hy0, ht0⟩ := hf 0 _ hf0
      obtain ⟨s0, hs0, hsy0, hk0⟩ := DataW.trod_int Try.underlying22 ht0
      simp only [List.cons.injEq, and_true] at hs0
      subst hs0
      have hf1 : (Try.prog.fieldsOf 42)[1]? = some { name := "Text", type := 9, offset := 1, embedded := false, tag := "", pkgPath := "", byteOffset := 8 } := by kernel_rfl
      obtain ⟨v5, y5, hc5, hy5, ht5⟩ := hf 1 _ hf1
      obtain ⟨s5, hs5, hsy5, _⟩ := DataW.trod_string Try.underlying9 ht5
      have hr5 : s5.size ≤ 281474976710656 := text_reach (H := H) (P := Try.prog) (t := 9) fun n hn => hw n (weight_struct eqGot hf1 (by rw [List.getElem?_map, hy5, hsy5]; rfl) n hn)
      simp only [List.cons.injEq, and_true] at hs5
      subst hs5
      exact ⟨(s0, s5), by simpa using hc0, hc5, bounds_u64 hk0, hr5⟩
    have hcho : ∀ i, ∃ o : Int × ByteArray, i < len → (W.cell? (a.add (i * 2)) = some (.int .u64 o.1) ∧ W.cell? (a.add (i * 2 + 1)) = some (.string o.2) ∧ (0 ≤ o.1 ∧ o.1 < 18446744073709551616) ∧ o.2.size ≤ 281474976710656) := fun i => by
      by_cases hil : i < len
      · obtain ⟨o, ho⟩ := el i hil
        exact ⟨o, fun _ => ho⟩
      · exact ⟨(0, ⟨#[]⟩), fun h => absurd h hil⟩
    obtain ⟨O, hO⟩ := Classical.axiomOfChoice hcho
    refine ⟨some a, len, m, (List.range len).map O, hcs, by simp, fun i hi' => ?_, fun q hq => ?_, fun q hq => ?_, hl, hm⟩
    · have hil : i < len := by simpa using hi'
      obtain ⟨c0, c1, _⟩ := hO i hil
      have h00 := (hO 0 (by omega)).1
      rw [Nat.zero_mul, add_zero'] at h00
      have hab := (addr_plain h00).1
      rw [hab, Addr.add_lit] at c0 c1
      refine ⟨a.block, a.off, by rw [← hab], ?_, ?_⟩
      · simpa using c0
      · rw [Nat.add_assoc]; simpa using c1
    · obtain ⟨i, hi', rfl⟩ := List.mem_map.1 hq
      exact (hO i (List.mem_range.1 hi')).2.2.1
    · obtain ⟨i, hi', rfl⟩ := List.mem_map.1 hq
      exact (hO i (List.mem_range.1 hi')).2.2.2
set_option maxRecDepth 100000 in
theorem gots_within {W : World} {base : Nat} {a : Addr} {n c : Nat} (h : Value.okWide Try.prog W .any base 26 (.slice (some a) n c)) : a.block < W.heap.size := by
  simp only [Value.okWide, Try.underlying26, Cell.okWide, Cell.ok] at h
  obtain ⟨_, _, _, _, row, cells, hs, _⟩ := h
  unfold World.shape? at hs
  rcases Nat.lt_or_ge a.block W.heap.size with hlt | hge
  · exact hlt
  · rw [Array.getElem?_eq_none hge] at hs
    cases hs

end Go.Proofs.Ytnfepjolbhnhbaa
