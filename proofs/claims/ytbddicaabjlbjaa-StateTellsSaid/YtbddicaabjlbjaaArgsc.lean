/-
  An argument that is a slice of changes, opened to its cells.
-/
import Derived.Test.YtbddicaabjlbjaaArgs7
import Derived.Test.YtbddicaabjlbjaaTellswalk7
namespace Go.Proofs.Ytbddicaabjlbjaa
open Go.ChangeShapes Go.WideShapes Go.ChangeAt Go.RowKit Go.Deep
open Go.ChangeMaps (open_string shut_string)

theorem eqChange : Try.prog.underlying 38 = some (.struct (Try.prog.fieldsOf 38)) := by kernel_rfl

theorem changes_open {H : Type} {enc : TypeId × Value → H} {W : World} {pa : Option Addr} {len cap : Nat} {d : DataW H} {ps : List MemPlace} (h : DataW.Trod enc Try.prog W 0 (fun _ => true) true 23 (.slice pa len cap) d ps)
    (hz : ∀ n ∈ d.weights Try.prog 23, n ≤ reachBytes) : ∃ L : List ChD, L.length = len ∧ (Sc W pa L ∧ ∀ c ∈ L, c.key.size ≤ 281474976710656) ∧ len ≤ maxLen := by
  obtain ⟨fuel, hf⟩ := h
  have h3 : (Try.prog.fieldsOf 38).size = 3 := by kernel_rfl
  rcases open_slice_fields (fs := Try.prog.fieldsOf 38) Try.underlying23 eqChange (by kernel_rfl) (by kernel_rfl) hf with ⟨hcs, _⟩ | ⟨a, len', cap', m, D, Pl, hcs, hb, hl, hm, hmm, hx, hi⟩
  · simp [Value.cells] at hcs
    obtain ⟨rfl, rfl, rfl⟩ := hcs
    exact ⟨[], rfl, ⟨Sc.nil _ _, fun _ h => by cases h⟩, Nat.zero_le _⟩
  · simp [Value.cells] at hcs
    obtain ⟨rfl, rfl, rfl⟩ := hcs
    have hmm' : m = cap := by simpa using hmm
    subst hmm'
    rw [h3] at hi
    obtain ⟨hd, _⟩ := Prod.mk.inj hx
    have el : ∀ i, i < len → ∃ o : ChD, W.cell? (a.add (i * 3)) = some (.string o.key) ∧ W.cell? (a.add (i * 3 + 1)) = some (.bool o.has) ∧ W.cell? (a.add (i * 3 + 2)) = some (.string o.val) ∧ o.key.size ≤ 281474976710656 := by
      intro i hil
      obtain ⟨ys, n, hD, hPl, hyl, hf⟩ := hi i (by omega)
      have hf0 : (Try.prog.fieldsOf 38)[0]? = some { name := "Key", type := 9, offset := 0, embedded := false, tag := "", pkgPath := "", byteOffset := 0 } := by kernel_rfl
      have hf1 : (Try.prog.fieldsOf 38)[1]? = some { name := "Has", type := 4, offset := 1, embedded := false, tag := "", pkgPath := "", byteOffset := 16 } := by kernel_rfl
      have hf2 : (Try.prog.fieldsOf 38)[2]? = some { name := "Value", type := 9, offset := 2, embedded := false, tag := "", pkgPath := "", byteOffset := 24 } := by kernel_rfl
      obtain ⟨v0, y0, hc0, hy0, ht0⟩ := hf 0 _ hf0
      obtain ⟨v1, y1, hc1, hy1, ht1⟩ := hf 1 _ hf1
      obtain ⟨v2, y2, hc2, hy2, ht2⟩ := hf 2 _ hf2
      obtain ⟨s1, hs1, hs1y, hs1w⟩ := DataW.trod_string Try.underlying9 ht0
      obtain ⟨b, hb1, hb1y⟩ := DataW.trod_bool Try.underlying4 ht1
      obtain ⟨s2, hs2, hs2y, hs2w⟩ := DataW.trod_string Try.underlying9 ht2
      simp only [List.cons.injEq, and_true] at hs1 hs2 hb1
      subst hs1 hs2 hb1
      refine ⟨⟨s1, b, s2⟩, by simpa using hc0, hc1, hc2, ?_⟩
      show s1.size ≤ _
      have hmem : D i ∈ (List.range len).map D := List.mem_map.2 ⟨i, List.mem_range.2 hil, rfl⟩
      have hw1 : s1.data.toList.length ∈ (D i).weights Try.prog 38 := by
        rw [hD]
        match ys, hyl with
        | [z0, z1, z2], _ =>
          simp only [List.getElem?_cons_zero, List.getElem?_cons_succ, Option.some.injEq] at hy0 hy1 hy2
          subst hy0 hy1 hy2
          simp only [List.map_cons, List.map_nil, DataW.weights, Try.underlying38, hs1y, hs2y, DataW.weightsEach]
          simp
      have hw2 := hz s1.data.toList.length (by
        rw [hd]
        simp only [DataW.weights, Try.underlying23, List.mem_cons, List.mem_append]
        exact Or.inr (Or.inl (weightsAll_mem hmem _ hw1)))
      have hr := reachBytes_lt
      have : s1.size = s1.data.toList.length := by rw [Array.length_toList]; rfl
      omega
    have hcho : ∀ i, ∃ o : ChD, i < len → (W.cell? (a.add (i * 3)) = some (.string o.key) ∧ W.cell? (a.add (i * 3 + 1)) = some (.bool o.has) ∧ W.cell? (a.add (i * 3 + 2)) = some (.string o.val) ∧ o.key.size ≤ 281474976710656) := fun i => by
      by_cases hil : i < len
      · obtain ⟨o, ho⟩ := el i hil
        exact ⟨o, fun _ => ho⟩
      · exact ⟨⟨⟨#[]⟩, false, ⟨#[]⟩⟩, fun h => absurd h hil⟩
    obtain ⟨O, hO⟩ := Classical.axiomOfChoice hcho
    refine ⟨(List.range len).map O, by simp, ⟨fun i hi' => ?_, fun q hq => ?_⟩, by omega⟩
    · have hil : i < len := by simpa using hi'
      obtain ⟨c0, c1, c2, _⟩ := hO i hil
      have hsp : a.spot = none := by
        have h00 := (hO 0 (by omega)).1
        rw [Nat.zero_mul, add_zero'] at h00
        have h01 := (addr_plain h00).1
        rw [h01]
      have hab : a = ⟨a.block, a.off, none⟩ := addr_of_spot a hsp
      rw [hab, Addr.add_lit] at c0 c1 c2
      refine ⟨a.block, a.off, by rw [← hab], ?_, ?_, ?_⟩
      · simpa using c0
      · rw [Nat.add_assoc]; simpa using c1
      · rw [Nat.add_assoc]; simpa using c2
    · obtain ⟨i, hi', rfl⟩ := List.mem_map.1 hq
      exact (hO i (List.mem_range.1 hi')).2.2.2

end Go.Proofs.Ytbddicaabjlbjaa
