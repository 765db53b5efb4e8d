/-
  A change, and a slice of what is done to a box, arguments, opened to their cells.
-/
import Derived.Test.YtofkllokmecfgaaOpen
import Derived.Test.YtofkllokmecfgaaOps15
namespace Go.Proofs.Ytofkllokmecfgaa
open Go.ChangeShapes Go.WideShapes Go.ChangeAt Go.RowKit Go.Deep
open Go.ChangeMaps (open_string shut_string)

theorem eqChange : Try.prog.underlying 31 = some (.struct (Try.prog.fieldsOf 31)) := by kernel_rfl
theorem eqBop : Try.prog.underlying 33 = some (.struct (Try.prog.fieldsOf 33)) := by kernel_rfl

/-- A change's cells. -/
theorem change_cells {H : Type} {enc : TypeId × Value → H} {W : World} {fuel : Nat} {cs : List Value} {x : DataW H × List MemPlace} (h : DataW.trod enc Try.prog W 0 (fun _ => true) true fuel 31 cs = some x)
    (hz : ∀ n ∈ x.1.weights Try.prog 31, n ≤ reachBytes) : ∃ c : ChD, cs = [.string c.key, .bool c.has, .string c.val] ∧ c.fits := by
  obtain ⟨xs, n, _, hx, hcl, hxl, hfs⟩ := DataW.trod_struct eqChange h
  have h2 : Try.prog.cellsOf 31 = 3 := by kernel_rfl
  have hl : xs.length = 3 := hxl
  rw [h2] at hcl
  have hd : x.1 = .agg (xs.map (·.1)) := by rw [hx]
  rw [hd] at hz
  have hf0 : (Try.prog.fieldsOf 31)[0]? = some { name := "Key", type := 9, offset := 0, embedded := false, tag := "", pkgPath := "", byteOffset := 0 } := by kernel_rfl
  have hf1 : (Try.prog.fieldsOf 31)[1]? = some { name := "Has", type := 4, offset := 1, embedded := false, tag := "", pkgPath := "", byteOffset := 16 } := by kernel_rfl
  have hf2 : (Try.prog.fieldsOf 31)[2]? = some { name := "Value", type := 9, offset := 2, embedded := false, tag := "", pkgPath := "", byteOffset := 24 } := by kernel_rfl
  have g0 := hfs 0 _ hf0
  have g1 := hfs 1 _ hf1
  have g2 := hfs 2 _ hf2
  have k1 : Try.prog.cellsOf 9 = 1 := by kernel_rfl
  have k2 : Try.prog.cellsOf 4 = 1 := by kernel_rfl
  obtain ⟨y0, y1, y2, rfl⟩ : ∃ y0 y1 y2, xs = [y0, y1, y2] := match xs, hl with | [a, b, c], _ => ⟨a, b, c, rfl⟩
  match cs, hcl with
  | [a, b, c], _ =>
    simp only [k1, k2, List.getElem?_cons_zero, List.getElem?_cons_succ, List.drop_zero, List.drop_succ_cons, List.take_succ_cons, List.take_zero] at g0 g1 g2
    obtain ⟨s0, hs0, hsy0, _⟩ := DataW.trod_string Try.underlying9 g0
    obtain ⟨b1, hs1, _⟩ := DataW.trod_bool Try.underlying4 g1
    obtain ⟨s2, hs2, hsy2, _⟩ := DataW.trod_string Try.underlying9 g2
    have hr0 : s0.size ≤ 281474976710656 := text_reach (H := H) (P := Try.prog) (t := 9) fun n hn => hz n (weight_struct eqChange hf0 (by rw [List.getElem?_map, List.getElem?_cons_zero, hsy0]; rfl) n hn)
    have hr2 : s2.size ≤ 281474976710656 := text_reach (H := H) (P := Try.prog) (t := 9) fun n hn => hz n (weight_struct eqChange hf2 (by rw [List.getElem?_map, List.getElem?_cons_succ, List.getElem?_cons_succ, List.getElem?_cons_zero, hsy2]; rfl) n hn)
    simp only [List.cons.injEq, and_true] at hs0 hs1 hs2
    subst hs0 hs1 hs2
    exact ⟨⟨s0, b1, s2⟩, rfl, hr0, hr2⟩

/-- An argument that is a change. -/
theorem change_open {H : Type} {enc : TypeId × Value → H} {W : World} {v : Value} {d : DataW H} {ps : List MemPlace} (hok : Value.okWide Try.prog W .any 0 31 v) (h : DataW.Trod enc Try.prog W 0 (fun _ => true) true 31 v d ps)
    (hz : ∀ n ∈ d.weights Try.prog 31, n ≤ reachBytes) : ∃ c : ChD, v = .agg #[.string c.key, .bool c.has, .string c.val] ∧ c.fits := by
  obtain ⟨fuel, hf⟩ := h
  obtain ⟨cs, rfl, hcs⟩ := okWide_struct eqChange hok
  obtain ⟨c, hc, hfit⟩ := change_cells hf hz
  refine ⟨c, ?_, hfit⟩
  have : cs.toList = [.string c.key, .bool c.has, .string c.val] := by simpa [Value.cells] using hc
  rw [show cs = cs.toList.toArray by simp, this]

theorem bop_open {H : Type} {enc : TypeId × Value → H} {W : World} {fuel : Nat} {cs : List Value} {x : DataW H × List MemPlace} (h : DataW.trod enc Try.prog W 0 (fun _ => true) true fuel 33 cs = some x)
    (hz : ∀ n ∈ x.1.weights Try.prog 33, n ≤ reachBytes) : ∃ o : BD, cs = o.cells ∧ o.fits := by
  obtain ⟨xs, n, _, hx, hcl, hxl, hfs⟩ := DataW.trod_struct eqBop h
  have h4 : Try.prog.cellsOf 33 = 5 := by kernel_rfl
  have hl : xs.length = 3 := hxl
  rw [h4] at hcl
  have hd : x.1 = .agg (xs.map (·.1)) := by rw [hx]
  rw [hd] at hz
  have hf0 : (Try.prog.fieldsOf 33)[0]? = some { name := "Kind", type := 3, offset := 0, embedded := false, tag := "", pkgPath := "", byteOffset := 0 } := by kernel_rfl
  have hf1 : (Try.prog.fieldsOf 33)[1]? = some { name := "N", type := 3, offset := 1, embedded := false, tag := "", pkgPath := "", byteOffset := 8 } := by kernel_rfl
  have hf2 : (Try.prog.fieldsOf 33)[2]? = some { name := "C", type := 31, offset := 2, embedded := false, tag := "", pkgPath := "", byteOffset := 16 } := by kernel_rfl
  have g0 := hfs 0 _ hf0
  have g1 := hfs 1 _ hf1
  have g2 := hfs 2 _ hf2
  have k0 : Try.prog.cellsOf 3 = 1 := by kernel_rfl
  have k1 : Try.prog.cellsOf 31 = 3 := by kernel_rfl
  obtain ⟨y0, y1, y2, rfl⟩ : ∃ y0 y1 y2, xs = [y0, y1, y2] := match xs, hl with | [a, b, c], _ => ⟨a, b, c, rfl⟩
  match cs, hcl with
  | [a, b, c, d, e], _ =>
    simp only [k0, k1, List.getElem?_cons_zero, List.getElem?_cons_succ, List.drop_zero, List.drop_succ_cons, List.take_succ_cons, List.take_zero] at g0 g1 g2
    obtain ⟨s0, hs0, _, hk0⟩ := DataW.trod_int Try.underlying3 g0
    obtain ⟨s1, hs1, _, hk1⟩ := DataW.trod_int Try.underlying3 g1
    obtain ⟨ch, hc, hcf⟩ := change_cells g2 (fun n hn => hz n (weight_struct eqBop hf2 rfl n hn))
    simp only [List.cons.injEq, and_true] at hs0 hs1 hc
    obtain ⟨rfl, rfl, rfl⟩ := hc
    subst hs0 hs1
    exact ⟨⟨s0, s1, ch⟩, rfl, (bounds_i64 hk0).1, (bounds_i64 hk0).2, (bounds_i64 hk1).1, (bounds_i64 hk1).2, hcf⟩

/-- What is done. -/
theorem bops_open {H : Type} {enc : TypeId × Value → H} {W : World} {fuel : Nat} {cs : List Value} {x : DataW H × List MemPlace} (hf : DataW.trod enc Try.prog W 0 (fun _ => true) true fuel 22 cs = some x)
    (hz : ∀ n ∈ x.1.weights Try.prog 22, n ≤ reachBytes) : ∃ (pa : Option Addr) (len cap : Nat) (L : List BD), cs = [.slice pa len cap] ∧ L.length = len ∧ Sb W pa L ∧ (∀ o ∈ L, o.fits) ∧ len ≤ maxLen := by
  have h4 : Try.prog.cellsOf 33 = 5 := by kernel_rfl
  rcases open_slice Try.underlying22 hf with ⟨hcs, _⟩ | ⟨a, len, cap, m, n, D, Pl, hcs, hb, hl, hm, hmm, hx, hi⟩
  · exact ⟨none, 0, 0, [], hcs, rfl, Sb.nil _ _, (fun _ h => by cases h), Nat.zero_le _⟩
  · have hmm' : m = cap := by simpa using hmm
    subst hmm'
    rw [h4] at hi
    have hd : x.1 = .slice ((List.range len).map D) ((List.range (m - len)).map fun j => D (len + j)) := by rw [hx]
    have el : ∀ i, i < len → ∃ o : BD, W.cell? (a.add (i * 5)) = some (.int .i64 o.kind) ∧ W.cell? (a.add (i * 5 + 1)) = some (.int .i64 o.n) ∧ W.cell? (a.add (i * 5 + 2)) = some (.string o.c.key) ∧ W.cell? (a.add (i * 5 + 3)) = some (.bool o.c.has) ∧ W.cell? (a.add (i * 5 + 4)) = some (.string o.c.val) ∧ o.fits := by
      intro i hil
      obtain ⟨cs', hc, ht⟩ := hi i (by omega)
      obtain ⟨_, hcl, hat⟩ := World.cells?_some hc
      have hmem : D i ∈ (List.range len).map D := List.mem_map.2 ⟨i, List.mem_range.2 hil, rfl⟩
      have hw : ∀ n ∈ (D i).weights Try.prog 33, n ≤ reachBytes := fun n hn => hz n (by
        rw [hd]
        simp only [DataW.weights, Try.underlying22, List.mem_cons, List.mem_append]
        exact Or.inr (Or.inl (weightsAll_mem hmem _ hn)))
      obtain ⟨o, rfl, hE⟩ := bop_open ht hw
      have c := fun j (hj : j < 5) => hat j hj
      simp only [Go.Deep.add_add] at c
      refine ⟨o, ?_, ?_, ?_, ?_, ?_, hE⟩
      · have := c 0 (by omega); simpa [BD.cells] using this
      · have := c 1 (by omega); simpa [BD.cells] using this
      · have := c 2 (by omega); simpa [BD.cells] using this
      · have := c 3 (by omega); simpa [BD.cells] using this
      · have := c 4 (by omega); simpa [BD.cells] using this
    have hcho : ∀ i, ∃ o : BD, i < len → (W.cell? (a.add (i * 5)) = some (.int .i64 o.kind) ∧ W.cell? (a.add (i * 5 + 1)) = some (.int .i64 o.n) ∧ W.cell? (a.add (i * 5 + 2)) = some (.string o.c.key) ∧ W.cell? (a.add (i * 5 + 3)) = some (.bool o.c.has) ∧ W.cell? (a.add (i * 5 + 4)) = some (.string o.c.val) ∧ o.fits) := fun i => by
      by_cases hil : i < len
      · obtain ⟨o, ho⟩ := el i hil
        exact ⟨o, fun _ => ho⟩
      · exact ⟨⟨0, 0, ⟨⟨#[]⟩, false, ⟨#[]⟩⟩⟩, fun h => absurd h hil⟩
    obtain ⟨O, hO⟩ := Classical.axiomOfChoice hcho
    refine ⟨some a, len, m, (List.range len).map O, hcs, by simp, fun i hi' => ?_, fun q hq => ?_, by omega⟩
    · have hil : i < len := by simpa using hi'
      obtain ⟨c0, c1, c2, c3, c4, _⟩ := hO i hil
      have hsp : a.spot = none := by
        have h00 := (hO 0 (by omega)).1
        rw [Nat.zero_mul, add_zero'] at h00
        have h01 := (addr_plain h00).1
        rw [h01]
      have hab : a = ⟨a.block, a.off, none⟩ := addr_of_spot a hsp
      rw [hab, Addr.add_lit] at c0 c1 c2 c3 c4
      refine ⟨a.block, a.off, by rw [← hab], ?_, ?_, ?_, ?_, ?_⟩
      · simpa using c0
      · rw [Nat.add_assoc]; simpa using c1
      · rw [Nat.add_assoc]; simpa using c2
      · rw [Nat.add_assoc]; simpa using c3
      · rw [Nat.add_assoc]; simpa using c4
    · obtain ⟨i, hi', rfl⟩ := List.mem_map.1 hq
      exact (hO i (List.mem_range.1 hi')).2.2.2.2.2

end Go.Proofs.Ytofkllokmecfgaa
