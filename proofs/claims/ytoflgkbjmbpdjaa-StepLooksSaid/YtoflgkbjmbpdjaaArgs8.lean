/-
  An operation, an argument, opened to its guards and its steps.
-/
import Derived.Test.YtoflgkbjmbpdjaaOpen
import Derived.Test.YtoflgkbjmbpdjaaPartswalk
namespace Go.Proofs.Ytoflgkbjmbpdjaa
open Go.ChangeShapes Go.WideShapes Go.ChangeAt Go.RowKit Go.Deep
open Go.ChangeMaps (open_string shut_string)

theorem eqGuard : Try.prog.underlying 30 = some (.struct (Try.prog.fieldsOf 30)) := by kernel_rfl
theorem eqStep : Try.prog.underlying 33 = some (.struct (Try.prog.fieldsOf 33)) := by kernel_rfl
theorem eqOp : Try.prog.underlying 25 = some (.struct (Try.prog.fieldsOf 25)) := by kernel_rfl

theorem guards_open {H : Type} {enc : TypeId × Value → H} {W : World} {fuel : Nat} {cs : List Value} {x : DataW H × List MemPlace} (hf : DataW.trod enc Try.prog W 0 (fun _ => true) true fuel 22 cs = some x)
    (hz : ∀ n ∈ x.1.weights Try.prog 22, n ≤ reachBytes) : ∃ (pa : Option Addr) (len cap : Nat) (L : List GD), cs = [.slice pa len cap] ∧ L.length = len ∧ Sg W pa L ∧ (∀ g ∈ L, g.fits) ∧ len ≤ maxLen := by
  have h3 : (Try.prog.fieldsOf 30).size = 3 := by kernel_rfl
  rcases open_slice_fields (fs := Try.prog.fieldsOf 30) Try.underlying22 eqGuard (by kernel_rfl) (by kernel_rfl) hf with ⟨hcs, _⟩ | ⟨a, len, cap, m, D, Pl, hcs, hb, hl, hm, hmm, hx, hi⟩
  · exact ⟨none, 0, 0, [], hcs, rfl, Sg.nil _ _, (fun _ h => by cases h), Nat.zero_le _⟩
  · have hmm' : m = cap := by simpa using hmm
    subst hmm'
    rw [h3] at hi
    have hd : x.1 = .slice ((List.range len).map D) ((List.range (m - len)).map fun j => D (len + j)) := by rw [hx]
    have el : ∀ i, i < len → ∃ o : GD, W.cell? (a.add (i * 3)) = some (.int .i64 o.kind) ∧ W.cell? (a.add (i * 3 + 1)) = some (.string o.key) ∧ W.cell? (a.add (i * 3 + 2)) = some (.string o.val) ∧ o.fits := by
      intro i hil
      obtain ⟨ys, n, hD, hPl, hyl, hf⟩ := hi i (by omega)
      have hmem : D i ∈ (List.range len).map D := List.mem_map.2 ⟨i, List.mem_range.2 hil, rfl⟩
      have hw : ∀ n ∈ (D i).weights Try.prog 30, n ≤ reachBytes := fun n hn => hz n (by
        rw [hd]
        simp only [DataW.weights, Try.underlying22, List.mem_cons, List.mem_append]
        exact Or.inr (Or.inl (weightsAll_mem hmem _ hn)))
      rw [hD] at hw
      have hf0 : (Try.prog.fieldsOf 30)[0]? = some { name := "Kind", type := 3, offset := 0, embedded := false, tag := "", pkgPath := "", byteOffset := 0 } := by kernel_rfl
      obtain ⟨v0, y0, hc0, hy0, ht0⟩ := hf 0 _ hf0
      obtain ⟨s0, hs0, hsy0, hk0⟩ := DataW.trod_int Try.underlying3 ht0
      simp only [List.cons.injEq, and_true] at hs0
      subst hs0
      have hf1 : (Try.prog.fieldsOf 30)[1]? = some { name := "Key", type := 9, offset := 1, embedded := false, tag := "", pkgPath := "", byteOffset := 8 } := by kernel_rfl
      obtain ⟨v1, y1, hc1, hy1, ht1⟩ := hf 1 _ hf1
      obtain ⟨s1, hs1, hsy1, _⟩ := DataW.trod_string Try.underlying9 ht1
      have hr1 : s1.size ≤ 281474976710656 := text_reach (H := H) (P := Try.prog) (t := 9) fun n hn => hw n (weight_struct eqGuard hf1 (by rw [List.getElem?_map, hy1, hsy1]; rfl) n hn)
      simp only [List.cons.injEq, and_true] at hs1
      subst hs1
      have hf2 : (Try.prog.fieldsOf 30)[2]? = some { name := "Value", type := 9, offset := 2, embedded := false, tag := "", pkgPath := "", byteOffset := 24 } := by kernel_rfl
      obtain ⟨v2, y2, hc2, hy2, ht2⟩ := hf 2 _ hf2
      obtain ⟨s2, hs2, hsy2, _⟩ := DataW.trod_string Try.underlying9 ht2
      have hr2 : s2.size ≤ 281474976710656 := text_reach (H := H) (P := Try.prog) (t := 9) fun n hn => hw n (weight_struct eqGuard hf2 (by rw [List.getElem?_map, hy2, hsy2]; rfl) n hn)
      simp only [List.cons.injEq, and_true] at hs2
      subst hs2
      exact ⟨⟨s0, s1, s2⟩, by simpa using hc0, hc1, hc2, (bounds_i64 hk0).1, (bounds_i64 hk0).2, hr1, hr2⟩
    have hcho : ∀ i, ∃ o : GD, i < len → (W.cell? (a.add (i * 3)) = some (.int .i64 o.kind) ∧ W.cell? (a.add (i * 3 + 1)) = some (.string o.key) ∧ W.cell? (a.add (i * 3 + 2)) = some (.string o.val) ∧ o.fits) := fun i => by
      by_cases hil : i < len
      · obtain ⟨o, ho⟩ := el i hil
        exact ⟨o, fun _ => ho⟩
      · exact ⟨⟨0, ⟨#[]⟩, ⟨#[]⟩⟩, fun h => absurd h hil⟩
    obtain ⟨O, hO⟩ := Classical.axiomOfChoice hcho
    refine ⟨some a, len, m, (List.range len).map O, hcs, by simp, fun i hi' => ?_, fun q hq => ?_, by omega⟩
    · have hil : i < len := by simpa using hi'
      obtain ⟨c0, c1, c2, _⟩ := hO i hil
      have hsp : a.spot = none := by
        have h00 := (hO 0 (by omega)).1
        rw [Nat.zero_mul, add_zero'] at h00
        have h01 := (addr_plain h00).1
        rw [h01]
      have hab : a = ⟨a.block, a.off, none⟩ := addr_of_spot a hsp
      rw [hab, Addr.add_lit] at c0 c1 c2
      refine ⟨a.block, a.off, by rw [← hab], ?_, ?_, ?_⟩
      · simpa using c0
      · rw [Nat.add_assoc]; simpa using c1
      · rw [Nat.add_assoc]; simpa using c2
    · obtain ⟨i, hi', rfl⟩ := List.mem_map.1 hq
      exact (hO i (List.mem_range.1 hi')).2.2.2

theorem steps_open {H : Type} {enc : TypeId × Value → H} {W : World} {fuel : Nat} {cs : List Value} {x : DataW H × List MemPlace} (hf : DataW.trod enc Try.prog W 0 (fun _ => true) true fuel 23 cs = some x)
    (hz : ∀ n ∈ x.1.weights Try.prog 23, n ≤ reachBytes) : ∃ (pa : Option Addr) (len cap : Nat) (L : List SD), cs = [.slice pa len cap] ∧ L.length = len ∧ Ss W pa L ∧ (∀ g ∈ L, g.fits) ∧ len ≤ maxLen := by
  have h3 : (Try.prog.fieldsOf 33).size = 5 := by kernel_rfl
  rcases open_slice_fields (fs := Try.prog.fieldsOf 33) Try.underlying23 eqStep (by kernel_rfl) (by kernel_rfl) hf with ⟨hcs, _⟩ | ⟨a, len, cap, m, D, Pl, hcs, hb, hl, hm, hmm, hx, hi⟩
  · exact ⟨none, 0, 0, [], hcs, rfl, Ss.nil _ _, (fun _ h => by cases h), Nat.zero_le _⟩
  · have hmm' : m = cap := by simpa using hmm
    subst hmm'
    rw [h3] at hi
    have hd : x.1 = .slice ((List.range len).map D) ((List.range (m - len)).map fun j => D (len + j)) := by rw [hx]
    have el : ∀ i, i < len → ∃ o : SD, W.cell? (a.add (i * 5)) = some (.int .i64 o.kind) ∧ W.cell? (a.add (i * 5 + 1)) = some (.string o.key) ∧ W.cell? (a.add (i * 5 + 2)) = some (.string o.val) ∧ W.cell? (a.add (i * 5 + 3)) = some (.string o.old) ∧ W.cell? (a.add (i * 5 + 4)) = some (.int .i64 o.n) ∧ o.fits := by
      intro i hil
      obtain ⟨ys, n, hD, hPl, hyl, hf⟩ := hi i (by omega)
      have hmem : D i ∈ (List.range len).map D := List.mem_map.2 ⟨i, List.mem_range.2 hil, rfl⟩
      have hw : ∀ n ∈ (D i).weights Try.prog 33, n ≤ reachBytes := fun n hn => hz n (by
        rw [hd]
        simp only [DataW.weights, Try.underlying23, List.mem_cons, List.mem_append]
        exact Or.inr (Or.inl (weightsAll_mem hmem _ hn)))
      rw [hD] at hw
      have hf0 : (Try.prog.fieldsOf 33)[0]? = some { name := "Kind", type := 3, offset := 0, embedded := false, tag := "", pkgPath := "", byteOffset := 0 } := by kernel_rfl
      obtain ⟨v0, y0, hc0, hy0, ht0⟩ := hf 0 _ hf0
      obtain ⟨s0, hs0, hsy0, hk0⟩ := DataW.trod_int Try.underlying3 ht0
      simp only [List.cons.injEq, and_true] at hs0
      subst hs0
      have hf1 : (Try.prog.fieldsOf 33)[1]? = some { name := "Key", type := 9, offset := 1, embedded := false, tag := "", pkgPath := "", byteOffset := 8 } := by kernel_rfl
      obtain ⟨v1, y1, hc1, hy1, ht1⟩ := hf 1 _ hf1
      obtain ⟨s1, hs1, hsy1, _⟩ := DataW.trod_string Try.underlying9 ht1
      have hr1 : s1.size ≤ 281474976710656 := text_reach (H := H) (P := Try.prog) (t := 9) fun n hn => hw n (weight_struct eqStep hf1 (by rw [List.getElem?_map, hy1, hsy1]; rfl) n hn)
      simp only [List.cons.injEq, and_true] at hs1
      subst hs1
      have hf2 : (Try.prog.fieldsOf 33)[2]? = some { name := "Value", type := 9, offset := 2, embedded := false, tag := "", pkgPath := "", byteOffset := 24 } := by kernel_rfl
      obtain ⟨v2, y2, hc2, hy2, ht2⟩ := hf 2 _ hf2
      obtain ⟨s2, hs2, hsy2, _⟩ := DataW.trod_string Try.underlying9 ht2
      have hr2 : s2.size ≤ 281474976710656 := text_reach (H := H) (P := Try.prog) (t := 9) fun n hn => hw n (weight_struct eqStep hf2 (by rw [List.getElem?_map, hy2, hsy2]; rfl) n hn)
      simp only [List.cons.injEq, and_true] at hs2
      subst hs2
      have hf3 : (Try.prog.fieldsOf 33)[3]? = some { name := "Old", type := 9, offset := 3, embedded := false, tag := "", pkgPath := "", byteOffset := 40 } := by kernel_rfl
      obtain ⟨v3, y3, hc3, hy3, ht3⟩ := hf 3 _ hf3
      obtain ⟨s3, hs3, hsy3, _⟩ := DataW.trod_string Try.underlying9 ht3
      have hr3 : s3.size ≤ 281474976710656 := text_reach (H := H) (P := Try.prog) (t := 9) fun n hn => hw n (weight_struct eqStep hf3 (by rw [List.getElem?_map, hy3, hsy3]; rfl) n hn)
      simp only [List.cons.injEq, and_true] at hs3
      subst hs3
      have hf4 : (Try.prog.fieldsOf 33)[4]? = some { name := "N", type := 2, offset := 4, embedded := false, tag := "", pkgPath := "", byteOffset := 56 } := by kernel_rfl
      obtain ⟨v4, y4, hc4, hy4, ht4⟩ := hf 4 _ hf4
      obtain ⟨s4, hs4, hsy4, hk4⟩ := DataW.trod_int Try.underlying2 ht4
      simp only [List.cons.injEq, and_true] at hs4
      subst hs4
      exact ⟨⟨s0, s1, s2, s3, s4⟩, by simpa using hc0, hc1, hc2, hc3, hc4, (bounds_i64 hk0).1, (bounds_i64 hk0).2, hr1, hr2, hr3, (bounds_i64 hk4).1, (bounds_i64 hk4).2⟩
    have hcho : ∀ i, ∃ o : SD, i < len → (W.cell? (a.add (i * 5)) = some (.int .i64 o.kind) ∧ W.cell? (a.add (i * 5 + 1)) = some (.string o.key) ∧ W.cell? (a.add (i * 5 + 2)) = some (.string o.val) ∧ W.cell? (a.add (i * 5 + 3)) = some (.string o.old) ∧ W.cell? (a.add (i * 5 + 4)) = some (.int .i64 o.n) ∧ o.fits) := fun i => by
      by_cases hil : i < len
      · obtain ⟨o, ho⟩ := el i hil
        exact ⟨o, fun _ => ho⟩
      · exact ⟨⟨0, ⟨#[]⟩, ⟨#[]⟩, ⟨#[]⟩, 0⟩, fun h => absurd h hil⟩
    obtain ⟨O, hO⟩ := Classical.axiomOfChoice hcho
    refine ⟨some a, len, m, (List.range len).map O, hcs, by simp, fun i hi' => ?_, fun q hq => ?_, by omega⟩
    · have hil : i < len := by simpa using hi'
      obtain ⟨c0, c1, c2, c3, c4, _⟩ := hO i hil
      have hsp : a.spot = none := by
        have h00 := (hO 0 (by omega)).1
        rw [Nat.zero_mul, add_zero'] at h00
        have h01 := (addr_plain h00).1
        rw [h01]
      have hab : a = ⟨a.block, a.off, none⟩ := addr_of_spot a hsp
      rw [hab, Addr.add_lit] at c0 c1 c2 c3 c4
      refine ⟨a.block, a.off, by rw [← hab], ?_, ?_, ?_, ?_, ?_⟩
      · simpa using c0
      · rw [Nat.add_assoc]; simpa using c1
      · rw [Nat.add_assoc]; simpa using c2
      · rw [Nat.add_assoc]; simpa using c3
      · rw [Nat.add_assoc]; simpa using c4
    · obtain ⟨i, hi', rfl⟩ := List.mem_map.1 hq
      exact (hO i (List.mem_range.1 hi')).2.2.2.2.2

/-- The argument's guards and steps. -/
theorem op_open {H : Type} {enc : TypeId × Value → H} {W : World} {v : Value} {d : DataW H} {ps : List MemPlace} (hok : Value.okWide Try.prog W .any 0 25 v) (h : DataW.Trod enc Try.prog W 0 (fun _ => true) true 25 v d ps)
    (hz : ∀ n ∈ d.weights Try.prog 25, n ≤ reachBytes) : ∃ (pg p : Option Addr) (ng ns cg cs : Nat) (G : List GD) (S : List SD), v = .agg #[.slice pg ng cg, .slice p ns cs] ∧ ArgO W pg p ng ns G S ∧ ng ≤ 9223372036854775807 ∧ ns ≤ 9223372036854775807 := by
  obtain ⟨fuel, hf⟩ := h
  obtain ⟨cs, rfl, hcs⟩ := okWide_struct eqOp hok
  have h2 : Try.prog.cellsOf 25 = 2 := by kernel_rfl
  rw [h2] at hcs
  obtain ⟨xs, n, _, hx, _, hxl, hfs⟩ := DataW.trod_struct eqOp hf
  have hd : d = .agg (xs.map (·.1)) := (Prod.mk.inj hx).1
  have hf0 : (Try.prog.fieldsOf 25)[0]? = some { name := "Guards", type := 22, offset := 0, embedded := false, tag := "", pkgPath := "", byteOffset := 0 } := by kernel_rfl
  have hf1 : (Try.prog.fieldsOf 25)[1]? = some { name := "Steps", type := 23, offset := 1, embedded := false, tag := "", pkgPath := "", byteOffset := 24 } := by kernel_rfl
  have g0 := hfs 0 _ hf0
  have g1 := hfs 1 _ hf1
  have hl : xs.length = 2 := hxl
  have k1 : Try.prog.cellsOf 22 = 1 := by kernel_rfl
  have k2 : Try.prog.cellsOf 23 = 1 := by kernel_rfl
  obtain ⟨y0, y1, rfl⟩ : ∃ y0 y1, xs = [y0, y1] := match xs, hl with | [a, b], _ => ⟨a, b, rfl⟩
  · simp only [k1, k2, List.getElem?_cons_zero, List.getElem?_cons_succ] at g0 g1
    rw [hd] at hz
    obtain ⟨pg, ng, cg, G, e0, hG, sG, fG, mG⟩ := guards_open g0 (fun n hn => hz n (weight_struct eqOp hf0 rfl n hn))
    obtain ⟨p, ns, cs', S, e1, hS, sS, fS, mS⟩ := steps_open g1 (fun n hn => hz n (weight_struct eqOp hf1 rfl n hn))
    refine ⟨pg, p, ng, ns, cg, cs', G, S, ?_, ⟨sG, sS, hG, hS, fG, fS⟩, by simpa [maxLen] using mG, by simpa [maxLen] using mS⟩
    obtain ⟨l⟩ := cs
    match l, hcs with
    | [a, b], _ =>
      simp [Value.cells] at e0 e1
      rw [e0, e1]

end Go.Proofs.Ytoflgkbjmbpdjaa
