/-
  Entries, and names, arguments, opened to their cells and their lists.
-/
import Derived.Test.YtkfnndhoccjffaaOpen
import Derived.Test.YtkfnndhoccjffaaEnt
namespace Go.Proofs.Ytkfnndhoccjffaa
open Go.ChangeShapes Go.WideShapes Go.ChangeAt Go.RowKit Go.Deep
open Go.ChangeMaps (open_string shut_string)

theorem eqGuard : Try.prog.underlying 57 = some (.struct (Try.prog.fieldsOf 57)) := by kernel_rfl
theorem eqStep : Try.prog.underlying 59 = some (.struct (Try.prog.fieldsOf 59)) := by kernel_rfl
theorem eqOp : Try.prog.underlying 38 = some (.struct (Try.prog.fieldsOf 38)) := by kernel_rfl
theorem eqId : Try.prog.underlying 34 = some (.struct (Try.prog.fieldsOf 34)) := by kernel_rfl
theorem eqEntry : Try.prog.underlying 40 = some (.struct (Try.prog.fieldsOf 40)) := by kernel_rfl

theorem guards_open {H : Type} {enc : TypeId × Value → H} {W : World} {fuel : Nat} {cs : List Value} {x : DataW H × List MemPlace} (hf : DataW.trod enc Try.prog W 0 (fun _ => true) true fuel 35 cs = some x)
    (hz : ∀ n ∈ x.1.weights Try.prog 35, n ≤ reachBytes) : ∃ (pa : Option Addr) (len cap : Nat) (L : List GD), cs = [.slice pa len cap] ∧ L.length = len ∧ Sg W pa L ∧ (∀ g ∈ L, g.fits) ∧ len ≤ maxLen := by
  have h3 : (Try.prog.fieldsOf 57).size = 3 := by kernel_rfl
  rcases open_slice_fields (fs := Try.prog.fieldsOf 57) Try.underlying35 eqGuard (by kernel_rfl) (by kernel_rfl) hf with ⟨hcs, _⟩ | ⟨a, len, cap, m, D, Pl, hcs, hb, hl, hm, hmm, hx, hi⟩
  · exact ⟨none, 0, 0, [], hcs, rfl, Sg.nil _ _, (fun _ h => by cases h), Nat.zero_le _⟩
  · have hmm' : m = cap := by simpa using hmm
    subst hmm'
    rw [h3] at hi
    have hd : x.1 = .slice ((List.range len).map D) ((List.range (m - len)).map fun j => D (len + j)) := by rw [hx]
    have el : ∀ i, i < len → ∃ o : GD, W.cell? (a.add (i * 3)) = some (.int .i64 o.kind) ∧ W.cell? (a.add (i * 3 + 1)) = some (.string o.key) ∧ W.cell? (a.add (i * 3 + 2)) = some (.string o.val) ∧ o.fits := by
      intro i hil
      obtain ⟨ys, n, hD, hPl, hyl, hf⟩ := hi i (by omega)
      have hmem : D i ∈ (List.range len).map D := List.mem_map.2 ⟨i, List.mem_range.2 hil, rfl⟩
      have hw : ∀ n ∈ (D i).weights Try.prog 57, n ≤ reachBytes := fun n hn => hz n (by
        rw [hd]
        simp only [DataW.weights, Try.underlying35, List.mem_cons, List.mem_append]
        exact Or.inr (Or.inl (weightsAll_mem hmem _ hn)))
      rw [hD] at hw
      have hf0 : (Try.prog.fieldsOf 57)[0]? = some { name := "Kind", type := 3, offset := 0, embedded := false, tag := "", pkgPath := "", byteOffset := 0 } := by kernel_rfl
      obtain ⟨v0, y0, hc0, hy0, ht0⟩ := hf 0 _ hf0
      obtain ⟨s0, hs0, hsy0, hk0⟩ := DataW.trod_int Try.underlying3 ht0
      simp only [List.cons.injEq, and_true] at hs0
      subst hs0
      have hf1 : (Try.prog.fieldsOf 57)[1]? = some { name := "Key", type := 9, offset := 1, embedded := false, tag := "", pkgPath := "", byteOffset := 8 } := by kernel_rfl
      obtain ⟨v1, y1, hc1, hy1, ht1⟩ := hf 1 _ hf1
      obtain ⟨s1, hs1, hsy1, _⟩ := DataW.trod_string Try.underlying9 ht1
      have hr1 : s1.size ≤ 281474976710656 := text_reach (H := H) (P := Try.prog) (t := 9) fun n hn => hw n (weight_struct eqGuard hf1 (by rw [List.getElem?_map, hy1, hsy1]; rfl) n hn)
      simp only [List.cons.injEq, and_true] at hs1
      subst hs1
      have hf2 : (Try.prog.fieldsOf 57)[2]? = some { name := "Value", type := 9, offset := 2, embedded := false, tag := "", pkgPath := "", byteOffset := 24 } := by kernel_rfl
      obtain ⟨v2, y2, hc2, hy2, ht2⟩ := hf 2 _ hf2
      obtain ⟨s2, hs2, hsy2, _⟩ := DataW.trod_string Try.underlying9 ht2
      have hr2 : s2.size ≤ 281474976710656 := text_reach (H := H) (P := Try.prog) (t := 9) fun n hn => hw n (weight_struct eqGuard hf2 (by rw [List.getElem?_map, hy2, hsy2]; rfl) n hn)
      simp only [List.cons.injEq, and_true] at hs2
      subst hs2
      exact ⟨⟨s0, s1, s2⟩, by simpa using hc0, hc1, hc2, (bounds_i64 hk0).1, (bounds_i64 hk0).2, hr1, hr2⟩
    have hcho : ∀ i, ∃ o : GD, i < len → (W.cell? (a.add (i * 3)) = some (.int .i64 o.kind) ∧ W.cell? (a.add (i * 3 + 1)) = some (.string o.key) ∧ W.cell? (a.add (i * 3 + 2)) = some (.string o.val) ∧ o.fits) := fun i => by
      by_cases hil : i < len
      · obtain ⟨o, ho⟩ := el i hil
        exact ⟨o, fun _ => ho⟩
      · exact ⟨⟨0, ⟨#[]⟩, ⟨#[]⟩⟩, fun h => absurd h hil⟩
    obtain ⟨O, hO⟩ := Classical.axiomOfChoice hcho
    refine ⟨some a, len, m, (List.range len).map O, hcs, by simp, fun i hi' => ?_, fun q hq => ?_, by omega⟩
    · have hil : i < len := by simpa using hi'
      obtain ⟨c0, c1, c2, _⟩ := hO i hil
      have hsp : a.spot = none := by
        have h00 := (hO 0 (by omega)).1
        rw [Nat.zero_mul, add_zero'] at h00
        have h01 := (addr_plain h00).1
        rw [h01]
      have hab : a = ⟨a.block, a.off, none⟩ := addr_of_spot a hsp
      rw [hab, Addr.add_lit] at c0 c1 c2
      refine ⟨a.block, a.off, by rw [← hab], ?_, ?_, ?_⟩
      · simpa using c0
      · rw [Nat.add_assoc]; simpa using c1
      · rw [Nat.add_assoc]; simpa using c2
    · obtain ⟨i, hi', rfl⟩ := List.mem_map.1 hq
      exact (hO i (List.mem_range.1 hi')).2.2.2

theorem steps_open {H : Type} {enc : TypeId × Value → H} {W : World} {fuel : Nat} {cs : List Value} {x : DataW H × List MemPlace} (hf : DataW.trod enc Try.prog W 0 (fun _ => true) true fuel 36 cs = some x)
    (hz : ∀ n ∈ x.1.weights Try.prog 36, n ≤ reachBytes) : ∃ (pa : Option Addr) (len cap : Nat) (L : List SD), cs = [.slice pa len cap] ∧ L.length = len ∧ Ss W pa L ∧ (∀ g ∈ L, g.fits) ∧ len ≤ maxLen := by
  have h3 : (Try.prog.fieldsOf 59).size = 5 := by kernel_rfl
  rcases open_slice_fields (fs := Try.prog.fieldsOf 59) Try.underlying36 eqStep (by kernel_rfl) (by kernel_rfl) hf with ⟨hcs, _⟩ | ⟨a, len, cap, m, D, Pl, hcs, hb, hl, hm, hmm, hx, hi⟩
  · exact ⟨none, 0, 0, [], hcs, rfl, Ss.nil _ _, (fun _ h => by cases h), Nat.zero_le _⟩
  · have hmm' : m = cap := by simpa using hmm
    subst hmm'
    rw [h3] at hi
    have hd : x.1 = .slice ((List.range len).map D) ((List.range (m - len)).map fun j => D (len + j)) := by rw [hx]
    have el : ∀ i, i < len → ∃ o : SD, W.cell? (a.add (i * 5)) = some (.int .i64 o.kind) ∧ W.cell? (a.add (i * 5 + 1)) = some (.string o.key) ∧ W.cell? (a.add (i * 5 + 2)) = some (.string o.val) ∧ W.cell? (a.add (i * 5 + 3)) = some (.string o.old) ∧ W.cell? (a.add (i * 5 + 4)) = some (.int .i64 o.n) ∧ o.fits := by
      intro i hil
      obtain ⟨ys, n, hD, hPl, hyl, hf⟩ := hi i (by omega)
      have hmem : D i ∈ (List.range len).map D := List.mem_map.2 ⟨i, List.mem_range.2 hil, rfl⟩
      have hw : ∀ n ∈ (D i).weights Try.prog 59, n ≤ reachBytes := fun n hn => hz n (by
        rw [hd]
        simp only [DataW.weights, Try.underlying36, List.mem_cons, List.mem_append]
        exact Or.inr (Or.inl (weightsAll_mem hmem _ hn)))
      rw [hD] at hw
      have hf0 : (Try.prog.fieldsOf 59)[0]? = some { name := "Kind", type := 3, offset := 0, embedded := false, tag := "", pkgPath := "", byteOffset := 0 } := by kernel_rfl
      obtain ⟨v0, y0, hc0, hy0, ht0⟩ := hf 0 _ hf0
      obtain ⟨s0, hs0, hsy0, hk0⟩ := DataW.trod_int Try.underlying3 ht0
      simp only [List.cons.injEq, and_true] at hs0
      subst hs0
      have hf1 : (Try.prog.fieldsOf 59)[1]? = some { name := "Key", type := 9, offset := 1, embedded := false, tag := "", pkgPath := "", byteOffset := 8 } := by kernel_rfl
      obtain ⟨v1, y1, hc1, hy1, ht1⟩ := hf 1 _ hf1
      obtain ⟨s1, hs1, hsy1, _⟩ := DataW.trod_string Try.underlying9 ht1
      have hr1 : s1.size ≤ 281474976710656 := text_reach (H := H) (P := Try.prog) (t := 9) fun n hn => hw n (weight_struct eqStep hf1 (by rw [List.getElem?_map, hy1, hsy1]; rfl) n hn)
      simp only [List.cons.injEq, and_true] at hs1
      subst hs1
      have hf2 : (Try.prog.fieldsOf 59)[2]? = some { name := "Value", type := 9, offset := 2, embedded := false, tag := "", pkgPath := "", byteOffset := 24 } := by kernel_rfl
      obtain ⟨v2, y2, hc2, hy2, ht2⟩ := hf 2 _ hf2
      obtain ⟨s2, hs2, hsy2, _⟩ := DataW.trod_string Try.underlying9 ht2
      have hr2 : s2.size ≤ 281474976710656 := text_reach (H := H) (P := Try.prog) (t := 9) fun n hn => hw n (weight_struct eqStep hf2 (by rw [List.getElem?_map, hy2, hsy2]; rfl) n hn)
      simp only [List.cons.injEq, and_true] at hs2
      subst hs2
      have hf3 : (Try.prog.fieldsOf 59)[3]? = some { name := "Old", type := 9, offset := 3, embedded := false, tag := "", pkgPath := "", byteOffset := 40 } := by kernel_rfl
      obtain ⟨v3, y3, hc3, hy3, ht3⟩ := hf 3 _ hf3
      obtain ⟨s3, hs3, hsy3, _⟩ := DataW.trod_string Try.underlying9 ht3
      have hr3 : s3.size ≤ 281474976710656 := text_reach (H := H) (P := Try.prog) (t := 9) fun n hn => hw n (weight_struct eqStep hf3 (by rw [List.getElem?_map, hy3, hsy3]; rfl) n hn)
      simp only [List.cons.injEq, and_true] at hs3
      subst hs3
      have hf4 : (Try.prog.fieldsOf 59)[4]? = some { name := "N", type := 2, offset := 4, embedded := false, tag := "", pkgPath := "", byteOffset := 56 } := by kernel_rfl
      obtain ⟨v4, y4, hc4, hy4, ht4⟩ := hf 4 _ hf4
      obtain ⟨s4, hs4, hsy4, hk4⟩ := DataW.trod_int Try.underlying2 ht4
      simp only [List.cons.injEq, and_true] at hs4
      subst hs4
      exact ⟨⟨s0, s1, s2, s3, s4⟩, by simpa using hc0, hc1, hc2, hc3, hc4, (bounds_i64 hk0).1, (bounds_i64 hk0).2, hr1, hr2, hr3, (bounds_i64 hk4).1, (bounds_i64 hk4).2⟩
    have hcho : ∀ i, ∃ o : SD, i < len → (W.cell? (a.add (i * 5)) = some (.int .i64 o.kind) ∧ W.cell? (a.add (i * 5 + 1)) = some (.string o.key) ∧ W.cell? (a.add (i * 5 + 2)) = some (.string o.val) ∧ W.cell? (a.add (i * 5 + 3)) = some (.string o.old) ∧ W.cell? (a.add (i * 5 + 4)) = some (.int .i64 o.n) ∧ o.fits) := fun i => by
      by_cases hil : i < len
      · obtain ⟨o, ho⟩ := el i hil
        exact ⟨o, fun _ => ho⟩
      · exact ⟨⟨0, ⟨#[]⟩, ⟨#[]⟩, ⟨#[]⟩, 0⟩, fun h => absurd h hil⟩
    obtain ⟨O, hO⟩ := Classical.axiomOfChoice hcho
    refine ⟨some a, len, m, (List.range len).map O, hcs, by simp, fun i hi' => ?_, fun q hq => ?_, by omega⟩
    · have hil : i < len := by simpa using hi'
      obtain ⟨c0, c1, c2, c3, c4, _⟩ := hO i hil
      have hsp : a.spot = none := by
        have h00 := (hO 0 (by omega)).1
        rw [Nat.zero_mul, add_zero'] at h00
        have h01 := (addr_plain h00).1
        rw [h01]
      have hab : a = ⟨a.block, a.off, none⟩ := addr_of_spot a hsp
      rw [hab, Addr.add_lit] at c0 c1 c2 c3 c4
      refine ⟨a.block, a.off, by rw [← hab], ?_, ?_, ?_, ?_, ?_⟩
      · simpa using c0
      · rw [Nat.add_assoc]; simpa using c1
      · rw [Nat.add_assoc]; simpa using c2
      · rw [Nat.add_assoc]; simpa using c3
      · rw [Nat.add_assoc]; simpa using c4
    · obtain ⟨i, hi', rfl⟩ := List.mem_map.1 hq
      exact (hO i (List.mem_range.1 hi')).2.2.2.2.2

/-- Names. -/
theorem ids_open {H : Type} {enc : TypeId × Value → H} {W : World} {fuel : Nat} {cs : List Value} {x : DataW H × List MemPlace} (hf : DataW.trod enc Try.prog W 0 (fun _ => true) true fuel 42 cs = some x) :
    ∃ (pa : Option Addr) (len cap : Nat) (L : List IdD), cs = [.slice pa len cap] ∧ L.length = len ∧ Si W pa L ∧ (∀ g ∈ L, g.fits) ∧ len ≤ maxLen := by
  have h3 : (Try.prog.fieldsOf 34).size = 2 := by kernel_rfl
  rcases open_slice_fields (fs := Try.prog.fieldsOf 34) Try.underlying42 eqId (by kernel_rfl) (by kernel_rfl) hf with ⟨hcs, _⟩ | ⟨a, len, cap, m, D, Pl, hcs, hb, hl, hm, hmm, hx, hi⟩
  · exact ⟨none, 0, 0, [], hcs, rfl, Si.nil _ _, (fun _ h => by cases h), Nat.zero_le _⟩
  · have hmm' : m = cap := by simpa using hmm
    subst hmm'
    rw [h3] at hi
    have el : ∀ i, i < len → ∃ o : IdD, W.cell? (a.add (i * 2)) = some (.int .i64 o.o) ∧ W.cell? (a.add (i * 2 + 1)) = some (.int .i64 o.s) ∧ o.fits := by
      intro i hil
      obtain ⟨ys, n, hD, hPl, hyl, hf⟩ := hi i (by omega)
      have hf0 : (Try.prog.fieldsOf 34)[0]? = some { name := "Origin", type := 3, offset := 0, embedded := false, tag := "", pkgPath := "", byteOffset := 0 } := by kernel_rfl
      obtain ⟨v0, y0, hc0, hy0, ht0⟩ := hf 0 _ hf0
      obtain ⟨s0, hs0, hsy0, hk0⟩ := DataW.trod_int Try.underlying3 ht0
      simp only [List.cons.injEq, and_true] at hs0
      subst hs0
      have hf1 : (Try.prog.fieldsOf 34)[1]? = some { name := "Seq", type := 3, offset := 1, embedded := false, tag := "", pkgPath := "", byteOffset := 8 } := by kernel_rfl
      obtain ⟨v1, y1, hc1, hy1, ht1⟩ := hf 1 _ hf1
      obtain ⟨s1, hs1, hsy1, hk1⟩ := DataW.trod_int Try.underlying3 ht1
      simp only [List.cons.injEq, and_true] at hs1
      subst hs1
      exact ⟨⟨s0, s1⟩, by simpa using hc0, hc1, bounds_i64 hk0, bounds_i64 hk1⟩
    have hcho : ∀ i, ∃ o : IdD, i < len → (W.cell? (a.add (i * 2)) = some (.int .i64 o.o) ∧ W.cell? (a.add (i * 2 + 1)) = some (.int .i64 o.s) ∧ o.fits) := fun i => by
      by_cases hil : i < len
      · obtain ⟨o, ho⟩ := el i hil
        exact ⟨o, fun _ => ho⟩
      · exact ⟨⟨0, 0⟩, fun h => absurd h hil⟩
    obtain ⟨O, hO⟩ := Classical.axiomOfChoice hcho
    refine ⟨some a, len, m, (List.range len).map O, hcs, by simp, fun i hi' => ?_, fun q hq => ?_, by omega⟩
    · have hil : i < len := by simpa using hi'
      obtain ⟨c0, c1, _⟩ := hO i hil
      have hsp : a.spot = none := by
        have h00 := (hO 0 (by omega)).1
        rw [Nat.zero_mul, add_zero'] at h00
        have h01 := (addr_plain h00).1
        rw [h01]
      have hab : a = ⟨a.block, a.off, none⟩ := addr_of_spot a hsp
      rw [hab, Addr.add_lit] at c0 c1
      refine ⟨a.block, a.off, by rw [← hab], ?_, ?_⟩
      · simpa using c0
      · rw [Nat.add_assoc]; simpa using c1
    · obtain ⟨i, hi', rfl⟩ := List.mem_map.1 hq
      exact (hO i (List.mem_range.1 hi')).2.2

/-- A name's numbers. -/
theorem id_open {H : Type} {enc : TypeId × Value → H} {W : World} {fuel : Nat} {cs : List Value} {x : DataW H × List MemPlace} (h : DataW.trod enc Try.prog W 0 (fun _ => true) true fuel 34 cs = some x) :
    ∃ a : IdD, cs = [.int .i64 a.o, .int .i64 a.s] ∧ a.fits := by
  obtain ⟨xs, n, _, hx, hcl, hxl, hfs⟩ := DataW.trod_struct eqId h
  have h2 : Try.prog.cellsOf 34 = 2 := by kernel_rfl
  have hl : xs.length = 2 := hxl
  rw [h2] at hcl
  have hf0 : (Try.prog.fieldsOf 34)[0]? = some { name := "Origin", type := 3, offset := 0, embedded := false, tag := "", pkgPath := "", byteOffset := 0 } := by kernel_rfl
  have hf1 : (Try.prog.fieldsOf 34)[1]? = some { name := "Seq", type := 3, offset := 1, embedded := false, tag := "", pkgPath := "", byteOffset := 8 } := by kernel_rfl
  have g0 := hfs 0 _ hf0
  have g1 := hfs 1 _ hf1
  have k1 : Try.prog.cellsOf 3 = 1 := by kernel_rfl
  obtain ⟨y0, y1, rfl⟩ : ∃ y0 y1, xs = [y0, y1] := match xs, hl with | [a, b], _ => ⟨a, b, rfl⟩
  match cs, hcl with
  | [a, b], _ =>
    simp only [k1, List.getElem?_cons_zero, List.getElem?_cons_succ, List.drop_zero, List.drop_succ_cons, List.take_succ_cons, List.take_zero] at g0 g1
    obtain ⟨s0, hs0, _, hk0⟩ := DataW.trod_int Try.underlying3 g0
    obtain ⟨s1, hs1, _, hk1⟩ := DataW.trod_int Try.underlying3 g1
    simp only [List.cons.injEq, and_true] at hs0 hs1
    subst hs0 hs1
    exact ⟨⟨s0, s1⟩, rfl, bounds_i64 hk0, bounds_i64 hk1⟩

/-- What is known of an entry that came in. -/
structure EntA (W : World) (v : EV) (e : ED) : Prop where
  ent : Ent W v e
  id : e.id.fits
  g : ∀ x ∈ e.g, x.fits
  s : ∀ x ∈ e.s, x.fits
  mg : v.ng ≤ maxLen
  ms : v.ns ≤ maxLen

theorem entry_open {H : Type} {enc : TypeId × Value → H} {W : World} {fuel : Nat} {cs : List Value} {x : DataW H × List MemPlace} (h : DataW.trod enc Try.prog W 0 (fun _ => true) true fuel 40 cs = some x)
    (hz : ∀ n ∈ x.1.weights Try.prog 40, n ≤ reachBytes) : ∃ (v : EV) (e : ED), cs = v.cells ∧ EntA W v e := by
  obtain ⟨xs, n, _, hx, hcl, hxl, hfs⟩ := DataW.trod_struct eqEntry h
  have h4 : Try.prog.cellsOf 40 = 4 := by kernel_rfl
  have hl : xs.length = 2 := hxl
  rw [h4] at hcl
  have hd : x.1 = .agg (xs.map (·.1)) := by rw [hx]
  rw [hd] at hz
  have hf0 : (Try.prog.fieldsOf 40)[0]? = some { name := "Id", type := 34, offset := 0, embedded := false, tag := "", pkgPath := "", byteOffset := 0 } := by kernel_rfl
  have hf1 : (Try.prog.fieldsOf 40)[1]? = some { name := "Op", type := 38, offset := 2, embedded := false, tag := "", pkgPath := "", byteOffset := 16 } := by kernel_rfl
  have g0 := hfs 0 _ hf0
  have g1 := hfs 1 _ hf1
  have k0 : Try.prog.cellsOf 34 = 2 := by kernel_rfl
  have k1 : Try.prog.cellsOf 38 = 2 := by kernel_rfl
  obtain ⟨y0, y1, rfl⟩ : ∃ y0 y1, xs = [y0, y1] := match xs, hl with | [a, b], _ => ⟨a, b, rfl⟩
  match cs, hcl with
  | [a, b, c, d], _ =>
    simp only [k0, k1, List.getElem?_cons_zero, List.getElem?_cons_succ, List.drop_zero, List.drop_succ_cons, List.take_succ_cons, List.take_zero] at g0 g1
    obtain ⟨i, hi, hif⟩ := id_open g0
    simp only [List.cons.injEq, and_true] at hi
    obtain ⟨rfl, rfl⟩ := hi
    have hz1 : ∀ n ∈ y1.1.weights Try.prog 38, n ≤ reachBytes := fun n hn => hz n (weight_struct eqEntry hf1 rfl n hn)
    obtain ⟨zs, n', _, hx', hcl', hxl', hfs'⟩ := DataW.trod_struct eqOp g1
    have hd' : y1.1 = .agg (zs.map (·.1)) := by rw [hx']
    rw [hd'] at hz1
    have hl' : zs.length = 2 := hxl'
    have hg0 : (Try.prog.fieldsOf 38)[0]? = some { name := "Guards", type := 35, offset := 0, embedded := false, tag := "", pkgPath := "", byteOffset := 0 } := by kernel_rfl
    have hg1 : (Try.prog.fieldsOf 38)[1]? = some { name := "Steps", type := 36, offset := 1, embedded := false, tag := "", pkgPath := "", byteOffset := 24 } := by kernel_rfl
    have q0 := hfs' 0 _ hg0
    have q1 := hfs' 1 _ hg1
    have k2 : Try.prog.cellsOf 35 = 1 := by kernel_rfl
    have k3 : Try.prog.cellsOf 36 = 1 := by kernel_rfl
    obtain ⟨z0, z1, rfl⟩ : ∃ z0 z1, zs = [z0, z1] := match zs, hl' with | [a, b], _ => ⟨a, b, rfl⟩
    simp only [k2, k3, List.getElem?_cons_zero, List.getElem?_cons_succ, List.drop_zero, List.drop_succ_cons, List.take_succ_cons, List.take_zero] at q0 q1
    obtain ⟨pg, ng, cg, G, e0, hG, sG, fG, mG⟩ := guards_open q0 (fun n hn => hz1 n (weight_struct eqOp hg0 rfl n hn))
    obtain ⟨p, ns, cs', S, e1, hS, sS, fS, mS⟩ := steps_open q1 (fun n hn => hz1 n (weight_struct eqOp hg1 rfl n hn))
    simp only [List.cons.injEq, and_true] at e0 e1
    subst e0 e1
    exact ⟨⟨i, pg, ng, cg, p, ns, cs'⟩, ⟨i, G, S⟩, rfl, ⟨rfl, sG, sS, hG, hS⟩, hif, fG, fS, mG, mS⟩

/-- Entries. -/
theorem entries_open {H : Type} {enc : TypeId × Value → H} {W : World} {fuel : Nat} {cs : List Value} {x : DataW H × List MemPlace} (hf : DataW.trod enc Try.prog W 0 (fun _ => true) true fuel 22 cs = some x)
    (hz : ∀ n ∈ x.1.weights Try.prog 22, n ≤ reachBytes) : ∃ (pa : Option Addr) (len cap : Nat) (R : List EV) (E : List ED), cs = [.slice pa len cap] ∧ R.length = len ∧ Se W pa R ∧ Each (EntA W) R E ∧ len ≤ maxLen := by
  have h4 : Try.prog.cellsOf 40 = 4 := by kernel_rfl
  rcases open_slice Try.underlying22 hf with ⟨hcs, _⟩ | ⟨a, len, cap, m, n, D, Pl, hcs, hb, hl, hm, hmm, hx, hi⟩
  · exact ⟨none, 0, 0, [], [], hcs, rfl, Se.nil _ _, Each.nil _, Nat.zero_le _⟩
  · have hmm' : m = cap := by simpa using hmm
    subst hmm'
    rw [h4] at hi
    have hd : x.1 = .slice ((List.range len).map D) ((List.range (m - len)).map fun j => D (len + j)) := by rw [hx]
    have el : ∀ i, i < len → ∃ o : EV × ED, W.cell? (a.add (i * 4)) = some (.int .i64 o.1.id.o) ∧ W.cell? (a.add (i * 4 + 1)) = some (.int .i64 o.1.id.s) ∧ W.cell? (a.add (i * 4 + 2)) = some (.slice o.1.pg o.1.ng o.1.cg) ∧ W.cell? (a.add (i * 4 + 3)) = some (.slice o.1.ps o.1.ns o.1.cs) ∧ EntA W o.1 o.2 := by
      intro i hil
      obtain ⟨cs', hc, ht⟩ := hi i (by omega)
      obtain ⟨_, hcl, hat⟩ := World.cells?_some hc
      have hmem : D i ∈ (List.range len).map D := List.mem_map.2 ⟨i, List.mem_range.2 hil, rfl⟩
      have hw : ∀ n ∈ (D i).weights Try.prog 40, n ≤ reachBytes := fun n hn => hz n (by
        rw [hd]
        simp only [DataW.weights, Try.underlying22, List.mem_cons, List.mem_append]
        exact Or.inr (Or.inl (weightsAll_mem hmem _ hn)))
      obtain ⟨v, e, rfl, hE⟩ := entry_open ht hw
      have c := fun j (hj : j < 4) => hat j hj
      simp only [Go.Deep.add_add] at c
      refine ⟨(v, e), ?_, ?_, ?_, ?_, hE⟩
      · have := c 0 (by omega); simpa [EV.cells] using this
      · have := c 1 (by omega); simpa [EV.cells] using this
      · have := c 2 (by omega); simpa [EV.cells] using this
      · have := c 3 (by omega); simpa [EV.cells] using this
    have hcho : ∀ i, ∃ o : EV × ED, i < len → (W.cell? (a.add (i * 4)) = some (.int .i64 o.1.id.o) ∧ W.cell? (a.add (i * 4 + 1)) = some (.int .i64 o.1.id.s) ∧ W.cell? (a.add (i * 4 + 2)) = some (.slice o.1.pg o.1.ng o.1.cg) ∧ W.cell? (a.add (i * 4 + 3)) = some (.slice o.1.ps o.1.ns o.1.cs) ∧ EntA W o.1 o.2) := fun i => by
      by_cases hil : i < len
      · obtain ⟨o, ho⟩ := el i hil
        exact ⟨o, fun _ => ho⟩
      · exact ⟨(⟨⟨0, 0⟩, none, 0, 0, none, 0, 0⟩, ⟨⟨0, 0⟩, [], []⟩), fun h => absurd h hil⟩
    obtain ⟨O, hO⟩ := Classical.axiomOfChoice hcho
    refine ⟨some a, len, m, (List.range len).map (fun i => (O i).1), (List.range len).map (fun i => (O i).2), hcs, by simp, fun i hi' => ?_, ⟨by simp, fun j h1 h2 => ?_⟩, by omega⟩
    · have hil : i < len := by simpa using hi'
      obtain ⟨c0, c1, c2, c3, _⟩ := hO i hil
      have hsp : a.spot = none := by
        have h00 := (hO 0 (by omega)).1
        rw [Nat.zero_mul, add_zero'] at h00
        have h01 := (addr_plain h00).1
        rw [h01]
      have hab : a = ⟨a.block, a.off, none⟩ := addr_of_spot a hsp
      rw [hab, Addr.add_lit] at c0 c1 c2 c3
      refine ⟨a.block, a.off, by rw [← hab], ?_, ?_, ?_, ?_⟩
      · simpa using c0
      · rw [Nat.add_assoc]; simpa using c1
      · rw [Nat.add_assoc]; simpa using c2
      · rw [Nat.add_assoc]; simpa using c3
    · have hil : j < len := by simpa using h1
      simpa using (hO j hil).2.2.2.2

end Go.Proofs.Ytkfnndhoccjffaa
