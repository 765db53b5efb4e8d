/-
  The arguments of drive's statement: a slice of acts.
-/
import Derived.Test.YtpbkfmdbpihhpaaOpen
import Derived.Test.YtpbkfmdbpihhpaaPrt
import Derived.Deep.Grids
import Derived.SliceStrings
import Derived.ChangeSlices
import Derived.ProofKit
namespace Go.Proofs.Ytpbkfmdbpihhpaa
open Go Go.RowKit Go.ChangeShapes Go.WideShapes Go.ChangeAt Go.Deep

theorem eqAct : Try.prog.underlying 40 = some (.struct (Try.prog.fieldsOf 40)) := by kernel_rfl
theorem bounds_u64 {n : Int} (h : (Lit.int .u64 n).wf = true) : 0 ≤ n ∧ n < 18446744073709551616 := by
  simp [Lit.wf, IntKind.min, IntKind.max, IntKind.signed, IntKind.bits] at h
  omega

/-- An address at which a cell lies is plain. -/
theorem plain_add {W : World} {a : Addr} {v0 : Value} (h0 : W.cell? (a.add 0) = some v0) {i : Nat} {v : Value} (h : W.cell? (a.add i) = some v) : a = ⟨a.block, a.off, none⟩ ∧ W.cell? ⟨a.block, a.off + i, none⟩ = some v := by
  rw [add_zero'] at h0
  have ha := (addr_plain h0).1
  refine ⟨ha, ?_⟩
  rw [ha, Addr.add_lit] at h
  exact h

/-- Calls. -/
theorem acts_open {H : Type} {enc : TypeId × Value → H} {W : World} {fuel : Nat} {cs : List Value} {x : DataW H × List MemPlace} (hf : DataW.trod enc Try.prog W 0 (fun _ => true) true fuel 22 cs = some x)
    (hz : ∀ n ∈ x.1.weights Try.prog 22, n ≤ reachBytes) : ∃ (pa : Option Addr) (len cap : Nat) (L : List ActD), cs = [.slice pa len cap] ∧ L.length = len ∧ Sa W pa L ∧ (∀ g ∈ L, g.fits) ∧ len ≤ maxLen := by
  have h6 : (Try.prog.fieldsOf 40).size = 6 := by kernel_rfl
  rcases open_slice_fields (fs := Try.prog.fieldsOf 40) Try.underlying22 eqAct (by kernel_rfl) (by kernel_rfl) hf with ⟨hcs, _⟩ | ⟨a, len, cap, m, D, Pl, hcs, hb, hl, hm, hmm, hx, hi⟩
  · exact ⟨none, 0, 0, [], hcs, rfl, Sa.nil _ _, (fun _ h => by cases h), Nat.zero_le _⟩
  · have hmm' : m = cap := by simpa using hmm
    subst hmm'
    rw [h6] at hi
    have hd : x.1 = .slice ((List.range len).map D) ((List.range (m - len)).map fun j => D (len + j)) := by rw [hx]
    have el : ∀ i, i < len → ∃ o : ActD, W.cell? (a.add (i * 6)) = some (.int .i64 o.kind) ∧ W.cell? (a.add (i * 6 + 1)) = some (.int .u64 (o.block : Int)) ∧ W.cell? (a.add (i * 6 + 2)) = some (.int .i64 o.cell) ∧ W.cell? (a.add (i * 6 + 3)) = some (.int .u64 o.old) ∧ W.cell? (a.add (i * 6 + 4)) = some (.int .u64 o.new) ∧ W.cell? (a.add (i * 6 + 5)) = some (.string o.text) ∧ o.fits := by
      intro i hil
      obtain ⟨ys, n, hD, hPl, hyl, hf⟩ := hi i (by omega)
      have hmem : D i ∈ (List.range len).map D := List.mem_map.2 ⟨i, List.mem_range.2 hil, rfl⟩
      have hw : ∀ n ∈ (D i).weights Try.prog 40, n ≤ reachBytes := fun n hn => hz n (by
        rw [hd]
        simp only [DataW.weights, Try.underlying22, List.mem_cons, List.mem_append]
        exact Or.inr (Or.inl (weightsAll_mem hmem _ hn)))
      rw [hD] at hw
      have hf0 : (Try.prog.fieldsOf 40)[0]? = some { name := "Kind", type := 3, offset := 0, embedded := false, tag := "", pkgPath := "", byteOffset := 0 } := by kernel_rfl
      obtain ⟨v0, y0, hc0, hy0, ht0⟩ := hf 0 _ hf0
      obtain ⟨s0, hs0, hsy0, hk0⟩ := DataW.trod_int Try.underlying3 ht0
      simp only [List.cons.injEq, and_true] at hs0
      subst hs0
      have hf1 : (Try.prog.fieldsOf 40)[1]? = some { name := "Block", type := 38, offset := 1, embedded := false, tag := "", pkgPath := "", byteOffset := 8 } := by kernel_rfl
      obtain ⟨v1, y1, hc1, hy1, ht1⟩ := hf 1 _ hf1
      obtain ⟨s1, hs1, hsy1, hk1⟩ := DataW.trod_int Try.underlying38 ht1
      simp only [List.cons.injEq, and_true] at hs1
      subst hs1
      have hf2 : (Try.prog.fieldsOf 40)[2]? = some { name := "Cell", type := 3, offset := 2, embedded := false, tag := "", pkgPath := "", byteOffset := 16 } := by kernel_rfl
      obtain ⟨v2, y2, hc2, hy2, ht2⟩ := hf 2 _ hf2
      obtain ⟨s2, hs2, hsy2, hk2⟩ := DataW.trod_int Try.underlying3 ht2
      simp only [List.cons.injEq, and_true] at hs2
      subst hs2
      have hf3 : (Try.prog.fieldsOf 40)[3]? = some { name := "Old", type := 38, offset := 3, embedded := false, tag := "", pkgPath := "", byteOffset := 24 } := by kernel_rfl
      obtain ⟨v3, y3, hc3, hy3, ht3⟩ := hf 3 _ hf3
      obtain ⟨s3, hs3, hsy3, hk3⟩ := DataW.trod_int Try.underlying38 ht3
      simp only [List.cons.injEq, and_true] at hs3
      subst hs3
      have hf4 : (Try.prog.fieldsOf 40)[4]? = some { name := "New", type := 38, offset := 4, embedded := false, tag := "", pkgPath := "", byteOffset := 32 } := by kernel_rfl
      obtain ⟨v4, y4, hc4, hy4, ht4⟩ := hf 4 _ hf4
      obtain ⟨s4, hs4, hsy4, hk4⟩ := DataW.trod_int Try.underlying38 ht4
      simp only [List.cons.injEq, and_true] at hs4
      subst hs4
      have hf5 : (Try.prog.fieldsOf 40)[5]? = some { name := "Text", type := 9, offset := 5, embedded := false, tag := "", pkgPath := "", byteOffset := 40 } := by kernel_rfl
      obtain ⟨v5, y5, hc5, hy5, ht5⟩ := hf 5 _ hf5
      obtain ⟨s5, hs5, hsy5, _⟩ := DataW.trod_string Try.underlying9 ht5
      have hr5 : s5.size ≤ 281474976710656 := text_reach (H := H) (P := Try.prog) (t := 9) fun n hn => hw n (weight_struct eqAct hf5 (by rw [List.getElem?_map, hy5, hsy5]; rfl) n hn)
      simp only [List.cons.injEq, and_true] at hs5
      subst hs5
      have hb1 := bounds_u64 hk1
      refine ⟨⟨s0, s1.toNat, s2, s3, s4, s5⟩, by simpa using hc0, ?_, hc2, hc3, hc4, hc5, bounds_i64 hk0, by show s1.toNat < _; omega, bounds_i64 hk2, bounds_u64 hk3, bounds_u64 hk4, hr5⟩
      show W.cell? (a.add (i * 6 + 1)) = some (.int .u64 ((s1.toNat : Nat) : Int))
      rw [Int.toNat_of_nonneg hb1.1]
      exact hc1
    have hcho : ∀ i, ∃ o : ActD, i < len → (W.cell? (a.add (i * 6)) = some (.int .i64 o.kind) ∧ W.cell? (a.add (i * 6 + 1)) = some (.int .u64 (o.block : Int)) ∧ W.cell? (a.add (i * 6 + 2)) = some (.int .i64 o.cell) ∧ W.cell? (a.add (i * 6 + 3)) = some (.int .u64 o.old) ∧ W.cell? (a.add (i * 6 + 4)) = some (.int .u64 o.new) ∧ W.cell? (a.add (i * 6 + 5)) = some (.string o.text) ∧ o.fits) := fun i => by
      by_cases hil : i < len
      · obtain ⟨o, ho⟩ := el i hil
        exact ⟨o, fun _ => ho⟩
      · exact ⟨⟨0, 0, 0, 0, 0, ⟨#[]⟩⟩, fun h => absurd h hil⟩
    obtain ⟨O, hO⟩ := Classical.axiomOfChoice hcho
    refine ⟨some a, len, m, (List.range len).map O, hcs, by simp, fun i hi' => ?_, fun q hq => ?_, by omega⟩
    · have hil : i < len := by simpa using hi'
      obtain ⟨c0, c1, c2, c3, c4, c5, _⟩ := hO i hil
      have h00 := (hO 0 (by omega)).1
      rw [Nat.zero_mul, add_zero'] at h00
      have hab := (addr_plain h00).1
      rw [hab, Addr.add_lit] at c0 c1 c2 c3 c4 c5
      refine ⟨a.block, a.off, by rw [← hab], ?_, ?_, ?_, ?_, ?_, ?_⟩
      · simpa using c0
      · rw [Nat.add_assoc]; simpa using c1
      · rw [Nat.add_assoc]; simpa using c2
      · rw [Nat.add_assoc]; simpa using c3
      · rw [Nat.add_assoc]; simpa using c4
      · rw [Nat.add_assoc]; simpa using c5
    · obtain ⟨i, hi', rfl⟩ := List.mem_map.1 hq
      exact (hO i (List.mem_range.1 hi')).2.2.2.2.2.2

/-- A slice that was handed in lies within the heap. -/
theorem slice_within {W : World} {base : Nat} {a : Addr} {n c : Nat} (h : Value.okWide Try.prog W .any base 22 (.slice (some a) n c)) : a.block < W.heap.size := by
  simp only [Value.okWide, Try.underlying22, Cell.okWide, Cell.ok] at h
  obtain ⟨_, _, _, _, row, cells, hs, _⟩ := h
  unfold World.shape? at hs
  rcases Nat.lt_or_ge a.block W.heap.size with hlt | hge
  · exact hlt
  · rw [Array.getElem?_eq_none hge] at hs
    cases hs

end Go.Proofs.Ytpbkfmdbpihhpaa
