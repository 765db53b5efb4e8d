/-
  Argsr, Own, Mnext, in one text.
-/
import Derived.Test.YtpnfbabiibopnaaGreatQ01
import Derived.Test.YtpnfbabiibopnaaGreatQ07
import Derived.Deep.Grids
import Derived.SliceStrings
import Derived.ChangeSlices
import Derived.RangeFuncNested
import Derived.RangeFuncBound
import Derived.RangeFuncLeaves
/-! The arguments of routines' statements: a config, a text, answers, texts, a pair of words, a change. -/
namespace Go.Proofs.YtpnfbabiibopnaaGreat
open Go.ChangeShapes Go.WideShapes Go.ChangeAt Go.RowKit Go.Deep
open Go.ChangeMaps (open_string shut_string)

theorem bounds_u64 {n : Int} (h : (Lit.int .u64 n).wf = true) : 0 ≤ n ∧ n < 18446744073709551616 := by
  simp [Lit.wf, IntKind.min, IntKind.max, IntKind.signed, IntKind.bits] at h
  omega

theorem eqGot : Tryz.prog.underlying 53 = some (.struct (Tryz.prog.fieldsOf 53)) := by kernel_rfl

set_option maxRecDepth 100000 in
/-- Answers. -/
theorem gots_open {H : Type} {enc : TypeId × Value → H} {W : World} {fuel : Nat} {cs : List Value} {x : DataW H × List MemPlace} (hf : DataW.trod enc Tryz.prog W 0 (fun _ => true) true fuel 25 cs = some x)
    (hz : ∀ n ∈ x.1.weights Tryz.prog 25, n ≤ reachBytes) : ∃ (pa : Option Addr) (len cap : Nat) (G : List (Int × ByteArray)), cs = [.slice pa len cap] ∧ G.length = len ∧ Sgt W pa G ∧ (∀ g ∈ G, 0 ≤ g.1 ∧ g.1 < 18446744073709551616) ∧ (∀ g ∈ G, g.2.size ≤ 281474976710656) ∧ len ≤ cap ∧ cap ≤ maxLen := by
  have h6 : (Tryz.prog.fieldsOf 53).size = 2 := by kernel_rfl
  rcases open_slice_fields (fs := Tryz.prog.fieldsOf 53) Tryz.underlying25 eqGot (by kernel_rfl) (by kernel_rfl) hf with ⟨hcs, _⟩ | ⟨a, len, cap, m, D, Pl, hcs, hb, hl, hm, hmm, hx, hi⟩
  · exact ⟨none, 0, 0, [], hcs, rfl, Sgt.nil _ _, (fun _ h => by cases h), (fun _ h => by cases h), Nat.le_refl _, Nat.zero_le _⟩
  · have hmm' : m = cap := by simpa using hmm
    subst hmm'
    rw [h6] at hi
    have hd : x.1 = .slice ((List.range len).map D) ((List.range (m - len)).map fun j => D (len + j)) := by rw [hx]
    have el : ∀ i, i < len → ∃ o : Int × ByteArray, W.cell? (a.add (i * 2)) = some (.int .u64 o.1) ∧ W.cell? (a.add (i * 2 + 1)) = some (.string o.2) ∧ (0 ≤ o.1 ∧ o.1 < 18446744073709551616) ∧ o.2.size ≤ 281474976710656 := by
      intro i hil
      obtain ⟨ys, n, hD, hPl, hyl, hf⟩ := hi i (by omega)
      have hmem : D i ∈ (List.range len).map D := List.mem_map.2 ⟨i, List.mem_range.2 hil, rfl⟩
      have hw : ∀ n ∈ (D i).weights Tryz.prog 53, n ≤ reachBytes := fun n hn => hz n (by
        rw [hd]
        simp only [DataW.weights, Tryz.underlying25, List.mem_cons, List.mem_append]
        exact Or.inr (Or.inl (weightsAll_mem hmem _ hn)))
      rw [hD] at hw
      have hf0 : (Tryz.prog.fieldsOf 53)[0]? = some { name := "Word", type := 22, offset := 0, embedded := false, tag := "", pkgPath := "", byteOffset := 0 } := by kernel_rfl
      obtain ⟨v0, y0, hc0, hy0, ht0⟩ := hf 0 _ hf0
      obtain ⟨s0, hs0, hsy0, hk0⟩ := DataW.trod_int Tryz.underlying22 ht0
      simp only [List.cons.injEq, and_true] at hs0
      subst hs0
      have hf1 : (Tryz.prog.fieldsOf 53)[1]? = some { name := "Text", type := 9, offset := 1, embedded := false, tag := "", pkgPath := "", byteOffset := 8 } := by kernel_rfl
      obtain ⟨v5, y5, hc5, hy5, ht5⟩ := hf 1 _ hf1
      obtain ⟨s5, hs5, hsy5, _⟩ := DataW.trod_string Tryz.underlying9 ht5
      have hr5 : s5.size ≤ 281474976710656 := text_reach (H := H) (P := Tryz.prog) (t := 9) fun n hn => hw n (weight_struct eqGot hf1 (by rw [List.getElem?_map, hy5, hsy5]; rfl) n hn)
      simp only [List.cons.injEq, and_true] at hs5
      subst hs5
      exact ⟨(s0, s5), by simpa using hc0, hc5, bounds_u64 hk0, hr5⟩
    have hcho : ∀ i, ∃ o : Int × ByteArray, i < len → (W.cell? (a.add (i * 2)) = some (.int .u64 o.1) ∧ W.cell? (a.add (i * 2 + 1)) = some (.string o.2) ∧ (0 ≤ o.1 ∧ o.1 < 18446744073709551616) ∧ o.2.size ≤ 281474976710656) := fun i => by
      by_cases hil : i < len
      · obtain ⟨o, ho⟩ := el i hil
        exact ⟨o, fun _ => ho⟩
      · exact ⟨(0, ⟨#[]⟩), fun h => absurd h hil⟩
    obtain ⟨O, hO⟩ := Classical.axiomOfChoice hcho
    refine ⟨some a, len, m, (List.range len).map O, hcs, by simp, fun i hi' => ?_, fun q hq => ?_, fun q hq => ?_, hl, hm⟩
    · have hil : i < len := by simpa using hi'
      obtain ⟨c0, c1, _⟩ := hO i hil
      have h00 := (hO 0 (by omega)).1
      rw [Nat.zero_mul, add_zero'] at h00
      have hab := (addr_plain h00).1
      rw [hab, Addr.add_lit] at c0 c1
      refine ⟨a.block, a.off, by rw [← hab], ?_, ?_⟩
      · simpa using c0
      · rw [Nat.add_assoc]; simpa using c1
    · obtain ⟨i, hi', rfl⟩ := List.mem_map.1 hq
      exact (hO i (List.mem_range.1 hi')).2.2.1
    · obtain ⟨i, hi', rfl⟩ := List.mem_map.1 hq
      exact (hO i (List.mem_range.1 hi')).2.2.2

set_option maxRecDepth 100000 in
theorem gots_within {W : World} {base : Nat} {a : Addr} {n c : Nat} (h : Value.okWide Tryz.prog W .any base 25 (.slice (some a) n c)) : a.block < W.heap.size := by
  simp only [Value.okWide, Tryz.underlying25, Cell.okWide, Cell.ok] at h
  obtain ⟨_, _, _, _, row, cells, hs, _⟩ := h
  unfold World.shape? at hs
  rcases Nat.lt_or_ge a.block W.heap.size with hlt | hge
  · exact hlt
  · rw [Array.getElem?_eq_none hge] at hs
    cases hs

theorem eqCfg : Tryz.prog.underlying 24 = some (.struct (Tryz.prog.fieldsOf 24)) := by kernel_rfl

set_option maxRecDepth 100000 in
/-- An argument that is a config. -/
theorem config_open {H : Type} {enc : TypeId × Value → H} {W : World} {base : Nat} {v : Value} {d : DataW H} {ps : List MemPlace} (hok : Value.okWide Tryz.prog W .any base 24 v) (h : DataW.Trod enc Tryz.prog W 0 (fun _ => true) true 24 v d ps) :
    ∃ a p s q v' x : Int, v = cfV a p s q v' x ∧ I64 a ∧ I64 p ∧ I64 s ∧ I64 q ∧ I64 v' := by
  obtain ⟨fuel, hf⟩ := h
  obtain ⟨cs, rfl, _⟩ := okWide_struct eqCfg hok
  obtain ⟨xs, n, _, hx, hcl, hxl, hfs⟩ := DataW.trod_struct eqCfg hf
  have h6 : Tryz.prog.cellsOf 24 = 6 := by kernel_rfl
  have hl : xs.length = 6 := hxl
  rw [h6] at hcl
  have hf0 : (Tryz.prog.fieldsOf 24)[0]? = some { name := "Cap", type := 3, offset := 0, embedded := false, tag := "", pkgPath := "", byteOffset := 0 } := by kernel_rfl
  have hf1 : (Tryz.prog.fieldsOf 24)[1]? = some { name := "Pins", type := 3, offset := 1, embedded := false, tag := "", pkgPath := "", byteOffset := 8 } := by kernel_rfl
  have hf2 : (Tryz.prog.fieldsOf 24)[2]? = some { name := "Shelves", type := 3, offset := 2, embedded := false, tag := "", pkgPath := "", byteOffset := 16 } := by kernel_rfl
  have hf3 : (Tryz.prog.fieldsOf 24)[3]? = some { name := "Queue", type := 3, offset := 3, embedded := false, tag := "", pkgPath := "", byteOffset := 24 } := by kernel_rfl
  have hf4 : (Tryz.prog.fieldsOf 24)[4]? = some { name := "Watchers", type := 3, offset := 4, embedded := false, tag := "", pkgPath := "", byteOffset := 32 } := by kernel_rfl
  have hf5 : (Tryz.prog.fieldsOf 24)[5]? = some { name := "Seed", type := 22, offset := 5, embedded := false, tag := "", pkgPath := "", byteOffset := 40 } := by kernel_rfl
  have g0 := hfs 0 _ hf0
  have g1 := hfs 1 _ hf1
  have g2 := hfs 2 _ hf2
  have g3 := hfs 3 _ hf3
  have g4 := hfs 4 _ hf4
  have g5 := hfs 5 _ hf5
  have k0 : Tryz.prog.cellsOf 3 = 1 := by kernel_rfl
  have k1 : Tryz.prog.cellsOf 22 = 1 := by kernel_rfl
  obtain ⟨y0, y1, y2, y3, y4, y5, rfl⟩ : ∃ y0 y1 y2 y3 y4 y5, xs = [y0, y1, y2, y3, y4, y5] := match xs, hl with | [a, b, c, d, e, f], _ => ⟨a, b, c, d, e, f, rfl⟩
  obtain ⟨cs⟩ := cs
  simp only [Value.cells] at g0 g1 g2 g3 g4 g5 hcl
  match cs, hcl with
  | [a, b, c, d, e, f], _ =>
    simp only [k0, k1, List.getElem?_cons_zero, List.getElem?_cons_succ, List.drop_zero, List.drop_succ_cons, List.take_succ_cons, List.take_zero] at g0 g1 g2 g3 g4 g5
    obtain ⟨s0, hs0, _, w0⟩ := DataW.trod_int Tryz.underlying3 g0
    obtain ⟨s1, hs1, _, w1⟩ := DataW.trod_int Tryz.underlying3 g1
    obtain ⟨s2, hs2, _, w2⟩ := DataW.trod_int Tryz.underlying3 g2
    obtain ⟨s3, hs3, _, w3⟩ := DataW.trod_int Tryz.underlying3 g3
    obtain ⟨s4, hs4, _, w4⟩ := DataW.trod_int Tryz.underlying3 g4
    obtain ⟨s5, hs5, _, w5⟩ := DataW.trod_int Tryz.underlying22 g5
    simp only [List.cons.injEq, and_true] at hs0 hs1 hs2 hs3 hs4 hs5
    subst hs0 hs1 hs2 hs3 hs4 hs5
    exact ⟨s0, s1, s2, s3, s4, s5, rfl, bounds_i64 w0, bounds_i64 w1, bounds_i64 w2, bounds_i64 w3, bounds_i64 w4⟩

/-- At p these texts lie. -/
def St (W : World) (p : Option Addr) (L : List ByteArray) : Prop := ∀ j (h : j < L.length), ∃ b o, p = some ⟨b, o, none⟩ ∧ W.cell? ⟨b, o + j, none⟩ = some (.string L[j])

theorem St.grow {W W' : World} {p : Option Addr} {L : List ByteArray} (h : St W p L) (hb : Below W.heap.size W W') : St W' p L := fun j hj => by
  obtain ⟨b, o, rfl, c1⟩ := h j hj
  exact ⟨b, o, rfl, (hb.cell (p := ⟨b, _, none⟩) (cell_lt c1)).trans c1⟩

theorem St.stays {W W' : World} {p : Option Addr} {L : List ByteArray} (h : St W p L) (hs : ∀ a, p = some a → W'.heap[a.block]? = W.heap[a.block]?) : St W' p L := fun j hj => by
  obtain ⟨b, o, rfl, c1⟩ := h j hj
  exact ⟨b, o, rfl, (World.cell?_of_block (a := ⟨b, o + j, none⟩) (hs ⟨b, o, none⟩ rfl)).trans c1⟩

theorem plain_add {W : World} {a : Addr} {v0 : Value} (h0 : W.cell? (a.add 0) = some v0) {i : Nat} {v : Value} (h : W.cell? (a.add i) = some v) : a = ⟨a.block, a.off, none⟩ ∧ W.cell? ⟨a.block, a.off + i, none⟩ = some v := by
  rw [add_zero'] at h0
  have ha := (addr_plain h0).1
  refine ⟨ha, ?_⟩
  rw [ha, Addr.add_lit] at h
  exact h

theorem eqChange : Tryz.prog.underlying 62 = some (.struct (Tryz.prog.fieldsOf 62)) := by kernel_rfl

theorem cells_word : Tryz.prog.cellsOf 22 = 1 := by kernel_rfl

theorem list_two {α : Type} (l : List α) (h : (⟨l⟩ : Array α).size = 2) : ∃ a b, l = [a, b] := by
  match l, h with
  | [a, b], _ => exact ⟨a, b, rfl⟩

set_option maxRecDepth 100000 in
/-- A change's cells. -/
theorem change_cells {H : Type} {enc : TypeId × Value → H} {W : World} {fuel : Nat} {cs : List Value} {x : DataW H × List MemPlace} (h : DataW.trod enc Tryz.prog W 0 (fun _ => true) true fuel 62 cs = some x)
    (hz : ∀ n ∈ x.1.weights Tryz.prog 62, n ≤ reachBytes) : ∃ (key : ByteArray) (has : Bool) (val : ByteArray), cs = [.string key, .bool has, .string val] ∧ key.size ≤ 281474976710656 ∧ val.size ≤ 281474976710656 := by
  obtain ⟨xs, n, _, hx, hcl, hxl, hfs⟩ := DataW.trod_struct eqChange h
  have h2 : Tryz.prog.cellsOf 62 = 3 := by kernel_rfl
  have hl : xs.length = 3 := hxl
  rw [h2] at hcl
  have hd : x.1 = .agg (xs.map (·.1)) := by rw [hx]
  rw [hd] at hz
  have hf0 : (Tryz.prog.fieldsOf 62)[0]? = some { name := "Key", type := 9, offset := 0, embedded := false, tag := "", pkgPath := "", byteOffset := 0 } := by kernel_rfl
  have hf1 : (Tryz.prog.fieldsOf 62)[1]? = some { name := "Has", type := 4, offset := 1, embedded := false, tag := "", pkgPath := "", byteOffset := 16 } := by kernel_rfl
  have hf2 : (Tryz.prog.fieldsOf 62)[2]? = some { name := "Value", type := 9, offset := 2, embedded := false, tag := "", pkgPath := "", byteOffset := 24 } := by kernel_rfl
  have g0 := hfs 0 _ hf0
  have g1 := hfs 1 _ hf1
  have g2 := hfs 2 _ hf2
  have k1 : Tryz.prog.cellsOf 9 = 1 := by kernel_rfl
  have k2 : Tryz.prog.cellsOf 4 = 1 := by kernel_rfl
  obtain ⟨y0, y1, y2, rfl⟩ : ∃ y0 y1 y2, xs = [y0, y1, y2] := match xs, hl with | [a, b, c], _ => ⟨a, b, c, rfl⟩
  match cs, hcl with
  | [a, b, c], _ =>
    simp only [k1, k2, List.getElem?_cons_zero, List.getElem?_cons_succ, List.drop_zero, List.drop_succ_cons, List.take_succ_cons, List.take_zero] at g0 g1 g2
    obtain ⟨s0, hs0, hsy0, _⟩ := DataW.trod_string Tryz.underlying9 g0
    obtain ⟨b1, hs1, _⟩ := DataW.trod_bool Tryz.underlying4 g1
    obtain ⟨s2, hs2, hsy2, _⟩ := DataW.trod_string Tryz.underlying9 g2
    have hr0 : s0.size ≤ 281474976710656 := text_reach (H := H) (P := Tryz.prog) (t := 9) fun n hn => hz n (weight_struct eqChange hf0 (by rw [List.getElem?_map, List.getElem?_cons_zero, hsy0]; rfl) n hn)
    have hr2 : s2.size ≤ 281474976710656 := text_reach (H := H) (P := Tryz.prog) (t := 9) fun n hn => hz n (weight_struct eqChange hf2 (by rw [List.getElem?_map, List.getElem?_cons_succ, List.getElem?_cons_succ, List.getElem?_cons_zero, hsy2]; rfl) n hn)
    simp only [List.cons.injEq, and_true] at hs0 hs1 hs2
    subst hs0 hs1 hs2
    exact ⟨s0, b1, s2, rfl, hr0, hr2⟩

set_option maxRecDepth 100000 in
/-- An argument that is a change. -/
theorem change_open {H : Type} {enc : TypeId × Value → H} {W : World} {base : Nat} {v : Value} {d : DataW H} {ps : List MemPlace} (hok : Value.okWide Tryz.prog W .any base 62 v) (h : DataW.Trod enc Tryz.prog W 0 (fun _ => true) true 62 v d ps)
    (hz : ∀ n ∈ d.weights Tryz.prog 62, n ≤ reachBytes) : ∃ (key : ByteArray) (has : Bool) (val : ByteArray), v = .agg #[.string key, .bool has, .string val] ∧ key.size ≤ 281474976710656 ∧ val.size ≤ 281474976710656 := by
  obtain ⟨fuel, hf⟩ := h
  obtain ⟨cs, rfl, hcs⟩ := okWide_struct eqChange hok
  obtain ⟨key, has, val, hc, hfit⟩ := change_cells hf hz
  refine ⟨key, has, val, ?_, hfit⟩
  have : cs.toList = [.string key, .bool has, .string val] := by simpa [Value.cells] using hc
  rw [show cs = cs.toList.toArray by simp, this]

/-- At p, a slice's address, these bytes lie. -/
def Su (W : World) (p : Option Addr) (L : List Nat) : Prop := ∀ j (h : j < L.length), ∃ b o, p = some ⟨b, o, none⟩ ∧ W.cell? ⟨b, o + j, none⟩ = some (.int .u8 ((L[j] : Nat) : Int))
theorem Su.grow {W W' : World} {p : Option Addr} {L : List Nat} (h : Su W p L) (hb : Below W.heap.size W W') : Su W' p L := fun j hj => by
  obtain ⟨b, o, rfl, c⟩ := h j hj
  exact ⟨b, o, rfl, (hb.cell (p := ⟨b, _, none⟩) (cell_lt c)).trans c⟩

theorem bytes_open {H : Type} {enc : TypeId × Value → H} {W : World} {fuel : Nat} {cs : List Value} {x : DataW H × List MemPlace} (hf : DataW.trod enc Tryz.prog W 0 (fun _ => true) true fuel 163 cs = some x) :
    ∃ (pa : Option Addr) (len cap : Nat) (L : List Nat), cs = [.slice pa len cap] ∧ L.length = len ∧ Su W pa L ∧ (∀ z ∈ L, z ≤ 255) ∧ len ≤ maxLen := by
  rcases open_ints Tryz.underlying163 Tryz.underlying5 (by kernel_rfl) hf with ⟨hcs, _⟩ | ⟨a, len, cap, zs, hcs, hb, hl, hm, hzl, hx, hi, hw⟩
  · exact ⟨none, 0, 0, [], hcs, rfl, fun _ h => absurd h (Nat.not_lt_zero _), (fun _ h => by cases h), Nat.zero_le _⟩
  · have hzc : zs.length = cap := by simpa using hzl
    refine ⟨some a, len, cap, (zs.take len).map Int.toNat, hcs, by simp; omega, fun j hj => ?_, fun z hz => ?_, by omega⟩
    · have hj' : j < len ∧ j < zs.length := by simpa [Nat.lt_min] using hj
      obtain ⟨h1, h2⟩ := plain_add (hi 0 (by omega)) (hi j (by omega))
      refine ⟨a.block, a.off, by rw [← h1], ?_⟩
      have hwj := bounds_u8 (hw zs[j] (List.getElem_mem _))
      rw [h2]
      simp [List.getD, List.getElem?_eq_getElem hj'.2]
      omega
    · obtain ⟨q, hq, rfl⟩ := List.mem_map.1 hz
      have := bounds_u8 (hw q (List.mem_of_mem_take hq))
      omega

/-- At p, a slice's address, these bools lie. -/
def Sbl (W : World) (p : Option Addr) (L : List Bool) : Prop := ∀ j (h : j < L.length), ∃ b o, p = some ⟨b, o, none⟩ ∧ W.cell? ⟨b, o + j, none⟩ = some (.bool L[j])
theorem Sbl.grow {W W' : World} {p : Option Addr} {L : List Bool} (h : Sbl W p L) (hb : Below W.heap.size W W') : Sbl W' p L := fun j hj => by
  obtain ⟨b, o, rfl, c⟩ := h j hj
  exact ⟨b, o, rfl, (hb.cell (p := ⟨b, _, none⟩) (cell_lt c)).trans c⟩

end Go.Proofs.YtpnfbabiibopnaaGreat

/-! An iterator that has things of its own which it turns between its rounds (a heap, a routine), and the law of 'for x := range seq' over it: nothing of this is of one program.
  The caller names the blocks that are its own (f), the iterator those that are its own (g) and those that it reads (ro): each party leaves the other's alone. -/
namespace Go.Proofs.YtpnfbabiibopnaaGreat
open Go Go.RowKit

theorem Step.putObj {f f' : Nat → Prop} {A B : World} (p : Step f f' A B) {l : Nat} (hl : A.heap.size ≤ l) (o : Obj) : Step f f' A (B.putObj l o) :=
  ⟨p.os, p.tape, p.output, Nat.le_trans p.size (by simp), fun k hk hn => (World.putObj_heap_other (by omega)).trans (p.block k hk hn), p.foot⟩

/-- The invariant hangs on the blocks of its footprint alone. -/
def Stable {β : Type} (J : β → (Nat → Prop) → World → Prop) : Prop :=
  ∀ s f W W', J s f W → W.heap.size ≤ W'.heap.size → (∀ k, f k → W'.heap[k]? = W.heap[k]?) → J s f W'

/-- The footprint lies within the heap. -/
def Bound {β : Type} (J : β → (Nat → Prop) → World → Prop) : Prop := ∀ s f W, J s f W → ∀ k, f k → k < W.heap.size

variable {F : Fence} {n : Nat} {P : Program}

/-- How a round may end: 'go on', or 'no more'. -/
def RoundEnds {α : Type} (J Jx : List α → (Nat → Prop) → World → Prop) (ys : List α) (f : Nat → Prop) (W : World) (e : Ending) (W' : World) : Prop :=
  (e = .returned (.bool true) ∧ ∃ f', Step f f' W W' ∧ J ys f' W') ∨ (e = .returned (.bool false) ∧ ∃ f', Step f f' W W' ∧ Jx ys f' W')

/-- How the body of a round may be left. -/
def footPost {α : Type} (I : List α → (Nat → Prop) → World → Prop) (Ix : Code → List α → (Nat → Prop) → World → Prop) (ys : List α) (f : Nat → Prop) (W : World) : Exit → Act → World → Prop
  | .normal, _, W' => ∃ f', Step f f' W W' ∧ I ys f' W'
  | .ret, _, W' => ∃ f', Step f f' W W' ∧ Ix .ret ys f' W'
  | .exit id, _, W' => ∃ f', Step f f' W W' ∧ Ix (.exit id) ys f' W'
  | .goto t, _, W' => ∃ f', Step f f' W W' ∧ Ix (.goto t) ys f' W'
  | .panic _, _, _ => False
  | .outgrown, _, _ => False

/-- What the iterator has hangs on its own blocks, and on those that it reads. -/
def StableO (Own : Nat → (Nat → Prop) → World → Prop) (ro : Nat → Prop) : Prop :=
  ∀ j g W W', Own j g W → W.heap.size ≤ W'.heap.size → (∀ k, g k ∨ ro k → W'.heap[k]? = W.heap[k]?) → Own j g W'
def BoundO (Own : Nat → (Nat → Prop) → World → Prop) (ro : Nat → Prop) : Prop := ∀ j g W, Own j g W → ∀ k, g k ∨ ro k → k < W.heap.size

/-- How the iterator may end: all have come, or it was stopped; what it has then. -/
def OwnEnds {α : Type} (J Jx : List α → (Nat → Prop) → World → Prop) (Own : Nat → (Nat → Prop) → World → Prop) (ro : Nat → Prop) (xs : List α) (f g : Nat → Prop) (W : World) (e : Ending) (W' : World) : Prop :=
  (∃ v, e = .returned v) ∧ ∃ pre f' g', Step (fun k => f k ∨ g k) (fun k => f' k ∨ g' k) W W' ∧ (∀ k, f' k → ¬ g' k ∧ ¬ ro k) ∧ Own pre.length g' W' ∧ ((pre = xs ∧ J pre f' W') ∨ (pre <+: xs ∧ Jx pre f' W'))

/-- **THE CONTRACT OF SUCH AN ITERATOR**, function gf with the captured values lb: it hands out xs, one behind the other; behind j of them it has Own j. -/
def IterO {α : Type} (F : Fence) (n : Nat) (P : Program) (gf : Nat) (lb : Array Value) (encs : α → Array Value) (xs : List α) (Own : Nat → (Nat → Prop) → World → Prop) (ro : Nat → Prop) : Prop :=
  ∀ (l : Nat) (J Jx : List α → (Nat → Prop) → World → Prop) (W : World) (f g : Nat → Prop), Stable J → Stable Jx → Bound J → Own 0 g W → (∀ k, f k → ¬ g k ∧ ¬ ro k) →
    (∀ pre x post f1 W1, xs = pre ++ x :: post → J pre f1 W1 → YieldAt F (n - 1) P l (encs x) W1 (RoundEnds J Jx (pre ++ [x]) f1 W1)) →
    J [] f W →
    CallsIn F n P gf (#[.func (.yield l) #[] #[]] ++ lb) W (OwnEnds J Jx Own ro xs f g W)

/-- **THE STATEMENT 'for x := range seq { body }' OVER SUCH AN ITERATOR, whose variables are boxed: the assignment lays blocks.** -/
theorem wpIn_rangeFunc_own {α : Type} {go : Operand} {ps : Array Tmp} {assign body : Code} {Q : Exit → Act → World → Prop} {a : Act} {w : World}
    (hro : F.round = none) (h1 : 1 ≤ n) {gf : Nat} {lb : Array Value} (hg : a.eval go = .func (.func gf) #[] lb) (hFg : F.fn gf) (eg : ∀ args w, (callFunc gf args).run P w = .ok (.enter gf args) w)
    {encs : α → Array Value} {xs : List α} {Own : Nat → (Nat → Prop) → World → Prop} {ro : Nat → Prop} (hOS : StableO Own ro) (hOB : BoundO Own ro) (hseq : IterO F (n - 1) P gf lb encs xs Own ro) (hps : ∀ x, (encs x).size = ps.size)
    (I : List α → (Nat → Prop) → World → Prop) (Ix : Code → List α → (Nat → Prop) → World → Prop) (hI : Stable I) (hIx : ∀ c, Stable (Ix c)) (bI : Bound I) (f g : Nat → Prop) (h0 : I [] f w) (hO0 : Own 0 g w) (hap : ∀ k, f k → ¬ g k ∧ ¬ ro k) (A₁ : α → Nat → Act → World → Prop)
    (hA : ∀ x m a' W W', A₁ x m a' W → W'.heap.size = W.heap.size → (∀ k, m ≤ k → W'.heap[k]? = W.heap[k]?) → A₁ x m a' W')
    (hassign : ∀ (l : Nat) (x : α) (W : World) (K : Act → World → Prop), (∀ a' W', Below W.heap.size W W' → A₁ x W.heap.size a' W' → K a' W') →
      assign.wpIn (F.inRound l) (n - 1 - 1) P (Exit.then K (fun _ _ _ => False)) { tmps := (ps.zip (encs x)).foldl (fun t (p, v) => t.setIfInBounds p v) a.tmps, defers := [] } W)
    (hbody : ∀ (l : Nat) (pre : List α) (x : α) (post : List α) (f1 : Nat → Prop) (a' : Act) (W : World) (m : Nat), xs = pre ++ x :: post → I pre f1 W → A₁ x m a' W → w.heap.size ≤ m → m ≤ W.heap.size → (∀ k, f1 k → k < m) →
      body.wpIn (F.inRound l) (n - 1 - 1) P (footPost I Ix (pre ++ [x]) f1 W) a' W)
    (hdone : ∀ (D : Nat) (f' g' : Nat → Prop) (W : World), w.heap.size ≤ D → ¬ f' D → ¬ g' D → ¬ ro D → Step (fun k => f k ∨ g k) (fun k => f' k ∨ g' k) w W → (∀ k, f' k → ¬ g' k ∧ ¬ ro k) → I xs f' W → Own xs.length g' W → W.heap[D]? = some (.deferred (some [])) → Q .normal { a with defers := { target := .collected D, args := #[] } :: a.defers } W)
    (hstop : ∀ (D : Nat) (c : Code) (pre : List α) (f' g' : Nat → Prop) (W : World), w.heap.size ≤ D → ¬ f' D → ¬ g' D → ¬ ro D → Step (fun k => f k ∨ g k) (fun k => f' k ∨ g' k) w W → (∀ k, f' k → ¬ g' k ∧ ¬ ro k) → pre <+: xs → Ix c pre f' W → Own pre.length g' W → W.heap[D]? = some (.deferred (some [])) →
      c.wpIn F n P Q { a with defers := { target := .collected D, args := #[] } :: a.defers } W) :
    (Code.rangeFunc go ps assign body).wpIn F n P Q a w := by
  refine wpIn_rangeFunc ?_
  intro fn hfn
  rw [hro]
  obtain ⟨rec, hrec⟩ : ∃ rec : LoopState → Option Code → Loop, rec = fun st pe => { state := st, pending := pe, fn, tmps := a.tmps, params := ps, assign, body, defers := w.heap.size } := ⟨_, rfl⟩
  obtain ⟨W1, hW1⟩ : ∃ W1, (w.alloc (.deferred (some []))).alloc (.loop (rec .ready none)) = W1 := ⟨_, rfl⟩
  have hL1 : W1.heap[w.heap.size + 1]? = some (.loop (rec .ready none)) := by
    rw [← hW1]; have := World.alloc_heap_new (w.alloc (.deferred (some []))) (.loop (rec .ready none)); rwa [World.size_alloc] at this
  have hK1 : W1.heap[w.heap.size]? = some (.deferred (some [])) := by
    rw [← hW1]; exact (Below.heap_alloc _ _ _ (by simp)).trans (World.alloc_heap_new w _)
  have hB1 : Below w.heap.size w W1 := by rw [← hW1]; exact ((Below.refl _ w).alloc (Nat.le_refl _) _).alloc (by simp) _
  have hI1 : I [] f W1 := hI _ _ _ _ h0 hB1.size (fun k hk => hB1.block k (bI _ _ _ h0 k hk))
  have hnD : ∀ k, w.heap.size ≤ k → ¬ f k := fun k hk hf => absurd (bI _ _ _ h0 k hf) (Nat.not_lt.2 hk)
  have hs1 : W1.heap.size = w.heap.size + 1 + 1 := by rw [← hW1]; simp
  have hO1 : Own 0 g W1 := hOS _ _ _ _ hO0 hB1.size (fun k hk => hB1.block k (hOB _ _ _ hO0 k hk))
  have hgl : ∀ k, g k ∨ ro k → k < w.heap.size := hOB _ _ _ hO0
  refine ⟨w.heap.size + 1, [{ target := .collected w.heap.size, args := #[] }], W1, { target := .fn (.func gf) lb, args := #[.func (.yield (w.heap.size + 1)) #[] #[]] }, W1, gf,
    #[.func (.yield (w.heap.size + 1)) #[] #[]] ++ lb, W1, ?_, ?_, ?_, ?_, fun _ => h1, ?_⟩
  · rw [← hW1, hrec]; exact run_enterLoop_outer _ _ _ _ _
  · simp only [resolve, hg]
    simp [go_sem]
  · intro f' hf'; simp [Target.leads] at hf'; subst hf'; exact hFg
  · simp [invoke, go_sem, eg]
  · refine (hseq (w.heap.size + 1)
      (fun pre fp W => ∃ f1, fp = (fun k => f1 k ∨ k = w.heap.size ∨ k = w.heap.size + 1) ∧ I pre f1 W ∧ W.heap[w.heap.size + 1]? = some (.loop (rec .ready none)) ∧ W.heap[w.heap.size]? = some (.deferred (some [])) ∧ ¬ f1 w.heap.size ∧ ¬ f1 (w.heap.size + 1))
      (fun pre fp W => ∃ c f1, fp = (fun k => f1 k ∨ k = w.heap.size ∨ k = w.heap.size + 1) ∧ Ix c pre f1 W ∧ W.heap[w.heap.size + 1]? = some (.loop (rec .done (some c))) ∧ W.heap[w.heap.size]? = some (.deferred (some [])) ∧ ¬ f1 w.heap.size ∧ ¬ f1 (w.heap.size + 1))
      W1 (fun k => f k ∨ k = w.heap.size ∨ k = w.heap.size + 1) g ?_ ?_ ?_ hO1 ?_ ?_ ⟨f, rfl, hI1, hL1, hK1, hnD _ (Nat.le_refl _), hnD _ (by omega)⟩).mono ?_
    · rintro s fp A B ⟨f1, rfl, hi, hl, hk, n1, n2⟩ hsz hbl
      exact ⟨f1, rfl, hI _ _ _ _ hi hsz (fun k hk => hbl k (.inl hk)), (hbl _ (.inr (.inr rfl))).trans hl, (hbl _ (.inr (.inl rfl))).trans hk, n1, n2⟩
    · rintro s fp A B ⟨c, f1, rfl, hi, hl, hk, n1, n2⟩ hsz hbl
      exact ⟨c, f1, rfl, hIx c _ _ _ _ hi hsz (fun k hk => hbl k (.inl hk)), (hbl _ (.inr (.inr rfl))).trans hl, (hbl _ (.inr (.inl rfl))).trans hk, n1, n2⟩
    · rintro s fp A ⟨f1, rfl, hi, hl, hk, n1, n2⟩ k hk'
      rcases hk' with h | rfl | rfl
      · exact bI _ _ _ hi k h
      · exact (Array.getElem?_eq_some_iff.1 hk).1
      · exact (Array.getElem?_eq_some_iff.1 hl).1
    · rintro k (hk | rfl | rfl)
      · exact hap k hk
      · exact ⟨fun h => by have := hgl _ (.inl h); omega, fun h => by have := hgl _ (.inr h); omega⟩
      · exact ⟨fun h => by have := hgl _ (.inl h); omega, fun h => by have := hgl _ (.inr h); omega⟩
    · -- ONE ROUND
      rintro pre x post fp W hxs ⟨f1, rfl, hi, hl, hk, n1, n2⟩
      have hlt : w.heap.size + 1 < W.heap.size := (Array.getElem?_eq_some_iff.1 hl).1
      have hy := run_yield (P := P) (args := encs x) hl (by rw [hrec]; exact hps x)
      rw [hrec] at hy
      refine ⟨fn, _, assign, body, hy, roundIn_of_wpIn hfn (hassign _ x W _ ?_)⟩
      intro a' W' hbel hA'
      have hI0 := hi
      have hlW := hl
      replace hl : W'.heap[w.heap.size + 1]? = some (.loop (rec .ready none)) := (hbel.block _ hlt).trans hl
      replace hk : W'.heap[w.heap.size]? = some (.deferred (some [])) := (hbel.block _ (by omega)).trans hk
      replace hi : I pre f1 W' := hI _ _ _ _ hi hbel.size (fun k hkf => hbel.block k (bI _ _ _ hI0 k hkf))
      have hlt' : w.heap.size + 1 < W'.heap.size := Nat.lt_of_lt_of_le hlt hbel.size
      refine ⟨_, run_beginRound hl (by rw [hrec]), ?_⟩
      have hl2 : (W'.putObj (w.heap.size + 1) (.loop { rec .ready none with state := .busy })).heap[w.heap.size + 1]? = some (.loop { rec .ready none with state := .busy }) := World.putObj_heap_same hlt'
      have hk2 : (W'.putObj (w.heap.size + 1) (.loop { rec .ready none with state := .busy })).heap[w.heap.size]? = some (.deferred (some [])) := (World.putObj_heap_other (by omega)).trans hk
      have hi2 : I pre f1 (W'.putObj (w.heap.size + 1) (.loop { rec .ready none with state := .busy })) := hI _ _ _ _ hi (by simp) (fun k hkf => World.putObj_heap_other (fun e => n2 (e ▸ hkf)))
      have hA2 : A₁ x W.heap.size a' (W'.putObj (w.heap.size + 1) (.loop { rec .ready none with state := .busy })) := hA _ _ _ _ _ hA' (by simp) (fun k hk' => World.putObj_heap_other (by omega))
      refine wpIn_mono (hbody _ pre x post f1 a' _ W.heap.size hxs hi2 hA2 (by omega) (by simpa using hbel.size) (bI _ _ _ hI0)) ?_
      have fin : ∀ (jump : Option Code) (f2 : Nat → Prop) (W3 : World), Step f1 f2 (W'.putObj (w.heap.size + 1) (.loop { rec .ready none with state := .busy })) W3 →
          (Instr.endRound (w.heap.size + 1) jump).run P W3 = .ok (.bool jump.isNone) (W3.putObj (w.heap.size + 1) (.loop (rec (if jump.isNone then .ready else .done) jump))) ∧
          (W3.putObj (w.heap.size + 1) (.loop (rec (if jump.isNone then .ready else .done) jump))).heap[w.heap.size + 1]? = some (.loop (rec (if jump.isNone then .ready else .done) jump)) ∧
          (W3.putObj (w.heap.size + 1) (.loop (rec (if jump.isNone then .ready else .done) jump))).heap[w.heap.size]? = some (.deferred (some [])) ∧
          ¬ f2 w.heap.size ∧ ¬ f2 (w.heap.size + 1) ∧
          Step (fun k => f1 k ∨ k = w.heap.size ∨ k = w.heap.size + 1) (fun k => f2 k ∨ k = w.heap.size ∨ k = w.heap.size + 1) W (W3.putObj (w.heap.size + 1) (.loop (rec (if jump.isNone then .ready else .done) jump))) := fun jump f2 W3 hs3 => by
        refine (show _ ∧ _ ∧ _ ∧ _ ∧ _ ∧ Step (fun k => f1 k ∨ k = w.heap.size ∨ k = w.heap.size + 1) (fun k => f2 k ∨ k = w.heap.size ∨ k = w.heap.size + 1) W' _ → _ from fun ⟨p1, p2, p3, p4, p5, p6⟩ => ⟨p1, p2, p3, p4, p5, (Step.of_below (f := fun k => f1 k ∨ k = w.heap.size ∨ k = w.heap.size + 1) hbel).trans p6⟩) ?_
        have hl3 := (hs3.block _ (by simp; omega) n2).trans hl2
        have hk3 := (hs3.block _ (by simp; omega) n1).trans hk2
        have hs3' := hs3.size
        have := run_endRound (P := P) jump hl3
        rw [hrec] at this ⊢
        refine ⟨this, World.putObj_heap_same (Array.getElem?_eq_some_iff.1 hl3).1, (World.putObj_heap_other (by omega)).trans hk3, fun h => ?_, fun h => ?_, hs3.os, hs3.tape, hs3.output, ?_, fun k hk' hn => ?_, fun k hk' => ?_⟩
        · rcases hs3.foot _ h with h | h
          · exact n1 h
          · simp at h; omega
        · rcases hs3.foot _ h with h | h
          · exact n2 h
          · simp at h; omega
        · simp at hs3' ⊢; omega
        · have hne : k ≠ w.heap.size + 1 := fun e => hn (.inr (.inr e))
          exact (World.putObj_heap_other hne).trans ((hs3.block k (by simpa using hk') (fun h => hn (.inl h))).trans (World.putObj_heap_other hne))
        · rcases hk' with h | h
          · rcases hs3.foot _ h with h | h
            · exact .inl (.inl h)
            · exact .inr (by simpa using h)
          · exact .inl (.inr h)
      rintro e a3 W3 hp
      cases e with
      | normal =>
        obtain ⟨f2, hs3, hi3⟩ := hp
        obtain ⟨hr, hl4, hk4, m1, m2, hst⟩ := fin none f2 W3 hs3
        exact ⟨_, _, hr, .inl ⟨rfl, _, hst, f2, rfl, hI _ _ _ _ hi3 (by simp) (fun k hkf => World.putObj_heap_other (fun e => m2 (e ▸ hkf))), hl4, hk4, m1, m2⟩⟩
      | ret =>
        obtain ⟨f2, hs3, hi3⟩ := hp
        obtain ⟨hr, hl4, hk4, m1, m2, hst⟩ := fin (some .ret) f2 W3 hs3
        exact ⟨_, _, hr, .inr ⟨rfl, _, hst, .ret, f2, rfl, hIx _ _ _ _ _ hi3 (by simp) (fun k hkf => World.putObj_heap_other (fun e => m2 (e ▸ hkf))), hl4, hk4, m1, m2⟩⟩
      | exit id =>
        obtain ⟨f2, hs3, hi3⟩ := hp
        obtain ⟨hr, hl4, hk4, m1, m2, hst⟩ := fin (some (.exit id)) f2 W3 hs3
        exact ⟨_, _, hr, .inr ⟨rfl, _, hst, .exit id, f2, rfl, hIx _ _ _ _ _ hi3 (by simp) (fun k hkf => World.putObj_heap_other (fun e => m2 (e ▸ hkf))), hl4, hk4, m1, m2⟩⟩
      | goto t =>
        obtain ⟨f2, hs3, hi3⟩ := hp
        obtain ⟨hr, hl4, hk4, m1, m2, hst⟩ := fin (some (.goto t)) f2 W3 hs3
        exact ⟨_, _, hr, .inr ⟨rfl, _, hst, .goto t, f2, rfl, hIx _ _ _ _ _ hi3 (by simp) (fun k hkf => World.putObj_heap_other (fun e => m2 (e ▸ hkf))), hl4, hk4, m1, m2⟩⟩
      | panic ch => exact hp.elim
      | outgrown => exact hp.elim
    · -- BEHIND THE ITERATOR
      have back : ∀ (fp f1 g1 : Nat → Prop) (W2 : World) (o : Obj), fp = (fun k => f1 k ∨ k = w.heap.size ∨ k = w.heap.size + 1) → Step (fun k => (f k ∨ k = w.heap.size ∨ k = w.heap.size + 1) ∨ g k) (fun k => fp k ∨ g1 k) W1 W2 →
          Step (fun k => f k ∨ g k) (fun k => f1 k ∨ g1 k) w (W2.putObj (w.heap.size + 1) o) := fun fp f1 g1 W2 o e hst => by
        subst e
        refine Step.putObj ⟨hst.os.trans hB1.os, hst.tape.trans hB1.tape, hst.output.trans hB1.output, Nat.le_trans hB1.size hst.size, fun k hk hn => ?_, fun k hk => ?_⟩ (by omega) o
        · refine (hst.block k (Nat.lt_of_lt_of_le hk hB1.size) (fun h => ?_)).trans (hB1.block k hk)
          rcases h with (h | h | h) | h
          · exact hn (.inl h)
          · omega
          · omega
          · exact hn (.inr h)
        · rcases hst.foot k (hk.elim (fun h => .inl (.inl h)) .inr) with ((h | rfl | rfl) | h) | h
          · exact .inl (.inl h)
          · exact .inr (Nat.le_refl _)
          · exact .inr (by omega)
          · exact .inl (.inr h)
          · exact .inr (by omega)
      rintro e W2 ⟨⟨v, rfl⟩, pre, fp, g1, hst, happ, hown, (⟨rfl, f1, rfl, hi, hl, hk, n1, n2⟩ | ⟨hpx, c, f1, rfl, hi, hl, hk, n1, n2⟩)⟩
      · have hgD := happ w.heap.size (.inr (.inl rfl))
        have hgl1 := happ (w.heap.size + 1) (.inr (.inr rfl))
        exact ⟨none, _, by have := run_endLoop (P := P) hl (by rw [hrec]; simp); rw [hrec] at this; exact this,
          hdone _ f1 g1 _ (Nat.le_refl _) n1 hgD.1 hgD.2 (back _ _ _ _ _ rfl hst) (fun k hk' => happ k (.inl hk')) (hI _ _ _ _ hi (by simp) (fun k hkf => World.putObj_heap_other (fun e => n2 (e ▸ hkf))))
            (hOS _ _ _ _ hown (by simp) (fun k hkg => World.putObj_heap_other (fun e => by subst e; exact hkg.elim hgl1.1 hgl1.2))) ((World.putObj_heap_other (by omega)).trans hk)⟩
      · have hgD := happ w.heap.size (.inr (.inl rfl))
        have hgl1 := happ (w.heap.size + 1) (.inr (.inr rfl))
        exact ⟨some c, _, by have := run_endLoop (P := P) hl (by rw [hrec]; simp); rw [hrec] at this; exact this,
          hstop _ c pre f1 g1 _ (Nat.le_refl _) n1 hgD.1 hgD.2 (back _ _ _ _ _ rfl hst) (fun k hk' => happ k (.inl hk')) hpx (hIx c _ _ _ _ hi (by simp) (fun k hkf => World.putObj_heap_other (fun e => n2 (e ▸ hkf))))
            (hOS _ _ _ _ hown (by simp) (fun k hkg => World.putObj_heap_other (fun e => by subst e; exact hkg.elim hgl1.1 hgl1.2))) ((World.putObj_heap_other (by omega)).trans hk)⟩

theorem yieldAt_any {m : Nat} {l : Nat} {args : Array Value} {W : World} {R : Ending → World → Prop} (hd : F.depth = none) (m' : Nat) (h : YieldAt F m P l args W R) : YieldAt F m' P l args W R := by
  obtain ⟨fn, tmps, assign, body, hy, hF, hR⟩ := h
  exact ⟨fn, tmps, assign, body, hy, hF, fun c cs _ => hR c cs (fun d hd' => by rw [hd] at hd'; cases hd')⟩

end Go.Proofs.YtpnfbabiibopnaaGreat

/-! A routine beside a heap, whatever kind it is: what may be done next, what it is answered, and both behind it; drive's Next. -/
namespace Go.Proofs.YtpnfbabiibopnaaGreat
open Go Go.RowKit
attribute [local go_sem ↓] Go.wp_at_zero Go.wp_at_succ

/-- No more blocks than one more, no more faults than one more. -/
def Nigh (D D' : HpD) : Prop := D'.L.length ≤ D.L.length + 1 ∧ D'.faults ≤ D.faults + 1
theorem Nigh.same (D : HpD) : Nigh D D := ⟨by omega, by omega⟩
theorem Nigh.fault (D : HpD) : Nigh D D.fault := ⟨Nat.le_succ _, Nat.le_refl _⟩
theorem Nigh.word (D : HpD) (k : Nat) (i u : Int) : Nigh D (D.word k i u) := by
  unfold HpD.word
  split
  · exact Nigh.same D
  · exact ⟨by simp [HpD.at], by simp [HpD.at]⟩
theorem Nigh.lose (D : HpD) (k : Nat) : Nigh D (D.lose k) := by
  unfold HpD.lose
  split
  · exact Nigh.same D
  · exact ⟨by simp [HpD.at], by simp [HpD.at]⟩
theorem act_nigh (D : HpD) (x : ActD) : Nigh D (actN D x) := by
  unfold actN
  split
  · unfold loadD; split
    · exact Nigh.same D
    · exact Nigh.fault D
  split
  · unfold storeD; split
    · exact Nigh.word ..
    · exact Nigh.fault D
  split
  · unfold swapD; split
    · split
      · exact Nigh.word ..
      · exact Nigh.same D
    · exact Nigh.fault D
  split
  · unfold bumpD; split
    · exact Nigh.word ..
    · exact Nigh.fault D
  split
  · unfold makeD; split
    · exact ⟨by simp [HpD.add], by simp [HpD.add]⟩
    · exact Nigh.same D
  split
  · unfold wordsD; split
    · exact Nigh.same D
    · exact Nigh.fault D
  split
  · unfold dropD; split
    · exact Nigh.lose ..
    · exact Nigh.fault D
  split
  · exact ⟨by simp [HpD.lock], by simp [HpD.lock]⟩
  split
  · unfold unlockD; split
    · exact ⟨by simp [HpD.lock], by simp [HpD.lock]⟩
    · exact Nigh.fault D
  · exact Nigh.same D
theorem do_nigh (D : HpD) (x : ActD) : Nigh D (doN D x) := by
  unfold doN
  split
  · exact act_nigh D x
  · exact Nigh.same D
theorem act_few (D : HpD) (x : ActD) : (doN D x).L.length ≤ D.L.length + 1 ∧ (doN D x).faults ≤ D.faults + 1 := do_nigh D x

/-! ### Words that may be -/
/-- All words that stand there may be words, and no text is too long. -/
def Fine (D : HpD) : Prop := ∀ b ∈ D.L, (∀ w ∈ b.ws, 0 ≤ w ∧ w < 18446744073709551616) ∧ b.text.size ≤ 281474976710656
theorem Fine.at {D : HpD} {k : Nat} {b : BlkD} (h : Fine D) (hb : liveAt D.L k = some b) : (∀ w ∈ b.ws, 0 ≤ w ∧ w < 18446744073709551616) ∧ b.text.size ≤ 281474976710656 := by
  obtain ⟨-, -, h3, -⟩ := liveAt_some hb
  exact h b (List.mem_of_getElem? h3)
theorem Fine.set {D : HpD} {k : Nat} {x : BlkD} (h : Fine D) (hx : (∀ w ∈ x.ws, 0 ≤ w ∧ w < 18446744073709551616) ∧ x.text.size ≤ 281474976710656) : Fine (D.at k x) := fun b hb => by
  rcases List.mem_or_eq_of_mem_set hb with hb | rfl
  · exact h b hb
  · exact hx
theorem Fine.word {D : HpD} (h : Fine D) (k : Nat) (i : Int) {u : Int} (hu : 0 ≤ u ∧ u < 18446744073709551616) : Fine (D.word k i u) := by
  unfold HpD.word
  split
  · exact h
  · rename_i b hb
    refine h.set ⟨fun w hw => ?_, (h.at hb).2⟩
    rcases List.mem_or_eq_of_mem_set hw with hw | rfl
    · exact (h.at hb).1 w hw
    · exact hu
theorem Fine.lose {D : HpD} (h : Fine D) (k : Nat) : Fine (D.lose k) := by
  unfold HpD.lose
  split
  · exact h
  · rename_i b hb
    have hb' := h.at hb
    exact h.set (x := ⟨b.ws, b.text, true⟩) hb'
theorem Fine.fault {D : HpD} (h : Fine D) : Fine D.fault := h
theorem Fine.lock {D : HpD} (h : Fine D) (b : Bool) : Fine (D.lock b) := h
theorem Fine.made {D : HpD} (h : Fine D) {c : Int} {s : ByteArray} (hs : s.size ≤ 281474976710656) : Fine (makeD D c s) := by
  unfold makeD
  split
  · intro b hb
    rcases List.mem_append.1 hb with hb | hb
    · exact h b hb
    · obtain rfl := List.mem_singleton.1 hb
      refine ⟨fun w hw => ?_, hs⟩
      rw [List.eq_of_mem_replicate hw]; omega
  · exact h
theorem Fine.wordAt {D : HpD} (h : Fine D) (k : Nat) (i : Int) : 0 ≤ wordAt D.L k i ∧ wordAt D.L k i < 18446744073709551616 := by
  unfold Go.Proofs.YtpnfbabiibopnaaGreat.wordAt
  split
  · omega
  · rename_i b hb
    rcases Nat.lt_or_ge i.toNat b.ws.length with hl | hl
    · have := (h.at hb).1 _ (List.getElem_mem hl)
      rw [List.getD_eq_getElem?_getD, List.getElem?_eq_getElem hl]
      exact this
    · rw [List.getD_eq_getElem?_getD, List.getElem?_eq_none hl]
      simp
theorem Fine.loadV {D : HpD} (h : Fine D) (k : Nat) (i : Int) : 0 ≤ loadV D k i ∧ loadV D k i < 18446744073709551616 := by
  unfold Go.Proofs.YtpnfbabiibopnaaGreat.loadV
  split
  · exact h.wordAt k i
  · omega
theorem u64_wrap_in (a : Int) : 0 ≤ IntKind.u64.wrap a ∧ IntKind.u64.wrap a < 18446744073709551616 := by
  have : IntKind.u64.wrap a = a % 18446744073709551616 := by simp [IntKind.wrap, IntKind.bits, IntKind.signed]
  omega
theorem Fine.does {D : HpD} (h : Fine D) {x : ActD} (hx : x.fits) : Fine (doN D x) := by
  obtain ⟨-, -, -, -, hn, ht⟩ := hx
  unfold doN
  split
  · unfold actN
    split
    · unfold loadD; split
      · exact h
      · exact h.fault
    split
    · unfold storeD; split
      · exact h.word _ _ hn
      · exact h.fault
    split
    · unfold swapD; split
      · split
        · exact h.word _ _ hn
        · exact h
      · exact h.fault
    split
    · unfold bumpD; split
      · exact h.word _ _ (u64_wrap_in _)
      · exact h.fault
    split
    · exact h.made ht
    split
    · unfold wordsD; split
      · exact h
      · exact h.fault
    split
    · unfold dropD; split
      · exact h.lose _
      · exact h.fault
    split
    · exact h.lock _
    split
    · unfold unlockD; split
      · exact h.lock _
      · exact h.fault
    · exact h
  · exact h
theorem Fine.good {D : HpD} (h : Fine D) (hl : D.L.length ≤ 1000000) (x : ActD) : Good (doW D x) (doT D x) := by
  refine ⟨?_, ?_⟩
  · unfold doW
    split
    · unfold actW
      split
      · exact h.loadV _ _
      split
      · unfold makeV; split <;> omega
      split
      · split <;> omega
      · omega
    · omega
  · unfold doT
    split
    · unfold actT
      split
      · unfold textAt
        split
        · exact Nat.zero_le _
        · rename_i b hb
          exact (h.at hb).2
      · exact Nat.zero_le _
    · exact Nat.zero_le _
/-- Few blocks, few faults: so many acts may be done yet. -/
structure FewD (D : HpD) (n : Nat) : Prop where
  faults : D.faults + n ≤ 900000
  blocks : D.L.length + n ≤ 900000
  fine : Fine D
theorem FewD.does {D : HpD} {n : Nat} (h : FewD D (n + 1)) {x : ActD} (hx : x.fits) : FewD (doN D x) n := by
  obtain ⟨h1, h2⟩ := do_nigh D x
  exact ⟨by have := h.faults; omega, by have := h.blocks; omega, h.fine.does hx⟩
theorem FewD.mono {D : HpD} {n m : Nat} (h : FewD D n) (hm : m ≤ n) : FewD D m := ⟨by have := h.faults; omega, by have := h.blocks; omega, h.fine⟩

/-- Blocks that lie as they lay, none of them the heap's. -/
def Keeps (l : List (Nat × Obj)) (f : Nat → Prop) (X : World) : Prop := ∀ q ∈ l, X.heap[q.1]? = some q.2 ∧ ¬ f q.1
section
variable {l : List (Nat × Obj)} {f f1 : Nat → Prop} {X Y : World}
theorem Keeps.nil : Keeps [] f X := fun _ h => by cases h
theorem Keeps.turn (h : Keeps l f X) (s : Step f f1 X Y) : Keeps l f1 Y := fun q hq =>
  ⟨(s.block _ (heap_at_lt (h q hq).1) (h q hq).2).trans (h q hq).1, s.off (heap_at_lt (h q hq).1) (h q hq).2⟩
theorem Keeps.below (h : Keeps l f X) (hb : Below X.heap.size X Y) : Keeps l f Y := fun q hq =>
  ⟨(hb.block _ (heap_at_lt (h q hq).1)).trans (h q hq).1, (h q hq).2⟩
theorem Keeps.add (h : Keeps l f X) (hlt : ∀ k, f k → k < X.heap.size) (o : Obj) : Keeps ((X.heap.size, o) :: l) f (X.alloc o) := fun q hq => by
  rcases List.mem_cons.1 hq with rfl | hq
  · exact ⟨World.alloc_heap_new X o, fun hf => absurd (hlt _ hf) (Nat.lt_irrefl _)⟩
  · exact h.below (below_alloc X o) q hq
theorem Keeps.cell {n i : Nat} {cs : Array Value} {t : TypeId} (h : Keeps l f X) (hm : (n, Obj.cells cs t (0, 0)) ∈ l) : X.cell? ⟨n, i, none⟩ = cs[i]? := cell_of (h _ hm).1
end

/-- A step: an act, and what it was answered. -/
structure StepD where
  act : ActD
  w : Int
  t : ByteArray
abbrev stepV (who : Int) (s : StepD) : Value := .agg #[.int .i64 who, .int .i64 s.act.kind, .int .u64 (s.act.block : Int), .int .i64 s.act.cell, .int .u64 s.act.old, .int .u64 s.act.new, .string s.act.text, .int .u64 s.w, .string s.t]
abbrev zeroS : Value := .agg #[.int .i64 0, .int .i64 0, .int .u64 0, .int .i64 0, .int .u64 0, .int .u64 0, .string ⟨#[]⟩, .int .u64 0, .string ⟨#[]⟩]
/-- A heap and where a routine stands. -/
structure PmS (σ : Type) where
  D : HpD
  s : σ
section
variable {σ : Type}
def stepM (M : Mach σ) (S : PmS σ) : Option StepD := match M.next S.s with | some x => if readyA S.D x then some ⟨x, doW S.D x, doT S.D x⟩ else none | none => none
def nextM (M : Mach σ) (S : PmS σ) : PmS σ := match M.next S.s with | some x => ⟨doN S.D x, M.take S.s (doW S.D x) (doT S.D x)⟩ | none => S
theorem stepM_some {M : Mach σ} {S : PmS σ} {x : StepD} (h : stepM M S = some x) : ∃ y, M.next S.s = some y ∧ x = ⟨y, doW S.D y, doT S.D y⟩ ∧ readyA S.D y = true := by
  unfold stepM at h
  split at h
  · rename_i y hy
    split at h
    · rename_i hr
      exact ⟨y, hy, (Option.some.inj h).symm, hr⟩
    · cases h
  · cases h
theorem nextM_some {M : Mach σ} {S : PmS σ} {x : ActD} (h : M.next S.s = some x) : nextM M S = ⟨doN S.D x, M.take S.s (doW S.D x) (doT S.D x)⟩ := by
  unfold nextM; rw [h]

/-- A heap at p, and a routine at r beside it; what they write to are f's blocks; n acts may be done yet. -/
def PlM (M : Mach σ) (W : World) (B p r : Nat) (S : PmS σ) (n : Nat) (f : Nat → Prop) : Prop :=
  ∃ fh fr, Hp W B p S.D fh ∧ M.At W B r S.s fr ∧ (∀ j, fh j → ¬ fr j) ∧ f = (fun j => fh j ∨ fr j) ∧ FewD S.D n
variable {M : Mach σ} {W W' : World} {B p r n : Nat} {S : PmS σ} {f : Nat → Prop}
theorem PlM.lt (h : PlM M W B p r S n f) : ∀ k, f k → k < W.heap.size := by
  obtain ⟨fh, fr, h1, h2, -, rfl, -⟩ := h
  exact fun k hk => hk.elim (h1.lt k) (M.lt h2 k)
theorem PlM.size (h : PlM M W B p r S n f) : B ≤ W.heap.size := by obtain ⟨fh, fr, h1, _⟩ := h; exact h1.size
theorem PlM.base (h : PlM M W B p r S n f) : ∀ k, k < B → ¬ f k := by
  obtain ⟨fh, fr, h1, h2, -, rfl, -⟩ := h
  exact fun k hk hf => hf.elim (h1.base k hk) (fun h3 => by have := M.base h2 k h3; omega)
theorem PlM.stays (h : PlM M W B p r S n f) (hs : ∀ k, f k → W'.heap[k]? = W.heap[k]?) : PlM M W' B p r S n f := by
  obtain ⟨fh, fr, h1, h2, h3, rfl, h4⟩ := h
  exact ⟨fh, fr, h1.stays (fun k hk => hs k (.inl hk)), M.stays h2 (fun k hk => hs k (.inr hk)), h3, rfl, h4⟩
theorem PlM.below (h : PlM M W B p r S n f) (hb : Below W.heap.size W W') : PlM M W' B p r S n f := h.stays (fun k hk => hb.block k (h.lt k hk))
theorem PlM.mono (h : PlM M W B p r S n f) {m : Nat} (hm : m ≤ n) : PlM M W B p r S m f := by
  obtain ⟨fh, fr, h1, h2, h3, h4, h5⟩ := h
  exact ⟨fh, fr, h1, h2, h3, h4, h5.mono hm⟩
theorem step_or {f f' : Nat → Prop} {A B : World} (p : Step f f' A B) (O : Nat → Prop) : Step (fun k => f k ∨ O k) (fun k => f' k ∨ O k) A B :=
  ⟨p.os, p.tape, p.output, p.size, fun k hk h => p.block k hk (fun hf => h (.inl hf)), fun k hk => hk.elim (fun h => (p.foot k h).elim (fun h => .inl (.inl h)) .inr) (fun h => .inl (.inr h))⟩
theorem step_or' {f f' : Nat → Prop} {A B : World} (p : Step f f' A B) (O : Nat → Prop) : Step (fun k => O k ∨ f k) (fun k => O k ∨ f' k) A B :=
  ⟨p.os, p.tape, p.output, p.size, fun k hk h => p.block k hk (fun hf => h (.inr hf)), fun k hk => hk.elim (fun h => .inl (.inl h)) (fun h => (p.foot k h).elim (fun h => .inl (.inr h)) .inr)⟩
theorem plm_ask (h : PlM M W B p r S n f) : Calls Tryz.prog 46 #[rowV M.tid r] W fun e W' => e = .returned (.tuple #[actOf ((M.next S.s).getD noAct), .bool (M.next S.s).isSome, .bool true]) ∧ Below W.heap.size W W' := by
  obtain ⟨fh, fr, h1, h2, h3, rfl, h4⟩ := h
  exact ask_any W M.tid M.fA r _ _ M.metA M.entA (Lib.hid fun X hX => M.act (Mach.below h2 hX))
/-- What a call leaves that turns the heap or the routine. -/
def PmR (M : Mach σ) (B p r : Nat) (S' : PmS σ) (n : Nat) (v : Value) (f : Nat → Prop) (W : World) (e : Ending) (W' : World) : Prop := ∃ f', e = .returned v ∧ PlM M W' B p r S' n f' ∧ Step f f' W W'
theorem plm_ready (h : PlM M W B p r S n f) (x : ActD) (hx : x.fits) : Calls Tryz.prog 84 #[.pointer (some ⟨p, 0, none⟩), actOf x] W (PmR M B p r S n (.bool (readyA S.D x)) f W) := by
  obtain ⟨fh, fr, h1, h2, h3, rfl, h4⟩ := h
  refine (ready_any W h1 (by have := h4.faults; omega) x hx).mono fun e W' he => ?_
  obtain ⟨f', rfl, hp, hs⟩ := he
  exact ⟨_, rfl, ⟨f', fr, hp, M.stays h2 (fun j hj => hs.block j (M.lt h2 j hj) (fun hf => h3 j hf hj)), fun j hj hj' => (hs.foot j hj).elim (fun hf => h3 j hf hj') (fun hge => by have := M.lt h2 j hj'; omega), rfl, h4⟩, step_or hs fr⟩
/-- Behind the heap's turn, ahead of the routine's. -/
def MidM (M : Mach σ) (W : World) (B p r : Nat) (S : PmS σ) (D : HpD) (n : Nat) (f : Nat → Prop) : Prop :=
  ∃ fh fr, Hp W B p D fh ∧ M.At W B r S.s fr ∧ (∀ j, fh j → ¬ fr j) ∧ f = (fun j => fh j ∨ fr j) ∧ FewD D n
theorem MidM.below {D : HpD} (h : MidM M W B p r S D n f) (hb : Below W.heap.size W W') : MidM M W' B p r S D n f := by
  obtain ⟨fh, fr, h1, h2, h3, rfl, h4⟩ := h
  exact ⟨fh, fr, h1.below hb, Mach.below h2 hb, h3, rfl, h4⟩
theorem MidM.lt {D : HpD} (h : MidM M W B p r S D n f) : ∀ k, f k → k < W.heap.size := by
  obtain ⟨fh, fr, h1, h2, -, rfl, -⟩ := h
  exact fun k hk => hk.elim (h1.lt k) (M.lt h2 k)
theorem plm_do (h : PlM M W B p r S (n + 1) f) (x : ActD) (hx : x.fits) : Calls Tryz.prog 85 #[.pointer (some ⟨p, 0, none⟩), actOf x] W (fun e W' => ∃ f', e = .returned (gotV (doW S.D x) (doT S.D x)) ∧ MidM M W' B p r S (doN S.D x) n f' ∧ Step f f' W W') := by
  obtain ⟨fh, fr, h1, h2, h3, rfl, h4⟩ := h
  refine (do_any W h1 (by have := h4.faults; omega) (by have := h4.blocks; omega) x hx).mono fun e W' he => ?_
  obtain ⟨f', rfl, hp, hs⟩ := he
  exact ⟨_, rfl, ⟨f', fr, hp, M.stays h2 (fun j hj => hs.block j (M.lt h2 j hj) (fun hf => h3 j hf hj)), fun j hj hj' => (hs.foot j hj).elim (fun hf => h3 j hf hj') (fun hge => by have := M.lt h2 j hj'; omega), rfl, h4.does hx⟩, step_or hs fr⟩
theorem plm_hand {D : HpD} (h : MidM M W B p r S D n f) (hs : (M.next S.s).isSome = true) {w : Int} {t : ByteArray} (hg : Good w t) : Calls Tryz.prog 86 #[.func (.method "Take") #[rowV M.tid r] #[], gotV w t] W (PmR M B p r ⟨D, M.take S.s w t⟩ n (.tuple #[]) f W) := by
  obtain ⟨fh, fr, h1, h2, h3, rfl, h4⟩ := h
  refine (hand_any (R := fun W' => ∃ f', M.At W' B r (M.take S.s w t) f' ∧ Step fr f' W W') W M.tid M.fT r M.metT M.entT w t (Lib.hid fun X hX => (M.takes (Mach.below h2 hX) hs hg).mono fun e W' he => ?_)).mono fun e W' he => ?_
  · obtain ⟨f', rfl, ha, hst⟩ := he
    exact ⟨rfl, f', ha, (Step.of_below hX).trans hst⟩
  · obtain ⟨rfl, f', ha, hst⟩ := he
    exact ⟨_, rfl, ⟨fh, f', h1.stays (fun j hj => hst.block j (h1.lt j hj) (h3 j hj)), ha, fun j hj hj' => (hst.foot j hj').elim (fun hf => h3 j hj hf) (fun hge => by have := h1.lt j hj; omega), rfl, h4⟩, step_or' hst fh⟩
end

theorem set9 {X : World} {n : Nat} {t : TypeId} {a0 a1 a2 a3 a4 a5 a6 a7 a8 : Value} (h : X.heap[n]? = some (.cells #[a0, a1, a2, a3, a4, a5, a6, a7, a8] t (0, 0))) (v0 v1 v2 v3 v4 v5 v6 v7 v8 : Value) :
    (((((((((X.setCell ⟨n, 0, none⟩ v0).setCell ⟨n, 1, none⟩ v1).setCell ⟨n, 2, none⟩ v2).setCell ⟨n, 3, none⟩ v3).setCell ⟨n, 4, none⟩ v4).setCell ⟨n, 5, none⟩ v5).setCell ⟨n, 6, none⟩ v6).setCell ⟨n, 7, none⟩ v7).setCell ⟨n, 8, none⟩ v8).heap[n]? = some (.cells #[v0, v1, v2, v3, v4, v5, v6, v7, v8] t (0, 0)) := by
  have e0 := heap_setAt (o := 0) (u := v0) h
  have e1 := heap_setAt (o := 1) (u := v1) e0
  have e2 := heap_setAt (o := 2) (u := v2) e1
  have e3 := heap_setAt (o := 3) (u := v3) e2
  have e4 := heap_setAt (o := 4) (u := v4) e3
  have e5 := heap_setAt (o := 5) (u := v5) e4
  have e6 := heap_setAt (o := 6) (u := v6) e5
  have e7 := heap_setAt (o := 7) (u := v7) e6
  have e8 := heap_setAt (o := 8) (u := v8) e7
  simp only [List.setIfInBounds_toArray, List.set_cons_zero, List.set_cons_succ] at e8
  exact e8
theorem below9 {W X : World} {n : Nat} (h : Below W.heap.size W X) (hn : W.heap.size ≤ n) (v0 v1 v2 v3 v4 v5 v6 v7 v8 : Value) :
    Below W.heap.size W (((((((((X.setCell ⟨n, 0, none⟩ v0).setCell ⟨n, 1, none⟩ v1).setCell ⟨n, 2, none⟩ v2).setCell ⟨n, 3, none⟩ v3).setCell ⟨n, 4, none⟩ v4).setCell ⟨n, 5, none⟩ v5).setCell ⟨n, 6, none⟩ v6).setCell ⟨n, 7, none⟩ v7).setCell ⟨n, 8, none⟩ v8) :=
  ((((((((h.setCell hn v0).setCell hn v1).setCell hn v2).setCell hn v3).setCell hn v4).setCell hn v5).setCell hn v6).setCell hn v7).setCell hn v8
theorem load_nine {X : World} {n : Nat} {k0 k1 k2 k3 k4 k7 w : Int} {s t : ByteArray} (h : X.heap[n]? = some (.cells #[.int .i64 k0, .int .i64 k1, .int .u64 k2, .int .i64 k3, .int .u64 k4, .int .u64 k7, .string s, .int .u64 w, .string t] 138 (0, 0))) :
    (loadVar 138 ⟨n, 0, none⟩).run Tryz.prog X = .ok (.agg #[.int .i64 k0, .int .i64 k1, .int .u64 k2, .int .i64 k3, .int .u64 k4, .int .u64 k7, .string s, .int .u64 w, .string t]) X := by
  have m0 := (cell_of (i := 0) h).trans rfl
  have m1 := (cell_of (i := 1) h).trans rfl
  have m2 := (cell_of (i := 2) h).trans rfl
  have m3 := (cell_of (i := 3) h).trans rfl
  have m4 := (cell_of (i := 4) h).trans rfl
  have m5 := (cell_of (i := 5) h).trans rfl
  have m6 := (cell_of (i := 6) h).trans rfl
  have m7 := (cell_of (i := 7) h).trans rfl
  have m8 := (cell_of (i := 8) h).trans rfl
  go_simp
theorem nine_at {X : World} {n : Nat} {t : TypeId} {a0 a1 a2 a3 a4 a5 a6 a7 a8 : Value} (h : X.heap[n]? = some (.cells #[a0, a1, a2, a3, a4, a5, a6, a7, a8] t (0, 0))) :
    (X.cell? ⟨n, 0, none⟩ = some a0 ∧ X.cell? ⟨n, 1, none⟩ = some a1 ∧ X.cell? ⟨n, 2, none⟩ = some a2 ∧ X.cell? ⟨n, 3, none⟩ = some a3 ∧ X.cell? ⟨n, 4, none⟩ = some a4 ∧ X.cell? ⟨n, 5, none⟩ = some a5 ∧ X.cell? ⟨n, 6, none⟩ = some a6 ∧ X.cell? ⟨n, 7, none⟩ = some a7 ∧ X.cell? ⟨n, 8, none⟩ = some a8) ∧
    (X.frozen? ⟨n, 0, none⟩ = false ∧ X.frozen? ⟨n, 1, none⟩ = false ∧ X.frozen? ⟨n, 2, none⟩ = false ∧ X.frozen? ⟨n, 3, none⟩ = false ∧ X.frozen? ⟨n, 4, none⟩ = false ∧ X.frozen? ⟨n, 5, none⟩ = false ∧ X.frozen? ⟨n, 6, none⟩ = false ∧ X.frozen? ⟨n, 7, none⟩ = false ∧ X.frozen? ⟨n, 8, none⟩ = false) := by
  refine ⟨⟨(cell_of h).trans rfl, (cell_of h).trans rfl, (cell_of h).trans rfl, (cell_of h).trans rfl, (cell_of h).trans rfl, (cell_of h).trans rfl, (cell_of h).trans rfl, (cell_of h).trans rfl, (cell_of h).trans rfl⟩, ?_⟩
  simp [World.frozen?, h]
theorem next_end {X : World} {n : Nat} {T : Array Value} {v : Value} {b : Bool} {R : Ending → World → Prop} (hX : (loadVar 138 ⟨n, 0, none⟩).run Tryz.prog X = .ok v X) (h4 : T.getD 4 undef = .pointer (some ⟨n, 0, none⟩)) (h5 : T.getD 5 undef = .bool b)
    (hR : R (.returned (.tuple #[v, .bool b])) X) : bodyPost Tryz.prog Tryz.f70 R .ret { tmps := T, defers := [] } X :=
  bodyPost_ret (by rw [results_cell2 (by rfl), h4, h5]; simp only [asAddr, Sem.run_pure, Result.andThen_ok, hX]) rfl hR
abbrev zeroO : Obj := .cells #[.int .i64 0, .int .i64 0, .int .u64 0, .int .i64 0, .int .u64 0, .int .u64 0, .string ⟨#[]⟩, .int .u64 0, .string ⟨#[]⟩] 138 (0, 0)

theorem Step.own9 {f f' : Nat → Prop} {W X : World} {n : Nat} (h : Step f f' W X) (hn : W.heap.size ≤ n) (v0 v1 v2 v3 v4 v5 v6 v7 v8 : Value) :
    Step f f' W (((((((((X.setCell ⟨n, 0, none⟩ v0).setCell ⟨n, 1, none⟩ v1).setCell ⟨n, 2, none⟩ v2).setCell ⟨n, 3, none⟩ v3).setCell ⟨n, 4, none⟩ v4).setCell ⟨n, 5, none⟩ v5).setCell ⟨n, 6, none⟩ v6).setCell ⟨n, 7, none⟩ v7).setCell ⟨n, 8, none⟩ v8) :=
  (((((((((h.own hn).own hn).own hn).own hn).own hn).own hn).own hn).own hn).own hn)
theorem heap9 {X : World} {n k : Nat} (hk : k ≠ n) (v0 v1 v2 v3 v4 v5 v6 v7 v8 : Value) :
    (((((((((X.setCell ⟨n, 0, none⟩ v0).setCell ⟨n, 1, none⟩ v1).setCell ⟨n, 2, none⟩ v2).setCell ⟨n, 3, none⟩ v3).setCell ⟨n, 4, none⟩ v4).setCell ⟨n, 5, none⟩ v5).setCell ⟨n, 6, none⟩ v6).setCell ⟨n, 7, none⟩ v7).setCell ⟨n, 8, none⟩ v8).heap[k]? = X.heap[k]? := by
  rw [Below.heap_setCell _ _ _ _ hk, Below.heap_setCell _ _ _ _ hk, Below.heap_setCell _ _ _ _ hk, Below.heap_setCell _ _ _ _ hk, Below.heap_setCell _ _ _ _ hk, Below.heap_setCell _ _ _ _ hk, Below.heap_setCell _ _ _ _ hk, Below.heap_setCell _ _ _ _ hk, Below.heap_setCell _ _ _ _ hk]
theorem PlM.nine {σ : Type} {M : Mach σ} {X : World} {B p r n c : Nat} {S : PmS σ} {f : Nat → Prop} (h : PlM M X B p r S n f) (hn : ¬ f c) (v0 v1 v2 v3 v4 v5 v6 v7 v8 : Value) :
    PlM M (((((((((X.setCell ⟨c, 0, none⟩ v0).setCell ⟨c, 1, none⟩ v1).setCell ⟨c, 2, none⟩ v2).setCell ⟨c, 3, none⟩ v3).setCell ⟨c, 4, none⟩ v4).setCell ⟨c, 5, none⟩ v5).setCell ⟨c, 6, none⟩ v6).setCell ⟨c, 7, none⟩ v7).setCell ⟨c, 8, none⟩ v8) B p r S n f :=
  h.stays (fun k hk => heap9 (fun e => hn (by subst e; exact hk)) _ _ _ _ _ _ _ _ _)

section
variable {σ : Type} {M : Mach σ} {W : World} {B p r n : Nat} {S : PmS σ} {f : Nat → Prop}
set_option maxRecDepth 100000 in
set_option maxHeartbeats 4000000 in
theorem mnext_done (h : PlM M W B p r S n f) (hk : M.next S.s = none) :
    Calls Tryz.prog 70 #[.pointer (some ⟨p, 0, none⟩), rowV M.tid r] W (PmR M B p r S n (.tuple #[zeroS, .bool false]) f W) := by
  have HA := Lib.hid (fun X (hX : Below W.heap.size W X) => (by have := plm_ask (h.below hX); rw [hk] at this; exact this :
    Calls Tryz.prog 46 #[rowV M.tid r] X fun e W' => e = .returned (.tuple #[zeroV, .bool false, .bool true]) ∧ Below X.heap.size X W'))
  have HH := Lib.hid h
  have HB := Lib.hid (below_alloc W zeroO)
  have HN := Lib.hid (World.alloc_heap_new W zeroO)
  obtain ⟨tid, htid⟩ : ∃ t, M.tid = t := ⟨_, rfl⟩
  rw [htid] at HA ⊢
  clear h hk htid
  go_enter Tryz.func70, Tryz.ntmps70
  go_wp2_with fail
  refine (HA.out _ HB.out).mono ?_
  rintro en w1 ⟨rfl, hb⟩
  have HB1 := Lib.hid (HB.out.trans (hb.mono HB.out.size))
  have HN1 := Lib.hid ((hb.block _ (heap_at_lt HN.out)).trans HN.out)
  clear hb
  have HB2 := Lib.hid (HB1.out.trans ((below_alloc w1 noO).mono HB1.out.size))
  have HN2 := Lib.hid (((below_alloc w1 noO).block _ (heap_at_lt HN1.out)).trans HN1.out)
  obtain ⟨⟨m0, m1, m2, m3, m4, m5, m6, m7, m8⟩, z0, z1, z2, z3, z4, z5, z6, z7, z8⟩ := nine_at HN2.out
  go_wp2_with fail
  refine next_end (load_nine (set9 HN2.out _ _ _ _ _ _ _ _ _)) rfl rfl ⟨f, rfl, ?_, ?_⟩
  · exact HH.out.below (below9 HB2.out (Nat.le_refl _) _ _ _ _ _ _ _ _ _)
  · exact Step.of_below (below9 HB2.out (Nat.le_refl _) _ _ _ _ _ _ _ _ _)

set_option maxRecDepth 100000 in
set_option maxHeartbeats 4000000 in
theorem mnext_wait (h : PlM M W B p r S n f) {x : ActD} (hk : M.next S.s = some x) (hx : x.fits) (hr : readyA S.D x = false) :
    Calls Tryz.prog 70 #[.pointer (some ⟨p, 0, none⟩), rowV M.tid r] W (PmR M B p r S n (.tuple #[zeroS, .bool false]) f W) := by
  have HA := Lib.hid (fun X (hX : Below W.heap.size W X) => (by have := plm_ask (h.below hX); rw [hk] at this; exact this :
    Calls Tryz.prog 46 #[rowV M.tid r] X fun e W' => e = .returned (.tuple #[actOf x, .bool true, .bool true]) ∧ Below X.heap.size X W'))
  have HR := Lib.hid (fun X (hX : Below W.heap.size W X) => (by have := plm_ready (h.below hX) x hx; rw [hr] at this; exact this :
    Calls Tryz.prog 84 #[.pointer (some ⟨p, 0, none⟩), actOf x] X (PmR M B p r S n (.bool false) f X)))
  have HB := Lib.hid (below_alloc W zeroO)
  have HK := Lib.hid ((Keeps.nil (X := W) (f := f)).add h.lt zeroO)
  have HLt := Lib.hid h.lt
  obtain ⟨tid, htid⟩ : ∃ t, M.tid = t := ⟨_, rfl⟩
  rw [htid] at HA ⊢
  clear h hk hx hr htid
  go_enter Tryz.func70, Tryz.ntmps70
  go_wp2_with fail
  refine (HA.out _ HB.out).mono ?_
  rintro en w1 ⟨rfl, hb⟩
  have HB1 := Lib.hid (HB.out.trans (hb.mono HB.out.size))
  have HK1 := Lib.hid ((HK.out.below hb).add (fun k hk => Nat.lt_of_lt_of_le (HLt.out k hk) (HB1.out.size)) (actO x))
  have HB2 := Lib.hid (HB1.out.trans ((below_alloc w1 (actO x)).mono HB1.out.size))
  clear hb
  go_wp2_with fail
  refine (HR.out _ HB2.out).mono ?_
  rintro en w2 ⟨f2, rfl, h2, s2⟩
  have HK2 := Lib.hid (HK1.out.turn s2)
  have H2 := Lib.hid h2
  have S2 := Lib.hid ((Step.of_below HB2.out).trans s2)
  clear h2 s2
  obtain ⟨⟨m0, m1, m2, m3, m4, m5, m6, m7, m8⟩, z0, z1, z2, z3, z4, z5, z6, z7, z8⟩ := nine_at (HK2.out _ (.tail _ (.head _))).1
  go_wp2_with fail
  refine next_end (load_nine (set9 (HK2.out _ (.tail _ (.head _))).1 _ _ _ _ _ _ _ _ _)) rfl rfl ⟨f2, rfl, ?_, ?_⟩
  · exact H2.out.nine (HK2.out _ (.tail _ (.head _))).2 _ _ _ _ _ _ _ _ _
  · exact S2.out.own9 (Nat.le_refl _) _ _ _ _ _ _ _ _ _

set_option maxRecDepth 100000 in
set_option maxHeartbeats 4000000 in
theorem mnext_go (h : PlM M W B p r S (n + 1) f) {x : ActD} (hk : M.next S.s = some x) (hx : x.fits) (hr : readyA S.D x = true) :
    Calls Tryz.prog 70 #[.pointer (some ⟨p, 0, none⟩), rowV M.tid r] W (PmR M B p r ⟨doN S.D x, M.take S.s (doW S.D x) (doT S.D x)⟩ n (.tuple #[stepV 0 ⟨x, doW S.D x, doT S.D x⟩, .bool true]) f W) := by
  have HA := Lib.hid (fun X (hX : Below W.heap.size W X) => (by have := plm_ask (h.below hX); rw [hk] at this; exact this :
    Calls Tryz.prog 46 #[rowV M.tid r] X fun e W' => e = .returned (.tuple #[actOf x, .bool true, .bool true]) ∧ Below X.heap.size X W'))
  have HR := Lib.hid (fun X (hX : Below W.heap.size W X) => (by have := plm_ready (h.below hX) x hx; rw [hr] at this; exact this :
    Calls Tryz.prog 84 #[.pointer (some ⟨p, 0, none⟩), actOf x] X (PmR M B p r S (n + 1) (.bool true) f X)))
  have HD := Lib.hid (fun X g (hX : PlM M X B p r S (n + 1) g) => plm_do hX x hx)
  have hgd : Good (doW S.D x) (doT S.D x) := by
    obtain ⟨fh, fr, h1, h2, h3, rfl, h4⟩ := h
    exact h4.fine.good (by have := h4.blocks; omega) x
  have HG := Lib.hid (fun X g (hX : MidM M X B p r S (doN S.D x) n g) => plm_hand hX (by rw [hk]; rfl) hgd)
  have HB := Lib.hid (below_alloc W zeroO)
  have HK := Lib.hid ((Keeps.nil (X := W) (f := f)).add h.lt zeroO)
  have HLt := Lib.hid h.lt
  have hmix : Tryz.prog.follows .mixedOrders = true := by kernel_rfl
  obtain ⟨w, hw⟩ : ∃ w, doW S.D x = w := ⟨_, rfl⟩
  obtain ⟨t, ht⟩ : ∃ t, doT S.D x = t := ⟨_, rfl⟩
  rw [hw, ht] at HD HG ⊢
  obtain ⟨tid, htid⟩ : ∃ t, M.tid = t := ⟨_, rfl⟩
  rw [htid] at HA HG ⊢
  clear h hk hx hr hw ht hgd htid
  go_enter Tryz.func70, Tryz.ntmps70
  go_wp2_with fail
  refine (HA.out _ HB.out).mono ?_
  rintro en w1 ⟨rfl, hb⟩
  have HB1 := Lib.hid (HB.out.trans (hb.mono HB.out.size))
  have HK1 := Lib.hid ((HK.out.below hb).add (fun k hk => Nat.lt_of_lt_of_le (HLt.out k hk) (HB1.out.size)) (actO x))
  have HB2 := Lib.hid (HB1.out.trans ((below_alloc w1 (actO x)).mono HB1.out.size))
  clear hb
  go_wp2_with fail
  refine (HR.out _ HB2.out).mono ?_
  rintro en w2 ⟨f2, rfl, h2, s2⟩
  have HK2 := Lib.hid (HK1.out.turn s2)
  have H2 := Lib.hid h2
  have S2 := Lib.hid ((Step.of_below HB2.out).trans s2)
  clear h2 s2
  obtain ⟨a0, a1, a2, a3, a4, a5⟩ := six_at (HK2.out _ (.head _)).1
  go_wp2_with fail
  refine (HD.out _ _ H2.out).mono ?_
  rintro en w3 ⟨f3, rfl, h3, s3⟩
  have HK3 := Lib.hid ((HK2.out.turn s3).add h3.lt (gotO w t))
  have H3 := Lib.hid (h3.below (below_alloc w3 (gotO w t)))
  have S3 := Lib.hid ((S2.out.trans s3).trans (Step.of_below (below_alloc w3 (gotO w t))))
  clear h3 s3 a0 a1 a2 a3 a4 a5
  obtain ⟨g0, g1⟩ := two_at (HK3.out _ (.head _)).1
  go_wp2_with fail
  generalize w3.alloc (gotO w t) = w4 at HK3 H3 S3 g0 g1 ⊢
  go_still_tail 4, hmix
  change wpList _ _ _ _ _ w4.drew
  have HK4 := Lib.hid (HK3.out.below (below_drew w4))
  have H4 := Lib.hid (H3.out.below (below_drew w4))
  have S4 := Lib.hid (S3.out.trans (Step.of_below (below_drew w4)))
  clear g0 g1
  go_wp2_with fail
  refine (HG.out _ _ H4.out).mono ?_
  rintro en w5 ⟨f5, rfl, h5, s5⟩
  have HK5 := Lib.hid (HK4.out.turn s5)
  have H5 := Lib.hid h5
  have S5 := Lib.hid (S4.out.trans s5)
  clear h5 s5
  obtain ⟨g0, g1⟩ := two_at (HK5.out _ (.head _)).1
  obtain ⟨a0, a1, a2, a3, a4, a5⟩ := six_at (HK5.out _ (.tail _ (.head _))).1
  obtain ⟨⟨m0, m1, m2, m3, m4, m5, m6, m7, m8⟩, z0, z1, z2, z3, z4, z5, z6, z7, z8⟩ := nine_at (HK5.out _ (.tail _ (.tail _ (.head _)))).1
  go_wp2_with fail
  refine next_end (load_nine (set9 (HK5.out _ (.tail _ (.tail _ (.head _)))).1 _ _ _ _ _ _ _ _ _)) rfl rfl ⟨f5, rfl, ?_, ?_⟩
  · exact H5.out.nine (HK5.out _ (.tail _ (.tail _ (.head _)))).2 _ _ _ _ _ _ _ _ _
  · exact S5.out.own9 (Nat.le_refl _) _ _ _ _ _ _ _ _ _

theorem PlM.fits {x : ActD} (h : PlM M W B p r S n f) (hk : M.next S.s = some x) : x.fits := by
  obtain ⟨fh, fr, h1, h2, h3, rfl, h4⟩ := h
  exact M.fits h2 hk
/-- Next, of a routine. -/
theorem mnext_some (h : PlM M W B p r S (n + 1) f) {x : StepD} (hs : stepM M S = some x) :
    Calls Tryz.prog 70 #[.pointer (some ⟨p, 0, none⟩), rowV M.tid r] W (PmR M B p r (nextM M S) n (.tuple #[stepV 0 x, .bool true]) f W) := by
  obtain ⟨y, hk, rfl, hr⟩ := stepM_some hs
  rw [nextM_some hk]
  exact mnext_go h hk (h.fits hk) hr
theorem mnext_none (h : PlM M W B p r S n f) (hs : stepM M S = none) :
    Calls Tryz.prog 70 #[.pointer (some ⟨p, 0, none⟩), rowV M.tid r] W (PmR M B p r S n (.tuple #[zeroS, .bool false]) f W) := by
  cases hk : M.next S.s with
  | none => exact mnext_done h hk
  | some x =>
    refine mnext_wait h hk (h.fits hk) ?_
    unfold stepM at hs
    rw [hk] at hs
    simp only at hs
    split at hs
    · cases hs
    · rename_i hr; simpa using hr
end

end Go.Proofs.YtpnfbabiibopnaaGreat
