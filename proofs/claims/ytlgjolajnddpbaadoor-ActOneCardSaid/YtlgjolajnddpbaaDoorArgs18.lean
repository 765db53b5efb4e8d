/-
  The arguments of act's statements: acts, slices of acts, slices of bytes; the tables that start-up lays.
-/
import Derived.Test.YtlgjolajnddpbaaDoorOpen
import Derived.Test.YtlgjolajnddpbaaDoorActst
import Derived.Test.YtlgjolajnddpbaaDoorTabs
import Derived.Deep.Grids
import Derived.SliceStrings
import Derived.ChangeSlices
import Derived.ProofKit
import Derived.LaidMore
import Derived.Stop.Joined
namespace Go.Proofs.YtlgjolajnddpbaaDoor
open Go.ChangeShapes Go.WideShapes Go.ChangeAt Go.RowKit Go.Deep
open Go.ChangeMaps (open_string shut_string)

theorem eqAct : Tryd.prog.underlying 34 = some (.struct (Tryd.prog.fieldsOf 34)) := by kernel_rfl
theorem bounds_u64 {n : Int} (h : (Lit.int .u64 n).wf = true) : 0 ≤ n ∧ n < 18446744073709551616 := by
  simp [Lit.wf, IntKind.min, IntKind.max, IntKind.signed, IntKind.bits] at h
  omega

def Sa (W : World) (p : Option Addr) (L : List ActD) : Prop :=
  ∀ j (h : j < L.length), ∃ b o, p = some ⟨b, o, none⟩ ∧ W.cell? ⟨b, o + j * 6, none⟩ = some (.int .i64 L[j].kind) ∧ W.cell? ⟨b, o + j * 6 + 1, none⟩ = some (.int .u64 (L[j].block : Int)) ∧ W.cell? ⟨b, o + j * 6 + 2, none⟩ = some (.int .i64 L[j].cell) ∧ W.cell? ⟨b, o + j * 6 + 3, none⟩ = some (.int .u64 L[j].old) ∧ W.cell? ⟨b, o + j * 6 + 4, none⟩ = some (.int .u64 L[j].new) ∧ W.cell? ⟨b, o + j * 6 + 5, none⟩ = some (.string L[j].text)
theorem Sa.nil (W : World) (p : Option Addr) : Sa W p [] := fun _ h => absurd h (Nat.not_lt_zero _)
theorem Sa.grow {W W' : World} {p : Option Addr} {L : List ActD} (h : Sa W p L) (hb : Below W.heap.size W W') : Sa W' p L := fun j hj => by
  obtain ⟨b, o, rfl, c1, c2, c3, c4, c5, c6⟩ := h j hj
  exact ⟨b, o, rfl, (hb.cell (p := ⟨b, _, none⟩) (cell_lt c1)).trans c1, (hb.cell (p := ⟨b, _, none⟩) (cell_lt c2)).trans c2, (hb.cell (p := ⟨b, _, none⟩) (cell_lt c3)).trans c3, (hb.cell (p := ⟨b, _, none⟩) (cell_lt c4)).trans c4, (hb.cell (p := ⟨b, _, none⟩) (cell_lt c5)).trans c5, (hb.cell (p := ⟨b, _, none⟩) (cell_lt c6)).trans c6⟩

/-- At p, a slice's address, these bytes lie. -/
def Su (W : World) (p : Option Addr) (L : List Nat) : Prop := ∀ j (h : j < L.length), ∃ b o, p = some ⟨b, o, none⟩ ∧ W.cell? ⟨b, o + j, none⟩ = some (.int .u8 ((L[j] : Nat) : Int))
theorem Su.grow {W W' : World} {p : Option Addr} {L : List Nat} (h : Su W p L) (hb : Below W.heap.size W W') : Su W' p L := fun j hj => by
  obtain ⟨b, o, rfl, c⟩ := h j hj
  exact ⟨b, o, rfl, (hb.cell (p := ⟨b, _, none⟩) (cell_lt c)).trans c⟩
/-- An address at which a cell lies is plain. -/
theorem plain_add {W : World} {a : Addr} {v0 : Value} (h0 : W.cell? (a.add 0) = some v0) {i : Nat} {v : Value} (h : W.cell? (a.add i) = some v) : a = ⟨a.block, a.off, none⟩ ∧ W.cell? ⟨a.block, a.off + i, none⟩ = some v := by
  rw [add_zero'] at h0
  have ha := (addr_plain h0).1
  refine ⟨ha, ?_⟩
  rw [ha, Addr.add_lit] at h
  exact h

theorem bytes_open {H : Type} {enc : TypeId × Value → H} {W : World} {fuel : Nat} {cs : List Value} {x : DataW H × List MemPlace} (hf : DataW.trod enc Tryd.prog W 0 (fun _ => true) true fuel 48 cs = some x) :
    ∃ (pa : Option Addr) (len cap : Nat) (L : List Nat), cs = [.slice pa len cap] ∧ L.length = len ∧ Su W pa L ∧ (∀ z ∈ L, z ≤ 255) ∧ len ≤ maxLen := by
  rcases open_ints Tryd.underlying48 Tryd.underlying5 (by kernel_rfl) hf with ⟨hcs, _⟩ | ⟨a, len, cap, zs, hcs, hb, hl, hm, hzl, hx, hi, hw⟩
  · exact ⟨none, 0, 0, [], hcs, rfl, fun _ h => absurd h (Nat.not_lt_zero _), (fun _ h => by cases h), Nat.zero_le _⟩
  · have hzc : zs.length = cap := by simpa using hzl
    refine ⟨some a, len, cap, (zs.take len).map Int.toNat, hcs, by simp; omega, fun j hj => ?_, fun z hz => ?_, by omega⟩
    · have hj' : j < len ∧ j < zs.length := by simpa [Nat.lt_min] using hj
      obtain ⟨h1, h2⟩ := plain_add (hi 0 (by omega)) (hi j (by omega))
      refine ⟨a.block, a.off, by rw [← h1], ?_⟩
      have hwj := bounds_u8 (hw zs[j] (List.getElem_mem _))
      rw [h2]
      simp [List.getD, List.getElem?_eq_getElem hj'.2]
      omega
    · obtain ⟨q, hq, rfl⟩ := List.mem_map.1 hz
      have := bounds_u8 (hw q (List.mem_of_mem_take hq))
      omega

/-- Calls. -/
theorem acts_open {H : Type} {enc : TypeId × Value → H} {W : World} {fuel : Nat} {cs : List Value} {x : DataW H × List MemPlace} (hf : DataW.trod enc Tryd.prog W 0 (fun _ => true) true fuel 22 cs = some x)
    (hz : ∀ n ∈ x.1.weights Tryd.prog 22, n ≤ reachBytes) : ∃ (pa : Option Addr) (len cap : Nat) (L : List ActD), cs = [.slice pa len cap] ∧ L.length = len ∧ Sa W pa L ∧ (∀ g ∈ L, g.fits) ∧ len ≤ maxLen := by
  have h6 : (Tryd.prog.fieldsOf 34).size = 6 := by kernel_rfl
  rcases open_slice_fields (fs := Tryd.prog.fieldsOf 34) Tryd.underlying22 eqAct (by kernel_rfl) (by kernel_rfl) hf with ⟨hcs, _⟩ | ⟨a, len, cap, m, D, Pl, hcs, hb, hl, hm, hmm, hx, hi⟩
  · exact ⟨none, 0, 0, [], hcs, rfl, Sa.nil _ _, (fun _ h => by cases h), Nat.zero_le _⟩
  · have hmm' : m = cap := by simpa using hmm
    subst hmm'
    rw [h6] at hi
    have hd : x.1 = .slice ((List.range len).map D) ((List.range (m - len)).map fun j => D (len + j)) := by rw [hx]
    have el : ∀ i, i < len → ∃ o : ActD, W.cell? (a.add (i * 6)) = some (.int .i64 o.kind) ∧ W.cell? (a.add (i * 6 + 1)) = some (.int .u64 (o.block : Int)) ∧ W.cell? (a.add (i * 6 + 2)) = some (.int .i64 o.cell) ∧ W.cell? (a.add (i * 6 + 3)) = some (.int .u64 o.old) ∧ W.cell? (a.add (i * 6 + 4)) = some (.int .u64 o.new) ∧ W.cell? (a.add (i * 6 + 5)) = some (.string o.text) ∧ o.fits := by
      intro i hil
      obtain ⟨ys, n, hD, hPl, hyl, hf⟩ := hi i (by omega)
      have hmem : D i ∈ (List.range len).map D := List.mem_map.2 ⟨i, List.mem_range.2 hil, rfl⟩
      have hw : ∀ n ∈ (D i).weights Tryd.prog 34, n ≤ reachBytes := fun n hn => hz n (by
        rw [hd]
        simp only [DataW.weights, Tryd.underlying22, List.mem_cons, List.mem_append]
        exact Or.inr (Or.inl (weightsAll_mem hmem _ hn)))
      rw [hD] at hw
      have hf0 : (Tryd.prog.fieldsOf 34)[0]? = some { name := "Kind", type := 3, offset := 0, embedded := false, tag := "", pkgPath := "", byteOffset := 0 } := by kernel_rfl
      obtain ⟨v0, y0, hc0, hy0, ht0⟩ := hf 0 _ hf0
      obtain ⟨s0, hs0, hsy0, hk0⟩ := DataW.trod_int Tryd.underlying3 ht0
      simp only [List.cons.injEq, and_true] at hs0
      subst hs0
      have hf1 : (Tryd.prog.fieldsOf 34)[1]? = some { name := "Block", type := 32, offset := 1, embedded := false, tag := "", pkgPath := "", byteOffset := 8 } := by kernel_rfl
      obtain ⟨v1, y1, hc1, hy1, ht1⟩ := hf 1 _ hf1
      obtain ⟨s1, hs1, hsy1, hk1⟩ := DataW.trod_int Tryd.underlying32 ht1
      simp only [List.cons.injEq, and_true] at hs1
      subst hs1
      have hf2 : (Tryd.prog.fieldsOf 34)[2]? = some { name := "Cell", type := 3, offset := 2, embedded := false, tag := "", pkgPath := "", byteOffset := 16 } := by kernel_rfl
      obtain ⟨v2, y2, hc2, hy2, ht2⟩ := hf 2 _ hf2
      obtain ⟨s2, hs2, hsy2, hk2⟩ := DataW.trod_int Tryd.underlying3 ht2
      simp only [List.cons.injEq, and_true] at hs2
      subst hs2
      have hf3 : (Tryd.prog.fieldsOf 34)[3]? = some { name := "Old", type := 32, offset := 3, embedded := false, tag := "", pkgPath := "", byteOffset := 24 } := by kernel_rfl
      obtain ⟨v3, y3, hc3, hy3, ht3⟩ := hf 3 _ hf3
      obtain ⟨s3, hs3, hsy3, hk3⟩ := DataW.trod_int Tryd.underlying32 ht3
      simp only [List.cons.injEq, and_true] at hs3
      subst hs3
      have hf4 : (Tryd.prog.fieldsOf 34)[4]? = some { name := "New", type := 32, offset := 4, embedded := false, tag := "", pkgPath := "", byteOffset := 32 } := by kernel_rfl
      obtain ⟨v4, y4, hc4, hy4, ht4⟩ := hf 4 _ hf4
      obtain ⟨s4, hs4, hsy4, hk4⟩ := DataW.trod_int Tryd.underlying32 ht4
      simp only [List.cons.injEq, and_true] at hs4
      subst hs4
      have hf5 : (Tryd.prog.fieldsOf 34)[5]? = some { name := "Text", type := 9, offset := 5, embedded := false, tag := "", pkgPath := "", byteOffset := 40 } := by kernel_rfl
      obtain ⟨v5, y5, hc5, hy5, ht5⟩ := hf 5 _ hf5
      obtain ⟨s5, hs5, hsy5, _⟩ := DataW.trod_string Tryd.underlying9 ht5
      have hr5 : s5.size ≤ 281474976710656 := text_reach (H := H) (P := Tryd.prog) (t := 9) fun n hn => hw n (weight_struct eqAct hf5 (by rw [List.getElem?_map, hy5, hsy5]; rfl) n hn)
      simp only [List.cons.injEq, and_true] at hs5
      subst hs5
      have hb1 := bounds_u64 hk1
      refine ⟨⟨s0, s1.toNat, s2, s3, s4, s5⟩, by simpa using hc0, ?_, hc2, hc3, hc4, hc5, bounds_i64 hk0, by show s1.toNat < _; omega, bounds_i64 hk2, bounds_u64 hk3, bounds_u64 hk4, hr5⟩
      show W.cell? (a.add (i * 6 + 1)) = some (.int .u64 ((s1.toNat : Nat) : Int))
      rw [Int.toNat_of_nonneg hb1.1]
      exact hc1
    have hcho : ∀ i, ∃ o : ActD, i < len → (W.cell? (a.add (i * 6)) = some (.int .i64 o.kind) ∧ W.cell? (a.add (i * 6 + 1)) = some (.int .u64 (o.block : Int)) ∧ W.cell? (a.add (i * 6 + 2)) = some (.int .i64 o.cell) ∧ W.cell? (a.add (i * 6 + 3)) = some (.int .u64 o.old) ∧ W.cell? (a.add (i * 6 + 4)) = some (.int .u64 o.new) ∧ W.cell? (a.add (i * 6 + 5)) = some (.string o.text) ∧ o.fits) := fun i => by
      by_cases hil : i < len
      · obtain ⟨o, ho⟩ := el i hil
        exact ⟨o, fun _ => ho⟩
      · exact ⟨⟨0, 0, 0, 0, 0, ⟨#[]⟩⟩, fun h => absurd h hil⟩
    obtain ⟨O, hO⟩ := Classical.axiomOfChoice hcho
    refine ⟨some a, len, m, (List.range len).map O, hcs, by simp, fun i hi' => ?_, fun q hq => ?_, by omega⟩
    · have hil : i < len := by simpa using hi'
      obtain ⟨c0, c1, c2, c3, c4, c5, _⟩ := hO i hil
      have h00 := (hO 0 (by omega)).1
      rw [Nat.zero_mul, add_zero'] at h00
      have hab := (addr_plain h00).1
      rw [hab, Addr.add_lit] at c0 c1 c2 c3 c4 c5
      refine ⟨a.block, a.off, by rw [← hab], ?_, ?_, ?_, ?_, ?_, ?_⟩
      · simpa using c0
      · rw [Nat.add_assoc]; simpa using c1
      · rw [Nat.add_assoc]; simpa using c2
      · rw [Nat.add_assoc]; simpa using c3
      · rw [Nat.add_assoc]; simpa using c4
      · rw [Nat.add_assoc]; simpa using c5
    · obtain ⟨i, hi', rfl⟩ := List.mem_map.1 hq
      exact (hO i (List.mem_range.1 hi')).2.2.2.2.2.2

set_option maxRecDepth 100000 in
/-- An argument that is an act. -/
theorem act_open {H : Type} {enc : TypeId × Value → H} {W : World} {base : Nat} {v : Value} {d : DataW H} {ps : List MemPlace} (hok : Value.okWide Tryd.prog W .any base 34 v) (h : DataW.Trod enc Tryd.prog W 0 (fun _ => true) true 34 v d ps)
    (hz : ∀ n ∈ d.weights Tryd.prog 34, n ≤ reachBytes) : ∃ x : ActD, v = actV x.kind x.block x.cell x.old x.new x.text ∧ x.fits := by
  obtain ⟨fuel, hf⟩ := h
  obtain ⟨cs, rfl, _⟩ := okWide_struct eqAct hok
  obtain ⟨xs, n, _, hx, hcl, hxl, hfs⟩ := DataW.trod_struct eqAct hf
  have h6 : Tryd.prog.cellsOf 34 = 6 := by kernel_rfl
  have hl : xs.length = 6 := hxl
  rw [h6] at hcl
  have hd : d = .agg (xs.map (·.1)) := by simp only [Prod.mk.injEq] at hx; exact hx.1
  rw [hd] at hz
  have hf0 : (Tryd.prog.fieldsOf 34)[0]? = some { name := "Kind", type := 3, offset := 0, embedded := false, tag := "", pkgPath := "", byteOffset := 0 } := by kernel_rfl
  have hf1 : (Tryd.prog.fieldsOf 34)[1]? = some { name := "Block", type := 32, offset := 1, embedded := false, tag := "", pkgPath := "", byteOffset := 8 } := by kernel_rfl
  have hf2 : (Tryd.prog.fieldsOf 34)[2]? = some { name := "Cell", type := 3, offset := 2, embedded := false, tag := "", pkgPath := "", byteOffset := 16 } := by kernel_rfl
  have hf3 : (Tryd.prog.fieldsOf 34)[3]? = some { name := "Old", type := 32, offset := 3, embedded := false, tag := "", pkgPath := "", byteOffset := 24 } := by kernel_rfl
  have hf4 : (Tryd.prog.fieldsOf 34)[4]? = some { name := "New", type := 32, offset := 4, embedded := false, tag := "", pkgPath := "", byteOffset := 32 } := by kernel_rfl
  have hf5 : (Tryd.prog.fieldsOf 34)[5]? = some { name := "Text", type := 9, offset := 5, embedded := false, tag := "", pkgPath := "", byteOffset := 40 } := by kernel_rfl
  have g0 := hfs 0 _ hf0
  have g1 := hfs 1 _ hf1
  have g2 := hfs 2 _ hf2
  have g3 := hfs 3 _ hf3
  have g4 := hfs 4 _ hf4
  have g5 := hfs 5 _ hf5
  have k0 : Tryd.prog.cellsOf 3 = 1 := by kernel_rfl
  have k1 : Tryd.prog.cellsOf 32 = 1 := by kernel_rfl
  have k2 : Tryd.prog.cellsOf 9 = 1 := by kernel_rfl
  obtain ⟨y0, y1, y2, y3, y4, y5, rfl⟩ : ∃ y0 y1 y2 y3 y4 y5, xs = [y0, y1, y2, y3, y4, y5] := match xs, hl with | [a, b, c, d, e, f], _ => ⟨a, b, c, d, e, f, rfl⟩
  obtain ⟨cs⟩ := cs
  simp only [Value.cells] at g0 g1 g2 g3 g4 g5 hcl
  match cs, hcl with
  | [a, b, c, d, e, f], _ =>
    simp only [k0, k1, k2, List.getElem?_cons_zero, List.getElem?_cons_succ, List.drop_zero, List.drop_succ_cons, List.take_succ_cons, List.take_zero] at g0 g1 g2 g3 g4 g5
    obtain ⟨s0, hs0, _, w0⟩ := DataW.trod_int Tryd.underlying3 g0
    obtain ⟨s1, hs1, _, w1⟩ := DataW.trod_int Tryd.underlying32 g1
    obtain ⟨s2, hs2, _, w2⟩ := DataW.trod_int Tryd.underlying3 g2
    obtain ⟨s3, hs3, _, w3⟩ := DataW.trod_int Tryd.underlying32 g3
    obtain ⟨s4, hs4, _, w4⟩ := DataW.trod_int Tryd.underlying32 g4
    obtain ⟨s5, hs5, hsy5, _⟩ := DataW.trod_string Tryd.underlying9 g5
    simp only [List.cons.injEq, and_true] at hs0 hs1 hs2 hs3 hs4 hs5
    subst hs0 hs1 hs2 hs3 hs4 hs5
    have hr5 : s5.size ≤ 281474976710656 := text_reach (H := H) (P := Tryd.prog) (t := 9) fun n hn => hz n (weight_struct eqAct hf5 (by rw [List.getElem?_map]; simp only [List.getElem?_cons_succ, List.getElem?_cons_zero, Option.map_some]; rw [hsy5]) n hn)
    have hb1 := bounds_u64 w1
    refine ⟨⟨s0, s1.toNat, s2, s3, s4, s5⟩, ?_, bounds_i64 w0, by show s1.toNat < _; omega, bounds_i64 w2, bounds_u64 w3, bounds_u64 w4, hr5⟩
    show _ = actV s0 ((s1.toNat : Nat) : Int) s2 s3 s4 s5
    rw [Int.toNat_of_nonneg hb1.1]

/-! ### the tables that start-up lays -/
set_option maxRecDepth 100000 in
theorem door_met (os : Os) (args : Array Value) : laidMetH Tryd.prog Rows.actTextsRow.laid ((World.doorLaid Tryd.prog 29 os).forCall (fun _ _ => 0) ⟨#[], args, []⟩).memory :=
  laidMetH_of_parts3 (fuel := 8) (laidMet_of_run' 8 (by kernel_rfl) (by kernel_rfl)) (by kernel_rfl) (by kernel_rfl)
/-- An array of texts that reads as these has these. -/
theorem cells_of_texts {H : Type} {enc : TypeId × Value → H} {P : Program} {w : World} {base : Nat} {sp : Nat → Bool} {held : Bool} {fuel : Nat} {t e : TypeId} {n : Nat} {cs : List Value} {zs : List (List UInt8)} {p : List MemPlace}
    (ht : P.underlying t = some (.array n e)) (he : P.underlying e = some .string) (hce : P.cellsOf e = 1) (hct : P.cellsOf t = n)
    (h : DataW.trod enc P w base sp held fuel t cs = some (.agg (zs.map fun z => .lit (.string z)), p)) : ∀ i, i < n → ∃ z s, zs[i]? = some z ∧ s.data.toList = z ∧ cs[i]? = some (.string s) := by
  cases fuel with
  | zero => simp [DataW.trod] at h
  | succ fuel =>
    simp only [DataW.trod, ht, hce, hct, Nat.mul_one] at h
    split at h
    · rename_i hl
      obtain ⟨xs, hm, hx⟩ := Option.map_eq_some_iff.1 h
      have hxs : xs.map (·.1) = zs.map fun z => (DataW.lit (.string z) : DataW H) := by
        have := congrArg Prod.fst hx
        simpa using this
      intro i hi
      obtain ⟨b, hb, hf⟩ := Lib.mapM_at hm i i (by simp [hi])
      obtain ⟨s, hc, rfl, _⟩ := DataW.trod_string he hf
      have h1 : cs[i]? = some (.string s) := by
        have := congrArg (·[0]?) hc
        simpa [List.getElem?_take, List.getElem?_drop] using this
      have h2 : (xs.map (·.1))[i]? = some (DataW.lit (.string s.data.toList) : DataW H) := by simp [hb]
      rw [hxs] at h2
      simp only [List.getElem?_map, Option.map_eq_some_iff, DataW.lit.injEq, Lit.string.injEq] at h2
      obtain ⟨z', hz', e⟩ := h2
      exact ⟨z', s, hz', e.symm, h1⟩
    · cases h
def namesName : String := Rows.actDoesRow.named.getD 0 default
theorem names_global : Tryd.prog.globalNamed namesName = some 0 := by kernel_rfl
def nameBytes : List (List UInt8) := (List.range 11).map fun i => (nameA i).data.toList
theorem name_bytes {i : Nat} {z : List UInt8} (hi : i < 11) (hz : nameBytes[i]? = some z) : (nameA i).data.toList = z := by
  unfold nameBytes at hz
  rw [List.getElem?_map, List.getElem?_range hi] at hz
  simpa using hz
theorem ba_eq {a b : ByteArray} (h : a.data.toList = b.data.toList) : a = b := by
  obtain ⟨⟨a⟩⟩ := a
  obtain ⟨⟨b⟩⟩ := b
  simp only at h
  rw [h]
theorem tabs_of_laid {W : World} (h : laidMetH Tryd.prog Rows.actTextsRow.laid W) : Tabs W := by
  rw [MakeChecks.laidMetH_plain _ _ _ (by kernel_rfl)] at h
  obtain ⟨ps, ⟨_, _, _, _, _, _, _, _, _, _, ⟨_, _, _, _, _, _, _, _, _, _, ⟨g2, t2, cs2, f2, p2, q2, hg2, ht2, hv2, hd2, ⟨g3, t3, cs3, f3, p3, q3, hg3, ht3, hv3, hd3, _, _⟩, _⟩, _⟩, _⟩, _⟩ := h
  obtain rfl := Option.some.inj ((show Tryd.prog.globalNamed powName = some 1 from pow_global).symm.trans hg2)
  obtain rfl := Option.some.inj (names_global.symm.trans hg3)
  obtain rfl := Option.some.inj ((show (Tryd.prog.globals[1]?).map (·.type) = some 141 by kernel_rfl).symm.trans ht2)
  obtain rfl := Option.some.inj ((show (Tryd.prog.globals[0]?).map (·.type) = some 80 by kernel_rfl).symm.trans ht3)
  refine ⟨?_, fun i hi => ?_⟩
  · have e := Lib.cells_of_tab (k := .u64) (zs := Lib.pow10Tab) Tryd.underlying141 Tryd.underlying32 (by kernel_rfl) (by kernel_rfl) hd2
    unfold Lib.TabIs
    rw [show W.var? Tryd.prog powName = some cs2 from hv2, ← e]
  · obtain ⟨z, s, hz, hs, hc⟩ := cells_of_texts (zs := nameBytes) Tryd.underlying80 Tryd.underlying9 (by kernel_rfl) (by kernel_rfl) hd3 i hi
    have hv := World.var?_cell names_global (show W.var? Tryd.prog namesName = some cs3 from hv3) i
    rw [hv]
    have h1 : cs3[i]? = some (.string s) := by simpa using hc
    rw [h1, ba_eq (hs.trans (name_bytes hi hz).symm)]

end Go.Proofs.YtlgjolajnddpbaaDoor
