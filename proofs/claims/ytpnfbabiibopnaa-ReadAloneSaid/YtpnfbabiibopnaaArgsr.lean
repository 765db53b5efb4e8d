/-
  The arguments of routines' statements: a config, a text, answers, texts, a pair of words, a change.
-/
import Derived.Test.YtpnfbabiibopnaaOpen
import Derived.Test.YtpnfbabiibopnaaTape
import Derived.Test.YtpnfbabiibopnaaQ06
import Derived.Deep.Grids
import Derived.SliceStrings
import Derived.ChangeSlices
namespace Go.Proofs.Ytpnfbabiibopnaa
open Go.ChangeShapes Go.WideShapes Go.ChangeAt Go.RowKit Go.Deep
open Go.ChangeMaps (open_string shut_string)

theorem bounds_u64 {n : Int} (h : (Lit.int .u64 n).wf = true) : 0 ≤ n ∧ n < 18446744073709551616 := by
  simp [Lit.wf, IntKind.min, IntKind.max, IntKind.signed, IntKind.bits] at h
  omega

theorem eqGot : Try.prog.underlying 63 = some (.struct (Try.prog.fieldsOf 63)) := by kernel_rfl

theorem eqCfg : Try.prog.underlying 24 = some (.struct (Try.prog.fieldsOf 24)) := by kernel_rfl

set_option maxRecDepth 100000 in
/-- An argument that is a config. -/
theorem config_open {H : Type} {enc : TypeId × Value → H} {W : World} {base : Nat} {v : Value} {d : DataW H} {ps : List MemPlace} (hok : Value.okWide Try.prog W .any base 24 v) (h : DataW.Trod enc Try.prog W 0 (fun _ => true) true 24 v d ps) :
    ∃ a p s q v' x : Int, v = cfV a p s q v' x ∧ I64 a ∧ I64 p ∧ I64 s ∧ I64 q ∧ I64 v' := by
  obtain ⟨fuel, hf⟩ := h
  obtain ⟨cs, rfl, _⟩ := okWide_struct eqCfg hok
  obtain ⟨xs, n, _, hx, hcl, hxl, hfs⟩ := DataW.trod_struct eqCfg hf
  have h6 : Try.prog.cellsOf 24 = 6 := by kernel_rfl
  have hl : xs.length = 6 := hxl
  rw [h6] at hcl
  have hf0 : (Try.prog.fieldsOf 24)[0]? = some { name := "Cap", type := 3, offset := 0, embedded := false, tag := "", pkgPath := "", byteOffset := 0 } := by kernel_rfl
  have hf1 : (Try.prog.fieldsOf 24)[1]? = some { name := "Pins", type := 3, offset := 1, embedded := false, tag := "", pkgPath := "", byteOffset := 8 } := by kernel_rfl
  have hf2 : (Try.prog.fieldsOf 24)[2]? = some { name := "Shelves", type := 3, offset := 2, embedded := false, tag := "", pkgPath := "", byteOffset := 16 } := by kernel_rfl
  have hf3 : (Try.prog.fieldsOf 24)[3]? = some { name := "Queue", type := 3, offset := 3, embedded := false, tag := "", pkgPath := "", byteOffset := 24 } := by kernel_rfl
  have hf4 : (Try.prog.fieldsOf 24)[4]? = some { name := "Watchers", type := 3, offset := 4, embedded := false, tag := "", pkgPath := "", byteOffset := 32 } := by kernel_rfl
  have hf5 : (Try.prog.fieldsOf 24)[5]? = some { name := "Seed", type := 22, offset := 5, embedded := false, tag := "", pkgPath := "", byteOffset := 40 } := by kernel_rfl
  have g0 := hfs 0 _ hf0
  have g1 := hfs 1 _ hf1
  have g2 := hfs 2 _ hf2
  have g3 := hfs 3 _ hf3
  have g4 := hfs 4 _ hf4
  have g5 := hfs 5 _ hf5
  have k0 : Try.prog.cellsOf 3 = 1 := by kernel_rfl
  have k1 : Try.prog.cellsOf 22 = 1 := by kernel_rfl
  obtain ⟨y0, y1, y2, y3, y4, y5, rfl⟩ : ∃ y0 y1 y2 y3 y4 y5, xs = [y0, y1, y2, y3, y4, y5] := match xs, hl with | [a, b, c, d, e, f], _ => ⟨a, b, c, d, e, f, rfl⟩
  obtain ⟨cs⟩ := cs
  simp only [Value.cells] at g0 g1 g2 g3 g4 g5 hcl
  match cs, hcl with
  | [a, b, c, d, e, f], _ =>
    simp only [k0, k1, List.getElem?_cons_zero, List.getElem?_cons_succ, List.drop_zero, List.drop_succ_cons, List.take_succ_cons, List.take_zero] at g0 g1 g2 g3 g4 g5
    obtain ⟨s0, hs0, _, w0⟩ := DataW.trod_int Try.underlying3 g0
    obtain ⟨s1, hs1, _, w1⟩ := DataW.trod_int Try.underlying3 g1
    obtain ⟨s2, hs2, _, w2⟩ := DataW.trod_int Try.underlying3 g2
    obtain ⟨s3, hs3, _, w3⟩ := DataW.trod_int Try.underlying3 g3
    obtain ⟨s4, hs4, _, w4⟩ := DataW.trod_int Try.underlying3 g4
    obtain ⟨s5, hs5, _, w5⟩ := DataW.trod_int Try.underlying22 g5
    simp only [List.cons.injEq, and_true] at hs0 hs1 hs2 hs3 hs4 hs5
    subst hs0 hs1 hs2 hs3 hs4 hs5
    exact ⟨s0, s1, s2, s3, s4, s5, rfl, bounds_i64 w0, bounds_i64 w1, bounds_i64 w2, bounds_i64 w3, bounds_i64 w4⟩

/-- At p these texts lie. -/
def St (W : World) (p : Option Addr) (L : List ByteArray) : Prop := ∀ j (h : j < L.length), ∃ b o, p = some ⟨b, o, none⟩ ∧ W.cell? ⟨b, o + j, none⟩ = some (.string L[j])

theorem St.grow {W W' : World} {p : Option Addr} {L : List ByteArray} (h : St W p L) (hb : Below W.heap.size W W') : St W' p L := fun j hj => by
  obtain ⟨b, o, rfl, c1⟩ := h j hj
  exact ⟨b, o, rfl, (hb.cell (p := ⟨b, _, none⟩) (cell_lt c1)).trans c1⟩

theorem St.stays {W W' : World} {p : Option Addr} {L : List ByteArray} (h : St W p L) (hs : ∀ a, p = some a → W'.heap[a.block]? = W.heap[a.block]?) : St W' p L := fun j hj => by
  obtain ⟨b, o, rfl, c1⟩ := h j hj
  exact ⟨b, o, rfl, (World.cell?_of_block (a := ⟨b, o + j, none⟩) (hs ⟨b, o, none⟩ rfl)).trans c1⟩

theorem plain_add {W : World} {a : Addr} {v0 : Value} (h0 : W.cell? (a.add 0) = some v0) {i : Nat} {v : Value} (h : W.cell? (a.add i) = some v) : a = ⟨a.block, a.off, none⟩ ∧ W.cell? ⟨a.block, a.off + i, none⟩ = some v := by
  rw [add_zero'] at h0
  have ha := (addr_plain h0).1
  refine ⟨ha, ?_⟩
  rw [ha, Addr.add_lit] at h
  exact h

theorem eqChange : Try.prog.underlying 32 = some (.struct (Try.prog.fieldsOf 32)) := by kernel_rfl

theorem cells_word : Try.prog.cellsOf 22 = 1 := by kernel_rfl

theorem list_two {α : Type} (l : List α) (h : (⟨l⟩ : Array α).size = 2) : ∃ a b, l = [a, b] := by
  match l, h with
  | [a, b], _ => exact ⟨a, b, rfl⟩

set_option maxRecDepth 100000 in
/-- A change's cells. -/
theorem change_cells {H : Type} {enc : TypeId × Value → H} {W : World} {fuel : Nat} {cs : List Value} {x : DataW H × List MemPlace} (h : DataW.trod enc Try.prog W 0 (fun _ => true) true fuel 32 cs = some x)
    (hz : ∀ n ∈ x.1.weights Try.prog 32, n ≤ reachBytes) : ∃ (key : ByteArray) (has : Bool) (val : ByteArray), cs = [.string key, .bool has, .string val] ∧ key.size ≤ 281474976710656 ∧ val.size ≤ 281474976710656 := by
  obtain ⟨xs, n, _, hx, hcl, hxl, hfs⟩ := DataW.trod_struct eqChange h
  have h2 : Try.prog.cellsOf 32 = 3 := by kernel_rfl
  have hl : xs.length = 3 := hxl
  rw [h2] at hcl
  have hd : x.1 = .agg (xs.map (·.1)) := by rw [hx]
  rw [hd] at hz
  have hf0 : (Try.prog.fieldsOf 32)[0]? = some { name := "Key", type := 9, offset := 0, embedded := false, tag := "", pkgPath := "", byteOffset := 0 } := by kernel_rfl
  have hf1 : (Try.prog.fieldsOf 32)[1]? = some { name := "Has", type := 4, offset := 1, embedded := false, tag := "", pkgPath := "", byteOffset := 16 } := by kernel_rfl
  have hf2 : (Try.prog.fieldsOf 32)[2]? = some { name := "Value", type := 9, offset := 2, embedded := false, tag := "", pkgPath := "", byteOffset := 24 } := by kernel_rfl
  have g0 := hfs 0 _ hf0
  have g1 := hfs 1 _ hf1
  have g2 := hfs 2 _ hf2
  have k1 : Try.prog.cellsOf 9 = 1 := by kernel_rfl
  have k2 : Try.prog.cellsOf 4 = 1 := by kernel_rfl
  obtain ⟨y0, y1, y2, rfl⟩ : ∃ y0 y1 y2, xs = [y0, y1, y2] := match xs, hl with | [a, b, c], _ => ⟨a, b, c, rfl⟩
  match cs, hcl with
  | [a, b, c], _ =>
    simp only [k1, k2, List.getElem?_cons_zero, List.getElem?_cons_succ, List.drop_zero, List.drop_succ_cons, List.take_succ_cons, List.take_zero] at g0 g1 g2
    obtain ⟨s0, hs0, hsy0, _⟩ := DataW.trod_string Try.underlying9 g0
    obtain ⟨b1, hs1, _⟩ := DataW.trod_bool Try.underlying4 g1
    obtain ⟨s2, hs2, hsy2, _⟩ := DataW.trod_string Try.underlying9 g2
    have hr0 : s0.size ≤ 281474976710656 := text_reach (H := H) (P := Try.prog) (t := 9) fun n hn => hz n (weight_struct eqChange hf0 (by rw [List.getElem?_map, List.getElem?_cons_zero, hsy0]; rfl) n hn)
    have hr2 : s2.size ≤ 281474976710656 := text_reach (H := H) (P := Try.prog) (t := 9) fun n hn => hz n (weight_struct eqChange hf2 (by rw [List.getElem?_map, List.getElem?_cons_succ, List.getElem?_cons_succ, List.getElem?_cons_zero, hsy2]; rfl) n hn)
    simp only [List.cons.injEq, and_true] at hs0 hs1 hs2
    subst hs0 hs1 hs2
    exact ⟨s0, b1, s2, rfl, hr0, hr2⟩

set_option maxRecDepth 100000 in
/-- An argument that is a change. -/
theorem change_open {H : Type} {enc : TypeId × Value → H} {W : World} {base : Nat} {v : Value} {d : DataW H} {ps : List MemPlace} (hok : Value.okWide Try.prog W .any base 32 v) (h : DataW.Trod enc Try.prog W 0 (fun _ => true) true 32 v d ps)
    (hz : ∀ n ∈ d.weights Try.prog 32, n ≤ reachBytes) : ∃ (key : ByteArray) (has : Bool) (val : ByteArray), v = .agg #[.string key, .bool has, .string val] ∧ key.size ≤ 281474976710656 ∧ val.size ≤ 281474976710656 := by
  obtain ⟨fuel, hf⟩ := h
  obtain ⟨cs, rfl, hcs⟩ := okWide_struct eqChange hok
  obtain ⟨key, has, val, hc, hfit⟩ := change_cells hf hz
  refine ⟨key, has, val, ?_, hfit⟩
  have : cs.toList = [.string key, .bool has, .string val] := by simpa [Value.cells] using hc
  rw [show cs = cs.toList.toArray by simp, this]

/-- At p, a slice's address, these bytes lie. -/
def Su (W : World) (p : Option Addr) (L : List Nat) : Prop := ∀ j (h : j < L.length), ∃ b o, p = some ⟨b, o, none⟩ ∧ W.cell? ⟨b, o + j, none⟩ = some (.int .u8 ((L[j] : Nat) : Int))
theorem Su.grow {W W' : World} {p : Option Addr} {L : List Nat} (h : Su W p L) (hb : Below W.heap.size W W') : Su W' p L := fun j hj => by
  obtain ⟨b, o, rfl, c⟩ := h j hj
  exact ⟨b, o, rfl, (hb.cell (p := ⟨b, _, none⟩) (cell_lt c)).trans c⟩

theorem bytes_open {H : Type} {enc : TypeId × Value → H} {W : World} {fuel : Nat} {cs : List Value} {x : DataW H × List MemPlace} (hf : DataW.trod enc Try.prog W 0 (fun _ => true) true fuel 57 cs = some x) :
    ∃ (pa : Option Addr) (len cap : Nat) (L : List Nat), cs = [.slice pa len cap] ∧ L.length = len ∧ Su W pa L ∧ (∀ z ∈ L, z ≤ 255) ∧ len ≤ maxLen := by
  rcases open_ints Try.underlying57 Try.underlying5 (by kernel_rfl) hf with ⟨hcs, _⟩ | ⟨a, len, cap, zs, hcs, hb, hl, hm, hzl, hx, hi, hw⟩
  · exact ⟨none, 0, 0, [], hcs, rfl, fun _ h => absurd h (Nat.not_lt_zero _), (fun _ h => by cases h), Nat.zero_le _⟩
  · have hzc : zs.length = cap := by simpa using hzl
    refine ⟨some a, len, cap, (zs.take len).map Int.toNat, hcs, by simp; omega, fun j hj => ?_, fun z hz => ?_, by omega⟩
    · have hj' : j < len ∧ j < zs.length := by simpa [Nat.lt_min] using hj
      obtain ⟨h1, h2⟩ := plain_add (hi 0 (by omega)) (hi j (by omega))
      refine ⟨a.block, a.off, by rw [← h1], ?_⟩
      have hwj := bounds_u8 (hw zs[j] (List.getElem_mem _))
      rw [h2]
      simp [List.getD, List.getElem?_eq_getElem hj'.2]
      omega
    · obtain ⟨q, hq, rfl⟩ := List.mem_map.1 hz
      have := bounds_u8 (hw q (List.mem_of_mem_take hq))
      omega

/-- At p, a slice's address, these bools lie. -/
def Sbl (W : World) (p : Option Addr) (L : List Bool) : Prop := ∀ j (h : j < L.length), ∃ b o, p = some ⟨b, o, none⟩ ∧ W.cell? ⟨b, o + j, none⟩ = some (.bool L[j])
theorem Sbl.grow {W W' : World} {p : Option Addr} {L : List Bool} (h : Sbl W p L) (hb : Below W.heap.size W W') : Sbl W' p L := fun j hj => by
  obtain ⟨b, o, rfl, c⟩ := h j hj
  exact ⟨b, o, rfl, (hb.cell (p := ⟨b, _, none⟩) (cell_lt c)).trans c⟩

end Go.Proofs.Ytpnfbabiibopnaa
