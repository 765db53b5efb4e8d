/-
  The arguments of plan's statements: a config by its value.
-/
import Derived.Test.YtidnkjedhlaibaaDoorOpen
import Derived.Test.YtidnkjedhlaibaaDoorPawake
import Derived.Deep.Grids
import Derived.SliceStrings
import Derived.ChangeSlices
namespace Go.Proofs.YtidnkjedhlaibaaDoor
open Go.ChangeShapes Go.WideShapes Go.ChangeAt Go.RowKit Go.Deep
open Go.ChangeMaps (open_string shut_string)

theorem eqCfg : Tryd.prog.underlying 24 = some (.struct (Tryd.prog.fieldsOf 24)) := by kernel_rfl
theorem bounds_u64 {n : Int} (h : (Lit.int .u64 n).wf = true) : 0 ≤ n ∧ n < 18446744073709551616 := by
  simp [Lit.wf, IntKind.min, IntKind.max, IntKind.signed, IntKind.bits] at h
  omega

set_option maxRecDepth 100000 in
/-- An argument that is a config. -/
theorem config_open {H : Type} {enc : TypeId × Value → H} {W : World} {base : Nat} {v : Value} {d : DataW H} {ps : List MemPlace} (hok : Value.okWide Tryd.prog W .any base 24 v) (h : DataW.Trod enc Tryd.prog W 0 (fun _ => true) true 24 v d ps) :
    ∃ a p s q v' x : Int, v = cfV a p s q v' x ∧ I64 a ∧ I64 p ∧ I64 s ∧ I64 q ∧ I64 v' := by
  obtain ⟨fuel, hf⟩ := h
  obtain ⟨cs, rfl, _⟩ := okWide_struct eqCfg hok
  obtain ⟨xs, n, _, hx, hcl, hxl, hfs⟩ := DataW.trod_struct eqCfg hf
  have h6 : Tryd.prog.cellsOf 24 = 6 := by kernel_rfl
  have hl : xs.length = 6 := hxl
  rw [h6] at hcl
  have hf0 : (Tryd.prog.fieldsOf 24)[0]? = some { name := "Cap", type := 3, offset := 0, embedded := false, tag := "", pkgPath := "", byteOffset := 0 } := by kernel_rfl
  have hf1 : (Tryd.prog.fieldsOf 24)[1]? = some { name := "Pins", type := 3, offset := 1, embedded := false, tag := "", pkgPath := "", byteOffset := 8 } := by kernel_rfl
  have hf2 : (Tryd.prog.fieldsOf 24)[2]? = some { name := "Shelves", type := 3, offset := 2, embedded := false, tag := "", pkgPath := "", byteOffset := 16 } := by kernel_rfl
  have hf3 : (Tryd.prog.fieldsOf 24)[3]? = some { name := "Queue", type := 3, offset := 3, embedded := false, tag := "", pkgPath := "", byteOffset := 24 } := by kernel_rfl
  have hf4 : (Tryd.prog.fieldsOf 24)[4]? = some { name := "Watchers", type := 3, offset := 4, embedded := false, tag := "", pkgPath := "", byteOffset := 32 } := by kernel_rfl
  have hf5 : (Tryd.prog.fieldsOf 24)[5]? = some { name := "Seed", type := 22, offset := 5, embedded := false, tag := "", pkgPath := "", byteOffset := 40 } := by kernel_rfl
  have g0 := hfs 0 _ hf0
  have g1 := hfs 1 _ hf1
  have g2 := hfs 2 _ hf2
  have g3 := hfs 3 _ hf3
  have g4 := hfs 4 _ hf4
  have g5 := hfs 5 _ hf5
  have k0 : Tryd.prog.cellsOf 3 = 1 := by kernel_rfl
  have k1 : Tryd.prog.cellsOf 22 = 1 := by kernel_rfl
  obtain ⟨y0, y1, y2, y3, y4, y5, rfl⟩ : ∃ y0 y1 y2 y3 y4 y5, xs = [y0, y1, y2, y3, y4, y5] := match xs, hl with | [a, b, c, d, e, f], _ => ⟨a, b, c, d, e, f, rfl⟩
  obtain ⟨cs⟩ := cs
  simp only [Value.cells] at g0 g1 g2 g3 g4 g5 hcl
  match cs, hcl with
  | [a, b, c, d, e, f], _ =>
    simp only [k0, k1, List.getElem?_cons_zero, List.getElem?_cons_succ, List.drop_zero, List.drop_succ_cons, List.take_succ_cons, List.take_zero] at g0 g1 g2 g3 g4 g5
    obtain ⟨s0, hs0, _, w0⟩ := DataW.trod_int Tryd.underlying3 g0
    obtain ⟨s1, hs1, _, w1⟩ := DataW.trod_int Tryd.underlying3 g1
    obtain ⟨s2, hs2, _, w2⟩ := DataW.trod_int Tryd.underlying3 g2
    obtain ⟨s3, hs3, _, w3⟩ := DataW.trod_int Tryd.underlying3 g3
    obtain ⟨s4, hs4, _, w4⟩ := DataW.trod_int Tryd.underlying3 g4
    obtain ⟨s5, hs5, _, w5⟩ := DataW.trod_int Tryd.underlying22 g5
    simp only [List.cons.injEq, and_true] at hs0 hs1 hs2 hs3 hs4 hs5
    subst hs0 hs1 hs2 hs3 hs4 hs5
    exact ⟨s0, s1, s2, s3, s4, s5, rfl, bounds_i64 w0, bounds_i64 w1, bounds_i64 w2, bounds_i64 w3, bounds_i64 w4⟩
end Go.Proofs.YtidnkjedhlaibaaDoor
