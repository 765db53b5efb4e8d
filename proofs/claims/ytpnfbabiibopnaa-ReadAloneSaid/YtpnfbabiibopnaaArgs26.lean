/-
  An argument that is a slice of changes.
-/
import Derived.Test.YtpnfbabiibopnaaArgsr
import Derived.Deep.Grids
import Derived.SliceStrings
import Derived.ChangeSlices
namespace Go.Proofs.Ytpnfbabiibopnaa
open Go.ChangeShapes Go.WideShapes Go.ChangeAt Go.RowKit Go.Deep
open Go.ChangeMaps (open_string shut_string)

/-- A change: a key, whether it has a value, that value. -/
structure ChgD where
  key : ByteArray
  has : Bool
  val : ByteArray
/-- At p, a slice's address, these changes lie. -/
def Sch (W : World) (p : Option Addr) (L : List ChgD) : Prop := ∀ j (h : j < L.length), ∃ b o, p = some ⟨b, o, none⟩ ∧ W.cell? ⟨b, o + j * 3, none⟩ = some (.string L[j].key) ∧ W.cell? ⟨b, o + j * 3 + 1, none⟩ = some (.bool L[j].has) ∧ W.cell? ⟨b, o + j * 3 + 2, none⟩ = some (.string L[j].val)
theorem Sch.grow {W W' : World} {p : Option Addr} {L : List ChgD} (h : Sch W p L) (hb : Below W.heap.size W W') : Sch W' p L := fun j hj => by
  obtain ⟨b, o, rfl, c1, c2, c3⟩ := h j hj
  exact ⟨b, o, rfl, (hb.cell (p := ⟨b, _, none⟩) (cell_lt c1)).trans c1, (hb.cell (p := ⟨b, _, none⟩) (cell_lt c2)).trans c2, (hb.cell (p := ⟨b, _, none⟩) (cell_lt c3)).trans c3⟩

set_option maxRecDepth 100000 in
/-- Changes. -/
theorem changes_open {H : Type} {enc : TypeId × Value → H} {W : World} {fuel : Nat} {cs : List Value} {x : DataW H × List MemPlace} (hf : DataW.trod enc Try.prog W 0 (fun _ => true) true fuel 25 cs = some x) :
    ∃ (pa : Option Addr) (len cap : Nat) (L : List ChgD), cs = [.slice pa len cap] ∧ L.length = len ∧ Sch W pa L ∧ len ≤ maxLen := by
  have h6 : (Try.prog.fieldsOf 32).size = 3 := by kernel_rfl
  rcases open_slice_fields (fs := Try.prog.fieldsOf 32) Try.underlying25 eqChange (by kernel_rfl) (by kernel_rfl) hf with ⟨hcs, _⟩ | ⟨a, len, cap, m, D, Pl, hcs, hb, hl, hm, hmm, hx, hi⟩
  · exact ⟨none, 0, 0, [], hcs, rfl, (fun _ h => absurd h (Nat.not_lt_zero _)), Nat.zero_le _⟩
  · have hmm' : m = cap := by simpa using hmm
    subst hmm'
    rw [h6] at hi
    have el : ∀ i, i < len → ∃ o : ChgD, W.cell? (a.add (i * 3)) = some (.string o.key) ∧ W.cell? (a.add (i * 3 + 1)) = some (.bool o.has) ∧ W.cell? (a.add (i * 3 + 2)) = some (.string o.val) := by
      intro i hil
      obtain ⟨ys, n, hD, hPl, hyl, hf⟩ := hi i (by omega)
      have hf0 : (Try.prog.fieldsOf 32)[0]? = some { name := "Key", type := 9, offset := 0, embedded := false, tag := "", pkgPath := "", byteOffset := 0 } := by kernel_rfl
      obtain ⟨v0, y0, hc0, hy0, ht0⟩ := hf 0 _ hf0
      obtain ⟨s0, hs0, _, _⟩ := DataW.trod_string Try.underlying9 ht0
      simp only [List.cons.injEq, and_true] at hs0
      subst hs0
      have hf1 : (Try.prog.fieldsOf 32)[1]? = some { name := "Has", type := 4, offset := 1, embedded := false, tag := "", pkgPath := "", byteOffset := 16 } := by kernel_rfl
      obtain ⟨v1, y1, hc1, hy1, ht1⟩ := hf 1 _ hf1
      obtain ⟨s1, hs1, _⟩ := DataW.trod_bool Try.underlying4 ht1
      simp only [List.cons.injEq, and_true] at hs1
      subst hs1
      have hf2 : (Try.prog.fieldsOf 32)[2]? = some { name := "Value", type := 9, offset := 2, embedded := false, tag := "", pkgPath := "", byteOffset := 24 } := by kernel_rfl
      obtain ⟨v2, y2, hc2, hy2, ht2⟩ := hf 2 _ hf2
      obtain ⟨s2, hs2, _, _⟩ := DataW.trod_string Try.underlying9 ht2
      simp only [List.cons.injEq, and_true] at hs2
      subst hs2
      exact ⟨⟨s0, s1, s2⟩, by simpa using hc0, hc1, hc2⟩
    have hcho : ∀ i, ∃ o : ChgD, i < len → (W.cell? (a.add (i * 3)) = some (.string o.key) ∧ W.cell? (a.add (i * 3 + 1)) = some (.bool o.has) ∧ W.cell? (a.add (i * 3 + 2)) = some (.string o.val)) := fun i => by
      by_cases hil : i < len
      · obtain ⟨o, ho⟩ := el i hil
        exact ⟨o, fun _ => ho⟩
      · exact ⟨⟨⟨#[]⟩, false, ⟨#[]⟩⟩, fun h => absurd h hil⟩
    obtain ⟨O, hO⟩ := Classical.axiomOfChoice hcho
    refine ⟨some a, len, m, (List.range len).map O, hcs, by simp, fun i hi' => ?_, by omega⟩
    have hil : i < len := by simpa using hi'
    obtain ⟨c0, c1, c2⟩ := hO i hil
    have h00 := (hO 0 (by omega)).1
    rw [Nat.zero_mul, add_zero'] at h00
    have hab := (addr_plain h00).1
    rw [hab, Addr.add_lit] at c0 c1 c2
    refine ⟨a.block, a.off, by rw [← hab], ?_, ?_, ?_⟩
    · simpa using c0
    · rw [Nat.add_assoc]; simpa using c1
    · rw [Nat.add_assoc]; simpa using c2

end Go.Proofs.Ytpnfbabiibopnaa
