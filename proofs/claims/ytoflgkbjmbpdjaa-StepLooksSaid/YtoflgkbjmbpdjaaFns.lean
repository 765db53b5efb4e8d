/-
  The library's search, delete and clone, in the words of a table's rows; and the table itself, as it lies in memory.
-/
import Derived.Test.YtoflgkbjmbpdjaaTab
import Derived.Lib.RowBridge
namespace Go.Proofs.Ytoflgkbjmbpdjaa
open Go Go.RowKit

def keysOf (D : Pairs) : List ByteArray := D.map (·.1)
def valsOf (D : Pairs) : List ByteArray := D.map (·.2)

theorem drewN_sameBut (g q : Nat) (W : World) : SameBut g W (W.drewN q) := ⟨rfl, rfl, rfl, rfl, fun _ _ => rfl, fun c _ _ h => ⟨c, h, rfl⟩⟩

theorem search_any (W : World) (v : Value) (D : Pairs) (x : ByteArray) (h : W.ownsRow 0 9 1 v D.length ((keysOf D).map Value.string)) (hR : Rise D) (hn : D.length ≤ 10000) :
    Calls Try.prog 52 #[v, .string x] W fun e W' => e = .returned (.tuple #[.int .i64 (rk D x : Nat), .bool (hasD D x)]) ∧ ∃ q, W' = W.drewN q := by
  rcases h.2 with ⟨rfl, h0⟩ | ⟨g, cap, cur, rfl, hbg, hg, hnc, hcm, hcs, htake⟩
  · have hD : D = [] := List.eq_nil_of_length_eq_zero h0
    subst hD
    refine (Go.Proofs.Any2.slices_BinarySearch_string_empty laysSearch none 0 x W).mono ?_
    rintro e W' ⟨rfl, rfl⟩
    exact ⟨rfl, 0, rfl⟩
  · obtain ⟨Sx, hSx⟩ : ∃ Sx : Nat → ByteArray, Sx = fun t => ((D[t]?).map (·.1)).getD x := ⟨_, rfl⟩
    have hS1 : ∀ t (ht : t < D.length), Sx t = D[t].1 := fun t ht => by rw [hSx]; simp [List.getElem?_eq_getElem ht]
    have hS2 : ∀ t, D.length ≤ t → Sx t = x := fun t ht => by rw [hSx]; simp [List.getElem?_eq_none ht]
    have hbs : Lib.bsGo (fun t => Op.bytesLess (Sx t).toList x.toList) D.length 0 D.length = rk D x := by
      refine Lib.bsGo_spec _ (rk D x) (fun t ht => ?_) (fun t ht => ?_) _ _ _ (by omega) (Nat.zero_le _) (rk_le D x)
      · have hl : t < D.length := Nat.lt_of_lt_of_le ht (rk_le D x)
        rw [hS1 t hl]; exact lt_of_rk D x t hl ht
      · by_cases hl : t < D.length
        · rw [hS1 t hl]; exact not_lt_of_rk D x hR t hl ht
        · rw [hS2 t (by omega)]; exact bl_irrefl _
    refine (Go.Proofs.Any2.slices_BinarySearch_string laysSearch g 0 D.length cap Sx x W (by omega) (fun j hj => ?_)).mono ?_
    · have := h.cells (g := g) rfl j (.string (D[j].1)) (by simp [keysOf, List.getElem?_eq_getElem hj])
      rw [Addr.add_lit] at this
      rw [hS1 j hj]; exact this
    · rintro e W' ⟨rfl, hq⟩
      refine ⟨?_, hq⟩
      rw [hbs]
      have hb : decide (rk D x < D.length ∧ Sx (rk D x) = x) = hasD D x := by
        cases hh : hasD D x with
        | true =>
          obtain ⟨hlt, hk, _⟩ := hasD_at hR hh
          exact decide_eq_true ⟨hlt, (hS1 _ hlt).trans hk⟩
        | false =>
          refine decide_eq_false fun ⟨hlt, hk⟩ => hasD_not hR hh hlt ((hS1 _ hlt).symm.trans hk)
      rw [hb]

/-- What delete leaves: the same block, one element less. -/
def Deleted (W : World) (g n cap : Nat) (xs : List Value) (e : Ending) (W' : World) : Prop :=
  e = .returned (.slice (some ⟨g, 0, none⟩) (n - 1) cap) ∧ W'.ownsRow 0 9 1 (.slice (some ⟨g, 0, none⟩) (n - 1) cap) (n - 1) xs ∧ W.grownBy W' (some g)

theorem zero_string (w : World) : (zeroValue 9).run Try.prog w = .ok (.string ⟨#[]⟩) w := Try.zeroValue9 w
theorem info_string : (Try.prog.info? 9).map (fun i => (i.zero, i.size, i.bytes)) = some (some (.string ⟨#[]⟩), 1, 16) := by kernel_rfl

theorem clone_in (s : ByteArray) (W : World) (hs : s.size ≤ 281474976710656) : Calls Try.prog 55 #[.string s] W fun e W' => e = .returned (.string s) ∧ Below W.heap.size W W' :=
  Go.Proofs.AnyPu.stringslite_Clone laysClone s W hs

/-! ### the table -/

end Go.Proofs.Ytoflgkbjmbpdjaa
