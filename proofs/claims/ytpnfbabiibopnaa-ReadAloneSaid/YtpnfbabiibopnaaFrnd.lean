/-
  Between two looks for a key: the config's box, a heap with a control block, a row beside them; a look, from New to Result; a key is put.
-/
import Derived.Test.YtpnfbabiibopnaaFaw
import Derived.Test.YtpnfbabiibopnaaQ12
import Derived.Test.YtpnfbabiibopnaaArgsr
namespace Go.Proofs.Ytpnfbabiibopnaa
open Go Go.RowKit
attribute [local go_sem ↓] Go.wp_at_zero Go.wp_at_succ

section
variable {W X Y : World} {a p s q v x : Int} {B hp r n : Nat} {D D' : HpD} {ks : List (Nat × Obj)} {o : Obj} {E : FindR}
theorem Rnd.find (h : Rnd W a p s q v x B hp D ks X) (hF : FewD D n) (hv : E.fits) (hr : X.heap.size ≤ r) (ho : Y.heap[r]? = some (fndO E)) (hb : Below X.heap.size X Y) : Rnf FindM W a p s q v x B hp D ks r n E Y := by
  exact h.start (M := FindM) (fr := fun j => j = r) hF (show FindAt Y B r E _ from ⟨ho, rfl, Nat.le_trans (by obtain ⟨f, h1, _⟩ := h.hh; exact h1.size) hr, hv⟩) (fun k hk => by omega) hb
theorem Field.key {key key' : ByteArray} {K : Shelves} (h : Field (newF a p s q v x key) D K) : Field (newF a p s q v x key') D K := ⟨h.faults, h.ctrl, h.fine, h.keys⟩

/-! ### the calls -/
def NewQ (W : World) (a p s q v x : Int) (B hp : Nat) (D : HpD) (ks : List (Nat × Obj)) (n : Nat) (E : FindR) (X : World) (e : Ending) (Y : World) : Prop := ∃ r, e = .returned (.pointer (some ⟨r, 0, none⟩)) ∧ Rnf FindM W a p s q v x B hp D ks r n E Y ∧ Below X.heap.size X Y
theorem rnd_new (h : Rnd W a p s q v x B hp D ks X) {key : ByteArray} {K : Shelves} (hr : rightC a p s q v = true) (hk : key.size ≤ 100) (hK : Field (newF a p s q v x key) D K) (hm : D.L.length ≤ 1000) :
    Calls Try.prog 28 #[cfV a p s q v x, .string key] X (NewQ W a p s q v x B hp D ks 1000 (lookN (newF a p s q v x key) 0) X) := by
  refine (fnew_any X a p s q v x key hr (by omega)).mono fun e Y he => ?_
  obtain ⟨r, rfl, h1, h2, h3⟩ := he
  exact ⟨r, rfl, h.find (hK.few (by omega) hm) (newF_fits hr key) h1 h2 h3, h3⟩
/-- What a look comes to. -/
abbrev seenF (K : Shelves) (d : FindR) : FindR × Nat := findK K d d.s.toNat 0
theorem rnf_run {d : FindR} {K : Shelves} (h : Rnf FindM W a p s q v x B hp D ks r 1000 (lookN d 0) X) (hK : Field d D K) (hr : rightC d.a d.p d.s d.q d.v = true) :
    Calls Try.prog 13 #[.pointer (some ⟨hp, 0, none⟩), .iface 75 (.pointer (some ⟨r, 0, none⟩)), .int .i64 1000] X
      (fun e Y => e = .returned (.tuple #[.int .i64 (((seenF K d).2 : Nat) : Int), .bool true]) ∧ Rnf FindM W a p s q v x B hp D ks r 0 (seenF K d).1 Y) := by
  have hs := (rightC_bd hr).2.2
  obtain ⟨e1, e2, e3⟩ := find_alone hK hr 1000 (by omega)
  refine (show Calls Try.prog 13 #[.pointer (some ⟨hp, 0, none⟩), .iface 75 (.pointer (some ⟨r, 0, none⟩)), .int .i64 ((1000 : Nat) : Int)] X _ from rnf_alone h 1000 (by omega) (Nat.le_refl _)).mono fun e Y he => ?_
  obtain ⟨rfl, h2⟩ := he
  rw [e1] at h2 ⊢
  rw [e2]
  exact ⟨by show Ending.returned (.tuple #[_, .bool (!(nextF _).isSome)]) = _; rw [e3]; rfl, h2⟩
theorem rnf_result {k sh : Int} (h : Rnf FindM W a p s q v x B hp D ks r n E X) (hk : k ≠ 0) (h1 : E.k = k) (h2 : E.sh = sh) :
    Calls Try.prog 29 #[.pointer (some ⟨r, 0, none⟩)] X (fun e Y => e = .returned (.tuple #[fouV k sh, .bool true]) ∧ Rnd W a p s q v x B hp D ((Y.heap.size, fouO k sh) :: ks) (Y.alloc (fouO k sh))) := by
  obtain ⟨f, h3, _⟩ := h.pl
  subst h1 h2
  exact (plm_found h3 hk).mono fun e Y he => ⟨he.1, (h.below he.2).drop.add _⟩
end

end Go.Proofs.Ytpnfbabiibopnaa
