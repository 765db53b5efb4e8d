/-
  A control block on a heap of its own, a routine beside it, run alone; and the chapter's example.
-/
import Derived.Test.YtpnfbabiibopnaaQ09
namespace Go.Proofs.Ytpnfbabiibopnaa
open Go Go.RowKit
attribute [local go_sem ↓] Go.wp_at_zero Go.wp_at_succ

theorem plm_find {X Y : World} {B p r n : Nat} {D : HpD} {fh : Nat → Prop} {E : FindR} (h : Hp X B p D fh) (hF : FewD D n) (hv : E.fits) (hr : X.heap.size ≤ r) (ho : Y.heap[r]? = some (fndO E)) (hb : Below X.heap.size X Y) : PlM FindM Y B p r ⟨D, E⟩ n (fun j => fh j ∨ j = r) :=
  plm_start (M := FindM) (fr := fun j => j = r) h hF (show FindAt Y B r E _ from ⟨ho, rfl, Nat.le_trans h.size hr, hv⟩) (fun k hk => by omega) hb
theorem find_run {W : World} {B p r n : Nat} {D : HpD} {K : Shelves} {d : FindR} {f : Nat → Prop} (h : PlM FindM W B p r ⟨D, lookN d 0⟩ n f) (hK : Field d D K) (hr : rightC d.a d.p d.s d.q d.v = true) (m : Nat) (h4 : 2 * d.s ≤ (m : Int)) (hm : m ≤ 1000000) (hmn : m ≤ n) :
    Calls Try.prog 13 #[.pointer (some ⟨p, 0, none⟩), .iface 75 (.pointer (some ⟨r, 0, none⟩)), .int .i64 (m : Int)] W
      (PmR FindM B p r ⟨D, (findK K d d.s.toNat 0).1⟩ (n - m) (.tuple #[.int .i64 (((findK K d d.s.toNat 0).2 : Nat) : Int), .bool true]) f W) := by
  refine (show Calls Try.prog 13 #[.pointer (some ⟨p, 0, none⟩), .iface 75 (.pointer (some ⟨r, 0, none⟩)), .int .i64 (m : Int)] W _ from malone_any h m hm hmn).mono fun e W' he => ?_
  obtain ⟨rfl, g', h1, h2⟩ := he
  obtain ⟨e1, e2, e3⟩ := find_alone hK hr m h4
  rw [e1] at h1 ⊢
  rw [e2]
  refine ⟨g', ?_, h1, h2⟩
  show Ending.returned (.tuple #[_, .bool (!(nextF (findK K d d.s.toNat 0).1).isSome)]) = _
  rw [e3]; rfl
/-- What it found. -/
theorem plm_found {W : World} {B p r n : Nat} {D : HpD} {E : FindR} {f : Nat → Prop} (h : PlM FindM W B p r ⟨D, E⟩ n f) (hk : E.k ≠ 0) : Calls Try.prog 29 #[.pointer (some ⟨r, 0, none⟩)] W (ResE E.k E.sh true W) := by
  obtain ⟨fh, fr, h1, h2, _⟩ := h
  refine fres_any W h2.own rfl rfl ?_
  have : (E.k == 0) = false := by simpa using hk
  simp [this]

/-! ### the example -/
abbrev awF : FindR := newF 2 2 3 2 1 0 ⟨#[107]⟩
theorem aw_right : rightC 2 2 3 2 1 = true := by decide
theorem aw_field : Field awF (fieldD (sizeW 2 2 3 2 1).toNat) (fun _ => none) := Field.start awF (by rfl)

end Go.Proofs.Ytpnfbabiibopnaa
