/-
  A version beside a heap: it is laid, run alone, asked; and the chapter's example.
-/
import Derived.Test.YtdegcmobgmaenaaVerm
namespace Go.Proofs.Ytdegcmobgmaenaa
open Go Go.RowKit
attribute [local go_sem ↓] Go.wp_at_zero Go.wp_at_succ

theorem plm_ver {X Y : World} {B p r n : Nat} {D : HpD} {fh : Nat → Prop} {v : VerD} (h : Hp X B p D fh) (hF : FewD D n) (hv : v.fits) (hr : X.heap.size ≤ r) (ho : Y.heap[r]? = some (verO v)) (hb : Below X.heap.size X Y) : PlM VerM Y B p r ⟨D, v⟩ n (fun j => fh j ∨ j = r) :=
  ⟨fh, fun j => j = r, h.below hb, ⟨ho, rfl, Nat.le_trans h.size hr, hv⟩, fun j hj hj' => by have := h.lt j hj; omega, rfl, hF⟩
section
variable {W : World} {B p r n : Nat} {D : HpD} {f : Nat → Prop}
theorem ver_run {ep nx : Int} {has : Bool} {t : ByteArray} (h : PlM VerM W B p r ⟨D, ⟨ep, nx, has, t, 1, 0⟩⟩ n f) (ht : t.size ≤ 4096) (m : Nat) (h4 : 4 ≤ m) (hm : m ≤ 1000000) (hmn : m ≤ n) :
    Calls Try.prog 9 #[.pointer (some ⟨p, 0, none⟩), .iface 58 (.pointer (some ⟨r, 0, none⟩)), .int .i64 (m : Int)] W
      (PmR VerM B p r ⟨D.add (blkV [ep, nx, if has then 1 else 0] t), ⟨ep, nx, has, t, 5, D.L.length + 1⟩⟩ (n - m) (.tuple #[.int .i64 ((actsV nx has : Nat) : Int), .bool true]) f W) := by
  refine (show Calls Try.prog 9 #[.pointer (some ⟨p, 0, none⟩), .iface 58 (.pointer (some ⟨r, 0, none⟩)), .int .i64 (m : Int)] W _ from malone_any h m hm hmn).mono fun e W' he => ?_
  obtain ⟨rfl, g', h1, h2⟩ := he
  obtain ⟨e1, e2⟩ := ver_alone D ep nx has t ht m h4
  rw [e1] at h1 ⊢
  rw [e2]
  exact ⟨g', rfl, h1, h2⟩
theorem plm_made {v : VerD} (h : PlM VerM W B p r ⟨D, v⟩ n f) (hp : v.place = 5) : Calls Try.prog 22 #[.pointer (some ⟨r, 0, none⟩)] W fun e W' => e = .returned (.tuple #[.int .u64 (v.block : Int), .bool true]) ∧ W' = W := by
  obtain ⟨fh, fr, h1, h2, _⟩ := h
  have := result_any W h2
  rw [if_pos hp, decide_eq_true hp] at this
  exact this
end
section
variable {σ : Type} {M : Mach σ} {W : World} {B p r n : Nat} {S : PmS σ} {f : Nat → Prop}
end
theorem newV_fits {ep nx : Int} {has : Bool} {val : ByteArray} (he : 0 ≤ ep ∧ ep < 18446744073709551616) (hn : 0 ≤ nx ∧ nx < 18446744073709551616) (hv : val.size ≤ 281474976710656) : (newV ep nx has val).fits := by
  refine ⟨he, hn, ?_, by show 1 ≤ 1 ∧ 1 ≤ 5; omega, by show 0 < 18446744073709551616; omega⟩
  show (if has then val else ⟨#[]⟩ : ByteArray).size ≤ _
  split
  · exact hv
  · exact Nat.zero_le _

/-! ### the example -/
abbrev awD : HpD := emptyD.add (blkV [2, 0, 0] ⟨#[]⟩)
abbrev awV : VerD := ⟨2, 0, false, ⟨#[]⟩, 5, 1⟩

end Go.Proofs.Ytdegcmobgmaenaa
