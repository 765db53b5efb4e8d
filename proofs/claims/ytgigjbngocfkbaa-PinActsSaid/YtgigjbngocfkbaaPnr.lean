/-
  pin's routine: what it does next, and where it stands behind an answer; how it lies.
-/
import Derived.Test.YtgigjbngocfkbaaMrun
import Derived.Test.YtgigjbngocfkbaaCfg
namespace Go.Proofs.Ytgigjbngocfkbaa
open Go Go.RowKit
attribute [local go_sem ↓] Go.wp_at_zero Go.wp_at_succ

/-- A pin that is looked for: its config, the part (0: none that New made; 1 to 4; 5: done), how many were tried, the pin, the epoch, whether all were taken. -/
structure PinD where
  a : Int
  p : Int
  s : Int
  q : Int
  v : Int
  x : Int
  part : Nat
  tried : Int
  pn : Int
  ep : Int
  taken : Bool
def PinD.fit1 (v : PinD) : Prop := rightC v.a v.p v.s v.q v.v = true ∧ 1 ≤ v.part ∧ (0 ≤ v.tried ∧ v.tried ≤ v.p) ∧ (0 ≤ v.pn ∧ v.pn < v.p) ∧ (v.part ≤ 2 → v.tried < v.p)
def PinD.fits (v : PinD) : Prop := v.part ≤ 5 ∧ (0 ≤ v.ep ∧ v.ep < 18446744073709551616) ∧ (v.part = 0 ∨ v.fit1)
def PinD.zero : PinD := ⟨0, 0, 0, 0, 0, 0, 0, 0, 0, 0, false⟩
/-- The cell of the pin that is tried. -/
def PinD.cell (v : PinD) : Int := pinW v.a v.p v.s v.q v.v v.pn
/-- The epoch and one. -/
def upE (e : Int) : Int := IntKind.u64.wrap (e + 1)
def loadE : ActD := ⟨1, 1, 0, 0, 0, ⟨#[]⟩⟩
def swapE (c e : Int) : ActD := ⟨3, 1, c, 0, upE e, ⟨#[]⟩⟩
def storeE (c e : Int) : ActD := ⟨2, 1, c, 0, upE e, ⟨#[]⟩⟩
def nextP (v : PinD) : Option ActD := match v.part with
  | 1 => some loadE
  | 2 => some (swapE v.cell v.ep)
  | 3 => some loadE
  | 4 => some (storeE v.cell v.ep)
  | _ => none
def PinD.to (v : PinD) (k : Nat) : PinD := ⟨v.a, v.p, v.s, v.q, v.v, v.x, k, v.tried, v.pn, v.ep, v.taken⟩
def PinD.at (v : PinD) (k : Nat) (e : Int) : PinD := ⟨v.a, v.p, v.s, v.q, v.v, v.x, k, v.tried, v.pn, e, v.taken⟩
/-- Behind a pin that was not free. -/
def PinD.miss (v : PinD) : PinD := if v.tried + 1 = v.p then ⟨v.a, v.p, v.s, v.q, v.v, v.x, 5, v.tried + 1, 0, 0, true⟩ else ⟨v.a, v.p, v.s, v.q, v.v, v.x, 2, v.tried + 1, (v.pn + 1) % v.p, v.ep, v.taken⟩
def takeP (v : PinD) (w : Int) (_ : ByteArray) : PinD := match v.part with
  | 1 => v.at 2 w
  | 2 => if w = 0 then v.to 3 else v.miss
  | 3 => if w = v.ep then v.to 5 else v.at 4 w
  | 4 => v.to 3
  | _ => v
theorem takeP_1 {v : PinD} (e : v.part = 1) (w : Int) (t : ByteArray) : takeP v w t = v.at 2 w := by unfold takeP; rw [e]; rfl
theorem takeP_2 {v : PinD} (e : v.part = 2) (w : Int) (t : ByteArray) : takeP v w t = if w = 0 then v.to 3 else v.miss := by unfold takeP; rw [e]; rfl
theorem takeP_3 {v : PinD} (e : v.part = 3) (w : Int) (t : ByteArray) : takeP v w t = if w = v.ep then v.to 5 else v.at 4 w := by unfold takeP; rw [e]; rfl
theorem takeP_4 {v : PinD} (e : v.part = 4) (w : Int) (t : ByteArray) : takeP v w t = v.to 3 := by unfold takeP; rw [e]; rfl
theorem upE_in (e : Int) : 0 ≤ upE e ∧ upE e < 18446744073709551616 := u64_wrap_in _
theorem pinW_in {a p s q v i : Int} (hr : rightC a p s q v = true) (h0 : 0 ≤ i) (h1 : i < p) : pinW a p s q v i = 3 + i := if_pos ⟨hr, h0, by omega⟩
theorem pinW_fits {a p s q v i : Int} : -1 ≤ pinW a p s q v i ∧ pinW a p s q v i ≤ 11 := by
  unfold pinW
  split
  · rename_i h
    have := rightC_bd h.1
    omega
  · omega
theorem empty_size : (⟨#[]⟩ : ByteArray).size = 0 := rfl
theorem loadE_fits : loadE.fits := by have he := empty_size; unfold ActD.fits loadE; simp only; omega
theorem swapE_fits {c : Int} (hc : -1 ≤ c ∧ c ≤ 11) (e : Int) : (swapE c e).fits := by have he := empty_size; have := upE_in e; unfold ActD.fits swapE; simp only; omega
theorem storeE_fits {c : Int} (hc : -1 ≤ c ∧ c ≤ 11) (e : Int) : (storeE c e).fits := by have he := empty_size; have := upE_in e; unfold ActD.fits storeE; simp only; omega
theorem nextP_fits {v : PinD} {x : ActD} (h : nextP v = some x) : x.fits ∧ (x.kind = 1 ∨ x.kind = 2 ∨ x.kind = 3) := by
  unfold nextP at h
  split at h
  · cases h; exact ⟨loadE_fits, .inl rfl⟩
  · cases h; exact ⟨swapE_fits pinW_fits _, .inr (.inr rfl)⟩
  · cases h; exact ⟨loadE_fits, .inl rfl⟩
  · cases h; exact ⟨storeE_fits pinW_fits _, .inr (.inl rfl)⟩
  · cases h
theorem nextP_part {v : PinD} (h : (nextP v).isSome = true) : v.part = 1 ∨ v.part = 2 ∨ v.part = 3 ∨ v.part = 4 := by
  unfold nextP at h
  split at h
  · exact .inl (by assumption)
  · exact .inr (.inl (by assumption))
  · exact .inr (.inr (.inl (by assumption)))
  · exact .inr (.inr (.inr (by assumption)))
  · cases h
theorem PinD.miss_fits {v : PinD} (hv : v.fits) (h2 : v.part = 2) : v.miss.fits := by
  obtain ⟨h1, he, h3⟩ := hv
  have hf : v.fit1 := h3.elim (fun e => by omega) id
  obtain ⟨hr, h4, h5, h6, h7⟩ := hf
  have h7' := h7 (by omega)
  have hp := (rightC_bd hr).2.1
  unfold PinD.miss
  split
  · exact ⟨Nat.le_refl _, ⟨Int.le_refl _, by show (0 : Int) < 18446744073709551616; omega⟩, .inr ⟨hr, by show 1 ≤ 5; omega, ⟨by show 0 ≤ v.tried + 1; omega, by show v.tried + 1 ≤ v.p; omega⟩, ⟨Int.le_refl _, by show 0 < v.p; omega⟩, fun h => absurd (show 5 ≤ 2 from h) (by omega)⟩⟩
  · have hm := Int.emod_nonneg (v.pn + 1) (show v.p ≠ 0 by omega)
    have hm2 := Int.emod_lt_of_pos (v.pn + 1) (show 0 < v.p by omega)
    exact ⟨by show 2 ≤ 5; omega, he, .inr ⟨hr, by show 1 ≤ 2; omega, ⟨by show 0 ≤ v.tried + 1; omega, by show v.tried + 1 ≤ v.p; omega⟩, ⟨hm, hm2⟩, fun _ => by show v.tried + 1 < v.p; omega⟩⟩
theorem takeP_fits {v : PinD} {w : Int} {t : ByteArray} (hv : v.fits) (hw : 0 ≤ w ∧ w < 18446744073709551616) : (takeP v w t).fits := by
  have hv0 := hv
  obtain ⟨h1, he, h3⟩ := hv
  unfold takeP
  split
  · rename_i h
    obtain ⟨hr, h4, h5, h6, h7⟩ : v.fit1 := h3.elim (fun e => by omega) id
    exact ⟨by show 2 ≤ 5; omega, hw, .inr ⟨hr, by show 1 ≤ 2; omega, h5, h6, fun _ => h7 (by omega)⟩⟩
  · rename_i h
    obtain ⟨hr, h4, h5, h6, h7⟩ : v.fit1 := h3.elim (fun e => by omega) id
    split
    · exact ⟨by show 3 ≤ 5; omega, he, .inr ⟨hr, by show 1 ≤ 3; omega, h5, h6, fun h => absurd (show 3 ≤ 2 from h) (by omega)⟩⟩
    · exact PinD.miss_fits hv0 h
  · rename_i h
    obtain ⟨hr, h4, h5, h6, h7⟩ : v.fit1 := h3.elim (fun e => by omega) id
    split
    · exact ⟨by show 5 ≤ 5; omega, he, .inr ⟨hr, by show 1 ≤ 5; omega, h5, h6, fun h => absurd (show 5 ≤ 2 from h) (by omega)⟩⟩
    · exact ⟨by show 4 ≤ 5; omega, hw, .inr ⟨hr, by show 1 ≤ 4; omega, h5, h6, fun h => absurd (show 4 ≤ 2 from h) (by omega)⟩⟩
  · rename_i h
    obtain ⟨hr, h4, h5, h6, h7⟩ : v.fit1 := h3.elim (fun e => by omega) id
    exact ⟨by show 3 ≤ 5; omega, he, .inr ⟨hr, by show 1 ≤ 3; omega, h5, h6, fun h => absurd (show 3 ≤ 2 from h) (by omega)⟩⟩
  · exact hv0

/-! ### in memory -/
abbrev pnrC (v : PinD) : Array Value := #[.int .i64 v.a, .int .i64 v.p, .int .i64 v.s, .int .i64 v.q, .int .i64 v.v, .int .u64 v.x, .int .i64 (v.part : Int), .int .i64 v.tried, .int .i64 v.pn, .int .u64 v.ep, .bool v.taken]
abbrev pnrO (v : PinD) : Obj := .cells (pnrC v) 70 (0, 0)
section
variable {X : World} {r : Nat} {v : PinD}
theorem pnr_at (h : X.heap[r]? = some (pnrO v)) :
    (X.cell? ⟨r, 0, none⟩ = some (.int .i64 v.a) ∧ X.cell? ⟨r, 1, none⟩ = some (.int .i64 v.p) ∧ X.cell? ⟨r, 2, none⟩ = some (.int .i64 v.s) ∧ X.cell? ⟨r, 3, none⟩ = some (.int .i64 v.q) ∧ X.cell? ⟨r, 4, none⟩ = some (.int .i64 v.v) ∧ X.cell? ⟨r, 5, none⟩ = some (.int .u64 v.x)) ∧
    X.cell? ⟨r, 6, none⟩ = some (.int .i64 (v.part : Int)) ∧ X.cell? ⟨r, 7, none⟩ = some (.int .i64 v.tried) ∧ X.cell? ⟨r, 8, none⟩ = some (.int .i64 v.pn) ∧ X.cell? ⟨r, 9, none⟩ = some (.int .u64 v.ep) ∧ X.cell? ⟨r, 10, none⟩ = some (.bool v.taken) :=
  ⟨⟨(cell_of h).trans rfl, (cell_of h).trans rfl, (cell_of h).trans rfl, (cell_of h).trans rfl, (cell_of h).trans rfl, (cell_of h).trans rfl⟩, (cell_of h).trans rfl, (cell_of h).trans rfl, (cell_of h).trans rfl, (cell_of h).trans rfl, (cell_of h).trans rfl⟩
theorem pnr_free (h : X.heap[r]? = some (pnrO v)) (i : Nat) : X.frozen? ⟨r, i, none⟩ = false := by simp [World.frozen?, h]
end

end Go.Proofs.Ytgigjbngocfkbaa
