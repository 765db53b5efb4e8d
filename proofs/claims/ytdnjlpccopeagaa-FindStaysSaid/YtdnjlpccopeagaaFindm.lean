/-
  find's routine as a kind of routine.
-/
import Derived.Test.YtdnjlpccopeagaaFind2
namespace Go.Proofs.Ytdnjlpccopeagaa
open Go Go.RowKit

/-- A routine that may be. -/
structure FindR.fits (E : FindR) : Prop where
  rc : rightC E.a E.p E.s E.q E.v = true
  n : 0 ≤ E.n ∧ E.n ≤ 18446744073709551615
  i : 0 ≤ E.i ∧ E.i ≤ E.s
  y : E.y = noAct ∨ ((E.y.kind = 1 ∨ E.y.kind = 6) ∧ E.k = 0 ∧ E.sh = 0 ∧ E.y.fits)
def nextF (E : FindR) : Option ActD := if E.y.kind = 0 then none else some E.y
def takeF (E : FindR) (w : Int) (t : ByteArray) : FindR := lookY E w.toNat t E.i.toNat E.y
theorem keyW_bd {a p s q v i : Int} : -1 ≤ keyW a p s q v i ∧ keyW a p s q v i ≤ 200 := by
  unfold keyW
  split
  · rename_i h
    obtain ⟨ha, hp, hs⟩ := rightC_bd h.1
    omega
  · omega
theorem loadF_fits (d : FindR) (i : Nat) : (loadF d i).fits := by
  have := keyW_bd (a := d.a) (p := d.p) (s := d.s) (q := d.q) (v := d.v) (i := d.way i)
  have he : (⟨#[]⟩ : ByteArray).size = 0 := rfl
  unfold ActD.fits loadF
  simp only
  omega
theorem wordsF_fits {w : Nat} (hw : w < 18446744073709551616) : (wordsF w).fits := by
  have he : (⟨#[]⟩ : ByteArray).size = 0 := rfl
  unfold ActD.fits wordsF
  simp only
  omega
section
variable {E : FindR}
theorem lookN_fits (h : E.fits) {i : Nat} (hi : (i : Int) ≤ E.s) : (lookN E i).fits := by
  unfold lookN
  split
  · exact ⟨h.rc, h.n, ⟨by simp only [FindR.to]; omega, hi⟩, .inr ⟨.inl rfl, rfl, rfl, loadF_fits E i⟩⟩
  · exact ⟨h.rc, h.n, ⟨by simp only [FindR.to]; omega, hi⟩, .inl rfl⟩
theorem lookY_fits (h : E.fits) {w : Nat} (hw : w < 18446744073709551616) (t : ByteArray) {i : Nat} (hi : (i : Int) ≤ E.s) (y : ActD) : (lookY E w t i y).fits := by
  have hi0 : 0 ≤ (i : Int) := by omega
  unfold lookY
  split
  · split
    · exact ⟨h.rc, h.n, ⟨hi0, hi⟩, .inr ⟨.inl rfl, rfl, rfl, loadF_fits E i⟩⟩
    split
    · split
      · exact ⟨h.rc, h.n, ⟨hi0, hi⟩, .inl rfl⟩
      · exact ⟨h.rc, h.n, ⟨hi0, hi⟩, .inr ⟨.inr rfl, rfl, rfl, wordsF_fits hw⟩⟩
    split
    · exact ⟨h.rc, h.n, ⟨hi0, hi⟩, .inl rfl⟩
    · exact lookN_fits h (by omega)
  · exact ⟨h.rc, h.n, ⟨hi0, hi⟩, .inl rfl⟩
theorem takeF_fits (h : E.fits) {w : Int} (hw : 0 ≤ w ∧ w < 18446744073709551616) (t : ByteArray) : (takeF E w t).fits :=
  lookY_fits h (by omega) t (by have := h.i; omega) E.y
end

/-! ### in memory -/
structure FindAt (W : World) (B r : Nat) (E : FindR) (f : Nat → Prop) : Prop where
  own : W.heap[r]? = some (fndO E)
  foot : f = fun k => k = r
  base : B ≤ r
  fits : E.fits
theorem FindAt.stays {W W' : World} {B r : Nat} {E : FindR} {f : Nat → Prop} (h : FindAt W B r E f) (hs : ∀ k, f k → W'.heap[k]? = W.heap[k]?) : FindAt W' B r E f := ⟨(hs r (by rw [h.foot])).trans h.own, h.foot, h.base, h.fits⟩
theorem FindAt.lt {W : World} {B r : Nat} {E : FindR} {f : Nat → Prop} (h : FindAt W B r E f) : ∀ k, f k → k < W.heap.size := fun k hk => by
  rw [h.foot] at hk; subst hk; exact heap_at_lt h.own
theorem FindAt.below {W W' : World} {B r : Nat} {E : FindR} {f : Nat → Prop} (h : FindAt W B r E f) (hb : Below W.heap.size W W') : FindAt W' B r E f := h.stays (fun k hk => hb.block k (h.lt k hk))
theorem FindAt.act {W : World} {B r : Nat} {E : FindR} {f : Nat → Prop} (h : FindAt W B r E f) : Calls Try.prog 9 #[.pointer (some ⟨r, 0, none⟩)] W fun e W' => e = .returned (.tuple #[actOf ((nextF E).getD noAct), .bool (nextF E).isSome]) ∧ Below W.heap.size W W' := by
  by_cases hk : E.y.kind = 0
  · have hy : E.y = noAct := by
      rcases h.fits.y with e | ⟨e | e, _⟩
      · exact e
      · rw [hk] at e; cases e
      · rw [hk] at e; cases e
    have en : nextF E = none := by unfold nextF; rw [if_pos hk]
    rw [en]
    exact fact_any W h.own (y := noAct) (q := false) hy (fun w => neqA_same _ _ _ _ _ _ w)
  · have en : nextF E = some E.y := by unfold nextF; rw [if_neg hk]
    rw [en]
    refine fact_any W h.own (y := E.y) (q := true) rfl (fun w => ?_)
    rw [neqA_run]
    have : (E.y.kind == 0) = false := by simpa using hk
    simp [this]
theorem nextF_some {E : FindR} {x : ActD} (h : nextF E = some x) : x = E.y ∧ E.y.kind ≠ 0 := by
  unfold nextF at h
  split at h
  · cases h
  · exact ⟨(Option.some.inj h).symm, by assumption⟩
theorem nextF_kind {E : FindR} {x : ActD} (hE : E.fits) (h : nextF E = some x) : (x.kind = 1 ∨ x.kind = 6) ∧ E.k = 0 ∧ E.sh = 0 ∧ x.fits := by
  obtain ⟨rfl, hk⟩ := nextF_some h
  rcases hE.y with e | e
  · rw [e] at hk; exact absurd rfl hk
  · exact e
theorem find_takes {W : World} {B r : Nat} {E : FindR} {f : Nat → Prop} {w : Int} {t : ByteArray} (h : FindAt W B r E f) (hs : (nextF E).isSome = true) (hg : Good w t) :
    Calls Try.prog 12 #[.pointer (some ⟨r, 0, none⟩), gotV w t] W fun e W' => ∃ f', e = .returned (.tuple #[]) ∧ FindAt W' B r (takeF E w t) f' ∧ Step f f' W W' := by
  obtain ⟨x, hx⟩ := Option.isSome_iff_exists.1 hs
  obtain ⟨hk, h0, h1, -⟩ := nextF_kind h.fits hx
  obtain ⟨rfl, -⟩ := nextF_some hx
  have e : ((w.toNat : Nat) : Int) = w := by have := hg.1; omega
  have ei : ((E.i.toNat : Nat) : Int) = E.i := by have := h.fits.i; omega
  have ho : W.heap[r]? = some (fndO (E.to (E.i.toNat : Nat) E.y 0 0)) := by
    rw [h.own, ei]
    have : E = E.to E.i E.y 0 0 := by
      obtain ⟨a, p, s, q, v, x, key, n, i, y, k, sh⟩ := E
      simp only at h0 h1
      subst h0 h1
      rfl
    rw [← this]
  have hc := ftake_any W ho h.fits.n (rightC_bd h.fits.rc).2.2 (by rw [ei]; exact h.fits.i.2) hk w.toNat t
  rw [e] at hc
  refine hc.mono ?_
  rintro en W' ⟨rfl, h2, h3⟩
  refine ⟨fun k => k = r, rfl, ⟨h2, rfl, h.base, takeF_fits h.fits hg.1 t⟩, ?_⟩
  rw [h.foot]; exact h3

theorem find_metA (n r : Nat) (w : World) : (method (n + 1) 27 (.pointer (some ⟨r, 0, none⟩)) "Act").run Try.prog w = .ok (9, .pointer (some ⟨r, 0, none⟩)) w := by kernel_rfl
theorem find_metT (n r : Nat) (w : World) : (method (n + 1) 27 (.pointer (some ⟨r, 0, none⟩)) "Take").run Try.prog w = .ok (12, .pointer (some ⟨r, 0, none⟩)) w := by kernel_rfl
theorem find_entA (args : Array Value) (w : World) : (callFunc 9 args).run Try.prog w = .ok (.enter 9 args) w := enters_of Try.func9 (by kernel_rfl) rfl args w
theorem find_entT (args : Array Value) (w : World) : (callFunc 12 args).run Try.prog w = .ok (.enter 12 args) w := enters_of Try.func12 (by kernel_rfl) rfl args w
def FindM : Mach FindR where
  tid := 27
  fA := 9
  fT := 12
  next := nextF
  take := takeF
  At := FindAt
  metA := find_metA
  metT := find_metT
  entA := find_entA
  entT := find_entT
  stays := fun h hs => h.stays hs
  lt := fun h => h.lt
  base := fun h k hk => by rw [h.foot] at hk; subst hk; exact h.base
  self := fun h => by rw [h.foot]
  fits := fun h hx => (nextF_kind h.fits hx).2.2.2
  act := fun h => h.act
  takes := fun h hs hg => find_takes h hs hg
theorem newF_fits {a p s q v x : Int} (hr : rightC a p s q v = true) (key : ByteArray) : (lookN (newF a p s q v x key) 0).fits := by
  have hs := (rightC_bd hr).2.2
  have h0 : (newF a p s q v x key).fits := ⟨hr, sumU_bd _ _, ⟨Int.le_refl _, by show (0 : Int) ≤ s; omega⟩, .inl rfl⟩
  exact lookN_fits h0 (by show ((0 : Nat) : Int) ≤ s; omega)

end Go.Proofs.Ytdnjlpccopeagaa
