/-
  chain's routine as a kind of routine.
-/
import Derived.Test.YtpnfbabiibopnaaGreatQ16
namespace Go.Proofs.YtpnfbabiibopnaaGreat
open Go Go.RowKit

structure ChnAt (W : World) (B r : Nat) (v : ChnD) (f : Nat → Prop) : Prop where
  own : W.heap[r]? = some (chnO v)
  foot : f = fun k => k = r
  base : B ≤ r
  fits : v.fits
theorem ChnAt.stays {W W' : World} {B r : Nat} {v : ChnD} {f : Nat → Prop} (h : ChnAt W B r v f) (hs : ∀ k, f k → W'.heap[k]? = W.heap[k]?) : ChnAt W' B r v f := ⟨(hs r (by rw [h.foot])).trans h.own, h.foot, h.base, h.fits⟩
theorem ChnAt.lt {W : World} {B r : Nat} {v : ChnD} {f : Nat → Prop} (h : ChnAt W B r v f) : ∀ k, f k → k < W.heap.size := fun k hk => by
  rw [h.foot] at hk; subst hk; exact heap_at_lt h.own
theorem chn_takes {W : World} {B r : Nat} {v : ChnD} {f : Nat → Prop} {w : Int} {t : ByteArray} (h : ChnAt W B r v f) (hs : (nextC v).isSome = true) (hg : Good w t) :
    Calls Tryz.prog 39 #[.pointer (some ⟨r, 0, none⟩), gotV w t] W fun e W' => ∃ f', e = .returned (.tuple #[]) ∧ ChnAt W' B r (takeC v w t) f' ∧ Step f f' W W' := by
  refine (ctake_any W h.own h.fits hs w t hg).mono ?_
  rintro en W' ⟨rfl, h2, h3⟩
  refine ⟨fun k => k = r, rfl, ⟨h2, rfl, h.base, takeC_fits h.fits hg.1⟩, ?_⟩
  rw [h.foot]; exact h3

theorem chn_metA (n r : Nat) (w : World) : (method (n + 1) 65 (.pointer (some ⟨r, 0, none⟩)) "Act").run Tryz.prog w = .ok (23, .pointer (some ⟨r, 0, none⟩)) w := by kernel_rfl
theorem chn_metT (n r : Nat) (w : World) : (method (n + 1) 65 (.pointer (some ⟨r, 0, none⟩)) "Take").run Tryz.prog w = .ok (39, .pointer (some ⟨r, 0, none⟩)) w := by kernel_rfl
theorem chn_entA (args : Array Value) (w : World) : (callFunc 23 args).run Tryz.prog w = .ok (.enter 23 args) w := enters_of Tryz.func23 (by kernel_rfl) rfl args w
theorem chn_entT (args : Array Value) (w : World) : (callFunc 39 args).run Tryz.prog w = .ok (.enter 39 args) w := enters_of Tryz.func39 (by kernel_rfl) rfl args w
def ChnM : Mach ChnD where
  tid := 65
  fA := 23
  fT := 39
  next := nextC
  take := takeC
  At := ChnAt
  metA := chn_metA
  metT := chn_metT
  entA := chn_entA
  entT := chn_entT
  stays := fun h hs => h.stays hs
  lt := fun h => h.lt
  base := fun h k hk => by rw [h.foot] at hk; subst hk; exact h.base
  self := fun h => by rw [h.foot]
  fits := fun h hx => (nextC_fits h.fits hx).1
  act := fun h => cact_any _ h.own h.fits
  takes := fun h hs hg => chn_takes h hs hg
theorem newC_fits {h ep : Int} (hh : -9223372036854775808 ≤ h ∧ h ≤ 9223372036854775807) (he : 0 ≤ ep ∧ ep < 18446744073709551616) : (newC h ep).fits :=
  ⟨hh, he, by show 1 ≤ 1 ∧ 1 ≤ 6; omega, by show (-9223372036854775808 : Int) ≤ 0 ∧ (0 : Int) ≤ 9223372036854775807; omega, by show 0 < 18446744073709551616; omega⟩

/-! ### loads and texts, whatever kind of routine asks for them -/
section
variable {σ : Type} {M : Mach σ} {D : HpD} {E : σ}
theorem adv_look {x : ActD} (hn : M.next E = some x) (hk : x.kind = 1 ∨ x.kind = 6) : advM M ⟨D, E⟩ = ⟨doN D x, M.take E (doW D x) (doT D x)⟩ ∧ (stepM M ⟨D, E⟩).isSome = true := by
  have hr : readyA D x = true := by
    unfold readyA
    split
    · rw [if_neg (by omega), if_neg (by omega)]
    · rfl
  have hs : stepM M ⟨D, E⟩ = some ⟨x, doW D x, doT D x⟩ := by
    unfold stepM
    show (match M.next E with | some x => if readyA D x then some (⟨x, doW D x, doT D x⟩ : StepD) else none | none => none) = _
    rw [hn]; simp [hr]
  refine ⟨?_, by rw [hs]; rfl⟩
  unfold advM
  rw [hs]
  exact nextM_some (M := M) (S := ⟨D, E⟩) hn
theorem loadC_right {b : Nat} {c : Int} (hc : 0 ≤ c) : rightA (loadC b c) = true := by
  simp [rightA, loadC, zeroA, restA, hc, show (⟨#[]⟩ : ByteArray).size = 0 from rfl]
theorem textC_right (b : Nat) : rightA (textC b) = true := by
  simp [rightA, textC, zeroA, restA, show (⟨#[]⟩ : ByteArray).size = 0 from rfl]
/-- A load of a cell that is there. -/
theorem adv_loads {b : Nat} {c : Int} (hn : M.next E = some (loadC b c)) (hc : 0 ≤ c) (hs : spot D.L b c = 0) : advM M ⟨D, E⟩ = ⟨D, M.take E (wordAt D.L b c) ⟨#[]⟩⟩ ∧ (stepM M ⟨D, E⟩).isSome = true := by
  have hA := loadC_right (b := b) hc
  have e1 : doW D (loadC b c) = wordAt D.L b c := by
    unfold doW; rw [hA, if_pos rfl]
    show loadV D b c = _
    unfold loadV; rw [if_pos hs]
  have e2 : doN D (loadC b c) = D := by
    unfold doN; rw [hA, if_pos rfl]
    show loadD D b c = _
    unfold loadD; rw [if_pos hs]
  have e3 : doT D (loadC b c) = ⟨#[]⟩ := by
    unfold doT; rw [hA, if_pos rfl]; rfl
  obtain ⟨a1, a2⟩ := adv_look (D := D) hn (.inl rfl)
  rw [e1, e2, e3] at a1
  exact ⟨a1, a2⟩
/-- The text of a block that is there. -/
theorem adv_texts {b : Nat} (hn : M.next E = some (textC b)) (ht : there D.L b = 0) : advM M ⟨D, E⟩ = ⟨D, M.take E 0 (textAt D.L b)⟩ ∧ (stepM M ⟨D, E⟩).isSome = true := by
  have hA := textC_right b
  have e1 : doW D (textC b) = 0 := by unfold doW; rw [hA, if_pos rfl]; rfl
  have e2 : doN D (textC b) = D := by
    unfold doN; rw [hA, if_pos rfl]
    show wordsD D b = _
    unfold wordsD; rw [if_pos ht]
  have e3 : doT D (textC b) = textAt D.L b := by
    unfold doT; rw [hA, if_pos rfl]; rfl
  obtain ⟨a1, a2⟩ := adv_look (D := D) hn (.inr rfl)
  rw [e1, e2, e3] at a1
  exact ⟨a1, a2⟩
end

end Go.Proofs.YtpnfbabiibopnaaGreat
