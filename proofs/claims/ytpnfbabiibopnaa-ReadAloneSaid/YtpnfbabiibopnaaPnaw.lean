/-
  pin beside a heap: the calls; the chapter's example.
-/
import Derived.Test.YtpnfbabiibopnaaQ13
namespace Go.Proofs.Ytpnfbabiibopnaa
open Go Go.RowKit
attribute [local go_sem ↓] Go.wp_at_zero Go.wp_at_succ

theorem eqPnd_run (k e k' e' : Int) (b b' : Bool) (w : World) : (binOp .eql 103 (pndV k e b) (pndV k' e' b')).run Try.prog w = .ok (.bool (k == k' && (e == e' && b == b'))) w := by
  have u3 := Try.underlying3
  have u4 := Try.underlying4
  have u22 := Try.underlying22
  have hS : Try.prog.underlying 103 = some (.struct (Try.prog.fieldsOf 103)) := by kernel_rfl
  have hp : Try.prog.stoodInHeld 103 = false := by kernel_rfl
  rw [run_eql_struct, show (10000 : Nat) = 9999 + 1 from rfl, run_equalIn_agg w 9999 103 _ _ hS hp]
  simp only [Program.fieldsOf, Try.underlying103]
  have a3 := Try.isAgg3
  have z3 := Try.sizeOf3
  have a4 := Try.isAgg4
  have z4 := Try.sizeOf4
  have a22 := Try.isAgg22
  have z22 := Try.sizeOf22
  go_simp
  by_cases h1 : k = k' <;> by_cases h2 : e = e' <;> by_cases h3 : b = b' <;> simp [h1, h2, h3]

section
variable {W X Y : World} {a p s q v x : Int} {B hp r m : Nat} {D : HpD} {ks : List (Nat × Obj)} {E : PinD} {n : Nat} {G : Nat → Int}
/-- A routine that rests stays as it is. -/
theorem Rnf.prest (h : Rnf PinM W a p s q v x B hp D ks r m E X) : Rnd W a p s q v x B hp D ((r, pnrO E) :: ks) X := by
  obtain ⟨f, h1, h2⟩ := h.pl
  obtain ⟨fh, fr, h3, h4, h5, rfl, h6⟩ := h1
  have h4' : PinAt X B r E fr := h4
  have hB := h.hB
  have hb := h4'.base
  refine ⟨h.cf, h.lo, hB, fh, h3, fun u hu => ?_⟩
  rcases List.mem_cons.1 hu with rfl | hu
  · exact ⟨h4'.own, by show W.heap.size < r; omega, fun hf => h5 _ hf (by rw [h4'.foot])⟩
  · exact ⟨(h2 u hu).1, (h2 u hu).2.1, fun hf => (h2 u hu).2.2 (.inl hf)⟩
def PnewQ (W : World) (a p s q v x : Int) (B hp : Nat) (D : HpD) (ks : List (Nat × Obj)) (m : Nat) (E : PinD) (X : World) (e : Ending) (Y : World) : Prop := ∃ r, e = .returned (.pointer (some ⟨r, 0, none⟩)) ∧ X.heap.size ≤ r ∧ B ≤ r ∧ Rnf PinM W a p s q v x B hp D ks r m E Y
theorem rnd_pnew (h : Rnd W a p s q v x B hp D ks X) (hF : FewD D m) (hr : rightC a p s q v = true) {th : Int} (ht : 0 ≤ th) :
    Calls Try.prog 33 #[cfV a p s q v x, .int .i64 th] X (PnewQ W a p s q v x B hp D ks m (newP a p s q v x th) X) := by
  refine (pnew_any X a p s q v x th hr ht).mono fun e Y hE => ?_
  obtain ⟨r, rfl, hrs, ho, hb⟩ := hE
  have hs : B ≤ X.heap.size := by obtain ⟨f, h1, _⟩ := h.hh; exact h1.size
  exact ⟨r, rfl, hrs, Nat.le_trans hs hrs, h.start (M := PinM) (fr := fun j => j = r) hF (show PinAt Y B r _ _ from ⟨ho, rfl, Nat.le_trans hs hrs, newP_fits hr x th⟩) (fun j hj => by omega) hb⟩
theorem rnf_prun {th : Int} {k : Nat} {E' : PinD} {D' : HpD} {G' : Nat → Int} (h : Rnf PinM W a p s q v x B hp D ks r m (newP a p s q v x th) X) (l : Nat) (hA : AloneP a p s q v x th n D G l k E' D' G') (hl : l ≤ 1000000) (hlm : l ≤ m) :
    Calls Try.prog 13 #[.pointer (some ⟨hp, 0, none⟩), .iface 87 (.pointer (some ⟨r, 0, none⟩)), .int .i64 (l : Int)] X
      (fun e Y => e = .returned (.tuple #[.int .i64 (k : Int), .bool true]) ∧ Rnf PinM W a p s q v x B hp D' ks r (m - l) E' Y) := by
  refine (show Calls Try.prog 13 #[.pointer (some ⟨hp, 0, none⟩), .iface 87 (.pointer (some ⟨r, 0, none⟩)), .int .i64 (l : Int)] X _ from rnf_alone h l hl hlm).mono fun e Y he => ?_
  obtain ⟨rfl, h2⟩ := he
  have hst := hA.stop
  rw [hA.st] at h2 ⊢
  rw [hA.to]
  exact ⟨by show Ending.returned (.tuple #[_, .bool (!(PinM.next E').isSome)]) = _; rw [hst]; rfl, h2⟩
theorem rnd_pres (h : Rnd W a p s q v x B hp D ks X) (hm : (r, pnrO E) ∈ ks) : Calls Try.prog 39 #[.pointer (some ⟨r, 0, none⟩)] X fun e Y => e = .returned (.tuple #[pndV (resP E).1.1 (resP E).1.2.1 (resP E).1.2.2, .bool (resP E).2]) ∧ Rnd W a p s q v x B hp D ks Y ∧ Below X.heap.size X Y :=
  (pres_any X (h.kept hm)).mono fun _ _ he => ⟨he.1, h.below he.2, he.2⟩
theorem rnd_pin (h : Rnd W a p s q v x B hp D ks X) (i : Int) : Calls Try.prog 17 #[cfV a p s q v x, .int .i64 i] X (fun e Y => e = .returned (.int .i64 (pinW a p s q v i)) ∧ Rnd W a p s q v x B hp D ks Y) :=
  (pin_any a p s q v x i X).mono fun _ _ he => ⟨he.1, h.below he.2⟩
theorem rnd_free (h : Rnd W a p s q v x B hp D ks X) (i : Int) : Calls Try.prog 40 #[cfV a p s q v x, .int .i64 i] X (fun e Y => e = .returned (actOf (freeE (pinW a p s q v i))) ∧ Rnd W a p s q v x B hp D ks Y) :=
  (pfree_any X a p s q v x i).mono fun _ _ he => ⟨he.1, h.below he.2⟩
/-- A load of a cell of the control block. -/
theorem rnd_cload (h : Rnd W a p s q v x B hp D ks X) (hC : Ctl n D G) {c : Nat} (hc : c < n) :
    Calls Try.prog 16 #[.pointer (some ⟨hp, 0, none⟩), .int .u64 1, .int .i64 (c : Int)] X (fun e Y => e = .returned (TwoV (G c) 0) ∧ Rnd W a p s q v x B hp D ks Y) := by
  have hs := hC.spot hc
  have e1 : loadV D 1 (c : Int) = G c := by unfold loadV; rw [if_pos hs, hC.word hc]
  have e2 : loadD D 1 (c : Int) = D := by unfold loadD; rw [if_pos hs]
  refine (show Calls Try.prog 16 #[.pointer (some ⟨hp, 0, none⟩), .int .u64 ((1 : Nat) : Int), .int .i64 (c : Int)] X _ from rnd_load h (by rw [hC.faults]; omega) 1 (by omega) (c : Int)).mono fun e Y he => ?_
  rw [e1, e2, hs] at he
  exact he
/-- A store. -/
theorem rnd_cstore (h : Rnd W a p s q v x B hp D ks X) (hC : Ctl n D G) {c : Nat} (hc : c < n) {u : Int} (hu : 0 ≤ u ∧ u < 18446744073709551616) :
    Calls Try.prog 11 #[.pointer (some ⟨hp, 0, none⟩), .int .u64 1, .int .i64 (c : Int), .int .u64 u] X (fun e Y => e = .returned (.int .i64 0) ∧ ∃ D', Ctl n D' (upd G c u) ∧ D'.L.length = D.L.length ∧ Rnd W a p s q v x B hp D' ks Y) := by
  have hs := hC.spot hc
  have e2 : storeD D 1 (c : Int) u = D.word 1 c u := by unfold storeD; rw [if_pos hs]
  have hp := hC.put hc hu
  refine (rnd_store h (by rw [hC.faults]; omega) (c : Int) u).mono fun e Y he => ?_
  rw [e2, hs] at he
  exact ⟨he.1, _, hp.1, hp.2, he.2⟩
/-- An act of the control block. -/
theorem rnd_does (h : Rnd W a p s q v x B hp D ks X) (hf : D.faults = 0) (hm : D.L.length ≤ 1000) {y : ActD} (hy : y.fits) {w : Int} {G' : Nat → Int} (hD : DoesC n D y w G') :
    Calls Try.prog 21 #[.pointer (some ⟨hp, 0, none⟩), actOf y] X (fun e Y => e = .returned (gotV w ⟨#[]⟩) ∧ Rnd W a p s q v x B hp (doN D y) ks Y) := by
  obtain ⟨f, h1, h2⟩ := h.hh
  refine (do_any X h1 (by rw [hf]; omega) (by omega) y hy).mono fun e Y he => ?_
  rw [hD.word, hD.text] at he
  obtain ⟨f', e1, h3, st⟩ := he
  exact ⟨e1, h.turn h1 h2 h3 st⟩
end

/-! ### the example -/
theorem pnaw_right : rightC 2 2 3 2 1 = true := by decide
theorem pnaw_size : (((sizeW 2 2 3 2 1).toNat : Nat) : Int) = sizeW 2 2 3 2 1 := by decide

theorem run_field_kind (W : World) (k b c o n : Int) (t : ByteArray) : (Instr.field 59 (actV k b c o n t) 0).run Try.prog W = .ok (.int .i64 k) W := by
  kernel_rfl
theorem eqA_pnone (w : World) : (binOp .eql 59 (actOf noAct) (actV 0 0 0 0 0 ⟨#[]⟩)).run Try.prog w = .ok (.bool true) w := by
  rw [eqA_run]; simp [noAct]
attribute [local go_sem ↓] eqPnd_run eqA_pnone run_field_kind

end Go.Proofs.Ytpnfbabiibopnaa
