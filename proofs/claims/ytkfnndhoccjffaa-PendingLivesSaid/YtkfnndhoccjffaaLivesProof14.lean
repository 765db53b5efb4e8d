/-
  Whatever is put in and dropped, in whatever order, a row has what the document says, and room that it says; for every number, every row of entries and every rows of names.
  No condition of ours.
-/
import Derived.Test.YtkfnndhoccjffaaLiveswalk
namespace Go.Proofs.Ytkfnndhoccjffaa
open Go.ChangeShapes Go.WideShapes Go.ChangeAt Go.RowKit Go.Deep

/-- Rows of names. -/
theorem drops_open {H : Type} {enc : TypeId × Value → H} {W : World} {fuel : Nat} {cs : List Value} {x : DataW H × List MemPlace} (hf : DataW.trod enc Try.prog W 0 (fun _ => true) true fuel 23 cs = some x) :
    ∃ (pa : Option Addr) (len cap : Nat) (Ds : List DV), cs = [.slice pa len cap] ∧ Ds.length = len ∧ Sd W pa Ds := by
  have h1 : Try.prog.cellsOf 42 = 1 := by kernel_rfl
  rcases open_slice Try.underlying23 hf with ⟨hcs, _⟩ | ⟨a, len, cap, m, n, D, Pl, hcs, hb, hl, hm, hmm, hx, hi⟩
  · exact ⟨none, 0, 0, [], hcs, rfl, fun _ h => absurd h (Nat.not_lt_zero _)⟩
  · have hmm' : m = cap := by simpa using hmm
    subst hmm'
    rw [h1] at hi
    have el : ∀ i, i < len → ∃ d : DV, W.cell? (a.add i) = some (.slice d.q d.m d.c) ∧ Si W d.q d.L ∧ d.L.length = d.m ∧ (∀ y ∈ d.L, y.fits) ∧ d.m ≤ 9223372036854775807 := by
      intro i hil
      obtain ⟨cs', hc, ht⟩ := hi i (by omega)
      obtain ⟨_, hcl, hat⟩ := World.cells?_some hc
      obtain ⟨q, m', c', L, rfl, hL, hS, hF, hM⟩ := ids_open ht
      have c0 := hat 0 (by omega)
      simp only [Go.Deep.add_add, Nat.mul_one, Nat.add_zero] at c0
      exact ⟨⟨q, m', c', L⟩, by simpa using c0, hS, hL, hF, by simpa [maxLen] using hM⟩
    have hcho : ∀ i, ∃ d : DV, i < len → (W.cell? (a.add i) = some (.slice d.q d.m d.c) ∧ Si W d.q d.L ∧ d.L.length = d.m ∧ (∀ y ∈ d.L, y.fits) ∧ d.m ≤ 9223372036854775807) := fun i => by
      by_cases hil : i < len
      · obtain ⟨o, ho⟩ := el i hil
        exact ⟨o, fun _ => ho⟩
      · exact ⟨⟨none, 0, 0, []⟩, fun h => absurd h hil⟩
    obtain ⟨O, hO⟩ := Classical.axiomOfChoice hcho
    refine ⟨some a, len, m, (List.range len).map O, hcs, by simp, fun i hi' => ?_⟩
    have hil : i < len := by simpa using hi'
    obtain ⟨c0, c1, c2, c3, c4⟩ := hO i hil
    have hsp : a.spot = none := by
      have h00 := (hO 0 (by omega)).1
      rw [add_zero'] at h00
      have h01 := (addr_plain h00).1
      rw [h01]
    have hab : a = ⟨a.block, a.off, none⟩ := addr_of_spot a hsp
    rw [hab, Addr.add_lit] at c0
    refine ⟨a.block, a.off, by rw [← hab], ?_, ?_, ?_, ?_, ?_⟩
    · simpa using c0
    · simpa using c1
    · simpa using c2
    · simpa using c3
    · simpa using c4

set_option maxRecDepth 100000 in
set_option maxHeartbeats 1600000 in
theorem lives_lifted (os : Os) (started : os.Started) (H : Type) (enc : TypeId × Value → H) :
    ReturnsInHanded {} Try.checked os 3 .any (Rows.pendingLivesSpec.pre6 enc Try.prog Try.f3 Rows.pendingLivesRow.domain false) (Rows.pendingLivesSpec.post enc Try.prog Try.f3 false true false false) := by
  refine returnsInHanded_of_change_sized (C := Try.checked) own_knob started (by kernel_rfl) Try.func3
    (ChangeSpec.witness6 (enc := enc) (C := Try.checked) false ⟨#[], #[.int .i64 0, .slice none 0 0, .slice none 0 0], []⟩ 8 (by kernel_rfl) (by kernel_rfl) (by kernel_rfl) (by kernel_rfl)) ?_
  intro W base args ds gs before hval0 hW hcnd hsz0 _
  have hsz : (DataW.weightsEach Try.prog (Try.f3.params.toList ++ Rows.pendingLivesSpec.plain.varTypes Try.prog) (ds ++ gs)).all (· ≤ reachBytes) = true := hsz0
  clear hsz0
  have hval : ∀ (j : Nat) t v, Try.f3.params[j]? = some t → args[j]? = some v → Value.okWide Try.prog W .any base t v := hval0
  have hW' := hW
  obtain ⟨p, q, hA0, hV, rfl, hfz, hnd⟩ := hW
  have hA : DataW.TrodAll enc Try.prog W 0 (fun _ => true) true Try.f3.params.toList args.toList ds p := hA0
  rw [Try.params3] at hA hval hsz
  obtain ⟨v0, vs0, d0, ds0, p0, q0, hargs, rfl, rfl, h0, r0⟩ := trodAll_cons hA
  obtain ⟨v1, vs1, d1, ds1, p1, q1, rfl, rfl, rfl, h1, r1⟩ := trodAll_cons r0
  obtain ⟨v2, vs2, d2, ds2, p2, q2, rfl, rfl, rfl, h2, r2⟩ := trodAll_cons r1
  obtain ⟨rfl, rfl, rfl⟩ := trodAll_nil r2
  obtain rfl : args = #[v0, v1, v2] := by cases args; simp_all
  obtain ⟨rfl, rfl⟩ := trodVars_none hV
  obtain ⟨a0, rfl, rfl, rfl, w0⟩ := open_int Try.underlying3 (hval 0 3 v0 rfl rfl) h0
  obtain ⟨pa, na, ca, rfl⟩ := okWide_slice Try.underlying22 (hval 1 22 v1 rfl rfl)
  obtain ⟨pb, nb, cb, rfl⟩ := okWide_slice Try.underlying23 (hval 2 23 v2 rfl rfl)
  obtain ⟨f1, t1⟩ := h1
  obtain ⟨f2, t2⟩ := h2
  obtain ⟨pa', na', ca', R, E, e0, hR, sR, hE, mR⟩ := entries_open t1 (fun n hn => of_decide_eq_true (List.all_eq_true.1 hsz _ (DataW.weights_mem_each (j := 1) (t := 22) rfl rfl n hn)))
  obtain ⟨pb', nb', cb', D, e1, hD, sD⟩ := drops_open t2
  simp [Value.cells] at e0 e1
  obtain ⟨rfl, rfl, rfl⟩ := e0
  obtain ⟨rfl, rfl, rfl⟩ := e1
  have hlt1 : ∀ x ∈ p1, x.block < W.heap.size := fun x hx => hW'.lt x (by simp [hx])
  have hlt2 : ∀ x ∈ p2, x.block < W.heap.size := fun x hx => hW'.lt x (by simp [hx])
  clear hA0 hval0
  simp only [List.append_nil] at hW'
  refine (lives_walk a0 pa pb na ca nb cb R E D W sR hR hE (by simpa [maxLen] using mR) sD hD).mono fun e W' ⟨he, hB⟩ => ?_
  subst he
  refine ⟨_, rfl, _, _, _, [], [] ++ (p1 ++ (p2 ++ [])), [], (by simpa using hW'), ?_, ?_, ?_, hB.frame _, fun h => by cases h⟩
  · exact trodAll_cons_mk (shut_bool Try.underlying4 _) trodAll_mk0
  · exact trodAll_cons_mk (shut_int Try.underlying3 w0) (trodAll_cons_mk (Below.trod laid_out (by kernel_rfl) (of_decide_eq_true (by kernel_rfl)) ⟨f1, t1⟩ hB hlt1) (trodAll_cons_mk (Below.trod laid_out (by kernel_rfl) (of_decide_eq_true (by kernel_rfl)) ⟨f2, t2⟩ hB hlt2) trodAll_mk0))
  · exact rfl

/-- The statement. -/
theorem pendingLives_holds : Rows.PendingLivesSaid :=
  OpenClaim.holds_of_wide 3 Try.f3 rfl rfl rfl rfl rfl rfl rfl ⟨rfl, rfl, rfl, rfl, rfl⟩ rfl rfl rfl rfl rfl (by kernel_rfl) Try.func3 (by kernel_rfl)
    (of_decide_eq_true (by kernel_rfl)) (by unfold Func.isWrapper; first | (rw [if_pos (by decide +kernel)]; kernel_rfl) | (rw [if_neg (by decide +kernel)]; exact ⟨rfl, rfl⟩))
    (fun os started H enc _ => lives_lifted os started H enc)

#print axioms pendingLives_holds
end Go.Proofs.Ytkfnndhoccjffaa
