/-
  Runs of a routine step by step; a heap's calls beside a routine, whatever kind it is.
-/
import Derived.Test.YtgigjbngocfkbaaMalone
namespace Go.Proofs.Ytgigjbngocfkbaa
open Go Go.RowKit

/-! ### closed runs, step by step -/

/-- Where nothing more may be done nothing more is. -/
theorem mstop_stays {σ : Type} {M : Mach σ} {S : PmS σ} {n : Nat} (h : stepM M (stM M S n) = none) : ∀ m, toM M S (n + m) = toM M S n ∧ stM M S (n + m) = stM M S n
  | 0 => ⟨rfl, rfl⟩
  | m + 1 => by
    obtain ⟨h1, h2⟩ := mstop_stays h m
    refine ⟨?_, ?_⟩
    · show toM M S (n + m) ++ (stepM M (stM M S (n + m))).toList = _
      rw [h1, h2, h]; simp
    · show advM M (stM M S (n + m)) = _
      unfold advM
      rw [h2, h]

theorem stM_succ {σ : Type} {M : Mach σ} {S T U : PmS σ} {n : Nat} (h : stM M S n = T ∧ (toM M S n).length = n) (ha : advM M T = U ∧ (stepM M T).isSome = true) : stM M S (n + 1) = U ∧ (toM M S (n + 1)).length = n + 1 := by
  refine ⟨?_, ?_⟩
  · show advM M (stM M S n) = U
    rw [h.1]; exact ha.1
  · show (toM M S n ++ (stepM M (stM M S n)).toList).length = n + 1
    rw [h.1, List.length_append, h.2]
    obtain ⟨x, hx⟩ := Option.isSome_iff_exists.1 ha.2
    rw [hx]; rfl

/-! ### beside a heap -/

section
variable {σ : Type} {M : Mach σ} {W : World} {B p r n : Nat} {S : PmS σ} {f : Nat → Prop}

theorem plm_load (h : PlM M W B p r S n f) (k : Nat) (hk : k < 18446744073709551616) (i : Int) (hs : spot S.D.L k i = 0) :
    Calls Try.prog 16 #[.pointer (some ⟨p, 0, none⟩), .int .u64 (k : Int), .int .i64 i] W (PmR M B p r S n (TwoV (wordAt S.D.L k i) 0) f W) := by
  obtain ⟨fh, fr, h1, h2, h3, rfl, h4⟩ := h
  refine (load_any W h1 (by have := h4.faults; omega) k hk i).mono fun e W' he => ?_
  have e1 : loadV S.D k i = wordAt S.D.L k i := by unfold loadV; rw [if_pos hs]
  have e2 : loadD S.D k i = S.D := by unfold loadD; rw [if_pos hs]
  rw [e1, e2, hs] at he
  obtain ⟨f', rfl, hp, hst⟩ := he
  exact ⟨_, rfl, ⟨f', fr, hp, M.stays h2 (fun j hj => hst.block j (M.lt h2 j hj) (fun hf => h3 j hf hj)), fun j hj hj' => (hst.foot j hj).elim (fun hf => h3 j hf hj') (fun hge => by have := M.lt h2 j hj'; omega), rfl, h4⟩, step_or hst fr⟩

theorem plm_words (h : PlM M W B p r S n f) (k : Nat) (hk : k < 18446744073709551616) (hs : there S.D.L k = 0) :
    Calls Try.prog 38 #[.pointer (some ⟨p, 0, none⟩), .int .u64 (k : Int)] W (PmR M B p r S n (.tuple #[.string (textAt S.D.L k), .int .i64 0]) f W) := by
  obtain ⟨fh, fr, h1, h2, h3, rfl, h4⟩ := h
  refine (words_any W h1 (by have := h4.faults; omega) k hk).mono fun e W' he => ?_
  have e2 : wordsD S.D k = S.D := by unfold wordsD; rw [if_pos hs]
  rw [e2, hs] at he
  obtain ⟨f', rfl, hp, hst⟩ := he
  exact ⟨_, rfl, ⟨f', fr, hp, M.stays h2 (fun j hj => hst.block j (M.lt h2 j hj) (fun hf => h3 j hf hj)), fun j hj hj' => (hst.foot j hj).elim (fun hf => h3 j hf hj') (fun hge => by have := M.lt h2 j hj'; omega), rfl, h4⟩, step_or hst fr⟩

theorem plm_size (h : PlM M W B p r S n f) (k : Nat) (hk : k < 18446744073709551616) : Calls Try.prog 55 #[.pointer (some ⟨p, 0, none⟩), .int .u64 (k : Int)] W fun e W' => e = .returned (.int .i64 (sizeAt S.D.L k)) ∧ W = W' := by
  obtain ⟨fh, fr, h1, _⟩ := h
  exact size_any W h1 k hk

theorem plm_faults (h : PlM M W B p r S n f) : Calls Try.prog 19 #[.pointer (some ⟨p, 0, none⟩)] W fun e W' => e = .returned (.int .i64 S.D.faults) ∧ W = W' := by
  obtain ⟨fh, fr, h1, _⟩ := h
  exact faults_any W h1

/-- A heap beside it, by itself. -/
theorem plm_heap (h : PlM M W B p r S n f) : ∃ fh, Hp W B p S.D fh ∧ ∀ k, fh k → f k := by
  obtain ⟨fh, fr, h1, h2, _, rfl, _⟩ := h
  exact ⟨fh, h1, fun k hk => .inl hk⟩

/-- The routine by itself. -/
theorem plm_at (h : PlM M W B p r S n f) : ∃ fr, M.At W B r S.s fr := by
  obtain ⟨fh, fr, h1, h2, _⟩ := h
  exact ⟨fr, h2⟩

/-- A routine that was just made. -/
theorem plm_start {X Y : World} {D : HpD} {E : σ} {fh fr : Nat → Prop} (h : Hp X B p D fh) (hF : FewD D n) (hA : M.At Y B r E fr) (hge : ∀ k, fr k → X.heap.size ≤ k) (hb : Below X.heap.size X Y) : PlM M Y B p r ⟨D, E⟩ n (fun k => fh k ∨ fr k) :=
  ⟨fh, fr, h.below hb, hA, fun j hj hj' => by have := h.lt j hj; have := hge j hj'; omega, rfl, hF⟩

end

theorem few_empty (n : Nat) (hn : n ≤ 900000) : FewD emptyD n := ⟨by show 0 + n ≤ _; omega, by show 0 + n ≤ _; omega, fun b hb => by cases hb⟩

end Go.Proofs.Ytgigjbngocfkbaa
