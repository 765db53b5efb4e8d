/-
  Malone, Mrun, Cfg, Fld, in one text.
-/
import Derived.Test.YtpnfbabiibopnaaQ01
import Derived.Test.YtpnfbabiibopnaaQ05
import Derived.OwnWalkIn
import Derived.TacticsInMore
import Derived.LoopNIn
import Derived.LoopIn
import Derived.Tactics
import Derived.WalkKit
import Derived.WalkLawsBesides
import Derived.Laws.StructEq
import Derived.Laws.ResultCell
import Derived.Laws.NewBlocks
import Derived.LoopTactic
import Derived.BigQuiet
import Derived.Deep.QuietTactic
import Derived.Deep.RegionHeld3
import Derived.Deep.RegionLaw
import Derived.Outline
import Derived.Lib.Hide
import Derived.KernelRfl
/-! drive's Steps and Alone, of a routine of any kind. -/
namespace Go.Proofs.Ytpnfbabiibopnaa
open Go Go.RowKit
attribute [local go_sem] Oper.semAt_some

section
variable {σ : Type}
/-- Behind one pick. -/
def advM (M : Mach σ) (S : PmS σ) : PmS σ := match stepM M S with | some _ => nextM M S | none => S
/-- Behind n picks; and what they told. -/
def stM (M : Mach σ) (S : PmS σ) : Nat → PmS σ
  | 0 => S
  | n + 1 => advM M (stM M S n)
def toM (M : Mach σ) (S : PmS σ) : Nat → List StepD
  | 0 => []
  | n + 1 => toM M S n ++ (stepM M (stM M S n)).toList
theorem toM_walk (M : Mach σ) (S : PmS σ) : ∀ n, (toM M S n).length ≤ n ∧ (∀ j, j < (toM M S n).length → stepM M (stM M S j) = (toM M S n)[j]?) ∧ ((toM M S n).length < n → stepM M (stM M S (toM M S n).length) = none) ∧ stM M S n = stM M S (toM M S n).length
  | 0 => ⟨Nat.le_refl _, fun j hj => absurd hj (Nat.not_lt_zero _), fun h => absurd h (Nat.lt_irrefl _), rfl⟩
  | n + 1 => by
    obtain ⟨h1, h2, h3, h4⟩ := toM_walk M S n
    cases hs : stepM M (stM M S n) with
    | some s =>
      have hl : (toM M S n).length = n := by
        rcases Nat.lt_or_ge (toM M S n).length n with hlt | hge
        · have := h3 hlt; rw [← h4, hs] at this; cases this
        · omega
      have ht : toM M S (n + 1) = toM M S n ++ [s] := by show toM M S n ++ (stepM M (stM M S n)).toList = _; rw [hs]; rfl
      have hl2 : (toM M S (n + 1)).length = n + 1 := by rw [ht]; simp [hl]
      refine ⟨by omega, fun j hj => ?_, fun h => by omega, by rw [hl2]⟩
      rw [ht]
      rcases Nat.lt_or_ge j n with hj' | hj'
      · rw [List.getElem?_append_left (by omega)]; exact h2 j (by omega)
      · obtain rfl : j = n := by omega
        rw [List.getElem?_append_right (by omega), hl, hs]; simp
    | none =>
      have ht : toM M S (n + 1) = toM M S n := by show toM M S n ++ (stepM M (stM M S n)).toList = _; rw [hs]; simp
      have hst : stM M S (n + 1) = stM M S n := by show advM M (stM M S n) = _; unfold advM; rw [hs]
      rw [ht, hst]
      refine ⟨by omega, h2, fun _ => ?_, h4⟩
      rcases Nat.lt_or_ge (toM M S n).length n with hlt | hge
      · exact h3 hlt
      · have : (toM M S n).length = n := by omega
        rw [this]; exact hs
theorem toM_len (M : Mach σ) (S : PmS σ) (n : Nat) : (toM M S n).length ≤ n := (toM_walk M S n).1

end

abbrev stepO (s : StepD) : Obj := .cells #[.int .i64 0, .int .i64 s.act.kind, .int .u64 (s.act.block : Int), .int .i64 s.act.cell, .int .u64 s.act.old, .int .u64 s.act.new, .string s.act.text, .int .u64 s.w, .string s.t] 65 (0, 0)

theorem steps_any (pa : Option Addr) (rv : Value) (hrv : (∃ tid r, rv = rowV tid r) ∨ rv = .nilIface) (m : Int) (w : World) :
    Calls Try.prog 34 #[.pointer pa, rv, .int .i64 m] w fun e w' =>
      e = .returned (.func (.func 58) #[] #[.pointer (some ⟨w.heap.size + 1 + 1, 0, none⟩), .pointer (some ⟨w.heap.size, 0, none⟩), .pointer (some ⟨w.heap.size + 1, 0, none⟩)]) ∧
      w' = ((w.alloc (.cells #[.pointer pa] 28)).alloc (.cells #[rv] 93)).alloc (.cells #[.int .i64 m] 3) := by
  rcases hrv with ⟨tid, r, rfl⟩ | rfl
  all_goals
    go_enter Try.func34, Try.ntmps34
    go_wp2
    go_ret
    exact ⟨rfl, rfl⟩

/-- What the iterator has, and the boxes that it reads. -/
def OwnS (bm bh br : Nat) (m : Nat) (pa : Option Addr) (rv : Value) (Own0 : Nat → (Nat → Prop) → World → Prop) (j : Nat) (g : Nat → Prop) (W : World) : Prop :=
  Own0 j g W ∧ W.cell? ⟨bm, 0, none⟩ = some (.int .i64 (m : Int)) ∧ W.cell? ⟨bh, 0, none⟩ = some (.pointer pa) ∧ W.cell? ⟨br, 0, none⟩ = some rv ∧ ¬ g bm ∧ ¬ g bh ∧ ¬ g br
def roS (bm bh br : Nat) (ro : Nat → Prop) (k : Nat) : Prop := ro k ∨ k = bm ∨ k = bh ∨ k = br
section
variable {bm bh br m : Nat} {pa : Option Addr} {rv : Value} {Own0 : Nat → (Nat → Prop) → World → Prop} {ro : Nat → Prop}
theorem OwnS.stable (h : StableO Own0 ro) : StableO (OwnS bm bh br m pa rv Own0) (roS bm bh br ro) := by
  rintro j g W W' ⟨h0, h1, h2, h3, h4⟩ hz hs
  have hc : ∀ b, (b = bm ∨ b = bh ∨ b = br) → W'.cell? ⟨b, 0, none⟩ = W.cell? ⟨b, 0, none⟩ := fun b hb => World.cell?_of_block (a := ⟨b, 0, none⟩) (hs b (.inr (.inr hb)))
  exact ⟨h _ _ _ _ h0 hz (fun k hk => hs k (hk.elim .inl (fun hr => .inr (.inl hr)))), (hc _ (.inl rfl)).trans h1, (hc _ (.inr (.inl rfl))).trans h2, (hc _ (.inr (.inr rfl))).trans h3, h4⟩
theorem OwnS.bound (h : BoundO Own0 ro) : BoundO (OwnS bm bh br m pa rv Own0) (roS bm bh br ro) := by
  rintro j g W ⟨h0, h1, h2, h3, h4⟩ k hk
  rcases hk with hk | hk | rfl | rfl | rfl
  · exact h _ _ _ h0 k (.inl hk)
  · exact h _ _ _ h0 k (.inr hk)
  · exact cell_lt h1
  · exact cell_lt h2
  · exact cell_lt h3
end

/-- What Next tells of such a routine: the next of xs, or that there is none. -/
def NxtE (Own0 : Nat → (Nat → Prop) → World → Prop) (xs : List StepD) (g : Nat → Prop) (j : Nat) (W : World) (e : Ending) (W' : World) : Prop :=
  ∃ g', Step g g' W W' ∧ ((∃ s, xs[j]? = some s ∧ e = .returned (.tuple #[stepV 0 s, .bool true]) ∧ Own0 (j + 1) g' W') ∨ (j = xs.length ∧ e = .returned (.tuple #[zeroS, .bool false]) ∧ Own0 j g' W'))

/-- Between two rounds. -/
def MidS (J : List StepD → (Nat → Prop) → World → Prop) (Own : Nat → (Nat → Prop) → World → Prop) (ro : Nat → Prop) (xs : List StepD) (f g : Nat → Prop) (W : World) (k : Nat) (wr : World) : Prop :=
  ∃ fk gk, Step (fun j => f j ∨ g j) (fun j => fk j ∨ gk j) W wr ∧ (∀ j, fk j → ¬ gk j ∧ ¬ ro j) ∧ J (xs.take k) fk wr ∧ Own k gk wr

set_option maxRecDepth 100000 in
set_option maxHeartbeats 2000000 in
theorem steps_iter (F : Fence) (n : Nat) (hF : ∀ k, F.fn k) (hro : F.round = none) (hW : Hid (∀ n f args w R, Calls Try.prog f args w R → CallsIn F n Try.prog f args w R)) (hn : 2 ≤ n) (bm bh br m : Nat) (pa : Option Addr) (rv : Value) (xs : List StepD)
    (Own0 : Nat → (Nat → Prop) → World → Prop) (ro : Nat → Prop) (hS : StableO Own0 ro) (hB : BoundO Own0 ro) (hxm : xs.length ≤ m) (hm2 : m ≤ 1000000)
    (HN : Hid (∀ j g W, Own0 j g W → j ≤ xs.length → j < m → Calls Try.prog 20 #[.pointer pa, rv] W (NxtE Own0 xs g j W))) :
    IterO F n Try.prog 58 #[.pointer (some ⟨bm, 0, none⟩), .pointer (some ⟨bh, 0, none⟩), .pointer (some ⟨br, 0, none⟩)] (fun s : StepD => #[stepV 0 s]) xs (OwnS bm bh br m pa rv Own0) (roS bm bh br ro) := by
  intro l J Jx W f g hJ hJx bJ hO hap hY h0
  have h1n : 1 ≤ n := by omega
  have hSS := Lib.hid (OwnS.stable (bm := bm) (bh := bh) (br := br) (m := m) (pa := pa) (rv := rv) hS)
  have hBB := Lib.hid (OwnS.bound (bm := bm) (bh := bh) (br := br) (m := m) (pa := pa) (rv := rv) hB)
  have HM0 := Lib.hid (show MidS J (OwnS bm bh br m pa rv Own0) (roS bm bh br ro) xs f g W 0 W from ⟨f, g, Step.refl _ _, hap, h0, hO⟩)
  have hcm := hO.2.1
  have hm1 : (m : Int) ≤ 1000000 := by omega
  clear hO hap h0 hS hB
  refine callsIn_of_wp Try.func58 rfl (hF _) ?_ hro
  simp only [Try.ntmps58, List.size_toArray, List.length_cons, List.length_nil, Nat.reduceAdd, Nat.reduceSub, Array.replicate_succ, Array.replicate_zero, List.push_toArray, List.append_toArray, List.nil_append, List.cons_append]
  gi_wp2_with fail
  clear hcm
  gi_loopw [8] (fun s wr => ∃ k : Nat, s = .int .i64 (k : Int) ∧ k ≤ xs.length ∧ Hid (MidS J (OwnS bm bh br m pa rv Own0) (roS bm bh br ro) xs f g W k wr)) (fun s _ => m - (intOf s).toNat)
  case atStart => exact ⟨0, rfl, Nat.zero_le _, HM0⟩
  case round =>
    clear HM0
    obtain ⟨k, rfl, hkx, HM⟩ := hrel
    have hk0 : (0 : Int) ≤ (k : Int) := by omega
    obtain ⟨fk, gk, hst, happ, hJk, hOk⟩ := HM.out
    by_cases hlt : k < m
    · have hk1 : (k : Int) < (m : Int) := by omega
      have hch := hOk.2.2.1
      have hcr := hOk.2.2.2.1
      have HX := Lib.hid (HN.out k gk wr hOk.1 hkx hlt)
      have HOk := Lib.hid hOk
      have HJk := Lib.hid hJk
      have HSt := Lib.hid hst
      have HAp := Lib.hid happ
      clear hst happ hJk hOk HM
      gi_wp2_with fail
      refine (hW.out _ _ _ _ _ HX.out).mono ?_
      rintro en w2 ⟨g2, s2, (⟨s, hs, rfl, hO2⟩ | ⟨rfl, rfl, hO2⟩)⟩
      · obtain ⟨hkl, hs'⟩ := List.getElem?_eq_some_iff.1 hs
        have hcut : xs = xs.take k ++ s :: xs.drop (k + 1) := by rw [← hs', ← List.drop_eq_getElem_cons hkl, List.take_append_drop]
        have HSn := Lib.hid (show xs.take (k + 1) = xs.take k ++ [s] from by rw [← hs']; exact List.take_succ_eq_append_getElem hkl)
        have HS2 := Lib.hid ((HSt.out.trans (step_or' s2 fk)).trans (Step.of_below (below_alloc w2 (stepO s))))
        have hfl := bJ _ _ _ HJk.out
        have HA2 := Lib.hid (show ∀ j, fk j → ¬ g2 j ∧ ¬ roS bm bh br ro j from fun j hj => ⟨fun h2 => (s2.foot j h2).elim (fun h3 => (HAp.out j hj).1 h3) (fun h3 => by have := hfl j hj; omega), (HAp.out j hj).2⟩)
        have hJ2 : J (xs.take k) fk (w2.alloc (stepO s)) := hJ _ _ _ _ HJk.out (Nat.le_trans s2.size (below_alloc w2 _).size) (fun j hj => ((below_alloc w2 _).block j (Nat.lt_of_lt_of_le (hfl j hj) s2.size)).trans (s2.block j (hfl j hj) (HAp.out j hj).1))
        have hO3 : OwnS bm bh br m pa rv Own0 (k + 1) g2 w2 := by
          obtain ⟨-, q1, q2, q3, q4, q5, q6⟩ := HOk.out
          have hl := hBB.out _ _ _ HOk.out
          have hro1 : ∀ b, (b = bm ∨ b = bh ∨ b = br) → ¬ gk b → w2.cell? ⟨b, 0, none⟩ = wr.cell? ⟨b, 0, none⟩ ∧ ¬ g2 b := fun b hb hg => ⟨World.cell?_of_block (a := ⟨b, 0, none⟩) (s2.block b (hl b (.inr (.inr hb))) hg), s2.off (hl b (.inr (.inr hb))) hg⟩
          exact ⟨hO2, (hro1 _ (.inl rfl) q4).1.trans q1, (hro1 _ (.inr (.inl rfl)) q5).1.trans q2, (hro1 _ (.inr (.inr rfl)) q6).1.trans q3, (hro1 _ (.inl rfl) q4).2, (hro1 _ (.inr (.inl rfl)) q5).2, (hro1 _ (.inr (.inr rfl)) q6).2⟩
        have HO3 := Lib.hid (hSS.out _ _ _ _ hO3 (below_alloc w2 (stepO s)).size (fun j hj => (below_alloc w2 _).block j (hBB.out _ _ _ hO3 j hj)))
        obtain ⟨fn, tmps, assign, body, hy, hRd⟩ := hY (xs.take k) s (xs.drop (k + 1)) fk _ hcut hJ2
        have HFl := Lib.hid (fun j hj => Nat.lt_of_lt_of_le (hfl j hj) (Nat.le_trans s2.size (below_alloc w2 (stepO s)).size))
        have HKl := Lib.hid hkl
        clear s2 hfl hJ2 hO3 hO2 hch hcr HX hcut hs hs' hkl
        gi_wp2_with fail
        refine hRd.mono ?_
        have fin : ∀ (f3 : Nat → Prop) (W3 : World), Step fk f3 (w2.alloc (stepO s)) W3 → Step (fun j => f j ∨ g j) (fun j => f3 j ∨ g2 j) W W3 ∧ (∀ j, f3 j → ¬ g2 j ∧ ¬ roS bm bh br ro j) ∧ OwnS bm bh br m pa rv Own0 (k + 1) g2 W3 := fun f3 W3 hs3 => by
          have hl := hBB.out _ _ _ HO3.out
          refine ⟨HS2.out.trans (step_or hs3 g2), fun j hj => ?_, hSS.out _ _ _ _ HO3.out hs3.size (fun j hj => hs3.block j (hl j hj) (fun hf => hj.elim (HA2.out j hf).1 (HA2.out j hf).2))⟩
          rcases hs3.foot j hj with h | h
          · exact HA2.out j h
          · exact ⟨fun h2 => by have := hl j (.inl h2); omega, fun h2 => by have := hl j (.inr h2); omega⟩
        have HFin := Lib.hid fin
        clear fin
        rintro e W3 (⟨rfl, f3, hs3, hJ3⟩ | ⟨rfl, f3, hs3, hJ3⟩)
        · have HM3 := Lib.hid (show MidS J (OwnS bm bh br m pa rv Own0) (roS bm bh br ro) xs f g W (k + 1) W3 from ⟨f3, g2, (HFin.out _ _ hs3).1, (HFin.out _ _ hs3).2.1, by rw [HSn.out]; exact hJ3, (HFin.out _ _ hs3).2.2⟩)
          clear hs3 hJ3
          gi_wp2_with fail
          go_roundw
          case rel => exact ⟨k + 1, by go_num, HKl.out, HM3⟩
          case measure => simp [intOf]; omega
        · have HE3 := Lib.hid (show OwnEnds J Jx (OwnS bm bh br m pa rv Own0) (roS bm bh br ro) xs f g W (.returned (.tuple #[])) W3 from ⟨⟨_, rfl⟩, xs.take (k + 1), f3, g2, (HFin.out _ _ hs3).1, (HFin.out _ _ hs3).2.1, by
            rw [List.length_take, Nat.min_eq_left (by have := HKl.out; omega)]; exact (HFin.out _ _ hs3).2.2, .inr ⟨List.take_prefix _ _, by rw [HSn.out]; exact hJ3⟩⟩)
          clear hs3 hJ3
          gi_wp2_with fail
          exact bodyPost_ret (results_none rfl _ _ _) rfl HE3.out
      · have HE3 := Lib.hid (show OwnEnds J Jx (OwnS bm bh br m pa rv Own0) (roS bm bh br ro) xs f g W (.returned (.tuple #[])) (w2.alloc zeroO) from by
          have hfl := bJ _ _ _ HJk.out
          have hJ2 : J xs fk (w2.alloc zeroO) := by
            have := HJk.out
            rw [List.take_length] at this
            exact hJ _ _ _ _ this (Nat.le_trans s2.size (below_alloc w2 _).size) (fun j hj => ((below_alloc w2 _).block j (Nat.lt_of_lt_of_le (hfl j hj) s2.size)).trans (s2.block j (hfl j hj) (HAp.out j hj).1))
          have hO3 : OwnS bm bh br m pa rv Own0 xs.length g2 w2 := by
            obtain ⟨-, q1, q2, q3, q4, q5, q6⟩ := HOk.out
            have hl := hBB.out _ _ _ HOk.out
            have hro1 : ∀ b, (b = bm ∨ b = bh ∨ b = br) → ¬ gk b → w2.cell? ⟨b, 0, none⟩ = wr.cell? ⟨b, 0, none⟩ ∧ ¬ g2 b := fun b hb hg => ⟨World.cell?_of_block (a := ⟨b, 0, none⟩) (s2.block b (hl b (.inr (.inr hb))) hg), s2.off (hl b (.inr (.inr hb))) hg⟩
            exact ⟨hO2, (hro1 _ (.inl rfl) q4).1.trans q1, (hro1 _ (.inr (.inl rfl)) q5).1.trans q2, (hro1 _ (.inr (.inr rfl)) q6).1.trans q3, (hro1 _ (.inl rfl) q4).2, (hro1 _ (.inr (.inl rfl)) q5).2, (hro1 _ (.inr (.inr rfl)) q6).2⟩
          exact ⟨⟨_, rfl⟩, xs, fk, g2, (HSt.out.trans (step_or' s2 fk)).trans (Step.of_below (below_alloc w2 zeroO)), fun j hj => ⟨fun h2 => (s2.foot j h2).elim (fun h3 => (HAp.out j hj).1 h3) (fun h3 => by have := hfl j hj; omega), (HAp.out j hj).2⟩,
            hSS.out _ _ _ _ hO3 (below_alloc w2 zeroO).size (fun j hj => (below_alloc w2 _).block j (hBB.out _ _ _ hO3 j hj)), .inl ⟨rfl, hJ2⟩⟩)
        clear s2 hO2 hch hcr HX
        gi_wp2_with fail
        exact bodyPost_ret (results_none rfl _ _ _) rfl HE3.out
    · obtain rfl : m = k := by omega
      have HE3 := Lib.hid (show OwnEnds J Jx (OwnS bm bh br m pa rv Own0) (roS bm bh br ro) xs f g W (.returned (.tuple #[])) wr from by
        have hl : xs.length = m := by omega
        rw [← hl, List.take_length] at hJk
        exact ⟨⟨_, rfl⟩, xs, fk, gk, hst, happ, by rw [hl]; exact hOk, .inl ⟨rfl, hJk⟩⟩)
      clear hst happ hJk hOk HM
      gi_wp2_with fail
      go_end0
      exact HE3.out

/-- The count's box. -/
def CntI (b : Nat) (ys : List StepD) (f : Nat → Prop) (W : World) : Prop := f = (fun k => k = b) ∧ W.heap[b]? = some (.cells #[.int .i64 (ys.length : Int)] 3 (0, 0))
theorem CntI.stable (b : Nat) : Stable (CntI b) := by
  rintro s f W W' ⟨rfl, h⟩ _ hb
  exact ⟨rfl, (hb b rfl).trans h⟩
theorem CntI.bound (b : Nat) : Bound (CntI b) := by
  rintro s f W ⟨rfl, h⟩ k rfl
  exact heap_at_lt h
theorem wide_hW : Hid (∀ n f args w R, Calls Try.prog f args w R → CallsIn Fence.wide n Try.prog f args w R) := fun _ _ _ _ _ h => callsIn_wide.2 h

theorem alone_boxes {W W0 : World} {pa : Option Addr} {rv : Value} {m : Int} (h : (((W.alloc (.cells #[.int .i64 0] 3)).alloc (.cells #[.pointer pa] 28)).alloc (.cells #[rv] 93)).alloc (.cells #[.int .i64 m] 3) = W0) :
    Below W.heap.size W W0 ∧ W0.heap.size = W.heap.size + 1 + 1 + 1 + 1 ∧ W0.heap[W.heap.size]? = some (.cells #[.int .i64 0] 3 (0, 0)) ∧ W0.cell? ⟨W.heap.size + 1, 0, none⟩ = some (.pointer pa) ∧ W0.cell? ⟨W.heap.size + 1 + 1, 0, none⟩ = some rv ∧ W0.cell? ⟨W.heap.size + 1 + 1 + 1, 0, none⟩ = some (.int .i64 m) := by
  subst h
  have b1 := below_alloc W (.cells #[.int .i64 0] 3)
  have b2 := below_alloc (W.alloc (.cells #[.int .i64 0] 3)) (.cells #[.pointer pa] 28)
  have b3 := below_alloc ((W.alloc (.cells #[.int .i64 0] 3)).alloc (.cells #[.pointer pa] 28)) (.cells #[rv] 93)
  have b4 := below_alloc (((W.alloc (.cells #[.int .i64 0] 3)).alloc (.cells #[.pointer pa] 28)).alloc (.cells #[rv] 93)) (.cells #[.int .i64 m] 3)
  have n1 := World.alloc_heap_new W (.cells #[.int .i64 0] 3)
  have n2 := World.alloc_heap_new (W.alloc (.cells #[.int .i64 0] 3)) (.cells #[.pointer pa] 28)
  have n3 := World.alloc_heap_new ((W.alloc (.cells #[.int .i64 0] 3)).alloc (.cells #[.pointer pa] 28)) (.cells #[rv] 93)
  have n4 := World.alloc_heap_new (((W.alloc (.cells #[.int .i64 0] 3)).alloc (.cells #[.pointer pa] 28)).alloc (.cells #[rv] 93)) (.cells #[.int .i64 m] 3)
  simp only [World.size_alloc] at b2 b3 b4 n2 n3 n4
  refine ⟨b1.trans ((b2.mono (by omega)).trans ((b3.mono (by omega)).trans (b4.mono (by omega)))), by simp, ?_, ?_, ?_, (cell_of n4).trans rfl⟩
  · rw [b4.block _ (by omega), b3.block _ (by omega), b2.block _ (by omega)]; exact n1
  · exact (cell_of ((b4.block _ (by omega)).trans ((b3.block _ (by omega)).trans n2))).trans rfl
  · exact (cell_of ((b4.block _ (by omega)).trans n3)).trans rfl

theorem alone_end {Own0 : Nat → (Nat → Prop) → World → Prop} {ro g g' : Nat → Prop} {W Wd X : World} {D j : Nat} (hS : StableO Own0 ro) (hB : BoundO Own0 ro) (hst : Step g g' W Wd) (hO : Own0 j g' Wd) (hn : ¬ g' D ∧ ¬ ro D) (hK : Wd.heap[D]? = some (.deferred (some []))) (hD : W.heap.size ≤ D) (hX : Below Wd.heap.size Wd X) :
    X.heap[D]? = some (.deferred (some [])) ∧ Own0 j g' (X.putObj D (.deferred none)) ∧ Step g g' W (X.putObj D (.deferred none)) := by
  have hl := hB _ _ _ hO
  refine ⟨(hX.block D (heap_at_lt hK)).trans hK, hS _ _ _ _ hO (by simpa using hX.size) (fun k hk => (World.putObj_heap_other (fun e => by subst e; exact hk.elim hn.1 hn.2)).trans (hX.block k (hl k hk))), (hst.trans (Step.of_below hX)).putObj hD _⟩

set_option maxRecDepth 100000 in
set_option maxHeartbeats 2000000 in
theorem alone_gen (pa : Option Addr) (rv : Value) (hrv : (∃ tid r, rv = rowV tid r) ∨ rv = .nilIface) (m : Nat) (xs : List StepD) (Own0 : Nat → (Nat → Prop) → World → Prop) (ro : Nat → Prop) (hS : StableO Own0 ro) (hB : BoundO Own0 ro) (hxm : xs.length ≤ m) (hm : m ≤ 1000000)
    (HN : Hid (∀ j g W, Own0 j g W → j ≤ xs.length → j < m → Calls Try.prog 20 #[.pointer pa, rv] W (NxtE Own0 xs g j W))) (x : ActD) (more told : Bool)
    (HA : Hid (∀ g W, Own0 xs.length g W → Calls Try.prog 35 #[rv] W fun e W' => e = .returned (.tuple #[actOf x, .bool more, .bool told]) ∧ Below W.heap.size W W')) (W : World) (g : Nat → Prop) (hO : Own0 0 g W) :
    Calls Try.prog 13 #[.pointer pa, rv, .int .i64 (m : Int)] W fun e W' => e = .returned (.tuple #[.int .i64 (xs.length : Int), .bool (told && !more)]) ∧ ∃ g', Own0 xs.length g' W' ∧ Step g g' W W' := by
  refine callsIn_wide.1 (show CallsIn Fence.wide 4 Try.prog _ _ _ _ from ?_)
  have hW := wide_hW
  have HIt := Lib.hid (fun bm bh br => steps_iter Fence.wide 3 (fun _ => trivial) rfl wide_hW (by omega) bm bh br m pa rv xs Own0 ro hS hB hxm hm HN)
  refine callsIn_of_wp_marks Try.func13 rfl trivial ?_ rfl
  simp only [Try.ntmps13, List.size_toArray, List.length_cons, List.length_nil, Nat.reduceAdd, Nat.reduceSub, Array.replicate_succ, Array.replicate_zero, List.push_toArray, List.append_toArray, List.nil_append, List.cons_append]
  gi_wp2_with fail
  refine ⟨trivial, (hW.out _ _ _ _ _ (steps_any pa rv hrv m _)).mono ?_⟩
  rintro en w1 ⟨rfl, rfl⟩
  gi_wp2_with fail
  obtain ⟨W0, hW0⟩ : ∃ W0, (((W.alloc (.cells #[.int .i64 0] 3)).alloc (.cells #[.pointer pa] 28)).alloc (.cells #[rv] 93)).alloc (.cells #[.int .i64 (m : Int)] 3) = W0 := ⟨_, rfl⟩
  obtain ⟨hB0, hz0, hc0, hbh, hbr, hbm⟩ := alone_boxes hW0
  rw [hW0]
  have hgb := hB _ _ _ hO
  have HO0 := Lib.hid (show OwnS (W.heap.size + 1 + 1 + 1) (W.heap.size + 1) (W.heap.size + 1 + 1) m pa rv Own0 0 g W0 from
    ⟨hS _ _ _ _ hO hB0.size (fun k hk => hB0.block k (hgb k hk)), hbm, hbh, hbr, fun h => by have := hgb _ (.inl h); omega, fun h => by have := hgb _ (.inl h); omega, fun h => by have := hgb _ (.inl h); omega⟩)
  have HAp := Lib.hid (show ∀ k, (k = W.heap.size) → ¬ g k ∧ ¬ roS (W.heap.size + 1 + 1 + 1) (W.heap.size + 1) (W.heap.size + 1 + 1) ro k from fun k hk => ⟨fun h => by have := hgb _ (.inl h); omega, fun h => by
    rcases h with h | h | h | h
    · have := hgb _ (.inr h); omega
    · omega
    · omega
    · omega⟩)
  have HB0 := Lib.hid hB0
  have HZ0 := Lib.hid hz0
  have HG := Lib.hid hgb
  have HS := Lib.hid hS
  clear hW0 hO hB0 hz0 hbh hbr hbm hgb
  refine wpIn_rangeFunc_own rfl (by omega) (gf := 58) (lb := #[.pointer (some ⟨W.heap.size + 1 + 1 + 1, 0, none⟩), .pointer (some ⟨W.heap.size + 1, 0, none⟩), .pointer (some ⟨W.heap.size + 1 + 1, 0, none⟩)]) rfl trivial (enters_of Try.func58 (by kernel_rfl) rfl)
    (OwnS.stable hS) (OwnS.bound hB) (HIt.out (W.heap.size + 1 + 1 + 1) (W.heap.size + 1) (W.heap.size + 1 + 1)) (fun _ => rfl)
    (CntI W.heap.size) (fun _ _ _ _ => False) (CntI.stable _) (fun _ _ _ _ _ h _ _ => h) (CntI.bound _) (fun k => k = W.heap.size) g ⟨rfl, hc0⟩ HO0.out HAp.out
    (fun s _ a' _ => a' = { tmps := #[.pointer pa, rv, .int .i64 (m : Int), undef, undef, undef, .int .i64 0, .bool false, .pointer (some ⟨W.heap.size, 0, none⟩), undef, undef, undef, .pointer pa, rv, .int .i64 (m : Int),
      .func (.func 58) #[] #[.pointer (some ⟨W.heap.size + 1 + 1 + 1, 0, none⟩), .pointer (some ⟨W.heap.size + 1, 0, none⟩), .pointer (some ⟨W.heap.size + 1 + 1, 0, none⟩)],
      stepV 0 s, undef, undef, undef, undef, undef, undef, undef, undef, undef, undef, undef, undef, undef, undef], defers := [] })
    (fun _ _ _ _ _ h _ _ => h) ?assign ?body ?done ?stop
  case assign =>
    intro l s Wx K hK
    gi_wp2
    go_simp
    exact hK _ _ (Below.refl _ _) rfl
  case body =>
    rintro l pre s post f1 a' Wx mm hcut ⟨rfl, hcx⟩ rfl hm1 hm2 hf1
    have hl : (pre.length : Int) < 1000000 := by
      have := congrArg List.length hcut
      simp at this
      omega
    have hl0 : (0 : Int) ≤ (pre.length : Int) := by omega
    have hc1 : Wx.cell? ⟨W.heap.size, 0, none⟩ = some (.int .i64 (pre.length : Int)) := (cell_of hcx).trans rfl
    have hz1 : Wx.frozen? ⟨W.heap.size, 0, none⟩ = false := by simp [World.frozen?, hcx]
    have HCx := Lib.hid hcx
    clear hcx hcut hf1 hm1 hm2
    gi_wp2_with fail
    exact ⟨_, Step.setCell _ rfl, rfl, (heap_setAt HCx.out).trans (by simp)⟩
  case done =>
    rintro D f' g' Wd hD hnf hng hnr hst happ ⟨rfl, hcx⟩ hown hK
    have hc1 : Wd.cell? ⟨W.heap.size, 0, none⟩ = some (.int .i64 (xs.length : Int)) := (cell_of hcx).trans rfl
    have HSt := Lib.hid (show Step g g' W Wd from ⟨hst.os.trans HB0.out.os, hst.tape.trans HB0.out.tape, hst.output.trans HB0.out.output, Nat.le_trans HB0.out.size hst.size,
      fun k hk hn => (hst.block k (Nat.lt_of_lt_of_le hk HB0.out.size) (fun h => h.elim (fun h => by omega) hn)).trans (HB0.out.block k hk),
      fun k hk => (hst.foot k (.inr hk)).elim (fun h => h.elim (fun h => .inr (by omega)) .inl) (fun h => .inr (by have := HZ0.out; omega))⟩)
    have HOw := Lib.hid hown.1
    have HNo := Lib.hid (show ¬ g' D ∧ ¬ ro D from ⟨hng, fun h => hnr (.inl h)⟩)
    have HK := Lib.hid hK
    have HD := Lib.hid (show W.heap.size ≤ D ∧ D < Wd.heap.size ∧ W.heap.size < Wd.heap.size from ⟨by have := HZ0.out; omega, heap_at_lt hK, heap_at_lt hcx⟩)
    clear hst hown hK hnf hng hnr happ hD
    have HCx := Lib.hid hcx
    clear hcx
    gi_wp2_with fail
    refine ⟨trivial, (hW.out _ _ _ _ _ (HA.out g' Wd HOw.out)).mono ?_⟩
    rintro en w2 ⟨rfl, hb⟩
    have hc2 : w2.cell? ⟨W.heap.size, 0, none⟩ = some (.int .i64 (xs.length : Int)) := (hb.cell (p := ⟨W.heap.size, 0, none⟩) HD.out.2.2).trans hc1
    have hc3 : (w2.alloc (.cells #[.int .i64 x.kind, .int .u64 (x.block : Int), .int .i64 x.cell, .int .u64 x.old, .int .u64 x.new, .string x.text] 59)).cell? ⟨W.heap.size, 0, none⟩ = some (.int .i64 (xs.length : Int)) := ((below_alloc w2 _).cell (p := ⟨W.heap.size, 0, none⟩) (cell_lt hc2)).trans hc2
    have HE := Lib.hid (show Below Wd.heap.size Wd (w2.alloc (.cells #[.int .i64 x.kind, .int .u64 (x.block : Int), .int .i64 x.cell, .int .u64 x.old, .int .u64 x.new, .string x.text] 59)) from hb.trans ((below_alloc w2 _).mono hb.size))
    clear hb hc1 hc2
    have HR := Lib.hid (fun X (hX : Below Wd.heap.size Wd X) => alone_end HS.out hB HSt.out HOw.out HNo.out HK.out HD.out.1 hX)
    cases told <;> cases more
    all_goals
      gi_wp2_with fail
      obtain ⟨q1, q2, q3⟩ := HR.out _ HE.out
      refine ⟨by simp, .inl ⟨_, _, rfl, run_takeDeferred q1, ?_⟩⟩
      exact ⟨_, results_tmp2 rfl _ _ _, rfl, _, q2, q3⟩
  case stop =>
    rintro D c pre f' g' Wd _ _ _ _ _ _ _ h
    exact h.elim

section
variable {σ : Type} {M : Mach σ} {B p r : Nat} {S : PmS σ}
/-- What Steps has: the heap and the routine behind j picks. -/
abbrev OwnM (M : Mach σ) (B p r : Nat) (S : PmS σ) (n j : Nat) (g : Nat → Prop) (W : World) : Prop := PlM M W B p r (stM M S j) (n - j) g
theorem ownM_stable (n : Nat) : StableO (OwnM M B p r S n) (fun _ => False) := fun _ _ _ _ h _ hs => h.stays (fun k hk => hs k (.inl hk))
theorem ownM_bound (n : Nat) : BoundO (OwnM M B p r S n) (fun _ => False) := fun _ _ _ h k hk => hk.elim (h.lt k) False.elim
theorem ownM_next (n m j : Nat) (hmn : m ≤ n) (g : Nat → Prop) (W : World) (h : OwnM M B p r S n j g W) (hj : j ≤ (toM M S m).length) (hm : j < m) : Calls Try.prog 20 #[.pointer (some ⟨p, 0, none⟩), rowV M.tid r] W (NxtE (OwnM M B p r S n) (toM M S m) g j W) := by
  obtain ⟨-, h2, h3, -⟩ := toM_walk M S m
  rcases Nat.lt_or_ge j (toM M S m).length with hlt | hge
  · have hs := h2 j hlt
    rw [List.getElem?_eq_getElem hlt] at hs
    have h' : PlM M W B p r (stM M S j) ((n - (j + 1)) + 1) g := by have : n - j = (n - (j + 1)) + 1 := by omega
                                                                    rw [← this]; exact h
    refine (mnext_some h' hs).mono fun e W' he => ?_
    obtain ⟨g', rfl, hp, hst⟩ := he
    refine ⟨g', hst, .inl ⟨_, List.getElem?_eq_getElem hlt, rfl, ?_⟩⟩
    show PlM M W' B p r (advM M (stM M S j)) (n - (j + 1)) g'
    unfold advM
    rw [hs]
    exact hp
  · have hl : (toM M S m).length = j := by omega
    have hs := h3 (by omega)
    rw [hl] at hs
    refine (mnext_none h hs).mono fun e W' he => ?_
    obtain ⟨g', rfl, hp, hst⟩ := he
    exact ⟨g', hst, .inr ⟨hl.symm, rfl, hp⟩⟩

/-- Alone, of a routine: so often at the most. -/
theorem malone_any {W : World} {n : Nat} {g : Nat → Prop} (h : PlM M W B p r S n g) (m : Nat) (hm : m ≤ 1000000) (hmn : m ≤ n) :
    Calls Try.prog 13 #[.pointer (some ⟨p, 0, none⟩), rowV M.tid r, .int .i64 (m : Int)] W fun e W' =>
      e = .returned (.tuple #[.int .i64 ((toM M S m).length : Int), .bool (!(M.next (stM M S m).s).isSome)]) ∧ ∃ g', PlM M W' B p r (stM M S m) (n - m) g' ∧ Step g g' W W' := by
  have e4 := (toM_walk M S m).2.2.2
  have hl := toM_len M S m
  have HN := Lib.hid (fun j g W hO hj hjm => ownM_next (M := M) (B := B) (p := p) (r := r) (S := S) n m j hmn g W hO hj hjm)
  have ha := fun (g : Nat → Prop) (W : World) (hO : OwnM M B p r S n (toM M S m).length g W) => plm_ask hO
  refine (alone_gen (some ⟨p, 0, none⟩) (rowV M.tid r) (.inl ⟨_, r, rfl⟩) m (toM M S m) _ _ (ownM_stable n) (ownM_bound n) hl hm HN _ _ true (Lib.hid ha) W g h).mono fun e W' he => ?_
  obtain ⟨rfl, g', h1, h2⟩ := he
  rw [← e4]
  refine ⟨by simp, g', ?_, h2⟩
  rw [e4]
  exact PlM.mono h1 (by omega)
end

end Go.Proofs.Ytpnfbabiibopnaa

/-! Runs of a routine step by step; a heap's calls beside a routine, whatever kind it is. -/
namespace Go.Proofs.Ytpnfbabiibopnaa
open Go Go.RowKit

/-! ### closed runs, step by step -/

/-- Where nothing more may be done nothing more is. -/
theorem mstop_stays {σ : Type} {M : Mach σ} {S : PmS σ} {n : Nat} (h : stepM M (stM M S n) = none) : ∀ m, toM M S (n + m) = toM M S n ∧ stM M S (n + m) = stM M S n
  | 0 => ⟨rfl, rfl⟩
  | m + 1 => by
    obtain ⟨h1, h2⟩ := mstop_stays h m
    refine ⟨?_, ?_⟩
    · show toM M S (n + m) ++ (stepM M (stM M S (n + m))).toList = _
      rw [h1, h2, h]; simp
    · show advM M (stM M S (n + m)) = _
      unfold advM
      rw [h2, h]

theorem stM_succ {σ : Type} {M : Mach σ} {S T U : PmS σ} {n : Nat} (h : stM M S n = T ∧ (toM M S n).length = n) (ha : advM M T = U ∧ (stepM M T).isSome = true) : stM M S (n + 1) = U ∧ (toM M S (n + 1)).length = n + 1 := by
  refine ⟨?_, ?_⟩
  · show advM M (stM M S n) = U
    rw [h.1]; exact ha.1
  · show (toM M S n ++ (stepM M (stM M S n)).toList).length = n + 1
    rw [h.1, List.length_append, h.2]
    obtain ⟨x, hx⟩ := Option.isSome_iff_exists.1 ha.2
    rw [hx]; rfl

/-! ### beside a heap -/

section
variable {σ : Type} {M : Mach σ} {W : World} {B p r n : Nat} {S : PmS σ} {f : Nat → Prop}

theorem plm_load (h : PlM M W B p r S n f) (k : Nat) (hk : k < 18446744073709551616) (i : Int) (hs : spot S.D.L k i = 0) :
    Calls Try.prog 16 #[.pointer (some ⟨p, 0, none⟩), .int .u64 (k : Int), .int .i64 i] W (PmR M B p r S n (TwoV (wordAt S.D.L k i) 0) f W) := by
  obtain ⟨fh, fr, h1, h2, h3, rfl, h4⟩ := h
  refine (load_any W h1 (by have := h4.faults; omega) k hk i).mono fun e W' he => ?_
  have e1 : loadV S.D k i = wordAt S.D.L k i := by unfold loadV; rw [if_pos hs]
  have e2 : loadD S.D k i = S.D := by unfold loadD; rw [if_pos hs]
  rw [e1, e2, hs] at he
  obtain ⟨f', rfl, hp, hst⟩ := he
  exact ⟨_, rfl, ⟨f', fr, hp, M.stays h2 (fun j hj => hst.block j (M.lt h2 j hj) (fun hf => h3 j hf hj)), fun j hj hj' => (hst.foot j hj).elim (fun hf => h3 j hf hj') (fun hge => by have := M.lt h2 j hj'; omega), rfl, h4⟩, step_or hst fr⟩

theorem plm_words (h : PlM M W B p r S n f) (k : Nat) (hk : k < 18446744073709551616) (hs : there S.D.L k = 0) :
    Calls Try.prog 46 #[.pointer (some ⟨p, 0, none⟩), .int .u64 (k : Int)] W (PmR M B p r S n (.tuple #[.string (textAt S.D.L k), .int .i64 0]) f W) := by
  obtain ⟨fh, fr, h1, h2, h3, rfl, h4⟩ := h
  refine (words_any W h1 (by have := h4.faults; omega) k hk).mono fun e W' he => ?_
  have e2 : wordsD S.D k = S.D := by unfold wordsD; rw [if_pos hs]
  rw [e2, hs] at he
  obtain ⟨f', rfl, hp, hst⟩ := he
  exact ⟨_, rfl, ⟨f', fr, hp, M.stays h2 (fun j hj => hst.block j (M.lt h2 j hj) (fun hf => h3 j hf hj)), fun j hj hj' => (hst.foot j hj).elim (fun hf => h3 j hf hj') (fun hge => by have := M.lt h2 j hj'; omega), rfl, h4⟩, step_or hst fr⟩

theorem plm_size (h : PlM M W B p r S n f) (k : Nat) (hk : k < 18446744073709551616) : Calls Try.prog 63 #[.pointer (some ⟨p, 0, none⟩), .int .u64 (k : Int)] W fun e W' => e = .returned (.int .i64 (sizeAt S.D.L k)) ∧ W = W' := by
  obtain ⟨fh, fr, h1, _⟩ := h
  exact size_any W h1 k hk

theorem plm_faults (h : PlM M W B p r S n f) : Calls Try.prog 18 #[.pointer (some ⟨p, 0, none⟩)] W fun e W' => e = .returned (.int .i64 S.D.faults) ∧ W = W' := by
  obtain ⟨fh, fr, h1, _⟩ := h
  exact faults_any W h1

/-- A heap beside it, by itself. -/
theorem plm_heap (h : PlM M W B p r S n f) : ∃ fh, Hp W B p S.D fh ∧ ∀ k, fh k → f k := by
  obtain ⟨fh, fr, h1, h2, _, rfl, _⟩ := h
  exact ⟨fh, h1, fun k hk => .inl hk⟩

/-- The routine by itself. -/
theorem plm_at (h : PlM M W B p r S n f) : ∃ fr, M.At W B r S.s fr := by
  obtain ⟨fh, fr, h1, h2, _⟩ := h
  exact ⟨fr, h2⟩

/-- A routine that was just made. -/
theorem plm_start {X Y : World} {D : HpD} {E : σ} {fh fr : Nat → Prop} (h : Hp X B p D fh) (hF : FewD D n) (hA : M.At Y B r E fr) (hge : ∀ k, fr k → X.heap.size ≤ k) (hb : Below X.heap.size X Y) : PlM M Y B p r ⟨D, E⟩ n (fun k => fh k ∨ fr k) :=
  ⟨fh, fr, h.below hb, hA, fun j hj hj' => by have := h.lt j hj; have := hge j hj'; omega, rfl, hF⟩

end

theorem few_empty (n : Nat) (hn : n ≤ 900000) : FewD emptyD n := ⟨by show 0 + n ≤ _; omega, by show 0 + n ≤ _; omega, fun b hb => by cases hb⟩

end Go.Proofs.Ytpnfbabiibopnaa

/-! A config as it lies; whether it may be, and where things stand in the control block: the program's functions, at every config and every number. -/
namespace Go.Proofs.Ytpnfbabiibopnaa
open Go Go.RowKit
theorem heap_lt {W : World} {k : Nat} {o : Obj} (h : W.heap[k]? = some o) : k < W.heap.size := (Array.getElem?_eq_some_iff.1 h).1

/-- A number; what lay lies as it lay. -/
def Tells (n : Int) (w : World) (e : Ending) (w' : World) : Prop := e = .returned (.int .i64 n) ∧ Below w.heap.size w w'
theorem drew_to {W X : World} (h : Below W.heap.size W X) : Below W.heap.size W X.drew := h.trans ((below_drew X).mono h.size)
theorem below_to {W X Y : World} (h : Below W.heap.size W X) (hb : Below X.heap.size X Y) : Below W.heap.size W Y := h.trans (hb.mono h.size)

def I64 (n : Int) : Prop := -9223372036854775808 ≤ n ∧ n ≤ 9223372036854775807
/-- A config's six numbers. -/
abbrev cfV (a p s q v x : Int) : Value := .agg #[.int .i64 a, .int .i64 p, .int .i64 s, .int .i64 q, .int .i64 v, .int .u64 x]
def cfC (a p s q v x : Int) : Array Value := #[.int .i64 a, .int .i64 p, .int .i64 s, .int .i64 q, .int .i64 v, .int .u64 x]
def SixC (b : Nat) (a p s q v x : Int) (X : World) : Prop :=
  X.cell? ⟨b, 0, none⟩ = some (.int .i64 a) ∧ X.cell? ⟨b, 1, none⟩ = some (.int .i64 p) ∧ X.cell? ⟨b, 2, none⟩ = some (.int .i64 s) ∧ X.cell? ⟨b, 3, none⟩ = some (.int .i64 q) ∧ X.cell? ⟨b, 4, none⟩ = some (.int .i64 v) ∧ X.cell? ⟨b, 5, none⟩ = some (.int .u64 x)
/-- A config in a box of its own; what lay lies as it lay. -/
structure BoxC (W : World) (a p s q v x : Int) (X : World) : Prop where
  lo : Below W.heap.size W X
  b : X.heap[W.heap.size]? = some (.cells (cfC a p s q v x) 24 (0, 0))
section
variable {W X Y : World} {a p s q v x : Int}
theorem BoxC.start (W : World) (a p s q v x : Int) : BoxC W a p s q v x (W.alloc (.cells #[.int .i64 a, .int .i64 p, .int .i64 s, .int .i64 q, .int .i64 v, .int .u64 x] 24)) :=
  ⟨below_alloc W _, heap_alloc_new W _⟩
theorem BoxC.below (h : BoxC W a p s q v x X) (hb : Below X.heap.size X Y) : BoxC W a p s q v x Y :=
  ⟨below_to h.lo hb, (hb.block _ (Array.getElem?_eq_some_iff.1 h.b).1).trans h.b⟩
theorem BoxC.drew (h : BoxC W a p s q v x X) : BoxC W a p s q v x X.drew := h.below (below_drew X)
theorem BoxC.six (h : BoxC W a p s q v x X) : SixC W.heap.size a p s q v x X :=
  ⟨(cell_of h.b).trans rfl, (cell_of h.b).trans rfl, (cell_of h.b).trans rfl, (cell_of h.b).trans rfl, (cell_of h.b).trans rfl, (cell_of h.b).trans rfl⟩
end

/-! ### plain numbers -/
/-- May it be? -/
def rightC (a p s q v : Int) : Bool := decide ((1 ≤ a ∧ a ≤ 32) ∧ (1 ≤ p ∧ p ≤ 8) ∧ (1 ≤ s ∧ s ≤ 64) ∧ (0 ≤ q ∧ q ≤ 64) ∧ (0 ≤ v ∧ v ≤ 8))
theorem rightC_bd {a p s q v : Int} (h : rightC a p s q v = true) : (1 ≤ a ∧ a ≤ 32) ∧ (1 ≤ p ∧ p ≤ 8) ∧ (1 ≤ s ∧ s ≤ 64) := by
  have := of_decide_eq_true h
  exact ⟨this.1, this.2.1, this.2.2.1⟩
def sizeW (a p s q v : Int) : Int := if rightC a p s q v = true then 3 + p + a + 2 * s else 0
def pinW (a p s q v i : Int) : Int := if rightC a p s q v = true ∧ 0 ≤ i ∧ i ≤ p - 1 then 3 + i else -1
def ringW (a p s q v i : Int) : Int := if rightC a p s q v = true ∧ 0 ≤ i then 3 + p + i % a else -1
def keyW (a p s q v i : Int) : Int := if rightC a p s q v = true ∧ 0 ≤ i ∧ i ≤ s - 1 then 3 + p + a + 2 * i else -1
def headW (a p s q v i : Int) : Int := if rightC a p s q v = true ∧ 0 ≤ i ∧ i ≤ s - 1 then 3 + p + a + 2 * i + 1 else -1

/-! ### within -/
theorem within_any (n l m : Int) (W : World) : Calls Try.prog 23 #[.int .i64 n, .int .i64 l, .int .i64 m] W (Says (decide (l ≤ n ∧ n ≤ m)) W) := by
  by_cases h1 : l ≤ n
  · by_cases h2 : n ≤ m
    · rw [decide_eq_true (⟨h1, h2⟩ : l ≤ n ∧ n ≤ m)]
      go_enter Try.func23, Try.ntmps23
      go_wp2_with fail
      go_ret
      exact ⟨rfl, Below.refl _ _⟩
    · rw [decide_eq_false (fun h : l ≤ n ∧ n ≤ m => h2 h.2)]
      go_enter Try.func23, Try.ntmps23
      go_wp2_with fail
      go_ret
      exact ⟨rfl, Below.refl _ _⟩
  · rw [decide_eq_false (fun h : l ≤ n ∧ n ≤ m => h1 h.1)]
    go_enter Try.func23, Try.ntmps23
    go_wp2_with fail
    go_ret
    exact ⟨rfl, Below.refl _ _⟩

/-! ### where the ring and the shelves begin -/
theorem firstRing_any (a p s q v x : Int) (W : World) (hp : 1 ≤ p ∧ p ≤ 8) : Calls Try.prog 67 #[cfV a p s q v x] W (Tells (3 + p) W) := by
  obtain ⟨p1, p8⟩ := hp
  have X0 := Lib.hid (BoxC.start W a p s q v x)
  obtain ⟨c0, c1, c2, c3, c4, c5⟩ := X0.out.six
  go_enter Try.func67, Try.ntmps67
  go_wp2_with fail
  go_ret
  exact ⟨rfl, X0.out.lo⟩
theorem firstShelf_any (a p s q v x : Int) (W : World) (ha : 1 ≤ a ∧ a ≤ 32) (hp : 1 ≤ p ∧ p ≤ 8) : Calls Try.prog 51 #[cfV a p s q v x] W (Tells (3 + p + a) W) := by
  have HR := Lib.hid (fun X : World => firstRing_any a p s q v x X hp)
  obtain ⟨p1, p8⟩ := hp
  obtain ⟨a1, a8⟩ := ha
  have hw : IntKind.i64.wrap (3 + p + a) = 3 + p + a := by rw [IntKind.wrap_i64]; omega
  have X0 := Lib.hid (BoxC.start W a p s q v x)
  obtain ⟨c0, c1, c2, c3, c4, c5⟩ := X0.out.six
  go_enter Try.func51, Try.ntmps51
  go_wp2_with fail
  generalize (W.alloc (.cells #[.int .i64 a, .int .i64 p, .int .i64 s, .int .i64 q, .int .i64 v, .int .u64 x] 24)) = w0 at X0 c0 c1 c2 c3 c4 c5 ⊢
  clear c0 c1 c2 c3 c4 c5
  go_region_held3 (fun w' => w'.cell? ⟨W.heap.size, 0, none⟩ = some (.int .i64 a) ∧ w'.cell? ⟨W.heap.size, 1, none⟩ = some (.int .i64 p) ∧ w'.cell? ⟨W.heap.size, 2, none⟩ = some (.int .i64 s) ∧ w'.cell? ⟨W.heap.size, 3, none⟩ = some (.int .i64 q) ∧ w'.cell? ⟨W.heap.size, 4, none⟩ = some (.int .i64 v) ∧ w'.cell? ⟨W.heap.size, 5, none⟩ = some (.int .u64 x))
    (first
      | exact X1.out.six
      | exact X0.out.drew.six
      | exact X0.out.six)
    (first
      | (go_at_call 67; refine (HR.out _).mono ?_; rintro e x1 ⟨rfl, hb⟩; have X1 := Lib.hid (X0.out.drew.below hb); clear hb))
  all_goals
    go_wp2_with fail
    go_ret
    exact ⟨by first | rfl | (rw [hw]; rfl), X1.out.lo⟩

/-! ### may it be? -/
theorem right_0 (a p s q v x : Int) (W : World) (H0 : Hid (∀ X : World, Calls Try.prog 23 #[.int .i64 a, .int .i64 1, .int .i64 32] X (Says false X))) : Calls Try.prog 5 #[cfV a p s q v x] W (Says false W) := by
  have X0 := Lib.hid (BoxC.start W a p s q v x)
  obtain ⟨c0, c1, c2, c3, c4, c5⟩ := X0.out.six
  go_enter Try.func5, Try.ntmps5
  go_wp2_with fail
  refine (H0.out _).mono ?_
  rintro e w1 ⟨rfl, hb⟩
  have X1 := Lib.hid (X0.out.below hb)
  clear hb c0 c1 c2 c3 c4 c5
  obtain ⟨c0, c1, c2, c3, c4, c5⟩ := X1.out.six
  go_wp2_with fail
  go_ret
  exact ⟨rfl, X1.out.lo⟩
theorem right_1 (a p s q v x : Int) (W : World) (H0 : Hid (∀ X : World, Calls Try.prog 23 #[.int .i64 a, .int .i64 1, .int .i64 32] X (Says true X))) (H1 : Hid (∀ X : World, Calls Try.prog 23 #[.int .i64 p, .int .i64 1, .int .i64 8] X (Says false X))) : Calls Try.prog 5 #[cfV a p s q v x] W (Says false W) := by
  have X0 := Lib.hid (BoxC.start W a p s q v x)
  obtain ⟨c0, c1, c2, c3, c4, c5⟩ := X0.out.six
  go_enter Try.func5, Try.ntmps5
  go_wp2_with fail
  refine (H0.out _).mono ?_
  rintro e w1 ⟨rfl, hb⟩
  have X1 := Lib.hid (X0.out.below hb)
  clear hb c0 c1 c2 c3 c4 c5
  obtain ⟨c0, c1, c2, c3, c4, c5⟩ := X1.out.six
  go_wp2_with fail
  refine (H1.out _).mono ?_
  rintro e w2 ⟨rfl, hb⟩
  have X2 := Lib.hid (X1.out.below hb)
  clear hb c0 c1 c2 c3 c4 c5
  obtain ⟨c0, c1, c2, c3, c4, c5⟩ := X2.out.six
  go_wp2_with fail
  go_ret
  exact ⟨rfl, X2.out.lo⟩
theorem right_2 (a p s q v x : Int) (W : World) (H0 : Hid (∀ X : World, Calls Try.prog 23 #[.int .i64 a, .int .i64 1, .int .i64 32] X (Says true X))) (H1 : Hid (∀ X : World, Calls Try.prog 23 #[.int .i64 p, .int .i64 1, .int .i64 8] X (Says true X))) (H2 : Hid (∀ X : World, Calls Try.prog 23 #[.int .i64 s, .int .i64 1, .int .i64 64] X (Says false X))) : Calls Try.prog 5 #[cfV a p s q v x] W (Says false W) := by
  have X0 := Lib.hid (BoxC.start W a p s q v x)
  obtain ⟨c0, c1, c2, c3, c4, c5⟩ := X0.out.six
  go_enter Try.func5, Try.ntmps5
  go_wp2_with fail
  refine (H0.out _).mono ?_
  rintro e w1 ⟨rfl, hb⟩
  have X1 := Lib.hid (X0.out.below hb)
  clear hb c0 c1 c2 c3 c4 c5
  obtain ⟨c0, c1, c2, c3, c4, c5⟩ := X1.out.six
  go_wp2_with fail
  refine (H1.out _).mono ?_
  rintro e w2 ⟨rfl, hb⟩
  have X2 := Lib.hid (X1.out.below hb)
  clear hb c0 c1 c2 c3 c4 c5
  obtain ⟨c0, c1, c2, c3, c4, c5⟩ := X2.out.six
  go_wp2_with fail
  refine (H2.out _).mono ?_
  rintro e w3 ⟨rfl, hb⟩
  have X3 := Lib.hid (X2.out.below hb)
  clear hb c0 c1 c2 c3 c4 c5
  obtain ⟨c0, c1, c2, c3, c4, c5⟩ := X3.out.six
  go_wp2_with fail
  go_ret
  exact ⟨rfl, X3.out.lo⟩
theorem right_3 (a p s q v x : Int) (W : World) (H0 : Hid (∀ X : World, Calls Try.prog 23 #[.int .i64 a, .int .i64 1, .int .i64 32] X (Says true X))) (H1 : Hid (∀ X : World, Calls Try.prog 23 #[.int .i64 p, .int .i64 1, .int .i64 8] X (Says true X))) (H2 : Hid (∀ X : World, Calls Try.prog 23 #[.int .i64 s, .int .i64 1, .int .i64 64] X (Says true X))) (H3 : Hid (∀ X : World, Calls Try.prog 23 #[.int .i64 q, .int .i64 0, .int .i64 64] X (Says false X))) : Calls Try.prog 5 #[cfV a p s q v x] W (Says false W) := by
  have X0 := Lib.hid (BoxC.start W a p s q v x)
  obtain ⟨c0, c1, c2, c3, c4, c5⟩ := X0.out.six
  go_enter Try.func5, Try.ntmps5
  go_wp2_with fail
  refine (H0.out _).mono ?_
  rintro e w1 ⟨rfl, hb⟩
  have X1 := Lib.hid (X0.out.below hb)
  clear hb c0 c1 c2 c3 c4 c5
  obtain ⟨c0, c1, c2, c3, c4, c5⟩ := X1.out.six
  go_wp2_with fail
  refine (H1.out _).mono ?_
  rintro e w2 ⟨rfl, hb⟩
  have X2 := Lib.hid (X1.out.below hb)
  clear hb c0 c1 c2 c3 c4 c5
  obtain ⟨c0, c1, c2, c3, c4, c5⟩ := X2.out.six
  go_wp2_with fail
  refine (H2.out _).mono ?_
  rintro e w3 ⟨rfl, hb⟩
  have X3 := Lib.hid (X2.out.below hb)
  clear hb c0 c1 c2 c3 c4 c5
  obtain ⟨c0, c1, c2, c3, c4, c5⟩ := X3.out.six
  go_wp2_with fail
  refine (H3.out _).mono ?_
  rintro e w4 ⟨rfl, hb⟩
  have X4 := Lib.hid (X3.out.below hb)
  clear hb c0 c1 c2 c3 c4 c5
  obtain ⟨c0, c1, c2, c3, c4, c5⟩ := X4.out.six
  go_wp2_with fail
  go_ret
  exact ⟨rfl, X4.out.lo⟩
theorem right_4 (a p s q v x : Int) (W : World) (H0 : Hid (∀ X : World, Calls Try.prog 23 #[.int .i64 a, .int .i64 1, .int .i64 32] X (Says true X))) (H1 : Hid (∀ X : World, Calls Try.prog 23 #[.int .i64 p, .int .i64 1, .int .i64 8] X (Says true X))) (H2 : Hid (∀ X : World, Calls Try.prog 23 #[.int .i64 s, .int .i64 1, .int .i64 64] X (Says true X))) (H3 : Hid (∀ X : World, Calls Try.prog 23 #[.int .i64 q, .int .i64 0, .int .i64 64] X (Says true X))) (H4 : Hid (∀ X : World, Calls Try.prog 23 #[.int .i64 v, .int .i64 0, .int .i64 8] X (Says false X))) : Calls Try.prog 5 #[cfV a p s q v x] W (Says false W) := by
  have X0 := Lib.hid (BoxC.start W a p s q v x)
  obtain ⟨c0, c1, c2, c3, c4, c5⟩ := X0.out.six
  go_enter Try.func5, Try.ntmps5
  go_wp2_with fail
  refine (H0.out _).mono ?_
  rintro e w1 ⟨rfl, hb⟩
  have X1 := Lib.hid (X0.out.below hb)
  clear hb c0 c1 c2 c3 c4 c5
  obtain ⟨c0, c1, c2, c3, c4, c5⟩ := X1.out.six
  go_wp2_with fail
  refine (H1.out _).mono ?_
  rintro e w2 ⟨rfl, hb⟩
  have X2 := Lib.hid (X1.out.below hb)
  clear hb c0 c1 c2 c3 c4 c5
  obtain ⟨c0, c1, c2, c3, c4, c5⟩ := X2.out.six
  go_wp2_with fail
  refine (H2.out _).mono ?_
  rintro e w3 ⟨rfl, hb⟩
  have X3 := Lib.hid (X2.out.below hb)
  clear hb c0 c1 c2 c3 c4 c5
  obtain ⟨c0, c1, c2, c3, c4, c5⟩ := X3.out.six
  go_wp2_with fail
  refine (H3.out _).mono ?_
  rintro e w4 ⟨rfl, hb⟩
  have X4 := Lib.hid (X3.out.below hb)
  clear hb c0 c1 c2 c3 c4 c5
  obtain ⟨c0, c1, c2, c3, c4, c5⟩ := X4.out.six
  go_wp2_with fail
  refine (H4.out _).mono ?_
  rintro e w5 ⟨rfl, hb⟩
  have X5 := Lib.hid (X4.out.below hb)
  clear hb c0 c1 c2 c3 c4 c5
  obtain ⟨c0, c1, c2, c3, c4, c5⟩ := X5.out.six
  go_wp2_with fail
  go_ret
  exact ⟨rfl, X5.out.lo⟩
theorem right_5 (a p s q v x : Int) (W : World) (H0 : Hid (∀ X : World, Calls Try.prog 23 #[.int .i64 a, .int .i64 1, .int .i64 32] X (Says true X))) (H1 : Hid (∀ X : World, Calls Try.prog 23 #[.int .i64 p, .int .i64 1, .int .i64 8] X (Says true X))) (H2 : Hid (∀ X : World, Calls Try.prog 23 #[.int .i64 s, .int .i64 1, .int .i64 64] X (Says true X))) (H3 : Hid (∀ X : World, Calls Try.prog 23 #[.int .i64 q, .int .i64 0, .int .i64 64] X (Says true X))) (H4 : Hid (∀ X : World, Calls Try.prog 23 #[.int .i64 v, .int .i64 0, .int .i64 8] X (Says true X))) : Calls Try.prog 5 #[cfV a p s q v x] W (Says true W) := by
  have X0 := Lib.hid (BoxC.start W a p s q v x)
  obtain ⟨c0, c1, c2, c3, c4, c5⟩ := X0.out.six
  go_enter Try.func5, Try.ntmps5
  go_wp2_with fail
  refine (H0.out _).mono ?_
  rintro e w1 ⟨rfl, hb⟩
  have X1 := Lib.hid (X0.out.below hb)
  clear hb c0 c1 c2 c3 c4 c5
  obtain ⟨c0, c1, c2, c3, c4, c5⟩ := X1.out.six
  go_wp2_with fail
  refine (H1.out _).mono ?_
  rintro e w2 ⟨rfl, hb⟩
  have X2 := Lib.hid (X1.out.below hb)
  clear hb c0 c1 c2 c3 c4 c5
  obtain ⟨c0, c1, c2, c3, c4, c5⟩ := X2.out.six
  go_wp2_with fail
  refine (H2.out _).mono ?_
  rintro e w3 ⟨rfl, hb⟩
  have X3 := Lib.hid (X2.out.below hb)
  clear hb c0 c1 c2 c3 c4 c5
  obtain ⟨c0, c1, c2, c3, c4, c5⟩ := X3.out.six
  go_wp2_with fail
  refine (H3.out _).mono ?_
  rintro e w4 ⟨rfl, hb⟩
  have X4 := Lib.hid (X3.out.below hb)
  clear hb c0 c1 c2 c3 c4 c5
  obtain ⟨c0, c1, c2, c3, c4, c5⟩ := X4.out.six
  go_wp2_with fail
  refine (H4.out _).mono ?_
  rintro e w5 ⟨rfl, hb⟩
  have X5 := Lib.hid (X4.out.below hb)
  clear hb c0 c1 c2 c3 c4 c5
  obtain ⟨c0, c1, c2, c3, c4, c5⟩ := X5.out.six
  go_wp2_with fail
  go_ret
  exact ⟨rfl, X5.out.lo⟩
theorem cright_any (a p s q v x : Int) (W : World) : Calls Try.prog 5 #[cfV a p s q v x] W (Says (rightC a p s q v) W) := by
  by_cases h0 : 1 ≤ a ∧ a ≤ 32
  rotate_left
  · rw [show rightC a p s q v = false from decide_eq_false (fun h => h0 (by omega))]
    exact right_0 a p s q v x W (Lib.hid (fun X => by have h := within_any a 1 32 X; rwa [decide_eq_false h0] at h))
  by_cases h1 : 1 ≤ p ∧ p ≤ 8
  rotate_left
  · rw [show rightC a p s q v = false from decide_eq_false (fun h => h1 (by omega))]
    exact right_1 a p s q v x W (Lib.hid (fun X => by have h := within_any a 1 32 X; rwa [decide_eq_true h0] at h)) (Lib.hid (fun X => by have h := within_any p 1 8 X; rwa [decide_eq_false h1] at h))
  by_cases h2 : 1 ≤ s ∧ s ≤ 64
  rotate_left
  · rw [show rightC a p s q v = false from decide_eq_false (fun h => h2 (by omega))]
    exact right_2 a p s q v x W (Lib.hid (fun X => by have h := within_any a 1 32 X; rwa [decide_eq_true h0] at h)) (Lib.hid (fun X => by have h := within_any p 1 8 X; rwa [decide_eq_true h1] at h)) (Lib.hid (fun X => by have h := within_any s 1 64 X; rwa [decide_eq_false h2] at h))
  by_cases h3 : 0 ≤ q ∧ q ≤ 64
  rotate_left
  · rw [show rightC a p s q v = false from decide_eq_false (fun h => h3 (by omega))]
    exact right_3 a p s q v x W (Lib.hid (fun X => by have h := within_any a 1 32 X; rwa [decide_eq_true h0] at h)) (Lib.hid (fun X => by have h := within_any p 1 8 X; rwa [decide_eq_true h1] at h)) (Lib.hid (fun X => by have h := within_any s 1 64 X; rwa [decide_eq_true h2] at h)) (Lib.hid (fun X => by have h := within_any q 0 64 X; rwa [decide_eq_false h3] at h))
  by_cases h4 : 0 ≤ v ∧ v ≤ 8
  rotate_left
  · rw [show rightC a p s q v = false from decide_eq_false (fun h => h4 (by omega))]
    exact right_4 a p s q v x W (Lib.hid (fun X => by have h := within_any a 1 32 X; rwa [decide_eq_true h0] at h)) (Lib.hid (fun X => by have h := within_any p 1 8 X; rwa [decide_eq_true h1] at h)) (Lib.hid (fun X => by have h := within_any s 1 64 X; rwa [decide_eq_true h2] at h)) (Lib.hid (fun X => by have h := within_any q 0 64 X; rwa [decide_eq_true h3] at h)) (Lib.hid (fun X => by have h := within_any v 0 8 X; rwa [decide_eq_false h4] at h))
  rw [show rightC a p s q v = true from decide_eq_true ⟨h0, h1, h2, h3, h4⟩]
  exact right_5 a p s q v x W (Lib.hid (fun X => by have h := within_any a 1 32 X; rwa [decide_eq_true h0] at h)) (Lib.hid (fun X => by have h := within_any p 1 8 X; rwa [decide_eq_true h1] at h)) (Lib.hid (fun X => by have h := within_any s 1 64 X; rwa [decide_eq_true h2] at h)) (Lib.hid (fun X => by have h := within_any q 0 64 X; rwa [decide_eq_true h3] at h)) (Lib.hid (fun X => by have h := within_any v 0 8 X; rwa [decide_eq_true h4] at h))

theorem awrap {n : Int} (h : -9223372036854775808 ≤ n ∧ n ≤ 9223372036854775807) : IntKind.i64.wrap n = n := by rw [IntKind.wrap_i64]; omega

/-! ### how many cells there are -/
set_option maxHeartbeats 1000000 in
theorem csize_any (a p s q v x : Int) (W : World) : Calls Try.prog 27 #[cfV a p s q v x] W (Tells (sizeW a p s q v) W) := by
  have HR := Lib.hid (fun X : World => cright_any a p s q v x X)
  have X0 := Lib.hid (BoxC.start W a p s q v x)
  obtain ⟨c0, c1, c2, c3, c4, c5⟩ := X0.out.six
  by_cases hr : rightC a p s q v = true
  · rw [show sizeW a p s q v = 3 + p + a + 2 * s from if_pos hr]
    obtain ⟨ha, hp, hs⟩ := rightC_bd hr
    rw [hr] at HR
    have HS := Lib.hid (fun X : World => firstShelf_any a p s q v x X ha hp)
    have hw0 : IntKind.i64.wrap (2 * s) = 2 * s := awrap (by omega)
    have hw : IntKind.i64.wrap (3 + p + a + 2 * s) = 3 + p + a + 2 * s := awrap (by omega)
    clear ha hp hs hr
    go_enter Try.func27, Try.ntmps27
    go_wp2_with fail
    refine (HR.out _).mono ?_
    rintro e w1 ⟨rfl, hb⟩
    have Y0 := Lib.hid (X0.out.below hb)
    clear hb c0 c1 c2 c3 c4 c5
    obtain ⟨c0, c1, c2, c3, c4, c5⟩ := Y0.out.six
    go_wp2_with fail
    clear c0 c1 c2 c3 c4 c5
    go_region_held3 (fun w' => w'.cell? ⟨W.heap.size, 0, none⟩ = some (.int .i64 a) ∧ w'.cell? ⟨W.heap.size, 1, none⟩ = some (.int .i64 p) ∧ w'.cell? ⟨W.heap.size, 2, none⟩ = some (.int .i64 s) ∧ w'.cell? ⟨W.heap.size, 3, none⟩ = some (.int .i64 q) ∧ w'.cell? ⟨W.heap.size, 4, none⟩ = some (.int .i64 v) ∧ w'.cell? ⟨W.heap.size, 5, none⟩ = some (.int .u64 x))
      (first
        | exact X1.out.six
        | exact Y0.out.drew.six
        | exact Y0.out.six)
      (first
        | (go_at_call 51; refine (HS.out _).mono ?_; rintro e x1 ⟨rfl, hb⟩; have X1 := Lib.hid (Y0.out.drew.below hb); clear hb))
    all_goals
      go_wp2_with fail
      go_ret
      exact ⟨by first | rfl | (simp only [hw0, hw]; rfl), X1.out.lo⟩
  · rw [show sizeW a p s q v = 0 from if_neg hr]
    rw [show rightC a p s q v = false by simpa using hr] at HR
    clear hr
    go_enter Try.func27, Try.ntmps27
    go_wp2_with fail
    refine (HR.out _).mono ?_
    rintro e w1 ⟨rfl, hb⟩
    have X1 := Lib.hid (X0.out.below hb)
    clear hb c0 c1 c2 c3 c4 c5
    go_wp2_with fail
    go_ret
    exact ⟨rfl, X1.out.lo⟩

set_option maxHeartbeats 1000000 in
theorem pin_any (a p s q v x i : Int) (W : World) : Calls Try.prog 17 #[cfV a p s q v x, .int .i64 i] W (Tells (pinW a p s q v i) W) := by
  have HR := Lib.hid (fun X : World => cright_any a p s q v x X)
  have X0 := Lib.hid (BoxC.start W a p s q v x)
  obtain ⟨c0, c1, c2, c3, c4, c5⟩ := X0.out.six
  by_cases hr : rightC a p s q v = true
  · obtain ⟨ha, hp, hs⟩ := rightC_bd hr
    rw [hr] at HR
    have HS := Lib.hid (fun X : World => firstShelf_any a p s q v x X ha hp)
    have hb1 : IntKind.i64.wrap (p - 1) = p - 1 := awrap (by omega)
    by_cases hin : 0 ≤ i ∧ i ≤ p - 1
    · rw [show pinW a p s q v i = 3 + i from if_pos ⟨hr, hin⟩]
      have HW := Lib.hid (fun X => by have h := within_any i 0 (p - 1) X; rwa [decide_eq_true hin] at h)
      have hw0 : IntKind.i64.wrap (2 * i) = 2 * i := awrap (by omega)
      have hw : IntKind.i64.wrap (3 + i) = 3 + i := awrap (by omega)
      clear hr ha hp hs hin
      go_enter Try.func17, Try.ntmps17
      go_wp2_with fail
      refine (HR.out _).mono ?_
      rintro e w1 ⟨rfl, hb⟩
      have X1 := Lib.hid (X0.out.below hb)
      clear hb c0 c1 c2 c3 c4 c5
      obtain ⟨c0, c1, c2, c3, c4, c5⟩ := X1.out.six
      go_wp2_with fail
      refine (HW.out _).mono ?_
      rintro e w2 ⟨rfl, hb⟩
      have X2 := Lib.hid (X1.out.below hb)
      clear hb c0 c1 c2 c3 c4 c5
      obtain ⟨c0, c1, c2, c3, c4, c5⟩ := X2.out.six
      go_wp2_with fail
      go_ret
      exact ⟨by first | rfl | (simp only [hw0, hw]; rfl), X2.out.lo⟩
    · rw [show pinW a p s q v i = -1 from if_neg (fun h => hin h.2)]
      have HW := Lib.hid (fun X => by have h := within_any i 0 (p - 1) X; rwa [decide_eq_false hin] at h)
      clear hr ha hp hs hin
      go_enter Try.func17, Try.ntmps17
      go_wp2_with fail
      refine (HR.out _).mono ?_
      rintro e w1 ⟨rfl, hb⟩
      have X1 := Lib.hid (X0.out.below hb)
      clear hb c0 c1 c2 c3 c4 c5
      obtain ⟨c0, c1, c2, c3, c4, c5⟩ := X1.out.six
      go_wp2_with fail
      refine (HW.out _).mono ?_
      rintro e w2 ⟨rfl, hb⟩
      have X2 := Lib.hid (X1.out.below hb)
      clear hb c0 c1 c2 c3 c4 c5
      go_wp2_with fail
      go_ret
      exact ⟨rfl, X2.out.lo⟩
  · rw [show pinW a p s q v i = -1 from if_neg (fun h => hr h.1)]
    rw [show rightC a p s q v = false by simpa using hr] at HR
    clear hr
    go_enter Try.func17, Try.ntmps17
    go_wp2_with fail
    refine (HR.out _).mono ?_
    rintro e w1 ⟨rfl, hb⟩
    have X1 := Lib.hid (X0.out.below hb)
    clear hb c0 c1 c2 c3 c4 c5
    go_wp2_with fail
    go_ret
    exact ⟨rfl, X1.out.lo⟩

set_option maxHeartbeats 1000000 in
theorem key_any (a p s q v x i : Int) (W : World) : Calls Try.prog 30 #[cfV a p s q v x, .int .i64 i] W (Tells (keyW a p s q v i) W) := by
  have HR := Lib.hid (fun X : World => cright_any a p s q v x X)
  have X0 := Lib.hid (BoxC.start W a p s q v x)
  obtain ⟨c0, c1, c2, c3, c4, c5⟩ := X0.out.six
  by_cases hr : rightC a p s q v = true
  · obtain ⟨ha, hp, hs⟩ := rightC_bd hr
    rw [hr] at HR
    have HS := Lib.hid (fun X : World => firstShelf_any a p s q v x X ha hp)
    have hb1 : IntKind.i64.wrap (s - 1) = s - 1 := awrap (by omega)
    by_cases hin : 0 ≤ i ∧ i ≤ s - 1
    · rw [show keyW a p s q v i = 3 + p + a + 2 * i from if_pos ⟨hr, hin⟩]
      have HW := Lib.hid (fun X => by have h := within_any i 0 (s - 1) X; rwa [decide_eq_true hin] at h)
      have hw0 : IntKind.i64.wrap (2 * i) = 2 * i := awrap (by omega)
      have hw : IntKind.i64.wrap (3 + p + a + 2 * i) = 3 + p + a + 2 * i := awrap (by omega)
      clear hr ha hp hs hin
      go_enter Try.func30, Try.ntmps30
      go_wp2_with fail
      refine (HR.out _).mono ?_
      rintro e w1 ⟨rfl, hb⟩
      have X1 := Lib.hid (X0.out.below hb)
      clear hb c0 c1 c2 c3 c4 c5
      obtain ⟨c0, c1, c2, c3, c4, c5⟩ := X1.out.six
      go_wp2_with fail
      refine (HW.out _).mono ?_
      rintro e w2 ⟨rfl, hb⟩
      have X2 := Lib.hid (X1.out.below hb)
      clear hb c0 c1 c2 c3 c4 c5
      obtain ⟨c0, c1, c2, c3, c4, c5⟩ := X2.out.six
      go_wp2_with fail
      refine (HS.out _).mono ?_
      rintro e w3 ⟨rfl, hb⟩
      have X3 := Lib.hid (X2.out.below hb)
      clear hb c0 c1 c2 c3 c4 c5
      go_wp2_with fail
      go_ret
      exact ⟨by first | rfl | (simp only [hw0, hw]; rfl), X3.out.lo⟩
    · rw [show keyW a p s q v i = -1 from if_neg (fun h => hin h.2)]
      have HW := Lib.hid (fun X => by have h := within_any i 0 (s - 1) X; rwa [decide_eq_false hin] at h)
      clear hr ha hp hs hin
      go_enter Try.func30, Try.ntmps30
      go_wp2_with fail
      refine (HR.out _).mono ?_
      rintro e w1 ⟨rfl, hb⟩
      have X1 := Lib.hid (X0.out.below hb)
      clear hb c0 c1 c2 c3 c4 c5
      obtain ⟨c0, c1, c2, c3, c4, c5⟩ := X1.out.six
      go_wp2_with fail
      refine (HW.out _).mono ?_
      rintro e w2 ⟨rfl, hb⟩
      have X2 := Lib.hid (X1.out.below hb)
      clear hb c0 c1 c2 c3 c4 c5
      go_wp2_with fail
      go_ret
      exact ⟨rfl, X2.out.lo⟩
  · rw [show keyW a p s q v i = -1 from if_neg (fun h => hr h.1)]
    rw [show rightC a p s q v = false by simpa using hr] at HR
    clear hr
    go_enter Try.func30, Try.ntmps30
    go_wp2_with fail
    refine (HR.out _).mono ?_
    rintro e w1 ⟨rfl, hb⟩
    have X1 := Lib.hid (X0.out.below hb)
    clear hb c0 c1 c2 c3 c4 c5
    go_wp2_with fail
    go_ret
    exact ⟨rfl, X1.out.lo⟩

set_option maxHeartbeats 1000000 in
theorem head_any (a p s q v x i : Int) (W : World) : Calls Try.prog 54 #[cfV a p s q v x, .int .i64 i] W (Tells (headW a p s q v i) W) := by
  have HK := Lib.hid (fun X : World => key_any a p s q v x i X)
  have X0 := Lib.hid (BoxC.start W a p s q v x)
  obtain ⟨c0, c1, c2, c3, c4, c5⟩ := X0.out.six
  have HE : (keyW a p s q v i = -1 ∧ headW a p s q v i = -1) ∨ (0 ≤ keyW a p s q v i ∧ keyW a p s q v i ≤ 1000 ∧ headW a p s q v i = keyW a p s q v i + 1) := by
    unfold keyW headW
    by_cases h : rightC a p s q v = true ∧ 0 ≤ i ∧ i ≤ s - 1
    · obtain ⟨ha, hp, hs⟩ := rightC_bd h.1
      rw [if_pos h, if_pos h]
      exact .inr ⟨by omega, by omega, rfl⟩
    · rw [if_neg h, if_neg h]
      exact .inl ⟨rfl, rfl⟩
  generalize keyW a p s q v i = k at HE HK
  generalize headW a p s q v i = h at HE ⊢
  rcases HE with ⟨rfl, rfl⟩ | ⟨k0, k1, rfl⟩
  · go_enter Try.func54, Try.ntmps54
    go_wp2_with fail
    refine (HK.out _).mono ?_
    rintro e w1 ⟨rfl, hb⟩
    have X1 := Lib.hid (X0.out.below hb)
    clear hb c0 c1 c2 c3 c4 c5
    go_wp2_with fail
    go_ret
    exact ⟨rfl, X1.out.lo⟩
  · have hn : ¬ k = -1 := by omega
    have hw : IntKind.i64.wrap (k + 1) = k + 1 := awrap (by omega)
    go_enter Try.func54, Try.ntmps54
    go_wp2_with fail
    refine (HK.out _).mono ?_
    rintro e w1 ⟨rfl, hb⟩
    have X1 := Lib.hid (X0.out.below hb)
    clear hb c0 c1 c2 c3 c4 c5
    go_wp2_with fail
    go_ret
    exact ⟨by first | rfl | (simp only [hw]; rfl), X1.out.lo⟩

theorem tmod_of {i a : Int} (h : 0 ≤ i) : Int.tmod i a = i % a := by rw [Int.tmod_eq_emod_of_nonneg h]

end Go.Proofs.Ytpnfbabiibopnaa

/-! A config's control block on a heap of its own: the statements' Field and Tiny. -/
namespace Go.Proofs.Ytpnfbabiibopnaa
open Go Go.RowKit
attribute [local go_sem ↓] Go.wp_at_zero Go.wp_at_succ

def fieldD (n : Nat) : HpD := emptyD.add ⟨List.replicate n 0, ⟨#[]⟩, false⟩

def FieldR (z : Int) (W : World) (e : Ending) (W' : World) : Prop := ∃ B b f, e = .returned (.pointer (some ⟨b, 0, none⟩)) ∧ W.heap.size ≤ B ∧ Hp W' B b (fieldD z.toNat) f ∧ Below W.heap.size W W'

set_option maxRecDepth 100000 in
set_option maxHeartbeats 2000000 in
theorem field_any (W : World) (a p s q v x : Int) (hr : rightC a p s q v = true) : Calls Try.prog 7 #[cfV a p s q v x] W (FieldR (sizeW a p s q v) W) := by
  obtain ⟨ha, hp, hs⟩ := rightC_bd hr
  have hz : sizeW a p s q v = 3 + p + a + 2 * s := if_pos hr
  obtain ⟨z, hzz⟩ : ∃ z, sizeW a p s q v = z := ⟨_, rfl⟩
  have HZ := Lib.hid (fun X : World => (by have := csize_any a p s q v x X; rw [hzz] at this; exact this : Calls Try.prog 27 #[cfV a p s q v x] X (Tells z X)))
  have hmk : okay z = true := by unfold okay; rw [← hzz, hz]; exact decide_eq_true (by omega)
  have HD := Lib.hid (show makeD emptyD z ⟨#[]⟩ = fieldD z.toNat from by unfold makeD fieldD; rw [hmk, if_pos rfl])
  have HMk := Lib.hid (fun (X : World) (b : Nat) (f : Nat → Prop) (B : Nat) (hX : Hp X B b emptyD f) => make_all X hX (by show 0 < 1000000; omega) z ⟨#[]⟩ (by show (⟨#[]⟩ : ByteArray).size ≤ _; exact Nat.zero_le _))
  rw [hzz]
  have X0 := Lib.hid (BoxC.start W a p s q v x)
  clear ha hp hs hz hzz hmk hr
  go_enter Try.func7, Try.ntmps7
  go_wp2_with fail
  refine (new_any _).mono ?_
  rintro en w1 ⟨b, f1, rfl, h1, hb1⟩
  have X1 := Lib.hid (X0.out.below hb1)
  have H1 := Lib.hid h1
  clear h1 hb1 X0
  obtain ⟨c0, c1, c2, c3, c4, c5⟩ := X1.out.six
  go_wp2_with fail
  refine (HZ.out _).mono ?_
  rintro en w2 ⟨rfl, hb⟩
  have X2 := Lib.hid (X1.out.below hb)
  have H2 := Lib.hid (H1.out.below hb)
  clear hb c0 c1 c2 c3 c4 c5 X1 H1
  go_wp2_with fail
  refine (HMk.out _ b _ _ H2.out).mono ?_
  rintro en w3 ⟨f3, rfl, h3, s3⟩
  have HE := Lib.hid (show FieldR z W (.returned (.pointer (some ⟨b, 0, none⟩))) w3 from by
    rw [HD.out] at h3
    exact ⟨_, b, f3, rfl, by simp, h3, X2.out.lo.trans (s3.below X2.out.lo.size (fun k hk => H2.out.base k (by rw [World.size_alloc]; omega)))⟩)
  clear h3 s3
  go_wp2_with fail
  go_ret
  exact HE.out

theorem tiny_any (W : World) : Calls Try.prog 24 #[] W fun e W' => e = .returned (cfV 2 2 3 2 1 0) ∧ Below W.heap.size W W' := by
  have HZ := Lib.hid (World.alloc_heap_new W (.cells #[.int .i64 0, .int .i64 0, .int .i64 0, .int .i64 0, .int .i64 0, .int .u64 0] 24))
  obtain ⟨z0, z1, z2, z3, z4, z5⟩ := six_free HZ.out
  obtain ⟨m0, m1, m2, m3, m4, m5⟩ := six_at HZ.out
  go_enter Try.func24, Try.ntmps24
  go_wp2_with fail
  refine bodyPost_ret (v := cfV 2 2 3 2 1 0) (by rw [results_cell1 (by rfl)]; go_simp) rfl ⟨rfl, ?_⟩
  exact below_alloc _ _

theorem field_few {z : Int} {n : Nat} (hn : n ≤ 800000) : FewD (fieldD z.toNat) n := by
  refine ⟨by show 0 + n ≤ _; omega, by show 1 + n ≤ _; omega, fun b hb => ?_⟩
  have hb' : b = ⟨List.replicate z.toNat 0, ⟨#[]⟩, false⟩ := by
    have : b ∈ [(⟨List.replicate z.toNat 0, ⟨#[]⟩, false⟩ : BlkD)] := hb
    simpa using this
  subst hb'
  exact ⟨fun w hw => by rw [List.eq_of_mem_replicate hw]; omega, by show (⟨#[]⟩ : ByteArray).size ≤ _; exact Nat.zero_le _⟩

end Go.Proofs.Ytpnfbabiibopnaa
