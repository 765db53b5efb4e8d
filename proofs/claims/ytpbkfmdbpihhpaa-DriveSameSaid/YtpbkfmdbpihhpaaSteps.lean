/-
  drive's Steps, over whatever Next does: what it hands out.
-/
import Derived.Test.YtpbkfmdbpihhpaaOwn
import Derived.Test.YtpbkfmdbpihhpaaDrun
import Derived.OwnWalkIn
import Derived.TacticsInMore
import Derived.LoopNIn
import Derived.LoopIn
namespace Go.Proofs.Ytpbkfmdbpihhpaa
open Go Go.RowKit
attribute [local go_sem] Oper.semAt_some

theorem steps_any (pa : Option Addr) (rv : Value) (hrv : (∃ r, rv = rowV r) ∨ rv = .nilIface) (m : Int) (w : World) :
    Calls Try.prog 8 #[.pointer pa, rv, .int .i64 m] w fun e w' =>
      e = .returned (.func (.func 13) #[] #[.pointer (some ⟨w.heap.size + 1 + 1, 0, none⟩), .pointer (some ⟨w.heap.size, 0, none⟩), .pointer (some ⟨w.heap.size + 1, 0, none⟩)]) ∧
      w' = ((w.alloc (.cells #[.pointer pa] 25)).alloc (.cells #[rv] 56)).alloc (.cells #[.int .i64 m] 3) := by
  rcases hrv with ⟨r, rfl⟩ | rfl
  all_goals
    go_enter Try.func8, Try.ntmps8
    go_wp2
    go_ret
    exact ⟨rfl, rfl⟩

/-- What the iterator has, and the boxes that it reads. -/
def OwnS (bm bh br : Nat) (m : Nat) (pa : Option Addr) (rv : Value) (Own0 : Nat → (Nat → Prop) → World → Prop) (j : Nat) (g : Nat → Prop) (W : World) : Prop :=
  Own0 j g W ∧ W.cell? ⟨bm, 0, none⟩ = some (.int .i64 (m : Int)) ∧ W.cell? ⟨bh, 0, none⟩ = some (.pointer pa) ∧ W.cell? ⟨br, 0, none⟩ = some rv ∧ ¬ g bm ∧ ¬ g bh ∧ ¬ g br
def roS (bm bh br : Nat) (ro : Nat → Prop) (k : Nat) : Prop := ro k ∨ k = bm ∨ k = bh ∨ k = br
section
variable {bm bh br m : Nat} {pa : Option Addr} {rv : Value} {Own0 : Nat → (Nat → Prop) → World → Prop} {ro : Nat → Prop}
theorem OwnS.stable (h : StableO Own0 ro) : StableO (OwnS bm bh br m pa rv Own0) (roS bm bh br ro) := by
  rintro j g W W' ⟨h0, h1, h2, h3, h4⟩ hz hs
  have hc : ∀ b, (b = bm ∨ b = bh ∨ b = br) → W'.cell? ⟨b, 0, none⟩ = W.cell? ⟨b, 0, none⟩ := fun b hb => World.cell?_of_block (a := ⟨b, 0, none⟩) (hs b (.inr (.inr hb)))
  exact ⟨h _ _ _ _ h0 hz (fun k hk => hs k (hk.elim .inl (fun hr => .inr (.inl hr)))), (hc _ (.inl rfl)).trans h1, (hc _ (.inr (.inl rfl))).trans h2, (hc _ (.inr (.inr rfl))).trans h3, h4⟩
theorem OwnS.bound (h : BoundO Own0 ro) : BoundO (OwnS bm bh br m pa rv Own0) (roS bm bh br ro) := by
  rintro j g W ⟨h0, h1, h2, h3, h4⟩ k hk
  rcases hk with hk | hk | rfl | rfl | rfl
  · exact h _ _ _ h0 k (.inl hk)
  · exact h _ _ _ h0 k (.inr hk)
  · exact cell_lt h1
  · exact cell_lt h2
  · exact cell_lt h3
end

/-- What Next tells of such a routine: the next of xs, or that there is none. -/
def NextE (Own0 : Nat → (Nat → Prop) → World → Prop) (xs : List StepD) (g : Nat → Prop) (j : Nat) (W : World) (e : Ending) (W' : World) : Prop :=
  ∃ g', Step g g' W W' ∧ ((∃ s, xs[j]? = some s ∧ e = .returned (.tuple #[stepV 0 s, .bool true]) ∧ Own0 (j + 1) g' W') ∨ (j = xs.length ∧ e = .returned (.tuple #[zeroS, .bool false]) ∧ Own0 j g' W'))

/-- Between two rounds. -/
def MidS (J : List StepD → (Nat → Prop) → World → Prop) (Own : Nat → (Nat → Prop) → World → Prop) (ro : Nat → Prop) (xs : List StepD) (f g : Nat → Prop) (W : World) (k : Nat) (wr : World) : Prop :=
  ∃ fk gk, Step (fun j => f j ∨ g j) (fun j => fk j ∨ gk j) W wr ∧ (∀ j, fk j → ¬ gk j ∧ ¬ ro j) ∧ J (xs.take k) fk wr ∧ Own k gk wr

set_option maxRecDepth 100000 in
set_option maxHeartbeats 2000000 in
theorem steps_iter (F : Fence) (n : Nat) (hF : ∀ k, F.fn k) (hro : F.round = none) (hW : Hid (∀ n f args w R, Calls Try.prog f args w R → CallsIn F n Try.prog f args w R)) (hn : 2 ≤ n) (bm bh br m : Nat) (pa : Option Addr) (rv : Value) (xs : List StepD)
    (Own0 : Nat → (Nat → Prop) → World → Prop) (ro : Nat → Prop) (hS : StableO Own0 ro) (hB : BoundO Own0 ro) (hxm : xs.length ≤ m) (hm2 : m ≤ 1000)
    (HN : Hid (∀ j g W, Own0 j g W → j ≤ xs.length → j < m → Calls Try.prog 12 #[.pointer pa, rv] W (NextE Own0 xs g j W))) :
    IterO F n Try.prog 13 #[.pointer (some ⟨bm, 0, none⟩), .pointer (some ⟨bh, 0, none⟩), .pointer (some ⟨br, 0, none⟩)] (fun s : StepD => #[stepV 0 s]) xs (OwnS bm bh br m pa rv Own0) (roS bm bh br ro) := by
  intro l J Jx W f g hJ hJx bJ hO hap hY h0
  have h1n : 1 ≤ n := by omega
  have hSS := Lib.hid (OwnS.stable (bm := bm) (bh := bh) (br := br) (m := m) (pa := pa) (rv := rv) hS)
  have hBB := Lib.hid (OwnS.bound (bm := bm) (bh := bh) (br := br) (m := m) (pa := pa) (rv := rv) hB)
  have HM0 := Lib.hid (show MidS J (OwnS bm bh br m pa rv Own0) (roS bm bh br ro) xs f g W 0 W from ⟨f, g, Step.refl _ _, hap, h0, hO⟩)
  have hcm := hO.2.1
  have hm1 : (m : Int) ≤ 1000 := by omega
  clear hO hap h0 hS hB
  refine callsIn_of_wp Try.func13 rfl (hF _) ?_ hro
  simp only [Try.ntmps13, List.size_toArray, List.length_cons, List.length_nil, Nat.reduceAdd, Nat.reduceSub, Array.replicate_succ, Array.replicate_zero, List.push_toArray, List.append_toArray, List.nil_append, List.cons_append]
  gi_wp2_with fail
  clear hcm
  gi_loopw [8] (fun s wr => ∃ k : Nat, s = .int .i64 (k : Int) ∧ k ≤ xs.length ∧ Hid (MidS J (OwnS bm bh br m pa rv Own0) (roS bm bh br ro) xs f g W k wr)) (fun s _ => m - (intOf s).toNat)
  case atStart => exact ⟨0, rfl, Nat.zero_le _, HM0⟩
  case round =>
    clear HM0
    obtain ⟨k, rfl, hkx, HM⟩ := hrel
    have hk0 : (0 : Int) ≤ (k : Int) := by omega
    obtain ⟨fk, gk, hst, happ, hJk, hOk⟩ := HM.out
    by_cases hlt : k < m
    · have hk1 : (k : Int) < (m : Int) := by omega
      have hch := hOk.2.2.1
      have hcr := hOk.2.2.2.1
      have HX := Lib.hid (HN.out k gk wr hOk.1 hkx hlt)
      have HOk := Lib.hid hOk
      have HJk := Lib.hid hJk
      have HSt := Lib.hid hst
      have HAp := Lib.hid happ
      clear hst happ hJk hOk HM
      gi_wp2_with fail
      refine (hW.out _ _ _ _ _ HX.out).mono ?_
      rintro en w2 ⟨g2, s2, (⟨s, hs, rfl, hO2⟩ | ⟨rfl, rfl, hO2⟩)⟩
      · obtain ⟨hkl, hs'⟩ := List.getElem?_eq_some_iff.1 hs
        have hcut : xs = xs.take k ++ s :: xs.drop (k + 1) := by rw [← hs', ← List.drop_eq_getElem_cons hkl, List.take_append_drop]
        have HSn := Lib.hid (show xs.take (k + 1) = xs.take k ++ [s] from by rw [← hs']; exact List.take_succ_eq_append_getElem hkl)
        have HS2 := Lib.hid ((HSt.out.trans (step_or' s2 fk)).trans (Step.of_below (below_alloc w2 (stepO s))))
        have hfl := bJ _ _ _ HJk.out
        have HA2 := Lib.hid (show ∀ j, fk j → ¬ g2 j ∧ ¬ roS bm bh br ro j from fun j hj => ⟨fun h2 => (s2.foot j h2).elim (fun h3 => (HAp.out j hj).1 h3) (fun h3 => by have := hfl j hj; omega), (HAp.out j hj).2⟩)
        have hJ2 : J (xs.take k) fk (w2.alloc (stepO s)) := hJ _ _ _ _ HJk.out (Nat.le_trans s2.size (below_alloc w2 _).size) (fun j hj => ((below_alloc w2 _).block j (Nat.lt_of_lt_of_le (hfl j hj) s2.size)).trans (s2.block j (hfl j hj) (HAp.out j hj).1))
        have hO3 : OwnS bm bh br m pa rv Own0 (k + 1) g2 w2 := by
          obtain ⟨-, q1, q2, q3, q4, q5, q6⟩ := HOk.out
          have hl := hBB.out _ _ _ HOk.out
          have hro1 : ∀ b, (b = bm ∨ b = bh ∨ b = br) → ¬ gk b → w2.cell? ⟨b, 0, none⟩ = wr.cell? ⟨b, 0, none⟩ ∧ ¬ g2 b := fun b hb hg => ⟨World.cell?_of_block (a := ⟨b, 0, none⟩) (s2.block b (hl b (.inr (.inr hb))) hg), s2.off (hl b (.inr (.inr hb))) hg⟩
          exact ⟨hO2, (hro1 _ (.inl rfl) q4).1.trans q1, (hro1 _ (.inr (.inl rfl)) q5).1.trans q2, (hro1 _ (.inr (.inr rfl)) q6).1.trans q3, (hro1 _ (.inl rfl) q4).2, (hro1 _ (.inr (.inl rfl)) q5).2, (hro1 _ (.inr (.inr rfl)) q6).2⟩
        have HO3 := Lib.hid (hSS.out _ _ _ _ hO3 (below_alloc w2 (stepO s)).size (fun j hj => (below_alloc w2 _).block j (hBB.out _ _ _ hO3 j hj)))
        obtain ⟨fn, tmps, assign, body, hy, hRd⟩ := hY (xs.take k) s (xs.drop (k + 1)) fk _ hcut hJ2
        have HFl := Lib.hid (fun j hj => Nat.lt_of_lt_of_le (hfl j hj) (Nat.le_trans s2.size (below_alloc w2 (stepO s)).size))
        have HKl := Lib.hid hkl
        clear s2 hfl hJ2 hO3 hO2 hch hcr HX hcut hs hs' hkl
        gi_wp2_with fail
        refine hRd.mono ?_
        have fin : ∀ (f3 : Nat → Prop) (W3 : World), Step fk f3 (w2.alloc (stepO s)) W3 → Step (fun j => f j ∨ g j) (fun j => f3 j ∨ g2 j) W W3 ∧ (∀ j, f3 j → ¬ g2 j ∧ ¬ roS bm bh br ro j) ∧ OwnS bm bh br m pa rv Own0 (k + 1) g2 W3 := fun f3 W3 hs3 => by
          have hl := hBB.out _ _ _ HO3.out
          refine ⟨HS2.out.trans (step_or hs3 g2), fun j hj => ?_, hSS.out _ _ _ _ HO3.out hs3.size (fun j hj => hs3.block j (hl j hj) (fun hf => hj.elim (HA2.out j hf).1 (HA2.out j hf).2))⟩
          rcases hs3.foot j hj with h | h
          · exact HA2.out j h
          · exact ⟨fun h2 => by have := hl j (.inl h2); omega, fun h2 => by have := hl j (.inr h2); omega⟩
        have HFin := Lib.hid fin
        clear fin
        rintro e W3 (⟨rfl, f3, hs3, hJ3⟩ | ⟨rfl, f3, hs3, hJ3⟩)
        · have HM3 := Lib.hid (show MidS J (OwnS bm bh br m pa rv Own0) (roS bm bh br ro) xs f g W (k + 1) W3 from ⟨f3, g2, (HFin.out _ _ hs3).1, (HFin.out _ _ hs3).2.1, by rw [HSn.out]; exact hJ3, (HFin.out _ _ hs3).2.2⟩)
          clear hs3 hJ3
          gi_wp2_with fail
          go_roundw
          case rel => exact ⟨k + 1, by go_num, HKl.out, HM3⟩
          case measure => simp [intOf]; omega
        · have HE3 := Lib.hid (show OwnEnds J Jx (OwnS bm bh br m pa rv Own0) (roS bm bh br ro) xs f g W (.returned (.tuple #[])) W3 from ⟨⟨_, rfl⟩, xs.take (k + 1), f3, g2, (HFin.out _ _ hs3).1, (HFin.out _ _ hs3).2.1, by
            rw [List.length_take, Nat.min_eq_left (by have := HKl.out; omega)]; exact (HFin.out _ _ hs3).2.2, .inr ⟨List.take_prefix _ _, by rw [HSn.out]; exact hJ3⟩⟩)
          clear hs3 hJ3
          gi_wp2_with fail
          exact bodyPost_ret (results_none rfl _ _ _) rfl HE3.out
      · have HE3 := Lib.hid (show OwnEnds J Jx (OwnS bm bh br m pa rv Own0) (roS bm bh br ro) xs f g W (.returned (.tuple #[])) (w2.alloc zeroO) from by
          have hfl := bJ _ _ _ HJk.out
          have hJ2 : J xs fk (w2.alloc zeroO) := by
            have := HJk.out
            rw [List.take_length] at this
            exact hJ _ _ _ _ this (Nat.le_trans s2.size (below_alloc w2 _).size) (fun j hj => ((below_alloc w2 _).block j (Nat.lt_of_lt_of_le (hfl j hj) s2.size)).trans (s2.block j (hfl j hj) (HAp.out j hj).1))
          have hO3 : OwnS bm bh br m pa rv Own0 xs.length g2 w2 := by
            obtain ⟨-, q1, q2, q3, q4, q5, q6⟩ := HOk.out
            have hl := hBB.out _ _ _ HOk.out
            have hro1 : ∀ b, (b = bm ∨ b = bh ∨ b = br) → ¬ gk b → w2.cell? ⟨b, 0, none⟩ = wr.cell? ⟨b, 0, none⟩ ∧ ¬ g2 b := fun b hb hg => ⟨World.cell?_of_block (a := ⟨b, 0, none⟩) (s2.block b (hl b (.inr (.inr hb))) hg), s2.off (hl b (.inr (.inr hb))) hg⟩
            exact ⟨hO2, (hro1 _ (.inl rfl) q4).1.trans q1, (hro1 _ (.inr (.inl rfl)) q5).1.trans q2, (hro1 _ (.inr (.inr rfl)) q6).1.trans q3, (hro1 _ (.inl rfl) q4).2, (hro1 _ (.inr (.inl rfl)) q5).2, (hro1 _ (.inr (.inr rfl)) q6).2⟩
          exact ⟨⟨_, rfl⟩, xs, fk, g2, (HSt.out.trans (step_or' s2 fk)).trans (Step.of_below (below_alloc w2 zeroO)), fun j hj => ⟨fun h2 => (s2.foot j h2).elim (fun h3 => (HAp.out j hj).1 h3) (fun h3 => by have := hfl j hj; omega), (HAp.out j hj).2⟩,
            hSS.out _ _ _ _ hO3 (below_alloc w2 zeroO).size (fun j hj => (below_alloc w2 _).block j (hBB.out _ _ _ hO3 j hj)), .inl ⟨rfl, hJ2⟩⟩)
        clear s2 hO2 hch hcr HX
        gi_wp2_with fail
        exact bodyPost_ret (results_none rfl _ _ _) rfl HE3.out
    · obtain rfl : m = k := by omega
      have HE3 := Lib.hid (show OwnEnds J Jx (OwnS bm bh br m pa rv Own0) (roS bm bh br ro) xs f g W (.returned (.tuple #[])) wr from by
        have hl : xs.length = m := by omega
        rw [← hl, List.take_length] at hJk
        exact ⟨⟨_, rfl⟩, xs, fk, gk, hst, happ, by rw [hl]; exact hOk, .inl ⟨rfl, hJk⟩⟩)
      clear hst happ hJk hOk HM
      gi_wp2_with fail
      go_end0
      exact HE3.out

end Go.Proofs.Ytpbkfmdbpihhpaa
