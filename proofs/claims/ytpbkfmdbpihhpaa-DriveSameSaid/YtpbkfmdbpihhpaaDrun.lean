/-
  What several picks of one routine come to; drive's Run of them.
-/
import Derived.Test.YtpbkfmdbpihhpaaDnext
namespace Go.Proofs.Ytpbkfmdbpihhpaa
open Go Go.RowKit
attribute [local go_sem ↓] Go.wp_at_zero Go.wp_at_succ

/-- Behind one pick. -/
def advP (L : List ActD) (S : PlS) : PlS := match stepP L S with | some _ => nextP L S | none => S
/-- Behind n picks; and what they told. -/
def stP (L : List ActD) (S : PlS) : Nat → PlS
  | 0 => S
  | n + 1 => advP L (stP L S n)
def toP (L : List ActD) (S : PlS) : Nat → List StepD
  | 0 => []
  | n + 1 => toP L S n ++ (stepP L (stP L S n)).toList
theorem FewP.st {L : List ActD} {S : PlS} (h : FewP L S) : ∀ n, FewP L (stP L S n)
  | 0 => h
  | n + 1 => by
    show FewP L (advP L (stP L S n))
    unfold advP
    split
    · exact (h.st n).next
    · exact h.st n
theorem toP_walk (L : List ActD) (S : PlS) : ∀ n, (toP L S n).length ≤ n ∧ (∀ j, j < (toP L S n).length → stepP L (stP L S j) = (toP L S n)[j]?) ∧ ((toP L S n).length < n → stepP L (stP L S (toP L S n).length) = none) ∧ stP L S n = stP L S (toP L S n).length
  | 0 => ⟨Nat.le_refl _, fun j hj => absurd hj (Nat.not_lt_zero _), fun h => absurd h (Nat.lt_irrefl _), rfl⟩
  | n + 1 => by
    obtain ⟨h1, h2, h3, h4⟩ := toP_walk L S n
    cases hs : stepP L (stP L S n) with
    | some s =>
      have hl : (toP L S n).length = n := by
        rcases Nat.lt_or_ge (toP L S n).length n with hlt | hge
        · have := h3 hlt; rw [← h4, hs] at this; cases this
        · omega
      have ht : toP L S (n + 1) = toP L S n ++ [s] := by show toP L S n ++ (stepP L (stP L S n)).toList = _; rw [hs]; rfl
      have hl2 : (toP L S (n + 1)).length = n + 1 := by rw [ht]; simp [hl]
      refine ⟨by omega, fun j hj => ?_, fun h => by omega, by rw [hl2]⟩
      rw [ht]
      rcases Nat.lt_or_ge j n with hj' | hj'
      · rw [List.getElem?_append_left (by omega)]; exact h2 j (by omega)
      · obtain rfl : j = n := by omega
        rw [List.getElem?_append_right (by omega), hl, hs]; simp
    | none =>
      have ht : toP L S (n + 1) = toP L S n := by show toP L S n ++ (stepP L (stP L S n)).toList = _; rw [hs]; simp
      have hst : stP L S (n + 1) = stP L S n := by show advP L (stP L S n) = _; unfold advP; rw [hs]
      rw [ht, hst]
      refine ⟨by omega, h2, fun _ => ?_, h4⟩
      rcases Nat.lt_or_ge (toP L S n).length n with hlt | hge
      · exact h3 hlt
      · have : (toP L S n).length = n := by omega
        rw [this]; exact hs
theorem toP_len (L : List ActD) (S : PlS) (n : Nat) : (toP L S n).length ≤ n := (toP_walk L S n).1

/-- Steps, as their cells stand. -/
def flatS (L : List StepD) : List Value := L.flatMap fun s => [.int .i64 0, .int .i64 s.act.kind, .int .u64 (s.act.block : Int), .int .i64 s.act.cell, .int .u64 s.act.old, .int .u64 s.act.new, .string s.act.text, .int .u64 s.w, .string s.t]
theorem flatS_snoc (L : List StepD) (s : StepD) : flatS (L ++ [s]) = flatS L ++ [.int .i64 0, .int .i64 s.act.kind, .int .u64 (s.act.block : Int), .int .i64 s.act.cell, .int .u64 s.act.old, .int .u64 s.act.new, .string s.act.text, .int .u64 s.w, .string s.t] := by simp [flatS]
theorem info_step : (Try.prog.info? 44).map (fun i => (i.zero, i.size, i.bytes)) = some (some zeroS, 9, 88) := by kernel_rfl
theorem step_news (w : World) (s : StepD) : ∀ j u, [Value.int .i64 0, .int .i64 s.act.kind, .int .u64 (s.act.block : Int), .int .i64 s.act.cell, .int .u64 s.act.old, .int .u64 s.act.new, .string s.act.text, .int .u64 s.w, .string s.t][j]? = some u →
    (w.alloc (.cells #[.int .i64 0, .int .i64 s.act.kind, .int .u64 (s.act.block : Int), .int .i64 s.act.cell, .int .u64 s.act.old, .int .u64 s.act.new, .string s.act.text, .int .u64 s.w, .string s.t] 44)).cell? ((⟨w.heap.size, 0, none⟩ : Addr).add j) = some u :=
  World.news_of_block (cs := #[.int .i64 0, .int .i64 s.act.kind, .int .u64 (s.act.block : Int), .int .i64 s.act.cell, .int .u64 s.act.old, .int .u64 s.act.new, .string s.act.text, .int .u64 s.w, .string s.t]) (World.alloc_heap_new w _)
theorem step_one (s : StepD) : ∀ u ∈ [Value.int .i64 0, .int .i64 s.act.kind, .int .u64 (s.act.block : Int), .int .i64 s.act.cell, .int .u64 s.act.old, .int .u64 s.act.new, .string s.act.text, .int .u64 s.w, .string s.t], u.oneCell' = true := by
  intro u hu
  simp only [List.mem_cons, List.not_mem_nil, or_false] at hu
  rcases hu with rfl | rfl | rfl | rfl | rfl | rfl | rfl | rfl | rfl <;> rfl

abbrev stepO (s : StepD) : Obj := .cells #[.int .i64 0, .int .i64 s.act.kind, .int .u64 (s.act.block : Int), .int .i64 s.act.cell, .int .u64 s.act.old, .int .u64 s.act.new, .string s.act.text, .int .u64 s.w, .string s.t] 44 (0, 0)

/-- In the middle of Run: the routine behind k picks; the steps that were told, in a row of the call's own. -/
def RunI (B p r : Nat) (la : Option Addr) (c : Nat) (L : List ActD) (S : PlS) (f : Nat → Prop) (W : World) (k : Nat) (v : Value) (wr : World) : Prop :=
  ∃ f', Step f f' W wr ∧ Pl wr B p r la c L (stP L S k) f' ∧ Lot wr 44 9 v (toP L S k).length (flatS (toP L S k)) ∧ (∀ j, v.ownBlock = some j → W.heap.size ≤ j ∧ ¬ f' j)

theorem setCell_same {W : World} {b o : Nat} {u : Value} (h : W.cell? ⟨b, o, none⟩ = some u) : W.setCell ⟨b, o, none⟩ u = W := by
  have hh : (W.setCell ⟨b, o, none⟩ u).heap = W.heap := by
    apply Array.ext_getElem?
    intro j
    show (W.heap.modify b _)[j]? = W.heap[j]?
    rw [Array.getElem?_modify]
    split
    · rename_i hj
      subst hj
      unfold World.cell? at h
      split at h
      · rename_i c e f hc
        simp only [Option.isSome_none, Bool.false_eq_true, if_false] at h
        simp only [hc, Option.map_some, Option.isSome_none, Bool.false_eq_true, if_false]
        congr 2
        apply Array.ext_getElem?
        intro i
        rw [Array.getElem?_setIfInBounds]
        split
        · rename_i hi
          subst hi
          split
          · exact h.symm
          · rename_i hlt
            exact absurd (Array.getElem?_eq_some_iff.1 h).1 hlt
        · rfl
      · cases h
    · rfl
  show ({ W with heap := (W.setCell ⟨b, o, none⟩ u).heap } : World) = W
  rw [hh]
theorem run_keep {n : Nat} {f f1 f2 : Nat → Prop} {W wr w2 : World} {v : Value} {xs : List Value} (hs : Step f f1 W wr) (hlot : Lot wr 44 9 v n xs) (hown : ∀ j, v.ownBlock = some j → W.heap.size ≤ j ∧ ¬ f1 j) (s2 : Step f1 f2 wr w2) :
    Step f f2 W w2 ∧ Lot w2 44 9 v n xs ∧ (∀ j, v.ownBlock = some j → W.heap.size ≤ j ∧ ¬ f2 j) :=
  ⟨hs.trans s2, hlot.stays (fun j hj => s2.block j (hlot.lt j hj) (hown j hj).2), fun j hj => ⟨(hown j hj).1, s2.off (hlot.lt j hj) (hown j hj).2⟩⟩
theorem step_news2 (w : World) (s : StepD) : ∀ j u, [Value.int .i64 0, .int .i64 s.act.kind, .int .u64 (s.act.block : Int), .int .i64 s.act.cell, .int .u64 s.act.old, .int .u64 s.act.new, .string s.act.text, .int .u64 s.w, .string s.t][j]? = some u →
    ((w.alloc (stepO s)).alloc (stepO s)).cell? ((⟨w.heap.size + 1, 0, none⟩ : Addr).add j) = some u := by
  have := step_news (w.alloc (stepO s)) s
  rwa [World.size_alloc] at this
theorem run_more {B p r c k : Nat} {la : Option Addr} {L : List ActD} {S : PlS} {f f1 f2 : Nat → Prop} {W wr w2 w4 : World} {v : Value} {s : StepD} {g cap : Nat} (hl : ∀ a, la = some a → a.block < W.heap.size) (hs : Step f f1 W wr) (hlot : Lot wr 44 9 v (toP L S k).length (flatS (toP L S k))) (hown : ∀ j, v.ownBlock = some j → W.heap.size ≤ j ∧ ¬ f1 j)
    (s2 : Step f1 f2 wr w2) (hp : Pl w2 B p r la c L (nextP L (stP L S k)) f2) (hst : stepP L (stP L S k) = some s)
    (hL : Lot w4 44 9 (.slice (some ⟨g, 0, none⟩) ((toP L S k).length + 1) cap) ((toP L S k).length + 1) (flatS (toP L S k) ++ [.int .i64 0, .int .i64 s.act.kind, .int .u64 (s.act.block : Int), .int .i64 s.act.cell, .int .u64 s.act.old, .int .u64 s.act.new, .string s.act.text, .int .u64 s.w, .string s.t]))
    (hg : ((w2.alloc (stepO s)).alloc (stepO s)).grownBy w4 v.ownBlock) (hat : v.ownBlock = some g ∨ g = ((w2.alloc (stepO s)).alloc (stepO s)).heap.size) : RunI B p r la c L S f W (k + 1) (.slice (some ⟨g, 0, none⟩) ((toP L S k).length + 1) cap) w4 := by
  have hb2 : Below w2.heap.size w2 ((w2.alloc (stepO s)).alloc (stepO s)) := (below_alloc w2 (stepO s)).trans ((below_alloc _ (stepO s)).mono (by simp))
  obtain ⟨q1, q2, q3⟩ := run_keep hs hlot hown (s2.trans (Step.of_below hb2))
  have hp3 := hp.below hb2
  have e1 : toP L S (k + 1) = toP L S k ++ [s] := by show toP L S k ++ (stepP L (stP L S k)).toList = _; rw [hst]; rfl
  have e2 : stP L S (k + 1) = nextP L (stP L S k) := by show advP L (stP L S k) = _; unfold advP; rw [hst]
  generalize (w2.alloc (stepO s)).alloc (stepO s) = X at *
  have hla : ∀ a, la = some a → v.ownBlock ≠ some a.block := fun a ha e => by have := (q3 _ e).1; have := hl a ha; omega
  have hp4 : Pl w4 B p r la c L (nextP L (stP L S k)) f2 := hp3.stays hg.size (fun j hj => hg.block j (by
      rcases hj with hj | ⟨a, ha, rfl⟩
      · exact hp3.lt j hj
      · obtain ⟨_, _, _, _, _, _, _, h5⟩ := hp3; exact (h5 a ha).1) (by
      rcases hj with hj | ⟨a, ha, rfl⟩
      · intro e; exact (q3 j e.symm).2 hj
      · exact fun e => hla a ha e.symm))
  refine ⟨f2, ⟨hg.os.trans q1.os, hg.tape.trans q1.tape, hg.output.trans q1.output, Nat.le_trans q1.size hg.size, fun j hj hn => ?_, q1.foot⟩, by rw [e2]; exact hp4, by rw [e1, flatS_snoc, List.length_append]; exact hL, fun j hj => ?_⟩
  · exact (hg.block j (Nat.lt_of_lt_of_le hj q1.size) (fun e => by have := (q3 j e.symm).1; omega)).trans (q1.block j hj hn)
  · obtain rfl : g = j := by simpa [Value.ownBlock] using hj
    rcases hat with h0 | h0
    · exact q3 _ h0
    · exact ⟨by have := q1.size; omega, fun hf => by have := hp3.lt _ hf; omega⟩
theorem run_skip {B p r c k : Nat} {la : Option Addr} {L : List ActD} {S : PlS} {f f1 f2 : Nat → Prop} {W wr w2 : World} {v : Value} (hs : Step f f1 W wr) (hlot : Lot wr 44 9 v (toP L S k).length (flatS (toP L S k))) (hown : ∀ j, v.ownBlock = some j → W.heap.size ≤ j ∧ ¬ f1 j)
    (s2 : Step f1 f2 wr w2) (hp : Pl w2 B p r la c L (stP L S k) f2) (hst : stepP L (stP L S k) = none) : RunI B p r la c L S f W (k + 1) v w2 := by
  obtain ⟨q1, q2, q3⟩ := run_keep hs hlot hown s2
  have e1 : toP L S (k + 1) = toP L S k := by show toP L S k ++ (stepP L (stP L S k)).toList = _; rw [hst]; simp
  have e2 : stP L S (k + 1) = stP L S k := by show advP L (stP L S k) = _; unfold advP; rw [hst]
  exact ⟨f2, q1, by rw [e2]; exact hp, by rw [e1]; exact q2, q3⟩

set_option maxRecDepth 100000 in
set_option maxHeartbeats 4000000 in
theorem run_any {W : World} {B p r c q pc n : Nat} {pb : Option Addr} {la : Option Addr} {L : List ActD} {S : PlS} {f : Nat → Prop} (h : Pl W B p r la c L S f) (hF : FewP L S) (hn : n ≤ 1000) (hq : W.cell? ⟨q, 0, none⟩ = some (rowV r)) (hqf : ¬ f q)
    (hp : ∀ i, i < n → ∃ b, pb = some ⟨b, 0, none⟩ ∧ W.cell? ⟨b, i, none⟩ = some (.int .i64 0) ∧ ¬ f b) :
    Calls Try.prog 7 #[.pointer (some ⟨p, 0, none⟩), .slice (some ⟨q, 0, none⟩) 1 1, .slice pb n pc] W fun e W' => ∃ v, e = .returned v ∧ RunI B p r la c L S f W n v W' := by
  have HI := Lib.hid (show RunI B p r la c L S f W 0 (.slice none 0 0) W from ⟨f, Step.refl _ _, h, Lot.nil _ _ _, fun j hj => by cases hj⟩)
  have HQ := Lib.hid (fun X f' (hX : Step f f' W X) => (show X.cell? ⟨q, 0, none⟩ = some (rowV r) from (World.cell?_of_block (a := ⟨q, 0, none⟩) (hX.block q (cell_lt hq) hqf)).trans hq))
  have HP := Lib.hid (fun X f' (hX : Step f f' W X) i (hi : i < n) => (show ∃ b, pb = some ⟨b, 0, none⟩ ∧ X.cell? ⟨b, i, none⟩ = some (.int .i64 0) from by
    obtain ⟨b, h1, h2, h3⟩ := hp i hi
    exact ⟨b, h1, (World.cell?_of_block (a := ⟨b, i, none⟩) (hX.block b (cell_lt h2) h3)).trans h2⟩))
  have HF := Lib.hid hF
  have HLa := Lib.hid (show ∀ a, la = some a → a.block < W.heap.size from by obtain ⟨_, _, _, _, _, _, _, h5⟩ := h; exact fun a ha => (h5 a ha).1)
  have hn1 : (n : Int) ≤ 1000 := by omega
  clear h hF hq hqf hp
  go_enter Try.func7, Try.ntmps7
  go_wp2_with fail
  go_loopw [7, 14] (fun v s wr => ∃ k : Nat, s = .int .i64 (k : Int) ∧ k ≤ n ∧ Hid (RunI B p r la c L S f W k v wr)) (fun _ s _ => n - (intOf s).toNat)
  case atStart => exact ⟨0, rfl, Nat.zero_le _, HI⟩
  case round =>
    clear HI
    obtain ⟨k, rfl, hkn, HI⟩ := hrel
    have hk0 : (0 : Int) ≤ (k : Int) := by omega
    obtain ⟨f1, hs, hpl, hlot, hown⟩ := HI.out
    by_cases hlt : k < n
    · have hk1 : (k : Int) < (n : Int) := by omega
      obtain ⟨b, rfl, hb⟩ := HP.out _ _ hs k hlt
      have hqc := HQ.out _ _ hs
      obtain ⟨ga, gc, rfl⟩ := hlot.form
      have HS1 := Lib.hid hs
      have HPl := Lib.hid hpl
      have HLt := Lib.hid hlot
      have HOw := Lib.hid hown
      clear hs hpl hlot hown HI
      cases hst : stepP L (stP L S k) with
      | none =>
        have HN := Lib.hid (next_none HPl.out (HF.out.st k) hst)
        have HE := Lib.hid (fun X f2 (s2 : Step f1 f2 wr X) hp => run_skip (B := B) (p := p) (r := r) (la := la) (c := c) HS1.out HLt.out HOw.out s2 hp hst)
        clear hst
        go_wp2_with fail
        refine HN.out.mono ?_
        rintro en w2 ⟨f2, rfl, h2, s2⟩
        have HR := Lib.hid (HE.out _ _ (s2.trans (Step.of_below (below_alloc w2 zeroO))) (h2.below (below_alloc w2 zeroO)))
        clear h2 s2
        go_wp2_with fail
        go_roundw
        case rel => exact ⟨k + 1, by go_num, by omega, HR⟩
        case measure => simp [intOf]; omega
      | some s =>
        have HN := Lib.hid (next_some HPl.out (HF.out.st k) hst)
        have HK := Lib.hid (fun X f2 (s2 : Step f1 f2 wr X) => run_keep HS1.out HLt.out HOw.out s2)
        have HE := Lib.hid (fun w2 f2 g cap w4 (s2 : Step f1 f2 wr w2) hp (hL : Lot w4 44 9 (.slice (some ⟨g, 0, none⟩) ((toP L S k).length + 1) cap) ((toP L S k).length + 1) _) hg hat => run_more (B := B) (p := p) (r := r) (la := la) (c := c) HLa.out HS1.out HLt.out HOw.out s2 hp hst hL hg hat)
        go_wp2_with fail
        refine HN.out.mono ?_
        rintro en w2 ⟨f2, rfl, h2, s2⟩
        have H2 := Lib.hid h2
        have S2 := Lib.hid s2
        have hN2 := World.alloc_heap_new w2 (stepO s)
        obtain ⟨⟨m0, m1, m2, m3, m4, m5, m6, m7, m8⟩, z0, z1, z2, z3, z4, z5, z6, z7, z8⟩ := nine_at hN2
        clear h2 s2 hN2
        have hsm := setCell_same m0
        obtain ⟨i0, gi, gz0, gz1, gz2⟩ := info_parts info_step
        have hL2 := (HK.out _ _ (S2.out.trans (Step.of_below ((below_alloc w2 (stepO s)).trans ((below_alloc _ (stepO s)).mono (by simp)))))).2.1
        have hE1 : (toP L S k).length + 1 ≤ maxLen := by have := toP_len L S k; simp only [maxLen]; omega
        have hE2 : ((toP L S k).length + 1) * 88 ≤ 140737488355328 := by have := toP_len L S k; omega
        go_wp2_with (at_builtin; refine wpList_append_lot _ rfl _ _ 32 rfl 44 i0 _ 9 88 Try.underlying32 gi gz0 gz1 gz2 rfl (.slice ga (toP L S k).length gc) (toP L S k).length _ rfl hL2 ⟨w2.heap.size + 1, 0, none⟩ 1 1 [.int .i64 0, .int .i64 s.act.kind, .int .u64 (s.act.block : Int), .int .i64 s.act.cell, .int .u64 s.act.old, .int .u64 s.act.new, .string s.act.text, .int .u64 s.w, .string s.t] rfl rfl (step_news2 w2 s) (step_one s) (by omega) hE1 hE2 _ rfl ?_; intro g4 cap4 w4 hL4 hg4 hat4; have HR := Lib.hid (HE.out w2 f2 g4 cap4 w4 S2.out H2.out hL4 hg4 hat4); clear hL4 hg4 hat4)
        go_roundw
        case rel => exact ⟨k + 1, by go_num, by omega, HR⟩
        case measure => simp [intOf]; omega
    · obtain rfl : n = k := by omega
      clear hs hpl hlot hown
      go_wp2_with fail
      go_ret
      exact ⟨_, rfl, HI.out⟩

end Go.Proofs.Ytpbkfmdbpihhpaa
