/-
  The walk through HeapLives.
-/
import Derived.Test.YteggbkhlmehpmaaHlivest
import Derived.Deep.DeepCutAuto
namespace Go.Proofs.Yteggbkhlmehpmaa
open Go Go.RowKit
attribute [local go_sem ↓] Go.wp_at_zero Go.wp_at_succ

theorem calls_flip {P : Program} {f : FuncId} {args : Array Value} {X : World} {v : Ending} (h : Calls P f args X fun e W' => e = v ∧ X = W') : Calls P f args X fun e W' => e = v ∧ W' = X :=
  h.mono fun _ _ h => ⟨h.1, h.2.symm⟩
/-- An operation that only looks is taken first; where it puts what it sees is told. -/
theorem wpAny_look {P : Program} {ops : Array Oper} {Q : Exit → Act → World → Prop} {md : Region.Mode} {i : Nat} {oi : Oper} {v : Value} {fuel : Nat} {listed : Array Bool} {a : Act} {w : World} (d : Nat) (hi : ops[i]? = some oi)
    (hs : Region.noSelect ops = true) (hf : Region.free md ops listed i = true) (hr : (Region.ready md ops listed).contains i = true)
    (hQ : ∀ c a w v, Q (.panic c) (Act.put a oi.dst v) w → Q (.panic c) a w) (hd : oi.dst = some d) (hy : Yields P ops oi v a)
    (h : wpAny P md ops Q fuel (listed.setIfInBounds i true) { a with tmps := a.tmps.setIfInBounds d v } w) : wpAny P md ops Q (fuel + 1) listed a w := by
  refine wpAny_take hi hs hf hr (fun c a w => hQ c a w v) hy ?_
  rw [hd]
  exact h

/-- A region that draws its order, from where all that is left only looks (or calls what leaves memory as it lies): the order of the text serves. -/
theorem wpAny_lex_from {P : Program} {ops : Array Oper} {Q : Exit → Act → World → Prop} {md : Region.Mode} {a : Act} {w : World} {listed : Array Bool} {fuel : Nat} (k : Nat) (l : List Oper) (hl : ops.toList.drop k = l) (hf : l.length = fuel)
    (hs : Region.noSelect ops = true) (hB : Region.lexFrom md ops fuel k listed = true)
    (h : wpQuiet P ops (fun w' => ∃ n, w' = w.drewN n) (fun a' => ∀ w', (∃ n, w' = w.drewN n) → Q .normal a' w') l a) : wpAny P md ops Q fuel listed a w := by
  subst hf
  refine wpAny_of_quiet (C := fun w' => ∃ n, w' = w.drewN n) (Q := fun a' => ∀ w', (∃ n, w' = w.drewN n) → Q .normal a' w') (fun _ w' hw' h => h w' hw') _ _ _ _ ⟨0, rfl⟩ ?_
  refine wpAnyQ_lex hs l k listed a (fun j => ?_) hB h
  subst hl
  rw [List.getElem?_drop, Array.getElem?_toList]

set_option maxRecDepth 100000 in
set_option maxHeartbeats 20000000 in
theorem lives_walk (pa : Option Addr) (n c : Nat) (L : List OpD) (W : World)
    (hs : So W pa L) (hl : L.length = n) (hn : n ≤ maxLen) (hO : ∀ o ∈ L, o.fits) :
    Calls Try.prog 3 #[.slice pa n c] W (Says true W) := by
  have HF1 := Lib.hid (few_any pa n c 120 L W hs hl hn (by omega))
  have HS := Lib.hid (fun X (hX : Below W.heap.size W X) => hs.grow hX)
  have HL := Lib.hid hl
  have HO := Lib.hid hO
  obtain ⟨r1, hr1⟩ : ∃ r, fewD L 120 = r := ⟨_, rfl⟩
  rw [hr1] at HF1
  have HR1 := Lib.hid hr1
  clear hs hl hn hO hr1
  cases r1 with
  | false => as_aux_lemma =>
    go_enter Try.func3, Try.ntmps3
    go_wp2_with fail
    refine HF1.out.mono ?_
    rintro en w1 ⟨rfl, rfl⟩
    go_wp2_with fail
    refine (awake_any _).mono ?_
    rintro en w1 ⟨rfl, hb⟩
    have HB := Lib.hid hb
    clear hb
    go_wp2_with fail
    go_ret
    exact Says.mk rfl HB.out
  | true =>
    have hn60 : n ≤ 120 := by have := (fewD_texts HR1.out (by omega)).1; rw [HL.out] at this; exact this
    have hn61 : (n : Int) ≤ 120 := by omega
    go_enter Try.func3, Try.ntmps3
    go_wp2_with fail
    refine HF1.out.mono ?_
    rintro en w1 ⟨rfl, rfl⟩
    go_wp2_with fail
    refine (new_any _).mono ?_
    rintro en w1 ⟨p, f1, rfl, h1, hb1⟩
    have HI := Lib.hid (four_start h1 hb1 _ _ _ rfl rfl rfl)
    clear h1 hb1 HF1
    go_wp2_with fail
    rw [show w1.heap.size + 2 = w1.heap.size + 1 + 1 from rfl] at HI
    generalize (((w1.alloc (.cells #[.map none, .int .u64 0, .bool false, .int .i64 0] 30)).alloc (.cells #[.slice none 0 0, .bool false, .int .i64 0] 34)).alloc (.cells #[.slice none 0 0, .bool false, .int .i64 0] 34)) = w0 at HI ⊢
    generalize w1.heap.size + 1 + 1 = py at HI ⊢
    generalize w1.heap.size + 1 = px at HI ⊢
    generalize w1.heap.size = pu at HI ⊢
    go_loopw [7] (fun i wr => ∃ k : Nat, i = .int .i64 k ∧ k ≤ n ∧ Hid (Four W.heap.size W p px pu py (runD emptyD L k) (runD emptyD L k) (runD emptyD L k) (runD emptyD L k) wr)) (fun i _ => n - (intOf i).toNat)
    case atStart => exact ⟨0, rfl, Nat.zero_le _, HI⟩
    case round => as_aux_lemma =>
      clear HI
      obtain ⟨k, rfl, hkn, HI⟩ := hrel
      have hk0 : (0 : Int) ≤ (k : Int) := by omega
      by_cases hlt : k < n
      · have hk1 : (k : Int) < (n : Int) := by omega
        have B0 := Lib.hid (HI.out.low.trans ((below_drew wr).mono HI.out.size))
        have H0 := Lib.hid (HI.out.below (below_drew wr))
        obtain ⟨b, oo, o, hLk, hmem, rfl, d0, d1, d2, d3, d4, d5⟩ := (HS.out _ B0.out).get (k := k) (by rw [HL.out]; exact hlt)
        have HQ := Lib.hid (fun X (hX : Below W.heap.size W X) => (show X.cell? ⟨b, oo + k * 6, none⟩ = some (.int .i64 o.kind) ∧ X.cell? ⟨b, oo + k * 6 + 1, none⟩ = some (.int .u64 (o.block : Int)) ∧ X.cell? ⟨b, oo + k * 6 + 2, none⟩ = some (.int .i64 o.cell) ∧ X.cell? ⟨b, oo + k * 6 + 3, none⟩ = some (.int .u64 o.a) ∧ X.cell? ⟨b, oo + k * 6 + 4, none⟩ = some (.int .u64 o.b) ∧ X.cell? ⟨b, oo + k * 6 + 5, none⟩ = some (.string o.text) from by
          obtain ⟨b', oo', o', hL', _, e, c⟩ := (HS.out X hX).get (k := k) (by rw [HL.out]; exact hlt)
          rw [hLk] at hL'
          cases hL'
          simp only [Option.some.injEq, Addr.mk.injEq] at e
          obtain ⟨rfl, rfl, _⟩ := e
          exact c))
        have hsm := run_small L k
        have hfit := HO.out o hmem
        have HC1 := Lib.hid (fun X (hX : Four W.heap.size W p px pu py (runD emptyD L k) (runD emptyD L k) (runD emptyD L k) (runD emptyD L k) X) => four_same hX o hfit (by omega) (by omega) (by omega) (by omega))
        have HC2 := Lib.hid (fun X (hX : Four W.heap.size W pu py p px (runD emptyD L k) (runD emptyD L k) (nextD (runD emptyD L k) o) (nextD (runD emptyD L k) o) X) => four_same hX o hfit (by omega) (by omega) (by omega) (by omega))
        rw [← runD_succ emptyD hLk] at HC1 HC2
        obtain ⟨D, hD⟩ : ∃ D, runD emptyD L k = D := ⟨_, rfl⟩
        obtain ⟨D1, hD1⟩ : ∃ D1, runD emptyD L (k + 1) = D1 := ⟨_, rfl⟩
        rw [hD] at HC1 HC2 HI H0
        rw [hD1] at HC1 HC2
        have HD1 := Lib.hid hD1
        obtain ⟨fl, hfl⟩ : ∃ fl, D1.faults = fl := ⟨_, rfl⟩
        obtain ⟨lk, hlk⟩ : ∃ lk, D1.locked = lk := ⟨_, rfl⟩
        obtain ⟨sz, hsz⟩ : ∃ sz, sizeAt D1.L o.block = sz := ⟨_, rfl⟩
        have HCell := Lib.hid (fun X (hX : Four W.heap.size W p px pu py D1 D1 D1 D1 X) => (show X.cell? ⟨px, 1, none⟩ = some (.bool lk) ∧ X.cell? ⟨px, 2, none⟩ = some (.int .i64 (fl : Int)) from by
          have h := hX.cells
          rw [hfl, hlk] at h
          exact h))
        have HFa := Lib.hid (fun X (hX : Four W.heap.size W p px pu py D1 D1 D1 D1 X) => faults_four hX hfl)
        have HLk := Lib.hid (fun X (hX : Four W.heap.size W p px pu py D1 D1 D1 D1 X) => locked_told hX hlk)
        have HSz := Lib.hid (fun X (hX : Four W.heap.size W p px pu py D1 D1 D1 D1 X) => size_four hX hfit.2.1 hsz)
        have HRz := Lib.hid (fun X (hX : Four W.heap.size W p px pu py D1 D1 D1 D1 X) => rsize_four hX hfit.2.1 hsz)
        obtain ⟨ok, obk, oc, oa, ob, ot⟩ := o
        simp only at d0 d1 d2 d3 d4 d5 HC1 HC2 HQ HSz HRz
        clear hLk hmem hsm hfit hD hD1 hfl hlk hsz HI d0 d1 d2 d3 d4 d5
        go_upto_region 8 with fail
        go_cut [77] (fun s77 wx => s77 = .bool false ∧ Hid (Four W.heap.size W p px pu py D1 D1 D1 D1 wx))
        case first => as_aux_lemma =>
          obtain ⟨d0, d1, d2, d3, d4, d5⟩ := HQ.out _ B0.out
          refine wp_region_any (by kernel_rfl) ?_
          change wpAny _ _ _ _ _ _ _ (World.drew _)
          refine wpAny_look (i := 0) (v := ?v0) 25 rfl (by kernel_rfl) (by kernel_rfl) (by kernel_rfl) (fun _ _ _ _ h => h) (by rfl) (Or.inl ⟨by rfl, ?y0⟩) ?r0
          case y0 => intro w; go_simp; (try with_reducible rfl)
          simp only [List.setIfInBounds_toArray, List.set_cons_zero, List.set_cons_succ]
          refine wpAny_look (i := 1) (v := ?v1) 26 rfl (by kernel_rfl) (by kernel_rfl) (by kernel_rfl) (fun _ _ _ _ h => h) (by rfl) (Or.inl ⟨by rfl, ?y1⟩) ?r1
          case y1 => intro w; go_simp; (try with_reducible rfl)
          simp only [List.setIfInBounds_toArray, List.set_cons_zero, List.set_cons_succ]
          refine wpAny_look (i := 2) (v := ?v2) 27 rfl (by kernel_rfl) (by kernel_rfl) (by kernel_rfl) (fun _ _ _ _ h => h) (by rfl) (Or.inl ⟨by rfl, ?y2⟩) ?r2
          case y2 => intro w; go_simp; (try with_reducible rfl)
          simp only [List.setIfInBounds_toArray, List.set_cons_zero, List.set_cons_succ]
          refine wpAny_look (i := 3) (v := ?v3) 28 rfl (by kernel_rfl) (by kernel_rfl) (by kernel_rfl) (fun _ _ _ _ h => h) (by rfl) (Or.inl ⟨by rfl, ?y3⟩) ?r3
          case y3 => intro w; go_simp; (try with_reducible rfl)
          simp only [List.setIfInBounds_toArray, List.set_cons_zero, List.set_cons_succ]
          refine wpAny_look (i := 4) (v := ?v4) 29 rfl (by kernel_rfl) (by kernel_rfl) (by kernel_rfl) (fun _ _ _ _ h => h) (by rfl) (Or.inl ⟨by rfl, ?y4⟩) ?r4
          case y4 => intro w; go_simp; (try with_reducible rfl)
          simp only [List.setIfInBounds_toArray, List.set_cons_zero, List.set_cons_succ]
          refine wpAny_ready (rs := [5]) (by kernel_rfl) (by simp) ?_
          refine AllReady.cons rfl (fun K hK => ?_) AllReady.nil
          go_simp
          refine hK _ _ ?_
          clear hK K
          refine wpAny_ready (rs := [6]) (by kernel_rfl) (by simp) ?_
          refine AllReady.cons rfl (fun K hK => ?_) AllReady.nil
          go_simp
          go_at_call 10
          refine (HC1.out _ H0.out).mono ?_
          rintro en w4 ⟨bb, rfl, hbb, h1⟩
          obtain rfl := hbb trivial
          have H1 := Lib.hid h1.swap
          have B1 := Lib.hid h1.low
          clear d0 d1 d2 d3 d4 d5 h1 hbb
          obtain ⟨d0, d1, d2, d3, d4, d5⟩ := HQ.out _ B1.out
          go_simp
          refine hK _ _ ?_
          clear hK K
          refine wpAny_look (i := 7) (v := ?v7) 32 rfl (by kernel_rfl) (by kernel_rfl) (by kernel_rfl) (fun _ _ _ _ h => h) (by rfl) (Or.inl ⟨by rfl, ?y7⟩) ?r7
          case y7 => intro w; go_simp; (try with_reducible rfl)
          simp only [List.setIfInBounds_toArray, List.set_cons_zero, List.set_cons_succ]
          refine wpAny_look (i := 8) (v := ?v8) 33 rfl (by kernel_rfl) (by kernel_rfl) (by kernel_rfl) (fun _ _ _ _ h => h) (by rfl) (Or.inl ⟨by rfl, ?y8⟩) ?r8
          case y8 => intro w; go_simp; (try with_reducible rfl)
          simp only [List.setIfInBounds_toArray, List.set_cons_zero, List.set_cons_succ]
          refine wpAny_look (i := 9) (v := ?v9) 34 rfl (by kernel_rfl) (by kernel_rfl) (by kernel_rfl) (fun _ _ _ _ h => h) (by rfl) (Or.inl ⟨by rfl, ?y9⟩) ?r9
          case y9 => intro w; go_simp; (try with_reducible rfl)
          simp only [List.setIfInBounds_toArray, List.set_cons_zero, List.set_cons_succ]
          refine wpAny_look (i := 10) (v := ?v10) 35 rfl (by kernel_rfl) (by kernel_rfl) (by kernel_rfl) (fun _ _ _ _ h => h) (by rfl) (Or.inl ⟨by rfl, ?y10⟩) ?r10
          case y10 => intro w; go_simp; (try with_reducible rfl)
          simp only [List.setIfInBounds_toArray, List.set_cons_zero, List.set_cons_succ]
          refine wpAny_look (i := 11) (v := ?v11) 36 rfl (by kernel_rfl) (by kernel_rfl) (by kernel_rfl) (fun _ _ _ _ h => h) (by rfl) (Or.inl ⟨by rfl, ?y11⟩) ?r11
          case y11 => intro w; go_simp; (try with_reducible rfl)
          simp only [List.setIfInBounds_toArray, List.set_cons_zero, List.set_cons_succ]
          refine wpAny_look (i := 12) (v := ?v12) 37 rfl (by kernel_rfl) (by kernel_rfl) (by kernel_rfl) (fun _ _ _ _ h => h) (by rfl) (Or.inl ⟨by rfl, ?y12⟩) ?r12
          case y12 => intro w; go_simp; (try with_reducible rfl)
          simp only [List.setIfInBounds_toArray, List.set_cons_zero, List.set_cons_succ]
          refine wpAny_look (i := 13) (v := ?v13) 38 rfl (by kernel_rfl) (by kernel_rfl) (by kernel_rfl) (fun _ _ _ _ h => h) (by rfl) (Or.inl ⟨by rfl, ?y13⟩) ?r13
          case y13 => intro w; go_simp; (try with_reducible rfl)
          simp only [List.setIfInBounds_toArray, List.set_cons_zero, List.set_cons_succ]
          refine wpAny_ready (rs := [14]) (by kernel_rfl) (by simp) ?_
          refine AllReady.cons rfl (fun K hK => ?_) AllReady.nil
          go_simp
          refine hK _ _ ?_
          clear hK K
          refine wpAny_ready (rs := [15]) (by kernel_rfl) (by simp) ?_
          refine AllReady.cons rfl (fun K hK => ?_) AllReady.nil
          go_simp
          go_at_call 10
          refine (HC2.out _ H1.out).mono ?_
          rintro en w5 ⟨bb, rfl, hbb, h2⟩
          obtain rfl := hbb trivial
          have H2 := Lib.hid h2.swap
          have B2 := Lib.hid h2.low
          clear d0 d1 d2 d3 d4 d5 h2 hbb
          go_simp
          refine hK _ _ ?_
          clear hK K
          refine wpAny_look (i := 16) (v := ?v16) 41 rfl (by kernel_rfl) (by kernel_rfl) (by kernel_rfl) (fun _ _ _ _ h => h) (by rfl) (Or.inl ⟨by rfl, ?y16⟩) ?r16
          case y16 => intro w; go_simp; (try with_reducible rfl)
          simp only [List.setIfInBounds_toArray, List.set_cons_zero, List.set_cons_succ]
          refine wpAny_look (i := 17) (v := ?v17) 42 rfl (by kernel_rfl) (by kernel_rfl) (by kernel_rfl) (fun _ _ _ _ h => h) (by rfl) (Or.inl ⟨by rfl, ?y17⟩) ?r17
          case y17 => intro w; go_simp; (try with_reducible rfl)
          simp only [List.setIfInBounds_toArray, List.set_cons_zero, List.set_cons_succ]
          refine wpAny_look (i := 18) (v := ?v18) 43 rfl (by kernel_rfl) (by kernel_rfl) (by kernel_rfl) (fun _ _ _ _ h => h) (by rfl) (Or.inl ⟨by rfl, ?y18⟩) ?r18
          case y18 => intro w; go_simp; (try with_reducible rfl)
          simp only [List.setIfInBounds_toArray, List.set_cons_zero, List.set_cons_succ]
          obtain ⟨e0, e1, e2, e3, e4, e5⟩ := HQ.out _ B2.out
          obtain ⟨x1, x2⟩ := HCell.out _ H2.out
          have HFa2 := Lib.hid (fun m => calls_flip (HFa.out _ (H2.out.below (below_draws w5 m))))
          have HLk2 := Lib.hid (fun m => calls_flip (HLk.out _ (H2.out.below (below_draws w5 m))))
          have HSz2 := Lib.hid (fun m => calls_flip (HSz.out _ (H2.out.below (below_draws w5 m))))
          have HRz2 := Lib.hid (fun m => calls_flip (HRz.out _ (H2.out.below (below_draws w5 m))))
          refine wpAny_lex_from 19 ?lx ?hlx ?hfx (by kernel_rfl) (by kernel_rfl) ?tailx
          case hlx => simp only [List.drop_succ_cons, List.drop_zero]; exact rfl
          case hfx => rfl
          repeat (go_big_quiet_step (first
            | (go_at_call 14; refine Calls.quiet_of_same (HRz2.out _))
            | (go_at_call 13; refine Calls.quiet_of_same (HSz2.out _))
            | (go_at_call 12; refine Calls.quiet_of_same (HLk2.out _))
            | (go_at_call 11; refine Calls.quiet_of_same (HFa2.out _))))
          refine wpQuiet_nil ?_
          rintro w6 ⟨nq, rfl⟩
          have H3 := Lib.hid (H2.out.below (below_draws w5 nq))
          clear HQ HCell HFa HLk HSz HRz HFa2 HLk2 HSz2 HRz2 HC1 HC2
          go_wp2_with fail
          go_meet
          case rel => exact ⟨by first | rfl | simp, H3⟩
        case rest => as_aux_lemma =>
          obtain ⟨rfl, H3⟩ := hcut
          rw [← HD1.out] at H3
          clear HQ HCell HFa HLk HSz HRz HC1 HC2 H0 B0
          go_wp2_with fail
          go_roundw
          case rel => exact ⟨k + 1, by go_num, by omega, H3⟩
          case measure => simp [intOf]; omega
      · obtain rfl : n = k := by omega
        clear hlt hkn
        obtain ⟨D, hD⟩ : ∃ D, runD emptyD L n = D := ⟨_, rfl⟩
        have hDs := run_small L n
        rw [hD] at hDs HI
        have hfew : D.L.length ≤ 200 := by omega
        have hsmall : (rowN 0 D.L).length ≤ 1000000 := by have := rowN_few 0 D.L; omega
        obtain ⟨nl, hnl⟩ : ∃ nl, (rowN 0 D.L).length = nl := ⟨_, rfl⟩
        rw [hnl] at hsmall
        have HK := Lib.hid hfew
        have HNl := Lib.hid hnl
        have HNs := Lib.hid hsmall
        clear hfew hsmall hnl hD hDs
        go_wp2_with fail
        refine (blocks_four HI.out HK.out HNl.out).mono ?_
        rintro en w2 ⟨a1, c1, rfl, l1, b1⟩
        have L1 := Lib.hid l1
        have F1 := Lib.hid (HI.out.below b1)
        clear l1 b1 HI
        go_wp2_with fail
        refine (rblocks_four F1.out HNl.out).mono ?_
        rintro en w3 ⟨q2, c2, rfl, l2, b2⟩
        have L2 := Lib.hid l2
        have L1 := Lib.hid (L1.out.below b2)
        have F2 := Lib.hid (F1.out.below b2)
        clear l2 b2 F1
        go_wp2_with fail
        refine (rsame_yes _ _ _ _ _ _ _ L1.out L2.out HNs.out).mono ?_
        rintro en w4 ⟨rfl, b3⟩
        have F3 := Lib.hid (F2.out.below b3).swap
        clear b3 F2 L1 L2
        go_wp2_with fail
        refine (blocks_four F3.out HK.out HNl.out).mono ?_
        rintro en w5 ⟨a3, c3, rfl, l3, b4⟩
        have L3 := Lib.hid l3
        have F4 := Lib.hid (F3.out.below b4).swap
        clear l3 b4 F3
        go_wp2_with fail
        refine (rblocks_four F4.out HNl.out).mono ?_
        rintro en w6 ⟨q4, c4, rfl, l4, b5⟩
        have L4 := Lib.hid l4
        have L3 := Lib.hid (L3.out.below b5)
        have F5 := Lib.hid (F4.out.below b5)
        clear l4 b5 F4
        go_wp2_with fail
        refine (rsame_yes _ _ _ _ _ _ _ L3.out L4.out HNs.out).mono ?_
        rintro en w7 ⟨rfl, b6⟩
        have F6 := Lib.hid (F5.out.below b6)
        clear b6 F5 L3 L4
        go_wp2_with fail
        refine (awake_any _).mono ?_
        rintro en w8 ⟨rfl, b7⟩
        have F7 := Lib.hid (F6.out.below b7)
        clear b7 F6
        go_wp2_with fail
        go_ret
        exact Says.mk rfl F7.out.low
end Go.Proofs.Yteggbkhlmehpmaa
