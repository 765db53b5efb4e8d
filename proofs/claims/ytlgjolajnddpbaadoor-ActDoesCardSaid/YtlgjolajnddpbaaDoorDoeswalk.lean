/-
  The walk through ActDoes. (Written by doeswalk.gen.py.)
-/
import Derived.Test.YtlgjolajnddpbaaDoorActtwos
import Derived.Test.YtlgjolajnddpbaaDoorActfew
import Derived.Test.YtlgjolajnddpbaaDoorActaw
import Derived.Deep.CutBlock
import Derived.Deep.RegionHeld3
namespace Go.Proofs.YtlgjolajnddpbaaDoor
open Go Go.RowKit
attribute [local go_sem ↓] Go.wp_at_zero Go.wp_at_succ

/-- An act of a row, read in any later memory. -/
theorem Sa.get {W : World} {pa : Option Addr} {L : List ActD} (h : Sa W pa L) {k : Nat} (hk : k < L.length) :
    ∃ (b oo : Nat) (o : ActD), L[k]? = some o ∧ o ∈ L ∧ pa = some ⟨b, oo, none⟩ ∧ W.cell? ⟨b, oo + k * 6, none⟩ = some (.int .i64 o.kind) ∧ W.cell? ⟨b, oo + k * 6 + 1, none⟩ = some (.int .u64 (o.block : Int)) ∧ W.cell? ⟨b, oo + k * 6 + 2, none⟩ = some (.int .i64 o.cell) ∧ W.cell? ⟨b, oo + k * 6 + 3, none⟩ = some (.int .u64 o.old) ∧ W.cell? ⟨b, oo + k * 6 + 4, none⟩ = some (.int .u64 o.new) ∧ W.cell? ⟨b, oo + k * 6 + 5, none⟩ = some (.string o.text) := by
  obtain ⟨b, o, e, c⟩ := h k hk
  exact ⟨b, o, L[k], List.getElem?_eq_getElem hk, List.getElem_mem hk, e, c⟩

theorem neqB_same (b : Bool) (w : World) : (binOp .neq 4 (.bool b) (.bool b)).run Tryd.prog w = .ok (.bool false) w := by
  cases b <;> go_simp <;> rfl
attribute [local go_sem ↓] neqG_same neqB_same

set_option maxRecDepth 100000 in
set_option maxHeartbeats 20000000 in
theorem does_walk (pa : Option Addr) (n c : Nat) (L : List ActD) (W : World) (hT : Tabs W)
    (hs : Sa W pa L) (hl : L.length = n) (hn : n ≤ maxLen) (hO : ∀ o ∈ L, o.fits) :
    Calls Tryd.prog 3 #[.slice pa n c] W (Says true W) := by
  have HF1 := Lib.hid (few_any pa n c 100 L W hs hl hn (by omega))
  have HSl := Lib.hid (fun X (hX : Below W.heap.size W X) => hs.grow hX)
  have HT := Lib.hid hT
  have HL := Lib.hid hl
  have HO := Lib.hid hO
  obtain ⟨r1, hr1⟩ : ∃ r, fewA L 100 = r := ⟨_, rfl⟩
  rw [hr1] at HF1
  have HR1 := Lib.hid hr1
  clear hs hl hn hO hr1 hT
  cases r1 with
  | false => as_aux_lemma =>
    go_enter Tryd.func3, Tryd.ntmps3
    go_wp2_with fail
    refine HF1.out.mono ?_
    rintro en w1 ⟨rfl, rfl⟩
    go_wp2_with fail
    refine (awake_any _ HT.out).mono ?_
    rintro en w1 ⟨rfl, hb⟩
    have HB := Lib.hid hb
    clear hb
    go_wp2_with fail
    go_ret
    exact Says.mk rfl HB.out
  | true =>
    have hn60 : n ≤ 100 := by have := fewA_len HR1.out; rw [HL.out] at this; exact this
    have hn61 : (n : Int) ≤ 100 := by omega
    go_enter Tryd.func3, Tryd.ntmps3
    go_wp2_with fail
    refine HF1.out.mono ?_
    rintro en w1 ⟨rfl, rfl⟩
    go_wp2_with fail
    refine (new_any _).mono ?_
    rintro en w1 ⟨p, f1, rfl, h1, hb1⟩
    have HI := Lib.hid (two_start h1 hb1)
    clear h1 hb1 HF1
    go_wp2_with fail
    go_loopw [5] (fun i wr => ∃ k : Nat, i = .int .i64 k ∧ k ≤ n ∧ Hid (Two W.heap.size W p w1.heap.size (runA emptyD L k) (runA emptyD L k) wr)) (fun i _ => n - (intOf i).toNat)
    case atStart => exact ⟨0, rfl, Nat.zero_le _, HI⟩
    case round => as_aux_lemma =>
      clear HI
      obtain ⟨k, rfl, hkn, HI⟩ := hrel
      obtain ⟨q, hq⟩ : ∃ q, w1.heap.size = q := ⟨_, rfl⟩
      rw [hq] at HI ⊢
      clear hq
      have hk0 : (0 : Int) ≤ (k : Int) := by omega
      by_cases hlt : k < n
      · have hk1 : (k : Int) < (n : Int) := by omega
        obtain ⟨b, oo, o, hLk, hmem, rfl, d0, d1, d2, d3, d4, d5⟩ := (HSl.out _ HI.out.low).get (k := k) (by rw [HL.out]; exact hlt)
        have hfit := HO.out o hmem
        have hsm := runA_small L k
        have hs2 := runA_succ emptyD hLk
        obtain ⟨D, hD⟩ : ∃ D, runA emptyD L k = D := ⟨_, rfl⟩
        obtain ⟨D1, hD1⟩ : ∃ D1, runA emptyD L (k + 1) = D1 := ⟨_, rfl⟩
        rw [hD] at hsm HI
        rw [hD, hD1] at hs2
        have hD1' := Lib.hid hD1
        have HSa := Lib.hid (fun X (hX : Below W.heap.size W X) => (HSl.out X hX))
        have HQ := Lib.hid (fun X (hX : Below W.heap.size W X) => (show X.cell? ⟨b, oo + k * 6, none⟩ = some (.int .i64 o.kind) ∧ X.cell? ⟨b, oo + k * 6 + 1, none⟩ = some (.int .u64 (o.block : Int)) ∧ X.cell? ⟨b, oo + k * 6 + 2, none⟩ = some (.int .i64 o.cell) ∧ X.cell? ⟨b, oo + k * 6 + 3, none⟩ = some (.int .u64 o.old) ∧ X.cell? ⟨b, oo + k * 6 + 4, none⟩ = some (.int .u64 o.new) ∧ X.cell? ⟨b, oo + k * 6 + 5, none⟩ = some (.string o.text) from by
          obtain ⟨b', oo', o', hL', _, e, h⟩ := (HSa.out _ hX).get (k := k) (by rw [HL.out]; exact hlt)
          obtain rfl : o = o' := Option.some.inj (hLk.symm.trans hL')
          simp only [Option.some.injEq, Addr.mk.injEq, and_true] at e
          obtain ⟨rfl, rfl⟩ := e
          exact h))
        have HR1 := Lib.hid (fun X => right_any o.kind o.block o.cell o.old o.new o.text X)
        have HR2 := Lib.hid (fun X => rright_any o.kind o.block o.cell o.old o.new o.text X)
        have HL1 := Lib.hid (fun X => looks_any o.kind o.block o.cell o.old o.new o.text X)
        have HL2 := Lib.hid (fun X => rlooks_any o.kind o.block o.cell o.old o.new o.text X)
        have HY1 := Lib.hid (fun X (hX : Two W.heap.size W p q D D X) => two_ready hX (by omega) o hfit)
        have HY2 := Lib.hid (fun X (hX : Two W.heap.size W p q D D X) => two_rready hX (by omega) o hfit)
        have HD1 := Lib.hid (fun X (hX : Two W.heap.size W p q D D X) => two_do hX (by omega) (by omega) o hfit)
        have HD2 := Lib.hid (fun X (hX : Two W.heap.size W p q (doN D o) D X) => two_rdo hX (by omega) (by omega) o hfit)
        rw [← hs2] at HD1 HD2
        obtain ⟨gw, hgw⟩ : ∃ gw, doW D o = gw := ⟨_, rfl⟩
        obtain ⟨gt, hgt⟩ : ∃ gt, doT D o = gt := ⟨_, rfl⟩
        obtain ⟨gr, hgr⟩ : ∃ gr, readyA D o = gr := ⟨_, rfl⟩
        obtain ⟨gl, hgl⟩ : ∃ gl, looksA ⟨o.kind, o.block, o.cell, o.old, o.new, o.text⟩ = gl := ⟨_, rfl⟩
        obtain ⟨gi, hgi⟩ : ∃ gi, rightA ⟨o.kind, o.block, o.cell, o.old, o.new, o.text⟩ = gi := ⟨_, rfl⟩
        rw [hgw, hgt] at HD1 HD2
        rw [hgr] at HY1 HY2
        rw [hgl] at HL1 HL2
        rw [hgi] at HR1 HR2
        obtain ⟨fl, hfl⟩ : ∃ fl, D1.faults = fl := ⟨_, rfl⟩
        obtain ⟨lk, hlk⟩ : ∃ lk, D1.locked = lk := ⟨_, rfl⟩
        have HFa := Lib.hid (fun X (hX : Two W.heap.size W p q D1 D1 X) => two_faults hX hfl)
        have HLk := Lib.hid (fun X (hX : Two W.heap.size W p q D1 D1 X) => two_locked hX hlk)
        have HCell := Lib.hid (fun X (hX : Two W.heap.size W p q D1 D1 X) => (show X.cell? ⟨q, 1, none⟩ = some (.bool lk) ∧ X.cell? ⟨q, 2, none⟩ = some (.int .i64 (fl : Int)) from by
          have h := hX.cells
          rw [hfl, hlk] at h
          exact h))
        obtain ⟨ok, obk, oc, oa, ob, ot⟩ := o
        simp only at d0 d1 d2 d3 d4 d5 HQ HR1 HR2 HL1 HL2 HY1 HY2 HD1 HD2
        clear hLk hmem hsm hfit hD hD1 hs2 hfl hlk hgw hgt hgr hgl hgi HSa d0 d1 d2 d3 d4 d5 HO HSl HL
        go_upto_region 7 with fail
        go_cut [90] (fun s90 wx => s90 = .bool false ∧ Hid (Two W.heap.size W p q D1 D1 wx))
        case first => as_aux_lemma =>
          have X0 := Lib.hid (HI.out.below (below_drew wr))
          have HS := Lib.hid (HQ.out _ X0.out.low)
          refine wp_region_held_drew (S := fun w' => w'.cell? ⟨b, oo + k * 6, none⟩ = some (.int .i64 ok) ∧ w'.cell? ⟨b, oo + k * 6 + 1, none⟩ = some (.int .u64 (obk : Int)) ∧ w'.cell? ⟨b, oo + k * 6 + 2, none⟩ = some (.int .i64 oc) ∧ w'.cell? ⟨b, oo + k * 6 + 3, none⟩ = some (.int .u64 oa) ∧ w'.cell? ⟨b, oo + k * 6 + 4, none⟩ = some (.int .u64 ob) ∧ w'.cell? ⟨b, oo + k * 6 + 5, none⟩ = some (.string ot)) (by kernel_rfl) HS.out (fun _ => ?_)
          refine (fun h => h) ?_
          all_goals
            refine wpAnyH_look (i := 0) (v := ?v0) 19 rfl (by kernel_rfl) (by kernel_rfl) (by kernel_rfl) (fun _ _ _ _ h => h) (by rfl) HS.out (Or.inl ⟨by rfl, ?y0⟩) ?r0
            case y0 => intro w hSw; (try dsimp only at hSw); go_simp; (try with_reducible rfl)
            simp only [List.setIfInBounds_toArray, List.set_cons_zero, List.set_cons_succ]
            refine wpAnyH_look (i := 1) (v := ?v1) 20 rfl (by kernel_rfl) (by kernel_rfl) (by kernel_rfl) (fun _ _ _ _ h => h) (by rfl) HS.out (Or.inl ⟨by rfl, ?y1⟩) ?r1
            case y1 => intro w hSw; (try dsimp only at hSw); go_simp; (try with_reducible rfl)
            simp only [List.setIfInBounds_toArray, List.set_cons_zero, List.set_cons_succ]
            refine wpAnyH_look (i := 2) (v := ?v2) 21 rfl (by kernel_rfl) (by kernel_rfl) (by kernel_rfl) (fun _ _ _ _ h => h) (by rfl) HS.out (Or.inl ⟨by rfl, ?y2⟩) ?r2
            case y2 => intro w hSw; (try dsimp only at hSw); go_simp; (try with_reducible rfl)
            simp only [List.setIfInBounds_toArray, List.set_cons_zero, List.set_cons_succ]
            refine wpAnyH_look (i := 5) (v := ?v5) 24 rfl (by kernel_rfl) (by kernel_rfl) (by kernel_rfl) (fun _ _ _ _ h => h) (by rfl) HS.out (Or.inl ⟨by rfl, ?y5⟩) ?r5
            case y5 => intro w hSw; (try dsimp only at hSw); go_simp; (try with_reducible rfl)
            simp only [List.setIfInBounds_toArray, List.set_cons_zero, List.set_cons_succ]
            refine wpAnyH_look (i := 6) (v := ?v6) 25 rfl (by kernel_rfl) (by kernel_rfl) (by kernel_rfl) (fun _ _ _ _ h => h) (by rfl) HS.out (Or.inl ⟨by rfl, ?y6⟩) ?r6
            case y6 => intro w hSw; (try dsimp only at hSw); go_simp; (try with_reducible rfl)
            simp only [List.setIfInBounds_toArray, List.set_cons_zero, List.set_cons_succ]
            refine wpAnyH_look (i := 7) (v := ?v7) 26 rfl (by kernel_rfl) (by kernel_rfl) (by kernel_rfl) (fun _ _ _ _ h => h) (by rfl) HS.out (Or.inl ⟨by rfl, ?y7⟩) ?r7
            case y7 => intro w hSw; (try dsimp only at hSw); go_simp; (try with_reducible rfl)
            simp only [List.setIfInBounds_toArray, List.set_cons_zero, List.set_cons_succ]
            refine wpAnyH_look (i := 3) (v := ?v3) 22 rfl (by kernel_rfl) (by kernel_rfl) (by kernel_rfl) (fun _ _ _ _ h => h) (by rfl) HS.out (Or.inl ⟨by rfl, ?y3⟩) ?r3
            case y3 => intro w hSw; (try dsimp only at hSw); go_simp; (try with_reducible rfl)
            simp only [List.setIfInBounds_toArray, List.set_cons_zero, List.set_cons_succ]
            refine wpAnyH_look (i := 8) (v := ?v8) 27 rfl (by kernel_rfl) (by kernel_rfl) (by kernel_rfl) (fun _ _ _ _ h => h) (by rfl) HS.out (Or.inl ⟨by rfl, ?y8⟩) ?r8
            case y8 => intro w hSw; (try dsimp only at hSw); go_simp; (try with_reducible rfl)
            simp only [List.setIfInBounds_toArray, List.set_cons_zero, List.set_cons_succ]
            refine wpAnyH_ready (rs := [4]) (by kernel_rfl) (by simp) ?_
            refine AllReadyH.cons rfl (fun K hK => ?_) AllReadyH.nil
            go_simp
            go_at_call 9
            refine (HR1.out _).mono ?_
            rintro en x1 ⟨rfl, hb⟩
            have X1 := Lib.hid (X0.out.below hb)
            have HS := Lib.hid (HQ.out _ X1.out.low)
            clear hb
            go_simp
            refine hK.out _ _ HS.out (fun _ => ?_)
            clear hK K
            refine wpAnyH_ready (rs := [9]) (by kernel_rfl) (by simp) ?_
            refine AllReadyH.cons rfl (fun K hK => ?_) AllReadyH.nil
            go_simp
            go_at_call 10
            refine (HR2.out _).mono ?_
            rintro en x2 ⟨rfl, hb⟩
            have X2 := Lib.hid (X1.out.below hb)
            have HS := Lib.hid (HQ.out _ X2.out.low)
            clear hb
            go_simp
            refine hK.out _ _ HS.out (fun _ => ?_)
            clear hK K
            refine wpAnyH_look (i := 10) (v := ?v10) 29 rfl (by kernel_rfl) (by kernel_rfl) (by kernel_rfl) (fun _ _ _ _ h => h) (by rfl) HS.out (Or.inl ⟨by rfl, ?y10⟩) ?r10
            case y10 => intro w hSw; (try dsimp only at hSw); go_simp; (try with_reducible rfl)
            simp only [List.setIfInBounds_toArray, List.set_cons_zero, List.set_cons_succ]
            refine wpAnyH_look (i := 11) (v := ?v11) 30 rfl (by kernel_rfl) (by kernel_rfl) (by kernel_rfl) (fun _ _ _ _ h => h) (by rfl) HS.out (Or.inl ⟨by rfl, ?y11⟩) ?r11
            case y11 => intro w hSw; (try dsimp only at hSw); go_simp; (try with_reducible rfl)
            simp only [List.setIfInBounds_toArray, List.set_cons_zero, List.set_cons_succ]
            refine wpAnyH_look (i := 12) (v := ?v12) 31 rfl (by kernel_rfl) (by kernel_rfl) (by kernel_rfl) (fun _ _ _ _ h => h) (by rfl) HS.out (Or.inl ⟨by rfl, ?y12⟩) ?r12
            case y12 => intro w hSw; (try dsimp only at hSw); go_simp; (try with_reducible rfl)
            simp only [List.setIfInBounds_toArray, List.set_cons_zero, List.set_cons_succ]
            refine wpAnyH_look (i := 13) (v := ?v13) 32 rfl (by kernel_rfl) (by kernel_rfl) (by kernel_rfl) (fun _ _ _ _ h => h) (by rfl) HS.out (Or.inl ⟨by rfl, ?y13⟩) ?r13
            case y13 => intro w hSw; (try dsimp only at hSw); go_simp; (try with_reducible rfl)
            simp only [List.setIfInBounds_toArray, List.set_cons_zero, List.set_cons_succ]
            refine wpAnyH_look (i := 17) (v := ?v17) 36 rfl (by kernel_rfl) (by kernel_rfl) (by kernel_rfl) (fun _ _ _ _ h => h) (by rfl) HS.out (Or.inl ⟨by rfl, ?y17⟩) ?r17
            case y17 => intro w hSw; (try dsimp only at hSw); go_simp; (try with_reducible rfl)
            simp only [List.setIfInBounds_toArray, List.set_cons_zero, List.set_cons_succ]
            refine wpAnyH_look (i := 18) (v := ?v18) 37 rfl (by kernel_rfl) (by kernel_rfl) (by kernel_rfl) (fun _ _ _ _ h => h) (by rfl) HS.out (Or.inl ⟨by rfl, ?y18⟩) ?r18
            case y18 => intro w hSw; (try dsimp only at hSw); go_simp; (try with_reducible rfl)
            simp only [List.setIfInBounds_toArray, List.set_cons_zero, List.set_cons_succ]
            refine wpAnyH_look (i := 14) (v := ?v14) 33 rfl (by kernel_rfl) (by kernel_rfl) (by kernel_rfl) (fun _ _ _ _ h => h) (by rfl) HS.out (Or.inl ⟨by rfl, ?y14⟩) ?r14
            case y14 => intro w hSw; (try dsimp only at hSw); go_simp; (try with_reducible rfl)
            simp only [List.setIfInBounds_toArray, List.set_cons_zero, List.set_cons_succ]
            refine wpAnyH_look (i := 19) (v := ?v19) 38 rfl (by kernel_rfl) (by kernel_rfl) (by kernel_rfl) (fun _ _ _ _ h => h) (by rfl) HS.out (Or.inl ⟨by rfl, ?y19⟩) ?r19
            case y19 => intro w hSw; (try dsimp only at hSw); go_simp; (try with_reducible rfl)
            simp only [List.setIfInBounds_toArray, List.set_cons_zero, List.set_cons_succ]
            refine wpAnyH_look (i := 15) (v := ?v15) 34 rfl (by kernel_rfl) (by kernel_rfl) (by kernel_rfl) (fun _ _ _ _ h => h) (by rfl) HS.out (Or.inl ⟨by rfl, ?y15⟩) ?r15
            case y15 => intro w hSw; (try dsimp only at hSw); go_simp; (try with_reducible rfl)
            simp only [List.setIfInBounds_toArray, List.set_cons_zero, List.set_cons_succ]
            refine wpAnyH_look (i := 20) (v := ?v20) 39 rfl (by kernel_rfl) (by kernel_rfl) (by kernel_rfl) (fun _ _ _ _ h => h) (by rfl) HS.out (Or.inl ⟨by rfl, ?y20⟩) ?r20
            case y20 => intro w hSw; (try dsimp only at hSw); go_simp; (try with_reducible rfl)
            simp only [List.setIfInBounds_toArray, List.set_cons_zero, List.set_cons_succ]
            refine wpAnyH_ready (rs := [16]) (by kernel_rfl) (by simp) ?_
            refine AllReadyH.cons rfl (fun K hK => ?_) AllReadyH.nil
            go_simp
            go_at_call 11
            refine (HL1.out _).mono ?_
            rintro en x3 ⟨rfl, hb⟩
            have X3 := Lib.hid (X2.out.below hb)
            have HS := Lib.hid (HQ.out _ X3.out.low)
            clear hb
            go_simp
            refine hK.out _ _ HS.out (fun _ => ?_)
            clear hK K
            refine wpAnyH_ready (rs := [21]) (by kernel_rfl) (by simp) ?_
            refine AllReadyH.cons rfl (fun K hK => ?_) AllReadyH.nil
            go_simp
            go_at_call 12
            refine (HL2.out _).mono ?_
            rintro en x4 ⟨rfl, hb⟩
            have X4 := Lib.hid (X3.out.below hb)
            have HS := Lib.hid (HQ.out _ X4.out.low)
            clear hb
            go_simp
            refine hK.out _ _ HS.out (fun _ => ?_)
            clear hK K
            refine wpAnyH_look (i := 22) (v := ?v22) 41 rfl (by kernel_rfl) (by kernel_rfl) (by kernel_rfl) (fun _ _ _ _ h => h) (by rfl) HS.out (Or.inl ⟨by rfl, ?y22⟩) ?r22
            case y22 => intro w hSw; (try dsimp only at hSw); go_simp; (try with_reducible rfl)
            simp only [List.setIfInBounds_toArray, List.set_cons_zero, List.set_cons_succ]
            refine wpAnyH_look (i := 23) (v := ?v23) 42 rfl (by kernel_rfl) (by kernel_rfl) (by kernel_rfl) (fun _ _ _ _ h => h) (by rfl) HS.out (Or.inl ⟨by rfl, ?y23⟩) ?r23
            case y23 => intro w hSw; (try dsimp only at hSw); go_simp; (try with_reducible rfl)
            simp only [List.setIfInBounds_toArray, List.set_cons_zero, List.set_cons_succ]
            refine wpAnyH_look (i := 24) (v := ?v24) 43 rfl (by kernel_rfl) (by kernel_rfl) (by kernel_rfl) (fun _ _ _ _ h => h) (by rfl) HS.out (Or.inl ⟨by rfl, ?y24⟩) ?r24
            case y24 => intro w hSw; (try dsimp only at hSw); go_simp; (try with_reducible rfl)
            simp only [List.setIfInBounds_toArray, List.set_cons_zero, List.set_cons_succ]
            refine wpAnyH_look (i := 25) (v := ?v25) 44 rfl (by kernel_rfl) (by kernel_rfl) (by kernel_rfl) (fun _ _ _ _ h => h) (by rfl) HS.out (Or.inl ⟨by rfl, ?y25⟩) ?r25
            case y25 => intro w hSw; (try dsimp only at hSw); go_simp; (try with_reducible rfl)
            simp only [List.setIfInBounds_toArray, List.set_cons_zero, List.set_cons_succ]
            refine wpAnyH_look (i := 26) (v := ?v26) 45 rfl (by kernel_rfl) (by kernel_rfl) (by kernel_rfl) (fun _ _ _ _ h => h) (by rfl) HS.out (Or.inl ⟨by rfl, ?y26⟩) ?r26
            case y26 => intro w hSw; (try dsimp only at hSw); go_simp; (try with_reducible rfl)
            simp only [List.setIfInBounds_toArray, List.set_cons_zero, List.set_cons_succ]
            refine wpAnyH_look (i := 27) (v := ?v27) 46 rfl (by kernel_rfl) (by kernel_rfl) (by kernel_rfl) (fun _ _ _ _ h => h) (by rfl) HS.out (Or.inl ⟨by rfl, ?y27⟩) ?r27
            case y27 => intro w hSw; (try dsimp only at hSw); go_simp; (try with_reducible rfl)
            simp only [List.setIfInBounds_toArray, List.set_cons_zero, List.set_cons_succ]
            refine wpAnyH_look (i := 31) (v := ?v31) 50 rfl (by kernel_rfl) (by kernel_rfl) (by kernel_rfl) (fun _ _ _ _ h => h) (by rfl) HS.out (Or.inl ⟨by rfl, ?y31⟩) ?r31
            case y31 => intro w hSw; (try dsimp only at hSw); go_simp; (try with_reducible rfl)
            simp only [List.setIfInBounds_toArray, List.set_cons_zero, List.set_cons_succ]
            refine wpAnyH_look (i := 32) (v := ?v32) 51 rfl (by kernel_rfl) (by kernel_rfl) (by kernel_rfl) (fun _ _ _ _ h => h) (by rfl) HS.out (Or.inl ⟨by rfl, ?y32⟩) ?r32
            case y32 => intro w hSw; (try dsimp only at hSw); go_simp; (try with_reducible rfl)
            simp only [List.setIfInBounds_toArray, List.set_cons_zero, List.set_cons_succ]
            refine wpAnyH_look (i := 33) (v := ?v33) 52 rfl (by kernel_rfl) (by kernel_rfl) (by kernel_rfl) (fun _ _ _ _ h => h) (by rfl) HS.out (Or.inl ⟨by rfl, ?y33⟩) ?r33
            case y33 => intro w hSw; (try dsimp only at hSw); go_simp; (try with_reducible rfl)
            simp only [List.setIfInBounds_toArray, List.set_cons_zero, List.set_cons_succ]
            refine wpAnyH_look (i := 28) (v := ?v28) 47 rfl (by kernel_rfl) (by kernel_rfl) (by kernel_rfl) (fun _ _ _ _ h => h) (by rfl) HS.out (Or.inl ⟨by rfl, ?y28⟩) ?r28
            case y28 => intro w hSw; (try dsimp only at hSw); go_simp; (try with_reducible rfl)
            simp only [List.setIfInBounds_toArray, List.set_cons_zero, List.set_cons_succ]
            refine wpAnyH_look (i := 34) (v := ?v34) 53 rfl (by kernel_rfl) (by kernel_rfl) (by kernel_rfl) (fun _ _ _ _ h => h) (by rfl) HS.out (Or.inl ⟨by rfl, ?y34⟩) ?r34
            case y34 => intro w hSw; (try dsimp only at hSw); go_simp; (try with_reducible rfl)
            simp only [List.setIfInBounds_toArray, List.set_cons_zero, List.set_cons_succ]
            refine wpAnyH_look (i := 29) (v := ?v29) 48 rfl (by kernel_rfl) (by kernel_rfl) (by kernel_rfl) (fun _ _ _ _ h => h) (by rfl) HS.out (Or.inl ⟨by rfl, ?y29⟩) ?r29
            case y29 => intro w hSw; (try dsimp only at hSw); go_simp; (try with_reducible rfl)
            simp only [List.setIfInBounds_toArray, List.set_cons_zero, List.set_cons_succ]
            refine wpAnyH_look (i := 35) (v := ?v35) 54 rfl (by kernel_rfl) (by kernel_rfl) (by kernel_rfl) (fun _ _ _ _ h => h) (by rfl) HS.out (Or.inl ⟨by rfl, ?y35⟩) ?r35
            case y35 => intro w hSw; (try dsimp only at hSw); go_simp; (try with_reducible rfl)
            simp only [List.setIfInBounds_toArray, List.set_cons_zero, List.set_cons_succ]
            refine wpAnyH_ready (rs := [30]) (by kernel_rfl) (by simp) ?_
            refine AllReadyH.cons rfl (fun K hK => ?_) AllReadyH.nil
            go_simp
            go_at_call 13
            refine (HY1.out _ X4.out).mono ?_
            rintro en x5 ⟨rfl, hb⟩
            have X5 := Lib.hid (hb)
            have HS := Lib.hid (HQ.out _ X5.out.low)
            clear hb
            go_simp
            refine hK.out _ _ HS.out (fun _ => ?_)
            clear hK K
            refine wpAnyH_ready (rs := [36]) (by kernel_rfl) (by simp) ?_
            refine AllReadyH.cons rfl (fun K hK => ?_) AllReadyH.nil
            go_simp
            go_at_call 14
            refine (HY2.out _ X5.out).mono ?_
            rintro en x6 ⟨rfl, hb⟩
            have X6 := Lib.hid (hb)
            have HS := Lib.hid (HQ.out _ X6.out.low)
            clear hb
            go_simp
            refine hK.out _ _ HS.out (fun _ => ?_)
            clear hK K
            refine wpAnyH_look (i := 37) (v := ?v37) 56 rfl (by kernel_rfl) (by kernel_rfl) (by kernel_rfl) (fun _ _ _ _ h => h) (by rfl) HS.out (Or.inl ⟨by rfl, ?y37⟩) ?r37
            case y37 => intro w hSw; (try dsimp only at hSw); go_simp; (try with_reducible rfl)
            simp only [List.setIfInBounds_toArray, List.set_cons_zero, List.set_cons_succ]
            refine wpAnyH_look (i := 38) (v := ?v38) 57 rfl (by kernel_rfl) (by kernel_rfl) (by kernel_rfl) (fun _ _ _ _ h => h) (by rfl) HS.out (Or.inl ⟨by rfl, ?y38⟩) ?r38
            case y38 => intro w hSw; (try dsimp only at hSw); go_simp; (try with_reducible rfl)
            simp only [List.setIfInBounds_toArray, List.set_cons_zero, List.set_cons_succ]
            refine wpAnyH_look (i := 39) (v := ?v39) 58 rfl (by kernel_rfl) (by kernel_rfl) (by kernel_rfl) (fun _ _ _ _ h => h) (by rfl) HS.out (Or.inl ⟨by rfl, ?y39⟩) ?r39
            case y39 => intro w hSw; (try dsimp only at hSw); go_simp; (try with_reducible rfl)
            simp only [List.setIfInBounds_toArray, List.set_cons_zero, List.set_cons_succ]
            refine wpAnyH_look (i := 40) (v := ?v40) 59 rfl (by kernel_rfl) (by kernel_rfl) (by kernel_rfl) (fun _ _ _ _ h => h) (by rfl) HS.out (Or.inl ⟨by rfl, ?y40⟩) ?r40
            case y40 => intro w hSw; (try dsimp only at hSw); go_simp; (try with_reducible rfl)
            simp only [List.setIfInBounds_toArray, List.set_cons_zero, List.set_cons_succ]
            refine wpAnyH_look (i := 41) (v := ?v41) 60 rfl (by kernel_rfl) (by kernel_rfl) (by kernel_rfl) (fun _ _ _ _ h => h) (by rfl) HS.out (Or.inl ⟨by rfl, ?y41⟩) ?r41
            case y41 => intro w hSw; (try dsimp only at hSw); go_simp; (try with_reducible rfl)
            simp only [List.setIfInBounds_toArray, List.set_cons_zero, List.set_cons_succ]
            refine wpAnyH_look (i := 42) (v := ?v42) 61 rfl (by kernel_rfl) (by kernel_rfl) (by kernel_rfl) (fun _ _ _ _ h => h) (by rfl) HS.out (Or.inl ⟨by rfl, ?y42⟩) ?r42
            case y42 => intro w hSw; (try dsimp only at hSw); go_simp; (try with_reducible rfl)
            simp only [List.setIfInBounds_toArray, List.set_cons_zero, List.set_cons_succ]
            refine wpAnyH_look (i := 46) (v := ?v46) 65 rfl (by kernel_rfl) (by kernel_rfl) (by kernel_rfl) (fun _ _ _ _ h => h) (by rfl) HS.out (Or.inl ⟨by rfl, ?y46⟩) ?r46
            case y46 => intro w hSw; (try dsimp only at hSw); go_simp; (try with_reducible rfl)
            simp only [List.setIfInBounds_toArray, List.set_cons_zero, List.set_cons_succ]
            refine wpAnyH_look (i := 47) (v := ?v47) 66 rfl (by kernel_rfl) (by kernel_rfl) (by kernel_rfl) (fun _ _ _ _ h => h) (by rfl) HS.out (Or.inl ⟨by rfl, ?y47⟩) ?r47
            case y47 => intro w hSw; (try dsimp only at hSw); go_simp; (try with_reducible rfl)
            simp only [List.setIfInBounds_toArray, List.set_cons_zero, List.set_cons_succ]
            refine wpAnyH_look (i := 48) (v := ?v48) 67 rfl (by kernel_rfl) (by kernel_rfl) (by kernel_rfl) (fun _ _ _ _ h => h) (by rfl) HS.out (Or.inl ⟨by rfl, ?y48⟩) ?r48
            case y48 => intro w hSw; (try dsimp only at hSw); go_simp; (try with_reducible rfl)
            simp only [List.setIfInBounds_toArray, List.set_cons_zero, List.set_cons_succ]
            refine wpAnyH_look (i := 43) (v := ?v43) 62 rfl (by kernel_rfl) (by kernel_rfl) (by kernel_rfl) (fun _ _ _ _ h => h) (by rfl) HS.out (Or.inl ⟨by rfl, ?y43⟩) ?r43
            case y43 => intro w hSw; (try dsimp only at hSw); go_simp; (try with_reducible rfl)
            simp only [List.setIfInBounds_toArray, List.set_cons_zero, List.set_cons_succ]
            refine wpAnyH_look (i := 49) (v := ?v49) 68 rfl (by kernel_rfl) (by kernel_rfl) (by kernel_rfl) (fun _ _ _ _ h => h) (by rfl) HS.out (Or.inl ⟨by rfl, ?y49⟩) ?r49
            case y49 => intro w hSw; (try dsimp only at hSw); go_simp; (try with_reducible rfl)
            simp only [List.setIfInBounds_toArray, List.set_cons_zero, List.set_cons_succ]
            refine wpAnyH_look (i := 44) (v := ?v44) 63 rfl (by kernel_rfl) (by kernel_rfl) (by kernel_rfl) (fun _ _ _ _ h => h) (by rfl) HS.out (Or.inl ⟨by rfl, ?y44⟩) ?r44
            case y44 => intro w hSw; (try dsimp only at hSw); go_simp; (try with_reducible rfl)
            simp only [List.setIfInBounds_toArray, List.set_cons_zero, List.set_cons_succ]
            refine wpAnyH_look (i := 50) (v := ?v50) 69 rfl (by kernel_rfl) (by kernel_rfl) (by kernel_rfl) (fun _ _ _ _ h => h) (by rfl) HS.out (Or.inl ⟨by rfl, ?y50⟩) ?r50
            case y50 => intro w hSw; (try dsimp only at hSw); go_simp; (try with_reducible rfl)
            simp only [List.setIfInBounds_toArray, List.set_cons_zero, List.set_cons_succ]
            refine wpAnyH_ready (rs := [45]) (by kernel_rfl) (by simp) ?_
            refine AllReadyH.cons rfl (fun K hK => ?_) AllReadyH.nil
            go_simp
            go_at_call 15
            refine (HD1.out _ X6.out).mono ?_
            rintro en x7 ⟨rfl, hb⟩
            have X7 := Lib.hid (hb)
            have HS := Lib.hid (HQ.out _ X7.out.low)
            clear hb
            go_simp
            refine hK.out _ _ HS.out (fun _ => ?_)
            clear hK K
            refine wpAnyH_ready (rs := [51]) (by kernel_rfl) (by simp) ?_
            refine AllReadyH.cons rfl (fun K hK => ?_) AllReadyH.nil
            go_simp
            go_at_call 16
            refine (HD2.out _ X7.out).mono ?_
            rintro en x8 ⟨rfl, hb⟩
            have X8 := Lib.hid (hb)
            have HS := Lib.hid (HQ.out _ X8.out.low)
            clear hb
            go_simp
            refine hK.out _ _ HS.out (fun _ => ?_)
            clear hK K
            refine wpAnyH_look (i := 52) (v := ?v52) 71 rfl (by kernel_rfl) (by kernel_rfl) (by kernel_rfl) (fun _ _ _ _ h => h) (by rfl) HS.out (Or.inl ⟨by rfl, ?y52⟩) ?r52
            case y52 => intro w hSw; (try dsimp only at hSw); go_simp; (try with_reducible rfl)
            simp only [List.setIfInBounds_toArray, List.set_cons_zero, List.set_cons_succ]
            refine wpAnyH_look (i := 53) (v := ?v53) 72 rfl (by kernel_rfl) (by kernel_rfl) (by kernel_rfl) (fun _ _ _ _ h => h) (by rfl) HS.out (Or.inl ⟨by rfl, ?y53⟩) ?r53
            case y53 => intro w hSw; (try dsimp only at hSw); go_simp; (try with_reducible rfl)
            simp only [List.setIfInBounds_toArray, List.set_cons_zero, List.set_cons_succ]
            refine wpAnyH_look (i := 54) (v := ?v54) 73 rfl (by kernel_rfl) (by kernel_rfl) (by kernel_rfl) (fun _ _ _ _ h => h) (by rfl) HS.out (Or.inl ⟨by rfl, ?y54⟩) ?r54
            case y54 => intro w hSw; (try dsimp only at hSw); go_simp; (try with_reducible rfl)
            simp only [List.setIfInBounds_toArray, List.set_cons_zero, List.set_cons_succ]
            obtain ⟨x1, x2⟩ := HCell.out _ X8.out
            have HFa2 := Lib.hid (fun m => calls_flip (HFa.out _ (X8.out.below (below_draws x8 m))))
            have HLk2 := Lib.hid (fun m => calls_flip (HLk.out _ (X8.out.below (below_draws x8 m))))
            refine wpAnyH_lex_from 55 ?lx ?hSx ?hlx ?hfx (by kernel_rfl) (by kernel_rfl) ?tailx
            case hSx => exact fun m => HQ.out _ (X8.out.below (below_draws x8 m)).low
            case hlx => exact rfl
            case hfx => rfl
            simp only [List.append_eq, List.cons_append, List.nil_append, List.drop_succ_cons, List.drop_zero]
            repeat (go_big_quiet_step (first
              | (go_at_call 18; refine Calls.quiet_of_same (HLk2.out _))
              | (go_at_call 17; refine Calls.quiet_of_same (HFa2.out _))))
            refine wpQuiet_nil ?_
            rintro w6 ⟨nq, rfl⟩
            have H3 := Lib.hid (X8.out.below (below_draws x8 nq))
            go_wp2_with fail
            go_meet
            case rel => exact ⟨by first | rfl | simp, H3⟩
        case rest => as_aux_lemma =>
          obtain ⟨rfl, H3⟩ := hcut
          rw [← hD1'.out] at H3
          clear HQ HCell HFa HLk HR1 HR2 HL1 HL2 HY1 HY2 HD1 HD2 HI
          go_wp2_with fail
          go_roundw
          case rel => exact ⟨k + 1, by go_num, by omega, H3⟩
          case measure => simp [intOf]; omega
      · obtain rfl : n = k := by omega
        clear hlt hkn
        obtain ⟨D, hD⟩ : ∃ D, runA emptyD L n = D := ⟨_, rfl⟩
        have hDs := runA_small L n
        rw [hD] at hDs HI
        have hfew : D.L.length ≤ 200 := by omega
        have hsmall : (rowN 0 D.L).length ≤ 1000000 := by have := rowN_few 0 D.L; omega
        obtain ⟨nl, hnl⟩ : ∃ nl, (rowN 0 D.L).length = nl := ⟨_, rfl⟩
        rw [hnl] at hsmall
        have HK := Lib.hid hfew
        have HNl := Lib.hid hnl
        have HNs := Lib.hid hsmall
        clear hfew hsmall hnl hD hDs
        go_wp2_with fail
        refine (two_blocks HI.out HK.out HNl.out).mono ?_
        rintro en w2 ⟨a1, c1, rfl, l1, b1⟩
        have L1 := Lib.hid l1
        have F1 := Lib.hid (HI.out.below b1)
        clear l1 b1 HI
        go_wp2_with fail
        refine (two_rblocks F1.out HNl.out).mono ?_
        rintro en w3 ⟨q2, c2, rfl, l2, b2⟩
        have L2 := Lib.hid l2
        have L1 := Lib.hid (L1.out.below b2)
        have F2 := Lib.hid (F1.out.below b2)
        clear l2 b2 F1
        go_wp2_with fail
        refine (rsame_yes _ _ _ _ _ _ _ L1.out L2.out HNs.out).mono ?_
        rintro en w4 ⟨rfl, b3⟩
        have F3 := Lib.hid (F2.out.below b3)
        clear b3 F2 L1 L2
        go_wp2_with fail
        refine (awake_any _ (HT.out.below F3.out.low)).mono ?_
        rintro en w8 ⟨rfl, b7⟩
        have F7 := Lib.hid (F3.out.below b7)
        clear b7 F3
        go_wp2_with fail
        go_ret
        exact Says.mk rfl F7.out.low
end Go.Proofs.YtlgjolajnddpbaaDoor
