/-
  The walk through ActOne.
-/
import Derived.Test.YtlgjolajnddpbaaDoorOnest
import Derived.Test.YtlgjolajnddpbaaDoorActfew
import Derived.Test.YtlgjolajnddpbaaDoorActaw
import Derived.Test.YtlgjolajnddpbaaDoorDrawn
import Derived.Deep.CutBlock
namespace Go.Proofs.YtlgjolajnddpbaaDoor
open Go Go.RowKit
attribute [local go_sem ↓] Go.wp_at_zero Go.wp_at_succ

theorem few_one {b : Nat} {x : ActD} {X : World} {r : Bool} (h : X.heap[b]? = some (.cells (actCells x) 34 (0, 0))) (hr : longA x = r) :
    Calls Tryd.prog 6 #[.slice (some ⟨b, 0, none⟩) 1 1, .int .i64 1] X fun e Y => e = .returned (.bool (!r)) ∧ X = Y := by
  have hs : Sa X (some ⟨b, 0, none⟩) [x] := fun j hj => by
    obtain rfl : j = 0 := by simpa using hj
    refine ⟨b, 0, rfl, ?_, ?_, ?_, ?_, ?_, ?_⟩
    · exact (cell_of h).trans rfl
    · exact (cell_of h).trans rfl
    · exact (cell_of h).trans rfl
    · exact (cell_of h).trans rfl
    · exact (cell_of h).trans rfl
    · exact (cell_of h).trans rfl
  have e1 : fewA [x] 1 = !r := by simp [fewA, hr]
  have := few_any (some ⟨b, 0, none⟩) 1 1 1 [x] X hs rfl (by decide) (by decide)
  rw [e1] at this
  exact this

/-- An act in a box; what lay lies as it lay. -/
structure Box1 (W : World) (x : ActD) (X : World) : Prop where
  lo : Below W.heap.size W X
  b1 : X.heap[W.heap.size]? = some (.cells (actCells x) 34 (0, 0))
theorem Box1.below {W X Y : World} {x : ActD} (h : Box1 W x X) (hb : Below X.heap.size X Y) : Box1 W x Y :=
  ⟨h.lo.trans (hb.mono h.lo.size), (hb.block _ (heap_at_lt h.b1)).trans h.b1⟩
theorem Box1.start (W : World) (x : ActD) : Box1 W x (W.alloc (.cells (actCells x) 34)) := ⟨below_alloc W _, World.alloc_heap_new W _⟩
theorem Box1.cells {W X : World} {k : Int} {b : Nat} {c o n : Int} {t : ByteArray} (h : Box1 W ⟨k, b, c, o, n, t⟩ X) : X.cell? ⟨W.heap.size, 0, none⟩ = some (.int .i64 k) ∧ X.cell? ⟨W.heap.size, 1, none⟩ = some (.int .u64 (b : Int)) ∧ X.cell? ⟨W.heap.size, 2, none⟩ = some (.int .i64 c) ∧ X.cell? ⟨W.heap.size, 3, none⟩ = some (.int .u64 o) ∧ X.cell? ⟨W.heap.size, 4, none⟩ = some (.int .u64 n) ∧ X.cell? ⟨W.heap.size, 5, none⟩ = some (.string t) :=
  ⟨(cell_of h.b1).trans rfl, (cell_of h.b1).trans rfl, (cell_of h.b1).trans rfl, (cell_of h.b1).trans rfl, (cell_of h.b1).trans rfl, (cell_of h.b1).trans rfl⟩

theorem Box1.start2 (W : World) (x : ActD) : Box1 W x ((W.alloc (.cells (actCells x) 34)).alloc (.cells (actCells x) 34)) ∧ ((W.alloc (.cells (actCells x) 34)).alloc (.cells (actCells x) 34)).heap[W.heap.size + 1]? = some (.cells (actCells x) 34 (0, 0)) := by
  have h2 := World.alloc_heap_new (W.alloc (.cells (actCells x) 34)) (.cells (actCells x) 34)
  have z1 : (W.alloc (.cells (actCells x) 34)).heap.size = W.heap.size + 1 := by simp
  rw [z1] at h2
  exact ⟨(Box1.start W x).below (below_alloc _ _), h2⟩
theorem lot_cell {a : Option Addr} {nb cc : Nat} {R : List Int} {X : World} (h : Lot X 32 1 (.slice a nb cc) nb (R.map uval)) {i : Nat} {b : Int} (hb : R[i]? = some b) (hn : 0 < nb) : ∃ g, a = some ⟨g, 0, none⟩ ∧ X.cell? ⟨g, i, none⟩ = some (.int .u64 b) := by
  obtain ⟨g, cap, e, hc⟩ := h.cells hn
  have ha := (Value.slice.inj e).1
  exact ⟨g, ha, hc i _ (by rw [List.getElem?_map, hb]; rfl)⟩
theorem make_small (D : HpD) (c : Int) (s : ByteArray) : (makeD D c s).L.length ≤ D.L.length + 1 ∧ (makeD D c s).faults = D.faults ∧ ∃ v : Nat, makeV D c = (v : Int) ∧ v ≤ D.L.length + 1 := by
  unfold makeD makeV
  split
  · exact ⟨by simp [HpD.add], rfl, _, rfl, Nat.le_refl _⟩
  · exact ⟨Nat.le_succ _, rfl, 0, rfl, Nat.zero_le _⟩
theorem store_small (D : HpD) (k : Nat) (i u : Int) : (storeD D k i u).L.length = D.L.length ∧ (storeD D k i u).faults ≤ D.faults + 1 := by
  unfold storeD
  split
  · unfold HpD.word
    split
    · exact ⟨rfl, Nat.le_succ _⟩
    · exact ⟨by simp [HpD.at], by simp [HpD.at]⟩
  · exact ⟨rfl, Nat.le_refl _⟩
/-- No more blocks than one more, no more faults than one more. -/
def Nigh (D D' : HpD) : Prop := D'.L.length ≤ D.L.length + 1 ∧ D'.faults ≤ D.faults + 1
theorem Nigh.same (D : HpD) : Nigh D D := ⟨by omega, by omega⟩
theorem Nigh.fault (D : HpD) : Nigh D D.fault := ⟨Nat.le_succ _, Nat.le_refl _⟩
theorem Nigh.word (D : HpD) (k : Nat) (i u : Int) : Nigh D (D.word k i u) := by
  unfold HpD.word
  split
  · exact Nigh.same D
  · exact ⟨by simp [HpD.at], by simp [HpD.at]⟩
theorem Nigh.lose (D : HpD) (k : Nat) : Nigh D (D.lose k) := by
  unfold HpD.lose
  split
  · exact Nigh.same D
  · exact ⟨by simp [HpD.at], by simp [HpD.at]⟩
theorem act_nigh (D : HpD) (x : ActD) : Nigh D (actN D x) := by
  unfold actN
  split
  · unfold loadD; split
    · exact Nigh.same D
    · exact Nigh.fault D
  split
  · unfold storeD; split
    · exact Nigh.word ..
    · exact Nigh.fault D
  split
  · unfold swapD; split
    · split
      · exact Nigh.word ..
      · exact Nigh.same D
    · exact Nigh.fault D
  split
  · unfold bumpD; split
    · exact Nigh.word ..
    · exact Nigh.fault D
  split
  · unfold makeD; split
    · exact ⟨by simp [HpD.add], by simp [HpD.add]⟩
    · exact Nigh.same D
  split
  · unfold wordsD; split
    · exact Nigh.same D
    · exact Nigh.fault D
  split
  · unfold dropD; split
    · exact Nigh.lose ..
    · exact Nigh.fault D
  split
  · exact ⟨by simp [HpD.lock], by simp [HpD.lock]⟩
  split
  · unfold unlockD; split
    · exact ⟨by simp [HpD.lock], by simp [HpD.lock]⟩
    · exact Nigh.fault D
  · exact Nigh.same D
theorem do_nigh (D : HpD) (x : ActD) : Nigh D (doN D x) := by
  unfold doN
  split
  · exact act_nigh D x
  · exact Nigh.same D
theorem act_few (D : HpD) (x : ActD) : (doN D x).L.length ≤ D.L.length + 1 ∧ (doN D x).faults ≤ D.faults + 1 := do_nigh D x

set_option maxRecDepth 100000 in
set_option maxHeartbeats 8000000 in
theorem one_many (pa : Option Addr) (n c : Nat) (x : ActD) (W : World) (hT : Tabs W) (hz : (10 : Int) < (n : Int)) :
    Calls Tryd.prog 5 #[.slice pa n c, actV x.kind x.block x.cell x.old x.new x.text] W (Says true W) := by
  have HT := Lib.hid hT
  have H0 := Lib.hid (Box1.start W x)
  obtain ⟨xk, xb, xc, xo, xn, xt⟩ := x
  simp only at H0 ⊢
  obtain ⟨a0, a1, a2, a3, a4, a5⟩ := H0.out.cells
  unfold actCells at H0 a0 a1 a2 a3 a4 a5
  simp only at H0 a0 a1 a2 a3 a4 a5
  clear hT
  go_enter Tryd.func5, Tryd.ntmps5
  go_wp2_with fail
  refine (awake_any _ (HT.out.below H0.out.lo)).mono ?_
  rintro en w7 ⟨rfl, hb⟩
  have HB := Lib.hid (H0.out.lo.trans (hb.mono H0.out.lo.size))
  clear hb
  go_wp2_with fail
  go_ret
  exact Says.mk rfl HB.out

set_option maxRecDepth 100000 in
set_option maxHeartbeats 20000000 in
theorem one_walk (pa : Option Addr) (n c : Nat) (S : List Nat) (x : ActD) (fx : x.fits) (W : World) (hT : Tabs W) (hs : Su W pa S) (hl : S.length = n) :
    Calls Tryd.prog 5 #[.slice pa n c, actV x.kind x.block x.cell x.old x.new x.text] W (Says true W) := by
  by_cases hbig : 10 < n
  · exact one_many pa n c x W hT (by omega)
  have hz : (n : Int) ≤ 10 := by omega
  have hn10 : n ≤ 10 := by omega
  have HT := Lib.hid hT
  have H0 := Lib.hid (Box1.start W x)
  have H2 := Lib.hid (Box1.start2 W x)
  have HX := Lib.hid (fun (D D' : HpD) (p q B : Nat) (U X : World) (h : Both B U p q D D' X) (h1 : D.faults < 1000000) (h2 : D.L.length < 1000000) => both_do h h1 h2 x fx)
  have HL := Lib.hid hl
  have HSu := Lib.hid (fun X (hX : Below W.heap.size W X) => hs.grow hX)
  have HO := Lib.hid (fun D m => do_one D x m)
  have HLo := Lib.hid (fun D (h : looksA x = true) m => looks_one D x h m)
  have HFew := Lib.hid (fun D => act_few D x)
  obtain ⟨r, hr⟩ : ∃ r, longA x = r := ⟨_, rfl⟩
  obtain ⟨gl, hgl⟩ : ∃ gl, looksA x = gl := ⟨_, rfl⟩
  have HA := Lib.hid (fun X => looks_any x.kind x.block x.cell x.old x.new x.text X)
  have HFw := Lib.hid (fun (b : Nat) (X : World) (h : X.heap[b]? = some (.cells (actCells x) 34 (0, 0))) => few_one h hr)
  obtain ⟨xk, xb, xc, xo, xn, xt⟩ := x
  simp only at H0 H2 HX HA ⊢
  rw [hgl] at HA HLo
  obtain ⟨a0, a1, a2, a3, a4, a5⟩ := H0.out.cells
  unfold actCells at H0 H2 a0 a1 a2 a3 a4 a5 HFw
  simp only at H0 H2 a0 a1 a2 a3 a4 a5 HFw
  clear hT hs hl hbig hr hgl fx
  cases r with
  | true =>
    go_enter Tryd.func5, Tryd.ntmps5
    go_wp2_with fail
    refine (HFw.out _ _ H2.out.2).mono ?_
    rintro en w1 ⟨rfl, rfl⟩
    go_wp2_with fail
    refine (awake_any _ (HT.out.below H2.out.1.lo)).mono ?_
    rintro en w7 ⟨rfl, hb⟩
    have HB := Lib.hid (H2.out.1.lo.trans (hb.mono H2.out.1.lo.size))
    clear hb
    go_wp2_with fail
    go_ret
    exact Says.mk rfl HB.out
  | false =>
    go_enter Tryd.func5, Tryd.ntmps5
    go_wp2_with fail
    refine (HFw.out _ _ H2.out.2).mono ?_
    rintro en w1 ⟨rfl, rfl⟩
    generalize (W.alloc (.cells #[.int .i64 xk, .int .u64 (xb : Int), .int .i64 xc, .int .u64 xo, .int .u64 xn, .string xt] 34)).alloc (.cells #[.int .i64 xk, .int .u64 (xb : Int), .int .i64 xc, .int .u64 xo, .int .u64 xn, .string xt] 34) = w2 at H2 ⊢
    clear a0 a1 a2 a3 a4 a5 H0 HFw
    have HLow := Lib.hid (fun X (hX : Below w2.heap.size w2 X) => H2.out.1.lo.trans (hX.mono H2.out.1.lo.size))
    have HBx := Lib.hid (fun X (hX : Below w2.heap.size w2 X) => (H2.out.1.below hX).cells)
    have HTb := Lib.hid (fun X (hX : Below w2.heap.size w2 X) => HT.out.below (HLow.out X hX))
    have HSb := Lib.hid (fun X (hX : Below w2.heap.size w2 X) => HSu.out X (HLow.out X hX))
    clear HT HSu H2
    go_wp2_with fail
    refine (new_any _).mono ?_
    rintro en w3 ⟨p, f3, rfl, h3, hb3⟩
    have H3 := Lib.hid (show ∃ (D : HpD) (f : Nat → Prop), D.faults ≤ 0 ∧ D.L.length ≤ 0 ∧ Hp w3 w2.heap.size p D f ∧ Below w2.heap.size w2 w3 from ⟨emptyD, f3, Nat.le_refl _, Nat.le_refl _, h3, hb3⟩)
    clear h3 hb3
    go_wp2_with fail
    go_loopw [6] (fun i wr => ∃ k : Nat, i = .int .i64 k ∧ k ≤ n ∧ Hid (∃ (D : HpD) (f : Nat → Prop), D.faults ≤ k ∧ D.L.length ≤ k ∧ Hp wr w2.heap.size p D f ∧ Below w2.heap.size w2 wr)) (fun i _ => n - (intOf i).toNat)
    case atStart => exact ⟨0, rfl, Nat.zero_le _, H3⟩
    case round => as_aux_lemma =>
      clear H3
      obtain ⟨k, rfl, hkn, H3⟩ := hrel
      have hk0 : (0 : Int) ≤ (k : Int) := by omega
      by_cases hlt : k < n
      · have hk1 : (k : Int) < (n : Int) := by omega
        obtain ⟨D, f, hD1, hD2, h4, hlow⟩ := H3.out
        obtain ⟨ba, oa, rfl, hc⟩ := HSb.out _ hlow k (by rw [HL.out]; exact hlt)
        obtain ⟨z, hzz⟩ : ∃ z, S[k]'(by rw [HL.out]; exact hlt) = z := ⟨_, rfl⟩
        rw [hzz] at hc
        have H4 := Lib.hid h4
        have HLo4 := Lib.hid hlow
        have HD := Lib.hid (And.intro hD1 hD2)
        clear H3 h4 hlow hzz hD1 hD2
        obtain ⟨q1, q2, v, hv, hvl⟩ := make_small D ((z : Int) % 8) ⟨#[116]⟩
        have hdd := HD.out
        have hM := make_all wr H4.out (by omega) ((z : Int) % 8) ⟨#[116]⟩ (by decide)
        rw [hv] at hM
        obtain ⟨D2, hD2⟩ : ∃ D2, makeD D ((z : Int) % 8) ⟨#[116]⟩ = D2 := ⟨_, rfl⟩
        rw [hD2] at hM q1 q2
        have HM := Lib.hid hM
        have HV := Lib.hid (show v < 18446744073709551616 ∧ D2.faults < 1000000 ∧ D2.L.length ≤ k + 1 ∧ D2.faults ≤ k from by omega)
        clear hM hv hvl q1 q2 hD2 hdd
        go_wp2_with fail
        refine HM.out.mono ?_
        rintro en w5 ⟨f5, rfl, h5, s5⟩
        have H5 := Lib.hid h5
        have HLo5 := Lib.hid (HLo4.out.trans (s5.below H4.out.size H4.out.base))
        clear h5 s5 hc
        go_wp2_with fail
        refine (store_any _ H5.out HV.out.2.1 v HV.out.1 0 7).mono ?_
        rintro en w6 ⟨f6, rfl, h6, s6⟩
        have H6 := Lib.hid (show ∃ (D : HpD) (f : Nat → Prop), D.faults ≤ k + 1 ∧ D.L.length ≤ k + 1 ∧ Hp w6 w2.heap.size p D f ∧ Below w2.heap.size w2 w6 from
          ⟨_, f6, by have := (store_small D2 v 0 7).2; have := HV.out; omega, by have := (store_small D2 v 0 7).1; have := HV.out; omega, h6, HLo5.out.trans (s6.below H5.out.size H5.out.base)⟩)
        clear h6 s6
        go_wp2_with fail
        go_roundw
        case rel => exact ⟨k + 1, by go_num, by omega, H6⟩
        case measure => simp [intOf]; omega
      · obtain rfl : n = k := by omega
        clear hlt hkn
        obtain ⟨D, f, hD1, hD2, h4, hlow⟩ := H3.out
        have HC := Lib.hid (both_start h4 hlow)
        have HB4 := Lib.hid hlow
        clear H3 h4 hlow
        go_wp2_with fail
        refine HC.out.mono ?_
        rintro en w4 ⟨cp, rfl, h5⟩
        have H5 := Lib.hid h5
        clear h5 HC
        obtain ⟨a0, a1, a2, a3, a4, a5⟩ := HBx.out _ H5.out.low
        go_wp2_with fail
        have HX5 := HX.out _ _ _ _ _ _ _ H5.out (by omega) (by omega)
        have hfew := HFew.out D
        have HN := Lib.hid (fun m => And.intro (HO.out D m) (fun h => HLo.out D h m))
        obtain ⟨D1, hDD⟩ : ∃ D1, doN D ⟨xk, xb, xc, xo, xn, xt⟩ = D1 := ⟨_, rfl⟩
        rw [hDD] at HX5 hfew HN
        refine HX5.mono ?_
        rintro en w5 ⟨rfl, h6⟩
        have H6 := Lib.hid h6
        obtain ⟨nb, hnb⟩ : ∃ nb, (rowN 0 D.L).length = nb := ⟨_, rfl⟩
        obtain ⟨na, hna⟩ : ∃ na, (rowN 0 D1.L).length = na := ⟨_, rfl⟩
        obtain ⟨l0, hl0⟩ : ∃ l, D.locked = l := ⟨_, rfl⟩
        obtain ⟨l1, hl1⟩ : ∃ l, D1.locked = l := ⟨_, rfl⟩
        unfold costA at HN
        rw [hnb, hna, hl0, hl1] at HN
        have HNb := Lib.hid hnb
        have HNa := Lib.hid hna
        have HK0 := Lib.hid hl0
        have HK1 := Lib.hid hl1
        have hnb2 : (nb : Int) ≤ 200 := by have := rowN_len 0 D.L; omega
        have HSm := Lib.hid (show D.L.length ≤ 200 ∧ D1.L.length ≤ 200 ∧ D.faults < 1000000 ∧ D1.faults < 1000000 from by omega)
        clear h6 HX5 hfew hnb hna hl0 hl1 hDD a0 a1 a2 a3 a4 a5 hD1 hD2 HX HO HLo HFew H5
        go_wp2_with fail
        refine (both_blocks H6.out.swap HSm.out.1 HNb.out).mono ?_
        rintro en w6 ⟨sa, sc, rfl, l1', b1⟩
        have L1 := Lib.hid l1'
        have H7 := Lib.hid (H6.out.below b1)
        clear l1' b1 H6
        go_wp2_with fail
        refine (both_blocks H7.out HSm.out.2.1 HNa.out).mono ?_
        rintro en w7 ⟨sb, sd, rfl, l2', b2⟩
        have L2 := Lib.hid (L1.out.below b2)
        have H8 := Lib.hid (H7.out.below b2)
        clear l2' b2 H7 L1
        go_upto_if 59 with fail
        go_cut [11] (fun s11 wx => s11 = .int .i64 ((if nb = na then 0 else 1 : Nat) : Int) ∧ Hid (Both w2.heap.size w2 p cp D1 D wx) ∧ Hid (Lot wx 32 1 (.slice sa nb sc) nb ((rowN 0 D.L).map uval)))
        case first => as_aux_lemma =>
          by_cases hne : nb = na
          · subst hne
            go_wp2_with fail
            go_meet
            case rel => exact ⟨by simp, H8, L2⟩
          · have hne' : ¬ (nb : Int) = (na : Int) := by omega
            go_wp2_with fail
            go_meet
            case rel => exact ⟨by rw [if_neg hne]; first | rfl | go_num, H8, L2⟩
        case rest => as_aux_lemma =>
          clear H8 L2
          obtain ⟨rfl, H8, L2⟩ := hcut
          obtain ⟨e1, he1⟩ : ∃ e1, (if nb = na then 0 else 1 : Nat) = e1 := ⟨_, rfl⟩
          have he1' : (e1 : Int) ≤ 1 := by rw [← he1]; split <;> omega
          have he1'' : (0 : Int) ≤ (e1 : Int) := by omega
          rw [he1] at HN ⊢
          clear he1
          go_wp2_with fail
          refine (both_locked H8.out.swap HK0.out).mono ?_
          rintro en w8 ⟨rfl, rfl⟩
          go_wp2_with fail
          refine (both_locked H8.out HK1.out).mono ?_
          rintro en w8 ⟨rfl, rfl⟩
          go_upto_if 66 with fail
          go_cut [11] (fun s11 wx => s11 = .int .i64 ((e1 + (if l0 = l1 then 0 else 1) : Nat) : Int) ∧ Hid (Both w2.heap.size w2 p cp D1 D wx) ∧ Hid (Lot wx 32 1 (.slice sa nb sc) nb ((rowN 0 D.L).map uval)))
          case first => as_aux_lemma =>
            cases l0 <;> cases l1
            all_goals
              go_wp2_with fail
              go_meet
              case rel => exact ⟨by first | rfl | (simp; done) | go_num, H8, L2⟩
          case rest => as_aux_lemma =>
            clear H8 L2
            obtain ⟨rfl, H8, L2⟩ := hcut
            obtain ⟨e, he⟩ : ∃ e, (e1 + (if l0 = l1 then 0 else 1) : Nat) = e := ⟨_, rfl⟩
            rw [he] at HN ⊢
            clear he he1' he1'' HK0 HK1 HNa
            have HBd := Lib.hid (fun m => (show e + tot D.L D1.L m ≤ 1 ∧ (gl = true → e + tot D.L D1.L m = 0) from by
              exact HN.out m))
            go_wp2_with fail
            go_loopw [11, 12] (fun s11 i wr => ∃ k : Nat, s11 = .int .i64 ((e + tot D.L D1.L k : Nat) : Int) ∧ i = .int .i64 k ∧ k ≤ nb ∧ Hid (Both w2.heap.size w2 p cp D1 D wr) ∧ Hid (Lot wr 32 1 (.slice sa nb sc) nb ((rowN 0 D.L).map uval))) (fun _ i _ => nb - (intOf i).toNat)
            case atStart => exact ⟨0, by rw [tot_zero]; rfl, rfl, Nat.zero_le _, H8, L2⟩
            case round => as_aux_lemma =>
              clear H8 L2 HN
              obtain ⟨i, rfl, rfl, hkn, H8, L2⟩ := hrel
              have hi0 : (0 : Int) ≤ (i : Int) := by omega
              by_cases hlt : i < nb
              · have hi1 : (i : Int) < (nb : Int) := by omega
                obtain ⟨b, hb⟩ : ∃ b, (rowN 0 D.L)[i]? = some b := ⟨_, List.getElem?_eq_getElem (by rw [HNb.out]; exact hlt)⟩
                obtain ⟨j, rfl, hj⟩ := (rowN_live D.L b).1 (List.mem_of_getElem? hb)
                obtain ⟨g, rfl, -⟩ := lot_cell L2.out hb (by omega)
                have hts := tot_succ (L1 := D1.L) hb
                simp only [Int.toNat_natCast] at hts
                have HLc := Lib.hid (fun X (hX : Lot X 32 1 (.slice (some ⟨g, 0, none⟩) nb sc) nb ((rowN 0 D.L).map uval)) => (show X.cell? ⟨g, i, none⟩ = some (.int .u64 (j : Int)) from by
                  obtain ⟨g', e', h'⟩ := lot_cell hX hb (by omega)
                  simp only [Option.some.injEq, Addr.mk.injEq, and_true] at e'
                  rw [e']; exact h'))
                have hjb : j < 18446744073709551616 := by
                  have hj2 : j ≤ D.L.length := by
                    rcases Nat.lt_or_ge D.L.length j with h | h
                    · rw [liveAt_big h] at hj; cases hj
                    · exact h
                  have := HSm.out.1
                  omega
                obtain ⟨sz, hsz⟩ : ∃ sz, sizeAt D.L j = sz := ⟨_, rfl⟩
                obtain ⟨s1, hs1⟩ : ∃ s1, sizeAt D1.L j = s1 := ⟨_, rfl⟩
                have hszb : sz ≤ 256 := by rw [← hsz]; exact both_small H8.out.swap j
                have hs1b : s1 ≤ 256 := by rw [← hs1]; exact both_small H8.out j
                have HSz := Lib.hid (fun X (hX : Both w2.heap.size w2 p cp D1 D X) => both_size hX.swap j hjb hsz)
                have HS1 := Lib.hid (fun X (hX : Both w2.heap.size w2 p cp D1 D X) => both_size hX j hjb hs1)
                have HLd := Lib.hid (fun X (hX : Both w2.heap.size w2 p cp D1 D X) (k : Nat) (hk : k < sz) => both_load hX.swap j hjb k (by rw [hsz]; exact hk))
                have HL1 := Lib.hid (fun X (hX : Both w2.heap.size w2 p cp D1 D X) (k : Nat) (hk : k < s1) => both_load hX j hjb k (by rw [hs1]; exact hk))
                have HdS := Lib.hid (fun (h : s1 = sz) (k : Nat) => dAt_succ (L := D.L) (L1 := D1.L) (b := j) (k := k) (by rw [hsz, hs1]; exact h))
                have HdO := Lib.hid (fun (h : s1 ≠ sz) (k : Nat) => dAt_off (L := D.L) (L1 := D1.L) (b := j) k (by rw [hsz, hs1]; exact h))
                rw [hsz] at hts
                have HTs := Lib.hid hts
                have HB1 := Lib.hid (HBd.out i).1
                have HZ := Lib.hid (And.intro hszb hs1b)
                obtain ⟨t0, ht0⟩ : ∃ t0, e + tot D.L D1.L i = t0 := ⟨_, rfl⟩
                have HT0 := Lib.hid ht0
                rw [ht0] at HB1 ⊢
                clear hb hj hts hjb hsz hs1 hszb hs1b ht0
                go_wp2_with fail
                go_loopw [11, 13] (fun s11 s13 wr => ∃ k : Nat, s11 = .int .i64 ((t0 + dAt D.L D1.L j k : Nat) : Int) ∧ s13 = .int .i64 k ∧ k ≤ sz ∧ Hid (Both w2.heap.size w2 p cp D1 D wr) ∧ Hid (Lot wr 32 1 (.slice (some ⟨g, 0, none⟩) nb sc) nb ((rowN 0 D.L).map uval))) (fun _ s13 _ => sz - (intOf s13).toNat)
                case atStart => exact ⟨0, by rw [dAt_zero]; rfl, rfl, Nat.zero_le _, H8, L2⟩
                case round => as_aux_lemma =>
                  clear H8 L2
                  obtain ⟨k, rfl, rfl, hks, H8, L2⟩ := hrel
                  have hk0 : (0 : Int) ≤ (k : Int) := by omega
                  have hdl := dAt_le D.L D1.L j k
                  have hzz := HZ.out
                  have hb1 := HB1.out
                  have hkb : (k : Int) ≤ 256 := by omega
                  obtain ⟨N, hN⟩ : ∃ N, t0 + dAt D.L D1.L j k = N := ⟨_, rfl⟩
                  have hNb : (N : Int) ≤ 300 := by omega
                  have hN0 : (0 : Int) ≤ (N : Int) := by omega
                  have HNN := Lib.hid hN
                  rw [hN]
                  clear hN hdl hzz hb1
                  go_upto_region 21 with fail
                  refine wp_region_any (by kernel_rfl) ?_
                  change wpAny _ _ _ _ _ _ _ (World.drew _)
                  have H8d := Lib.hid (H8.out.below (below_drew wr))
                  have L8d := Lib.hid (L2.out.below (below_drew wr))
                  clear H8 L2
                  generalize World.drew wr = w0 at H8d L8d ⊢
                  have hc := HLc.out _ L8d.out
                  have HSz2 := Lib.hid (fun m => calls_flip (HSz.out _ (H8d.out.below (below_draws w0 m))))
                  have HS12 := Lib.hid (fun m => calls_flip (HS1.out _ (H8d.out.below (below_draws w0 m))))
                  by_cases hk : k < sz
                  · have hk1 : (k : Int) < (sz : Int) := by omega
                    by_cases hs : s1 = sz
                    · subst hs
                      refine wpAny_lex_from 0 ?lx1 ?hlx1 ?hfx1 (by kernel_rfl) (by kernel_rfl) ?tailx1
                      case hlx1 => simp only [List.drop_zero]; exact rfl
                      case hfx1 => rfl
                      repeat (go_big_quiet_step (first
                        | (go_at_call 27; with_reducible refine Calls.quiet_of_same (HSz2.out _))
                        | (go_at_call 27; with_reducible refine Calls.quiet_of_same (HS12.out _))))
                      refine wpQuiet_nil ?_
                      rintro w9 ⟨nq, rfl⟩
                      have H9 := Lib.hid (H8d.out.below (below_draws w0 nq))
                      have L9 := Lib.hid (L8d.out.below (below_draws w0 nq))
                      clear hc HSz2 HS12 H8d L8d
                      have hc := HLc.out _ L9.out
                      have HdK := Lib.hid (HdS.out rfl k)
                      go_wp2_with fail
                      refine (HLd.out _ H9.out k hk).mono ?_
                      rintro en w10 ⟨rfl, b10⟩
                      have H10 := Lib.hid (H9.out.below b10)
                      have L10 := Lib.hid (L9.out.below b10)
                      clear b10 hc H9 L9
                      have hc := HLc.out _ L10.out
                      go_wp2_with fail
                      refine (HL1.out _ H10.out k hk).mono ?_
                      rintro en w11 ⟨rfl, b11⟩
                      have H11 := Lib.hid (H10.out.below b11)
                      have L11 := Lib.hid (L10.out.below b11)
                      clear b11 hc H10 L10
                      obtain ⟨wa, hwa⟩ : ∃ wa, wordAt D.L j (k : Int) = wa := ⟨_, rfl⟩
                      obtain ⟨wb, hwb⟩ : ∃ wb, wordAt D1.L j (k : Int) = wb := ⟨_, rfl⟩
                      rw [hwa, hwb] at HdK ⊢
                      clear hwa hwb
                      by_cases hab : wa = wb
                      · have HdK2 := Lib.hid (show dAt D.L D1.L j (k + 1) = dAt D.L D1.L j k from by rw [HdK.out, if_pos hab, Nat.add_zero])
                        clear HdK
                        go_wp2_with fail
                        go_roundw
                        case rel => exact ⟨k + 1, by rw [HdK2.out, HNN.out], by go_num, by omega, H11, L11⟩
                        case measure => simp [intOf]; omega
                      · have HdK2 := Lib.hid (show dAt D.L D1.L j (k + 1) = dAt D.L D1.L j k + 1 from by rw [HdK.out, if_neg hab])
                        clear HdK
                        go_wp2_with fail
                        go_roundw
                        case rel => exact ⟨k + 1, by rw [HdK2.out, ← Nat.add_assoc, HNN.out]; go_num, by go_num, by omega, H11, L11⟩
                        case measure => simp [intOf]; omega
                    · have hs' : ¬ (s1 : Int) = (sz : Int) := by omega
                      refine wpAny_lex_from 0 ?lx2 ?hlx2 ?hfx2 (by kernel_rfl) (by kernel_rfl) ?tailx2
                      case hlx2 => simp only [List.drop_zero]; exact rfl
                      case hfx2 => rfl
                      repeat (go_big_quiet_step (first
                        | (go_at_call 27; with_reducible refine Calls.quiet_of_same (HSz2.out _))
                        | (go_at_call 27; with_reducible refine Calls.quiet_of_same (HS12.out _))))
                      refine wpQuiet_nil ?_
                      rintro w9 ⟨nq, rfl⟩
                      have H9 := Lib.hid (H8d.out.below (below_draws w0 nq))
                      have L9 := Lib.hid (L8d.out.below (below_draws w0 nq))
                      clear hc HSz2 HS12 H8d L8d
                      have HdK := Lib.hid (show N = t0 + dAt D.L D1.L j sz from by rw [← HNN.out, HdO.out hs k, HdO.out hs sz])
                      go_wp2_with fail
                      go_roundw
                      case rel => exact ⟨i + 1, by rw [HdK.out, HTs.out, ← HT0.out]; simp [Nat.add_assoc], by go_num, by omega, H9, L9⟩
                      case measure => simp [intOf]; omega
                  · have hk1 : ¬ (k : Int) < (sz : Int) := by omega
                    obtain rfl : sz = k := by omega
                    refine wpAny_lex_from 0 ?lx3 ?hlx3 ?hfx3 (by kernel_rfl) (by kernel_rfl) ?tailx3
                    case hlx3 => simp only [List.drop_zero]; exact rfl
                    case hfx3 => rfl
                    repeat (go_big_quiet_step (first
                      | (go_at_call 27; with_reducible refine Calls.quiet_of_same (HSz2.out _))
                      | (go_at_call 27; with_reducible refine Calls.quiet_of_same (HS12.out _))))
                    refine wpQuiet_nil ?_
                    rintro w9 ⟨nq, rfl⟩
                    have H9 := Lib.hid (H8d.out.below (below_draws w0 nq))
                    have L9 := Lib.hid (L8d.out.below (below_draws w0 nq))
                    clear hc HSz2 HS12 H8d L8d
                    go_wp2_with fail
                    go_roundw
                    case rel => exact ⟨i + 1, by rw [← HNN.out, HTs.out, ← HT0.out]; simp [Nat.add_assoc], by go_num, by omega, H9, L9⟩
                    case measure => simp [intOf]; omega
              · obtain rfl : nb = i := by omega
                clear hlt hkn
                obtain ⟨N, hN⟩ : ∃ N, e + tot D.L D1.L nb = N := ⟨_, rfl⟩
                have hB := HBd.out nb
                rw [hN] at hB ⊢
                have hN1 : (N : Int) ≤ 1 := by omega
                have hN0 : (0 : Int) ≤ (N : Int) := by omega
                have HI := H8
                have hZ : gl = true → N = 0 := hB.2
                clear hN hB L2 HBd
                obtain ⟨a0, a1, a2, a3, a4, a5⟩ := HBx.out _ HI.out.low
                cases gl with
                | true => as_aux_lemma =>
                  obtain rfl := hZ rfl
                  go_wp2_with fail
                  refine (HA.out _).mono ?_
                  rintro en y1 ⟨rfl, hb⟩
                  have HB1 := Lib.hid (HI.out.below hb)
                  clear hb a0 a1 a2 a3 a4 a5
                  go_wp2_with fail
                  refine (awake_any _ (HTb.out _ HB1.out.low)).mono ?_
                  rintro en y2 ⟨rfl, hb⟩
                  have HB2 := Lib.hid (HB1.out.below hb)
                  clear hb
                  go_wp2_with fail
                  go_ret
                  exact Says.mk rfl (HLow.out _ HB2.out.low)
                | false => as_aux_lemma =>
                  clear hZ
                  go_wp2_with fail
                  refine (HA.out _).mono ?_
                  rintro en y1 ⟨rfl, hb⟩
                  have HB1 := Lib.hid (HI.out.below hb)
                  clear hb a0 a1 a2 a3 a4 a5
                  go_wp2_with fail
                  refine (awake_any _ (HTb.out _ HB1.out.low)).mono ?_
                  rintro en y2 ⟨rfl, hb⟩
                  have HB2 := Lib.hid (HB1.out.below hb)
                  clear hb
                  go_wp2_with fail
                  go_ret
                  exact Says.mk rfl (HLow.out _ HB2.out.low)
end Go.Proofs.YtlgjolajnddpbaaDoor
