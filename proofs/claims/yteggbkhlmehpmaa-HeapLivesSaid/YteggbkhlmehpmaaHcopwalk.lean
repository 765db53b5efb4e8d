/-
  The walk through HeapCopies.
-/
import Derived.Test.YteggbkhlmehpmaaHcopst
namespace Go.Proofs.Yteggbkhlmehpmaa
open Go Go.RowKit
attribute [local go_sem ↓] Go.wp_at_zero Go.wp_at_succ

/-- A call of a row, read in any later memory. -/
theorem So.get {W : World} {pa : Option Addr} {L : List OpD} (h : So W pa L) {k : Nat} (hk : k < L.length) :
    ∃ (b oo : Nat) (o : OpD), L[k]? = some o ∧ o ∈ L ∧ pa = some ⟨b, oo, none⟩ ∧ W.cell? ⟨b, oo + k * 6, none⟩ = some (.int .i64 o.kind) ∧ W.cell? ⟨b, oo + k * 6 + 1, none⟩ = some (.int .u64 (o.block : Int)) ∧ W.cell? ⟨b, oo + k * 6 + 2, none⟩ = some (.int .i64 o.cell) ∧ W.cell? ⟨b, oo + k * 6 + 3, none⟩ = some (.int .u64 o.a) ∧ W.cell? ⟨b, oo + k * 6 + 4, none⟩ = some (.int .u64 o.b) ∧ W.cell? ⟨b, oo + k * 6 + 5, none⟩ = some (.string o.text) := by
  obtain ⟨b, o, e, c⟩ := h k hk
  exact ⟨b, o, L[k], List.getElem?_eq_getElem hk, List.getElem_mem hk, e, c⟩

theorem faults_told {B p k : Nat} {D : HpD} {f : Nat → Prop} (W : World) (h : Hp W B p D f) (hk : D.faults = k) : Calls Try.prog 11 #[.pointer (some ⟨p, 0, none⟩)] W fun e W' => e = .returned (.int .i64 k) ∧ W = W' := by
  subst hk; exact faults_any W h
theorem run_small (L : List OpD) (k : Nat) : (runD emptyD L k).faults ≤ k ∧ (runD emptyD L k).L.length ≤ k := by
  have := runD_few emptyD L k
  have e1 : emptyD.faults = 0 := rfl
  have e2 : emptyD.L.length = 0 := rfl
  omega

theorem rowN_few (i : Nat) (L : List BlkD) : (rowN i L).length ≤ L.length := by
  induction L generalizing i with
  | nil => simp [rowN]
  | cons a t ih =>
    have := ih (i + 1)
    simp only [rowN, List.length_cons]
    cases a.gone <;> simp <;> omega
theorem rblocks_told {B p nl : Nat} {D : HpD} {f : Nat → Prop} (W : World) (h : Rf W B p D f) (hk : (rowN 0 D.L).length = nl) : Calls Try.prog 17 #[.pointer (some ⟨p, 0, none⟩)] W fun e W' => ∃ q c, e = .returned (.slice (some ⟨q, 0, none⟩) nl c) ∧ Lot W' 28 1 (.slice (some ⟨q, 0, none⟩) nl c) nl ((rowN 0 D.L).map uval) ∧ Below W.heap.size W W' := by
  refine (rblocks_any W h).mono fun e W' hr => ?_
  obtain ⟨q, n, c, rfl, hl, hb⟩ := hr
  have e1 : (rowN 0 D.L).length = n := by have := hl.1; simpa using this
  obtain rfl : n = nl := by omega
  exact ⟨q, c, rfl, hl, hb⟩
theorem blocks_told (hB : BlocksOk) {B p nl : Nat} {D : HpD} {f : Nat → Prop} (W : World) (h : Hp W B p D f) (hs : D.L.length ≤ 200) (hk : (rowN 0 D.L).length = nl) : Calls Try.prog 16 #[.pointer (some ⟨p, 0, none⟩)] W fun e W' => ∃ a c, e = .returned (.slice a nl c) ∧ Lot W' 28 1 (.slice a nl c) nl ((rowN 0 D.L).map uval) ∧ Below W.heap.size W W' := by
  refine (hB W _ _ _ _ h hs).mono fun e W' hr => ?_
  obtain ⟨a, n, c, rfl, hl, hb⟩ := hr
  have e1 : (rowN 0 D.L).length = n := by have := hl.1; simpa using this
  obtain rfl : n = nl := by omega
  exact ⟨a, c, rfl, hl, hb⟩

set_option maxRecDepth 100000 in
set_option maxHeartbeats 20000000 in
theorem copies_walk (hBl : BlocksOk) (pa : Option Addr) (n c : Nat) (L : List OpD) (pb : Option Addr) (m d : Nat) (M : List OpD) (W : World)
    (hs : So W pa L) (hl : L.length = n) (hn : n ≤ maxLen) (hO : ∀ o ∈ L, o.fits) (ht : So W pb M) (hm : M.length = m) (hmx : m ≤ maxLen) (hP : ∀ o ∈ M, o.fits) :
    Calls Try.prog 5 #[.slice pa n c, .slice pb m d] W (Says true W) := by
  have HF1 := Lib.hid (few_any pa n c 60 L W hs hl hn (by omega))
  have HF2 := Lib.hid (few_any pb m d 60 M W ht hm hmx (by omega))
  have HS := Lib.hid (fun X (hX : Below W.heap.size W X) => hs.grow hX)
  have HT := Lib.hid (fun X (hX : Below W.heap.size W X) => ht.grow hX)
  have HL := Lib.hid hl
  have HM := Lib.hid hm
  have HO := Lib.hid hO
  have HP := Lib.hid hP
  have HBl := Lib.hid hBl
  obtain ⟨r1, hr1⟩ : ∃ r, fewD L 60 = r := ⟨_, rfl⟩
  obtain ⟨r2, hr2⟩ : ∃ r, fewD M 60 = r := ⟨_, rfl⟩
  rw [hr1] at HF1
  rw [hr2] at HF2
  have HR1 := Lib.hid hr1
  have HR2 := Lib.hid hr2
  clear hs hl hn hO ht hm hmx hP hr1 hr2 hBl
  cases r1 with
  | false => as_aux_lemma =>
    clear HF2
    go_enter Try.func5, Try.ntmps5
    go_wp2_with fail
    refine HF1.out.mono ?_
    rintro en w1 ⟨rfl, rfl⟩
    go_wp2_with fail
    refine (awake_any _).mono ?_
    rintro en w1 ⟨rfl, hb⟩
    have HB := Lib.hid hb
    clear hb
    go_wp2_with fail
    go_ret
    exact Says.mk rfl HB.out
  | true =>
    cases r2 with
    | false => as_aux_lemma =>
      go_enter Try.func5, Try.ntmps5
      go_wp2_with fail
      refine HF1.out.mono ?_
      rintro en w1 ⟨rfl, rfl⟩
      go_wp2_with fail
      refine HF2.out.mono ?_
      rintro en w1 ⟨rfl, rfl⟩
      go_wp2_with fail
      refine (awake_any _).mono ?_
      rintro en w1 ⟨rfl, hb⟩
      have HB := Lib.hid hb
      clear hb
      go_wp2_with fail
      go_ret
      exact Says.mk rfl HB.out
    | true =>
      have hn60 : n ≤ 60 := by have := (fewD_texts HR1.out (by omega)).1; rw [HL.out] at this; exact this
      have hm60 : m ≤ 60 := by have := (fewD_texts HR2.out (by omega)).1; rw [HM.out] at this; exact this
      have hn61 : (n : Int) ≤ 60 := by omega
      have hm61 : (m : Int) ≤ 60 := by omega
      go_enter Try.func5, Try.ntmps5
      go_wp2_with fail
      refine HF1.out.mono ?_
      rintro en w1 ⟨rfl, rfl⟩
      go_wp2_with fail
      refine HF2.out.mono ?_
      rintro en w1 ⟨rfl, rfl⟩
      go_wp2_with fail
      refine (new_any _).mono ?_
      rintro en w1 ⟨p, f1, rfl, h1, hb1⟩
      have HI := Lib.hid (two_start h1 hb1)
      clear h1 hb1 HF1 HF2
      go_wp2_with fail
      go_loopw [7] (fun i wr => ∃ k : Nat, i = .int .i64 k ∧ k ≤ n ∧ Hid (Two W.heap.size W p w1.heap.size (runD emptyD L k) (runD emptyD L k) wr)) (fun i _ => n - (intOf i).toNat)
      case atStart => exact ⟨0, rfl, Nat.zero_le _, HI⟩
      case round => as_aux_lemma =>
        clear HI
        obtain ⟨k, rfl, hkn, HI⟩ := hrel
        have hk0 : (0 : Int) ≤ (k : Int) := by omega
        by_cases hlt : k < n
        · have hk1 : (k : Int) < (n : Int) := by omega
          obtain ⟨b, oo, o, hLk, hmem, rfl, d0, d1, d2, d3, d4, d5⟩ := (HS.out _ (by obtain ⟨_, _, _, h⟩ := HI.out; exact h)).get (k := k) (by rw [HL.out]; exact hlt)
          have HC := Lib.hid (two_same HI.out o (HO.out o hmem) (by have := (run_small L k).1; omega) (by have := (run_small L k).1; omega) (by have := (run_small L k).2; omega) (by have := (run_small L k).2; omega))
          rw [← runD_succ emptyD hLk] at HC
          obtain ⟨ok, obk, oc, oa, ob, ot⟩ := o
          simp only at d0 d1 d2 d3 d4 d5 HC
          clear hLk hmem
          go_wp2_with fail
          refine HC.out.mono ?_
          rintro en w2 ⟨bb, rfl, -, h2⟩
          have H2 := Lib.hid h2
          clear h2 d0 d1 d2 d3 d4 d5
          go_wp2_with fail
          go_roundw
          case rel => exact ⟨k + 1, by go_num, by omega, H2⟩
          case measure => simp [intOf]; omega
        · obtain rfl : n = k := by omega
          clear hlt hkn
          obtain ⟨D, hD⟩ : ∃ D, runD emptyD L n = D := ⟨_, rfl⟩
          have hDs := run_small L n
          rw [hD] at hDs HI
          obtain ⟨hDf, hDl⟩ := hDs
          clear hD
          go_wp2_with fail
          refine (tri_copy HI.out).mono ?_
          rintro en w2 ⟨cc, rfl, h2⟩
          have HI2 := Lib.hid (show ∃ E : HpD, E.faults ≤ 60 + 0 ∧ E.L.length ≤ 60 + 0 ∧ Tri W.heap.size W cc w1.heap.size p D D E w2 from ⟨D, by omega, by omega, h2⟩)
          clear h2 HI
          go_wp2_with fail
          go_loopw [9] (fun i wr => ∃ k : Nat, i = .int .i64 k ∧ k ≤ m ∧ Hid (∃ E : HpD, E.faults ≤ 60 + k ∧ E.L.length ≤ 60 + k ∧ Tri W.heap.size W cc w1.heap.size p D D E wr)) (fun i _ => m - (intOf i).toNat)
          case atStart => exact ⟨0, rfl, Nat.zero_le _, HI2⟩
          case round => as_aux_lemma =>
            clear HI2
            obtain ⟨k, rfl, hkn, HI2⟩ := hrel
            have hk0 : (0 : Int) ≤ (k : Int) := by omega
            by_cases hlt : k < m
            · have hk1 : (k : Int) < (m : Int) := by omega
              obtain ⟨E, hE1, hE2, hE⟩ := HI2.out
              have hEB : Below W.heap.size W wr := by obtain ⟨_, _, _, _, _, _, h⟩ := hE; exact h
              have hEB2 := hEB.trans ((below_alloc wr (.cells #[.slice none 0 0, .bool false, .int .i64 0] 34)).mono hEB.size)
              obtain ⟨b, oo, o, hLk, hmem, rfl, d0, d1, d2, d3, d4, d5⟩ := (HT.out _ hEB2).get (k := k) (by rw [HM.out]; exact hlt)
              have HC := Lib.hid (tri_same hE o (HP.out o hmem) (by omega) (by omega))
              have HN := Lib.hid (next_near E o)
              have HE := Lib.hid (And.intro hE1 hE2)
              obtain ⟨ok, obk, oc, oa, ob, ot⟩ := o
              simp only at d0 d1 d2 d3 d4 d5 HC
              clear hLk hmem hE hEB hEB2 hE1 hE2
              go_wp2_with fail
              refine HC.out.mono ?_
              rintro en w3 ⟨bb, rfl, h3⟩
              have H3 := Lib.hid h3
              clear h3 d0 d1 d2 d3 d4 d5
              go_wp2_with fail
              go_roundw
              case rel => exact ⟨k + 1, by go_num, by omega, Lib.hid ⟨_, by have := HN.out.2; have := HE.out.1; omega, by have := HN.out.1; have := HE.out.2; omega, H3.out⟩⟩
              case measure => simp [intOf]; omega
            · obtain rfl : m = k := by omega
              clear hlt hkn
              have HI3 := Lib.hid (show Two W.heap.size W cc w1.heap.size (runD D M 0) (runD D M 0) wr from by obtain ⟨E, _, _, hE⟩ := HI2.out; exact hE.two)
              clear HI2
              go_wp2_with fail
              go_loopw [10] (fun i wr => ∃ k : Nat, i = .int .i64 k ∧ k ≤ m ∧ Hid (Two W.heap.size W cc w1.heap.size (runD D M k) (runD D M k) wr)) (fun i _ => m - (intOf i).toNat)
              case atStart => exact ⟨0, rfl, Nat.zero_le _, HI3⟩
              case round => as_aux_lemma =>
                clear HI3
                obtain ⟨k, rfl, hkn, HI3⟩ := hrel
                have hk0 : (0 : Int) ≤ (k : Int) := by omega
                by_cases hlt : k < m
                · have hk1 : (k : Int) < (m : Int) := by omega
                  obtain ⟨b, oo, o, hLk, hmem, rfl, d0, d1, d2, d3, d4, d5⟩ := (HT.out _ (by obtain ⟨_, _, _, h⟩ := HI3.out; exact h)).get (k := k) (by rw [HM.out]; exact hlt)
                  have hfw := runD_few D M k
                  have HC := Lib.hid (two_same HI3.out o (HP.out o hmem) (by omega) (by omega) (by omega) (by omega))
                  rw [← runD_succ D hLk] at HC
                  obtain ⟨ok, obk, oc, oa, ob, ot⟩ := o
                  simp only at d0 d1 d2 d3 d4 d5 HC
                  clear hLk hmem hfw
                  go_wp2_with fail
                  refine HC.out.mono ?_
                  rintro en w2 ⟨bb, rfl, hbb, h2⟩
                  obtain rfl := hbb trivial
                  have H2 := Lib.hid h2
                  clear h2 d0 d1 d2 d3 d4 d5 hbb
                  go_wp2_with fail
                  go_roundw
                  case rel => exact ⟨k + 1, by go_num, by omega, H2⟩
                  case measure => simp [intOf]; omega
                · obtain rfl : m = k := by omega
                  clear hlt hkn
                  obtain ⟨DD, hDD⟩ : ∃ DD, runD D M m = DD := ⟨_, rfl⟩
                  have hfw := runD_few D M m
                  rw [hDD] at hfw HI3
                  have hfew : DD.L.length ≤ 200 := by omega
                  obtain ⟨ff, fx, hp, hlow⟩ := HI3.out
                  have HHp := Lib.hid hp.hp
                  have HRf := Lib.hid hp.rf
                  have HLow := Lib.hid hlow
                  obtain ⟨fl, hfl⟩ : ∃ fl, DD.faults = fl := ⟨_, rfl⟩
                  have HFl := Lib.hid hfl
                  have hx2 : wr.cell? ⟨w1.heap.size, 2, none⟩ = some (.int .i64 (fl : Int)) := by
                    obtain ⟨xv, xg, xcp, hx⟩ := hp.rf
                    rw [← hfl]; exact hx.cells.2.2.1
                  have HK := Lib.hid hfew
                  obtain ⟨nl, hnl⟩ : ∃ nl, (rowN 0 DD.L).length = nl := ⟨_, rfl⟩
                  have HNl := Lib.hid hnl
                  have HNs := Lib.hid (show nl ≤ 1000000 from by have := rowN_few 0 DD.L; omega)
                  clear hnl
                  clear hfw hDD hfl hp hlow HI3 hDf hDl hfew
                  have HQ := Lib.hid (fun X (hX : Below wr.heap.size wr X) => (hX.cell (p := ⟨w1.heap.size, 2, none⟩) (cell_lt hx2)).trans hx2)
                  have B0 := Lib.hid (below_drew wr)
                  have HHpd := Lib.hid (HHp.out.below B0.out)
                  go_wp2_with fail
                  clear hx2
                  go_region_held3 (fun w' => w'.cell? ⟨w1.heap.size, 2, none⟩ = some (.int .i64 (fl : Int)))
                    (first
                      | exact HQ.out _ B4.out
                      | exact HQ.out _ B3.out
                      | exact HQ.out _ B2.out
                      | exact HQ.out _ B1.out
                      | exact HQ.out _ B0.out)
                    (first
                      | (go_at_call 8; refine (awake_any _).mono ?_; rintro en w9 ⟨rfl, hb4⟩; have B4 := Lib.hid (B3.out.trans (hb4.mono B3.out.size)); clear hb4)
                      | (go_at_call 15; refine (rsame_yes _ _ _ _ _ _ _ HLa.out HLb.out HNs.out).mono ?_; rintro en w8 ⟨rfl, hb3⟩; have B3 := Lib.hid (B2.out.trans (hb3.mono B2.out.size)); clear hb3)
                      | (go_at_call 17; refine (rblocks_told _ (HRf.out.below B1.out) HNl.out).mono ?_; rintro en w7 ⟨qb, cb, rfl, lb, bb⟩; have B2 := Lib.hid (B1.out.trans (bb.mono B1.out.size)); have HLb := Lib.hid lb; have HLa := Lib.hid (HLa.out.below bb); clear lb bb)
                      | (go_at_call 16; refine (blocks_told HBl.out _ HHpd.out HK.out HNl.out).mono ?_; rintro en w6 ⟨aa, ca, rfl, la, ba⟩; have HLa := Lib.hid la; have B1 := Lib.hid (B0.out.trans (ba.mono B0.out.size)); clear la ba)
                      | (go_at_call 11; refine (faults_told _ HHpd.out HFl.out).mono ?_; rintro en w5 ⟨rfl, rfl⟩)
                      | fail)
                  go_wp2_with fail
                  go_ret
                  exact Says.mk rfl (HLow.out.trans (B4.out.mono HHp.out.size))
end Go.Proofs.Yteggbkhlmehpmaa
