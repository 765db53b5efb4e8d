/-
  The walk through HeapKeeps: the blocks are made.
-/
import Derived.Test.YteggbkhlmehpmaaKeepst
import Derived.Deep.DeepCutAuto
import Derived.Deep.CutBlock
namespace Go.Proofs.Yteggbkhlmehpmaa
open Go Go.RowKit
attribute [local go_sem ↓] Go.wp_at_zero Go.wp_at_succ

theorem u16_range (z : Int) : 0 ≤ IntKind.u16.wrap z ∧ IntKind.u16.wrap z ≤ 65535 := by
  simp [IntKind.wrap, IntKind.signed, IntKind.bits]; omega
theorem rem_is (z : Int) (s : Nat) (hs : 0 < s) : ∃ ci : Nat, (wrap64 (IntKind.u16.wrap z)).tmod (s : Int) = (ci : Int) ∧ ci < s := by
  obtain ⟨h1, h2⟩ := u16_range z
  obtain ⟨u, hu⟩ : ∃ u : Nat, IntKind.u16.wrap z = (u : Int) := ⟨(IntKind.u16.wrap z).toNat, by omega⟩
  rw [hu] at h1 h2 ⊢
  have hw : wrap64 (u : Int) = (u : Int) := by unfold wrap64; omega
  rw [hw]
  refine ⟨u % s, ?_, Nat.mod_lt _ hs⟩
  rw [Int.tmod_eq_emod_of_nonneg (by omega)]
  rfl
theorem rem_int (a n : Nat) (hn : 0 < n) : ∃ ot : Nat, ((a : Int) + 1).tmod (n : Int) = (ot : Int) ∧ ((a : Int) + 1) % (n : Int) = (ot : Int) ∧ ot < n := by
  refine ⟨(a + 1) % n, ?_, rfl, Nat.mod_lt _ hn⟩
  rw [Int.tmod_eq_emod_of_nonneg (by omega)]
  rfl
theorem make_is {B p : Nat} {D : HpD} {f : Nat → Prop} (W : World) (h : Hp W B p D f) (k s : Nat) (hk : D.L.length = k) (hk2 : k ≤ 1000) (hs : s ≤ 256) (t : ByteArray) (ht : t.size ≤ 100) :
    Calls Try.prog 18 #[.pointer (some ⟨p, 0, none⟩), .int .i64 (s : Int), .string t] W (HpR B p f W (.int .u64 ((k : Int) + 1)) (D.add ⟨List.replicate s 0, t, false⟩)) := by
  subst hk
  exact make_good W h (by omega) s hs t (by omega)
theorem faults_is {B p k : Nat} {D : HpD} {f : Nat → Prop} (W : World) (h : Hp W B p D f) (hk : D.faults = k) : Calls Try.prog 11 #[.pointer (some ⟨p, 0, none⟩)] W fun e W' => e = .returned (.int .i64 k) ∧ W = W' := by
  subst hk; exact faults_any W h
theorem size_is {B p : Nat} {D : HpD} {f : Nat → Prop} (W : World) (h : Hp W B p D f) (k s : Nat) (hk : k ≤ 1000) (hs : sizeAt D.L (k + 1) = s) :
    Calls Try.prog 13 #[.pointer (some ⟨p, 0, none⟩), .int .u64 ((k : Int) + 1)] W fun e W' => e = .returned (.int .i64 s) ∧ W' = W := by
  subst hs
  exact (size_any W h (k + 1) (by omega)).mono fun e W' ⟨h1, h2⟩ => ⟨h1, h2.symm⟩

set_option maxRecDepth 100000 in
set_option maxHeartbeats 40000000 in
theorem keeps_walk (pa : Option Addr) (n c : Nat) (S : List Nat) (pt : Option Addr) (nt ct : Nat) (T : List ByteArray) (po : Option Addr) (no co : Nat) (O : List OpD) (W : World)
    (hs : Su W pa S) (hl : S.length = n) (hn : n ≤ maxLen) (hS : ∀ x ∈ S, x ≤ 255) (ht : St W pt T) (htl : T.length = nt) (hnt : nt ≤ maxLen) (ho : So W po O) (hol : O.length = no) (hno : no ≤ maxLen) (hO : ∀ o ∈ O, o.fits) :
    Calls Try.prog 4 #[.slice pa n c, .slice pt nt ct, .slice po no co] W (Says true W) := by
  have hn' : (n : Int) ≤ 9223372036854775807 := by simp [maxLen] at hn; omega
  have hnt' : (nt : Int) ≤ 9223372036854775807 := by simp [maxLen] at hnt; omega
  have hno' : (no : Int) ≤ 9223372036854775807 := by simp [maxLen] at hno; omega
  have HFew := Lib.hid (few_any po no co 60 O W ho hol hno (by omega))
  have HS := Lib.hid (fun X (hX : Below W.heap.size W X) => hs.grow hX)
  have HT := Lib.hid (fun X (hX : Below W.heap.size W X) => ht.grow hX)
  have HO := Lib.hid (fun X (hX : Below W.heap.size W X) => ho.grow hX)
  have HSl := Lib.hid hl
  have HTl := Lib.hid htl
  have HOl := Lib.hid hol
  have HS255 := Lib.hid hS
  have HOf := Lib.hid hO
  obtain ⟨r, hr⟩ : ∃ r, fewD O 60 = r := ⟨_, rfl⟩
  rw [hr] at HFew
  have HR := Lib.hid hr
  clear hs hl hn hS ht htl hnt ho hol hno hO hr
  by_cases hbig : 12 < n
  · have hz : (12 : Int) < (n : Int) := by omega
    clear HFew HS HT HO
    go_enter Try.func4, Try.ntmps4
    go_wp2_with fail
    refine (awake_any _).mono ?_
    rintro en w1 ⟨rfl, hb⟩
    have HB := Lib.hid hb
    clear hb
    go_wp2_with fail
    go_ret
    exact Says.mk rfl HB.out
  · have hz : (n : Int) ≤ 12 := by omega
    clear hn'
    cases r with
    | false =>
      go_enter Try.func4, Try.ntmps4
      go_wp2_with fail
      refine HFew.out.mono ?_
      rintro en w1 ⟨rfl, rfl⟩
      go_wp2_with fail
      refine (awake_any _).mono ?_
      rintro en w1 ⟨rfl, hb⟩
      have HB := Lib.hid hb
      clear hb
      go_wp2_with fail
      go_ret
      exact Says.mk rfl HB.out
    | true =>
      have hno2 : no ≤ 60 := by
        have := (fewD_texts HR.out (by omega)).1
        rw [HOl.out] at this; exact this
      have hno3 : (no : Int) ≤ 60 := by omega
      obtain ⟨i0, gi, gz0, gz1, gz2⟩ := info_parts info_u64
      have hmix : Try.prog.follows .mixedOrders = true := by kernel_rfl
      clear hno' hbig
      go_enter Try.func4, Try.ntmps4
      go_wp2_with fail
      refine HFew.out.mono ?_
      rintro en w1 ⟨rfl, rfl⟩
      go_wp2_with fail
      refine (new_any _).mono ?_
      rintro en w1 ⟨p, f1, rfl, h1, hb1⟩
      have HI := Lib.hid (KpI.start h1 hb1)
      clear h1 hb1 HFew
      go_wp2_with fail
      go_loopw [8, 9] (fun v i wr => ∃ (k g cap : Nat) (f : Nat → Prop) (D : HpD), v = .slice (some ⟨g, 0, none⟩) k cap ∧ i = .int .i64 k ∧ k ≤ n ∧ Hid (KpI W.heap.size W p k g cap f D wr) ∧ Hid (KeepD S T k D)) (fun _ i _ => n - (intOf i).toNat)
      case atStart => exact ⟨0, _, 0, f1, emptyD, rfl, rfl, Nat.zero_le _, HI, Lib.hid (KeepD.start S T)⟩
      case round => as_aux_lemma =>
        clear HI
        obtain ⟨k, g, cap, f, D, rfl, rfl, hkn, HI, HD⟩ := hrel
        have hk0 : (0 : Int) ≤ (k : Int) := by omega
        by_cases hlt : k < n
        · have hk1 : (k : Int) < (n : Int) := by omega
          have hk12 : (k : Int) ≤ 12 := by omega
          have hkS : k < S.length := by rw [HSl.out]; exact hlt
          obtain ⟨ba, oa, rfl, hc⟩ := HS.out _ HI.out.low k hkS
          obtain ⟨s, hsx⟩ : ∃ s, S[k]'hkS = s := ⟨_, rfl⟩
          have hs255 : s ≤ 255 := by rw [← hsx]; exact HS255.out _ (List.getElem_mem hkS)
          have HSD := Lib.hid (show S.getD k 0 = s from by rw [← hsx]; simp [hkS])
          have HCell := Lib.hid (show ∀ X, Below W.heap.size W X → X.cell? ⟨ba, oa + k, none⟩ = some (.int .u8 (s : Int)) from fun X hX => by
            obtain ⟨b2, o2, e2, c2⟩ := HS.out X hX k hkS
            cases e2
            rw [← hsx]; exact c2)
          rw [hsx] at hc
          have hs0 : (0 : Int) ≤ (s : Int) := by omega
          have hs1 : (s : Int) ≤ 255 := by omega
          clear hsx hkS
          have HAdd := Lib.hid (fun tx (htx : txt T k = tx) => HD.out.add HSD.out htx)
          have hzk : (((k : Int) + 1) == 0) = false := by rw [beq_eq_false_iff_ne]; omega
          obtain ⟨tx, htx⟩ : ∃ tx, txt T k = tx := ⟨_, rfl⟩
          have HTx := Lib.hid htx
          clear htx
          obtain ⟨bk, hway⟩ : ∃ bk : Bool, (bk = true ∧ k < nt ∧ ∃ hkt : k < T.length, T[k].size ≤ 50) ∨ (bk = false ∧ k < nt ∧ ∃ hkt : k < T.length, ¬ T[k].size ≤ 50) ∨ (bk = false ∧ ¬ k < nt) := by
            have := HTl.out
            by_cases h : k < nt
            · by_cases h2 : (T[k]'(by omega)).size ≤ 50
              · exact ⟨true, .inl ⟨rfl, h, by omega, h2⟩⟩
              · exact ⟨false, .inr (.inl ⟨rfl, h, by omega, h2⟩)⟩
            · exact ⟨false, .inr (.inr ⟨rfl, h⟩)⟩
          have HWay := Lib.hid hway
          clear hway
          go_upto_region 9 with fail
          go_cut [51] (fun s51 wx => wr = wx ∧ s51 = .bool bk)
          case first => as_aux_lemma =>
            clear hc
            rcases HWay.out with ⟨rfl, hk2, hkt, h50⟩ | ⟨rfl, hk2, hkt, h50⟩ | ⟨rfl, hk2⟩
            · obtain ⟨bt, ot, rfl, hct⟩ := HT.out _ HI.out.low k hkt
              obtain ⟨ty, hty⟩ : ∃ ty, T[k]'hkt = ty := ⟨_, rfl⟩
              rw [hty] at hct h50
              have hk3 : (k : Int) < (nt : Int) := by omega
              have h51 : (ty.size : Int) ≤ 50 := by omega
              clear hty
              go_wp2_with fail
              go_meet
              case rel => exact ⟨rfl, rfl⟩
            · obtain ⟨bt, ot, rfl, hct⟩ := HT.out _ HI.out.low k hkt
              obtain ⟨ty, hty⟩ : ∃ ty, T[k]'hkt = ty := ⟨_, rfl⟩
              rw [hty] at hct h50
              have hk3 : (k : Int) < (nt : Int) := by omega
              have h51 : ¬ (ty.size : Int) ≤ 50 := by omega
              clear hty
              go_wp2_with fail
              go_meet
              case rel => exact ⟨rfl, rfl⟩
            · have hk3 : ¬ (k : Int) < (nt : Int) := by omega
              go_wp2_with fail
              go_meet
              case rel => exact ⟨rfl, rfl⟩
          case rest => as_aux_lemma =>
            obtain ⟨rfl, rfl⟩ := hcut
            go_upto_if 51 with fail
            go_cut [10] (fun s10 wx => wr = wx ∧ s10 = .string tx)
            case first => as_aux_lemma =>
              clear hc
              rcases HWay.out with ⟨rfl, hk2, hkt, h50⟩ | ⟨rfl, hk2, hkt, h50⟩ | ⟨rfl, hk2⟩
              · obtain ⟨bt, ot, rfl, hct⟩ := HT.out _ HI.out.low k hkt
                have e := HTx.out
                rw [txt_hit hkt h50] at e
                rw [e] at hct
                have hk3 : (k : Int) < (nt : Int) := by omega
                clear e h50
                go_wp2_with fail
                go_meet
                case rel => exact ⟨rfl, rfl⟩
              · have e : (⟨#[]⟩ : ByteArray) = tx := by rw [← HTx.out]; exact (txt_long hkt h50).symm
                clear h50
                subst e
                go_wp2_with fail
                go_meet
                case rel => exact ⟨rfl, rfl⟩
              · have e : (⟨#[]⟩ : ByteArray) = tx := by rw [← HTx.out]; exact (txt_none (by rw [HTl.out]; exact hk2)).symm
                subst e
                go_wp2_with fail
                go_meet
                case rel => exact ⟨rfl, rfl⟩
            case rest => as_aux_lemma =>
              obtain ⟨rfl, rfl⟩ := hcut
              go_wp2_with fail
              refine (make_is wr HI.out.hp k s HD.out.len (by omega) (by omega) tx (by have := txt_size T k; rw [HTx.out] at this; omega)).mono ?_
              rintro en w2 ⟨f2, rfl, h2, s2⟩
              have H2 := Lib.hid (HI.out.turn h2 s2)
              have HK2 := Lib.hid (HAdd.out tx HTx.out)
              clear h2 s2 hc
              have HSz := Lib.hid (fun Y (hY : Below w2.heap.size w2 Y) => size_is Y (H2.out.hp.below hY) k s (by omega) ((HK2.out.size (j := k) (by omega)).trans HSD.out))
              have hc2 := HCell.out _ H2.out.low
              go_wp2_with fail
              go_quiet ((go_at_call 13; exact Calls.quiet_of_same (HSz.out _ (below_draws w2 _))))
              rename_i nq
              have H3 := Lib.hid (H2.out.below (below_draws w2 nq))
              clear hc2 HSz
              go_wp2_with fail
              go_loop [12] (fun i2 => ∃ j : Nat, i2 = .int .i64 j ∧ j ≤ k) (fun i2 => k - (intOf i2).toNat)
              case atStart => exact ⟨0, rfl, Nat.zero_le _⟩
              case round => as_aux_lemma =>
                obtain ⟨j, rfl, hjk⟩ := hrel
                have hj0 : (0 : Int) ≤ (j : Int) := by omega
                by_cases hj : j < k
                · have hj1 : (j : Int) < (k : Int) := by omega
                  have hcj := H3.out.cell hj
                  have hne : (((j : Int) + 1) == ((k : Int) + 1)) = false := by rw [beq_eq_false_iff_ne]; omega
                  clear hj
                  go_wp2_with fail
                  go_round
                  case rel => exact ⟨j + 1, by go_num, by omega⟩
                  case measure => simp [intOf]; omega
                · obtain rfl : k = j := by omega
                  clear hj hjk
                  have hE1 : k + 1 ≤ maxLen := by unfold maxLen; omega
                  have hE2 : (k + 1) * 8 ≤ 140737488355328 := by omega
                  have HRow := Lib.hid ((H3.out.below (below_alloc _ (.cells #[.int .u64 ((k : Int) + 1)] 28))).row)
                  go_wp2_with (at_builtin; refine wpList_append_lot _ rfl _ _ 41 rfl 28 i0 _ 1 8 Try.underlying41 gi gz0 gz1 gz2 rfl (.slice (some ⟨g, 0, none⟩) k cap) k (nums k) rfl HRow.out ⟨(w2.drewN nq).heap.size, 0, none⟩ 1 1 [.int .u64 ((k : Int) + 1)] rfl rfl (cell_one_new _ _ _) (by simp [Value.oneCell']) (by omega) hE1 hE2 _ rfl ?_; intro g4 cap4 w4 hL4 hg4 hat4; have HI4 := Lib.hid (H3.out.grow hL4 hg4 hat4); clear hL4 hg4 hat4)
                  go_roundw
                  case rel => exact ⟨k + 1, g4, cap4, f2, _, rfl, by go_num, by omega, HI4, HK2⟩
                  case measure => simp [intOf]; omega
        · obtain rfl : k = n := by omega
          clear hlt hkn
          have hk12 : k ≤ 12 := by omega
          go_upto_block 4 with fail
          go_cut [] (fun wx => ∃ (f : Nat → Prop) (D : HpD), Hid (KpI W.heap.size W p k g cap f D wx) ∧ Hid (KeepD S T k D))
          case first => as_aux_lemma =>
            go_wp2_with fail
            go_loopw [13] (fun i wr => ∃ (j : Nat) (f : Nat → Prop) (D : HpD), i = .int .i64 j ∧ j ≤ no ∧ Hid (KpI W.heap.size W p k g cap f D wr) ∧ Hid (KeepD S T k D)) (fun i _ => no - (intOf i).toNat)
            case atStart => exact ⟨0, f, D, rfl, Nat.zero_le _, HI, HD⟩
            case round => as_aux_lemma =>
              clear HI HD
              obtain ⟨j, f, D, rfl, hjn, HI, HD⟩ := hrel
              have hj0 : (0 : Int) ≤ (j : Int) := by omega
              by_cases hlt : j < no ∧ 0 < k
              · obtain ⟨hlt, hpos⟩ := hlt
                have hj1 : (j : Int) < (no : Int) := by omega
                have hk1 : (0 : Int) < (k : Int) := by omega
                have hjO : j < O.length := by rw [HOl.out]; exact hlt
                obtain ⟨bo, oo, rfl, -⟩ := HO.out _ HI.out.low j hjO
                obtain ⟨⟨ok, obk, oc, oa2, ob, otx⟩, hox⟩ : ∃ x, O[j]'hjO = x := ⟨_, rfl⟩
                have HOC := Lib.hid (show ∀ X, Below W.heap.size W X → X.cell? ⟨bo, oo + j * 6 + 1, none⟩ = some (.int .u64 (obk : Int)) ∧ X.cell? ⟨bo, oo + j * 6 + 2, none⟩ = some (.int .i64 oc) ∧ X.cell? ⟨bo, oo + j * 6 + 3, none⟩ = some (.int .u64 oa2) ∧ X.cell? ⟨bo, oo + j * 6 + 4, none⟩ = some (.int .u64 ob) from fun X hX => by
                  obtain ⟨b2, o2, e2, _, d1, d2, d3, d4, _⟩ := HO.out X hX j hjO
                  cases e2
                  rw [hox] at d1 d2 d3 d4
                  exact ⟨d1, d2, d3, d4⟩)
                clear hox hjO
                obtain ⟨z, hz0⟩ : ∃ z, (obk : Int) = z := ⟨_, rfl⟩
                obtain ⟨jt, hjt⟩ : ∃ jt : Nat, obk % k = jt := ⟨_, rfl⟩
                have hjtk : jt < k := by rw [← hjt]; exact Nat.mod_lt _ hpos
                have hzm : z % (k : Int) = (jt : Int) := by rw [← hz0, ← hjt]; rfl
                have hz2 : (0 : Int) ≤ z := by omega
                rw [hz0] at HOC
                obtain ⟨d1, d2, d3, d4⟩ := HOC.out _ HI.out.low
                clear hz0 hjt
                have hjt0 : (0 : Int) ≤ (jt : Int) := by omega
                have hjt1 : (jt : Int) < (k : Int) := by omega
                have hjt2 : (jt : Int) ≤ 12 := by omega
                have hSj : jt < S.length := by rw [HSl.out]; exact hjtk
                obtain ⟨ba, oa, rfl, hc⟩ := HS.out _ HI.out.low jt hSj
                obtain ⟨s, hsx⟩ : ∃ s, S[jt]'hSj = s := ⟨_, rfl⟩
                have hs255 : s ≤ 255 := by rw [← hsx]; exact HS255.out _ (List.getElem_mem hSj)
                have HSD := Lib.hid (show S.getD jt 0 = s from by rw [← hsx]; simp [hSj])
                rw [hsx] at hc
                have hs0 : (0 : Int) ≤ (s : Int) := by omega
                have hs1 : (s : Int) ≤ 255 := by omega
                clear hsx hSj
                by_cases hsz : s = 0
                · have hsb : ((s : Int) == 0) = true := by rw [beq_iff_eq]; omega
                  clear hsz
                  go_wp2_with fail
                  go_roundw
                  case rel => exact ⟨j + 1, f, D, by go_num, by omega, HI, HD⟩
                  case measure => simp [intOf]; omega
                · have hsb : ((s : Int) == 0) = false := by rw [beq_eq_false_iff_ne]; omega
                  have hsp : (0 : Int) < (s : Int) := by omega
                  have hsn : 0 < s := by omega
                  clear hsz
                  obtain ⟨ci, hci, hcis⟩ := rem_is oc s hsn
                  obtain ⟨jo, hjo1, hjo2, hjok⟩ := rem_int jt k hpos
                  have HSpot := Lib.hid (show ci < S.getD jt 0 from by rw [HSD.out]; exact hcis)
                  have hci0 : (0 : Int) ≤ (ci : Int) := by omega
                  have hjo0 : (0 : Int) ≤ (jo : Int) := by omega
                  have hjo3 : (jo : Int) < (k : Int) := by omega
                  clear hcis
                  have hcg := HI.out.cell hjtk
                  go_wp2_with fail
                  go_still_tail 11, hmix
                  change wpList _ _ _ _ _ wr.drew
                  have H1 := Lib.hid (HI.out.below (below_drew wr))
                  go_wp2_with fail
                  refine (kstore H1.out.hp HD.out hjtk HSpot.out (by omega) oa2).mono ?_
                  rintro en w2 ⟨f2, rfl, h2, s2⟩
                  have H2 := Lib.hid (H1.out.turn h2 s2)
                  have HD2 := Lib.hid (HD.out.word (i := ci) oa2 hjtk)
                  have HW2 := Lib.hid (HD.out.stored (i := ci) oa2 hjtk HSpot.out)
                  clear h2 s2 d1 d2 d3 d4 hc
                  obtain ⟨bas, oas, ebas, hc2⟩ := HS.out _ H2.out.low jo (by rw [HSl.out]; exact hjok)
                  cases ebas
                  obtain ⟨so, hso⟩ : ∃ so, S[jo]'(by rw [HSl.out]; exact hjok) = so := ⟨_, rfl⟩
                  have hso255 : so ≤ 255 := by rw [← hso]; exact HS255.out _ (List.getElem_mem _)
                  have HSO := Lib.hid (show S.getD jo 0 = so from by rw [← hso]; simp [HSl.out, hjok])
                  rw [hso] at hc2
                  clear hso
                  have hso0 : (0 : Int) ≤ (so : Int) := by omega
                  have hso1 : (so : Int) ≤ 255 := by omega
                  generalize hD2 : D.word (jt + 1) (ci : Int) oa2 = D2 at HD2 HW2 H2
                  clear hD2
                  obtain ⟨bb, hbb⟩ : ∃ bb : Bool, (bb = true ∧ jo ≠ jt ∧ 0 < so) ∨ (bb = false ∧ jo ≠ jt ∧ so = 0) ∨ (bb = false ∧ jo = jt) := by
                    by_cases h1 : jo = jt
                    · exact ⟨false, .inr (.inr ⟨rfl, h1⟩)⟩
                    · by_cases h2 : 0 < so
                      · exact ⟨true, .inl ⟨rfl, h1, h2⟩⟩
                      · exact ⟨false, .inr (.inl ⟨rfl, h1, by omega⟩)⟩
                  have HBw := Lib.hid hbb
                  clear hbb
                  go_upto_region 30 with fail
                  go_cut [17, 158] (fun s17 s158 wx => w2 = wx ∧ s158 = .bool bb ∧ s17 = .int .i64 (jo : Int))
                  case first => as_aux_lemma =>
                    rcases HBw.out with ⟨rfl, hjne, hso2⟩ | ⟨rfl, hjne, hso2⟩ | ⟨rfl, hje⟩
                    · have hjne1 : ((jo : Int) == (jt : Int)) = false := by rw [beq_eq_false_iff_ne]; omega
                      have hso3 : (0 : Int) < (so : Int) := by omega
                      go_wp2_with fail
                      go_meet
                      case rel => exact ⟨rfl, by first | rfl | simp [bne, hjne1], rfl⟩
                    · have hjne1 : ((jo : Int) == (jt : Int)) = false := by rw [beq_eq_false_iff_ne]; omega
                      have hso3 : ¬ (0 : Int) < (so : Int) := by omega
                      go_wp2_with fail
                      go_meet
                      case rel => exact ⟨rfl, rfl, rfl⟩
                    · have hjne1 : ((jo : Int) == (jt : Int)) = true := by rw [beq_iff_eq]; omega
                      have hjne2 : ((jo : Int) != (jt : Int)) = false := by rw [bne, hjne1]; rfl
                      have HJe := Lib.hid hje
                      clear hje
                      go_wp2_with fail
                      go_meet
                      case rel => exact ⟨rfl, rfl, by first | rfl | rw [HJe.out]⟩
                  case rest => as_aux_lemma =>
                    obtain ⟨rfl, rfl, rfl⟩ := hcut
                    clear hc2
                    go_upto_if 158 with fail
                    go_cut [] (fun wx => ∃ (f5 : Nat → Prop) (D5 : HpD), Hid (KpI W.heap.size W p k g cap f5 D5 wx) ∧ Hid (KeepD S T k D5) ∧ Hid (wordAt D5.L (jt + 1) (ci : Int) = oa2))
                    case first => as_aux_lemma =>
                      rcases HBw.out with ⟨rfl, hjne, hso2⟩ | ⟨rfl, hjne, hso2⟩ | ⟨rfl, hje⟩
                      · have hcg2 := H2.out.cell hjok
                        obtain ⟨d1, d2, d3, d4⟩ := HOC.out _ H2.out.low
                        go_wp2_with fail
                        go_still_tail 10, hmix
                        change wpList _ _ _ _ _ w2.drew
                        have H3 := Lib.hid (H2.out.below (below_drew w2))
                        go_wp2_with fail
                        refine (kbump H3.out.hp HD2.out hjok (by rw [HSO.out]; exact hso2) (by omega) ob).mono ?_
                        rintro en w4 ⟨vv, f4, rfl, h4, s4⟩
                        have H4 := Lib.hid (H3.out.turn h4 s4)
                        have HD4 := Lib.hid (HD2.out.word (i := 0) (IntKind.u64.wrap (wordAt D2.L (jo + 1) 0 + ob)) hjok)
                        have HW4 := Lib.hid ((HD2.out.other (i := ci) (i' := 0) (IntKind.u64.wrap (wordAt D2.L (jo + 1) 0 + ob)) hjok (Ne.symm hjne)).trans HW2.out)
                        generalize D2.word (jo + 1) ((0 : Nat) : Int) (IntKind.u64.wrap (wordAt D2.L (jo + 1) 0 + ob)) = D5 at H4 HD4 HW4
                        clear h4 s4 hcg2 d1 d2 d3 d4
                        go_wp2_with fail
                        go_meet
                        case rel => exact ⟨f4, D5, H4, HD4, HW4⟩
                      · go_wp2_with fail
                        go_meet
                        case rel => exact ⟨f2, D2, H2, HD2, HW2⟩
                      · clear hje
                        go_wp2_with fail
                        go_meet
                        case rel => exact ⟨f2, D2, H2, HD2, HW2⟩
                    case rest => as_aux_lemma =>
                      obtain ⟨f5, D5, H5, HD5, HW5⟩ := hcut
                      clear H2 HD2 HW2
                      have hcg5 := H5.out.cell hjtk
                      obtain ⟨tw, htw⟩ : ∃ tw, txt T jt = tw := ⟨_, rfl⟩
                      have HTw := Lib.hid htw
                      clear htw
                      go_wp2_with fail
                      refine (kload H5.out.hp HD5.out hjtk HSpot.out (by omega) HW5.out).mono ?_
                      rintro en w6 ⟨f6, rfl, h6, s6⟩
                      have H6 := Lib.hid (H5.out.turn h6 s6)
                      clear h6 s6 hcg5
                      have hcg6 := H6.out.cell hjtk
                      go_wp2_with fail
                      refine (kwords H6.out.hp HD5.out hjtk (by omega) HTw.out).mono ?_
                      rintro en w7 ⟨f7, rfl, h7, s7⟩
                      have H7 := Lib.hid (H6.out.turn h7 s7)
                      clear h7 s7 hcg6
                      obtain ⟨d1, d2, d3, d4⟩ := HOC.out _ H7.out.low
                      clear d1 d2 d4
                      obtain ⟨ww, hww⟩ : ∃ ww : Nat, (ww = 1 ∧ jt < nt ∧ ∃ hkt : jt < T.length, T[jt].size ≤ 50) ∨ (ww = 2 ∧ jt < nt ∧ ∃ hkt : jt < T.length, ¬ T[jt].size ≤ 50) ∨ (ww = 3 ∧ ¬ jt < nt) := by
                        have := HTl.out
                        by_cases h : jt < nt
                        · by_cases h2 : (T[jt]'(by omega)).size ≤ 50
                          · exact ⟨1, .inl ⟨rfl, h, by omega, h2⟩⟩
                          · exact ⟨2, .inr (.inl ⟨rfl, h, by omega, h2⟩)⟩
                        · exact ⟨3, .inr (.inr ⟨rfl, h⟩)⟩
                      have HWw := Lib.hid hww
                      clear hww
                      go_upto_region 34 with fail
                      go_cut [225] (fun s225 wx => w7 = wx ∧ s225 = .bool false)
                      case first => as_aux_lemma =>
                        rcases HWw.out with ⟨-, hkt2, hkt, h50⟩ | ⟨-, hkt2, hkt, h50⟩ | ⟨-, hkt2⟩
                        · have hkt3 : (jt : Int) < (nt : Int) := by omega
                          obtain ⟨bt, ot, ept, hct⟩ := HT.out _ H7.out.low jt hkt
                          cases ept
                          have e := HTw.out
                          rw [txt_hit hkt h50] at e
                          rw [e] at hct h50
                          have h51 : (tw.size : Int) ≤ 50 := by omega
                          clear e hkt2 hkt
                          go_wp2_with fail
                          go_meet
                          case rel => exact ⟨rfl, rfl⟩
                        · have hkt3 : (jt : Int) < (nt : Int) := by omega
                          obtain ⟨bt, ot, ept, hct⟩ := HT.out _ H7.out.low jt hkt
                          cases ept
                          obtain ⟨ty, hty⟩ : ∃ ty, T[jt] = ty := ⟨_, rfl⟩
                          rw [hty] at hct h50
                          have h51 : ¬ (ty.size : Int) ≤ 50 := by omega
                          clear hty hkt2 hkt
                          go_wp2_with fail
                          go_meet
                          case rel => exact ⟨rfl, rfl⟩
                        · have hkt3 : ¬ (jt : Int) < (nt : Int) := by omega
                          clear hkt2
                          go_wp2_with fail
                          go_meet
                          case rel => exact ⟨rfl, rfl⟩
                      case rest => as_aux_lemma =>
                        obtain ⟨rfl, rfl⟩ := hcut
                        clear d3
                        go_wp2_with fail
                        go_roundw
                        case rel => exact ⟨j + 1, _, _, by go_num, by omega, H7, HD5⟩
                        case measure => simp [intOf]; omega
              · have hex : (¬ (j : Int) < (no : Int)) ∨ ((j : Int) < (no : Int) ∧ ¬ (0 : Int) < (k : Int)) := by omega
                clear hlt
                rcases hex with hz1 | ⟨hz1, hz2⟩
                all_goals
                  go_wp2_with fail
                  go_meet
                  case rel => exact ⟨f, D, HI, HD⟩
          case rest => as_aux_lemma =>
            clear HI HD
            obtain ⟨f, D, HI, HD⟩ := hcut
            have HG0 := Lib.hid HD.out.toGone
            clear HD
            go_wp2_with fail
            go_loopw [22] (fun i wr => ∃ (q : Nat) (f : Nat → Prop) (D : HpD), i = .int .i64 q ∧ q ≤ k ∧ Hid (KpI W.heap.size W p k g cap f D wr) ∧ Hid (GoneD k q D)) (fun i _ => k - (intOf i).toNat)
            case atStart => exact ⟨0, f, D, rfl, Nat.zero_le _, HI, HG0⟩
            case round => as_aux_lemma =>
              clear HI HG0
              obtain ⟨q, f, D, rfl, hqk, HI, HG⟩ := hrel
              have hq0 : (0 : Int) ≤ (q : Int) := by omega
              by_cases hq : q < k
              · have hq1 : (q : Int) < (k : Int) := by omega
                have hcq := HI.out.cell hq
                go_wp2_with fail
                refine (kdrop HI.out.hp HG.out hq (by omega)).mono ?_
                rintro en w2 ⟨f2, rfl, h2, s2⟩
                have H2 := Lib.hid (HI.out.turn h2 s2)
                clear h2 s2 hcq
                have hcq2 := H2.out.cell hq
                go_wp2_with fail
                refine (kdrop2 H2.out.hp HG.out hq (by omega)).mono ?_
                rintro en w3 ⟨f3, rfl, h3, s3⟩
                have H3 := Lib.hid (H2.out.turn h3 s3)
                have HG3 := Lib.hid (HG.out.drop hq).2.2.2.2.2
                clear h3 s3 hcq2
                go_wp2_with fail
                go_roundw
                case rel => exact ⟨q + 1, f3, _, by go_num, by omega, H3, HG3⟩
                case measure => simp [intOf]; omega
              · obtain rfl : k = q := by omega
                clear hq hqk
                have HFl := Lib.hid HG.out.faults
                go_wp2_with fail
                refine (blocks_none _ HI.out.hp HG.out.none).mono ?_
                rintro en w2 ⟨rfl, hb⟩
                have H2 := Lib.hid (HI.out.below hb)
                clear hb
                go_wp2_with fail
                refine (faults_is _ H2.out.hp HFl.out).mono ?_
                rintro en w3 ⟨rfl, rfl⟩
                go_wp2_with fail
                refine (awake_any _).mono ?_
                rintro en w3 ⟨rfl, hb⟩
                have HB := Lib.hid (H2.out.low.trans (hb.mono H2.out.hp.size))
                clear hb
                go_wp2_with fail
                go_ret
                exact Says.mk rfl HB.out

end Go.Proofs.Yteggbkhlmehpmaa
