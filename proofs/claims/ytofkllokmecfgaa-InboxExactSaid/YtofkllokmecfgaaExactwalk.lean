/-
  The walk through InboxExact.
-/
import Derived.Test.YtofkllokmecfgaaExactst
namespace Go.Proofs.Ytofkllokmecfgaa
open Go Go.RowKit
attribute [local go_sem ↓] Go.wp_at_zero Go.wp_at_succ

/-- Between two rounds of InboxExact. -/
def ExR (B p r : Nat) (W : World) (k : Nat) (o : Bool) (pv gv : Value) (X : World) : Prop := ∃ P G L f, ExI B p r W o P G L pv gv f X ∧ P = G ++ L ∧ P.length ≤ k

set_option maxRecDepth 100000 in
set_option maxHeartbeats 8000000 in
theorem exact_walk (m : Nat) (pl : Option Addr) (nl cl : Nat) (O : List BD) (W : World) (hm : m ≤ 255) (hS : Sb W pl O) (hl : O.length = nl) (hfit : ∀ o ∈ O, o.fits) (hnm : nl ≤ 9223372036854775807) :
    Calls Try.prog 4 #[.int .u8 m, .slice pl nl cl] W (Says true W) := by
  by_cases hbig : 300 < nl
  · have hz : (300 : Int) < (nl : Int) := by omega
    clear hS hl hfit
    go_enter Try.func4, Try.ntmps4
    go_wp2_with fail
    refine (awake_any _).mono ?_
    rintro en w1 ⟨rfl, hb⟩
    have HB := Lib.hid hb
    clear hb
    go_wp2_with fail
    go_ret
    exact Says.mk rfl HB.out
  have hz : ¬ (300 : Int) < (nl : Int) := by omega
  obtain ⟨r, hr⟩ : ∃ r, clampD (m : Int) = r := ⟨_, rfl⟩
  have h64 : r ≤ 64 := by rw [← hr]; unfold clampD; omega
  have HO := Lib.hid (fun X (hX : Below W.heap.size W X) => hS.grow hX)
  have HN := Lib.hid hl
  have HFit := Lib.hid hfit
  clear hS hl hfit
  obtain ⟨i0, gi, gz0, gz1, gz2⟩ := info_parts info_change
  go_enter Try.func4, Try.ntmps4
  go_wp2_with fail
  refine (new_any m _).mono ?_
  rintro en w1 ⟨p, f1, rfl, h1, hb1⟩
  rw [hr] at h1
  have HI := Lib.hid (show ExR W.heap.size p r W 0 false _ _ _ from ⟨[], [], [], f1, ExI.start h1 hb1, rfl, Nat.le_refl _⟩)
  clear h1 hb1 hr
  go_wp2_with fail
  go_loopw [6, 7, 8, 9] (fun pv gv o i wr => ∃ (k : Nat) (ob : Bool), o = .bool ob ∧ i = .int .i64 k ∧ k ≤ nl ∧ Hid (ExR W.heap.size p r W k ob pv gv wr)) (fun _ _ _ i _ => nl - (intOf i).toNat)
  case atStart => exact ⟨0, false, rfl, rfl, Nat.zero_le _, HI⟩
  case round =>
    clear HI
    obtain ⟨k, ob, rfl, rfl, hkn, hI⟩ := hrel
    obtain ⟨P, G, L, f, hE, hPGL, hPk⟩ := hI.out
    have hlenP : P.length = G.length + L.length := by rw [hPGL, List.length_append]
    have hL64 : L.length ≤ 64 := by have := hE.box.len; omega
    obtain ⟨pa, pc, rfl⟩ := hE.pl.form
    obtain ⟨ga, gc, rfl⟩ := hE.gl.form
    obtain ⟨np, hnp⟩ : ∃ np, P.length = np := ⟨_, rfl⟩
    obtain ⟨ng, hng⟩ : ∃ ng, G.length = ng := ⟨_, rfl⟩
    obtain ⟨a1, a2, a3⟩ := hE.gl.room
    rw [hnp, hng] at hE
    rw [hng] at a1
    rw [hnp] at hPk
    rw [hnp, hng] at hlenP
    have HE := Lib.hid hE
    have HPGL := Lib.hid hPGL
    have HNP := Lib.hid hnp
    have HNG := Lib.hid hng
    have HLenP := Lib.hid hlenP
    rw [hnp, hng]
    clear hE hPGL hI hnp hng hlenP
    by_cases hlt : k < nl
    · have hkO : k < O.length := by rw [HN.out]; exact hlt
      have hltz : (k : Int) < (nl : Int) := by omega
      have h0 : (0 : Int) ≤ (k : Int) := by omega
      obtain ⟨ab, ao, rfl, e1, e2, e3, e4, e5⟩ := HO.out _ HE.out.low k hkO
      have hfit := HFit.out _ (List.getElem_mem hkO)
      have HS2 := Lib.hid (fun X (hX : Below W.heap.size W X) => (show X.cell? ⟨ab, ao + k * 5, none⟩ = some (.int .i64 O[k].kind) ∧ X.cell? ⟨ab, ao + k * 5 + 1, none⟩ = some (.int .i64 O[k].n) ∧ X.cell? ⟨ab, ao + k * 5 + 2, none⟩ = some (.string O[k].c.key) ∧ X.cell? ⟨ab, ao + k * 5 + 3, none⟩ = some (.bool O[k].c.has) ∧ X.cell? ⟨ab, ao + k * 5 + 4, none⟩ = some (.string O[k].c.val) from by
        obtain ⟨b', o', e, q⟩ := HO.out X hX k hkO
        cases e
        exact q))
      obtain ⟨⟨kd, n, ⟨ck, ch, cv⟩⟩, hy⟩ : ∃ y, O[k] = y := ⟨_, rfl⟩
      rw [hy] at e1 e2 e3 e4 e5 hfit HS2
      simp only at e1 e2 e3 e4 e5 HS2
      have HFc := Lib.hid (show (⟨ck, ch, cv⟩ : ChD).fits from hfit.2.2.2.2)
      clear hy hkO hfit
      by_cases hk1 : kd = 1
      · subst hk1
        by_cases hgone : L = [] ∧ ob = true
        · obtain ⟨rfl, rfl⟩ := hgone
          have HI2 := Lib.hid (show ExR W.heap.size p r W (k + 1) true (.slice pa np pc) (.slice ga ng gc) wr from ⟨P, G, [], f, HE.out, HPGL.out, by rw [HNP.out]; omega⟩)
          go_wp2_with fail
          refine (take_gone W.heap.size p r n f _ HE.out.box).mono ?_
          rintro en w2 ⟨rfl, rfl⟩
          go_wp2_with (at_builtin; refine wpList_append_zero rfl _ _ 26 rfl 31 i0 Try.underlying26 gi ga none ng gc _ rfl rfl a1 a3 a2 ?_)
          go_roundw
          case rel => exact ⟨k + 1, true, rfl, by go_num, by omega, HI2⟩
          case measure => simp [intOf]; omega
        · have hno : ob = true → L ≠ [] := fun h1 h2 => hgone ⟨h2, h1⟩
          obtain ⟨k1, hk1⟩ : ∃ k1, takeN n L.length = k1 := ⟨_, rfl⟩
          have hk1L : k1 ≤ L.length := by rw [← hk1]; exact takeN_le _ _
          have HK1 := Lib.hid hk1
          clear hk1 hgone
          by_cases hk0 : k1 = 0
          · subst hk0
            go_wp2_with fail
            refine (take_is W.heap.size p r ob L n f _ HE.out.box hno 0 [] L HK1.out rfl rfl).mono ?_
            rintro en w2 ⟨q, f2, rfl, h2, s2, hq⟩
            have HE2 := Lib.hid (HE.out.turn h2 s2)
            have HI2 := Lib.hid (show ExR W.heap.size p r W (k + 1) ob (.slice pa np pc) (.slice ga ng gc) w2 from ⟨P, G, L, f2, HE2.out, HPGL.out, by rw [HNP.out]; omega⟩)
            clear h2 s2 hq e1 e2 e3 e4 e5
            go_wp2_with (at_builtin; refine wpList_append_zero rfl _ _ 26 rfl 31 i0 Try.underlying26 gi ga q ng gc _ rfl rfl a1 a3 a2 ?_)
            go_roundw
            case rel => exact ⟨k + 1, ob, rfl, by go_num, by omega, HI2⟩
            case measure => simp [intOf]; omega
          · go_wp2_with fail
            refine (take_is W.heap.size p r ob L n f _ HE.out.box hno k1 (L.take k1) (L.drop k1) HK1.out rfl rfl).mono ?_
            rintro en w2 ⟨q, f2, rfl, h2, s2, hq⟩
            have HE2 := Lib.hid (HE.out.turn h2 s2)
            obtain ⟨bq, oq, rfl⟩ := hq.addr (by rw [List.length_take]; omega)
            have hQ := Lib.hid hq.news
            have hdl := Lib.hid (show (flatC (L.take k1)).length = k1 * 3 from by rw [flatC_length, List.length_take, Nat.min_eq_left hk1L])
            have hng4 := Lib.hid (show (G ++ L.take k1).length = ng + k1 from by rw [List.length_append, HNG.out, List.length_take, Nat.min_eq_left hk1L])
            have HGL := Lib.hid (show Lot w2 31 3 (.slice ga ng gc) ng (flatC G) from by have := HE2.out.gl; rwa [HNG.out] at this)
            have hpos : 0 < k1 := by omega
            have hmx : ng + k1 ≤ maxLen := by have := HLenP.out; unfold maxLen; omega
            have hmb : (ng + k1) * 40 ≤ 140737488355328 := by have := HLenP.out; omega
            clear h2 s2 hq e1 e2 e3 e4 e5
            go_wp2_with (at_builtin; refine wpList_append_lot _ rfl _ _ 26 rfl 31 i0 _ 3 40 Try.underlying26 gi gz0 gz1 gz2 rfl (.slice ga ng gc) ng (flatC G) rfl HGL.out ⟨bq, oq, none⟩ k1 _ (flatC (L.take k1)) rfl hdl.out hQ.out (flatC_one _) hpos hmx hmb _ rfl ?_; intro g cap w4 hL4 hg4 hat4; have HE4 := Lib.hid (HE2.out.growG (T := L.take k1) (n := ng + k1) hng4.out hL4 hg4 hat4); clear hL4 hg4 hat4)
            have HI2 := Lib.hid (show ExR W.heap.size p r W (k + 1) ob (.slice pa np pc) (.slice (some ⟨g, 0, none⟩) (ng + k1) cap) w4 from ⟨P, G ++ L.take k1, L.drop k1, f2, HE4.out, by rw [List.append_assoc, List.take_append_drop]; exact HPGL.out, by rw [HNP.out]; omega⟩)
            go_roundw
            case rel => exact ⟨k + 1, ob, rfl, by go_num, by omega, HI2⟩
            case measure => simp [intOf]; omega
      · have hkz : (kd == 1) = false := by rw [beq_eq_false_iff_ne]; exact hk1
        obtain ⟨fu, hfu⟩ : ∃ fu, fullD r ob L = fu := ⟨_, rfl⟩
        have HFu := Lib.hid hfu
        clear hfu
        cases fu with
        | true =>
          have hp : pushD r ob L ⟨ck, ch, cv⟩ = L := by unfold pushD; rw [HFu.out]; rfl
          go_wp2_with fail
          refine (push_is W.heap.size p r ob L f ⟨ck, ch, cv⟩ _ HE.out.box HFc.out true L HFu.out hp).mono ?_
          rintro en w2 ⟨rfl, f2, h2, s2⟩
          have HI2 := Lib.hid (show ExR W.heap.size p r W (k + 1) true (.slice pa np pc) (.slice ga ng gc) w2 from ⟨P, G, L, f2, HE.out.turn h2 s2, HPGL.out, by rw [HNP.out]; omega⟩)
          clear h2 s2 e1 e2 e3 e4 e5 hp
          cases ob
          all_goals
            go_wp2_with fail
            go_roundw
            case rel => exact ⟨k + 1, true, rfl, by go_num, by omega, HI2⟩
            case measure => simp [intOf]; omega
        | false =>
          have hp : pushD r ob L ⟨ck, ch, cv⟩ = L ++ [⟨ck, ch, cv⟩] := by unfold pushD; rw [HFu.out]; rfl
          have hob : ob = false := by
            have e := HFu.out
            unfold fullD at e
            exact (Bool.or_eq_false_iff.1 e).1
          subst hob
          go_wp2_with fail
          refine (push_is W.heap.size p r false L f ⟨ck, ch, cv⟩ _ HE.out.box HFc.out false (L ++ [⟨ck, ch, cv⟩]) HFu.out hp).mono ?_
          rintro en w2 ⟨rfl, f2, h2, s2⟩
          have HE2 := Lib.hid (HE.out.turn h2 s2)
          obtain ⟨q1, q2, q3, q4, q5⟩ := HS2.out _ HE2.out.low
          have HE3 := Lib.hid (HE2.out.below (below_alloc w2 (.cells #[.string ck, .bool ch, .string cv] 31)))
          have HPL := Lib.hid (show Lot (w2.alloc (.cells #[.string ck, .bool ch, .string cv] 31)) 31 3 (.slice pa np pc) np (flatC P) from by have := HE3.out.pl; rwa [HNP.out] at this)
          have hnp4 := Lib.hid (show (P ++ [(⟨ck, ch, cv⟩ : ChD)]).length = np + 1 from by rw [List.length_append, HNP.out]; rfl)
          have hmx : np + 1 ≤ maxLen := by unfold maxLen; omega
          have hmb : (np + 1) * 40 ≤ 140737488355328 := by omega
          clear h2 s2 e1 e2 e3 e4 e5 hp
          go_wp2_with (at_builtin; refine wpList_append_lot _ rfl _ _ 26 rfl 31 i0 _ 3 40 Try.underlying26 gi gz0 gz1 gz2 rfl (.slice pa np pc) np (flatC P) rfl HPL.out ⟨w2.heap.size, 0, none⟩ 1 1 [.string ck, .bool ch, .string cv] rfl rfl (change_news w2 ck ch cv 31) (change_one ck ch cv) (by omega) hmx hmb _ rfl ?_; intro g cap w4 hL4 hg4 hat4; have HE4 := Lib.hid (HE3.out.growP (T := [⟨ck, ch, cv⟩]) (n := np + 1) hnp4.out hL4 hg4 hat4); clear hL4 hg4 hat4)
          have HI2 := Lib.hid (show ExR W.heap.size p r W (k + 1) false (.slice (some ⟨g, 0, none⟩) (np + 1) cap) (.slice ga ng gc) w4 from ⟨P ++ [⟨ck, ch, cv⟩], G, L ++ [⟨ck, ch, cv⟩], f2, HE4.out, by rw [HPGL.out, List.append_assoc], by rw [hnp4.out]; omega⟩)
          go_roundw
          case rel => exact ⟨k + 1, false, rfl, by go_num, by omega, HI2⟩
          case measure => simp [intOf]; omega
    · obtain rfl : nl = k := by omega
      clear hlt hkn
      by_cases hgone : L = [] ∧ ob = true
      · obtain ⟨rfl, rfl⟩ := hgone
        have hPG : P = G := by rw [HPGL.out, List.append_nil]
        have hnn : ng = np := by have := HLenP.out; simp at this; omega
        subst hPG hnn
        have hGs := HE.out.gl
        rw [HNP.out] at hGs
        have hPs := HE.out.pl
        rw [HNP.out] at hPs
        have HG := Lib.hid (hGs.sc HNP.out)
        have HP := Lib.hid (hPs.sc HNP.out)
        clear hGs hPs
        go_wp2_with fail
        refine (take_gone W.heap.size p r 1000 f _ HE.out.box).mono ?_
        rintro en w2 ⟨rfl, rfl⟩
        go_wp2_with (at_builtin; refine wpList_append_zero rfl _ _ 26 rfl 31 i0 Try.underlying26 gi ga none ng gc _ rfl rfl a1 a3 a2 ?_)
        refine (sameC_yes ga pa ng gc pc P _ HG.out HP.out HNP.out (by omega)).mono ?_
        rintro en w6 ⟨rfl, hb⟩
        have HE6 := Lib.hid (HE.out.below hb)
        clear hb
        go_wp2_with fail
        refine (over_any W.heap.size p r _ _ f _ HE6.out.box).mono ?_
        rintro en w7 ⟨rfl, rfl⟩
        go_wp2_with fail
        refine (awake_any _).mono ?_
        rintro en w7 ⟨rfl, hb⟩
        have HB := Lib.hid (HE6.out.low.trans (hb.mono HE6.out.size))
        clear hb
        go_wp2_with fail
        go_ret
        exact Says.mk rfl HB.out
      · have hno : ob = true → L ≠ [] := fun h1 h2 => hgone ⟨h2, h1⟩
        obtain ⟨k1, hk1⟩ : ∃ k1, L.length = k1 := ⟨_, rfl⟩
        rw [hk1] at HLenP hL64
        have hk2 : takeN 1000 L.length = k1 := by unfold takeN; omega
        have ht : L.take k1 = L := List.take_of_length_le (by omega)
        have hd : L.drop k1 = [] := List.drop_of_length_le (by omega)
        have HT := Lib.hid (take_is W.heap.size p r ob L 1000 f wr HE.out.box hno k1 L [] hk2 ht hd)
        have HK1 := Lib.hid hk1
        obtain rfl : np = ng + k1 := HLenP.out
        clear hk1 hk2 ht hd hgone hno
        by_cases hk0 : k1 = 0
        · subst hk0
          obtain rfl : L = [] := List.eq_nil_of_length_eq_zero HK1.out
          have hPG : P = G := by rw [HPGL.out, List.append_nil]
          subst hPG
          have hnz : ng + 0 = ng := rfl
          go_wp2_with fail
          refine HT.out.mono ?_
          rintro en w2 ⟨q, f2, rfl, h2, s2, hq⟩
          have HE2 := Lib.hid (HE.out.turn h2 s2)
          have hGs := HE2.out.gl
          rw [HNG.out] at hGs
          have hPs := HE2.out.pl
          rw [HNP.out] at hPs
          have HG := Lib.hid (hGs.sc HNP.out)
          have HP := Lib.hid (hPs.sc HNP.out)
          clear h2 s2 hq hGs hPs
          go_wp2_with (at_builtin; refine wpList_append_zero rfl _ _ 26 rfl 31 i0 Try.underlying26 gi ga q ng gc _ rfl rfl a1 a3 a2 ?_)
          go_wp2_with fail
          cases ob
          all_goals
            refine (sameC_yes ga pa ng gc pc P _ HG.out HP.out HNP.out (by omega)).mono ?_
            rintro en w6 ⟨rfl, hb⟩
            have HE6 := Lib.hid (HE2.out.below hb)
            clear hb
            go_wp2_with fail
            refine (over_any W.heap.size p r _ _ f2 _ HE6.out.box).mono ?_
            rintro en w7 ⟨rfl, rfl⟩
            go_wp2_with fail
            refine (awake_any _).mono ?_
            rintro en w7 ⟨rfl, hb⟩
            have HB := Lib.hid (HE6.out.low.trans (hb.mono HE6.out.size))
            clear hb
            go_wp2_with fail
            go_ret
            exact Says.mk rfl HB.out
        · go_wp2_with fail
          refine HT.out.mono ?_
          rintro en w2 ⟨q, f2, rfl, h2, s2, hq⟩
          have HE2 := Lib.hid (HE.out.turn h2 s2)
          obtain ⟨bq, oq, rfl⟩ := hq.addr (by rw [HK1.out]; omega)
          have hQ := Lib.hid hq.news
          have hdl := Lib.hid (show (flatC L).length = k1 * 3 from by rw [flatC_length, HK1.out])
          have hng4 := Lib.hid (show (G ++ L).length = ng + k1 from by rw [List.length_append, HNG.out, HK1.out])
          have HGL := Lib.hid (show Lot w2 31 3 (.slice ga ng gc) ng (flatC G) from by have := HE2.out.gl; rwa [HNG.out] at this)
          have hpos : 0 < k1 := by omega
          have hmx : ng + k1 ≤ maxLen := by unfold maxLen; omega
          have hmb : (ng + k1) * 40 ≤ 140737488355328 := by omega
          clear h2 s2 hq
          go_wp2_with (at_builtin; refine wpList_append_lot _ rfl _ _ 26 rfl 31 i0 _ 3 40 Try.underlying26 gi gz0 gz1 gz2 rfl (.slice ga ng gc) ng (flatC G) rfl HGL.out ⟨bq, oq, none⟩ k1 _ (flatC L) rfl hdl.out hQ.out (flatC_one _) hpos hmx hmb _ rfl ?_; intro g cap w4 hL4 hg4 hat4; have HE4 := Lib.hid (HE2.out.growG (T := L) (n := ng + k1) hng4.out hL4 hg4 hat4); clear hL4 hg4 hat4)
          have hGs := HE4.out.gl
          rw [hng4.out, ← HPGL.out] at hGs
          have hPs := HE4.out.pl
          rw [HNP.out] at hPs
          have HG := Lib.hid (hGs.sc HNP.out)
          have HP := Lib.hid (hPs.sc HNP.out)
          clear hGs hPs
          go_wp2_with fail
          cases ob
          all_goals
            refine (sameC_yes (some ⟨g, 0, none⟩) pa (ng + k1) cap pc P _ HG.out HP.out HNP.out (by omega)).mono ?_
            rintro en w6 ⟨rfl, hb⟩
            have HE6 := Lib.hid (HE4.out.below hb)
            clear hb
            go_wp2_with fail
            refine (over_any W.heap.size p r _ _ f2 _ HE6.out.box).mono ?_
            rintro en w7 ⟨rfl, rfl⟩
            go_wp2_with fail
            refine (awake_any _).mono ?_
            rintro en w7 ⟨rfl, hb⟩
            have HB := Lib.hid (HE6.out.low.trans (hb.mono HE6.out.size))
            clear hb
            go_wp2_with fail
            go_ret
            exact Says.mk rfl HB.out

end Go.Proofs.Ytofkllokmecfgaa
