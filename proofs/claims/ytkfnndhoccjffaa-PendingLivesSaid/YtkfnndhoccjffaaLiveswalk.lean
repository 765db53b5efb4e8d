/-
  The walk through PendingLives.
-/
import Derived.Test.YtkfnndhoccjffaaLivest
namespace Go.Proofs.Ytkfnndhoccjffaa
open Go Go.RowKit
attribute [local go_sem ↓] Go.wp_at_zero Go.wp_at_succ

set_option maxRecDepth 100000 in
set_option maxHeartbeats 16000000 in
theorem lives_walk (most : Int) (pa pd : Option Addr) (n c nd cd : Nat) (R : List EV) (E : List ED) (Ds : List DV) (w : World) (h : Se w pa R) (hn : R.length = n) (hE : Each (EntA w) R E) (hm : n ≤ 9223372036854775807)
    (hD : Sd w pd Ds) (hnd : Ds.length = nd) :
    Calls Try.prog 3 #[.int .i64 most, .slice pa n c, .slice pd nd cd] w (Says true w) := by
  have HFew := Lib.hid (few_any pa n c R E w h hn hE hm)
  have HS := Lib.hid (fun X (hX : Below w.heap.size w X) => h.grow hX)
  have HD := Lib.hid (fun (X : World) (hX : ∀ k, k < w.heap.size → X.heap[k]? = w.heap[k]?) => hD.keep hX)
  have HN := Lib.hid hn
  have HND := Lib.hid hnd
  have HE := Lib.hid hE
  obtain ⟨cl, hcl⟩ : ∃ cl, clampD most = cl := ⟨_, rfl⟩
  have HCl := Lib.hid hcl
  clear h hn hE hD hnd hcl
  obtain ⟨i0, gi, gz0, gz1, gz2⟩ := info_parts info_id
  go_enter Try.func3, Try.ntmps3
  go_wp2_with fail
  refine HFew.out.mono ?_
  rintro en w1 ⟨r, rfl, hb1, hyes⟩
  have HB1 := Lib.hid hb1
  clear hb1 HFew
  cases r with
  | false =>
    clear hyes
    go_wp2_with fail
    refine (awake_any _).mono ?_
    rintro en w2 ⟨rfl, hb2⟩
    have HB2 := Lib.hid (HB1.out.trans (hb2.mono HB1.out.size))
    clear hb2
    go_wp2_with fail
    go_ret
    exact Says.mk rfl HB2.out
  | true =>
    obtain ⟨h24, hfew⟩ := hyes rfl
    clear hyes
    by_cases hbig : nd ≤ 24
    · have hbz : ¬ (nd : Int) > 24 := by omega
      have HFit := Lib.hid (show ∀ k (hk : k < R.length) (hk2 : k < E.length), E[k].fits from fun k hk hk2 => (HE.out.2 k hk hk2).fits (hfew _ (List.getElem_mem hk)))
      have HEnt := Lib.hid (show ∀ k (hk : k < R.length) (hk2 : k < E.length), Ent w R[k] E[k] from fun k hk hk2 => (HE.out.2 k hk hk2).ent)
      have hEl : E.length = n := by rw [← HE.out.1]; exact HN.out
      have HEl := Lib.hid hEl
      clear hfew hEl HE
      go_wp2_with fail
      refine (new_any most _).mono ?_
      rintro en w2 ⟨p, f1, rfl, h1, hb2⟩
      rw [HCl.out] at h1
      have H0 := Lib.hid (show LiveI w w1 w1.heap.size p w2.heap.size cl 0 [] f1 (.slice (some ⟨w2.heap.size + 1, 0, none⟩) 0 0) [] [] ((w2.alloc (.cells plainCells 30)).alloc (.cells #[] 40)) from by
        have hz : (w2.alloc (.cells plainCells 30)).heap.size = w2.heap.size + 1 := by simp
        have hb3 := (below_alloc w2 (.cells plainCells 30)).alloc (by simp) (.cells #[] 40)
        refine ⟨h1.below hb3, by have := Lot.none' (w2.alloc (.cells plainCells 30)) 40 4; rw [hz] at this; exact this, Each.nil _, fun j hj hf => ?_, ?_, fun hf => by have := h1.lt _ hf; omega, hb2.trans (hb3.mono hb2.size)⟩
        · obtain rfl : w2.heap.size + 1 = j := by simpa [Value.ownBlock] using hj
          have := h1.lt _ hf; omega
        · exact (Below.heap_alloc _ _ _ (by simp)).trans (World.alloc_heap_new w2 _))
      unfold plainCells at H0
      clear h1 hb2
      go_wp2_with fail
      go_loopw [9, 10] (fun lv s wr => ∃ (k : Nat) (a : Option Addr) (c' : Nat) (Ek : List ED) (f : Nat → Prop) (Rm : List EV), s = .int .i64 k ∧ k ≤ n ∧ lv = .slice a Ek.length c' ∧ Hid (LiveI w w1 w1.heap.size p w2.heap.size cl k Ek f (.slice a Ek.length c') Rm Ek wr)) (fun _ s _ => n - (intOf s).toNat)
      case atStart => exact ⟨0, _, 0, [], f1, [], rfl, Nat.zero_le _, rfl, H0⟩
      case round =>
        clear H0
        obtain ⟨k, a, c', Ek, f, Rm, rfl, hkn, rfl, hI⟩ := hrel
        have hXw : Below w.heap.size w wr := HB1.out.trans (hI.out.low.mono HB1.out.size)
        by_cases hlt : k < n
        · have hkR : k < R.length := by rw [HN.out]; exact hlt
          have hkE : k < E.length := by rw [HEl.out]; exact hlt
          obtain ⟨b, o, rfl, c1, c2, c3, c4⟩ := HS.out wr hXw k hkR
          have HCx := Lib.hid (fun X (hX : Below w.heap.size w X) => (show X.cell? ⟨b, o + k * 4, none⟩ = some (.int .i64 R[k].id.o) ∧ X.cell? ⟨b, o + k * 4 + 1, none⟩ = some (.int .i64 R[k].id.s) ∧ X.cell? ⟨b, o + k * 4 + 2, none⟩ = some (.slice R[k].pg R[k].ng R[k].cg) ∧ X.cell? ⟨b, o + k * 4 + 3, none⟩ = some (.slice R[k].ps R[k].ns R[k].cs) from by
            obtain ⟨b', o', e', r⟩ := HS.out X hX k hkR
            cases e'
            exact r))
          have hEnt := HEnt.out k hkR hkE
          have hFit := HFit.out k hkR hkE
          obtain ⟨e, he⟩ : ∃ e, E[k] = e := ⟨_, rfl⟩
          rw [he] at hEnt hFit
          obtain ⟨⟨⟨io, is⟩, pg, ng, cg, ps, ns, cs⟩, hv⟩ : ∃ v, R[k] = v := ⟨_, rfl⟩
          rw [hv] at c1 c2 c3 c4 hEnt HCx
          simp only at c1 c2 c3 c4 HCx
          have HEn := Lib.hid (fun X (hX : Below w.heap.size w X) => hEnt.grow hX)
          have HEw := Lib.hid hEnt
          have HFt := Lib.hid hFit
          have hid : (⟨io, is⟩ : IdD) = e.id := hEnt.id
          have HId := Lib.hid hid
          have hlen := hI.out.row.len
          have hrl : Rm.length = Ek.length := hI.out.each.1
          have HRA := Lib.hid (refadd_any most a Ek.length c' Rm Ek ⟨⟨io, is⟩, pg, ng, cg, ps, ns, cs⟩ e wr hI.out.se hrl (each_ids hI.out.each) hid (by omega) (by rw [HCl.out]; exact hlen.1))
          rw [HCl.out] at HRA
          clear he hv hEnt hFit hid hkR hkE hXw hlen hrl
          have hltz : (k : Int) < (n : Int) := by omega
          have h0 : (0 : Int) ≤ (k : Int) := by omega
          go_wp2_with fail
          refine HRA.out.mono ?_
          intro en x1 hR
          obtain ⟨q1, d1, Rm1, rfl, hL1⟩ := hI.out.added HEw.out hR
          have HL1 := Lib.hid hL1
          have HX1 := Lib.hid (HB1.out.trans (hL1.low.mono HB1.out.size))
          obtain ⟨e1, e2, e3, e4⟩ := HCx.out _ HX1.out
          have HAdd := Lib.hid (addrow_any w1.heap.size p cl k Ek f ⟨⟨io, is⟩, pg, ng, cg, ps, ns, cs⟩ e x1 hL1.row (HEn.out _ HX1.out) HFt.out (by omega))
          clear hR hL1 HRA c1 c2 c3 c4 hI
          obtain ⟨E1, hE1⟩ : ∃ E1, addD cl Ek e = E1 := ⟨_, rfl⟩
          obtain ⟨ok, hok⟩ : ∃ ok, okD cl Ek e = ok := ⟨_, rfl⟩
          unfold AddedR at HAdd
          rw [hE1] at HL1 HAdd ⊢
          rw [hok] at HAdd ⊢
          clear hE1 hok
          go_wp2_with fail
          refine HAdd.out.mono ?_
          rintro en x2 ⟨f2, rfl, h2, s2⟩
          have HL2 := Lib.hid (HL1.out.turn h2 s2)
          have HX2 := Lib.hid (HB1.out.trans (HL2.out.low.mono HB1.out.size))
          obtain ⟨g1, g2, g3, g4⟩ := HCx.out _ HX2.out
          clear h2 s2 HL1 HAdd e1 e2 e3 e4 HX1
          have hoo : (ok == ok) = true := by cases ok <;> rfl
          go_wp2_with fail
          refine (addrow_plain w2.heap.size ⟨⟨io, is⟩, pg, ng, cg, ps, ns, cs⟩ x2 HL2.out.plain).mono ?_
          rintro en x4 ⟨rfl, hb3⟩
          obtain ⟨E4, f4, q4, d4, Rm4, hL4⟩ : ∃ E4 f4 q4 d4 Rm4, E4 = E1 ∧ f4 = f2 ∧ q4 = q1 ∧ d4 = d1 ∧ Rm4 = Rm1 := ⟨_, _, _, _, _, rfl, rfl, rfl, rfl, rfl⟩
          obtain ⟨rfl, rfl, rfl, rfl, rfl⟩ := hL4
          have HL4 := Lib.hid (HL2.out.below hb3)
          clear hb3 HL2 g1 g2 g3 g4 HX2
          have HX4 := Lib.hid (HB1.out.trans (HL4.out.low.mono HB1.out.size))
          rcases Nat.lt_or_ge k nd with hkd | hkd
          case' inr =>
            have hdz : ¬ (k : Int) < (nd : Int) := by omega
            go_wp2_with fail
          case' inl =>
            have hdz : (k : Int) < (nd : Int) := by omega
            have hkD : k < Ds.length := by rw [HND.out]; exact hkd
            obtain ⟨bd, od, hpd, r1, r2, r3, r4, r5⟩ := HD.out x4 (fun j hj => HX4.out.block j hj) k hkD
            have HDx := Lib.hid (fun (X : World) (hX : ∀ j, j < w.heap.size → X.heap[j]? = w.heap[j]?) => (show X.cell? ⟨bd, od + k, none⟩ = some (.slice Ds[k].q Ds[k].m Ds[k].c) ∧ Si X Ds[k].q Ds[k].L from by
              obtain ⟨b', o', e', s1, s2, _⟩ := HD.out X hX k hkD
              rw [hpd] at e'
              cases e'
              exact ⟨s1, s2⟩))
            obtain ⟨⟨qd, md, ccd, L⟩, hdv⟩ : ∃ dv, Ds[k] = dv := ⟨_, rfl⟩
            rw [hdv] at r1 r2 r3 r4 r5 HDx
            simp only at r1 r2 r3 r4 r5 HDx
            subst hpd
            clear hdv hkD
            have HLf := Lib.hid r4
            have HLl := Lib.hid r3
            have HSi := Lib.hid r2
            clear r2 r3 r4
            by_cases hmd : md ≤ 20
            case' neg =>
              have hmz : ¬ (md : Int) ≤ 20 := by omega
              go_wp2_with fail
            case' pos =>
              have hmz : (md : Int) ≤ 20 := by omega
              have hlen := HL4.out.row.len
              have hrl : Rm4.length = E4.length := HL4.out.each.1
              have HRL := Lib.hid (refless_any q4 E4.length d4 Rm4 qd md ccd L x4 HL4.out.se hrl (by omega) HSi.out HLl.out (by omega))
              clear hlen hrl
              go_wp2_with fail
              refine HRL.out.mono ?_
              intro en x5 hR
              obtain ⟨q5, c5, rfl, hL5, hM5⟩ := HL4.out.less hR
              have HL5 := Lib.hid hL5
              have HM5 := Lib.hid hM5
              have HX5 := Lib.hid (HB1.out.trans (hL5.low.mono HB1.out.size))
              obtain ⟨r1', s1'⟩ := HDx.out x5 (fun j hj => HX5.out.block j hj)
              have HWo := Lib.hid (without_any w1.heap.size p cl (k + 1) E4 f4 qd md ccd L x5 hL5.row s1' HLl.out (by omega) HLf.out)
              clear hR hL5 hM5 HRL r1 s1' HX4 HL4
              go_wp2_with fail
              refine HWo.out.mono ?_
              rintro en x6 ⟨q6, rfl, ⟨R6, g1, g2, g3⟩, hb6⟩
              have hX6 := HX5.out.trans (hb6.mono HX5.out.size)
              have HSm := Lib.hid (same13_any q6 q5 (withoutD E4 L).length (withoutD E4 L).length c5 R6 (lessV Rm4 L) (withoutD E4 L) x6 (g1.se g2.1) ((HM5.out.below hb6).se) (g2.imp (fun _ _ _ _ q => q.ent)) ((HM5.out.each).imp (fun _ _ _ _ q => q.grow hX6)) rfl (by have := withoutD_le E4 L; have := HL5.out.row.len; omega) (fun x hx => HL5.out.row.fits x (List.mem_filter.1 hx).1))
              have HL6 := Lib.hid (HL5.out.below hb6)
              have HM6 := Lib.hid (HM5.out.below hb6)
              clear g1 g2 g3 hb6 hX6 HWo HX5 HL5 HM5
              go_wp2_with fail
              refine HSm.out.mono ?_
              rintro en x7 ⟨rfl, hb7⟩
              have HL7 := Lib.hid (HL6.out.below hb7)
              have HM7 := Lib.hid (HM6.out.below hb7)
              clear hb7 HSm HL6 HM6 r1'
              have HX7 := Lib.hid (HB1.out.trans (HL7.out.low.mono HB1.out.size))
              obtain ⟨r7, s7⟩ := HDx.out x7 (fun j hj => HX7.out.block j hj)
              rcases Nat.mod_two_eq_zero_or_one k with hev | hev
              case' inr =>
                have hpz : ((k : Int) % 2 == 0) = false := by rw [beq_eq_false_iff_ne]; omega
                clear r7 s7 HX7 HM7
                obtain ⟨x4, h4⟩ : ∃ x', x' = x7 := ⟨_, rfl⟩
                subst h4
                obtain ⟨HL4, _⟩ : ∃ _ : Hid (LiveI w w1 w1.heap.size p w2.heap.size cl (k + 1) E4 f4 (.slice q4 E4.length d4) Rm4 E4 x4), True := ⟨HL7, trivial⟩
                go_wp2_with fail
              case' inl =>
                have hpz : ((k : Int) % 2 == 0) = true := by rw [beq_iff_eq]; omega
                have hlw := HX7.out
                have hrow := HL7.out.row
                have hwl := withoutD_le E4 L
                have hl7 := hrow.len
                have HDr := Lib.hid (drop_any w1.heap.size p cl (k + 1) E4 f4 qd md ccd L x7 hrow (fun X _ hX => (HDx.out X (fun j hj => (hX j (Nat.lt_of_lt_of_le hj hlw.size) (hrow.base j (Nat.lt_of_lt_of_le hj HB1.out.size))).trans (hlw.block j hj))).2) HLl.out (by omega) HLf.out)
                clear hlw hrow s7 HX7
                go_wp2_with fail
                refine HDr.out.mono ?_
                rintro en x4 ⟨f5, rfl, h8, s8⟩
                obtain ⟨f4, h4⟩ : ∃ x', x' = f5 := ⟨_, rfl⟩
                subst h4
                have HL4 := Lib.hid (HM7.out.turn h8 s8)
                clear h8 s8 r7 HDr
                go_wp2_with fail
                clear HM7 HL7
                obtain ⟨q4, h4⟩ : ∃ x', x' = q5 := ⟨_, rfl⟩
                subst h4
                obtain ⟨d4, h4⟩ : ∃ x', x' = c5 := ⟨_, rfl⟩
                subst h4
                obtain ⟨Rm4, h4⟩ : ∃ x', lessV Rm4 L = x' := ⟨_, rfl⟩
                rw [h4] at HL4
                clear h4
                obtain ⟨E4, h4⟩ : ∃ x', withoutD E4 L = x' := ⟨_, rfl⟩
                rw [h4] at HL4 ⊢
                clear h4
          all_goals
            have hlen4 := HL4.out.row.len
            have hrl4 : Rm4.length = E4.length := HL4.out.each.1
            have HX4 := Lib.hid (HB1.out.trans (HL4.out.low.mono HB1.out.size))
            have HLen := Lib.hid (len_any w1.heap.size p cl (k + 1) E4 f4)
            have HRo := Lib.hid (fun X (hX : Below x4.heap.size x4 X) => room_any w1.heap.size p cl (k + 1) E4 f4 X (HL4.out.row.below hX))
            have HRow := Lib.hid (fun X (hX : Below x4.heap.size x4 X) => HL4.out.row.below hX)
            have HRef := Lib.hid (show ∀ X, Calls Try.prog 17 #[.int .i64 most, .int .i64 E4.length] X (fun e W' => e = .returned (.int .i64 ((cl : Int) - E4.length)) ∧ X = W') from fun X => by
              have := refroom_any most E4.length X (by omega)
              rwa [HCl.out] at this)
            have HHr := Lib.hid (fun X (hX : Below x4.heap.size x4 X) => hasrow_any w1.heap.size p cl (k + 1) E4 f4 ⟨io, is⟩ X (HL4.out.row.below hX) (by rw [HId.out]; exact HFt.out.id))
            have HId3 := Lib.hid (show ∀ X, Below x4.heap.size x4 X → Calls Try.prog 20 #[.slice q4 E4.length d4] X (IdsR X.heap.size (idsD E4) X) from fun X hX => by
              have := ids13_any q4 E4.length d4 Rm4 X ((HL4.out.se).grow hX) hrl4 (by omega)
              rwa [each_ids HL4.out.each] at this)
            have hil4 : (idsD E4).length = E4.length := by simp [idsD]
            have HH4 := Lib.hid (fun X q c (hS : Si X q (idsD E4)) => has12_any q (idsD E4).length c (idsD E4) ⟨io, is⟩ X hS rfl (by omega))
            obtain ⟨r, hr⟩ : ∃ r, decide ((⟨io, is⟩ : IdD) ∈ idsD E4) = r := ⟨_, rfl⟩
            rw [hr] at HHr HH4
            have hrr : (r == r) = true := by cases r <;> rfl
            clear hr hrl4
            have HCs := Lib.hid (fun X (hX : Below x4.heap.size x4 X) => (show X.cell? ⟨b, o + k * 4, none⟩ = some (.int .i64 io) ∧ X.cell? ⟨b, o + k * 4 + 1, none⟩ = some (.int .i64 is) from ⟨(HCx.out X (HX4.out.trans (hX.mono HX4.out.size))).1, (HCx.out X (HX4.out.trans (hX.mono HX4.out.size))).2.1⟩))
            have A1 := Lib.hid (below_drew x4)
            obtain ⟨t1, t2⟩ := HCs.out _ (Below.refl _ _)
            clear HX4 hil4
            go_region_held3 (fun w' => w'.cell? ⟨b, o + k * 4, none⟩ = some (.int .i64 io) ∧ w'.cell? ⟨b, o + k * 4 + 1, none⟩ = some (.int .i64 is))
              (first
                | exact HCs.out _ Y4.out
                | exact HCs.out _ Y3.out
                | exact HCs.out _ Y2.out
                | exact HCs.out _ Y1.out
                | exact HCs.out _ A1.out
                | exact HCs.out _ (Below.refl _ _))
              (first
                | (go_at_call 19; refine (HH4.out _ q7 c7 HSq.out).mono ?_; rintro en y4 ⟨rfl, hb⟩; have Y4 := Lib.hid (Y3.out.trans (hb.mono Y3.out.size)); clear hb)
                | (go_at_call 20; refine (HId3.out _ Y2.out).mono ?_; rintro en y3 ⟨q7, c7, rfl, hLq, _, hb⟩; have HSq := Lib.hid (hLq.si rfl); have Y3 := Lib.hid (Y2.out.trans (hb.mono Y2.out.size)); clear hb hLq)
                | (go_at_call 18; refine (HHr.out _ Y1.out).mono ?_; rintro en y2 ⟨rfl, hb⟩; have Y2 := Lib.hid (Y1.out.trans (hb.mono Y1.out.size)); clear hb)
                | (go_at_call 17; refine (HRef.out _).mono ?_; rintro en y0 ⟨rfl, rfl⟩)
                | (go_at_call 16; refine (HRo.out _ A1.out).mono ?_; rintro en y1 ⟨rfl, hb⟩; have Y1 := Lib.hid (A1.out.trans (hb.mono A1.out.size)); clear hb)
                | (go_at_call 15; refine (HLen.out _ (HRow.out _ A1.out)).mono ?_; rintro en y0 ⟨rfl, rfl⟩))
            have HF4 := Lib.hid (HL4.out.below Y4.out)
            clear HL4 HLen HRo HRow HRef HHr HId3 HH4 HCs A1 t1 t2
            go_wp2_with fail
            go_roundw
            case rel => exact ⟨k + 1, q4, d4, E4, f4, Rm4, by go_num, by omega, rfl, HF4⟩
            case measure => simp [intOf]; omega
        · obtain rfl : n = k := by omega
          have hlen := hI.out.row.len
          have HAll := Lib.hid (all_any w1.heap.size p cl n Ek f wr hI.out.row)
          go_wp2_with fail
          refine HAll.out.mono ?_
          rintro en x1 ⟨q, rfl, ⟨R', g1, g2, g3⟩, hb1⟩
          rw [withoutD_none] at g1 g2 ⊢
          have hI1 := hI.out.below hb1
          have hX1 : Below w.heap.size w x1 := HB1.out.trans (hI1.low.mono HB1.out.size)
          have HSm := Lib.hid (same13_any q a Ek.length Ek.length c' R' Rm Ek x1 (g1.se g2.1) hI1.se (g2.imp (fun _ _ _ _ q => q.ent)) (hI1.each.imp (fun _ _ _ _ q => q.grow hX1)) rfl (by omega) hI1.row.fits)
          have HI1 := Lib.hid hI1
          clear g1 g2 g3 hb1 hI1 hX1 HAll hI
          go_wp2_with fail
          refine HSm.out.mono ?_
          rintro en x2 ⟨rfl, hb2⟩
          have HI2 := Lib.hid (HI1.out.below hb2)
          clear hb2 HSm HI1
          go_wp2_with fail
          refine (room_plain w2.heap.size x2 ((cell_of HI2.out.plain).trans rfl) ((cell_of HI2.out.plain).trans rfl)).mono ?_
          rintro en x3 ⟨rfl, hb3⟩
          have HI3 := Lib.hid (HI2.out.below hb3)
          clear hb3 HI2
          go_wp2_with fail
          refine (awake_any _).mono ?_
          rintro en x4 ⟨rfl, hb4⟩
          have HX4 := Lib.hid (HB1.out.trans ((HI3.out.below hb4).low.mono HB1.out.size))
          clear hb4 HI3
          go_wp2_with fail
          go_ret
          exact Says.mk rfl HX4.out
    · have hbz : (nd : Int) > 24 := by omega
      go_wp2_with fail
      refine (awake_any _).mono ?_
      rintro en w2 ⟨rfl, hb2⟩
      have HB2 := Lib.hid (HB1.out.trans (hb2.mono HB1.out.size))
      clear hb2
      go_wp2_with fail
      go_ret
      exact Says.mk rfl HB2.out

end Go.Proofs.Ytkfnndhoccjffaa
