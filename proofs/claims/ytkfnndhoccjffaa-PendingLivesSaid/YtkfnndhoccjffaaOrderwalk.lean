/-
  The walk through PendingOrder.
-/
import Derived.Test.YtkfnndhoccjffaaFew14
namespace Go.Proofs.Ytkfnndhoccjffaa
open Go Go.RowKit
attribute [local go_sem ↓] Go.wp_at_zero Go.wp_at_succ

theorem Si.keep {W X : World} {p : Option Addr} {L : List IdD} (h : Si W p L) (hb : ∀ k, k < W.heap.size → X.heap[k]? = W.heap[k]?) : Si X p L := fun j hj => by
  obtain ⟨b, o, rfl, c1, c2⟩ := h j hj
  exact ⟨b, o, rfl, (World.cell?_of_block (hb b (cell_lt c1))).trans c1, (World.cell?_of_block (hb b (cell_lt c2))).trans c2⟩

/-- The rows that adds make. -/
def rowD (most : Nat) (L : List ED) : List ED := L.foldl (addD most) []
theorem rowD_snoc {most k : Nat} {E : List ED} (h : k < E.length) : rowD most (E.take (k + 1)) = addD most (rowD most (E.take k)) E[k] := by
  unfold rowD
  rw [List.take_succ_eq_append_getElem h, List.foldl_append]; rfl
theorem idsD_add (most : Nat) (E : List ED) (e : ED) : idsD (addD most E e) = if okD most E e then idsD E ++ [e.id] else idsD E := by
  unfold addD
  split <;> simp [idsD]
theorem addD_len (most : Nat) (E : List ED) (e : ED) : (addD most E e).length ≤ E.length + 1 := by
  unfold addD
  split <;> simp
theorem rowD_len (most : Nat) (E : List ED) : ∀ k, k ≤ E.length → (rowD most (E.take k)).length ≤ k
  | 0, _ => by simp [rowD]
  | k + 1, h => by
    rw [rowD_snoc (by omega)]
    exact Nat.le_trans (addD_len _ _ _) (by have := rowD_len most E k (by omega); omega)

theorem EntA.fits {W : World} {v : EV} {e : ED} (h : EntA W v e) (hf : FewV v) : e.fits := ⟨h.id, h.g, h.s, by rw [h.ent.ng]; exact hf.1, by rw [h.ent.ns]; exact hf.2⟩

theorem ids_without (E : List ED) (D : List IdD) : idsD (withoutD E D) = lessN (idsD E) D := by
  unfold idsD withoutD lessN
  rw [List.filter_map]; rfl
theorem lessN_take {C D : List IdD} {i : Nat} (h : i < C.length) : lessN (C.take (i + 1)) D = if C[i] ∈ D then lessN (C.take i) D else lessN (C.take i) D ++ [C[i]] := by
  unfold lessN
  rw [List.take_succ_eq_append_getElem h, List.filter_append]
  by_cases hm : C[i] ∈ D <;> simp [hm]
theorem lessN_at {C D : List IdD} {i : Nat} (h : i < C.length) (hn : ¬ C[i] ∈ D) : (lessN C D)[(lessN (C.take i) D).length]? = some C[i] := by
  have e : lessN C D = lessN (C.take i) D ++ C[i] :: lessN (C.drop (i + 1)) D := by
    conv => lhs; rw [← List.take_append_drop i C, List.drop_eq_getElem_cons h]
    unfold lessN
    rw [List.filter_append, List.filter_cons, decide_eq_false hn]; rfl
  rw [e, List.getElem?_append_right (Nat.le_refl _), Nat.sub_self]; rfl

theorem Each.ids {B : Nat} {W : World} {R : List EV} {E : List ED} (h : Each (EntO W B) R E) : R.map (·.id) = idsD E := by
  apply List.ext_getElem?
  intro j
  simp only [idsD, List.getElem?_map]
  by_cases hj : j < R.length
  · have hj2 : j < E.length := by rw [← h.1]; exact hj
    rw [List.getElem?_eq_getElem hj, List.getElem?_eq_getElem hj2]
    simp [(h.2 j hj hj2).id]
  · rw [List.getElem?_eq_none (by omega), List.getElem?_eq_none (by rw [← h.1]; omega)]; rfl

set_option maxRecDepth 100000 in
set_option maxHeartbeats 8000000 in
theorem order_walk (pa pd : Option Addr) (n c nd cd : Nat) (R : List EV) (E : List ED) (D : List IdD) (w : World) (h : Se w pa R) (hn : R.length = n) (hE : Each (EntA w) R E) (hm : n ≤ 9223372036854775807)
    (hD : Si w pd D) (hnd : D.length = nd) (hDf : ∀ a ∈ D, a.fits) :
    Calls Try.prog 4 #[.slice pa n c, .slice pd nd cd] w (Says true w) := by
  have HFew := Lib.hid (few_any pa n c R E w h hn hE hm)
  have HS := Lib.hid (fun X (hX : Below w.heap.size w X) => h.grow hX)
  have HD := Lib.hid (fun (X : World) (hX : ∀ k, k < w.heap.size → X.heap[k]? = w.heap[k]?) => hD.keep hX)
  have HN := Lib.hid hn
  have HND := Lib.hid hnd
  have HDf := Lib.hid hDf
  have HE := Lib.hid hE
  clear h hn hE hD hnd hDf
  obtain ⟨i0, gi, gz0, gz1, gz2⟩ := info_parts info_id
  go_enter Try.func4, Try.ntmps4
  go_wp2_with fail
  refine HFew.out.mono ?_
  rintro en w1 ⟨r, rfl, hb1, hyes⟩
  have HB1 := Lib.hid hb1
  clear hb1 HFew
  cases r with
  | false =>
    clear hyes
    go_wp2_with fail
    refine (awake_any _).mono ?_
    rintro en w2 ⟨rfl, hb2⟩
    have HB2 := Lib.hid (HB1.out.trans (hb2.mono HB1.out.size))
    clear hb2
    go_wp2_with fail
    go_ret
    exact Says.mk rfl HB2.out
  | true =>
    obtain ⟨h24, hfew⟩ := hyes rfl
    clear hyes
    by_cases hbig : nd ≤ 40
    · have hbz : ¬ (nd : Int) > 40 := by omega
      have HFit := Lib.hid (show ∀ k (hk : k < R.length) (hk2 : k < E.length), E[k].fits from fun k hk hk2 => (HE.out.2 k hk hk2).fits (hfew _ (List.getElem_mem hk)))
      have HEnt := Lib.hid (show ∀ X, Below w.heap.size w X → ∀ k (hk : k < R.length) (hk2 : k < E.length), Ent X R[k] E[k] from fun X hX k hk hk2 => (HE.out.2 k hk hk2).ent.grow hX)
      have hEl : E.length = n := by rw [← HE.out.1]; exact HN.out
      have HEl := Lib.hid hEl
      clear hfew hEl HE
      go_wp2_with fail
      refine (new_any 32 _).mono ?_
      rintro en w2 ⟨p, f1, rfl, h1, hb2⟩
      rw [show clampD 32 = 32 from by decide] at h1
      have HI := Lib.hid (show RoomI w1.heap.size p 32 0 w1 (fun E' => E' = rowD 32 (E.take 0)) w2 from ⟨[], f1, h1, rfl, hb2⟩)
      have HSt := Lib.hid (IdsI.start HI.out)
      clear h1 hb2 HI
      go_wp2_with fail
      go_loopw [6, 7] (fun lv s wr => ∃ k : Nat, s = .int .i64 k ∧ k ≤ n ∧ Hid (IdsI w1.heap.size p 32 k w1 (fun E' => E' = rowD 32 (E.take k)) (idsD (rowD 32 (E.take k))) lv wr)) (fun _ s _ => n - (intOf s).toNat)
      case atStart => exact ⟨0, rfl, Nat.zero_le _, HSt⟩
      case round =>
        clear HSt
        obtain ⟨k, rfl, hkn, hI⟩ := hrel
        obtain ⟨⟨Ek, f, h1, rfl, h3⟩, hL, hBs⟩ := hI.out
        have hXw : Below w.heap.size w wr := HB1.out.trans (h3.mono HB1.out.size)
        have HXw := Lib.hid hXw
        have hlen24 := rowD_len 32 E k (by rw [HEl.out]; exact hkn)
        obtain ⟨Ek, hEk⟩ : ∃ Ek, rowD 32 (E.take k) = Ek := ⟨_, rfl⟩
        rw [hEk] at h1 hL hlen24
        have H1 := Lib.hid h1
        have H3 := Lib.hid h3
        have HL := Lib.hid hL
        have HBs := Lib.hid hBs
        obtain ⟨av, cv, rfl⟩ := hL.form
        by_cases hlt : k < n
        · have hkR : k < R.length := by rw [HN.out]; exact hlt
          have hkE : k < E.length := by rw [HEl.out]; exact hlt
          obtain ⟨b, o, rfl, c1, c2, c3, c4⟩ := HS.out wr hXw k hkR
          have hEnt := HEnt.out wr hXw k hkR hkE
          have hFit := HFit.out k hkR hkE
          have hsn := rowD_snoc (most := 32) hkE
          rw [hEk] at hsn
          obtain ⟨e, he⟩ : ∃ e, E[k] = e := ⟨_, rfl⟩
          rw [he] at hEnt hFit hsn
          obtain ⟨⟨⟨io, is⟩, pg, ng, cg, ps, ns, cs⟩, hv⟩ : ∃ v, R[k] = v := ⟨_, rfl⟩
          rw [hv] at c1 c2 c3 c4 hEnt
          simp only at c1 c2 c3 c4
          have hid : (⟨io, is⟩ : IdD) = e.id := hEnt.id
          have HAdd := Lib.hid (addrow_any w1.heap.size p 32 k Ek f ⟨⟨io, is⟩, pg, ng, cg, ps, ns, cs⟩ e wr h1 hEnt hFit (by omega))
          have HCx := Lib.hid (fun X (hX : Below w.heap.size w X) => (show X.cell? ⟨b, o + k * 4, none⟩ = some (.int .i64 io) ∧ X.cell? ⟨b, o + k * 4 + 1, none⟩ = some (.int .i64 is) from by
            obtain ⟨b', o', e', q1, q2, _, _⟩ := HS.out X hX k hkR
            cases e'
            rw [hv] at q1 q2
            exact ⟨q1, q2⟩))
          have hids := idsD_add 32 Ek e
          rw [← hsn] at hids
          have hQ : rowD 32 (E.take (k + 1)) = addD 32 Ek e := hsn
          obtain ⟨rr, hrr⟩ : ∃ rr, okD 32 Ek e = rr := ⟨_, rfl⟩
          rw [hrr] at hids
          have HTurn := Lib.hid (fun Y f' (hrow : Rowp Y w1.heap.size p 32 (k + 1) (addD 32 Ek e) f') (hs : Step f f' wr Y) => IdsI.turn (Q' := fun E' => E' = rowD 32 (E.take (k + 1))) h1 h3 hL hBs hrow hs hQ.symm)
          have hRR := Lib.hid hrr
          clear h1 h3 hL hBs hXw hEnt hFit hsn he hv hQ hrr hI hkR hkE
          have hltz : (k : Int) < (n : Int) := by omega
          have h0 : (0 : Int) ≤ (k : Int) := by omega
          obtain ⟨j, hj⟩ : ∃ j, (idsD Ek).length = j := ⟨_, rfl⟩
          have hjk : j ≤ k := by rw [← hj]; simpa [idsD] using hlen24
          go_wp2_with fail
          refine HAdd.out.mono ?_
          rintro en w3 ⟨f3, rfl, h3r, s3⟩
          have HI3 := Lib.hid (HTurn.out w3 f3 h3r s3)
          rw [hRR.out]
          clear h3r s3 HTurn
          cases rr with
          | false =>
            rw [if_neg (by simp)] at hids
            rw [hj] at HI3
            rw [← hids] at HI3
            clear c1 c2 c3 c4
            go_wp2_with fail
            go_roundw
            case rel => exact ⟨k + 1, by go_num, by omega, HI3⟩
            case measure => simp [intOf]; omega
          | true =>
            rw [if_pos rfl] at hids
            obtain ⟨d1, d2⟩ := HCx.out w3 (HB1.out.trans (by obtain ⟨_, _, _, _, hlow⟩ := HI3.out.row; exact hlow.mono HB1.out.size))
            have hL3 := HI3.out.lot
            rw [hj] at hL3
            have HL3 := Lib.hid (hL3.below (below_alloc w3 (.cells #[.int .i64 io, .int .i64 is] 34)))
            have HNx := Lib.hid (fun (w' : World) (g cap : Nat) (ob : Obj) hL hg hat => IdsI.next (a := ⟨io, is⟩) (o := ob) (w' := w') (g := g) (cap := cap) HI3.out hj hL hg hat)
            rw [← hid] at hids
            rw [← hids] at HNx
            rw [hj] at HNx
            have hmx : j + 1 ≤ maxLen := by unfold maxLen; omega
            clear hL3 c1 c2 c3 c4 hids
            go_wp2_with (at_builtin; refine wpList_append_lot _ rfl _ _ 42 rfl 34 i0 _ 2 16 Try.underlying42 gi gz0 gz1 gz2 rfl (.slice av j cv) j (flatI (idsD Ek)) rfl HL3.out ⟨_, 0, none⟩ 1 1 [.int .i64 io, .int .i64 is] rfl rfl (info_id_news _ ⟨io, is⟩) (by simp [Value.oneCell']) (by omega) hmx (by omega) _ rfl ?_; intro g cap w4 hL4 hg4 hat4; have HF := Lib.hid (HNx.out w4 g cap _ hL4 hg4 hat4); clear hL4 hg4 hat4)
            go_roundw
            case rel => exact ⟨k + 1, by go_num, by omega, HF⟩
            case measure => simp [intOf]; omega
        · obtain rfl : n = k := by omega
          have hd := drop_any w1.heap.size p 32 n Ek f pd nd cd D wr h1 (fun X _ hX => HD.out X (fun k hk => (hX k (Nat.lt_of_lt_of_le hk hXw.size) (h1.base k (Nat.lt_of_lt_of_le hk HB1.out.size))).trans (hXw.block k hk))) HND.out (by omega) HDf.out
          have HDr := Lib.hid hd
          have HTurn := Lib.hid (fun Y f' (hrow : Rowp Y w1.heap.size p 32 n (withoutD Ek D) f') (hs : Step f f' wr Y) => IdsI.turn (Q' := fun E' => E' = withoutD Ek D) h1 h3 hL hBs hrow hs rfl)
          have hcl : (idsD Ek).length ≤ 24 := by have : (idsD Ek).length = Ek.length := by simp [idsD]
                                                 omega
          clear h1 h3 hL hBs hXw hd hI
          go_wp2_with fail
          refine HDr.out.mono ?_
          rintro en w5 ⟨f5, rfl, h5, s5⟩
          have HI5 := Lib.hid (HTurn.out w5 f5 h5 s5)
          have H5 := Lib.hid h5
          clear h5 s5 HTurn HDr
          go_wp2_with fail
          refine (all_any w1.heap.size p 32 n (withoutD Ek D) f5 _ H5.out).mono ?_
          rintro en w6 ⟨q, rfl, ⟨R', g1, g2, g3⟩, hb6⟩
          rw [withoutD_none] at g1 g2 ⊢
          have hR' : R'.length = (withoutD Ek D).length := g2.1
          have hids := g2.ids
          rw [ids_without] at hids
          have hids13 := ids13_any q (withoutD Ek D).length (withoutD Ek D).length R' w6 (g1.se hR') hR' (by have := withoutD_le Ek D; omega)
          rw [hids] at hids13
          have H13 := Lib.hid hids13
          have HB6 := Lib.hid hb6
          clear g1 g2 g3 hb6 hR' hids hids13
          go_wp2_with fail
          refine H13.out.mono ?_
          rintro en w7 ⟨q7, c7, rfl, hL7, _, hb7⟩
          have hSI := hL7.si rfl
          have hrow7 : Rowp w7 w1.heap.size p 32 n (withoutD Ek D) f5 := (H5.out.below HB6.out).below hb7
          have hlot7 := (HI5.out.lot.below HB6.out).below hb7
          have hlow7 : Below w.heap.size w w7 := by
            obtain ⟨_, _, _, _, hlow⟩ := HI5.out.row
            have h7 := hlow.trans ((HB6.out.trans (hb7.mono HB6.out.size)).mono HI5.out.row.size)
            exact HB1.out.trans (h7.mono HB1.out.size)
          have hD7 := HD.out w7 (fun k hk => hlow7.block k hk)
          obtain ⟨C, hC⟩ : ∃ C, idsD Ek = C := ⟨_, rfl⟩
          rw [hC] at hlot7 hSI hcl ⊢
          obtain ⟨A, hA⟩ : ∃ A, lessN C D = A := ⟨_, rfl⟩
          rw [hA] at hSI ⊢
          have HA := Lib.hid hA
          have hAl : A.length ≤ 24 := by rw [← hA]; exact Nat.le_trans (List.length_filter_le _ _) hcl
          have HCs := Lib.hid (fun X (hX : Below w7.heap.size w7 X) => (hlot7.si rfl).grow hX)
          have HAs := Lib.hid (fun X (hX : Below w7.heap.size w7 X) => hSI.grow hX)
          have HDs := Lib.hid (fun X (hX : Below w7.heap.size w7 X) => hD7.grow hX)
          have HRs := Lib.hid (fun X (hX : Below w7.heap.size w7 X) => hrow7.below hX)
          have HLs := Lib.hid (fun X (hX : Below w7.heap.size w7 X) => hlow7.trans (hX.mono hlow7.size))
          have HCf := Lib.hid (show ∀ y ∈ C, y.fits from fun y hy => by
            rw [← hC] at hy
            obtain ⟨e, he, rfl⟩ := List.mem_map.1 hy
            obtain ⟨_, _, _, hh⟩ := H1.out
            exact (hh.fits e he).id)
          have HNo := Lib.hid (show ∀ y, y ∈ D → decide (y ∈ idsD (withoutD Ek D)) = false from fun y hy => decide_eq_false (fun h => by
            rw [ids_without] at h
            have := (List.mem_filter.1 h).2
            simp [hy] at this))
          clear hlot7 hSI hrow7 hD7 hlow7 hL7 hb7 hA hC HL HI5 H5
          obtain ⟨m, hCm⟩ : ∃ m, C.length = m := ⟨_, rfl⟩
          obtain ⟨l, hAm⟩ : ∃ l, A.length = l := ⟨_, rfl⟩
          rw [hCm] at hcl ⊢
          rw [hAm] at hAl ⊢
          have HCm := Lib.hid hCm
          have HAm := Lib.hid hAm
          clear hCm hAm
          go_wp2_with fail
          go_loopw [9, 10] (fun at' s wr => ∃ i : Nat, s = .int .i64 i ∧ i ≤ m ∧ at' = .int .i64 (lessN (C.take i) D).length ∧ Hid (Below w7.heap.size w7 wr)) (fun _ s _ => m - (intOf s).toNat)
          case atStart => exact ⟨0, rfl, Nat.zero_le _, rfl, Below.refl _ _⟩
          case round =>
            obtain ⟨i, rfl, him, rfl, hB⟩ := hrel
            by_cases hlt : i < m
            · have hiC : i < C.length := by rw [HCm.out]; exact hlt
              obtain ⟨bc, oc, rfl, c1, c2⟩ := HCs.out wr hB.out i hiC
              have HCc := Lib.hid (fun X (hX : Below w7.heap.size w7 X) => (show X.cell? ⟨bc, oc + i * 2, none⟩ = some (.int .i64 C[i].o) ∧ X.cell? ⟨bc, oc + i * 2 + 1, none⟩ = some (.int .i64 C[i].s) from by
                obtain ⟨b', o', e', q1, q2⟩ := HCs.out X hX i hiC
                cases e'
                exact ⟨q1, q2⟩))
              have hyf := HCf.out _ (List.getElem_mem hiC)
              have htk := lessN_take (D := D) hiC
              have hat := lessN_at (D := D) hiC
              rw [HA.out] at hat
              obtain ⟨y, hy⟩ : ∃ y, C[i] = y := ⟨_, rfl⟩
              rw [hy] at c1 c2 HCc hyf htk hat
              have HH := Lib.hid (has12_any pd nd cd D y wr (HDs.out wr hB.out) HND.out (by omega))
              have HRow := Lib.hid (fun X (hX : Below w7.heap.size w7 X) => hasrow_any w1.heap.size p 32 n (withoutD Ek D) f5 y X (HRs.out X hX) hyf)
              clear hyf hy hiC
              have hltz : (i : Int) < (m : Int) := by omega
              have h0 : (0 : Int) ≤ (i : Int) := by omega
              obtain ⟨z, hz⟩ : ∃ z, (lessN (C.take i) D).length = z := ⟨_, rfl⟩
              rw [hz] at hat ⊢
              by_cases hmem : y ∈ D
              · rw [if_pos hmem] at htk
                rw [decide_eq_true hmem] at HH
                have hno := HNo.out y hmem
                rw [hno] at HRow
                rw [← htk] at hz
                clear htk hat hno
                go_wp2_with fail
                refine HH.out.mono ?_
                rintro en x2 ⟨rfl, hb2⟩
                have X2 := Lib.hid (hB.out.trans (hb2.mono hB.out.size))
                obtain ⟨d1, d2⟩ := HCc.out _ X2.out
                clear hb2 c1 c2
                go_wp2_with fail
                refine (HRow.out _ X2.out).mono ?_
                rintro en x3 ⟨rfl, hb3⟩
                have X3 := Lib.hid (X2.out.trans (hb3.mono X2.out.size))
                clear hb3 d1 d2
                go_wp2_with fail
                go_roundw
                case rel => exact ⟨i + 1, by go_num, by omega, by rw [hz], X3⟩
                case measure => simp [intOf]; omega
              · rw [if_neg hmem] at htk
                have hat := hat hmem
                have hzA : z < A.length := (List.getElem?_eq_some_iff.1 hat).1
                have hAz : A[z] = y := (List.getElem?_eq_some_iff.1 hat).2
                have hz2 : (lessN (C.take (i + 1)) D).length = z + 1 := by rw [htk, List.length_append, hz]; rfl
                rw [decide_eq_false hmem] at HH
                clear htk hz hat HRow
                go_wp2_with fail
                refine HH.out.mono ?_
                rintro en x2 ⟨rfl, hb2⟩
                have X2 := Lib.hid (hB.out.trans (hb2.mono hB.out.size))
                obtain ⟨d1, d2⟩ := HCc.out _ X2.out
                obtain ⟨ba, oa, rfl, e1, e2⟩ := HAs.out _ X2.out z hzA
                rw [hAz] at e1 e2
                have hq := fun w => neqI y y w
                rw [decide_eq_true rfl] at hq
                have hgd := guardI
                have hzl : z < l := by rw [← HAm.out]; exact hzA
                have hz1 : ¬ (z : Int) ≥ (l : Int) := by omega
                have hz3 : (z : Int) < (l : Int) := by omega
                have hz0 : (0 : Int) ≤ (z : Int) := by omega
                clear hb2 c1 c2 hzA hAz
                go_wp2_with fail
                go_quiet (fail)
                go_wp2_with fail
                go_roundw
                case rel => exact ⟨i + 1, by go_num, by omega, by rw [hz2]; go_num, below_drewN' X2.out _⟩
                case measure => simp [intOf]; omega
            · obtain rfl : m = i := by omega
              have hfull : C.take m = C := List.take_of_length_le (by rw [HCm.out]; exact Nat.le_refl _)
              rw [hfull, HA.out, HAm.out]
              go_wp2_with fail
              refine (awake_any _).mono ?_
              rintro en x2 ⟨rfl, hb2⟩
              have HB2 := Lib.hid ((HLs.out _ hB.out).trans (hb2.mono (HLs.out _ hB.out).size))
              clear hb2
              go_wp2_with fail
              go_ret
              exact Says.mk rfl HB2.out
    · have hbz : (nd : Int) > 40 := by omega
      go_wp2_with fail
      refine (awake_any _).mono ?_
      rintro en w2 ⟨rfl, hb2⟩
      have HB2 := Lib.hid (HB1.out.trans (hb2.mono HB1.out.size))
      clear hb2
      go_wp2_with fail
      go_ret
      exact Says.mk rfl HB2.out

end Go.Proofs.Ytkfnndhoccjffaa
