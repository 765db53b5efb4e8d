/-
  state.Patch, for a row whose keys rise.
-/
import Derived.Test.YtbddicaabjlbjaaConcat
import Derived.Test.YtbddicaabjlbjaaPut
import Derived.Test.YtbddicaabjlbjaaFromiter
import Derived.Deep.Slices
namespace Go.Proofs.Ytbddicaabjlbjaa
open Go Go.RowKit Go.Shelf
attribute [local go_sem] Oper.semAt_some

/-- A table of the call's own: what lay ahead of block B is as it was in w. -/
structure Held (B : Nat) (w W : World) (p : Nat) (D : Pairs) (f : Nat → Prop) : Prop where
  tab : Tab W p D f
  below : Below B w W
  mine : ∀ k, f k → B ≤ k
  size : B ≤ w.heap.size

theorem Held.new (w : World) : Held w.heap.size w (w.alloc (.cells #[.slice none 0 0, .slice none 0 0] 65)) w.heap.size [] (fun k => k = w.heap.size) :=
  ⟨tab_new w, (Below.refl _ w).alloc (Nat.le_refl _) _, fun _ hk => Nat.le_of_eq hk.symm, Nat.le_refl _⟩
theorem Held.room {B : Nat} {w W : World} {p : Nat} {D : Pairs} {f : Nat → Prop} (h : Held B w W p D f) : B ≤ W.heap.size := Nat.le_trans h.size h.below.size
theorem Held.turned {B : Nat} {w W W' : World} {p : Nat} {D D' : Pairs} {f f' : Nat → Prop} (h : Held B w W p D f) (ht : Tab W' p D' f') (hs : Step f f' W W') : Held B w W' p D' f' :=
  ⟨ht, h.below.trans (hs.below h.room (fun k hk hf => absurd hk (Nat.not_lt.2 (h.mine k hf)))), fun k hk => (hs.foot k hk).elim (h.mine k) (fun h' => Nat.le_trans h.room h'), h.size⟩
theorem Held.grow {B : Nat} {w W W' : World} {p : Nat} {D : Pairs} {f : Nat → Prop} (h : Held B w W p D f) (hb : Below W.heap.size W W') : Held B w W' p D f :=
  ⟨h.tab.stays hb.size (fun k hk => hb.block k (h.tab.lt k hk)), h.below.trans (hb.mono h.room), h.mine, h.size⟩

theorem cell_at {W : World} {b : Nat} {cs : Array Value} {t : TypeId} {fr : Nat × Nat} (h : W.heap[b]? = some (.cells cs t fr)) (k : Nat) : W.cell? ⟨b, k, none⟩ = cs[k]? := by simp [World.cell?, h]

theorem sortrow_any (base : Nat) (v : Value) (L : List ChD) (w : World) (hr : w.ownsRow base 38 3 v L.length (flatC L)) (hs : L.length ≤ 100000) :
    Calls Try.prog 21 #[v, .func (.func 22) #[] #[]] w fun e w' => e = .returned (.tuple #[]) ∧ ∃ R p cap, v = .slice p L.length cap ∧ L.length ≤ cap ∧ KP L R ∧ Sc w' p R ∧ (∀ b o, p = some ⟨b, o, none⟩ → base ≤ b) ∧ Below base w w' := by
  rcases hr.2 with ⟨rfl, h0⟩ | ⟨g, cap, cur, rfl, hb, hg, hn, _⟩
  · obtain rfl : L = [] := List.eq_nil_of_length_eq_zero h0
    refine (sortstable_none _ w).mono ?_
    rintro e w' ⟨rfl, rfl⟩
    exact ⟨rfl, [], none, 0, rfl, Nat.le_refl _, KP.refl _, Sc.nil _ _, (fun b o e => by cases e), Below.refl _ _⟩
  · have hlt := (Array.getElem?_eq_some_iff.1 hg).1
    refine (sortstable_any g cap L.length L w rfl (LiesC.of_row hr) (fun j => by simp [World.frozen?, hg]) hlt (by omega)).mono ?_
    rintro e w' ⟨rfl, R, S⟩
    exact ⟨rfl, R, _, cap, rfl, hn, S.kp, S.lies.sc, (fun b o e => by
      obtain ⟨rfl, _⟩ : g = b ∧ 0 = o := by simpa using e
      exact hb), ⟨S.os, S.tape, S.output, S.size, fun k hk => S.block k (by omega) (by omega)⟩⟩

theorem diff_calls (pa pb : Option Addr) (na nb ca cb : Nat) (A B : Pairs) (w : World) (hna : A.length = na) (hnb : B.length = nb) (hca : na ≤ ca) (hcb : nb ≤ cb) (hSA : Sl w pa A) (hSB : Sl w pb B) (hRA : Rise A) (hRB : Rise B) (hla : na ≤ 10000) (hlb : nb ≤ 10000) :
    Calls Try.prog 10 #[.slice pa na ca, .slice pb nb cb] w (CollC (diffD A B) w) :=
  callsIn_wide.1 (diff_any pa pb na nb ca cb A B w hna hnb hca hcb hSA hSB hRA hRB hla hlb)

/-- What Patch owns while it collects. -/
def OutP (B Bx : Nat) (pre : Pairs) (f1 : Nat → Prop) (W : World) : Prop :=
  ∃ g cap, f1 = (fun k => k = Bx ∨ k = g) ∧ Boxed W Bx 22 (.slice (some ⟨g, 0, none⟩) pre.length cap) ∧ W.ownsRow B 34 2 (.slice (some ⟨g, 0, none⟩) pre.length cap) pre.length (flat pre)
theorem OutP.stable (B Bx : Nat) : Stable (OutP B Bx) := by
  rintro s f1 X Y ⟨g, cap, rfl, hv, hr⟩ hsz hbl
  exact ⟨g, cap, rfl, (hbl Bx (.inl rfl)).trans hv, ownsRow_stays hr (fun k hk => by
    have : g = k := by simpa [Value.ownBlock] using hk
    subst this; exact hbl g (.inr rfl))⟩
theorem OutP.bound (B Bx : Nat) : Bound (OutP B Bx) := by
  rintro s f1 X ⟨g, cap, rfl, hv, hr⟩ k hk
  rcases hk with rfl | rfl
  · exact hv.lt
  · exact (hr.lt k rfl).2
theorem from_all (D : Pairs) : fromD D ⟨#[]⟩ = D := List.filter_eq_self.2 fun q _ => by
  have : lt q.1 ⟨#[]⟩ = false := by
    unfold lt
    rw [show (⟨#[]⟩ : ByteArray).toList = [] by rw [ByteArray.toList_eq]]
    cases q.1.toList <;> rfl
  rw [this]; rfl

/-- While the changes are done: the table, and the changes. -/
def Doing (B : Nat) (w : World) (p : Nat) (pR : Option Addr) (R : List ChD) (k : Nat) (W : World) : Prop :=
  ∃ f, Held B w W p (patchD [] (R.take k)) f ∧ Sc W pR R ∧ ∀ b o, pR = some ⟨b, o, none⟩ → R ≠ [] → ¬ f b

theorem Sc.turn {W W' : World} {p : Option Addr} {L : List ChD} {f f' : Nat → Prop} (h : Sc W p L) (hs : Step f f' W W') (hn : ∀ b o, p = some ⟨b, o, none⟩ → L ≠ [] → ¬ f b) : Sc W' p L := fun j hj => by
  obtain ⟨b, o, rfl, c1, c2, c3⟩ := h j hj
  have hb := hn b o rfl (by intro e; subst e; exact absurd hj (Nat.not_lt_zero _))
  have hbl := hs.block b (cell_lt c1) hb
  exact ⟨b, o, rfl, (World.cell?_of_block (a := ⟨b, _, none⟩) hbl).trans c1, (World.cell?_of_block (a := ⟨b, _, none⟩) hbl).trans c2, (World.cell?_of_block (a := ⟨b, _, none⟩) hbl).trans c3⟩

theorem Doing.next {B : Nat} {w : World} {p : Nat} {pR : Option Addr} {R : List ChD} {k : Nat} {W W' : World} {f f' : Nat → Prop} (hk : k < R.length) (hh : Held B w W p (patchD [] (R.take k)) f) (hs : Sc W pR R) (hn : ∀ b o, pR = some ⟨b, o, none⟩ → R ≠ [] → ¬ f b)
    (ht : Tab W' p (applyC (patchD [] (R.take k)) R[k]) f') (hst : Step f f' W W') : Doing B w p pR R (k + 1) W' := by
  refine ⟨f', ?_, hs.turn hst hn, fun b o e hne hf => ?_⟩
  · rw [List.take_succ_eq_append_getElem hk, patchD_snoc]
    exact hh.turned ht hst
  · obtain ⟨b', o', e', c1, _⟩ := hs k hk
    obtain ⟨rfl, rfl⟩ : b = b' ∧ o = o' := by rw [e] at e'; simpa using e'
    rcases hst.foot b hf with h | h
    · exact hn b o e hne h
    · have := cell_lt c1; omega

set_option maxRecDepth 100000 in
set_option maxHeartbeats 4000000 in
theorem patch_any (pa pc : Option Addr) (na nl ca cl : Nat) (A : Pairs) (L : List ChD) (w : World) (hna : A.length = na) (hnl : L.length = nl) (hca : na ≤ ca) (hSA : Sl w pa A) (hSL : Sc w pc L) (hRA : Rise A) (hla : na ≤ 4000) (hll : nl ≤ 4000)
    (hkA : ∀ q ∈ A, q.1.size ≤ 281474976710656) (hkL : ∀ c ∈ L, c.key.size ≤ 281474976710656) :
    CallsIn Fence.wide 6 Try.prog 13 #[.slice pa na ca, .slice pc nl cl] w (Collected (patchD A L) w) := by
  have hW := wide_hW
  obtain ⟨i0, hi, hz0, hz1, hz2⟩ := info_parts info_pair
  have HRa := Lib.hid (show Calls Try.prog 7 #[.slice pa na ca] w (Says A w) by rw [← hna]; exact right_any pa ca A w hSA (by omega))
  have HA := Lib.hid hRA
  have HSA := Lib.hid hSA
  have HSL := Lib.hid hSL
  have HNA := Lib.hid hna
  have HNL := Lib.hid hnl
  have HKA := Lib.hid hkA
  have HKL := Lib.hid hkL
  clear hRA hSA hSL hna hnl hkA hkL
  refine callsIn_of_wp_marks Try.func13 rfl trivial ?_ rfl
  simp only [Try.ntmps13, List.size_toArray, List.length_cons, List.length_nil, Nat.reduceAdd, Nat.reduceSub, Array.replicate_succ, Array.replicate_zero, List.push_toArray, List.append_toArray, List.nil_append, List.cons_append]
  gi_wp2_with fail
  refine ⟨trivial, (hW.out _ _ _ _ _ HRa.out).mono ?_⟩
  rintro e w' ⟨ba, rfl, hba, q1, rfl⟩
  obtain rfl : ba = true := hba.2 HA.out
  clear hba HRa
  have B1 := Lib.hid (show Below w.heap.size w (w.drewN q1) from ⟨rfl, rfl, rfl, Nat.le_refl _, fun _ _ => rfl⟩)
  obtain ⟨w1, hw1⟩ : ∃ w1, w.drewN q1 = w1 := ⟨_, rfl⟩
  have hs1 : w1.heap.size = w.heap.size := by rw [← hw1]; rfl
  rw [hw1] at B1 ⊢
  clear hw1
  gi_wp2_with fail
  refine ⟨trivial, (hW.out _ _ _ _ _ (diff_calls none pa 0 na 0 ca [] A w1 rfl HNA.out (Nat.le_refl _) hca (Sl.nil _ _) (HSA.out.grow B1.out) Rise.nil HA.out (by omega) (by omega))).mono ?_⟩
  rintro e w2 ⟨v2, rfl, hr2, hb2⟩
  rw [diff_nil] at hr2
  have hle2 := hb2.size
  have B2 := Lib.hid (B1.out.trans (hb2.mono (by omega)))
  obtain ⟨p2, c2, rfl, hc2, hsc2, _⟩ := Sc.of_row hr2
  have hl2 : (A.map yes).length = na := by rw [List.length_map]; exact HNA.out
  rw [hl2] at hc2 ⊢
  have HS2 := Lib.hid hsc2
  clear hr2 hb2 hsc2
  gi_wp2_with fail
  have hcN := (Below.refl w2.heap.size w2).alloc (Nat.le_refl _) (.cells #[.slice p2 na c2, .slice pc nl cl] 23)
  have hk0 : (w2.alloc (.cells #[.slice p2 na c2, .slice pc nl cl] 23)).cell? ⟨w2.heap.size, 0, none⟩ = some (.slice p2 na c2) := (cell_at (heap_alloc_new w2 _) 0).trans rfl
  have hk1 : (w2.alloc (.cells #[.slice p2 na c2, .slice pc nl cl] 23)).cell? ⟨w2.heap.size, 1, none⟩ = some (.slice pc nl cl) := (cell_at (heap_alloc_new w2 _) 1).trans rfl
  refine ⟨trivial, (hW.out _ _ _ _ _ (concat_any w2.heap.size p2 pc na nl c2 cl (A.map yes) L _ hk0 hk1 (HS2.out.grow hcN) ((HSL.out.grow B2.out).grow hcN) hl2 HNL.out (by omega) (by omega))).mono ?_⟩
  rintro e w4 ⟨v4, rfl, hr4, hb4⟩
  have B3 := Lib.hid (B2.out.trans (hcN.mono (by have := B2.out.size; omega)))
  obtain ⟨w3, hw3⟩ : ∃ w3, w2.alloc (.cells #[.slice p2 na c2, .slice pc nl cl] 23) = w3 := ⟨_, rfl⟩
  rw [hw3] at hr4 hb4 B3
  have hle4 := hb4.size
  have hle3 := B3.out.size
  have B4 := Lib.hid (B3.out.trans (hb4.mono (by omega)))
  clear hw3 hcN HS2 hc2 hk0 hk1
  obtain ⟨M, hM⟩ : ∃ M, A.map yes ++ L = M := ⟨_, rfl⟩
  have hMl : M.length = na + nl := by rw [← hM, List.length_append, hl2]; have := HNL.out; omega
  rw [hM] at hr4
  have HR4 := Lib.hid hr4
  obtain ⟨p4, c4, rfl, hc4, _, _⟩ := Sc.of_row hr4
  have HM := Lib.hid hM
  have HMl := Lib.hid hMl
  obtain ⟨nm, hnm⟩ : ∃ nm, M.length = nm := ⟨_, rfl⟩
  have hnm8 : nm ≤ 8000 := by omega
  have HSort := Lib.hid (sortrow_any w3.heap.size _ M w4 HR4.out (by omega))
  rw [hnm] at HR4 hc4 HSort ⊢
  have HNM := Lib.hid hnm
  clear hr4 hb4 hM hMl hnm hl2
  gi_wp2_with fail
  refine ⟨trivial, (hW.out _ _ _ _ _ HSort.out).mono ?_⟩
  rintro e w5 ⟨rfl, R, p5, c5, hv5, hc5, hkp, hsR, hge, hb5⟩
  obtain ⟨rfl, rfl⟩ : p4 = p5 ∧ c4 = c5 := by simpa using hv5
  clear hv5 hc5 HSort
  have B5 := Lib.hid (B4.out.trans (hb5.mono hle3))
  have hle5 := B5.out.size
  have HKP := Lib.hid hkp
  have HSR := Lib.hid hsR
  have HGE := Lib.hid hge
  have HRl : Hid (R.length = nm) := by show _ = _; rw [← hkp.1]; exact HNM.out
  clear hkp hsR hge hb5
  gi_wp2_with fail
  refine ⟨trivial, (hW.out _ _ _ _ _ (new_any w5)).mono ?_⟩
  rintro e w6 ⟨rfl, hw6⟩
  have HD0 : Hid (Doing w.heap.size w w5.heap.size p4 R 0 w6) := by
    rw [hw6]
    refine ⟨fun k => k = w5.heap.size, ⟨tab_new w5, B5.out.trans ((Below.refl _ w5).alloc hle5 _), fun k hk => by omega, Nat.le_refl _⟩, HSR.out.grow ((Below.refl _ w5).alloc (Nat.le_refl _) _), fun b o e hne hb => ?_⟩
    obtain ⟨b', o', e', c1, _⟩ := HSR.out 0 (List.length_pos_iff.2 hne)
    obtain ⟨rfl, rfl⟩ : b = b' ∧ o = o' := by rw [e] at e'; simpa using e'
    have := cell_lt c1
    omega
  obtain ⟨tp, htp⟩ : ∃ tp, w5.heap.size = tp := ⟨_, rfl⟩
  rw [htp] at HD0 ⊢
  clear hw6 htp HSR HR4
  gi_wp2_with fail
  gi_loopw [25] (fun s25 wr => ∃ k : Nat, s25 = .int .i64 k ∧ k ≤ nm ∧ Hid (Doing w.heap.size w tp p4 R k wr)) (fun s _ => nm - (intOf s).toNat)
  case atStart => exact ⟨0, rfl, Nat.zero_le _, HD0⟩
  case round =>
    clear HD0
    obtain ⟨k, rfl, hk, hD⟩ := hrel
    by_cases hlt : k < nm
    · have hltz : (k : Int) < (nm : Int) := by omega
      obtain ⟨f, hh, hs, hn⟩ := hD.out
      have hkR : k < R.length := by rw [HRl.out]; exact hlt
      obtain ⟨b, o, rfl, d1, d2, d3⟩ := hs k hkR
      have hin : R[k] ∈ M := HKP.out.symm.mem (List.getElem_mem hkR)
      have hshort : R[k].key.size ≤ 281474976710656 := by
        rw [← HM.out] at hin
        rcases List.mem_append.1 hin with h | h
        · obtain ⟨q, hq, e⟩ := List.mem_map.1 h
          rw [← e]; exact HKA.out q hq
        · exact HKL.out _ h
      have hR : Rise (patchD [] (R.take k)) := Rise.patch _ Rise.nil
      have hlen : (patchD [] (R.take k)).length ≤ 9000 := by
        have := length_patch (R.take k) []
        rw [List.length_take, List.length_nil] at this; omega
      have hwr : w.heap.size ≤ wr.heap.size := hh.room
      have hA8 := (Below.refl wr.heap.size wr).alloc (Nat.le_refl _) (.cells #[.string R[k].key, .bool R[k].has, .string R[k].val] 38)
      have HPut := Lib.hid (put_any tp (patchD [] (R.take k)) f R[k].key R[k].val _ (hh.grow hA8).tab hR hlen hshort)
      have HDel := Lib.hid (del_any tp (patchD [] (R.take k)) f R[k].key _ (hh.grow hA8).tab hR hlen)
      have HNext := Lib.hid (fun (f' : Nat → Prop) W' (ht : Tab W' tp (applyC (patchD [] (R.take k)) R[k]) f') (hst : Step f f' (wr.alloc (.cells #[.string R[k].key, .bool R[k].has, .string R[k].val] 38)) W') => Doing.next (W := wr.alloc (.cells #[.string R[k].key, .bool R[k].has, .string R[k].val] 38)) hkR (hh.grow hA8) (hs.grow hA8) hn ht hst)
      obtain ⟨⟨rk', rh, rv⟩, hrk⟩ : ∃ x, R[k] = x := ⟨_, rfl⟩
      rw [hrk] at d1 d2 d3 HPut HDel HNext
      obtain ⟨D, hDD⟩ : ∃ D, patchD [] (R.take k) = D := ⟨_, rfl⟩
      rw [hDD] at HPut HDel HNext
      clear hrk hDD hh hs hn hkR hin hshort hR hlen hA8 hD
      cases rh with
      | true =>
        gi_wp2_with fail
        refine ⟨trivial, (hW.out _ _ _ _ _ HPut.out).mono ?_⟩
        rintro e W' ⟨f', rfl, ht, hst⟩
        have HN2 := Lib.hid (HNext.out f' W' ht hst)
        clear ht hst HPut HDel HNext
        gi_wp2_with fail
        go_roundw
        case rel => exact ⟨k + 1, by go_num, by omega, HN2⟩
        case measure => simp [intOf]; omega
      | false =>
        gi_wp2_with fail
        refine ⟨trivial, (hW.out _ _ _ _ _ HDel.out).mono ?_⟩
        rintro e W' ⟨f', rfl, ht, hst⟩
        have HN2 := Lib.hid (HNext.out f' W' ht hst)
        clear ht hst HPut HDel HNext
        gi_wp2_with fail
        go_roundw
        case rel => exact ⟨k + 1, by go_num, by omega, HN2⟩
        case measure => simp [intOf]; omega
    · obtain rfl : k = nm := by omega
      obtain ⟨f, hh, _, _⟩ := hD.out
      have hfin : patchD [] (R.take k) = patchD A L := by
        rw [List.take_of_length_le (by rw [HRl.out]; exact Nat.le_refl _), ← patch_kp Rise.nil HKP.out, ← HM.out, patch_from HA.out]
      rw [hfin] at hh
      have hRD : Rise (patchD A L) := Rise.patch _ HA.out
      have hDl : (patchD A L).length ≤ 8000 := by
        have h1 := length_patch L A
        have := HNA.out
        have := HNL.out
        omega
      obtain ⟨D, hDD⟩ : ∃ D, patchD A L = D := ⟨_, rfl⟩
      have HDD := Lib.hid hDD
      rw [hDD] at hh hRD hDl ⊢
      have HH := Lib.hid hh
      have HRD := Lib.hid hRD
      have HLen := Lib.hid (len_any tp D f wr hh.tab)
      obtain ⟨n, hn⟩ : ∃ n, D.length = n := ⟨_, rfl⟩
      rw [hn] at HLen hDl
      have HN := Lib.hid hn
      clear hh hRD hDD hfin hn hD HKP HKA HKL HM HMl HNM HRl HGE HSL HSA HA HNA HNL B1 B2 B3 B4 B5
      gi_wp2_with fail
      refine ⟨trivial, (hW.out _ _ _ _ _ HLen.out).mono ?_⟩
      rintro e w' ⟨rfl, rfl⟩
      have hroom : w.heap.size ≤ wr.heap.size := HH.out.room
      gi_wp2_with (gi_at_make; refine wpListIn_make_own _ rfl _ _ _ rfl w.heap.size 34 i0 _ 2 Try.underlying22 hi hz0 hz1 .i64 .i64 (n : Int) n rfl rfl rfl (by rw [hz2]; omega) (by unfold maxLen; omega) hroom ?_; intro w7 hr7 hg7)
      refine ⟨trivial, (hW.out _ _ _ _ _ (from_any _ _ _)).mono ?_⟩
      rintro e w9 ⟨rfl, hw9⟩
      have hB7 : Below wr.heap.size wr w7 := (Below.refl _ wr).grown hg7 (Nat.le_refl _) (fun k e => by cases e)
      have hlt7 := (hr7.lt wr.heap.size rfl).2
      obtain ⟨gr, hgr⟩ : ∃ gr, wr.heap.size = gr := ⟨_, rfl⟩
      obtain ⟨Bx, hBx⟩ : ∃ Bx, w7.heap.size = Bx := ⟨_, rfl⟩
      have h9B : Boxed w9 Bx 22 (.slice (some ⟨gr, 0, none⟩) 0 n) ∧ w9.ownsRow w.heap.size 34 2 (.slice (some ⟨gr, 0, none⟩) 0 n) 0 [] ∧ w9.cell? ⟨Bx + 1, 0, none⟩ = some (.pointer (some ⟨tp, 0, none⟩)) ∧ w9.cell? ⟨Bx + 1 + 1, 0, none⟩ = some (.string ⟨#[]⟩) ∧
          Below w.heap.size w w9 ∧ w9.heap.size = Bx + 1 + 1 + 1 ∧ (∃ ft, Tab w9 tp D ft ∧ ∀ k, ft k → k < gr) := by
        have bX := ((Boxed.new w7 22 (.slice (some ⟨wr.heap.size, 0, none⟩) 0 n)).alloc (.cells #[.pointer (some ⟨tp, 0, none⟩)] 46)).alloc (.cells #[.string ⟨#[]⟩] 9)
        have bR := ((hr7.alloc (.cells #[.slice (some ⟨wr.heap.size, 0, none⟩) 0 n] 22)).alloc (.cells #[.pointer (some ⟨tp, 0, none⟩)] 46)).alloc (.cells #[.string ⟨#[]⟩] 9)
        have bP := (Boxed.new (w7.alloc (.cells #[.slice (some ⟨wr.heap.size, 0, none⟩) 0 n] 22)) 46 (.pointer (some ⟨tp, 0, none⟩))).alloc (.cells #[.string ⟨#[]⟩] 9)
        have bS := Boxed.new ((w7.alloc (.cells #[.slice (some ⟨wr.heap.size, 0, none⟩) 0 n] 22)).alloc (.cells #[.pointer (some ⟨tp, 0, none⟩)] 46)) 9 (.string ⟨#[]⟩)
        have hB9 : Below wr.heap.size wr w9 := by
          rw [hw9]
          exact (((hB7.alloc (by omega) _).alloc (by simp; omega) _).alloc (by simp; omega) _)
        simp only [World.size_alloc] at bP bS
        rw [← hw9] at bX bR bP bS
        rw [hgr] at bX bR
        rw [hBx] at bX bP bS
        exact ⟨bX, bR, bP.cell, bS.cell, (HH.out.grow hB9).below, by rw [hw9]; simp [hBx], f, (HH.out.grow hB9).tab, fun k hk => by rw [← hgr]; exact HH.out.tab.lt k hk⟩
      simp only [World.size_alloc] at hw9 ⊢
      rw [hBx]
      rw [hgr, hBx] at hlt7
      rw [hgr]
      have H9 := Lib.hid h9B
      have hbx1 : w.heap.size ≤ gr := by omega
      clear hw9 h9B hB7 hr7 hg7 hgr hBx HH hroom HLen
      gi_wp2_with fail
      have hIt := from1_iter Fence.wide 5 (fun _ => trivial) rfl rfl hW (by omega) (Bx + 1) (Bx + 1 + 1) tp D ⟨#[]⟩ HRD.out (by have := HN.out; omega)
      rw [from_all] at hIt
      have HIt := Lib.hid hIt
      clear hIt
      refine wpIn_rangeFunc_foot rfl (by omega) (gf := 40) (lb := #[.pointer (some ⟨Bx + 1, 0, none⟩), .pointer (some ⟨Bx + 1 + 1, 0, none⟩)]) rfl trivial (enters_of Try.func40 (by kernel_rfl) rfl)
        HIt.out (fun _ => rfl) (OutP w.heap.size Bx) (fun _ _ _ _ => False) (OutP.stable _ _) (fun c s f1 X Y hs hsz hbl => hs.elim) (OutP.bound _ _)
        (fun k => k = Bx ∨ k = gr) ⟨gr, n, rfl, H9.out.1, H9.out.2.1⟩ ?pre
        (fun q => { tmps := #[.slice pa na ca, .slice pc nl cl, undef, undef, .slice none 0 0, .slice p4 k c4, .pointer (some ⟨tp, 0, none⟩), undef, u8, .pointer (some ⟨Bx, 0, none⟩), .string q.1, .string q.2, .slice pa na ca, .bool true, .bool false, .slice pa na ca,
        .slice p2 na c2, .slice pc nl cl, .slice (some ⟨w2.heap.size, 0, none⟩) 2 2, .slice p4 k c4, .slice p4 k c4, .tuple #[], .pointer (some ⟨tp, 0, none⟩), .slice p4 k c4, .int .i64 k, .int .i64 k, .bool false, u27, u28, u29, u30, u31, u32, u33, u34, u35, u36, u37, u38, u39, u40, u41,
        .pointer (some ⟨tp, 0, none⟩), .int .i64 n, .slice (some ⟨gr, 0, none⟩) 0 n, .pointer (some ⟨tp, 0, none⟩), .func (.func 40) #[] #[.pointer (some ⟨Bx + 1, 0, none⟩), .pointer (some ⟨Bx + 1 + 1, 0, none⟩)], .string q.1, .string q.2, undef, undef, undef, undef, undef, undef, undef], defers := [] }) ?assign ?body ?done ?stop
      case pre =>
        intro W1 hb1
        obtain ⟨_, _, e1, e2, _, hsz, ft, hT, hft⟩ := H9.out
        refine ⟨(World.cell?_of_block (hb1.block (Bx + 1) (by omega))).trans e1, (World.cell?_of_block (hb1.block (Bx + 1 + 1) (by omega))).trans e2, fun h => by omega, ft, hT.stays hb1.size (fun k hk => hb1.block k (by have := hft k hk; omega)), fun k hk h => by have := hft k hk; omega⟩
      case assign =>
        intro l2 q Wx K hK
        gi_wp2_with fail
        exact hK
      case stop =>
        rintro Dm c pre f' Wd hD hnD hstd hpx h hK
        exact h.elim
      case done =>
        rintro Dm f' Wd hDm hnD hstd ⟨g, cap, rfl, hv, hrow⟩ hK
        have hcO := hv.cell
        have hsz9 := H9.out.2.2.2.2.2.1
        clear hcO
        have hcO := hv.cell
        gi_wp2_with fail
        refine ⟨by simp, .inl ⟨_, _, rfl, run_takeDeferred hK, ?_⟩⟩
        refine ⟨_, results_tmp rfl _ _ _, ?_⟩
        show Collected (patchD A L) w _ _
        rw [HDD.out]
        refine ⟨g, cap, rfl, ownsRow_putObj hrow _ hK rfl, ?_⟩
        exact H9.out.2.2.2.2.1.trans ((hstd.below (n := w.heap.size) (by omega) (fun k hk h => by omega)).trans (belowK_b (w := w) (Nat.le_refl _) Wd Dm _ _ (by omega) hK rfl rfl))
      case body =>
        rintro l2 pre ⟨a, b⟩ post f1 Wx hcut ⟨g, cap, rfl, hv, hrow⟩ hle
        have hcO := hv.cell
        have hsz9 := H9.out.2.2.2.2.2.1
        have hlen : pre.length ≤ 8000 := by
          have h2 := congrArg List.length hcut
          have := HN.out
          simp only [List.length_append, List.length_cons] at h2
          omega
        have HV := Lib.hid hv
        have HRow := Lib.hid hrow
        clear hcut hv hrow
        have hBx : w.heap.size ≤ Wx.heap.size := by omega
        gi_wp2_with (gi_at_builtin; refine wpListIn_append_own_at _ rfl _ _ 22 rfl w.heap.size 34 i0 (.agg #[.string ⟨#[]⟩, .string ⟨#[]⟩]) 2 32 Try.underlying22 hi hz0 hz1 hz2 rfl (by decide) (.slice (some ⟨g, 0, none⟩) pre.length cap) pre.length (flat pre) rfl (HRow.out.alloc _) ⟨Wx.heap.size, 0, none⟩ 1 1 [.string a, .string b] rfl rfl (pair_news _ _ _ _) (pair_one _ _) (by simp only [maxLen]; omega) (by omega) (by simp; omega) ?_; intro v' w1' hown' hgrow _ hat; obtain ⟨g', cap', rfl⟩ := ownsRow_succ hown'; obtain ⟨hv1, hv2, hr2, hk2, hb2⟩ := HV.out.appended (by decide) HRow.out hBx (by omega) hown' hgrow; have hc1 := hv1.cell; have hf1 := hv1.frozen)
        have hg' : g' = g ∨ g' = Wx.heap.size + 1 := by simpa [Value.ownBlock] using hat
        refine ⟨fun k => k = Bx ∨ k = g', ⟨hb2.os, hb2.tape, hb2.output, hb2.size, fun k hk hn => ?_, fun k hk => ?_⟩, g', cap', rfl, ?_, ?_⟩
        · exact (Below.heap_setCell w1' _ _ k (fun e => hn (.inl e))).trans ((hgrow.block k (by simp; omega) (by intro e; exact hn (.inr (by simpa [Value.ownBlock] using e)))).trans (Below.heap_alloc Wx _ k hk))
        · omega
        · simpa using hv2
        · rw [flat_snoc]; simpa using hr2

theorem patch_calls (pa pc : Option Addr) (na nl ca cl : Nat) (A : Pairs) (L : List ChD) (w : World) (hna : A.length = na) (hnl : L.length = nl) (hca : na ≤ ca) (hSA : Sl w pa A) (hSL : Sc w pc L) (hRA : Rise A) (hla : na ≤ 4000) (hll : nl ≤ 4000)
    (hkA : ∀ q ∈ A, q.1.size ≤ 281474976710656) (hkL : ∀ c ∈ L, c.key.size ≤ 281474976710656) :
    Calls Try.prog 13 #[.slice pa na ca, .slice pc nl cl] w (Collected (patchD A L) w) :=
  callsIn_wide.1 (patch_any pa pc na nl ca cl A L w hna hnl hca hSA hSL hRA hla hll hkA hkL)

end Go.Proofs.Ytbddicaabjlbjaa
