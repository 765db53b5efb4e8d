/-
  A heap's Copy.
-/
import Derived.Test.YtlgjolajnddpbaaDoorHclone
namespace Go.Proofs.YtlgjolajnddpbaaDoor
open Go Go.RowKit Go.Shelf
attribute [local go_sem ↓] Go.wp_at_zero Go.wp_at_succ

theorem ranges_below {X Y : World} {b r n cnt : Nat} {D : MapV} {left : Lit → Bool} (h : X.ranges Tryd.prog 32 anyElem b r n D left cnt) (hb : Below X.heap.size X Y) : Y.ranges Tryd.prog 32 anyElem b r n D left cnt :=
  h.kept (row := none) ⟨hb.os, hb.tape, hb.output, hb.size, fun k hk _ => hb.block k hk⟩ (by simp) (by simp)
theorem ranges_iter {X : World} {b r n cnt : Nat} {D : MapV} {left : Lit → Bool} (h : X.ranges Tryd.prog 32 anyElem b r n D left cnt) : ∃ a b c d, X.heap[r]? = some (.mapIter a b c d) := by
  obtain ⟨_, _, since, seen, c0, _, _, _, _, h1, _⟩ := h; exact ⟨_, _, _, _, h1⟩
theorem owns_below {X Y : World} {b n : Nat} {D : MapV} (hown : X.ownsMap Tryd.prog 32 anyElem b n D) (hX : Below X.heap.size X Y) : Y.ownsMap Tryd.prog 32 anyElem b n D := by
  have hbl := hown.lt
  obtain ⟨es, clock, hb, Ft, hs, hD⟩ := hown
  exact ⟨es, clock, (hX.block b hbl).trans hb, Ft, hs, hD⟩

set_option maxRecDepth 100000 in
set_option maxHeartbeats 2000000 in
theorem copy_some {W : World} {B p m : Nat} {D : HpD} {f : Nat → Prop} {g cp : Nat → Nat} (h : HpAt W B p D f (some m) g cp) :
    Calls Tryd.prog 26 #[.pointer (some ⟨p, 0, none⟩)] W (CopyR D W) := by
  obtain ⟨D0, hM, hat0⟩ := h.mapped rfl
  obtain ⟨c0, c1, c2, c3, _⟩ := h.cells
  have hp := h.plt
  have HH := Lib.hid h
  have HAt := Lib.hid hat0
  have HOwn := Lib.hid hM
  have hmlt := hM.lt
  obtain ⟨n, hn⟩ : ∃ n, (D.L.length : Int) = n := ⟨_, rfl⟩
  obtain ⟨l, hl⟩ : ∃ l, D.locked = l := ⟨_, rfl⟩
  obtain ⟨fl, hfl'⟩ : ∃ fl, (D.faults : Int) = fl := ⟨_, rfl⟩
  rw [hn] at c1
  rw [hl] at c2
  rw [hfl'] at c3
  have hHR := Lib.hid (show ∀ X : World, X.heap[W.heap.size]? = some (.cells #[.map (some (W.heap.size + 1)), .int .u64 n, .bool l, .int .i64 fl] 58 (0, 0)) → X.heap[W.heap.size]? = some (.cells #[.map (some (W.heap.size + 1)), .int .u64 D.L.length, .bool D.locked, .int .i64 D.faults] 58 (0, 0)) from fun X hX => by rw [hn, hl, hfl']; exact hX)
  clear hn hl hfl' h hM hat0
  have hln := fun ty => (owns_below HOwn.out (below_alloc W (.cells #[.map (some m), .int .u64 n, .bool l, .int .i64 fl] 58))).len Tryd.underlying56 ty
  have hmk := run_makeMap_hint
  obtain ⟨R, hR⟩ : ∃ R : Obj, R = .cells #[.map (some (W.heap.size + 1)), .int .u64 n, .bool l, .int .i64 fl] 58 := ⟨_, rfl⟩
  have hB0 := Lib.hid (show Below W.heap.size W ((W.alloc R).alloc (.map #[] 0)) from (below_alloc W R).alloc (by simp) _)
  have hown0 := Lib.hid (owns_below HOwn.out hB0.out)
  have hrec := Lib.hid (show ((W.alloc R).alloc (.map #[] 0)).heap[W.heap.size]? = some (.cells #[.map (some (W.heap.size + 1)), .int .u64 D.L.length, .bool D.locked, .int .i64 D.faults] 58 (0, 0)) from hHR.out _ (by
    rw [Below.heap_alloc _ _ _ (by simp), World.alloc_heap_new, hR]))
  have hmap := Lib.hid (show Mapped ((W.alloc R).alloc (.map #[] 0)) (W.heap.size + 1) 0 (fun _ => none) from by have := Mapped.made (W.alloc R); simpa using this)
  have hsz0 := Lib.hid (show ((W.alloc R).alloc (.map #[] 0)).heap.size = W.heap.size + 1 + 1 from by simp)
  subst hR
  clear hHR
  go_enter Tryd.func26, Tryd.ntmps26
  go_wp2_with (first
    | (at_range; refine wpList_range_own _ rfl _ 56 rfl 32 77 law_u64 Tryd.underlying56 _ m D.L.length D0 rfl hown0.out ?_; intro w0 hrg0 hg0 hs0)
    | go_in)
  go_frame
  rw [hsz0.out] at hrg0 hs0 ⊢
  have HB1 := Lib.hid (show Below W.heap.size W w0 from hB0.out.grown hg0 hB0.out.size (fun k e => by cases e))
  have hBx := Lib.hid (show Below ((W.alloc (.cells #[.map (some (W.heap.size + 1)), .int .u64 n, .bool l, .int .i64 fl] 58)).alloc (.map #[] 0)).heap.size ((W.alloc (.cells #[.map (some (W.heap.size + 1)), .int .u64 n, .bool l, .int .i64 fl] 58)).alloc (.map #[] 0)) w0 from ⟨hg0.os, hg0.tape, hg0.output, hg0.size, fun k hk => hg0.block k hk (by simp)⟩)
  have HP0 := Lib.hid (show PartAt w0 W.heap.size W.heap.size (W.heap.size + 1) D (Maps.has D0) 0 g cp from
    PartAt.start ((hBx.out.block _ (heap_at_lt hrec.out)).trans hrec.out) (hmap.out.stays (hBx.out.block _ hmap.out.lt)) (fun k hk hc => by
      unfold came at hc
      rw [has_of HAt.out hk] at hc
      cases hb : liveAt D.L k with
      | none => rfl
      | some b => rw [phi_some hb] at hc; cases hc) HH.out.many.1 (Nat.le_refl _) (Nat.le_succ _))
  have hsz := HOwn.out.size_le
  have hm1 := HH.out.many.1
  have HN := Lib.hid (show Maps.size D0 ≤ 1000000 from Nat.le_trans hsz hm1)
  have HFit := Lib.hid HH.out.fits
  have HSz := Lib.hid hsz
  clear hsz hm1 hln hmk hown0 hrec hmap hsz0 hBx hg0 hs0 c0 c1 c2 c3
  go_loopw [4] (fun _ wr => ∃ (left : Lit → Bool) (cnt j : Nat) (g2 cp2 : Nat → Nat), wr.ranges Tryd.prog 32 anyElem m (W.heap.size + 1 + 1) D.L.length D0 left cnt ∧ j + cnt ≤ Maps.size D0 ∧ PartAt wr W.heap.size W.heap.size (W.heap.size + 1) D left j g2 cp2 ∧ Below W.heap.size W wr)
    (fun _ wr => wr.rangeLeft m (W.heap.size + 1 + 1))
  case atStart =>
    exact ⟨_, _, 0, g, cp, hrg0, by simp, HP0.out, HB1.out⟩
  case round =>
    obtain ⟨left, cnt, j, g2, cp2, hrg, hcs, hP, hB⟩ := hrel
    have HP := Lib.hid hP
    have HB := Lib.hid hB
    have HRG := Lib.hid hrg
    clear hP hB hrg0 HP0 HB1
    go_wp2_with (first
      | (at_next; refine wpList_next_ranges _ rfl _ rfl 32 law_u64 anyElem (Value.int .u64) (fun v => v) (fun key kl hk => by obtain ⟨x, hx, _⟩ := Maps.keyOf_int_inv Tryd.underlying32 hk; exact ⟨x, hx⟩) (fun v _ _ => ⟨v, rfl⟩) m (W.heap.size + 1 + 1) D.L.length _ _ _ rfl hrg ?_ ?_)
      | go_in)
    · intro hc0 hl0
      go_wp2_with fail
      go_ret
      exact ⟨W.heap.size, _, rfl, HP.out.whole hl0 (by have := HSz.out; omega) HH.out.many HFit.out, HB.out⟩
    · intro x c kl yd yp w2 cnt2 hkey hlk hv hat hrg2 hlt hg2 hs2 hen
      obtain ⟨x', ex, rfl, hwf⟩ := Maps.keyOf_int_inv Tryd.underlying32 hkey
      obtain rfl : x = x' := by simpa using ex
      have hx01 : 0 ≤ x ∧ x ≤ 18446744073709551615 := by simp [Lit.wf, IntKind.min, IntKind.max, IntKind.signed, IntKind.bits] at hwf; omega
      obtain ⟨k, rfl⟩ : ∃ k : Nat, x = (k : Int) := ⟨x.toNat, by omega⟩
      have hk64 : k < 18446744073709551616 := by omega
      have hphi : phi g cp D.L k = some c := by
        have hy : yd = .held c := by
          have : (some (DataW.held c, ([] : List MemPlace))) = some (yd, yp) := hv
          exact (congrArg Prod.fst (Option.some.inj this)).symm
        have hat : ∀ zd, D0.atKey (.int .u64 (k : Int)) zd = yd := hat
        cases hph : phi g cp D.L k with
        | none =>
          have h1 := (HAt.out k hk64 .nil).symm.trans (hat .nil)
          unfold telly at h1
          rw [hph, hy] at h1
          cases h1
        | some u =>
          have h1 := (HAt.out k hk64 .nil).symm.trans (hat .nil)
          unfold telly at h1
          rw [hph, hy] at h1
          cases h1; rfl
      obtain ⟨b, hb⟩ : ∃ b, liveAt D.L k = some b := by
        cases hb : liveAt D.L k with
        | none => rw [phi_none hb] at hphi; cases hphi
        | some b => exact ⟨b, rfl⟩
      rw [phi_some hb] at hphi
      obtain rfl := Option.some.inj hphi
      have HRG2 := Lib.hid hrg2
      have HP2 := Lib.hid (HP.out.grown hg2 (ranges_iter HRG.out))
      have HB2 := Lib.hid (show Below W.heap.size W w2 from HB.out.grown hg2 HB.out.size (fun k e => by cases e; omega))
      have hfb := (HFit.out k b hb).1
      have HLk := Lib.hid (show Lot w2 32 1 (.slice (some ⟨g k, 0, none⟩) b.ws.length (cp k)) b.ws.length (b.ws.map uval) from by
        have h1 := (HH.out.lie k b hb)
        refine h1.stays (fun q hq => ?_)
        exact HB2.out.block q (h1.lt q hq))
      have HCl := Lib.hid (fun X (hX : Below w2.heap.size w2 X) => sclone_any X (g k) (cp k) b.ws (HLk.out.below hX) hfb)
      have HMore := Lib.hid (fun (x1 w4 : World) (c2 cap2 : Nat) hY hlot hge hZ hg => HP2.out.more (Y := x1) (Z := w4) (c := c2) (cap := cap2) hb (show came left k = false from by unfold came; rw [hlk]; rfl) hY hlot hge hZ hg)
      unfold CloneR at HCl
      have Hlt := Lib.hid hlt
      have Hk64 := Lib.hid hk64
      have hj3 : j < maxLen := by have := HN.out; unfold maxLen; omega
      have Hcs := Lib.hid hcs
      obtain ⟨nb, hnb⟩ : ∃ nb, b.ws.length = nb := ⟨_, rfl⟩
      obtain ⟨sb, hsb⟩ : ∃ sb, b.text = sb := ⟨_, rfl⟩
      obtain ⟨gk, hgk⟩ : ∃ gk, g k = gk := ⟨_, rfl⟩
      obtain ⟨ck, hck⟩ : ∃ ck, cp k = ck := ⟨_, rfl⟩
      obtain ⟨zk, hzk⟩ : ∃ zk, (k : Int) = zk := ⟨_, rfl⟩
      have HZk := Lib.hid hzk
      rw [hnb, hgk, hck] at HCl
      rw [hnb, hsb] at HMore
      rw [hnb, hsb, hgk, hck] at hen ⊢
      rw [hzk] at hen ⊢
      have hr0 := Lib.hid (show W.heap.size < w2.heap.size from by have := HRG2.out.lt; omega)
      have hr1 := Lib.hid (show W.heap.size + 1 < w2.heap.size from by have := HRG2.out.lt; omega)
      clear hkey hlk hv hat hrg2 hlt hg2 hs2 hphi hb hk64 hwf ex hx01 hcs HLk hnb hsb hgk hck hzk hfb
      go_wp2_with fail
      have hBV := Lib.hid (below_alloc w2 (.cells #[.slice (some ⟨gk, 0, none⟩) nb ck, .string sb] 77))
      have hV0 := Lib.hid (World.alloc_heap_new w2 (.cells #[.slice (some ⟨gk, 0, none⟩) nb ck, .string sb] 77))
      generalize w2.alloc (.cells #[.slice (some ⟨gk, 0, none⟩) nb ck, .string sb] 77) = V at hBV hV0 ⊢
      have HSC := Lib.hid (show ∀ X, Below V.heap.size V X → (X.cell? ⟨W.heap.size, 0, none⟩ = some (.map (some (W.heap.size + 1))) ∧ X.cell? ⟨w2.heap.size, 0, none⟩ = some (.slice (some ⟨gk, 0, none⟩) nb ck) ∧ X.cell? ⟨w2.heap.size, 1, none⟩ = some (.string sb)) from fun X hX => by
        have e0 := (hX.block _ (heap_at_lt hV0.out)).trans hV0.out
        have e1 := (hX.block W.heap.size (Nat.lt_of_lt_of_le hr0.out hBV.out.size)).trans ((hBV.out.block _ hr0.out).trans HP2.out.own)
        exact ⟨(cell_of e1).trans rfl, (cell_of e0).trans rfl, (cell_of e0).trans rfl⟩)
      have HY := Lib.hid (show ∀ X, Below V.heap.size V X → Below w2.heap.size w2 X from fun X hX => hBV.out.trans (hX.mono hBV.out.size))
      have A0 := Lib.hid (below_drew V)
      clear hen
      go_region_held3 (fun w' => w'.cell? ⟨W.heap.size, 0, none⟩ = some (.map (some (W.heap.size + 1))) ∧ w'.cell? ⟨w2.heap.size, 0, none⟩ = some (.slice (some ⟨gk, 0, none⟩) nb ck) ∧ w'.cell? ⟨w2.heap.size, 1, none⟩ = some (.string sb))
        (first
          | exact HS4.out
          | exact HSC.out _ X1.out
          | exact HSC.out _ A0.out
          | fail)
        (first
          | (go_at_call 56; refine (HCl.out _ (HY.out _ A0.out)).mono ?_; rintro e x1 ⟨c2, cap2, rfl, hlot, hge, hb⟩; have X1 := Lib.hid (A0.out.trans (hb.mono A0.out.size)); have HLot := Lib.hid hlot; have HGe := Lib.hid (show w2.heap.size ≤ c2 from Nat.le_trans (HY.out _ A0.out).size hge); clear hlot hge hb)
          | (obtain ⟨w4, hr4, hM4, hg4⟩ := (HP2.out.below (HY.out _ X1.out)).map.put hj3 k Hk64.out (.agg #[.slice (some ⟨c2, 0, none⟩) nb cap2, .string sb]); rw [HZk.out] at hr4; rw [hr4]; have HP4 := Lib.hid (HMore.out x1 w4 c2 cap2 (HY.out _ X1.out) HLot.out HGe.out hM4 hg4); have HG4 := Lib.hid hg4; have HS4 := Lib.hid (show (w4.cell? ⟨W.heap.size, 0, none⟩ = some (.map (some (W.heap.size + 1))) ∧ w4.cell? ⟨w2.heap.size, 0, none⟩ = some (.slice (some ⟨gk, 0, none⟩) nb ck) ∧ w4.cell? ⟨w2.heap.size, 1, none⟩ = some (.string sb)) from ⟨hg4.cell (HSC.out _ X1.out).1 (fun e => by have := Option.some.inj e; simp at this), hg4.cell (HSC.out _ X1.out).2.1 (fun e => by have := Option.some.inj e; have := hr1.out; simp at *; omega), hg4.cell (HSC.out _ X1.out).2.2 (fun e => by have := Option.some.inj e; have := hr1.out; simp at *; omega)⟩); clear hr4 hM4 hg4; go_simp)
          | fail)
      have HR4 := Lib.hid ((ranges_below HRG2.out (HY.out _ X1.out)).kept HG4.out (fun e => by have := Option.some.inj e; omega) (fun e => by have := Option.some.inj e; omega))
      have HB4 := Lib.hid (show Below W.heap.size W w4 from (HB2.out.trans ((HY.out _ X1.out).mono HB2.out.size)).grown HG4.out (Nat.le_trans HB2.out.size (HY.out _ X1.out).size) (fun k e => by cases e; omega))
      go_roundw
      case rel => exact ⟨_, _, _, _, _, _, _, _, _, _, _, _, _, _, _, _, ⟨_, cnt2, j + 1, _, _, HR4.out, by have := Hcs.out; have := Hlt.out; omega, HP4.out, HB4.out⟩, rfl⟩
      case measure => rw [HR4.out.left_eq, HRG.out.left_eq]; exact Hlt.out

theorem copy_any {W : World} {B p : Nat} {D : HpD} {f : Nat → Prop} (h : Hp W B p D f) : Calls Tryd.prog 26 #[.pointer (some ⟨p, 0, none⟩)] W (CopyR D W) := by
  obtain ⟨mb, g, cp, h⟩ := h
  cases mb with
  | none => exact copy_none h
  | some m => exact copy_some h

end Go.Proofs.YtlgjolajnddpbaaDoor
