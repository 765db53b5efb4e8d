/-
  Whatever is answered, a pin is taken as the document says: the walk.
-/
import Derived.Test.YtgigjbngocfkbaaPnrefw
namespace Go.Proofs.Ytgigjbngocfkbaa
open Go Go.RowKit
attribute [local go_sem ↓] Go.wp_at_zero Go.wp_at_succ
attribute [local go_sem] neqA_same

theorem neqRP_same (k e : Int) (b : Bool) (w : World) : (binOp .neq 41 (pndV k e b) (pndV k e b)).run Try.prog w = .ok (.bool false) w := by
  have u3 := Try.underlying3
  have u4 := Try.underlying4
  have u22 := Try.underlying22
  have hS : Try.prog.underlying 41 = some (.struct (Try.prog.fieldsOf 41)) := by kernel_rfl
  have hp : Try.prog.stoodInHeld 41 = false := by kernel_rfl
  rw [run_neq_struct, show (10000 : Nat) = 9999 + 1 from rfl, run_equalIn_agg w 9999 41 _ _ hS hp]
  simp only [Program.fieldsOf, Try.underlying41]
  have a3 := Try.isAgg3
  have z3 := Try.sizeOf3
  have a4 := Try.isAgg4
  have z4 := Try.sizeOf4
  have a22 := Try.isAgg22
  have z22 := Try.sizeOf22
  go_simp
attribute [local go_sem] neqRP_same
theorem BoxC.pgrow {W X Y : World} {a p s q v x : Int} (h : BoxC W a p s q v x X) (hb : Below (W.heap.size + 1) X Y) : BoxC W a p s q v x Y :=
  ⟨h.lo.trans (hb.mono (Nat.le_succ _)), (hb.block _ (Nat.lt_succ_self _)).trans h.b⟩
/-- Between two rounds: the config's box, the answers, the routine behind k of them. -/
structure PActI (W : World) (a p s q v x : Int) (E0 : PinD) (ga : Option Addr) (G : List (Int × ByteArray)) (r k : Nat) (X : World) : Prop where
  bx : BoxC W a p s q v x X
  row : Sgt X ga G
  at_ : PinAt X (W.heap.size + 1) r (fed PinM E0 (G.take k)) (fun j => j = r)
theorem PinAt.below {W W' : World} {B r : Nat} {v : PinD} {f : Nat → Prop} (h : PinAt W B r v f) (hb : Below W.heap.size W W') : PinAt W' B r v f := h.stays (fun k hk => hb.block k (h.lt k hk))
section
variable {W X Y : World} {a p s q v x : Int} {E0 : PinD} {ga : Option Addr} {G : List (Int × ByteArray)} {r k : Nat}
theorem PActI.below (h : PActI W a p s q v x E0 ga G r k X) (hb : Below X.heap.size X Y) : PActI W a p s q v x E0 ga G r k Y := ⟨h.bx.below hb, h.row.grow hb, h.at_.below hb⟩
theorem PActI.many (h : PActI W a p s q v x E0 ga G r k X) : W.heap.size < X.heap.size := heap_at_lt h.bx.b
theorem PActI.took (h : PActI W a p s q v x E0 ga G r k X) (hk : k < G.length) (hs : (PinM.next (fed PinM E0 (G.take k))).isSome = true) (hga : ∀ a, ga = some a → a.block < W.heap.size)
    (hv : PinAt Y (W.heap.size + 1) r (takeP (fed PinM E0 (G.take k)) (G[k]'hk).1 (G[k]'hk).2) (fun j => j = r)) (hst : Step (fun j => j = r) (fun j => j = r) X Y) : PActI W a p s q v x E0 ga G r (k + 1) Y := by
  have hbs := h.at_.base
  refine ⟨h.bx.pgrow (hst.below h.many (fun j hj e => by omega)), h.row.apart (fun a ha => hst.block _ (by have := hga a ha; have := h.many; omega) (by have := hga a ha; omega)), ?_⟩
  rw [List.take_succ_eq_append_getElem hk, fed_snoc, feed_some hs]
  exact hv
theorem PActI.idle (h : PActI W a p s q v x E0 ga G r k X) (hk : G.length ≤ k) : PActI W a p s q v x E0 ga G r (k + 1) X := by
  refine ⟨h.bx, h.row, ?_⟩
  rw [List.take_of_length_le (by omega)]
  have := h.at_
  rw [List.take_of_length_le hk] at this
  exact this
end

set_option maxRecDepth 100000 in
set_option maxHeartbeats 8000000 in
theorem pacts_walk (a p s q v x th : Int) (ga : Option Addr) (n c : Nat) (G : List (Int × ByteArray)) (W : World)
    (hS : Sgt W ga G) (hl : G.length = n) (hnc : n ≤ c) (hc : c ≤ maxLen) (hga : ∀ a, ga = some a → a.block < W.heap.size) (hG : ∀ g ∈ G, (0 ≤ g.1 ∧ g.1 < 18446744073709551616)) (hGt : ∀ g ∈ G, g.2.size ≤ 281474976710656) :
    Calls Try.prog 3 #[cfV a p s q v x, .int .i64 th, .slice ga n c] W (Says true W) := by
  have X0 := Lib.hid (BoxC.start W a p s q v x)
  obtain ⟨c0, c1, c2, c3, c4, c5⟩ := X0.out.six
  by_cases hbig : 60 < n
  · have hz : (60 : Int) < (n : Int) := by omega
    clear hS hl hnc hc hga hG hGt
    go_enter Try.func3, Try.ntmps3
    go_wp2_with fail
    refine (pawake_any _).mono ?_
    rintro en w1 ⟨rfl, hb1⟩
    have B1 := Lib.hid (X0.out.lo.trans (hb1.mono X0.out.lo.size))
    clear hb1
    go_wp2_with fail
    go_ret
    exact Says.mk rfl B1.out
  have hz : ¬ (60 : Int) < (n : Int) := by omega
  have hz8 : (n : Int) ≤ 60 := by omega
  have HRr := Lib.hid (fun X : World => rright_any a p s q v x X)
  by_cases hr : rightC a p s q v = true ∧ 0 ≤ th
  rotate_left
  · have hbad : rightC a p s q v = false ∨ th < 0 := by
      by_cases h : rightC a p s q v = true
      · exact .inr (by have : ¬ 0 ≤ th := fun h' => hr ⟨h, h'⟩; omega)
      · exact .inl (by simpa using h)
    have HNw := Lib.hid (fun X => pnew_bad X a p s q v x th hbad)
    obtain ⟨rb, hrb⟩ : ∃ rb, rightC a p s q v = rb := ⟨_, rfl⟩
    rw [hrb] at HRr hbad
    clear hS hl hnc hc hga hG hGt hr hrb
    go_enter Try.func3, Try.ntmps3
    go_wp2_with fail
    refine (HNw.out _).mono ?_
    rintro en w1 ⟨r, rfl, -, ho, hb1⟩
    have X1 := Lib.hid (X0.out.below hb1)
    have O1 := Lib.hid ho
    clear hb1 ho c0 c1 c2 c3 c4 c5 X0
    obtain ⟨c0, c1, c2, c3, c4, c5⟩ := X1.out.six
    go_wp2_with fail
    refine (HRr.out _).mono ?_
    rintro en w2 ⟨rfl, hb⟩
    have B2 := Lib.hid (X1.out.lo.trans (hb.mono X1.out.lo.size))
    have O2 := Lib.hid ((hb.block _ (heap_at_lt O1.out)).trans O1.out)
    have HAc := Lib.hid (pact_any w2 O2.out (by show 0 ≤ 5; omega))
    clear hb c0 c1 c2 c3 c4 c5 X1 O1
    have hcs : (rb = false) ∨ (rb = true ∧ th < 0) := by
      cases rb with
      | false => exact .inl rfl
      | true => exact .inr ⟨rfl, hbad.elim (fun h => by cases h) id⟩
    clear hbad
    rcases hcs with rfl | ⟨rfl, hth⟩
    all_goals
      go_wp2_with fail
      refine HAc.out.mono ?_
      rintro en w3 ⟨rfl, hb⟩
      have hx := hb.trans ((below_alloc w3 (actO noAct)).mono hb.size)
      have B3 := Lib.hid (B2.out.trans (hx.mono B2.out.size))
      have O3 := Lib.hid ((hx.block _ (heap_at_lt O2.out)).trans O2.out)
      rw [show (nextP PinD.zero).getD noAct = noAct from rfl, show (nextP PinD.zero).isSome = false from rfl]
      clear hb hx B2 O2 HAc
      go_wp2_with fail
      refine (pres_any _ O3.out).mono ?_
      rintro en w4 ⟨rfl, hb⟩
      rw [show resP PinD.zero = ((0, 0, false), false) from rfl]
      have hx := hb.trans ((below_alloc w4 (pndO 0 0 false)).mono hb.size)
      have B4 := Lib.hid (B3.out.trans (hx.mono B3.out.size))
      clear hb hx B3 O3
      go_wp2_with fail
      refine (pawake_any _).mono ?_
      rintro en w5 ⟨rfl, hb⟩
      have B5 := Lib.hid (B4.out.trans (hb.mono B4.out.size))
      clear hb
      go_wp2_with fail
      go_ret
      exact Says.mk rfl B5.out
  obtain ⟨hr, hth⟩ := hr
  rw [hr] at HRr
  have hth0 : ¬ th < 0 := by omega
  obtain ⟨E0, hE0⟩ : ∃ d, newP a p s q v x th = d := ⟨_, rfl⟩
  have HNw := Lib.hid (fun X => (by have := pnew_any X a p s q v x th hr hth; rw [hE0] at this; exact this : Calls Try.prog 7 #[cfV a p s q v x, .int .i64 th] X (NewPE E0 X)))
  have HFt := Lib.hid (show E0.fits from by rw [← hE0]; exact newP_fits hr x th)
  have HRf := Lib.hid (fun (X : World) (b m : Nat) (G' : List (Int × ByteArray)) (hX : TapAt X b ga m G' tape0) hga' hG' => (by have := rpin_any X hX hga' hG' a p s q v x th hr hth; rw [hE0] at this; exact this :
    Calls Try.prog 11 #[.pointer (some ⟨b, 0, none⟩), cfV a p s q v x, .int .i64 th] X (PrefR E0 b ga m G' X)))
  have HT := Lib.hid (hS.grow (below_alloc W (.cells #[.int .i64 a, .int .i64 p, .int .i64 s, .int .i64 q, .int .i64 v, .int .u64 x] 24)))
  have HPs := Lib.hid (And.intro hl (And.intro hnc (And.intro hc (And.intro hga (And.intro hG hGt)))))
  clear hS hl hnc hc hga hG hGt hr hE0 hbig hth
  go_enter Try.func3, Try.ntmps3
  go_wp2_with fail
  refine (HNw.out _).mono ?_
  rintro en w1 ⟨r, rfl, hr, ho, hb1⟩
  have HI := Lib.hid (show PActI W a p s q v x E0 ga G r 0 w1 from
    ⟨X0.out.below hb1, HT.out.grow hb1, ⟨ho, rfl, Nat.le_trans (heap_at_lt X0.out.b) hr, HFt.out⟩⟩)
  clear hr ho hb1 c0 c1 c2 c3 c4 c5 X0 HT HNw HFt
  obtain ⟨c0, c1, c2, c3, c4, c5⟩ := HI.out.bx.six
  go_wp2_with fail
  refine (HRr.out _).mono ?_
  rintro en w2 ⟨rfl, hb⟩
  have HI2 := Lib.hid (HI.out.below hb)
  clear hb c0 c1 c2 c3 c4 c5 HI HRr
  go_wp2_with fail
  go_loopw [12] (fun s8 wr => ∃ k : Nat, s8 = .int .i64 k ∧ k ≤ n + 1 ∧ Hid (PActI W a p s q v x E0 ga G r k wr)) (fun s8 _ => n + 2 - (intOf s8).toNat)
  case atStart => exact ⟨0, rfl, Nat.zero_le _, HI2⟩
  case round => as_aux_lemma =>
    clear HI2
    obtain ⟨k, rfl, hkn, HI⟩ := hrel
    have hk0 : (0 : Int) ≤ (k : Int) := by omega
    by_cases hk : k ≤ n
    · have hkz : (k : Int) ≤ (n : Int) := by omega
      obtain ⟨hl, hnc, hc, hga, hG, -⟩ := HPs.out
      have hkc : (k : Int) ≤ (c : Int) := by omega
      have hcb : (c : Int) ≤ 9223372036854775807 := by simp [maxLen] at hc; omega
      have HI1 := Lib.hid (HI.out.below (below_alloc wr (tapZ ga k c)))
      have hlk : (G.take k).length = k := by rw [List.length_take, hl]; omega
      have HT1 := Lib.hid (show TapAt (wr.alloc (tapZ ga k c)) wr.heap.size ga c (G.take k) tape0 from
        ⟨by rw [hlk]; exact World.alloc_heap_new wr _, HI1.out.row.take k, fun a ha => by have := hga a ha; have := HI.out.many; omega, Nat.zero_le _, by omega⟩)
      have HG1 := Lib.hid (show ∀ a, ga = some a → a.block < (wr.alloc (tapZ ga k c)).heap.size from fun a ha => by have := hga a ha; have := HI1.out.many; omega)
      have HB1 := Lib.hid (below_alloc wr (tapZ ga k c))
      obtain ⟨E, hE⟩ : ∃ E, fed PinM E0 (G.take k) = E := ⟨_, rfl⟩
      have HRk := Lib.hid (HRf.out _ _ _ _ HT1.out HG1.out (fun g hg => hG g (List.mem_of_mem_take hg)))
      have HEE := Lib.hid hE
      obtain ⟨c0, c1, c2, c3, c4, c5⟩ := HI1.out.bx.six
      clear hl hnc hc hga hG hlk hE HG1
      go_wp2_with fail
      refine HRk.out.mono ?_
      rintro en w2 ⟨T, rn, re, rt, rfl, h2, s2, hfol⟩
      have hov := hfol.over
      unfold FolR at hfol
      rw [HEE.out] at hov hfol
      obtain ⟨y, hy⟩ : ∃ y, (PinM.next E).getD noAct = y := ⟨_, rfl⟩
      obtain ⟨q', hq⟩ : ∃ q, (PinM.next E).isSome = q := ⟨_, rfl⟩
      rw [hy, hq] at hov
      have hres : (q' = true → resP E = ((0, 0, false), false)) ∧ (q' = false → resP E = ((rn, re, rt), true)) := by
        refine ⟨fun e => ?_, fun e => ?_⟩
        · have hp := nextP_part (v := E) (hq.trans e)
          exact if_neg (by omega)
        · rcases hfol with ho | ⟨-, -, -, h4⟩
          · rw [← hov.1] at e; rw [ho.on] at e; cases e
          · by_cases h5 : E.part = 5
            · simp only at h4
              rw [if_pos h5] at h4
              have := Option.some.inj h4
              unfold resP
              rw [if_pos h5, this]
            · simp only at h4
              rw [if_neg h5] at h4; cases h4
      have HRes := Lib.hid hres
      have HYQ := Lib.hid (And.intro hy hq)
      have HT12 := Lib.hid hov
      have hb2 : Below wr.heap.size (wr.alloc (tapZ ga k c)) w2 := s2.below (by simp) (fun j hj => by omega)
      have HT2 := Lib.hid h2
      have HI2 := Lib.hid (HI.out.below (HB1.out.trans hb2))
      clear h2 s2 hb2 HI1 HT1 HRk HB1 c0 c1 c2 c3 c4 c5 hov hfol hy hq hres
      have hx := below_alloc w2 (rpnO rn re rt)
      have HI3 := Lib.hid (HI2.out.below hx)
      have HT3 := Lib.hid (HT2.out.below hx)
      have HN3 := Lib.hid (World.alloc_heap_new w2 (rpnO rn re rt))
      clear hx HI2 HT2
      go_wp2_with fail
      generalize hm14 : w2.heap.size = m14 at HN3 ⊢
      generalize w2.alloc (rpnO rn re rt) = w3 at HI3 HT3 HN3 ⊢
      have HAc := Lib.hid (show Calls Try.prog 9 #[.pointer (some ⟨r, 0, none⟩)] w3 fun e W' => e = .returned (.tuple #[actOf ((PinM.next (fed PinM E0 (G.take k))).getD noAct), .bool (PinM.next (fed PinM E0 (G.take k))).isSome]) ∧ Below w3.heap.size w3 W' from PinM.act HI3.out.at_)
      rw [HEE.out, HYQ.out.1, HYQ.out.2] at HAc
      clear hm14
      refine HAc.out.mono ?_
      rintro en w4 ⟨rfl, hb4⟩
      have hx := hb4.trans ((below_alloc w4 (actO y)).mono hb4.size)
      have HI4 := Lib.hid (HI3.out.below hx)
      have HT4 := Lib.hid (HT3.out.below hx)
      have HN4 := Lib.hid ((hx.block _ (heap_at_lt HN3.out)).trans HN3.out)
      have HA4 := Lib.hid (World.alloc_heap_new w4 (actO y))
      clear hx hb4 HI3 HT3 HN3 HAc
      go_wp2_with fail
      generalize hm15 : w4.heap.size = m15 at HA4 ⊢
      generalize w4.alloc (actO y) = w5 at HI4 HT4 HN4 HA4 ⊢
      clear hm15
      have HRs := Lib.hid (pres_any w5 HI4.out.at_.own)
      rw [HEE.out] at HRs
      cases q' with
      | true =>
        unfold PresE at HRs
        rw [HRes.out.1 rfl] at HRs
        refine HRs.out.mono ?_
        rintro en w6 ⟨rfl, hb6⟩
        have hx := hb6.trans ((below_alloc w6 (pndO 0 0 false)).mono hb6.size)
        have HI6 := Lib.hid (HI4.out.below hx)
        have HT6 := Lib.hid (HT4.out.below hx)
        have HN6 := Lib.hid ((hx.block _ (heap_at_lt HN4.out)).trans HN4.out)
        have HA6 := Lib.hid ((hx.block _ (heap_at_lt HA4.out)).trans HA4.out)
        have HF6 := Lib.hid (World.alloc_heap_new w6 (pndO 0 0 false))
        clear hx hb6 HI4 HT4 HN4 HA4 HRs
        go_wp2_with fail
        generalize hm17 : w6.heap.size = m17 at HF6 ⊢
        generalize w6.alloc (pndO 0 0 false) = w7 at HI6 HT6 HN6 HA6 HF6 ⊢
        clear hm17
        obtain ⟨⟨-, -, t2, t3, t4, t5, t6, t7, t8⟩, -⟩ := HT6.out.nine
        obtain ⟨a0, a1, a2, a3, a4, a5⟩ := six_at HA6.out
        obtain ⟨n0, n1, n2⟩ := pnd_at HN6.out
        obtain ⟨f0, f1, f2⟩ := pnd_at HF6.out
        rw [HT12.out.1] at t2
        rw [HT12.out.2] at t3 t4 t5 t6 t7 t8
        go_quiet (fail)
        rename Nat => nq
        have HI7 := Lib.hid (HI6.out.below (below_draws w7 nq))
        have hov : (w7.drewN nq).cell? ⟨wr.heap.size, 2, none⟩ = some (.bool true) := t2
        clear t2 t3 t4 t5 t6 t7 t8 a0 a1 a2 a3 a4 a5 n0 n1 n2 f0 f1 f2 HI6 HT6 HN6 HA6 HF6
        generalize w7.drewN nq = X5 at HI7 hov ⊢
        by_cases hkn2 : k < n
        · have hknz : (k : Int) < (n : Int) := by omega
          have hkG : k < G.length := by have := HPs.out.1; omega
          obtain ⟨db, o, hga, d0, d1⟩ := HI7.out.row k hkG
          obtain ⟨gw, hgw⟩ : ∃ w, (G[k]'hkG).1 = w := ⟨_, rfl⟩
          obtain ⟨gt, hgt⟩ : ∃ w, (G[k]'hkG).2 = w := ⟨_, rfl⟩
          have hrange : 0 ≤ gw ∧ gw < 18446744073709551616 := by rw [← hgw]; exact HPs.out.2.2.2.2.1 _ (List.getElem_mem hkG)
          rw [hgw] at d0
          rw [hgt] at d1
          have hsome : (PinM.next (fed PinM E0 (G.take k))).isSome = true := by rw [HEE.out]; exact HYQ.out.2
          have HTk := Lib.hid (show Calls Try.prog 12 #[.pointer (some ⟨r, 0, none⟩), gotV gw gt] X5 (fun e W' => ∃ f', e = .returned (.tuple #[]) ∧ PinAt W' (W.heap.size + 1) r (takeP (fed PinM E0 (G.take k)) gw gt) f' ∧ Step (fun j => j = r) f' X5 W') from
            pin_takes HI7.out.at_ hsome (w := gw) (t := gt) ⟨hrange, by rw [← hgt]; exact HPs.out.2.2.2.2.2 _ (List.getElem_mem hkG)⟩)
          have HTook := Lib.hid (fun (Y : World) hv hst => HI7.out.took (Y := Y) hkG hsome HPs.out.2.2.2.1 hv hst)
          rw [hgw, hgt] at HTook
          subst hga
          have hk1 : (k : Int) ≤ 60 := by omega
          clear HI7 hgw hgt hrange hkG hsome
          go_wp2_with fail
          refine HTk.out.mono ?_
          rintro en w8 ⟨f8, rfl, h8, s8⟩
          have hf8 : f8 = fun j => j = r := h8.foot
          subst hf8
          have HI8 := Lib.hid (HTook.out w8 h8 s8)
          clear h8 s8 HTk HTook
          go_wp2_with fail
          go_roundw
          case rel => exact ⟨k + 1, by go_num, by omega, HI8⟩
          case measure => simp [intOf]; omega
        · have hknz : ¬ (k : Int) < (n : Int) := by omega
          have HI8 := Lib.hid (HI7.out.idle (by have := HPs.out.1; omega))
          clear HI7
          go_wp2_with fail
          go_roundw
          case rel => exact ⟨k + 1, by go_num, by omega, HI8⟩
          case measure => simp [intOf]; omega
      | false =>
        unfold PresE at HRs
        rw [HRes.out.2 rfl] at HRs
        refine HRs.out.mono ?_
        rintro en w6 ⟨rfl, hb6⟩
        have hx := hb6.trans ((below_alloc w6 (pndO rn re rt)).mono hb6.size)
        have HI6 := Lib.hid (HI4.out.below hx)
        have HT6 := Lib.hid (HT4.out.below hx)
        have HN6 := Lib.hid ((hx.block _ (heap_at_lt HN4.out)).trans HN4.out)
        have HA6 := Lib.hid ((hx.block _ (heap_at_lt HA4.out)).trans HA4.out)
        have HF6 := Lib.hid (World.alloc_heap_new w6 (pndO rn re rt))
        clear hx hb6 HI4 HT4 HN4 HA4 HRs
        go_wp2_with fail
        generalize hm17 : w6.heap.size = m17 at HF6 ⊢
        generalize w6.alloc (pndO rn re rt) = w7 at HI6 HT6 HN6 HA6 HF6 ⊢
        clear hm17
        obtain ⟨⟨-, -, t2, t3, t4, t5, t6, t7, t8⟩, -⟩ := HT6.out.nine
        obtain ⟨a0, a1, a2, a3, a4, a5⟩ := six_at HA6.out
        obtain ⟨n0, n1, n2⟩ := pnd_at HN6.out
        obtain ⟨f0, f1, f2⟩ := pnd_at HF6.out
        rw [HT12.out.1] at t2
        rw [HT12.out.2] at t3 t4 t5 t6 t7 t8
        go_quiet (fail)
        rename Nat => nq
        have hov : (w7.drewN nq).cell? ⟨wr.heap.size, 2, none⟩ = some (.bool false) := t2
        have HLow := Lib.hid (HI6.out.bx.lo.trans ((below_draws w7 nq).mono HI6.out.bx.lo.size))
        clear t2 t3 t4 t5 t6 t7 t8 a0 a1 a2 a3 a4 a5 n0 n1 n2 f0 f1 f2 HI6 HT6 HN6 HA6 HF6
        generalize w7.drewN nq = X5 at HLow hov ⊢
        go_wp2_with fail
        refine (pawake_any _).mono ?_
        rintro en w8 ⟨rfl, hb8⟩
        have B8 := Lib.hid (HLow.out.trans (hb8.mono HLow.out.size))
        clear hb8
        go_wp2_with fail
        go_ret
        exact Says.mk rfl B8.out
    · have hkz : ¬ (k : Int) ≤ (n : Int) := by omega
      have HLow := Lib.hid HI.out.bx.lo
      clear HI
      go_wp2_with fail
      refine (pawake_any _).mono ?_
      rintro en w1 ⟨rfl, hb1⟩
      have B1 := Lib.hid (HLow.out.trans (hb1.mono HLow.out.size))
      clear hb1
      go_wp2_with fail
      go_ret
      exact Says.mk rfl B1.out

end Go.Proofs.Ytgigjbngocfkbaa
