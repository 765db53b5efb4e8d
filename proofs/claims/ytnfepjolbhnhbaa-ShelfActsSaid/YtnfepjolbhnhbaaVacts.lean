/-
  Whatever is answered, a version is made as the document says: the walk.
-/
import Derived.Test.YtnfepjolbhnhbaaVsame
import Derived.Test.YtnfepjolbhnhbaaVbox
namespace Go.Proofs.Ytnfepjolbhnhbaa
open Go Go.RowKit
attribute [local go_sem ↓] Go.wp_at_zero Go.wp_at_succ
attribute [local go_sem] neqA_same

abbrev tapZ (ga : Option Addr) (k c : Nat) : Obj := .cells #[.slice ga k c, .int .i64 0, .bool false, .int .i64 0, .int .u64 0, .int .i64 0, .int .u64 0, .int .u64 0, .string ⟨#[]⟩] 34 (0, 0)
/-- Between two rounds: the boxes, the answers, the routine behind k of them. -/
structure ActI (W : World) (ep nx : Int) (key : ByteArray) (has : Bool) (val t : ByteArray) (ga : Option Addr) (G : List (Int × ByteArray)) (r k : Nat) (X : World) : Prop where
  bx : Boxes W ep nx key has val X
  row : Sgt X ga G
  at_ : VerAt X (W.heap.size + 2) r (runV ⟨ep, nx, has, t, 1, 0⟩ (G.take k)) (fun j => j = r)
  past : ∀ j, j < k → (nextV (runV ⟨ep, nx, has, t, 1, 0⟩ (G.take j))).isSome = true
section
variable {W X Y : World} {ep nx : Int} {key val t : ByteArray} {has : Bool} {ga : Option Addr} {G : List (Int × ByteArray)} {r k : Nat}
theorem ActI.below (h : ActI W ep nx key has val t ga G r k X) (hb : Below X.heap.size X Y) : ActI W ep nx key has val t ga G r k Y :=
  ⟨h.bx.below (Nat.le_refl _) (hb.mono h.bx.many), h.row.grow hb, h.at_.below hb, h.past⟩
theorem ActI.same (h : ActI W ep nx key has val t ga G r k X) (hG : ∀ g ∈ G, 0 ≤ g.1 ∧ g.1 < 18446744073709551616) : SameV (G.take k) ep nx has t :=
  same_any _ (fun g hg => hG g (List.mem_of_mem_take hg)) ep nx has t (fun j hj => by
    have hjk : j < k := by have := List.length_take_le k G; omega
    rw [List.take_take, Nat.min_eq_left (by omega)]
    exact h.past j hjk)
theorem ActI.took (h : ActI W ep nx key has val t ga G r k X) (hk : k < G.length) (hs : (nextV (runV ⟨ep, nx, has, t, 1, 0⟩ (G.take k))).isSome = true) (hga : ∀ a, ga = some a → a.block < W.heap.size)
    (hv : VerAt Y (W.heap.size + 2) r (takeV (runV ⟨ep, nx, has, t, 1, 0⟩ (G.take k)) (G[k]'hk).1 (G[k]'hk).2) (fun j => j = r)) (hst : Step (fun j => j = r) (fun j => j = r) X Y) : ActI W ep nx key has val t ga G r (k + 1) Y := by
  refine ⟨h.bx.below (Nat.le_refl _) (hst.below h.bx.many (fun j hj => by have := h.at_.base; omega)), h.row.apart (fun a ha => hst.block _ (by have := hga a ha; have := h.bx.many; omega) (by have := hga a ha; have := h.at_.base; omega)), ?_, fun j hj => ?_⟩
  · rw [List.take_succ_eq_append_getElem hk, runV_snoc]; exact hv
  · rcases Nat.lt_or_ge j k with h1 | h1
    · exact h.past j h1
    · obtain rfl : j = k := by omega
      exact hs
theorem ActI.idle (h : ActI W ep nx key has val t ga G r k X) (hk : G.length ≤ k) (hs : (nextV (runV ⟨ep, nx, has, t, 1, 0⟩ (G.take k))).isSome = true) : ActI W ep nx key has val t ga G r (k + 1) X := by
  refine ⟨h.bx, h.row, ?_, fun j hj => ?_⟩
  · rw [List.take_of_length_le (by omega)]
    have := h.at_
    rw [List.take_of_length_le hk] at this
    exact this
  · rcases Nat.lt_or_ge j k with h1 | h1
    · exact h.past j h1
    · obtain rfl : j = k := by omega
      exact hs
end

set_option maxRecDepth 100000 in
set_option maxHeartbeats 8000000 in
theorem acts_walk (ep nx : Int) (he : 0 ≤ ep ∧ ep < 18446744073709551616) (hn : 0 ≤ nx ∧ nx < 18446744073709551616) (key : ByteArray) (has : Bool) (val : ByteArray) (hv : val.size ≤ 281474976710656) (ga : Option Addr) (n c : Nat) (G : List (Int × ByteArray)) (W : World)
    (hS : Sgt W ga G) (hl : G.length = n) (hnc : n ≤ c) (hc : c ≤ maxLen) (hga : ∀ a, ga = some a → a.block < W.heap.size) (hG : ∀ g ∈ G, (0 ≤ g.1 ∧ g.1 < 18446744073709551616)) (hGt : ∀ g ∈ G, g.2.size ≤ 281474976710656) :
    Calls Try.prog 3 #[.agg #[.int .u64 ep, .int .u64 nx], .agg #[.string key, .bool has, .string val], .slice ga n c] W (Says true W) := by
  have X0 := Lib.hid (Boxes.start W ep nx key has val)
  have hlow := X0.out.low
  obtain ⟨x0, x1, x2, x3, x4⟩ := X0.out.cells
  by_cases hbig : 8 < n
  · have hz : (8 : Int) < (n : Int) := by omega
    clear hS hl hnc hc hga hG hGt he hn hv
    go_enter Try.func3, Try.ntmps3
    go_wp2_with fail
    refine (awake_any _).mono ?_
    rintro en w1 ⟨rfl, hb1⟩
    have B1 := Lib.hid (X0.out.low.trans (hb1.mono X0.out.low.size))
    clear hb1
    go_wp2_with fail
    go_ret
    exact Says.mk rfl B1.out
  · have hz : ¬ (8 : Int) < (n : Int) := by omega
    by_cases h1000 : val.size ≤ 1000
    · have hvz : (val.size : Int) ≤ 1000 := by omega
      have hz8 : (n : Int) ≤ 8 := by omega
      have HT := Lib.hid (hS.grow hlow)
      have HPs := Lib.hid (And.intro hl (And.intro hnc (And.intro hc (And.intro hga (And.intro hG hGt)))))
      have HFt := Lib.hid (newV_fits (has := has) he hn hv)
      obtain ⟨t, ht⟩ : ∃ t, (if has then val else ⟨#[]⟩ : ByteArray) = t := ⟨_, rfl⟩
      have HTt := Lib.hid ht
      have HNw := Lib.hid (fun X => (by have := newv_any X ep nx key has val hv; unfold newV at this; rw [ht] at this; exact this : Calls Try.prog 6 #[.int .u64 ep, .int .u64 nx, .agg #[.string key, .bool has, .string val]] X (NewVE ⟨ep, nx, has, t, 1, 0⟩ X)))
      unfold newV at HFt
      rw [ht] at HFt
      clear hS hl hnc hc hga hG hGt he hn hv ht hlow h1000 hbig
      go_enter Try.func3, Try.ntmps3
      go_wp2_with fail
      refine (HNw.out _).mono ?_
      rintro en w1 ⟨r, rfl, hr, ho, hb1⟩
      have HI := Lib.hid (show ActI W ep nx key has val t ga G r 0 w1 from
        ⟨X0.out.below (Nat.le_refl _) (hb1.mono X0.out.many), HT.out.grow hb1, ⟨ho, rfl, Nat.le_trans X0.out.many hr, HFt.out⟩, fun j hj => absurd hj (Nat.not_lt_zero _)⟩)
      clear hr ho hb1 x0 x1 x2 x3 x4 X0 HT HNw HFt
      go_wp2_with fail
      go_loopw [8] (fun s8 wr => ∃ k : Nat, s8 = .int .i64 k ∧ k ≤ n + 1 ∧ Hid (ActI W ep nx key has val t ga G r k wr)) (fun s8 _ => n + 2 - (intOf s8).toNat)
      case atStart => exact ⟨0, rfl, Nat.zero_le _, HI⟩
      case round =>
        clear HI
        obtain ⟨k, rfl, hkn, HI⟩ := hrel
        have hk0 : (0 : Int) ≤ (k : Int) := by omega
        by_cases hk : k ≤ n
        · have hkz : (k : Int) ≤ (n : Int) := by omega
          obtain ⟨hl, hnc, hc, hga, hG, -⟩ := HPs.out
          have hkc : (k : Int) ≤ (c : Int) := by omega
          have hcb : (c : Int) ≤ 9223372036854775807 := by simp [maxLen] at hc; omega
          have HI1 := Lib.hid (HI.out.below (below_alloc wr (tapZ ga k c)))
          have hlk : (G.take k).length = k := by rw [List.length_take, hl]; omega
          have HT1 := Lib.hid (show TapAt (wr.alloc (tapZ ga k c)) wr.heap.size ga c (G.take k) tape0 from
            ⟨by rw [hlk]; exact World.alloc_heap_new wr _, HI1.out.row.take k, fun a ha => by have := hga a ha; have := HI.out.bx.many; omega, Nat.zero_le _, by omega⟩)
          have HG1 := Lib.hid (show ∀ a, ga = some a → a.block < (wr.alloc (tapZ ga k c)).heap.size from fun a ha => by have := hga a ha; have := HI1.out.bx.many; omega)
          have HB1 := Lib.hid (below_alloc wr (tapZ ga k c))
          have HRf := Lib.hid (ref_any _ HT1.out HG1.out (fun g hg => hG g (List.mem_of_mem_take hg)) ep nx key has val t HTt.out)
          have HSm := Lib.hid (HI.out.same hG)
          obtain ⟨⟨V1, T⟩, hV⟩ : ∃ V, verT (G.take k) ep nx has t = V := ⟨_, rfl⟩
          obtain ⟨v, hvv⟩ : ∃ v, runV ⟨ep, nx, has, t, 1, 0⟩ (G.take k) = v := ⟨_, rfl⟩
          unfold SameV at HSm
          rw [hV, hvv] at HSm
          rw [hV] at HRf
          have HVV := Lib.hid hvv
          obtain ⟨x0, x1, x2, x3, x4⟩ := HI1.out.bx.cells
          have hxv : ∀ w : World, w.cell? ⟨wr.heap.size, 0, none⟩ = w.cell? ⟨wr.heap.size, 0, none⟩ := fun _ => rfl
          clear hl hnc hc hga hG hlk hV hvv hxv HG1
          go_wp2_with fail
          refine HRf.out.mono ?_
          rintro en w2 ⟨rfl, h2, s2⟩
          have hb2 : Below wr.heap.size (wr.alloc (tapZ ga k c)) w2 := s2.below (by simp) (fun j hj => by omega)
          have HT2 := Lib.hid h2
          have HI2 := Lib.hid (HI.out.below (HB1.out.trans hb2))
          clear h2 s2 hb2 HI1 HT1 HRf HB1 x0 x1 x2 x3 x4
          go_wp2_with fail
          refine (act_is w2 HI2.out.at_).mono ?_
          rintro en w3 ⟨rfl, hb3⟩
          rw [HVV.out]
          obtain ⟨y, hy⟩ : ∃ y, (nextV v).getD noAct = y := ⟨_, rfl⟩
          obtain ⟨q, hq⟩ : ∃ q, (nextV v).isSome = q := ⟨_, rfl⟩
          rw [hy, hq]
          have HI4 := Lib.hid (HI2.out.below (hb3.trans ((below_alloc w3 (actO y)).mono hb3.size)))
          have HT4 := Lib.hid (HT2.out.below (hb3.trans ((below_alloc w3 (actO y)).mono hb3.size)))
          have HA4 := Lib.hid (World.alloc_heap_new w3 (actO y))
          have HRs := Lib.hid (result_any _ HI4.out.at_)
          rw [HVV.out] at HRs
          obtain ⟨ov, hov⟩ : ∃ o, T.over = o := ⟨_, rfl⟩
          obtain ⟨ta, hta⟩ : ∃ x, T.act = x := ⟨_, rfl⟩
          obtain ⟨⟨-, -, m2, m3, m4, m5, m6, m7, m8⟩, -⟩ := HT4.out.nine
          obtain ⟨a0, a1, a2, a3, a4, a5⟩ := six_at HA4.out
          rw [hov] at m2
          rw [hta] at m3 m4 m5 m6 m7 m8
          obtain ⟨e1, e2, e3, e4⟩ := HSm.out
          rw [hov, hq] at e1
          rw [hta, hy] at e2
          subst e1 e2
          clear hb3 HI2 HT2 hta
          cases ov with
          | true =>
            have hp5 := e4 hq
            rw [if_neg hp5, decide_eq_false hp5] at HRs
            have HNx := Lib.hid (show (nextV (runV ⟨ep, nx, has, t, 1, 0⟩ (G.take k))).isSome = true from by rw [HVV.out]; exact hq)
            clear e3 e4 hp5 hq hy hov HSm
            go_wp2_with fail
            refine HRs.out.mono ?_
            rintro en w5 ⟨rfl, rfl⟩
            go_wp2_with fail
            go_quiet (fail)
            rename_i nq
            have HI5 := Lib.hid (HI4.out.below (below_draws (w3.alloc (actO ta)) nq))
            have HT5 := Lib.hid (HT4.out.below (below_draws (w3.alloc (actO ta)) nq))
            have hov5 : ((w3.alloc (actO ta)).drewN nq).cell? ⟨wr.heap.size, 2, none⟩ = some (.bool true) := m2
            clear m2 m3 m4 m5 m6 m7 m8 a0 a1 a2 a3 a4 a5 HI4 HT4 HA4
            generalize (w3.alloc (actO ta)).drewN nq = X5 at HI5 HT5 hov5 ⊢
            by_cases hkn2 : k < n
            · have hknz : (k : Int) < (n : Int) := by omega
              have hkG : k < G.length := by have := HPs.out.1; omega
              obtain ⟨d, o, hga, d0, d1⟩ := HI5.out.row k hkG
              obtain ⟨gw, hgw⟩ : ∃ w, (G[k]'hkG).1 = w := ⟨_, rfl⟩
              obtain ⟨gt, hgt⟩ : ∃ w, (G[k]'hkG).2 = w := ⟨_, rfl⟩
              have hrange : 0 ≤ gw ∧ gw < 18446744073709551616 := by rw [← hgw]; exact HPs.out.2.2.2.2.1 _ (List.getElem_mem hkG)
              rw [hgw] at d0
              rw [hgt] at d1
              have HTk := Lib.hid (show Calls Try.prog 10 #[.pointer (some ⟨r, 0, none⟩), gotV gw gt] X5 (fun e W' => ∃ f', e = .returned (.tuple #[]) ∧ VerAt W' (W.heap.size + 2) r (takeV (runV ⟨ep, nx, has, t, 1, 0⟩ (G.take k)) gw gt) f' ∧ Step (fun j => j = r) f' X5 W') from
                VerM.takes HI5.out.at_ HNx.out (w := gw) (t := gt) ⟨hrange, by rw [← hgt]; exact HPs.out.2.2.2.2.2 _ (List.getElem_mem hkG)⟩)
              have HTook := Lib.hid (fun (Y : World) hv hst => HI5.out.took (Y := Y) hkG HNx.out HPs.out.2.2.2.1 hv hst)
              rw [hgw, hgt] at HTook
              subst hga
              have hk1 : (k : Int) ≤ 8 := by omega
              clear HI5 HT5 HNx hgw hgt hrange hkG
              go_wp2_with fail
              refine HTk.out.mono ?_
              rintro en w6 ⟨f6, rfl, h6, s6⟩
              have hf6 : f6 = fun j => j = r := h6.foot
              subst hf6
              have HI6 := Lib.hid (HTook.out w6 h6 s6)
              clear h6 s6 HTk HTook
              go_wp2_with fail
              go_roundw
              case rel => exact ⟨k + 1, by go_num, by omega, HI6⟩
              case measure => simp [intOf]; omega
            · have hknz : ¬ (k : Int) < (n : Int) := by omega
              have HI6 := Lib.hid (HI5.out.idle (by have := HPs.out.1; omega) HNx.out)
              clear HI5 HT5 HNx
              go_wp2_with fail
              go_roundw
              case rel => exact ⟨k + 1, by go_num, by omega, HI6⟩
              case measure => simp [intOf]; omega
          | false =>
            have hno : nextV v = none := by cases h : nextV v with | none => rfl | some x => rw [h] at hq; cases hq
            obtain ⟨hp5, hbl⟩ := e3 hno
            subst hbl
            rw [if_pos hp5, decide_eq_true hp5] at HRs
            clear e4 hp5 hq hy hov HSm hno
            go_wp2_with fail
            refine HRs.out.mono ?_
            rintro en w5 ⟨rfl, rfl⟩
            go_wp2_with fail
            go_quiet (fail)
            rename_i nq
            have HT5 := Lib.hid (HT4.out.below (below_draws (w3.alloc (actO ta)) nq))
            have hov5 : ((w3.alloc (actO ta)).drewN nq).cell? ⟨wr.heap.size, 2, none⟩ = some (.bool false) := m2
            have HLow := Lib.hid (HI4.out.bx.low.trans ((below_draws (w3.alloc (actO ta)) nq).mono HI4.out.bx.low.size))
            clear m2 m3 m4 m5 m6 m7 m8 a0 a1 a2 a3 a4 a5 HI4 HT4 HA4
            generalize (w3.alloc (actO ta)).drewN nq = X5 at HT5 hov5 HLow ⊢
            go_wp2_with fail
            refine (awake_any _).mono ?_
            rintro en w1 ⟨rfl, hb1⟩
            have B1 := Lib.hid (HLow.out.trans (hb1.mono HLow.out.size))
            clear hb1
            go_wp2_with fail
            go_ret
            exact Says.mk rfl B1.out
        · have hkz : ¬ (k : Int) ≤ (n : Int) := by omega
          have HLow := Lib.hid HI.out.bx.low
          clear HI
          go_wp2_with fail
          refine (awake_any _).mono ?_
          rintro en w1 ⟨rfl, hb1⟩
          have B1 := Lib.hid (HLow.out.trans (hb1.mono HLow.out.size))
          clear hb1
          go_wp2_with fail
          go_ret
          exact Says.mk rfl B1.out
    · have hvz : ¬ (val.size : Int) ≤ 1000 := by omega
      clear hS hl hnc hc hga hG hGt he hn hv
      go_enter Try.func3, Try.ntmps3
      go_wp2_with fail
      refine (awake_any _).mono ?_
      rintro en w1 ⟨rfl, hb1⟩
      have B1 := Lib.hid (X0.out.low.trans (hb1.mono X0.out.low.size))
      clear hb1
      go_wp2_with fail
      go_ret
      exact Says.mk rfl B1.out

end Go.Proofs.Ytnfepjolbhnhbaa
