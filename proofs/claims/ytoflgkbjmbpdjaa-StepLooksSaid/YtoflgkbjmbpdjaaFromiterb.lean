/-
  What table.From hands out: all pairs from a key on, rising, till the caller has enough.
-/
import Derived.Test.YtoflgkbjmbpdjaaPutb
import Derived.Test.YtoflgkbjmbpdjaaTail
import Derived.Shelf.Abstract
import Derived.Shelf.RegionOpen
import Derived.OwnWalkIn
import Derived.TacticsInMore
import Derived.LoopNIn
import Derived.LoopIn
namespace Go.Proofs.Ytoflgkbjmbpdjaa
open Go Go.RowKit Go.Shelf
attribute [local go_sem] Oper.semAt_some

theorem from_any_b (p : Option Addr) (x : ByteArray) (w : World) :
    Calls Try.prog 33 #[.pointer p, .string x] w fun e w' =>
      e = .returned (.func (.func 40) #[] #[.pointer (some ⟨w.heap.size, 0, none⟩), .pointer (some ⟨w.heap.size + 1, 0, none⟩)]) ∧
      w' = (w.alloc (.cells #[.pointer p] 47)).alloc (.cells #[.string x] 9) := by
  go_enter Try.func33, Try.ntmps33
  go_wp2
  go_ret
  exact ⟨rfl, rfl⟩

theorem step_drewN_b {f g : Nat → Prop} {A B : World} (h : Step f g A B) (q : Nat) : Step f g A (B.drewN q) := h.own rfl rfl rfl (Nat.le_refl _) (fun _ _ => rfl)

set_option maxRecDepth 100000 in
set_option maxHeartbeats 2000000 in
theorem from1_iter_b (F : Fence) (n : Nat) (hF : ∀ k, F.fn k) (hro : F.round = none) (hd : F.depth = none) (hW : Hid (∀ n f args w R, Calls Try.prog f args w R → CallsIn F n Try.prog f args w R)) (hn : 2 ≤ n) (b1 b2 p : Nat) (D : Pairs) (x : ByteArray) (hR : Rise D) (hlen : D.length ≤ 9000) :
    Iter F n Try.prog 40 #[.pointer (some ⟨b1, 0, none⟩), .pointer (some ⟨b2, 0, none⟩)] (fun q : ByteArray × ByteArray => #[.string q.1, .bool true]) (fromD D x)
      (fun f W => W.cell? ⟨b1, 0, none⟩ = some (.pointer (some ⟨p, 0, none⟩)) ∧ W.cell? ⟨b2, 0, none⟩ = some (.string x) ∧ ¬ f b1 ∧ ∃ ft, Tabb W p D ft ∧ ∀ k, ft k → ¬ f k) := by
  intro l J Jx W f hJ hJx bJ hpre hY h0
  obtain ⟨hc1, hc2, hn1, ft, hT, hTf⟩ := hpre
  have h1n : 1 ≤ n := by omega
  have hlt1 : b1 < W.heap.size := by obtain ⟨o, ho, _⟩ := cells_of_cell hc1; exact (Array.getElem?_eq_some_iff.1 ho).1
  have hmix : Try.prog.follows .mixedOrders = true := by kernel_rfl
  have HFi := Lib.hid (find_any_b p D ft x W hT hR (by omega))
  have HLe := Lib.hid (fun W' (h : Tabb W' p D ft) => len_any_b p D ft W' h)
  have HT := Lib.hid hT
  have HT1 := Lib.hid (fun q => hT.stays (W' := W.drewN q) (Nat.le_refl _) (fun _ _ => rfl))
  have HTf := Lib.hid hTf
  have hrk := rk_le D x
  have HX := Lib.hid (fromD_rk D x hR)
  obtain ⟨m, hm⟩ : ∃ m, D.length = m := ⟨_, rfl⟩
  obtain ⟨r, hr⟩ : ∃ r, rk D x = r := ⟨_, rfl⟩
  obtain ⟨hb, hhb⟩ : ∃ b, hasD D x = b := ⟨_, rfl⟩
  unfold Foundb at HFi
  rw [hr, hhb] at HFi
  rw [hr] at HX hrk
  rw [hm] at HLe hrk hlen
  have HM := Lib.hid hm
  clear hT hTf hR hm hr hhb
  refine callsIn_of_wp Try.func40 rfl (hF _) ?_ hro
  simp only [Try.ntmps40, List.size_toArray, List.length_cons, List.length_nil, Nat.reduceAdd, Nat.reduceSub, Array.replicate_succ, Array.replicate_zero, List.push_toArray, List.append_toArray, List.nil_append, List.cons_append]
  gi_wp2_with (first
    | (gi_at_call 36; refine (hW.out _ _ _ _ _ HFi.out).mono ?_; rintro e w' ⟨rfl, q, rfl⟩)
    | (gi_at_call 32; refine (hW.out _ _ _ _ _ (HLe.out _ (HT1.out _))).mono ?_; rintro e w' ⟨rfl, rfl⟩))
  gi_loopw [4] (fun s wr => ∃ (k : Nat) (fk : Nat → Prop), s = .int .i64 ((r + k : Nat) : Int) ∧ r + k ≤ m ∧ J ((D.drop r).take k) fk wr ∧ Step f fk W wr)
    (fun s _ => m - (intOf s).toNat)
  case atStart =>
    exact ⟨0, f, rfl, hrk, hJ _ _ _ _ h0 (Nat.le_refl _) (fun _ _ => rfl), step_drewN_b (Step.refl _ _) q⟩
  case round =>
    obtain ⟨k, fk, rfl, hkm, hJs, hst⟩ := hrel
    have hc1' : wr.cell? ⟨b1, 0, none⟩ = some (.pointer (some ⟨p, 0, none⟩)) := (World.cell?_of_block (hst.block b1 hlt1 hn1)).trans hc1
    have hTk : Tabb wr p D ft := HT.out.stays hst.size (fun k hk => hst.block k (HT.out.lt k hk) (HTf.out k hk))
    have HTk := Lib.hid hTk
    obtain ⟨kv, vv, hp, hk, hv, hdis, hft, cp0, cp1, _, _⟩ := hTk.parts
    have HJs := Lib.hid hJs
    have HSt := Lib.hid hst
    clear hTk hJs hst
    by_cases hlt : r + k < m
    · obtain ⟨gk, ck, rfl, hkc⟩ : ∃ g c, kv = .slice (some ⟨g, 0, none⟩) m c ∧ wr.cell? ⟨g, r + k, none⟩ = some (.string (D[r + k]'(by rw [HM.out]; exact hlt)).1) := by
        have hl : r + k < D.length := by rw [HM.out]; exact hlt
        rcases hk.2 with ⟨rfl, h0⟩ | ⟨g, cap, cur, rfl, _⟩
        · omega
        · refine ⟨g, cap, by rw [HM.out], ?_⟩
          have := hk.cells (g := g) rfl (r + k) (.string D[r + k].1) (by simp [keysOf, List.getElem?_eq_getElem hl])
          rwa [Addr.add_lit, Nat.zero_add] at this
      obtain ⟨gv, cv, rfl, hvc⟩ : ∃ g c, vv = .slice (some ⟨g, 0, none⟩) m c ∧ wr.cell? ⟨g, r + k, none⟩ = some (.bool true) := by
        have hl : r + k < D.length := by rw [HM.out]; exact hlt
        rcases hv.2 with ⟨rfl, h0⟩ | ⟨g, cap, cur, rfl, _⟩
        · omega
        · refine ⟨g, cap, by rw [HM.out], ?_⟩
          have := hv.cells (g := g) rfl (r + k) (.bool true) (by simp [trues, hl])
          rwa [Addr.add_lit, Nat.zero_add] at this
      have hcut : D.drop r = (D.drop r).take k ++ (D[r + k]'(by rw [HM.out]; exact hlt)) :: (D.drop r).drop (k + 1) := by
        have hl : r + k < D.length := by rw [HM.out]; exact hlt
        have h1 : k < (D.drop r).length := by rw [List.length_drop]; omega
        have h2 : (D.drop r)[k] = D[r + k] := by simp
        rw [← h2, ← List.drop_eq_getElem_cons h1, List.take_append_drop]
      have hsn : (D.drop r).take (k + 1) = (D.drop r).take k ++ [(D[r + k]'(by rw [HM.out]; exact hlt))] := by
        have hl : r + k < D.length := by rw [HM.out]; exact hlt
        have h1 : k < (D.drop r).length := by rw [List.length_drop]; omega
        have h2 : (D.drop r)[k] = D[r + k] := by simp
        rw [List.take_succ_eq_append_getElem h1, h2]
      obtain ⟨q', hq⟩ : ∃ q', (D[r + k]'(by rw [HM.out]; exact hlt)) = q' := ⟨_, rfl⟩
      rw [hq] at hkc hcut hsn
      clear hq
      obtain ⟨fn, tmps, assign, body, hy, hRd⟩ := hY _ q' _ fk wr.drew (HX.out.trans hcut) (hJ _ _ _ _ HJs.out (Nat.le_refl _) (fun _ _ => rfl))
      have HCut := Lib.hid hcut
      have HSn := Lib.hid hsn
      clear hcut hsn hp hk hv hdis hft
      have hi0 : (0 : Int) ≤ (r : Int) + (k : Int) := by omega
      have hi1 : (r : Int) + (k : Int) < (m : Int) := by omega
      have htn : ((r : Int) + (k : Int)).toNat = r + k := by omega
      gi_wp2_with (gi_at_call 32; refine (hW.out _ _ _ _ _ (HLe.out _ HTk.out)).mono ?_; rintro e w' ⟨rfl, rfl⟩)
      refine wpIn_region_still_tail hro hF hd hW.out 15 hmix (by kernel_rfl) ?_
      simp only [List.take_succ_cons, List.take_zero, List.drop_succ_cons, List.drop_zero]
      repeat still_step
      refine wpStill_nil ?_
      change wpListIn _ _ _ _ _ _ _ wr.drew
      gi_wp2
      refine hRd.mono ?_
      rintro e W3 (⟨rfl, f3, hs3, hJ3⟩ | ⟨rfl, f3, hs3, hJx3⟩)
      · have HJ3 := Lib.hid hJ3
        have HS3 := Lib.hid hs3
        clear hJ3 hs3
        gi_wp2
        go_roundw
        case rel => exact ⟨k + 1, f3, by go_num, by omega, by rw [HSn.out]; exact HJ3.out, HSt.out.drew.trans HS3.out⟩
        case measure => simp [intOf]; omega
      · have HJ3 := Lib.hid hJx3
        have HS3 := Lib.hid hs3
        clear hJx3 hs3
        gi_wp2
        refine bodyPost_ret (results_none rfl _ _ _) rfl ?_
        refine ⟨⟨_, rfl⟩, .inr ⟨(D.drop r).take k ++ [q'], f3, ?_, HSt.out.drew.trans HS3.out, HJ3.out⟩⟩
        rw [HX.out, ← HSn.out]
        exact List.take_prefix _ _
    · clear hp hk hv hdis hft
      gi_wp2_with (gi_at_call 32; refine (hW.out _ _ _ _ _ (HLe.out _ HTk.out)).mono ?_; rintro e w' ⟨rfl, rfl⟩)
      go_end0
      refine ⟨⟨_, rfl⟩, .inl ⟨fk, HSt.out, ?_⟩⟩
      have h1 := HJs.out
      rw [HX.out]
      rwa [List.take_of_length_le (by rw [List.length_drop, HM.out]; omega)] at h1

set_option maxRecDepth 100000 in
set_option maxHeartbeats 1000000 in
theorem from1_nil_b (F : Fence) (n : Nat) (hF : ∀ k, F.fn k) (hro : F.round = none) (hW : Hid (∀ n f args w R, Calls Try.prog f args w R → CallsIn F n Try.prog f args w R)) (hn : 2 ≤ n) (b1 b2 : Nat) (x : ByteArray) :
    Iter F n Try.prog 40 #[.pointer (some ⟨b1, 0, none⟩), .pointer (some ⟨b2, 0, none⟩)] (fun q : ByteArray × ByteArray => #[.string q.1, .bool true]) []
      (fun _ W => W.cell? ⟨b1, 0, none⟩ = some (.pointer none) ∧ W.cell? ⟨b2, 0, none⟩ = some (.string x)) := by
  intro l J Jx W f hJ hJx bJ hpre hY h0
  obtain ⟨hc1, hc2⟩ := hpre
  have h1n : 1 ≤ n := by omega
  clear hY
  refine callsIn_of_wp Try.func40 rfl (hF _) ?_ hro
  simp only [Try.ntmps40, List.size_toArray, List.length_cons, List.length_nil, Nat.reduceAdd, Nat.reduceSub, Array.replicate_succ, Array.replicate_zero, List.push_toArray, List.append_toArray, List.nil_append, List.cons_append]
  gi_wp2_with (first
    | (gi_at_call 36; refine (hW.out _ _ _ _ _ (find_nil_b _ _)).mono ?_; rintro e w' ⟨rfl, rfl⟩)
    | (gi_at_call 32; refine (hW.out _ _ _ _ _ (len_nil_b _)).mono ?_; rintro e w' ⟨rfl, rfl⟩))
  gi_loopw [4] (fun s wr => s = .int .i64 0 ∧ wr = W) (fun _ _ => 0)
  case atStart => exact ⟨rfl, rfl⟩
  case round =>
    obtain ⟨rfl, rfl⟩ := hrel
    gi_wp2_with (gi_at_call 32; refine (hW.out _ _ _ _ _ (len_nil_b _)).mono ?_; rintro e w' ⟨rfl, rfl⟩)
    go_end0
    exact ⟨⟨_, rfl⟩, .inl ⟨f, Step.refl _ _, h0⟩⟩

end Go.Proofs.Ytoflgkbjmbpdjaa
