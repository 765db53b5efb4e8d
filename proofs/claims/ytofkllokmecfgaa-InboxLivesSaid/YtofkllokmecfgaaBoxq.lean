/-
  inbox's Push, Take and Empty.
-/
import Derived.Test.YtofkllokmecfgaaClone15
import Derived.Test.YtofkllokmecfgaaHeldo
namespace Go.Proofs.Ytofkllokmecfgaa
open Go Go.RowKit
attribute [local go_sem ↓] Go.wp_at_zero Go.wp_at_succ

/-! ### Push -/
def fullD (most : Nat) (ov : Bool) (L : List ChD) : Bool := ov || decide (L.length = most)
def pushD (most : Nat) (ov : Bool) (L : List ChD) (c : ChD) : List ChD := if fullD most ov L then L else L ++ [c]
/-- What Push leaves. -/
def PushedR (B p most : Nat) (ov : Bool) (L : List ChD) (c : ChD) (f : Nat → Prop) (W : World) (e : Ending) (W' : World) : Prop :=
  ∃ f', e = .returned (.bool (!fullD most ov L)) ∧ Boxp W' B p most (fullD most ov L) (pushD most ov L c) f' ∧ Step f f' W W'

theorem Step.refl (f : Nat → Prop) (W : World) : Step f f W W := Step.of_below (Below.refl _ _)
theorem Boxp.step_below {W W' X : World} {f f' : Nat → Prop} (h : Step f f' W W') (hb : Below W'.heap.size W' X) : Step f f' W X := h.trans (Step.of_below hb)

/-- The new change is appended and stored. -/
theorem push_fin {W Y w' : World} {o : Obj} {B p most : Nat} {ov : Bool} {L : List ChD} {f : Nat → Prop} {ev : Value} {c : ChD} {g cap m : Nat} (h : BoxAt Y B p most ov L f ev) (hs : Step f f W Y) (hm : L.length = m)
    (hL : Lot w' 31 3 (.slice (some ⟨g, 0, none⟩) (m + 1) cap) (m + 1) (flatC L ++ [.string c.key, .bool c.has, .string c.val])) (hg : (Y.alloc o).grownBy w' ev.ownBlock) (hat : ev.ownBlock = some g ∨ g = (Y.alloc o).heap.size) (hlt : m < most) :
    w'.cell? ⟨p, 2, none⟩ = some ev ∧ w'.frozen? ⟨p, 2, none⟩ = false ∧ ∃ f', Boxp (w'.setCell ⟨p, 2, none⟩ (.slice (some ⟨g, 0, none⟩) (m + 1) cap)) B p most ov (L ++ [c]) f' ∧ Step f f' W (w'.setCell ⟨p, 2, none⟩ (.slice (some ⟨g, 0, none⟩) (m + 1) cap)) := by
  subst hm
  have h2 := h.below (below_alloc Y o)
  have hl : (L ++ [c]).length = L.length + 1 := by simp
  obtain ⟨hp, f', h3, h4⟩ := h2.list (L' := L ++ [c]) (ev' := .slice (some ⟨g, 0, none⟩) (L.length + 1) cap) hg (.inl rfl) (by rw [hl, flatC_snoc]; exact hL)
    (fun k hk => by
      obtain rfl : g = k := by simpa [Value.ownBlock] using hk
      rcases hat with h0 | h0
      · exact .inl h0
      · exact .inr (Nat.le_of_eq h0.symm)) (by omega)
  have hc := hp.trans h2.own
  exact ⟨(cell_of hc).trans rfl, by simp [World.frozen?, hc], f', ⟨_, h3⟩, (hs.trans (Step.of_below (below_alloc Y o))).trans h4⟩

theorem step_chain {f : Nat → Prop} {W X Y : World} (hX : Below W.heap.size W X) (h : Step f f X Y) : Step f f W Y := (Step.of_below hX).trans h

set_option maxHeartbeats 2000000 in
theorem push_any (B p most : Nat) (ov : Bool) (L : List ChD) (f : Nat → Prop) (c : ChD) (W : World) (h : Boxp W B p most ov L f) (hc : c.fits) :
    Calls Try.prog 10 #[.pointer (some ⟨p, 0, none⟩), .agg #[.string c.key, .bool c.has, .string c.val]] W (PushedR B p most ov L c f W) := by
  obtain ⟨ev, h⟩ := h
  obtain ⟨k, hs, v⟩ := c
  have hk1 : k.size ≤ 281474976710656 := hc.1
  have hv1 : v.size ≤ 281474976710656 := hc.2
  have hb1 := below_alloc W (.cells #[.string k, .bool hs, .string v] 31)
  have k1 := World.alloc_heap_new W (.cells #[.string k, .bool hs, .string v] 31)
  obtain ⟨W1, hW1⟩ : ∃ W1, W.alloc (.cells #[.string k, .bool hs, .string v] 31) = W1 := ⟨_, rfl⟩
  have hz1 := Lib.hid (show W1.heap.size = W.heap.size + 1 from by rw [← hW1]; simp)
  rw [hW1] at hb1 k1
  have HR := Lib.hid (fun X (hX : Below W1.heap.size W1 X) => h.below (hb1.trans (hX.mono hb1.size)))
  have HW := Lib.hid (fun X (hX : Below W1.heap.size W1 X) => hb1.trans (hX.mono hb1.size))
  have HC := Lib.hid (show ∀ X : World, X.heap[W.heap.size]? = W1.heap[W.heap.size]? → X.cell? ⟨W.heap.size, 0, none⟩ = some (.string k) ∧ X.cell? ⟨W.heap.size, 1, none⟩ = some (.bool hs) ∧ X.cell? ⟨W.heap.size, 2, none⟩ = some (.string v) from fun X hX => by
    have e1 := hX.trans k1
    exact ⟨(cell_of e1).trans rfl, (cell_of e1).trans rfl, (cell_of e1).trans rfl⟩)
  have HRow := Lib.hid h
  obtain ⟨r, hr⟩ : ∃ r, fullD most ov L = r := ⟨_, rfl⟩
  have HE := Lib.hid (fun X g (hX : Boxp X B p most ov L f) hg => (show Calls Try.prog 17 #[.slice (some ⟨g, 0, none⟩) 2 2] X (Says r X) from by rw [← hr]; exact either_any B p most ov L f X hX g hg))
  have HRr := Lib.hid hr
  clear h hb1 k1 hr hc
  go_enter Try.func10, Try.ntmps10
  go_wp2_with fail
  have X2 := Lib.hid (show Below W1.heap.size W1 (W1.alloc (.cells #[.func (.func 16) #[.pointer (some ⟨p, 0, none⟩)] #[], .func (.func 18) #[.pointer (some ⟨p, 0, none⟩)] #[]] 23)) from below_alloc _ _)
  clear hW1
  refine (HE.out _ W1.heap.size ⟨ev, HR.out _ X2.out⟩ (World.alloc_heap_new W1 _)).mono ?_
  rintro en w2 ⟨rfl, hb⟩
  have X3 := Lib.hid (X2.out.trans (hb.mono X2.out.size))
  clear hb
  have hat := HR.out _ X3.out
  obtain ⟨_, c1, c2, f1, f2⟩ := hat.cells
  obtain ⟨hO, hS⟩ := hat.setOver r
  have hne : p ≠ W.heap.size := fun e => by have := HRow.out.plt; omega
  have HBx := Lib.hid hO
  have HSt := Lib.hid ((Step.of_below (HW.out _ X3.out)).trans hS)
  have e1 := HC.out (w2.setCell ⟨p, 1, none⟩ (.bool r)) ((Below.heap_setCell _ _ _ _ (Ne.symm hne)).trans (X3.out.block _ (by have := hz1.out; omega)))
  obtain ⟨_, d1, d2, g1, g2⟩ := hO.cells
  clear hat hO hS HE
  cases r with
  | true =>
    clear d1 d2 g1 g2 e1
    go_wp2_with fail
    go_ret
    exact ⟨f, by rw [HRr.out]; rfl, ⟨ev, by rw [HRr.out]; unfold pushD; rw [HRr.out, if_pos rfl]; exact HBx.out⟩, HSt.out⟩
  | false =>
    obtain ⟨k0, k1', k2⟩ := e1
    obtain ⟨Y, hY⟩ : ∃ Y, w2.setCell ⟨p, 1, none⟩ (.bool false) = Y := ⟨_, rfl⟩
    rw [hY] at k0 k1' k2 d1 d2 g1 g2 HBx HSt
    have hlen := HBx.out.len
    have h64 := HBx.out.most64
    have hlt : L.length < most := by
      have e := HRr.out
      unfold fullD at e
      have e2 := (Bool.or_eq_false_iff.1 e).2
      have := of_decide_eq_false e2
      omega
    have HZ := Lib.hid (show ∀ X, Below Y.heap.size Y X → X.cell? ⟨W.heap.size, 0, none⟩ = some (.string k) ∧ X.cell? ⟨W.heap.size, 1, none⟩ = some (.bool hs) ∧ X.cell? ⟨W.heap.size, 2, none⟩ = some (.string v) ∧ X.cell? ⟨p, 2, none⟩ = some ev from fun X hX =>
      ⟨(hX.cell (p := ⟨W.heap.size, 0, none⟩) (cell_lt k0)).trans k0, (hX.cell (p := ⟨W.heap.size, 1, none⟩) (cell_lt k1')).trans k1', (hX.cell (p := ⟨W.heap.size, 2, none⟩) (cell_lt k2)).trans k2, (HBx.out.below hX).cells.2.2.1⟩)
    have HLt := Lib.hid hlt
    clear hlen hlt
    have hov : ov = false := by
      have e := HRr.out
      unfold fullD at e
      exact (Bool.or_eq_false_iff.1 e).1
    have HOv := Lib.hid hov
    clear hov
    go_wp2_with fail
    clear hY c1 c2 f1 f2
    obtain ⟨i0, gi, gz0, gz1, gz2⟩ := info_parts info_change
    have A0 := Lib.hid (below_drew Y)
    have hE1 : L.length + 1 ≤ maxLen := by have := HLt.out; unfold maxLen; omega
    have hE2 : (L.length + 1) * 40 ≤ 140737488355328 := by have := HLt.out; omega
    have hmix : Try.prog.follows .mixedOrders = true := by kernel_rfl
    refine wp_region_heldU 16 [0, 1, 2, 3, 4, 5, 6, 8, 9, 10, 11] [7, 12, 13, 14, 15] (fun _ _ _ d _ h => by cases d <;> exact h) hmix (by kernel_rfl)
      (fun w' => w'.cell? ⟨W.heap.size, 0, none⟩ = some (.string k) ∧ w'.cell? ⟨W.heap.size, 1, none⟩ = some (.bool hs) ∧ w'.cell? ⟨W.heap.size, 2, none⟩ = some (.string v) ∧ w'.cell? ⟨p, 2, none⟩ = some ev) (HZ.out _ A0.out) ?_
    simp only [List.drop_succ_cons, List.drop_zero]
    obtain ⟨Y0, hY0⟩ : ∃ X, World.drew Y = X := ⟨_, rfl⟩
    rw [hY0] at A0 ⊢
    clear hY0 d1 d2 g1 g2 k0 k1' k2
    refine heldU_step (.pointer (some ⟨p, 0, none⟩)) rfl rfl (by rintro X ⟨s1, s2, s3, s4⟩; go_simp) (fun K' hK' => ?_)
    go_simp
    refine hK' _ ?_
    clear hK' K'
    refine heldU_step (.pointer (some ⟨p, 0, none⟩)) rfl rfl (by rintro X ⟨s1, s2, s3, s4⟩; go_simp) (fun K' hK' => ?_)
    go_simp
    refine hK' _ ?_
    clear hK' K'
    refine heldU_step (.pointer (some ⟨p, 0, none⟩)) rfl rfl (by rintro X ⟨s1, s2, s3, s4⟩; go_simp) (fun K' hK' => ?_)
    go_simp
    refine hK' _ ?_
    clear hK' K'
    refine heldU_step (.pointer (some ⟨p, 2, none⟩)) rfl rfl (by rintro X ⟨s1, s2, s3, s4⟩; go_simp) (fun K' hK' => ?_)
    go_simp
    refine hK' _ ?_
    clear hK' K'
    refine heldU_step (ev) rfl rfl (by rintro X ⟨s1, s2, s3, s4⟩; go_simp) (fun K' hK' => ?_)
    go_simp
    refine hK' _ ?_
    clear hK' K'
    refine heldU_step (.pointer (some ⟨W.heap.size, 0, none⟩)) rfl rfl (by rintro X ⟨s1, s2, s3, s4⟩; go_simp) (fun K' hK' => ?_)
    go_simp
    refine hK' _ ?_
    clear hK' K'
    refine heldU_step (.string k) rfl rfl (by rintro X ⟨s1, s2, s3, s4⟩; go_simp) (fun K' hK' => ?_)
    go_simp
    refine hK' _ ?_
    clear hK' K'
    refine heldU_step (.pointer (some ⟨W.heap.size, 1, none⟩)) rfl rfl (by rintro X ⟨s1, s2, s3, s4⟩; go_simp) (fun K' hK' => ?_)
    go_simp
    refine hK' _ ?_
    clear hK' K'
    refine heldU_step (.bool hs) rfl rfl (by rintro X ⟨s1, s2, s3, s4⟩; go_simp) (fun K' hK' => ?_)
    go_simp
    refine hK' _ ?_
    clear hK' K'
    refine heldU_step (.pointer (some ⟨W.heap.size, 2, none⟩)) rfl rfl (by rintro X ⟨s1, s2, s3, s4⟩; go_simp) (fun K' hK' => ?_)
    go_simp
    refine hK' _ ?_
    clear hK' K'
    refine heldU_step (.string v) rfl rfl (by rintro X ⟨s1, s2, s3, s4⟩; go_simp) (fun K' hK' => ?_)
    go_simp
    refine hK' _ ?_
    clear hK' K'
    refine midU_step rfl rfl (fun K' hK' => ?_)
    go_simp
    go_at_call 19
    refine (clone_any k _ hk1).mono ?_
    rintro en x1 ⟨rfl, hb⟩
    have X4 := Lib.hid (A0.out.trans (hb.mono A0.out.size))
    clear hb
    refine hK' _ _ ⟨HZ.out _ X4.out, ?_⟩
    clear hK' K'
    refine midU_step rfl rfl (fun K' hK' => ?_)
    go_simp
    go_at_call 19
    refine (clone_any v _ hv1).mono ?_
    rintro en x2 ⟨rfl, hb⟩
    have X5 := Lib.hid (X4.out.trans (hb.mono X4.out.size))
    clear hb
    refine hK' _ _ ⟨HZ.out _ X5.out, ?_⟩
    clear hK' K'
    refine midU_step rfl rfl (fun K' hK' => ?_)
    go_simp
    refine hK' _ _ ⟨HZ.out _ X5.out, ?_⟩
    clear hK' K'
    refine midU_step rfl rfl (fun K' hK' => ?_)
    go_simp
    have X6 := Lib.hid (X5.out.trans ((below_alloc x2 (.cells #[.string k, .bool hs, .string v] 31)).mono X5.out.size))
    refine hK' _ _ ⟨HZ.out _ X6.out, ?_⟩
    clear hK' K'
    refine midU_step rfl rfl (fun K' hK' => ?_)
    refine wp_append_lot _ _ _ 26 (by rfl) 31 i0 _ 3 40 Try.underlying26 gi gz0 gz1 gz2 rfl ev L.length (flatC L) (by rfl) (HBx.out.below X6.out).lot ⟨x2.heap.size, 0, none⟩ 1 1 [.string k, .bool hs, .string v] (by rfl) (by rfl) (change_news x2 k hs v 31) (change_one k hs v) (by omega) hE1 hE2 _ rfl ?_
    intro g cap w4 hL hg hat
    obtain ⟨m0, m1, hM⟩ := push_fin (W := W) (c := ⟨k, hs, v⟩) (HBx.out.below X5.out) (HSt.out.trans (Step.of_below X5.out)) rfl hL hg hat HLt.out
    have HM := Lib.hid hM
    have HS4 := Lib.hid (show w4.cell? ⟨W.heap.size, 0, none⟩ = some (.string k) ∧ w4.cell? ⟨W.heap.size, 1, none⟩ = some (.bool hs) ∧ w4.cell? ⟨W.heap.size, 2, none⟩ = some (.string v) ∧ w4.cell? ⟨p, 2, none⟩ = some ev from by
      obtain ⟨s0, s1, s2, s3⟩ := HZ.out _ X6.out
      have hne2 : some W.heap.size ≠ ev.ownBlock := fun e => by have := HRow.out.lot.lt _ e.symm; omega
      exact ⟨hg.cell s0 hne2, hg.cell s1 hne2, hg.cell s2 hne2, m0⟩)
    clear hL hg hat hM
    go_simp
    refine hK' _ _ ⟨HS4.out, ?_⟩
    clear hK' K' HS4
    change wpList _ _ _ _ _ _
    go_wp2_with fail
    go_ret
    obtain ⟨f', hB, hS⟩ := HM.out
    exact ⟨f', by rw [HRr.out]; rfl, by rw [HRr.out]; unfold pushD; rw [HRr.out]; exact hB, hS⟩

end Go.Proofs.Ytofkllokmecfgaa
