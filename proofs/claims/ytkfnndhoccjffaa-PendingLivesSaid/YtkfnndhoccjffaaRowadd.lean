/-
  pending's Add.
-/
import Derived.Test.YtkfnndhoccjffaaRowp
namespace Go.Proofs.Ytkfnndhoccjffaa
open Go Go.RowKit
attribute [local go_sem ↓] Go.wp_at_zero Go.wp_at_succ

/-- Is there room for the entry, and none with its name? -/
def okD (most : Nat) (E : List ED) (e : ED) : Bool := decide (E.length < most) && !decide (e.id ∈ idsD E)
/-- Add. -/
def addD (most : Nat) (E : List ED) (e : ED) : List ED := if okD most E e then E ++ [e] else E
/-- What Add leaves. -/
def AddedR (B p most n : Nat) (E : List ED) (e : ED) (f : Nat → Prop) (W : World) (en : Ending) (W' : World) : Prop := ∃ f', en = .returned (.bool (okD most E e)) ∧ Rowp W' B p most (n + 1) (addD most E e) f' ∧ Step f f' W W'

theorem AddedR.no {B p most n : Nat} {E : List ED} {e : ED} {f : Nat → Prop} {W W' : World} (h : Rowp W B p most n E f) (hb : Below W.heap.size W W') (hn : okD most E e = false) : AddedR B p most n E e f W (.returned (.bool false)) W' := by
  obtain ⟨R, ev, b, h⟩ := h
  have h2 := h.below hb
  refine ⟨f, by rw [hn], ⟨R, ev, b, ?_⟩, Step.of_below hb⟩
  unfold addD
  rw [hn]
  exact ⟨h2.own, h2.lot, h2.each, h2.names.mono (by omega), h2.foot, h2.bp, h2.be, h2.bb, h2.most32, h2.len, h2.fits⟩

/-- The entry is in its row; its name is not yet in the map. -/
def AddMid (B p most n : Nat) (E : List ED) (e : ED) (f : Nat → Prop) (b : Nat) (W Z : World) : Prop := ∃ f' R ev, RowAt Z B p most n (E ++ [e]) (idsD E) f' R ev b ∧ Step f f' W Z

theorem AddMid.make {B p most n : Nat} {E : List ED} {e : ED} {f : Nat → Prop} {b : Nat} {R : List EV} {ev : Value} {W X Y w' : World} {v' : EV} {g cap : Nat} {o : Obj} (h : RowAt W B p most n E (idsD E) f R ev b) (hX : Below W.heap.size W X) (hv : EntO Y X.heap.size v' e) (hXY : Below X.heap.size X Y)
    (hL : Lot w' 40 4 (.slice (some ⟨g, 0, none⟩) (E.length + 1) cap) (E.length + 1) (flatE R ++ [.int .i64 v'.id.o, .int .i64 v'.id.s, .slice v'.pg v'.ng v'.cg, .slice v'.ps v'.ns v'.cs])) (hg : (Y.alloc o).grownBy w' ev.ownBlock) (hat : ev.ownBlock = some g ∨ g = (Y.alloc o).heap.size)
    (hlt : E.length < most) (hfit : e.fits) :
    w'.cell? ⟨p, 0, none⟩ = some (.int .i64 most) ∧ w'.cell? ⟨p, 1, none⟩ = some ev ∧ w'.cell? ⟨p, 2, none⟩ = some (.map (some b)) ∧ w'.frozen? ⟨p, 1, none⟩ = false ∧ AddMid B p most n E e f b W (w'.setCell ⟨p, 1, none⟩ (.slice (some ⟨g, 0, none⟩) (E.length + 1) cap)) := by
  have hWY : Below W.heap.size W (Y.alloc o) := (hX.trans (hXY.mono hX.size)).alloc (Nat.le_trans hX.size hXY.size) o
  have h2 := h.below hWY
  obtain ⟨e1, e2, e3⟩ := h2.eb
  have hp : w'.heap[p]? = (Y.alloc o).heap[p]? := hg.block p h2.plt (Ne.symm e1)
  have hb : w'.heap[b]? = (Y.alloc o).heap[b]? := hg.block b h2.names.lt (Ne.symm e2)
  have hBX : B ≤ X.heap.size := Nat.le_trans h.bp (Nat.le_trans (Nat.le_of_lt h.plt) hX.size)
  have hs : Step f f (Y.alloc o) w' := ⟨hg.os, hg.tape, hg.output, hg.size, fun k hk hn => hg.block k hk (fun e => hn (by rw [h2.foot]; exact .inr (.inl e.symm))), fun k hk => .inl hk⟩
  have hoth : ∀ k, ev.ownBlock = some k → Other (Y.alloc o) k := fun k hk => h2.other k (by rw [h2.foot]; exact .inr (.inl hk))
  have hsz : W.heap.size ≤ (Y.alloc o).heap.size := hWY.size
  obtain ⟨r1, r2⟩ := h2.restore (E' := E ++ [e]) (R' := R ++ [v']) (ev' := .slice (some ⟨g, 0, none⟩) (E.length + 1) cap) hs hp hb (by rw [flatE_snoc, List.length_append]; exact hL)
    (Each.snoc (h2.each.imp (fun _ _ _ _ q => q.kept hg hoth)) (((hv.below (below_alloc Y o)).kept hg hoth).mono hBX))
    (fun k hk => by
      obtain rfl : g = k := by simpa [Value.ownBlock] using hk
      rcases hat with h0 | h0
      · exact h2.be _ h0
      · rw [h0]; exact Nat.le_trans h2.bp (Nat.le_of_lt h2.plt))
    (fun k hk => by
      obtain rfl : g = k := by simpa [Value.ownBlock] using hk
      rcases hat with h0 | h0
      · exact .inl (by rw [h2.foot]; exact .inr (.inl h0))
      · exact .inr (Nat.le_of_eq h0.symm))
    (by rw [List.length_append]; exact hlt) (fun x hx => by
      rcases List.mem_append.1 hx with h0 | h0
      · exact h.fits x h0
      · rw [List.mem_singleton.1 h0]; exact hfit)
  have c := h2.own
  rw [← hp] at c
  exact ⟨(cell_of c).trans rfl, (cell_of c).trans rfl, (cell_of c).trans rfl, by simp [World.frozen?, c], _, _, _, r1, (Step.of_below hWY).trans r2⟩

theorem AddMid.fin {B p most n : Nat} {E : List ED} {e : ED} {f : Nat → Prop} {b : Nat} {W Z : World} (h : AddMid B p most n E e f b W Z) (hn : n ≤ 1000000) (hf : e.fits) (hok : okD most E e = true) :
    Z.cell? ⟨p, 2, none⟩ = some (.map (some b)) ∧ ∀ q, ∃ Y, (Instr.mapUpdate 28 (.map (some b)) (.agg #[.int .i64 e.id.o, .int .i64 e.id.s]) (.bool true)).run Try.prog (Z.drewN q) = .ok () Y ∧ AddedR B p most n E e f W (.returned (.bool true)) Y := by
  obtain ⟨f', R, ev, h, hs⟩ := h
  refine ⟨h.cells.2.2.1, fun q => ?_⟩
  have h2 := h.below (below_draws Z q)
  obtain ⟨Y, hr, hN, hg⟩ := h2.names.put (by unfold maxLen; omega) e.id hf.id
  obtain ⟨r1, r2⟩ := h2.rename hg hN
  refine ⟨Y, hr, f', by rw [hok], ⟨R, ev, b, ?_⟩, (hs.trans (Step.of_below (below_draws Z q))).trans r2⟩
  unfold addD
  rw [hok, if_pos rfl, show idsD (E ++ [e]) = idsD E ++ [e.id] by simp [idsD]]
  exact r1

theorem info_entry_news (W : World) (v : EV) : ∀ j u, [Value.int .i64 v.id.o, .int .i64 v.id.s, .slice v.pg v.ng v.cg, .slice v.ps v.ns v.cs][j]? = some u → (W.alloc (.cells #[.int .i64 v.id.o, .int .i64 v.id.s, .slice v.pg v.ng v.cg, .slice v.ps v.ns v.cs] 40)).cell? ((⟨W.heap.size, 0, none⟩ : Addr).add j) = some u :=
  World.news_of_block (cs := #[.int .i64 v.id.o, .int .i64 v.id.s, .slice v.pg v.ng v.cg, .slice v.ps v.ns v.cs]) (World.alloc_heap_new W _)

set_option maxHeartbeats 2000000 in
theorem addrow_any (B p most n : Nat) (E : List ED) (f : Nat → Prop) (v : EV) (e : ED) (W : World) (h : Rowp W B p most n E f) (hv : Ent W v e) (he : e.fits) (hn : n ≤ 1000000) :
    Calls Try.prog 10 #[.pointer (some ⟨p, 0, none⟩), v.val] W (AddedR B p most n E e f W) := by
  have HNo := Lib.hid (fun X (hX : Below W.heap.size W X) => AddedR.no (e := e) h hX)
  have hb1 := below_alloc W (.cells #[.int .i64 v.id.o, .int .i64 v.id.s, .slice v.pg v.ng v.cg, .slice v.ps v.ns v.cs] 40)
  have k1 := World.alloc_heap_new W (.cells #[.int .i64 v.id.o, .int .i64 v.id.s, .slice v.pg v.ng v.cg, .slice v.ps v.ns v.cs] 40)
  have hz : (W.alloc (.cells #[.int .i64 v.id.o, .int .i64 v.id.s, .slice v.pg v.ng v.cg, .slice v.ps v.ns v.cs] 40)).heap.size = W.heap.size + 1 := by simp
  obtain ⟨W1, hW1⟩ : ∃ W1, (W.alloc (.cells #[.int .i64 v.id.o, .int .i64 v.id.s, .slice v.pg v.ng v.cg, .slice v.ps v.ns v.cs] 40)) = W1 := ⟨_, rfl⟩
  rw [hW1] at hb1 k1 hz
  obtain ⟨R, ev, b, h⟩ := h
  have HR := Lib.hid (fun X (hX : Below W1.heap.size W1 X) => h.below (hb1.trans (hX.mono hb1.size)))
  have HV := Lib.hid (fun X (hX : Below W1.heap.size W1 X) => hv.grow (hb1.trans (hX.mono hb1.size)))
  have HW := Lib.hid (fun X (hX : Below W1.heap.size W1 X) => hb1.trans (hX.mono hb1.size))
  have HC := Lib.hid (show ∀ X, Below W1.heap.size W1 X → X.cell? ⟨W.heap.size, 0, none⟩ = some (.int .i64 v.id.o) ∧ X.cell? ⟨W.heap.size, 1, none⟩ = some (.int .i64 v.id.s) ∧ X.cell? ⟨W.heap.size, 2, none⟩ = some (.slice v.pg v.ng v.cg) ∧ X.cell? ⟨W.heap.size, 3, none⟩ = some (.slice v.ps v.ns v.cs) from fun X hX => by
    have e1 := (hX.block W.heap.size (by omega)).trans k1
    exact ⟨(cell_of e1).trans rfl, (cell_of e1).trans rfl, (cell_of e1).trans rfl, (cell_of e1).trans rfl⟩)
  have hid := hv.id
  have hlen := h.len
  have h32 := h.most32
  have HRow := Lib.hid h
  have HFit := Lib.hid he
  obtain ⟨⟨o, i⟩, pg, ng, cg, ps, ns, cs⟩ := v
  simp only at hid HC hW1
  have HRoom := Lib.hid (fun X (hX : Below W1.heap.size W1 X) => room_any B p most n E f X ⟨R, ev, b, HR.out X hX⟩)
  have HHas := Lib.hid (fun X (hX : Below W1.heap.size W1 X) => (show Calls Try.prog 18 #[.pointer (some ⟨p, 0, none⟩), .agg #[.int .i64 o, .int .i64 i]] X (Says (decide (e.id ∈ idsD E)) X) from by
    have := hasrow_any B p most n E f e.id X ⟨R, ev, b, HR.out X hX⟩ he.id
    rw [← hid] at this ⊢
    exact this))
  obtain ⟨len, hl⟩ : ∃ len, E.length = len := ⟨_, rfl⟩
  obtain ⟨r, hr⟩ : ∃ r, decide (e.id ∈ idsD E) = r := ⟨_, rfl⟩
  have hok : okD most E e = (decide (len < most) && !r) := by unfold okD; rw [hl, hr]
  rw [hl] at HRoom hlen
  rw [hr] at HHas
  obtain ⟨i0, gi, gz0, gz1, gz2⟩ := info_parts info_entry
  have HL := Lib.hid hl
  have HI := Lib.hid hid
  clear h hv hb1 k1 hz hid hl hr he
  obtain ⟨c0, c1, c2, c3⟩ := HC.out _ (Below.refl _ _)
  by_cases hfull : len = most
  · have hz0 : ((most : Int) - (len : Int) == 0) = true := by rw [beq_iff_eq]; omega
    have hno : okD most E e = false := by rw [hok, decide_eq_false (by omega)]; rfl
    have HE := Lib.hid (fun X hX => HNo.out X hX hno)
    clear hok hno HNo
    go_enter Try.func10, Try.ntmps10
    go_wp2_with fail
    clear hW1
    refine (HRoom.out _ (Below.refl _ _)).mono ?_
    rintro en x1 ⟨rfl, hb⟩
    have HE1 := Lib.hid (HE.out _ (HW.out _ hb))
    clear hb
    go_wp2_with fail
    go_ret
    exact HE1.out
  · have hz0 : ((most : Int) - (len : Int) == 0) = false := by rw [beq_eq_false_iff_ne]; omega
    cases r
    · have hyes : okD most E e = true := by rw [hok, decide_eq_true (by omega)]; rfl
      clear hok HNo
      have hlt : len < most := by omega
      go_enter Try.func10, Try.ntmps10
      go_wp2_with fail
      clear hW1
      refine (HRoom.out _ (Below.refl _ _)).mono ?_
      rintro en x1 ⟨rfl, hb⟩
      have X1 := Lib.hid hb
      obtain ⟨a0, a1, a2, a3⟩ := HC.out _ hb
      clear hb c0 c1 c2 c3
      go_wp2_with fail
      refine (HHas.out _ X1.out).mono ?_
      rintro en x2 ⟨rfl, hb⟩
      have X2 := Lib.hid (X1.out.trans (hb.mono X1.out.size))
      clear hb a0 a1 a2 a3
      obtain ⟨c0, c1, c2, c3⟩ := HC.out _ X2.out
      obtain ⟨q0, q1, q2, q3⟩ := (HR.out _ X2.out).cells
      go_wp2_with fail
      have X3 := Lib.hid (X2.out.trans ((below_drew x2).mono X2.out.size))
      have hE1 : E.length + 1 ≤ maxLen := by rw [HL.out]; unfold maxLen; omega
      have hE2 : (E.length + 1) * 64 ≤ 140737488355328 := by rw [HL.out]; omega
      have hE3 : E.length < most := by rw [HL.out]; exact hlt
      go_region_law (first
        | (go_simp; go_at_call 22; refine (kept_any ⟨⟨o, i⟩, pg, ng, cg, ps, ns, cs⟩ e _ (HV.out _ X3.out) HFit.out).mono ?_; rintro en y ⟨⟨⟨o', i'⟩, qg, mg, dg, qs, ms, ds⟩, rfl, hE, hb⟩; have Y1 := Lib.hid hb; have HY := Lib.hid hE; obtain ⟨y0, y1, y2, y3⟩ := (HR.out _ (X3.out.trans (hb.mono X3.out.size))).cells; have ya : ∀ ob, (y.alloc ob).cell? ⟨p, 1, none⟩ = some ev := (fun ob => ((HR.out _ (X3.out.trans (hb.mono X3.out.size))).below (below_alloc y ob)).cells.2.1); have LY := Lib.hid (((HR.out _ (X3.out.trans (hb.mono X3.out.size))).below (below_alloc y (.cells #[.int .i64 o', .int .i64 i', .slice qg mg dg, .slice qs ms ds] 40))).lot); clear hE hb)
        | (refine step_append_lot _ (by rfl) _ _ 22 (by rfl) 40 i0 _ 4 64 Try.underlying22 gi gz0 gz1 gz2 rfl ev E.length (flatE R) (by rfl) LY.out ⟨y.heap.size, 0, none⟩ 1 1 [.int .i64 o', .int .i64 i', .slice qg mg dg, .slice qs ms ds] (by rfl) (by rfl) (info_entry_news y ⟨⟨o', i'⟩, qg, mg, dg, qs, ms, ds⟩) (by simp [Value.oneCell']) (by omega) hE1 hE2 _ rfl ?_; intro g cap w4 hL hg hat; obtain ⟨m0, m1, m2, m3, hM⟩ := AddMid.make (e := e) HRow.out (HW.out _ X3.out) HY.out Y1.out hL hg hat hE3 HFit.out; have HM := Lib.hid hM; have HG := Lib.hid hg; clear hL hg hat hM))
      all_goals
        have HZ := Lib.hid (show (w4.setCell ⟨p, 1, none⟩ (.slice (some ⟨g, 0, none⟩) (E.length + 1) cap)).cell? ⟨W.heap.size, 0, none⟩ = some (.int .i64 o) ∧ (w4.setCell ⟨p, 1, none⟩ (.slice (some ⟨g, 0, none⟩) (E.length + 1) cap)).cell? ⟨W.heap.size, 1, none⟩ = some (.int .i64 i) from by
          have hlt0 := HRow.out.plt
          have b3 := X3.out.trans (Y1.out.mono X3.out.size)
          have b4 := b3.alloc (Nat.le_trans X3.out.size Y1.out.size) (.cells #[.int .i64 o', .int .i64 i', .slice qg mg dg, .slice qs ms ds] 40)
          obtain ⟨s0, s1, _, _⟩ := HC.out _ b4
          have hne : ev.ownBlock ≠ some W.heap.size := fun e => by have := HRow.out.lot.lt _ e; omega
          constructor
          · rw [World.cell?_setCell_other _ _ _ _ (fun e => by have := congrArg Addr.block e; dsimp only at this; omega)]
            exact HG.out.cell s0 (Ne.symm hne)
          · rw [World.cell?_setCell_other _ _ _ _ (fun e => by have := congrArg Addr.block e; dsimp only at this; omega)]
            exact HG.out.cell s1 (Ne.symm hne))
        obtain ⟨zz, hfin⟩ := AddMid.fin HM.out hn HFit.out hyes
        obtain ⟨Y, hru, hY⟩ := hfin 1
        rw [← HI.out] at hru
        have HE := Lib.hid hY
        obtain ⟨z0, z1⟩ := HZ.out
        clear hfin hY HZ HM HG m0 m1 m2 m3 y0 y1 y2 y3 ya LY HY c0 c1 c2 c3 q0 q1 q2 q3
        obtain ⟨Z, hZ⟩ : ∃ Z, w4.setCell ⟨p, 1, none⟩ (.slice (some ⟨g, 0, none⟩) (E.length + 1) cap) = Z := ⟨_, rfl⟩
        rw [hZ] at hru z0 z1 zz ⊢
        clear hZ
        have hmix : Try.prog.follows .mixedOrders = true := by kernel_rfl
        have hr2 : (Instr.mapUpdate 28 (.map (some b)) (.agg #[.int .i64 o, .int .i64 i]) (.bool true)).run Try.prog Z.drew = .ok () Y := hru
        clear hru
        go_wp2_with fail
        go_still_tail 6, hmix
        change wpList _ _ _ _ _ Z.drew
        go_wp2_with fail
        go_ret
        exact HE.out
    · have hno : okD most E e = false := by rw [hok]; simp
      have HE := Lib.hid (fun X hX => HNo.out X hX hno)
      clear hok hno HNo
      go_enter Try.func10, Try.ntmps10
      go_wp2_with fail
      clear hW1
      refine (HRoom.out _ (Below.refl _ _)).mono ?_
      rintro en x1 ⟨rfl, hb⟩
      have X1 := Lib.hid hb
      obtain ⟨a0, a1, a2, a3⟩ := HC.out _ hb
      clear hb c0 c1 c2 c3
      go_wp2_with fail
      refine (HHas.out _ X1.out).mono ?_
      rintro en x2 ⟨rfl, hb⟩
      have HE1 := Lib.hid (HE.out _ (HW.out _ (X1.out.trans (hb.mono X1.out.size))))
      clear hb
      go_wp2_with fail
      go_ret
      exact HE1.out

theorem addrow_nil (v : EV) (W : World) : Calls Try.prog 10 #[.pointer none, v.val] W (Says false W) := by
  obtain ⟨⟨o, i⟩, pg, ng, cg, ps, ns, cs⟩ := v
  have HB := Lib.hid (below_alloc W (.cells #[.int .i64 o, .int .i64 i, .slice pg ng cg, .slice ps ns cs] 40))
  go_enter Try.func10, Try.ntmps10
  go_wp2_with fail
  refine (room_nil _).mono ?_
  rintro en x1 ⟨rfl, rfl⟩
  go_wp2_with fail
  go_ret
  exact Says.mk rfl HB.out

theorem addrow_plain (p : Nat) (v : EV) (W : World) (h : W.heap[p]? = some (.cells #[.int .i64 0, .slice none 0 0, .map none] 30 (0, 0))) : Calls Try.prog 10 #[.pointer (some ⟨p, 0, none⟩), v.val] W (Says false W) := by
  obtain ⟨⟨o, i⟩, pg, ng, cg, ps, ns, cs⟩ := v
  have HB := Lib.hid (below_alloc W (.cells #[.int .i64 o, .int .i64 i, .slice pg ng cg, .slice ps ns cs] 40))
  have h2 := (HB.out.block p (Array.getElem?_eq_some_iff.1 h).1).trans h
  have HR := Lib.hid (room_plain p (W.alloc (.cells #[.int .i64 o, .int .i64 i, .slice pg ng cg, .slice ps ns cs] 40)) ((cell_of h2).trans rfl) ((cell_of h2).trans rfl))
  clear h h2
  go_enter Try.func10, Try.ntmps10
  go_wp2_with fail
  refine HR.out.mono ?_
  rintro en x1 ⟨rfl, hb⟩
  have HB2 := Lib.hid (HB.out.trans (hb.mono HB.out.size))
  clear hb
  go_wp2_with fail
  go_ret
  exact Says.mk rfl HB2.out

end Go.Proofs.Ytkfnndhoccjffaa
