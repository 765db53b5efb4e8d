/-
  pending's Drop.
-/
import Derived.Test.YtkfnndhoccjffaaRowless
namespace Go.Proofs.Ytkfnndhoccjffaa
open Go Go.RowKit
attribute [local go_sem ↓] Go.wp_at_zero Go.wp_at_succ

theorem wpList_drop_named (w : World) {ops : Array Oper} {rest : List Oper} {o : Oper} {a : Act} {Q : Exit → Act → World → Prop} (hg : o.guard = none) (m x : Operand)
    (hop : o.op = Op.call { callee := Callee.builtin Builtin.delete, args := #[m, x], argTypes := #[28, 34] }) (b n : Nat) (L : List IdD) (hm : a.eval m = .map (some b)) (h : Named w b n L) (y : IdD) (hy : y.fits) (hx : a.eval x = y.val)
    (hK : ∀ w', Named w' b n (L.filter (fun a => decide (a ≠ y))) → w.grownBy w' (some b) → wpList Try.prog ops Q rest (a.put o.dst (.tuple #[])) w') : wpList Try.prog ops Q (o :: rest) a w := by
  refine wpList_plain hg fun K' hK' => ?_
  obtain ⟨w', hrun, r1, r2⟩ := h.drop y hy o.type
  unfold Oper.wp
  simp only [execOp, hop, resolve, invoke, builtin, Sem.run_bind, Sem.run_pure, Result.andThen_ok, List.map_toArray, List.map_cons, List.map_nil, hm, hx, hrun]
  exact hK' _ _ (hK w' r1 r2)

/-- What Drop leaves. -/
def DroppedR (B p most n : Nat) (E : List ED) (L : List IdD) (f : Nat → Prop) (W : World) (en : Ending) (W' : World) : Prop :=
  ∃ f', en = .returned (.int .i64 ((E.length : Int) - (withoutD E L).length)) ∧ Rowp W' B p most n (withoutD E L) f' ∧ Step f f' W W'

def lessN (N L : List IdD) : List IdD := N.filter (fun a => !decide (a ∈ L))
theorem lessN_ids (E : List ED) (L : List IdD) : ∀ a, a ∈ lessN (idsD E) L ↔ a ∈ idsD (withoutD E L) := by
  intro a
  simp only [lessN, idsD, withoutD, List.mem_filter, List.mem_map, Bool.not_eq_true', decide_eq_false_iff_not]
  constructor
  · rintro ⟨⟨e, he, rfl⟩, hn⟩; exact ⟨e, ⟨he, hn⟩, rfl⟩
  · rintro ⟨e, ⟨he, hn⟩, rfl⟩; exact ⟨⟨e, he, rfl⟩, hn⟩
theorem lessN_snoc {N L : List IdD} {k : Nat} (h : k < L.length) : ∀ a, a ∈ lessN N (L.take (k + 1)) ↔ a ∈ (lessN N (L.take k)).filter (fun a => decide (a ≠ L[k])) := by
  intro a
  rw [List.take_succ_eq_append_getElem h]
  simp only [lessN, List.mem_filter, List.mem_append, List.mem_singleton, Bool.not_eq_true', decide_eq_false_iff_not, not_or, ne_eq, decide_not, decide_eq_false_iff_not]
  constructor
  · rintro ⟨h1, h2, h3⟩; exact ⟨⟨h1, h2⟩, h3⟩
  · rintro ⟨⟨h1, h2⟩, h3⟩; exact ⟨h1, h2, h3⟩

/-- Between two rounds of Drop. -/
def DropI (B p most n : Nat) (E : List ED) (N : List IdD) (f : Nat → Prop) (W : World) (X : World) : Prop := ∃ f' R ev b, RowAt X B p most n E N f' R ev b ∧ Step f f' W X

theorem DropI.round {B p most n : Nat} {E : List ED} {N N' : List IdD} {f : Nat → Prop} {W X X1 : World} {y : IdD} (h : DropI B p most n E N f W X) (hb : Below X.heap.size X X1) (hN : ∀ a, a ∈ N' ↔ a ∈ N.filter (fun a => decide (a ≠ y))) :
    ∃ b, X1.cell? ⟨p, 2, none⟩ = some (.map (some b)) ∧ Named X1 b n N ∧ ∀ Y, Named Y b n (N.filter (fun a => decide (a ≠ y))) → X1.grownBy Y (some b) → DropI B p most n E N' f W Y := by
  obtain ⟨f', R, ev, b, h1, h2⟩ := h
  have h3 := h1.below hb
  refine ⟨b, h3.cells.2.2.1, h3.names, fun Y hY hg => ?_⟩
  obtain ⟨r1, r2⟩ := h3.rename hg (hY.mem hN)
  exact ⟨f', R, ev, b, r1, (h2.trans (Step.of_below hb)).trans r2⟩

set_option maxHeartbeats 2000000 in
theorem drop_any (B p most n : Nat) (E : List ED) (f : Nat → Prop) (pl : Option Addr) (nl cl : Nat) (L : List IdD) (W : World) (h : Rowp W B p most n E f) (hS : ∀ X, W.heap.size ≤ X.heap.size → (∀ k, k < W.heap.size → ¬ f k → X.heap[k]? = W.heap[k]?) → Si X pl L) (hl : L.length = nl) (hnl : nl ≤ 10000) (hf : ∀ a ∈ L, a.fits) :
    Calls Try.prog 14 #[.pointer (some ⟨p, 0, none⟩), .slice pl nl cl] W (DroppedR B p most n E L f W) := by
  have HWo := Lib.hid (fun X (hX : Below W.heap.size W X) => without_any B p most n E f pl nl cl L X (by obtain ⟨R, ev, b, h⟩ := h; exact ⟨R, ev, b, h.below hX⟩) (hS X hX.size (fun k hk _ => hX.block k hk)) hl hnl hf)
  have HS := Lib.hid (fun X g (hX : Step f g W X) => hS X hX.size hX.block)
  have HN := Lib.hid hl
  have HFit := Lib.hid hf
  obtain ⟨R, ev, b, h⟩ := h
  have HRow := Lib.hid h
  obtain ⟨a, c, rfl⟩ := h.form
  have hlen := h.len
  have h32 := h.most32
  have c1 := h.cells.2.1
  have hwl := withoutD_le E L
  clear h hS hl hf
  go_enter Try.func14, Try.ntmps14
  go_wp2_with fail
  refine (HWo.out _ (Below.refl _ _)).mono ?_
  rintro en w2 ⟨q, rfl, ⟨R', g1, g2, g3⟩, hb⟩
  have hBW : B ≤ W.heap.size := Nat.le_trans HRow.out.bp (Nat.le_of_lt HRow.out.plt)
  obtain ⟨r1, r2⟩ := HRow.out.restore (W' := w2) (g := f) (E' := withoutD E L) (R' := R') (ev' := .slice q (withoutD E L).length (withoutD E L).length) (Step.of_below hb) (hb.block p HRow.out.plt) (hb.block b HRow.out.names.lt) g1 (g2.imp (fun _ _ _ _ q => q.mono hBW)) (fun k hk => Nat.le_trans hBW (g3 k hk)) (fun k hk => .inr (g3 k hk)) (Nat.le_trans hwl hlen) (fun e he => HRow.out.fits e (List.mem_filter.1 he).1)
  have H0 := Lib.hid (show DropI B p most n (withoutD E L) (lessN (idsD E) (L.take 0)) f W (w2.setCell ⟨p, 1, none⟩ (.slice q (withoutD E L).length (withoutD E L).length)) from ⟨_, R', _, b, ⟨r1.own, r1.lot, r1.each, r1.names.mem (fun a => by simp [lessN]), r1.foot, r1.bp, r1.be, r1.bb, r1.most32, r1.len, r1.fits⟩, r2⟩)
  obtain ⟨_, d1, _, d3⟩ := (HRow.out.below hb).cells
  clear g1 g2 g3 hb r1 r2
  obtain ⟨lw, hlw⟩ : ∃ lw, (withoutD E L).length = lw := ⟨_, rfl⟩
  rw [hlw] at hwl H0
  have HLW := Lib.hid hlw
  obtain ⟨le, hle⟩ : ∃ le, E.length = le := ⟨_, rfl⟩
  have HLE := Lib.hid hle
  rw [hle] at hwl hlen c1 d1
  clear hlw
  rw [hle, HLW.out]
  clear hle
  go_wp2_with fail
  clear c1 d1 d3
  go_loopw [23] (fun i wr => ∃ k : Nat, i = .int .i64 k ∧ k ≤ nl ∧ Hid (DropI B p most n (withoutD E L) (lessN (idsD E) (L.take k)) f W wr)) (fun i _ => nl - (intOf i).toNat)
  case atStart => exact ⟨0, rfl, Nat.zero_le _, H0⟩
  case round =>
    clear H0
    obtain ⟨k, rfl, hkn, hI⟩ := hrel
    by_cases hlt : k < nl
    · have hkL : k < L.length := by rw [HN.out]; exact hlt
      have HSi : Hid (Si wr pl L) := by
        obtain ⟨f', R', ev', b', _, hs⟩ := hI.out
        exact HS.out wr f' hs
      obtain ⟨bb, o, rfl, e1, e2⟩ := HSi.out k hkL
      have hfit := HFit.out _ (List.getElem_mem hkL)
      have HSn := Lib.hid (lessN_snoc (N := idsD E) hkL)
      obtain ⟨y, hy⟩ : ∃ y, L[k] = y := ⟨_, rfl⟩
      rw [hy] at e1 e2 HSn hfit
      obtain ⟨b', z2, hNm, hnext⟩ := hI.out.round (below_alloc wr (.cells #[.int .i64 y.o, .int .i64 y.s] 34)) HSn.out
      have hk := World.alloc_heap_new wr (.cells #[.int .i64 y.o, .int .i64 y.s] 34)
      have i0 : (wr.alloc (.cells #[.int .i64 y.o, .int .i64 y.s] 34)).cell? ⟨wr.heap.size, 0, none⟩ = some (.int .i64 y.o) := (cell_of hk).trans rfl
      have i1 : (wr.alloc (.cells #[.int .i64 y.o, .int .i64 y.s] 34)).cell? ⟨wr.heap.size, 1, none⟩ = some (.int .i64 y.s) := (cell_of hk).trans rfl
      have HNm := Lib.hid hNm
      have HNext := Lib.hid hnext
      clear hy hkL hk hNm hnext HSi
      have hltz : (k : Int) < (nl : Int) := by omega
      have h0 : (0 : Int) ≤ (k : Int) := by omega
      go_wp2_with fail
      obtain ⟨Z, hZ⟩ : ∃ Z, wr.alloc (.cells #[.int .i64 y.o, .int .i64 y.s] 34) = Z := ⟨_, rfl⟩
      rw [hZ] at HNm HNext i0 i1 z2 ⊢
      clear hZ
      have hmix : Try.prog.follows .mixedOrders = true := by kernel_rfl
      go_still_tail 5, hmix
      change wpList _ _ _ _ _ Z.drew
      refine wpList_drop_named _ rfl _ _ rfl b' n (lessN (idsD E) (L.take k)) rfl (HNm.out.stays rfl) y hfit rfl ?_
      intro Y hY hg
      have HI := Lib.hid (HNext.out Y hY ⟨hg.os, hg.tape, hg.output, hg.size, hg.block⟩)
      clear hY hg
      go_wp2_with fail
      go_roundw
      case rel => exact ⟨k + 1, by go_num, by omega, HI⟩
      case measure => simp [intOf]; omega
    · obtain rfl : nl = k := by omega
      obtain ⟨f', R'', ev', b', hr, hs⟩ := hI.out
      obtain ⟨_, c1, _, _⟩ := hr.cells
      obtain ⟨a', c', rfl⟩ := hr.form
      have HF := Lib.hid (show DroppedR B p most n E L f W (.returned (.int .i64 ((E.length : Int) - (withoutD E L).length))) wr from ⟨f', rfl, ⟨R'', _, b', ⟨hr.own, hr.lot, hr.each, hr.names.mem (fun x => by rw [List.take_of_length_le (by rw [HN.out]; exact Nat.le_refl _)]; exact (lessN_ids E L x).symm), hr.foot, hr.bp, hr.be, hr.bb, hr.most32, hr.len, hr.fits⟩⟩, hs⟩)
      rw [HLW.out] at c1 HF
      rw [HLE.out] at HF
      clear hr hs
      go_wp2_with fail
      go_ret
      exact HF.out

theorem drop_nil (pl : Option Addr) (nl cl : Nat) (W : World) : Calls Try.prog 14 #[.pointer none, .slice pl nl cl] W fun e W' => e = .returned (.int .i64 0) ∧ W = W' := by
  go_enter Try.func14, Try.ntmps14
  go_wp2_with fail
  go_ret
  exact ⟨rfl, rfl⟩

end Go.Proofs.Ytkfnndhoccjffaa
