/-
  The walk through ActTexts.
-/
import Derived.Test.YtlgjolajnddpbaaDoorTextinj
import Derived.Test.YtlgjolajnddpbaaDoorRtext
import Derived.Test.YtlgjolajnddpbaaDoorActaw
import Derived.Test.YtlgjolajnddpbaaDoorDrawn
namespace Go.Proofs.YtlgjolajnddpbaaDoor
open Go Go.Shelf Go.RowKit
attribute [local go_sem ↓] Go.wp_at_zero Go.wp_at_succ

/-- Two acts in boxes; what lay lies as it lay. -/
structure Box2 (W : World) (x y : ActD) (X : World) : Prop where
  lo : Below W.heap.size W X
  b1 : X.heap[W.heap.size]? = some (.cells (actCells x) 34 (0, 0))
  b2 : X.heap[W.heap.size + 1]? = some (.cells (actCells y) 34 (0, 0))
theorem Box2.below {W X Y : World} {x y : ActD} (h : Box2 W x y X) (hb : Below X.heap.size X Y) : Box2 W x y Y :=
  ⟨h.lo.trans (hb.mono h.lo.size), (hb.block _ (heap_at_lt h.b1)).trans h.b1, (hb.block _ (heap_at_lt h.b2)).trans h.b2⟩
theorem Box2.start (W : World) (x y : ActD) : Box2 W x y ((W.alloc (.cells (actCells x) 34)).alloc (.cells (actCells y) 34)) := by
  have h1 := World.alloc_heap_new W (.cells (actCells x) 34)
  have h2 := World.alloc_heap_new (W.alloc (.cells (actCells x) 34)) (.cells (actCells y) 34)
  have z1 : (W.alloc (.cells (actCells x) 34)).heap.size = W.heap.size + 1 := by simp
  have hb := below_alloc (W.alloc (.cells (actCells x) 34)) (.cells (actCells y) 34)
  rw [z1] at h2 hb
  exact ⟨(below_alloc W _).trans (hb.mono (by omega)), (hb.block _ (by omega)).trans h1, h2⟩
theorem Box2.c1 {W X : World} {x y : ActD} (h : Box2 W x y X) : X.cell? ⟨W.heap.size, 0, none⟩ = some (.int .i64 x.kind) ∧ X.cell? ⟨W.heap.size, 1, none⟩ = some (.int .u64 (x.block : Int)) ∧ X.cell? ⟨W.heap.size, 2, none⟩ = some (.int .i64 x.cell) ∧ X.cell? ⟨W.heap.size, 3, none⟩ = some (.int .u64 x.old) ∧ X.cell? ⟨W.heap.size, 4, none⟩ = some (.int .u64 x.new) ∧ X.cell? ⟨W.heap.size, 5, none⟩ = some (.string x.text) :=
  ⟨(cell_of h.b1).trans rfl, (cell_of h.b1).trans rfl, (cell_of h.b1).trans rfl, (cell_of h.b1).trans rfl, (cell_of h.b1).trans rfl, (cell_of h.b1).trans rfl⟩
theorem Box2.c2 {W X : World} {x y : ActD} (h : Box2 W x y X) : X.cell? ⟨W.heap.size + 1, 0, none⟩ = some (.int .i64 y.kind) ∧ X.cell? ⟨W.heap.size + 1, 1, none⟩ = some (.int .u64 (y.block : Int)) ∧ X.cell? ⟨W.heap.size + 1, 2, none⟩ = some (.int .i64 y.cell) ∧ X.cell? ⟨W.heap.size + 1, 3, none⟩ = some (.int .u64 y.old) ∧ X.cell? ⟨W.heap.size + 1, 4, none⟩ = some (.int .u64 y.new) ∧ X.cell? ⟨W.heap.size + 1, 5, none⟩ = some (.string y.text) :=
  ⟨(cell_of h.b2).trans rfl, (cell_of h.b2).trans rfl, (cell_of h.b2).trans rfl, (cell_of h.b2).trans rfl, (cell_of h.b2).trans rfl, (cell_of h.b2).trans rfl⟩

theorem same_told {x y : ActD} (hx : rightA x = true) (hy : rightA y = true) (fx : x.fits) (fy : y.fits) : ∃ e : Bool, ((textA x).toList == (textA y).toList) = e ∧ ∀ w, (binOp .eql 34 (actV x.kind x.block x.cell x.old x.new x.text) (actV y.kind y.block y.cell y.old y.new y.text)).run Tryd.prog w = .ok (.bool e) w := by
  by_cases h : x = y
  · subst h
    refine ⟨true, by simp, fun w => ?_⟩
    rw [eqA_run]
    simp
  · refine ⟨false, ?_, fun w => ?_⟩
    · rw [beq_eq_false_iff_ne]
      intro e
      rw [ByteArray.toList_eq, ByteArray.toList_eq] at e
      exact h (text_inj hx hy fx fy (ba_list e))
    · rw [eqA_run]
      have : (x.kind == y.kind && ((x.block : Int) == (y.block : Int) && (x.cell == y.cell && (x.old == y.old && (x.new == y.new && x.text.toList == y.text.toList))))) = false := by
        rw [Bool.eq_false_iff]
        intro hh
        simp only [Bool.and_eq_true, beq_iff_eq] at hh
        obtain ⟨e1, e2, e3, e4, e5, e6⟩ := hh
        rw [ByteArray.toList_eq, ByteArray.toList_eq] at e6
        obtain ⟨k, b, c, o, n, t⟩ := x
        obtain ⟨k', b', c', o', n', t'⟩ := y
        simp only at e1 e2 e3 e4 e5 e6
        obtain rfl := ba_list e6
        obtain rfl : b = b' := by omega
        subst e1 e3 e4 e5
        exact h rfl
      rw [this]
theorem box_all {W X : World} {k k' : Int} {b b' : Nat} {c o n c' o' n' : Int} {t t' : ByteArray} (h : Box2 W ⟨k, b, c, o, n, t⟩ ⟨k', b', c', o', n', t'⟩ X) :
    X.cell? ⟨W.heap.size, 0, none⟩ = some (.int .i64 k) ∧ X.cell? ⟨W.heap.size, 1, none⟩ = some (.int .u64 (b : Int)) ∧ X.cell? ⟨W.heap.size, 2, none⟩ = some (.int .i64 c) ∧ X.cell? ⟨W.heap.size, 3, none⟩ = some (.int .u64 o) ∧ X.cell? ⟨W.heap.size, 4, none⟩ = some (.int .u64 n) ∧ X.cell? ⟨W.heap.size, 5, none⟩ = some (.string t) ∧
    X.cell? ⟨W.heap.size + 1, 0, none⟩ = some (.int .i64 k') ∧ X.cell? ⟨W.heap.size + 1, 1, none⟩ = some (.int .u64 (b' : Int)) ∧ X.cell? ⟨W.heap.size + 1, 2, none⟩ = some (.int .i64 c') ∧ X.cell? ⟨W.heap.size + 1, 3, none⟩ = some (.int .u64 o') ∧ X.cell? ⟨W.heap.size + 1, 4, none⟩ = some (.int .u64 n') ∧ X.cell? ⟨W.heap.size + 1, 5, none⟩ = some (.string t') := by
  obtain ⟨a0, a1, a2, a3, a4, a5⟩ := h.c1
  obtain ⟨d0, d1, d2, d3, d4, d5⟩ := h.c2
  exact ⟨a0, a1, a2, a3, a4, a5, d0, d1, d2, d3, d4, d5⟩
set_option maxRecDepth 100000 in
set_option maxHeartbeats 8000000 in
theorem texts_small (x y : ActD) (fx : x.fits) (fy : y.fits) (W : World) (hT : Tabs W) (hx : x.text.size ≤ 200) (hy : y.text.size ≤ 200) :
    Calls Tryd.prog 4 #[actV x.kind x.block x.cell x.old x.new x.text, actV y.kind y.block y.cell y.old y.new y.text] W (Says true W) := by
  have HT := Lib.hid hT
  have HX := Lib.hid (fun X (hX : Tabs X) => text_any x fx X hX)
  have HRX := Lib.hid (fun X => rtext_any x fx X)
  have HY := Lib.hid (fun X (hX : Tabs X) => text_any y fy X hX)
  have HR1 := Lib.hid (fun X => right_any x.kind x.block x.cell x.old x.new x.text X)
  have HR2 := Lib.hid (fun X => right_any y.kind y.block y.cell y.old y.new y.text X)
  have H0 := Lib.hid (Box2.start W x y)
  have hbb : ((textA x).toList == (textA x).toList) = true := by simp
  have g1 : decide ((200 : Int) < (x.text.size : Int)) = false := decide_eq_false (by omega)
  have g2 : decide ((200 : Int) < (y.text.size : Int)) = false := decide_eq_false (by omega)
  obtain ⟨tx, htx⟩ : ∃ t, textA x = t := ⟨_, rfl⟩
  obtain ⟨ty, hty⟩ : ∃ t, textA y = t := ⟨_, rfl⟩
  obtain ⟨rx, hrx⟩ : ∃ r, rightA ⟨x.kind, x.block, x.cell, x.old, x.new, x.text⟩ = r := ⟨_, rfl⟩
  obtain ⟨ry, hry⟩ : ∃ r, rightA ⟨y.kind, y.block, y.cell, y.old, y.new, y.text⟩ = r := ⟨_, rfl⟩
  have HE := Lib.hid (fun (h1 : rx = true) (h2 : ry = true) => same_told (hrx.trans h1) (hry.trans h2) fx fy)
  rw [htx] at HX HRX hbb HE
  rw [hty] at HE
  rw [hty] at HY
  rw [hrx] at HR1
  rw [hry] at HR2
  obtain ⟨k, b, c, o, n, t⟩ := x
  obtain ⟨k', b', c', o', n', t'⟩ := y
  simp only at HX HRX HY HR1 HR2 HE g1 g2 hx hy hrx hry ⊢
  clear hT fx fy
  obtain ⟨a0, a1, a2, a3, a4, a5⟩ := H0.out.c1
  obtain ⟨d0, d1, d2, d3, d4, d5⟩ := H0.out.c2
  unfold actCells at H0 a0 a1 a2 a3 a4 a5 d0 d1 d2 d3 d4 d5
  simp only at a0 a1 a2 a3 a4 a5 d0 d1 d2 d3 d4 d5 H0
  go_enter Tryd.func4, Tryd.ntmps4
  go_wp2_with fail
  generalize (W.alloc (.cells #[.int .i64 k, .int .u64 (b : Int), .int .i64 c, .int .u64 o, .int .u64 n, .string t] 34)).alloc (.cells #[.int .i64 k', .int .u64 (b' : Int), .int .i64 c', .int .u64 o', .int .u64 n', .string t'] 34) = w3 at H0 ⊢
  clear a0 a1 a2 a3 a4 a5 d0 d1 d2 d3 d4 d5
  have F1 := Lib.hid (fun X (hX : Below w3.heap.size w3 X) => (H0.out.below hX).c1)
  have F2 := Lib.hid (fun X (hX : Below w3.heap.size w3 X) => (H0.out.below hX).c2)
  have HT3 := Lib.hid (fun X (hX : Below w3.heap.size w3 X) => HT.out.below (H0.out.below hX).lo)
  have X0 := Lib.hid (Below.refl w3.heap.size w3)
  go_region_held3 (fun w' => w'.cell? ⟨W.heap.size, 0, none⟩ = some (.int .i64 k) ∧ w'.cell? ⟨W.heap.size, 1, none⟩ = some (.int .u64 (b : Int)) ∧ w'.cell? ⟨W.heap.size, 2, none⟩ = some (.int .i64 c) ∧ w'.cell? ⟨W.heap.size, 3, none⟩ = some (.int .u64 o) ∧ w'.cell? ⟨W.heap.size, 4, none⟩ = some (.int .u64 n) ∧ w'.cell? ⟨W.heap.size, 5, none⟩ = some (.string t))
    (first
      | exact F1.out _ X2.out
      | exact F1.out _ X1.out
      | exact F1.out _ (drew_below' X0.out)
      | exact F1.out _ X0.out)
    (first
      | (go_at_call 22; refine (HX.out _ (HT3.out _ (drew_below' X0.out))).mono ?_; rintro e x1 ⟨rfl, hb⟩; have X1 := Lib.hid (below_to (drew_below' X0.out) hb (drew_below' X0.out).size); clear hb)
      | (go_at_call 23; refine (HRX.out _).mono ?_; rintro e x2 ⟨rfl, hb⟩; have X2 := Lib.hid (below_to X1.out hb X1.out.size); clear hb))
  go_wp2_with fail
  have F3 := Lib.hid (fun X (hX : Below w3.heap.size w3 X) => box_all (H0.out.below hX))
  cases rx
  · -- the first may not be
    refine wp_region_any (by kernel_rfl) ?_
    change wpAny _ _ _ _ _ _ _ (World.drew _)
    obtain ⟨a0, a1, a2, a3, a4, a5, d0, d1, d2, d3, d4, d5⟩ := F3.out _ (drew_below' X2.out)
    refine wpAny_ready (rs := [0]) (by kernel_rfl) (by simp) ?_
    refine AllReady.cons rfl (fun K hK => ?_) AllReady.nil
    go_simp
    refine hK _ _ ?_
    clear hK K
    refine wpAny_ready (rs := [1]) (by kernel_rfl) (by simp) ?_
    refine AllReady.cons rfl (fun K hK => ?_) AllReady.nil
    go_simp
    go_at_call 9
    refine (HR1.out _).mono ?_
    rintro e x3 ⟨rfl, hb⟩
    have X3 := Lib.hid (below_to (drew_below' X2.out) hb ((drew_below' X2.out)).size)
    clear hb a0 a1 a2 a3 a4 a5 d0 d1 d2 d3 d4 d5
    obtain ⟨a0, a1, a2, a3, a4, a5, d0, d1, d2, d3, d4, d5⟩ := F3.out _ X3.out
    go_simp
    refine hK _ _ ?_
    clear hK K
    refine wpAny_lex_from 2 ?lx ?hlx ?hfx (by kernel_rfl) (by kernel_rfl) ?tailx
    case hlx => simp only [List.drop_succ_cons, List.drop_zero]; exact rfl
    case hfx => rfl
    repeat (go_big_quiet_step (fail))
    refine wpQuiet_nil ?_
    rintro w6 ⟨nq, rfl⟩
    have X6 := Lib.hid (below_to X3.out (below_draws x3 nq) X3.out.size)
    go_wp2_with fail
    refine (awake_any _ (HT3.out _ X6.out)).mono ?_
    rintro en w7 ⟨rfl, hb⟩
    have HB := Lib.hid ((H0.out.below X6.out).lo.trans (hb.mono (H0.out.below X6.out).lo.size))
    clear hb
    go_wp2_with fail
    go_ret
    exact Says.mk rfl HB.out
  · cases ry
    · -- the second may not be
      refine wp_region_any (by kernel_rfl) ?_
      change wpAny _ _ _ _ _ _ _ (World.drew _)
      obtain ⟨a0, a1, a2, a3, a4, a5, d0, d1, d2, d3, d4, d5⟩ := F3.out _ (drew_below' X2.out)
      refine wpAny_ready (rs := [0]) (by kernel_rfl) (by simp) ?_
      refine AllReady.cons rfl (fun K hK => ?_) AllReady.nil
      go_simp
      refine hK _ _ ?_
      clear hK K
      refine wpAny_ready (rs := [1]) (by kernel_rfl) (by simp) ?_
      refine AllReady.cons rfl (fun K hK => ?_) AllReady.nil
      go_simp
      go_at_call 9
      refine (HR1.out _).mono ?_
      rintro e x3 ⟨rfl, hb⟩
      have X3 := Lib.hid (below_to (drew_below' X2.out) hb ((drew_below' X2.out)).size)
      clear hb a0 a1 a2 a3 a4 a5 d0 d1 d2 d3 d4 d5
      obtain ⟨a0, a1, a2, a3, a4, a5, d0, d1, d2, d3, d4, d5⟩ := F3.out _ X3.out
      go_simp
      refine hK _ _ ?_
      clear hK K
      refine wpAny_ready (rs := [2]) (by kernel_rfl) (by simp) ?_
      refine AllReady.cons rfl (fun K hK => ?_) AllReady.nil
      go_simp
      refine hK _ _ ?_
      clear hK K
      refine wpAny_ready (rs := [3]) (by kernel_rfl) (by simp) ?_
      refine AllReady.cons rfl (fun K hK => ?_) AllReady.nil
      go_simp
      refine hK _ _ ?_
      clear hK K
      refine wpAny_ready (rs := [4]) (by kernel_rfl) (by simp) ?_
      refine AllReady.cons rfl (fun K hK => ?_) AllReady.nil
      go_simp
      go_at_call 9
      refine (HR2.out _).mono ?_
      rintro e x4 ⟨rfl, hb⟩
      have X4 := Lib.hid (below_to X3.out hb (X3.out).size)
      clear hb a0 a1 a2 a3 a4 a5 d0 d1 d2 d3 d4 d5
      obtain ⟨a0, a1, a2, a3, a4, a5, d0, d1, d2, d3, d4, d5⟩ := F3.out _ X4.out
      go_simp
      refine hK _ _ ?_
      clear hK K
      refine wpAny_lex_from 5 ?lxb ?hlxb ?hfxb (by kernel_rfl) (by kernel_rfl) ?tailxb
      case hlxb => simp only [List.drop_succ_cons, List.drop_zero]; exact rfl
      case hfxb => rfl
      repeat (go_big_quiet_step (fail))
      refine wpQuiet_nil ?_
      rintro w6 ⟨nq, rfl⟩
      have X6 := Lib.hid (below_to X4.out (below_draws x4 nq) X4.out.size)
      go_wp2_with fail
      refine (awake_any _ (HT3.out _ X6.out)).mono ?_
      rintro en w7 ⟨rfl, hb⟩
      have HB := Lib.hid ((H0.out.below X6.out).lo.trans (hb.mono (H0.out.below X6.out).lo.size))
      clear hb
      go_wp2_with fail
      go_ret
      exact Says.mk rfl HB.out
    · -- both may be
      obtain ⟨e, hS, hE⟩ := HE.out rfl rfl
      go_region_held3 (fun w' => w'.cell? ⟨W.heap.size, 0, none⟩ = some (.int .i64 k) ∧ w'.cell? ⟨W.heap.size, 1, none⟩ = some (.int .u64 (b : Int)) ∧ w'.cell? ⟨W.heap.size, 2, none⟩ = some (.int .i64 c) ∧ w'.cell? ⟨W.heap.size, 3, none⟩ = some (.int .u64 o) ∧ w'.cell? ⟨W.heap.size, 4, none⟩ = some (.int .u64 n) ∧ w'.cell? ⟨W.heap.size, 5, none⟩ = some (.string t) ∧
        w'.cell? ⟨W.heap.size + 1, 0, none⟩ = some (.int .i64 k') ∧ w'.cell? ⟨W.heap.size + 1, 1, none⟩ = some (.int .u64 (b' : Int)) ∧ w'.cell? ⟨W.heap.size + 1, 2, none⟩ = some (.int .i64 c') ∧ w'.cell? ⟨W.heap.size + 1, 3, none⟩ = some (.int .u64 o') ∧ w'.cell? ⟨W.heap.size + 1, 4, none⟩ = some (.int .u64 n') ∧ w'.cell? ⟨W.heap.size + 1, 5, none⟩ = some (.string t'))
        (first
          | exact F3.out _ X6.out
          | exact F3.out _ X5.out
          | exact F3.out _ X4.out
          | exact F3.out _ X3.out
          | exact F3.out _ (drew_below' X2.out)
          | exact F3.out _ X2.out)
        (first
          | (have hq := X5.out; clear hq; go_at_call 22; refine (HY.out _ (HT3.out _ X5.out)).mono ?_; rintro en x6 ⟨rfl, hb⟩; have X6 := Lib.hid (below_to X5.out hb X5.out.size); clear hb)
          | (have hq := X4.out; clear hq; go_at_call 22; refine (HX.out _ (HT3.out _ X4.out)).mono ?_; rintro en x5 ⟨rfl, hb⟩; have X5 := Lib.hid (below_to X4.out hb X4.out.size); clear hb)
          | (have hq := X3.out; clear hq; go_at_call 9; refine (HR2.out _).mono ?_; rintro en x4 ⟨rfl, hb⟩; have X4 := Lib.hid (below_to X3.out hb X3.out.size); clear hb)
          | (go_at_call 9; refine (HR1.out _).mono ?_; rintro en x3 ⟨rfl, hb⟩; have X3 := Lib.hid (below_to (drew_below' X2.out) hb (drew_below' X2.out).size); clear hb))
      go_wp2_with fail
      refine (awake_any _ (HT3.out _ X6.out)).mono ?_
      rintro en w7 ⟨rfl, hb⟩
      have HB := Lib.hid ((H0.out.below X6.out).lo.trans (hb.mono (H0.out.below X6.out).lo.size))
      clear hb
      go_wp2_with fail
      go_ret
      exact Says.mk rfl HB.out

set_option maxRecDepth 100000 in
set_option maxHeartbeats 2000000 in
theorem texts_walk (x y : ActD) (fx : x.fits) (fy : y.fits) (W : World) (hT : Tabs W) :
    Calls Tryd.prog 4 #[actV x.kind x.block x.cell x.old x.new x.text, actV y.kind y.block y.cell y.old y.new y.text] W (Says true W) := by
  by_cases hx : x.text.size ≤ 200
  · by_cases hy : y.text.size ≤ 200
    · exact texts_small x y fx fy W hT hx hy
    · have HT := Lib.hid hT
      have H0 := Lib.hid (Box2.start W x y)
      have g1 : decide ((200 : Int) < (x.text.size : Int)) = false := decide_eq_false (by omega)
      have g2 : decide ((200 : Int) < (y.text.size : Int)) = true := decide_eq_true (by omega)
      obtain ⟨k, b, c, o, n, t⟩ := x
      obtain ⟨k', b', c', o', n', t'⟩ := y
      simp only at g1 g2 H0 ⊢
      clear hT fx fy hx hy
      obtain ⟨a0, a1, a2, a3, a4, a5⟩ := H0.out.c1
      obtain ⟨d0, d1, d2, d3, d4, d5⟩ := H0.out.c2
      unfold actCells at H0 a0 a1 a2 a3 a4 a5 d0 d1 d2 d3 d4 d5
      simp only at a0 a1 a2 a3 a4 a5 d0 d1 d2 d3 d4 d5 H0
      go_enter Tryd.func4, Tryd.ntmps4
      go_wp2_with fail
      refine (awake_any _ (HT.out.below H0.out.lo)).mono ?_
      rintro en w7 ⟨rfl, hb⟩
      have HB := Lib.hid (H0.out.lo.trans (hb.mono H0.out.lo.size))
      clear hb
      go_wp2_with fail
      go_ret
      exact Says.mk rfl HB.out
  · have HT := Lib.hid hT
    have H0 := Lib.hid (Box2.start W x y)
    have g1 : decide ((200 : Int) < (x.text.size : Int)) = true := decide_eq_true (by omega)
    obtain ⟨k, b, c, o, n, t⟩ := x
    obtain ⟨k', b', c', o', n', t'⟩ := y
    simp only at g1 H0 ⊢
    clear hT fx fy hx
    obtain ⟨a0, a1, a2, a3, a4, a5⟩ := H0.out.c1
    obtain ⟨d0, d1, d2, d3, d4, d5⟩ := H0.out.c2
    unfold actCells at H0 a0 a1 a2 a3 a4 a5 d0 d1 d2 d3 d4 d5
    simp only at a0 a1 a2 a3 a4 a5 d0 d1 d2 d3 d4 d5 H0
    go_enter Tryd.func4, Tryd.ntmps4
    go_wp2_with fail
    refine (awake_any _ (HT.out.below H0.out.lo)).mono ?_
    rintro en w7 ⟨rfl, hb⟩
    have HB := Lib.hid (H0.out.lo.trans (hb.mono H0.out.lo.size))
    clear hb
    go_wp2_with fail
    go_ret
    exact Says.mk rfl HB.out

end Go.Proofs.YtlgjolajnddpbaaDoor
