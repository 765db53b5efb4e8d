/-
  shelf's routine: Act, Take, Result, New; it is a kind of routine.
-/
import Derived.Test.YtdegcmobgmaenaaVer
namespace Go.Proofs.Ytdegcmobgmaenaa
open Go Go.RowKit
attribute [local go_sem ↓] Go.wp_at_zero Go.wp_at_succ
attribute [local go_sem] neqA_run eqA_run

theorem vact_end {W X : World} {n : Nat} {x : ActD} {is : Bool} {T : Array Value} (h : X.heap[n]? = some noO) (hb : Below W.heap.size W X) (hn : W.heap.size ≤ n) (h2 : T.getD 2 undef = .pointer (some ⟨n, 0, none⟩)) (h3 : T.getD 3 undef = .bool is) :
    bodyPost Try.prog Try.f68 (fun e W' => e = .returned (.tuple #[actOf x, .bool is]) ∧ Below W.heap.size W W') .ret { tmps := T, defers := [] }
      (((((((X.setCell ⟨n, 0, none⟩ (.int .i64 x.kind)).setCell ⟨n, 1, none⟩ (.int .u64 (x.block : Int))).setCell ⟨n, 2, none⟩ (.int .i64 x.cell)).setCell ⟨n, 3, none⟩ (.int .u64 x.old)).setCell ⟨n, 4, none⟩ (.int .u64 x.new)).setCell ⟨n, 5, none⟩ (.string x.text)).drew) := by
  have h6 := set6 h (.int .i64 x.kind) (.int .u64 (x.block : Int)) (.int .i64 x.cell) (.int .u64 x.old) (.int .u64 x.new) (.string x.text)
  have hb6 := below_turned (below6 hb hn (.int .i64 x.kind) (.int .u64 (x.block : Int)) (.int .i64 x.cell) (.int .u64 x.old) (.int .u64 x.new) (.string x.text))
  generalize ((((((X.setCell ⟨n, 0, none⟩ (.int .i64 x.kind)).setCell ⟨n, 1, none⟩ (.int .u64 (x.block : Int))).setCell ⟨n, 2, none⟩ (.int .i64 x.cell)).setCell ⟨n, 3, none⟩ (.int .u64 x.old)).setCell ⟨n, 4, none⟩ (.int .u64 x.new)).setCell ⟨n, 5, none⟩ (.string x.text)) = Y at h6 hb6 ⊢
  have h7 : Y.drew.heap[n]? = some (.cells (actCells x) 48 (0, 0)) := h6
  exact bodyPost_ret (v := .tuple #[actOf x, .bool is]) (by rw [results_cell2 (by rfl), h2, h3]; simp only [asAddr, Sem.run_pure, Result.andThen_ok, load_act h7]) rfl ⟨rfl, hb6⟩

set_option maxRecDepth 100000 in
set_option maxHeartbeats 4000000 in
theorem act_is {B r : Nat} {v : VerD} {f : Nat → Prop} (W : World) (h : VerAt W B r v f) : Calls Try.prog 68 #[.pointer (some ⟨r, 0, none⟩)] W fun e W' => e = .returned (.tuple #[actOf ((nextV v).getD noAct), .bool (nextV v).isSome]) ∧ Below W.heap.size W W' := by
  have HB := Lib.hid (below_alloc W noO)
  have HN := Lib.hid (World.alloc_heap_new W noO)
  have HT := Lib.hid (fun X (hX : Below W.heap.size W X) => todo_is X (h.below hX))
  obtain ⟨o, ho⟩ : ∃ o, nextV v = o := ⟨_, rfl⟩
  have hk : ∀ x, o = some x → x.kind = 5 ∨ x.kind = 2 := fun x hx => todoV_kind (ho.trans hx)
  rw [ho] at HT ⊢
  obtain ⟨y, hy⟩ : ∃ y, o.getD noAct = y := ⟨_, rfl⟩
  obtain ⟨q, hq⟩ : ∃ q, o.isSome = q := ⟨_, rfl⟩
  have hrun : ∀ w : World, (binOp .neq 48 (actV y.kind y.block y.cell y.old y.new y.text) (actV 0 0 0 0 0 ⟨#[]⟩)).run Try.prog w = .ok (.bool q) w := fun w => by
    rw [neqA_run, ← hq, ← hy]
    cases o with
    | none => simp [noAct]
    | some x =>
      have : (x.kind == 0) = false := by rcases hk x rfl with e | e <;> rw [e] <;> rfl
      simp [this]
  have HY := Lib.hid hy
  rw [hy, hq]
  clear h hk hq ho hy
  go_enter Try.func68, Try.ntmps68
  go_wp2_with fail
  refine (HT.out _ HB.out).mono ?_
  rintro en w1 ⟨rfl, hb⟩
  rw [HY.out]
  obtain ⟨h1, hb1⟩ := todo_mid HN.out hb
  have hne := heap_at_lt h1
  have HB1 := Lib.hid (hb1.trans ((below_alloc w1 (actO y)).mono hb1.size))
  have H1 := Lib.hid (((below_alloc w1 (actO y)).block _ hne).trans h1)
  have HA1 := Lib.hid (World.alloc_heap_new w1 (actO y))
  obtain ⟨n1, hn1⟩ : ∃ n, w1.heap.size = n := ⟨_, rfl⟩
  go_wp2_with fail
  rw [hn1] at HA1 hne
  generalize w1.alloc (actO y) = w2 at HB1 H1 HA1 ⊢
  have hne' : W.heap.size ≠ n1 := by omega
  obtain ⟨z0, z1, z2, z3, z4, z5⟩ := six_free H1.out
  obtain ⟨m0, m1, m2, m3, m4, m5⟩ := six_at H1.out
  obtain ⟨a0, a1, a2, a3, a4, a5⟩ := six_at HA1.out
  clear hb h1 hb1 hne hn1
  go_region
  all_goals
    go_wp2_with fail
    exact vact_end H1.out HB1.out (Nat.le_refl _) rfl rfl

/-! ### Result -/
theorem result_any {B r : Nat} {v : VerD} {f : Nat → Prop} (W : World) (h : VerAt W B r v f) : Calls Try.prog 22 #[.pointer (some ⟨r, 0, none⟩)] W fun e W' => e = .returned (.tuple #[.int .u64 (if v.place = 5 then (v.block : Int) else 0), .bool (decide (v.place = 5))]) ∧ W' = W := by
  obtain ⟨-, -, -, -, c4, c5⟩ := h.cells
  obtain ⟨ep, nx, hs, tx, pl, bl⟩ := v
  simp only at c4 c5 ⊢
  clear h
  by_cases hp : pl = 5
  · subst hp
    go_enter Try.func22, Try.ntmps22
    go_wp2_with fail
    exact bodyPost_ret (results_tmp2 rfl _ _ _) rfl ⟨rfl, rfl⟩
  · have hp0 : ((pl : Int) == 5) = false := by simp; omega
    rw [if_neg hp, decide_eq_false hp]
    clear hp
    go_enter Try.func22, Try.ntmps22
    go_wp2_with fail
    exact bodyPost_ret (results_tmp2 rfl _ _ _) rfl ⟨rfl, rfl⟩
theorem result_nil (W : World) : Calls Try.prog 22 #[.pointer none] W fun e W' => e = .returned (.tuple #[.int .u64 0, .bool false]) ∧ W' = W := by
  go_enter Try.func22, Try.ntmps22
  go_wp2_with fail
  exact bodyPost_ret (results_tmp2 rfl _ _ _) rfl ⟨rfl, rfl⟩

/-! ### New -/
theorem setText {X : World} {n : Nat} {t : TypeId} {a0 a1 a2 a3 a4 a5 : Value} (h : X.heap[n]? = some (.cells #[a0, a1, a2, a3, a4, a5] t (0, 0))) (v : Value) :
    (X.setCell ⟨n, 3, none⟩ v).heap[n]? = some (.cells #[a0, a1, a2, v, a4, a5] t (0, 0)) := (heap_setAt h).trans rfl
abbrev chO (key : ByteArray) (has : Bool) (val : ByteArray) : Obj := .cells #[.string key, .bool has, .string val] 33 (0, 0)
/-- What New makes of a change. -/
def newV (ep nx : Int) (has : Bool) (val : ByteArray) : VerD := ⟨ep, nx, has, if has then val else ⟨#[]⟩, 1, 0⟩
def NewVE (v : VerD) (W : World) (e : Ending) (W' : World) : Prop := ∃ r, e = .returned (.pointer (some ⟨r, 0, none⟩)) ∧ W.heap.size ≤ r ∧ W'.heap[r]? = some (verO v) ∧ Below W.heap.size W W'

set_option maxRecDepth 100000 in
set_option maxHeartbeats 2000000 in
theorem newv_any (W : World) (ep nx : Int) (key : ByteArray) (has : Bool) (val : ByteArray) (hv : val.size ≤ 281474976710656) :
    Calls Try.prog 21 #[.int .u64 ep, .int .u64 nx, .agg #[.string key, .bool has, .string val]] W (NewVE (newV ep nx has val) W) := by
  have HC := Lib.hid (fun X => clone_any val X hv)
  clear hv
  cases has with
  | false =>
    go_enter Try.func21, Try.ntmps21
    go_wp2_with fail
    go_ret
    refine ⟨_, rfl, by omega, (by have h := World.alloc_heap_new (W.alloc (chO key false val)) (verO (newV ep nx false val)); rw [World.size_alloc] at h; exact h), (below_alloc W _).trans ((below_alloc _ _).mono (by simp))⟩
  | true =>
    go_enter Try.func21, Try.ntmps21
    go_wp2_with fail
    have HB := Lib.hid (show Below W.heap.size W ((W.alloc (chO key true val)).alloc (verO ⟨ep, nx, true, ⟨#[]⟩, 1, 0⟩)) from (below_alloc W _).trans ((below_alloc _ _).mono (by simp)))
    have HN := Lib.hid (show ((W.alloc (chO key true val)).alloc (verO ⟨ep, nx, true, ⟨#[]⟩, 1, 0⟩)).heap[W.heap.size + 1]? = some (verO ⟨ep, nx, true, ⟨#[]⟩, 1, 0⟩) from by
      have h := World.alloc_heap_new (W.alloc (chO key true val)) (verO ⟨ep, nx, true, ⟨#[]⟩, 1, 0⟩); rw [World.size_alloc] at h; exact h)
    refine (HC.out _).mono ?_
    rintro en w1 ⟨rfl, hb⟩
    have HB1 := Lib.hid (HB.out.trans (hb.mono HB.out.size))
    have HN1 := Lib.hid ((hb.block _ (heap_at_lt HN.out)).trans HN.out)
    clear hb
    obtain ⟨m0, m1, m2, m3, m4, m5⟩ := six_at HN1.out
    obtain ⟨z0, z1, z2, z3, z4, z5⟩ := six_free HN1.out
    go_wp2_with fail
    go_ret
    exact ⟨_, rfl, by omega, setText HN1.out _, HB1.out.setCell (by show W.heap.size ≤ W.heap.size + 1; omega) _⟩

/-! ### Take -/
/-- In the middle of Take: the routine at place a. -/
structure VTake (W : World) (B r : Nat) (v : VerD) (a : Nat) (f : Nat → Prop) (X : World) : Prop where
  at_ : VerAt X B r (v.to a) f
  st : Step f f W X
theorem VTake.below {W X Y : World} {B r a : Nat} {v : VerD} {f : Nat → Prop} (h : VTake W B r v a f X) (hb : Below X.heap.size X Y) : VTake W B r v a f Y := ⟨h.at_.below hb, h.st.trans (Step.of_below hb)⟩
theorem VTake.on {W X : World} {B r a : Nat} {v : VerD} {f : Nat → Prop} (h : VTake W B r v a f X) (b : Nat) (hb : 1 ≤ b ∧ b ≤ 5) : VTake W B r v b f (X.setCell ⟨r, 4, none⟩ (.int .i64 (b : Int))) :=
  ⟨(h.at_.setPlace b hb).1, h.st.trans (h.at_.setPlace b hb).2⟩

theorem todoV_to (v : VerD) (a : Nat) : nextV (v.to a) = todoV v a := by
  show todoV (v.to a) a = todoV v a
  unfold todoV
  rfl
def placeAt (r : Nat) (X : World) : Nat := match X.cell? ⟨r, 4, none⟩ with | some (.int _ n) => 5 - n.toNat | _ => 0
theorem VTake.place {W X : World} {B r a : Nat} {v : VerD} {f : Nat → Prop} (h : VTake W B r v a f X) : placeAt r X = 5 - a := by
  unfold placeAt
  rw [h.at_.cells.2.2.2.2.1]
  simp [VerD.to]
theorem VTake.free {W X : World} {B r a : Nat} {v : VerD} {f : Nat → Prop} (h : VTake W B r v a f X) : X.cell? ⟨r, 4, none⟩ = some (.int .i64 (a : Int)) ∧ X.frozen? ⟨r, 4, none⟩ = false ∧ X.frozen? ⟨r, 5, none⟩ = false :=
  ⟨h.at_.cells.2.2.2.2.1, h.at_.free.2.2.2.2.1, h.at_.free.2.2.2.2.2⟩
def TakeVE (W : World) (B r : Nat) (v : VerD) (f : Nat → Prop) (e : Ending) (W' : World) : Prop := e = .returned (.tuple #[]) ∧ VerAt W' B r v f ∧ Step f f W W'

set_option maxRecDepth 100000 in
set_option maxHeartbeats 4000000 in
theorem take_is {B r : Nat} {v : VerD} {f : Nat → Prop} (W : World) (h : VerAt W B r v f) (hs : (nextV v).isSome = true) (w : Nat) (hw : w < 18446744073709551616) (t : ByteArray) :
    Calls Try.prog 69 #[.pointer (some ⟨r, 0, none⟩), gotV w t] W (TakeVE W B r (takeV v w t) f) := by
  have HA := Lib.hid (fun X (hX : Below W.heap.size W X) => act_is X (h.below hX))
  rw [hs] at HA
  obtain ⟨y, hy⟩ : ∃ y, (nextV v).getD noAct = y := ⟨_, rfl⟩
  rw [hy] at HA
  have HG := Lib.hid (World.alloc_heap_new W (gotO w t))
  have HBg := Lib.hid (below_alloc W (gotO w t))
  have hp5 : v.place < 5 := by
    rcases Nat.lt_or_ge v.place 5 with h5 | h5
    · exact h5
    · have := h.fits.2.2.2.1.2
      have e : v.place = 5 := by omega
      unfold nextV at hs; rw [e] at hs; cases hs
  have hp1 := h.fits.2.2.2.1.1
  obtain ⟨pl, hpl⟩ : ∃ pl, v.place = pl := ⟨_, rfl⟩
  have HV := Lib.hid (show VTake W B r v pl f W from ⟨by rw [← hpl]; exact h, Step.refl _ _⟩)
  have HWt := Lib.hid hw
  obtain ⟨v1, hv1⟩ : ∃ v1, (if v.place = 1 then v.of w else v) = v1 := ⟨_, rfl⟩
  have hEnd : takeV v w t = v1.to (firstV v1 (pl + 1)) := by unfold takeV; rw [← hv1, ← hpl, Int.toNat_natCast]
  rw [hEnd]
  have HFin := Lib.hid (fun X (hX : VTake W B r v1 (firstV v1 (pl + 1)) f X) => (show TakeVE W B r (v1.to (firstV v1 (pl + 1))) f (.returned (.tuple #[])) X from ⟨rfl, hX.at_, hX.st⟩))
  have HT := Lib.hid (fun X a (hX : VTake W B r v1 a f X) => (by have := todo_is X hX.at_; rw [todoV_to] at this; exact this : Calls Try.prog 70 #[.pointer (some ⟨r, 0, none⟩)] X (actE (todoV v1 a) X)))
  rw [hpl] at hp5 hp1 hv1
  have HV1 := Lib.hid hv1
  obtain ⟨g0, g1⟩ := two_at HG.out
  clear h hs hy hv1 hEnd hw hpl
  go_enter Try.func69, Try.ntmps69
  go_wp2_with fail
  refine (HA.out _ HBg.out).mono ?_
  rintro en w1 ⟨rfl, hb⟩
  have HB2 := Lib.hid (((HBg.out.trans (hb.mono HBg.out.size))).trans ((below_alloc w1 (actO y)).mono (Nat.le_trans HBg.out.size hb.size)))
  have HG2 := Lib.hid (((below_alloc w1 (actO y)).block _ (Nat.lt_of_lt_of_le (heap_at_lt HG.out) hb.size)).trans ((hb.block _ (heap_at_lt HG.out)).trans HG.out))
  have HV2 := Lib.hid (HV.out.below HB2.out)
  obtain ⟨c4, z4, z5⟩ := HV2.out.free
  have c5 := HV2.out.at_.cells.2.2.2.2.2
  clear hb g0 g1
  obtain ⟨g0, g1⟩ := two_at HG2.out
  by_cases hp : pl = 1
  · subst hp
    rw [if_pos rfl] at HV1
    have HV3 := Lib.hid (show VTake W B r v1 2 f (((w1.alloc (actO y)).setCell ⟨r, 5, none⟩ (.int .u64 (w : Int))).setCell ⟨r, 4, none⟩ (.int .i64 2)) from by
      have h5 := HV2.out.at_.setBlock w HWt.out
      have h6 := h5.1.setPlace 2 (by omega)
      exact ⟨by rw [← HV1.out]; exact h6.1, (HV2.out.st.trans h5.2).trans h6.2⟩)
    go_wp2_with fail
    go_loopw [] (fun wr => ∃ a : Nat, 2 ≤ a ∧ a ≤ 5 ∧ firstV v1 a = firstV v1 (1 + 1) ∧ Hid (VTake W B r v1 a f wr)) (fun wr => placeAt r wr)
    case atStart => exact ⟨2, by omega, by omega, rfl, HV3⟩
    case round =>
      clear HV3
      obtain ⟨a, ha2, ha5, hfa, HR⟩ := hrel
      have hm := HR.out.place
      obtain ⟨c4, z4, -⟩ := HR.out.free
      have hwa : (a : Int) ≤ 5 := by omega
      by_cases hlt : a < 5
      · have hltz : (a : Int) < 5 := by omega
        have hnn : (0 : Int) ≤ (a : Int) := by omega
        have HTa := Lib.hid (HT.out _ a HR.out)
        have HF := Lib.hid hfa
        clear hfa
        cases hn : todoV v1 a with
        | none =>
          rw [hn] at HTa
          have HTb := Lib.hid (show Calls Try.prog 70 #[.pointer (some ⟨r, 0, none⟩)] wr (fun e W' => e = .returned zeroV ∧ Below wr.heap.size wr W') from HTa.out)
          have HN := Lib.hid hn
          have HM := Lib.hid hm
          clear hn hm HTa
          go_wp2_with fail
          refine HTb.out.mono ?_
          rintro en w2 ⟨rfl, hb2⟩
          have HR2 := Lib.hid (HR.out.below hb2)
          clear hb2 c4 z4
          obtain ⟨c4, z4, -⟩ := HR2.out.free
          go_wp2_with fail
          go_roundw
          case rel => exact ⟨a + 1, by omega, by omega, by rw [← HF.out]; exact (firstV_on ha2 hlt HN.out).symm, Lib.hid (HR2.out.on (a + 1) (by omega))⟩
          case measure =>
            have hq : placeAt r (w2.setCell ⟨r, 4, none⟩ (.int .i64 ((a : Int) + 1))) = 5 - (a + 1) := (HR2.out.on (a + 1) (by omega)).place
            rw [hq, HM.out]; omega
        | some x =>
          rw [hn] at HTa
          have hk : (x.kind == 0) = false := by rcases todoV_kind hn with e | e <;> rw [e] <;> rfl
          have HN := Lib.hid (firstV_at ha2 (by rw [hn]; rfl))
          clear hn hm
          go_wp2_with fail
          refine HTa.out.mono ?_
          rintro en w2 ⟨rfl, hb2⟩
          have HR2 := Lib.hid (HR.out.below hb2)
          clear hb2 c4 z4
          go_wp2_with fail
          go_end0
          exact HFin.out _ (by rw [← HF.out, HN.out]; exact HR2.out)
      · obtain rfl : a = 5 := by omega
        have HF := Lib.hid hfa
        clear hfa hm
        go_wp2_with fail
        go_end0
        exact HFin.out _ (by rw [← HF.out]; exact HR.out)
  · have hp0 : ((pl : Int) == 1) = false := by simp; omega
    rw [if_neg hp] at HV1
    have hnn : (0 : Int) ≤ (pl : Int) := by omega
    have hlt5 : (pl : Int) < 5 := by omega
    have HV3 := Lib.hid (show VTake W B r v1 (pl + 1) f ((w1.alloc (actO y)).setCell ⟨r, 4, none⟩ (.int .i64 ((pl : Int) + 1))) from by
      have h6 := HV2.out.on (pl + 1) (by omega)
      rw [← HV1.out]; exact h6)
    go_wp2_with fail
    go_loopw [] (fun wr => ∃ a : Nat, 2 ≤ a ∧ a ≤ 5 ∧ firstV v1 a = firstV v1 (pl + 1) ∧ Hid (VTake W B r v1 a f wr)) (fun wr => placeAt r wr)
    case atStart => exact ⟨pl + 1, by omega, by omega, rfl, HV3⟩
    case round =>
      clear HV3
      obtain ⟨a, ha2, ha5, hfa, HR⟩ := hrel
      have hm := HR.out.place
      obtain ⟨c4, z4, -⟩ := HR.out.free
      have hwa : (a : Int) ≤ 5 := by omega
      by_cases hlt : a < 5
      · have hltz : (a : Int) < 5 := by omega
        have hnn : (0 : Int) ≤ (a : Int) := by omega
        have HTa := Lib.hid (HT.out _ a HR.out)
        have HF := Lib.hid hfa
        clear hfa
        cases hn : todoV v1 a with
        | none =>
          rw [hn] at HTa
          have HTb := Lib.hid (show Calls Try.prog 70 #[.pointer (some ⟨r, 0, none⟩)] wr (fun e W' => e = .returned zeroV ∧ Below wr.heap.size wr W') from HTa.out)
          have HN := Lib.hid hn
          have HM := Lib.hid hm
          clear hn hm HTa
          go_wp2_with fail
          refine HTb.out.mono ?_
          rintro en w2 ⟨rfl, hb2⟩
          have HR2 := Lib.hid (HR.out.below hb2)
          clear hb2 c4 z4
          obtain ⟨c4, z4, -⟩ := HR2.out.free
          go_wp2_with fail
          go_roundw
          case rel => exact ⟨a + 1, by omega, by omega, by rw [← HF.out]; exact (firstV_on ha2 hlt HN.out).symm, Lib.hid (HR2.out.on (a + 1) (by omega))⟩
          case measure =>
            have hq : placeAt r (w2.setCell ⟨r, 4, none⟩ (.int .i64 ((a : Int) + 1))) = 5 - (a + 1) := (HR2.out.on (a + 1) (by omega)).place
            rw [hq, HM.out]; omega
        | some x =>
          rw [hn] at HTa
          have hk : (x.kind == 0) = false := by rcases todoV_kind hn with e | e <;> rw [e] <;> rfl
          have HN := Lib.hid (firstV_at ha2 (by rw [hn]; rfl))
          clear hn hm
          go_wp2_with fail
          refine HTa.out.mono ?_
          rintro en w2 ⟨rfl, hb2⟩
          have HR2 := Lib.hid (HR.out.below hb2)
          clear hb2 c4 z4
          go_wp2_with fail
          go_end0
          exact HFin.out _ (by rw [← HF.out, HN.out]; exact HR2.out)
      · obtain rfl : a = 5 := by omega
        have HF := Lib.hid hfa
        clear hfa hm
        go_wp2_with fail
        go_end0
        exact HFin.out _ (by rw [← HF.out]; exact HR.out)

end Go.Proofs.Ytdegcmobgmaenaa
