/-
  Whatever is answered, a key is read as the document says: the walk.
-/
import Derived.Test.YtpnfbabiibopnaaGreatRdrefw
import Derived.Test.YtpnfbabiibopnaaGreatRdaw
namespace Go.Proofs.YtpnfbabiibopnaaGreat
open Go Go.RowKit
attribute [local go_sem ↓] Go.wp_at_zero Go.wp_at_succ
attribute [local go_sem] neqA_same

/-! ### two replies -/
theorem eqId_zero (w : World) : (binOp .eql 36 (.agg #[.int .i64 0, .int .i64 0]) (.agg #[.int .i64 0, .int .i64 0])).run Tryz.prog w = .ok (.bool true) w := by
  have u3 := Tryz.underlying3
  have hS : Tryz.prog.underlying 36 = some (.struct (Tryz.prog.fieldsOf 36)) := by kernel_rfl
  have hp : Tryz.prog.stoodInHeld 36 = false := by kernel_rfl
  rw [run_eql_struct, show (10000 : Nat) = 9999 + 1 from rfl, run_equalIn_agg w 9999 36 _ _ hS hp]
  simp only [Program.fieldsOf, Tryz.underlying36]
  have a3 := Tryz.isAgg3
  have z3 := Tryz.sizeOf3
  go_simp
attribute [local go_sem] eqId_zero
set_option maxRecDepth 100000 in
theorem samep_nil (W : World) : Calls Tryz.prog 30 #[.slice none 0 0, .slice none 0 0] W fun e Y => e = .returned (.bool true) ∧ W = Y := by
  go_enter Tryz.func30, Tryz.ntmps30
  go_wp2_with fail
  go_loopw [5] (fun s5 wr => s5 = .int .i64 0 ∧ W = wr) (fun _ _ => 0)
  case atStart => exact ⟨rfl, rfl⟩
  case round => as_aux_lemma =>
    obtain ⟨rfl, rfl⟩ := hrel
    go_wp2_with fail
    go_ret
    exact ⟨rfl, rfl⟩
set_option maxRecDepth 100000 in
theorem samec_nil (W : World) : Calls Tryz.prog 31 #[.slice none 0 0, .slice none 0 0] W fun e Y => e = .returned (.bool true) ∧ W = Y := by
  go_enter Tryz.func31, Tryz.ntmps31
  go_wp2_with fail
  go_loopw [5] (fun s5 wr => s5 = .int .i64 0 ∧ W = wr) (fun _ _ => 0)
  case atStart => exact ⟨rfl, rfl⟩
  case round => as_aux_lemma =>
    obtain ⟨rfl, rfl⟩ := hrel
    go_wp2_with fail
    go_ret
    exact ⟨rfl, rfl⟩
abbrev repV (cd : Int) (tk : Bool) (vl : ByteArray) : Value := .agg #[.int .i64 cd, .int .i64 0, .int .i64 0, .bool tk, .string vl, .slice none 0 0, .int .i64 0, .slice none 0 0]
set_option maxRecDepth 100000 in
set_option maxHeartbeats 4000000 in
theorem rsame_any (W : World) (cd : Int) (tk : Bool) (vl : ByteArray) : Calls Tryz.prog 11 #[repV cd tk vl, repV cd tk vl] W (Says true W) := by
  have hb := Lib.hid ((below_alloc W (.cells #[.int .i64 cd, .int .i64 0, .int .i64 0, .bool tk, .string vl, .slice none 0 0, .int .i64 0, .slice none 0 0] 40)).trans ((below_alloc (W.alloc (.cells #[.int .i64 cd, .int .i64 0, .int .i64 0, .bool tk, .string vl, .slice none 0 0, .int .i64 0, .slice none 0 0] 40)) (.cells #[.int .i64 cd, .int .i64 0, .int .i64 0, .bool tk, .string vl, .slice none 0 0, .int .i64 0, .slice none 0 0] 40)).mono (by simp)))
  go_enter Tryz.func11, Tryz.ntmps11
  go_wp2_with fail
  refine (samep_nil _).mono ?_
  rintro en w1 ⟨rfl, rfl⟩
  go_wp2_with fail
  refine (samec_nil _).mono ?_
  rintro en w2 ⟨rfl, rfl⟩
  go_wp2_with fail
  go_ret
  exact Says.mk rfl hb.out

/-! ### Most -/
set_option maxRecDepth 100000 in
set_option maxHeartbeats 2000000 in
theorem rrmost_any (W : World) (a p s q v x n : Int) (hr : rightC a p s q v = true) (hn : 0 ≤ n ∧ n ≤ 1000) :
    Calls Tryz.prog 13 #[cfV a p s q v x, .int .i64 n] W fun e Y => e = .returned (.int .i64 (p + 2 * s + 9 + 4 * n)) ∧ Below W.heap.size W Y := by
  have HR := Lib.hid (fun X : World => rright_any a p s q v x X)
  have X0 := Lib.hid (BoxC.start W a p s q v x)
  obtain ⟨⟨a1, a32⟩, ⟨p1, p8⟩, s1, s64⟩ := rightC_bd hr
  obtain ⟨n0, n1⟩ := hn
  rw [hr] at HR
  have e3 : IntKind.i64.wrap (2 * s) = 2 * s := IntWalk.i64_in _ (by omega)
  have e4 : IntKind.i64.wrap (p + 2 * s) = p + 2 * s := IntWalk.i64_in _ (by omega)
  have e5 : IntKind.i64.wrap (p + 2 * s + 9) = p + 2 * s + 9 := IntWalk.i64_in _ (by omega)
  have e8 : IntKind.i64.wrap (4 * n) = 4 * n := IntWalk.i64_in _ (by omega)
  have e9 : IntKind.i64.wrap (p + 2 * s + 9 + 4 * n) = p + 2 * s + 9 + 4 * n := IntWalk.i64_in _ (by omega)
  have hmx : max n 0 = n := by omega
  have hmx2 : max 0 n = n := by omega
  obtain ⟨c0, c1, c2, c3, c4, c5⟩ := X0.out.six
  clear hr
  go_enter Tryz.func13, Tryz.ntmps13
  go_wp2_with fail
  refine (HR.out _).mono ?_
  rintro e w1 ⟨rfl, hb⟩
  have X1 := Lib.hid (X0.out.below hb)
  clear hb c0 c1 c2 c3 c4 c5
  obtain ⟨c0, c1, c2, c3, c4, c5⟩ := X1.out.six
  go_wp2_with fail
  go_ret
  exact ⟨rfl, X1.out.lo⟩

/-! ### between two rounds -/
theorem BoxC.rgrow {W X Y : World} {a p s q v x : Int} (h : BoxC W a p s q v x X) (hb : Below (W.heap.size + 1) X Y) : BoxC W a p s q v x Y :=
  ⟨h.lo.trans (hb.mono (Nat.le_succ _)), (hb.block _ (Nat.lt_succ_self _)).trans h.b⟩
structure RActI (W : World) (a p s q v x : Int) (E0 : RdD) (ga : Option Addr) (G : List (Int × ByteArray)) (r k : Nat) (X : World) : Prop where
  bx : BoxC W a p s q v x X
  row : Sgt X ga G
  at_ : ∃ f, RdAt X (W.heap.size + 1) r (fed RdM E0 (G.take k)) f
section
variable {W X Y : World} {a p s q v x : Int} {E0 : RdD} {ga : Option Addr} {G : List (Int × ByteArray)} {r k : Nat}
theorem RActI.below (h : RActI W a p s q v x E0 ga G r k X) (hb : Below X.heap.size X Y) : RActI W a p s q v x E0 ga G r k Y := by
  obtain ⟨f, hf⟩ := h.at_
  exact ⟨h.bx.below hb, h.row.grow hb, f, Mach.below (M := RdM) hf hb⟩
theorem RActI.many (h : RActI W a p s q v x E0 ga G r k X) : W.heap.size < X.heap.size := heap_at_lt h.bx.b
theorem RActI.idle (h : RActI W a p s q v x E0 ga G r k X) (hk : G.length ≤ k) : RActI W a p s q v x E0 ga G r (k + 1) X := by
  refine ⟨h.bx, h.row, ?_⟩
  rw [List.take_of_length_le (by omega)]
  have := h.at_
  rw [List.take_of_length_le hk] at this
  exact this
theorem ract_took (h : RActI W a p s q v x E0 ga G r k X) (hk : k < G.length) (hs : (RdM.next (fed RdM E0 (G.take k))).isSome = true) (hga : ∀ a, ga = some a → a.block < W.heap.size) (hg : Good (G[k]'hk).1 (G[k]'hk).2) :
    Calls Tryz.prog 12 #[.pointer (some ⟨r, 0, none⟩), gotV (G[k]'hk).1 (G[k]'hk).2] X fun e Y => e = .returned (.tuple #[]) ∧ RActI W a p s q v x E0 ga G r (k + 1) Y := by
  obtain ⟨f, hf⟩ := h.at_
  have hbase : ∀ j, f j → W.heap.size + 1 ≤ j := fun j hj => RdM.base (show RdM.At X (W.heap.size + 1) r _ f from hf) j hj
  refine (rd_takes hf hs hg).mono fun e Y he => ?_
  obtain ⟨f', rfl, h1, st⟩ := he
  refine ⟨rfl, h.bx.rgrow (st.below h.many (fun j hj e => by have := hbase j e; omega)), h.row.apart (fun a ha => st.block _ (by have := hga a ha; have := h.many; omega) (fun e => by have := hga a ha; have := hbase _ e; omega)), f', ?_⟩
  rw [List.take_succ_eq_append_getElem hk, fed_snoc, feed_some hs]
  exact h1
theorem ract_act (h : RActI W a p s q v x E0 ga G r k X) : Calls Tryz.prog 7 #[.pointer (some ⟨r, 0, none⟩)] X fun e Y => e = .returned (.tuple #[actOf ((nextR (fed RdM E0 (G.take k))).getD noAct), .bool (nextR (fed RdM E0 (G.take k))).isSome]) ∧ Below X.heap.size X Y := by
  obtain ⟨f, hf⟩ := h.at_
  exact rd_act hf
theorem ract_res (h : RActI W a p s q v x E0 ga G r k X) :
    ((fed RdM E0 (G.take k)).part = 5 → Calls Tryz.prog 8 #[.pointer (some ⟨r, 0, none⟩)] X (RresE (fed RdM E0 (G.take k)).code (fed RdM E0 (G.take k)).took (fed RdM E0 (G.take k)).val (fed RdM E0 (G.take k)).mark true X)) ∧
    ((fed RdM E0 (G.take k)).part ≠ 5 → Calls Tryz.prog 8 #[.pointer (some ⟨r, 0, none⟩)] X (RresE 0 false ⟨#[]⟩ 0 false X)) := by
  obtain ⟨f, rp, rf, rc, hI, -⟩ := h.at_
  exact ⟨fun h5 => rres_done X hI.own h5, fun h5 => rres_not X (rd_at hI.own).2.1.1 (show (((fed RdM E0 (G.take k)).part : Nat) : Int) ≠ 5 by omega)⟩
end
/-- What the region reads: where there is more to do, and where there is not. -/
def LookM (tb ab : Nat) (y : ActD) (X : World) : Prop := (X.cell? ⟨tb, 2, none⟩ = some (.bool true) ∧ X.cell? ⟨tb, 3, none⟩ = some (.int .i64 y.kind) ∧ X.cell? ⟨tb, 4, none⟩ = some (.int .u64 (y.block : Int)) ∧ X.cell? ⟨tb, 5, none⟩ = some (.int .i64 y.cell) ∧ X.cell? ⟨tb, 6, none⟩ = some (.int .u64 y.old) ∧ X.cell? ⟨tb, 7, none⟩ = some (.int .u64 y.new) ∧ X.cell? ⟨tb, 8, none⟩ = some (.string y.text)) ∧
  X.cell? ⟨ab, 0, none⟩ = some (.int .i64 y.kind) ∧ X.cell? ⟨ab, 1, none⟩ = some (.int .u64 (y.block : Int)) ∧ X.cell? ⟨ab, 2, none⟩ = some (.int .i64 y.cell) ∧ X.cell? ⟨ab, 3, none⟩ = some (.int .u64 y.old) ∧ X.cell? ⟨ab, 4, none⟩ = some (.int .u64 y.new) ∧ X.cell? ⟨ab, 5, none⟩ = some (.string y.text)
def LookD (tb ab wb rb : Nat) (cd : Int) (tk : Bool) (vl : ByteArray) (mk : Int) (X : World) : Prop := (X.cell? ⟨tb, 2, none⟩ = some (.bool false) ∧ X.cell? ⟨tb, 3, none⟩ = some (.int .i64 0) ∧ X.cell? ⟨tb, 4, none⟩ = some (.int .u64 0) ∧ X.cell? ⟨tb, 5, none⟩ = some (.int .i64 0) ∧ X.cell? ⟨tb, 6, none⟩ = some (.int .u64 0) ∧ X.cell? ⟨tb, 7, none⟩ = some (.int .u64 0) ∧ X.cell? ⟨tb, 8, none⟩ = some (.string ⟨#[]⟩)) ∧
  (X.cell? ⟨ab, 0, none⟩ = some (.int .i64 0) ∧ X.cell? ⟨ab, 1, none⟩ = some (.int .u64 0) ∧ X.cell? ⟨ab, 2, none⟩ = some (.int .i64 0) ∧ X.cell? ⟨ab, 3, none⟩ = some (.int .u64 0) ∧ X.cell? ⟨ab, 4, none⟩ = some (.int .u64 0) ∧ X.cell? ⟨ab, 5, none⟩ = some (.string ⟨#[]⟩)) ∧
  (X.cell? ⟨wb, 0, none⟩ = some (.int .i64 cd) ∧ X.cell? ⟨wb, 1, none⟩ = some (.int .i64 0) ∧ X.cell? ⟨wb, 2, none⟩ = some (.int .i64 0) ∧ X.cell? ⟨wb, 3, none⟩ = some (.bool tk) ∧ X.cell? ⟨wb, 4, none⟩ = some (.string vl) ∧ X.cell? ⟨wb, 5, none⟩ = some (.slice none 0 0) ∧ X.cell? ⟨wb, 6, none⟩ = some (.int .i64 0) ∧ X.cell? ⟨wb, 7, none⟩ = some (.slice none 0 0) ∧ X.cell? ⟨wb, 8, none⟩ = some (.int .i64 mk)) ∧
  X.cell? ⟨rb, 0, none⟩ = some (.int .i64 cd) ∧ X.cell? ⟨rb, 1, none⟩ = some (.int .i64 0) ∧ X.cell? ⟨rb, 2, none⟩ = some (.int .i64 0) ∧ X.cell? ⟨rb, 3, none⟩ = some (.bool tk) ∧ X.cell? ⟨rb, 4, none⟩ = some (.string vl) ∧ X.cell? ⟨rb, 5, none⟩ = some (.slice none 0 0) ∧ X.cell? ⟨rb, 6, none⟩ = some (.int .i64 0) ∧ X.cell? ⟨rb, 7, none⟩ = some (.slice none 0 0) ∧ X.cell? ⟨rb, 8, none⟩ = some (.int .i64 mk)
theorem lookM_of {X : World} {b c : Nat} {ga : Option Addr} {G : List (Int × ByteArray)} {T : TapD} {ab : Nat} {y : ActD} (h : TapAt X b ga c G T) (ho : T.over = true) (ht : T.act = y) (ha : X.heap[ab]? = some (actO y)) : LookM b ab y X := by
  obtain ⟨⟨-, -, t2, t3, t4, t5, t6, t7, t8⟩, -⟩ := h.nine
  rw [ho] at t2
  rw [ht] at t3 t4 t5 t6 t7 t8
  exact ⟨⟨t2, t3, t4, t5, t6, t7, t8⟩, six_at ha⟩
theorem lookD_of {X : World} {b c : Nat} {ga : Option Addr} {G : List (Int × ByteArray)} {T : TapD} {ab wb rb : Nat} {cd : Int} {tk : Bool} {vl : ByteArray} {mk : Int} (h : TapAt X b ga c G T) (ho : T.over = false) (ht : T.act = noAct) (ha : X.heap[ab]? = some (actO noAct)) (hw : X.heap[wb]? = some (toldO cd tk vl mk)) (hr : X.heap[rb]? = some (toldO cd tk vl mk)) : LookD b ab wb rb cd tk vl mk X := by
  obtain ⟨⟨-, -, t2, t3, t4, t5, t6, t7, t8⟩, -⟩ := h.nine
  rw [ho] at t2
  rw [ht] at t3 t4 t5 t6 t7 t8
  obtain ⟨⟨w0, w1, w2, w3, w4⟩, w5, w6, w7, w8, -⟩ := told_at hw
  obtain ⟨⟨r0, r1, r2, r3, r4⟩, r5, r6, r7, r8, -⟩ := told_at hr
  exact ⟨⟨t2, t3, t4, t5, t6, t7, t8⟩, six_at ha, ⟨w0, w1, w2, w3, w4, w5, w6, w7, w8⟩, r0, r1, r2, r3, r4, r5, r6, r7, r8⟩

set_option maxRecDepth 100000 in
set_option maxHeartbeats 8000000 in
theorem racts_walk (a p s q v x : Int) (key : ByteArray) (ga : Option Addr) (n c : Nat) (G : List (Int × ByteArray)) (W : World)
    (hS : Sgt W ga G) (hl : G.length = n) (hnc : n ≤ c) (hc : c ≤ maxLen) (hga : ∀ a, ga = some a → a.block < W.heap.size) (hG : ∀ g ∈ G, (0 ≤ g.1 ∧ g.1 < 18446744073709551616)) (hGt : ∀ g ∈ G, g.2.size ≤ 281474976710656) :
    Calls Tryz.prog 3 #[cfV a p s q v x, .string key, .slice ga n c] W (Says true W) := by
  have X0 := Lib.hid (BoxC.start W a p s q v x)
  obtain ⟨c0, c1, c2, c3, c4, c5⟩ := X0.out.six
  by_cases hbig : 60 < n ∨ 200 < key.size
  · have hor : (60 : Int) < (n : Int) ∨ (¬ (60 : Int) < (n : Int) ∧ (200 : Int) < (key.size : Int)) := by omega
    clear hS hl hnc hc hga hG hGt hbig
    rcases hor with hz | ⟨hz, hz2⟩
    all_goals
      go_enter Tryz.func3, Tryz.ntmps3
      go_wp2_with fail
      refine (rawake_any _).mono ?_
      rintro en w1 ⟨rfl, hb1⟩
      have B1 := Lib.hid (X0.out.lo.trans (hb1.mono X0.out.lo.size))
      clear hb1
      go_wp2_with fail
      go_ret
      exact Says.mk rfl B1.out
  have hz : ¬ (60 : Int) < (n : Int) := by omega
  have hz2 : ¬ (200 : Int) < (key.size : Int) := by omega
  have hz8 : (n : Int) ≤ 60 := by omega
  have hks : key.size ≤ 200 := by omega
  have HRr := Lib.hid (fun X : World => rright_any a p s q v x X)
  obtain ⟨th, hth⟩ : ∃ th : Nat, key.size % 5 = th := ⟨_, rfl⟩
  have h5 : ((key.size : Nat) : Int).tmod 5 = (th : Int) := by rw [Int.tmod_eq_emod_of_nonneg (by omega)]; omega
  have hwt : IntKind.i64.wrap (th : Int) = (th : Int) := IntWalk.i64_in _ (by omega)
  cases hr : rightC a p s q v with
  | false =>
    have HNw := Lib.hid (fun X => rnew_bad X a p s q v x (th : Int) key hr)
    have HMo := Lib.hid (fun X => rmost_bad X a p s q v x 3 hr)
    rw [hr] at HRr
    clear hS hl hnc hc hga hG hGt hr hbig hth
    go_enter Tryz.func3, Tryz.ntmps3
    go_wp2_with fail
    refine (HNw.out _).mono ?_
    rintro en w1 ⟨r, rfl, -, ho, hb1⟩
    have X1 := Lib.hid (X0.out.below hb1)
    have O1 := Lib.hid ho
    clear hb1 ho c0 c1 c2 c3 c4 c5 X0
    obtain ⟨c0, c1, c2, c3, c4, c5⟩ := X1.out.six
    go_wp2_with fail
    refine (HRr.out _).mono ?_
    rintro en w2 ⟨rfl, hb⟩
    have X2 := Lib.hid (X1.out.below hb)
    have O2 := Lib.hid ((hb.cell (p := ⟨r, 6, none⟩) (cell_lt O1.out)).trans O1.out)
    clear hb c0 c1 c2 c3 c4 c5 X1 O1
    go_wp2_with fail
    refine (ract_none _ O2.out (.inr rfl)).mono ?_
    rintro en w3 ⟨rfl, hb⟩
    have hx := hb.trans ((below_alloc w3 (actO noAct)).mono hb.size)
    have X3 := Lib.hid (X2.out.below hx)
    have O3 := Lib.hid ((hx.cell (p := ⟨r, 6, none⟩) (cell_lt O2.out)).trans O2.out)
    clear hb hx X2 O2
    go_wp2_with fail
    refine (rres_not _ O3.out (by decide)).mono ?_
    rintro en w4 ⟨rfl, hb⟩
    have X4 := Lib.hid (X3.out.below (hb.trans ((below_alloc w4 (toldO 0 false ⟨#[]⟩ 0)).mono hb.size)))
    clear hb X3 O3
    obtain ⟨c0, c1, c2, c3, c4, c5⟩ := X4.out.six
    go_wp2_with fail
    refine (HMo.out _).mono ?_
    rintro en w5 ⟨rfl, hb⟩
    have X5 := Lib.hid (X4.out.below hb)
    clear hb X4 c0 c1 c2 c3 c4 c5
    go_wp2_with fail
    refine (rawake_any _).mono ?_
    rintro en w6 ⟨rfl, hb⟩
    have B6 := Lib.hid (X5.out.lo.trans (hb.mono X5.out.lo.size))
    clear hb
    go_wp2_with fail
    go_ret
    exact Says.mk rfl B6.out
  | true =>
  rw [hr] at HRr
  obtain ⟨E0, hE0⟩ : ∃ d, newR a p s q v x (th : Int) key = d := ⟨_, rfl⟩
  have HNw := Lib.hid (fun X => (by have := rnew_any X a p s q v x (th : Int) key hr (by omega) (by omega); rw [hE0] at this; exact this : Calls Tryz.prog 5 #[cfV a p s q v x, .int .i64 (th : Int), .string key] X (NewRE E0 X)))
  have HRf := Lib.hid (fun (X : World) (b m : Nat) (G' : List (Int × ByteArray)) (hX : TapAt X b ga m G' tape0) hga' hG' hGl' => (by have := rread_any X hX hga' hG' hGl' a p s q v x (th : Int) key hr (by omega) (by omega); rw [hE0] at this; exact this :
    Calls Tryz.prog 10 #[.pointer (some ⟨b, 0, none⟩), cfV a p s q v x, .int .i64 (th : Int), .string key] X (RdrE E0 b ga m G' X)))
  have HMo := Lib.hid (fun X => rmost_any X a p s q v x (n : Int) hr (by omega))
  have HMr := Lib.hid (fun X => rrmost_any X a p s q v x (n : Int) hr (by omega))
  have HT := Lib.hid (hS.grow (below_alloc W (.cells #[.int .i64 a, .int .i64 p, .int .i64 s, .int .i64 q, .int .i64 v, .int .u64 x] 24)))
  have HPs := Lib.hid (And.intro hl (And.intro hnc (And.intro hc (And.intro hga (And.intro hG hGt)))))
  clear hS hl hnc hc hga hG hGt hr hE0 hbig hth
  go_enter Tryz.func3, Tryz.ntmps3
  go_wp2_with fail
  refine (HNw.out _).mono ?_
  rintro en w1 ⟨r, rp, rf, rfl, hI, hb1⟩
  have HI := Lib.hid (show RActI W a p s q v x E0 ga G r 0 w1 from
    ⟨X0.out.below hb1, HT.out.grow hb1, _, rp, rf, none, hI.weaken (by simp), rfl⟩)
  clear hI hb1 c0 c1 c2 c3 c4 c5 X0 HT HNw
  obtain ⟨c0, c1, c2, c3, c4, c5⟩ := HI.out.bx.six
  go_wp2_with fail
  refine (HRr.out _).mono ?_
  rintro en w2 ⟨rfl, hb⟩
  have HI2 := Lib.hid (HI.out.below hb)
  clear hb c0 c1 c2 c3 c4 c5 HI HRr
  go_upto_block 0 with fail
  go_cut [] (fun wx => Hid (BoxC W a p s q v x wx))
  case first => as_aux_lemma =>
    go_wp2_with fail
    go_loopw [13] (fun s13 wr => ∃ k : Nat, s13 = .int .i64 k ∧ k ≤ n + 1 ∧ Hid (RActI W a p s q v x E0 ga G r k wr)) (fun s13 _ => n + 2 - (intOf s13).toNat)
    case atStart => exact ⟨0, rfl, Nat.zero_le _, HI2⟩
    case round => as_aux_lemma =>
      clear HI2
      obtain ⟨k, rfl, hkn, HI⟩ := hrel
      have hk0 : (0 : Int) ≤ (k : Int) := by omega
      by_cases hk : k ≤ n
      · have hkz : (k : Int) ≤ (n : Int) := by omega
        obtain ⟨hl, hnc, hc, hga, hG, -⟩ := HPs.out
        have hkc : (k : Int) ≤ (c : Int) := by omega
        have hcb : (c : Int) ≤ 9223372036854775807 := by simp [maxLen] at hc; omega
        have HI1 := Lib.hid (HI.out.below (below_alloc wr (tapZ ga k c)))
        have hlk : (G.take k).length = k := by rw [List.length_take, hl]; omega
        have HT1 := Lib.hid (show TapAt (wr.alloc (tapZ ga k c)) wr.heap.size ga c (G.take k) tape0 from
          ⟨by rw [hlk]; exact World.alloc_heap_new wr _, HI1.out.row.take k, fun a ha => by have := hga a ha; have := HI.out.many; omega, Nat.zero_le _, by omega⟩)
        have HG1 := Lib.hid (show ∀ a, ga = some a → a.block < (wr.alloc (tapZ ga k c)).heap.size from fun a ha => by have := hga a ha; have := HI1.out.many; omega)
        have HB1 := Lib.hid (below_alloc wr (tapZ ga k c))
        obtain ⟨E, hE⟩ : ∃ E, fed RdM E0 (G.take k) = E := ⟨_, rfl⟩
        have HRk := Lib.hid (HRf.out _ _ _ _ HT1.out HG1.out (fun g hg => hG g (List.mem_of_mem_take hg)) (by omega))
        have HEE := Lib.hid hE
        obtain ⟨c0, c1, c2, c3, c4, c5⟩ := HI1.out.bx.six
        clear hl hnc hc hga hG hlk hE HG1
        go_wp2_with fail
        refine HRk.out.mono ?_
        rintro en w2 ⟨T, cd, tk, vl, mk, rfl, h2, s2, hfol⟩
        have hb2 : Below wr.heap.size (wr.alloc (tapZ ga k c)) w2 := s2.below (by simp) (fun j hj => by omega)
        have HT2 := Lib.hid h2
        have HI2 := Lib.hid (HI.out.below (HB1.out.trans hb2))
        clear h2 s2 hb2 HI1 HT1 HRk HB1 c0 c1 c2 c3 c4 c5
        have hx := below_alloc w2 (toldO cd tk vl mk)
        have HI3 := Lib.hid (HI2.out.below hx)
        have HT3 := Lib.hid (HT2.out.below hx)
        have HN3 := Lib.hid (World.alloc_heap_new w2 (toldO cd tk vl mk))
        clear hx HI2 HT2
        generalize wr.heap.size = tb at HT3 ⊢
        go_wp2_with fail
        generalize hm15 : w2.heap.size = m15 at HN3 ⊢
        generalize w2.alloc (toldO cd tk vl mk) = w3 at HI3 HT3 HN3 ⊢
        clear hm15
        have HAc := Lib.hid (ract_act HI3.out)
        rw [HEE.out] at HAc
        unfold RdR at hfol
        rw [HEE.out] at hfol
        rcases hfol with ho | ⟨ho, hta, R, hRE, hp5, hcd, htk, hvl, hmk⟩
        · have hy : nextR E = some T.act := by have := ho.act; rw [HEE.out] at this; exact this
          obtain ⟨y, hyT⟩ : ∃ y, T.act = y := ⟨_, rfl⟩
          rw [hyT] at hy
          rw [hy] at HAc
          have HTt := Lib.hid (And.intro ho.on hyT)
          have hp5 : E.part ≠ 5 := fun e => by rw [nextR_5 e] at hy; cases hy
          have HSm := Lib.hid (show (RdM.next (fed RdM E0 (G.take k))).isSome = true from by rw [HEE.out]; show (nextR E).isSome = true; rw [hy]; rfl)
          have HP5 := Lib.hid (show (fed RdM E0 (G.take k)).part ≠ 5 from by rw [HEE.out]; exact hp5)
          clear ho hyT hy hp5
          refine HAc.out.mono ?_
          rintro en w4 ⟨rfl, hb4⟩
          have hx := hb4.trans ((below_alloc w4 (actO y)).mono hb4.size)
          have HI4 := Lib.hid (HI3.out.below hx)
          have HT4 := Lib.hid (HT3.out.below hx)
          have HA4 := Lib.hid (World.alloc_heap_new w4 (actO y))
          clear hx hb4 HI3 HT3 HN3 HAc
          have HRs := Lib.hid ((ract_res HI4.out).2 HP5.out)
          go_wp2_with fail
          generalize hm16 : w4.heap.size = m16 at HA4 ⊢
          generalize w4.alloc (actO y) = w5 at HI4 HT4 HA4 HRs ⊢
          clear hm16
          refine HRs.out.mono ?_
          rintro en w6 ⟨rfl, hb6⟩
          have hx := hb6.trans ((below_alloc w6 (toldO 0 false ⟨#[]⟩ 0)).mono hb6.size)
          have HI6 := Lib.hid (HI4.out.below hx)
          have HT6 := Lib.hid (HT4.out.below hx)
          have HA6 := Lib.hid ((hx.block _ (heap_at_lt HA4.out)).trans HA4.out)
          clear hx hb6 HI4 HT4 HA4 HRs
          go_wp2_with fail
          generalize hm18 : w6.heap.size = m18 at *
          generalize w6.alloc (toldO 0 false ⟨#[]⟩ 0) = w7 at HI6 HT6 HA6 ⊢
          clear hm18
          have HI7 := Lib.hid (HI6.out.below (below_drew w7))
          have HL7 := Lib.hid (lookM_of (HT6.out.below (below_drew w7)) HTt.out.1 HTt.out.2 (show w7.drew.heap[m16]? = some (actO y) from HA6.out))
          have HS := HL7
          clear HI6 HT6 HA6
          refine wp_region_held_drew (S := fun X => (X.cell? ⟨tb, 2, none⟩ = some (.bool true) ∧ X.cell? ⟨tb, 3, none⟩ = some (.int .i64 y.kind) ∧ X.cell? ⟨tb, 4, none⟩ = some (.int .u64 (y.block : Int)) ∧ X.cell? ⟨tb, 5, none⟩ = some (.int .i64 y.cell) ∧ X.cell? ⟨tb, 6, none⟩ = some (.int .u64 y.old) ∧ X.cell? ⟨tb, 7, none⟩ = some (.int .u64 y.new) ∧ X.cell? ⟨tb, 8, none⟩ = some (.string y.text)) ∧ X.cell? ⟨m16, 0, none⟩ = some (.int .i64 y.kind) ∧ X.cell? ⟨m16, 1, none⟩ = some (.int .u64 (y.block : Int)) ∧ X.cell? ⟨m16, 2, none⟩ = some (.int .i64 y.cell) ∧ X.cell? ⟨m16, 3, none⟩ = some (.int .u64 y.old) ∧ X.cell? ⟨m16, 4, none⟩ = some (.int .u64 y.new) ∧ X.cell? ⟨m16, 5, none⟩ = some (.string y.text)) (by kernel_rfl) HS.out (fun _ => ?_)
          refine (fun h => h) ?_
          refine wpAnyH_look (i := 0) (v := ?v0) 89 rfl (by kernel_rfl) (by kernel_rfl) (by kernel_rfl) (fun _ _ _ _ h => h) (by rfl) HS.out (Or.inl ⟨by rfl, ?y0⟩) ?r0
          case y0 => intro w hSw; (try dsimp only at hSw); go_simp; (try with_reducible rfl)
          simp only [List.setIfInBounds_toArray, List.set_cons_zero, List.set_cons_succ]
          refine wpAnyH_look (i := 1) (v := ?v1) 90 rfl (by kernel_rfl) (by kernel_rfl) (by kernel_rfl) (fun _ _ _ _ h => h) (by rfl) HS.out (Or.inl ⟨by rfl, ?y1⟩) ?r1
          case y1 => intro w hSw; (try dsimp only at hSw); go_simp; (try with_reducible rfl)
          simp only [List.setIfInBounds_toArray, List.set_cons_zero, List.set_cons_succ]
          refine wpAnyH_look (i := 2) (v := ?v2) 91 rfl (by kernel_rfl) (by kernel_rfl) (by kernel_rfl) (fun _ _ _ _ h => h) (by rfl) HS.out (Or.inl ⟨by rfl, ?y2⟩) ?r2
          case y2 => intro w hSw; (try dsimp only at hSw); go_simp; (try with_reducible rfl)
          simp only [List.setIfInBounds_toArray, List.set_cons_zero, List.set_cons_succ]
          refine wpAnyH_look (i := 3) (v := ?v3) 92 rfl (by kernel_rfl) (by kernel_rfl) (by kernel_rfl) (fun _ _ _ _ h => h) (by rfl) HS.out (Or.inl ⟨by rfl, ?y3⟩) ?r3
          case y3 => intro w hSw; (try dsimp only at hSw); go_simp; (try with_reducible rfl)
          simp only [List.setIfInBounds_toArray, List.set_cons_zero, List.set_cons_succ]
          refine wpAnyH_look (i := 4) (v := ?v4) 93 rfl (by kernel_rfl) (by kernel_rfl) (by kernel_rfl) (fun _ _ _ _ h => h) (by rfl) HS.out (Or.inl ⟨by rfl, ?y4⟩) ?r4
          case y4 => intro w hSw; (try dsimp only at hSw); go_simp; (try with_reducible rfl)
          simp only [List.setIfInBounds_toArray, List.set_cons_zero, List.set_cons_succ]
          refine wpAnyH_look (i := 5) (v := ?v5) 94 rfl (by kernel_rfl) (by kernel_rfl) (by kernel_rfl) (fun _ _ _ _ h => h) (by rfl) HS.out (Or.inl ⟨by rfl, ?y5⟩) ?r5
          case y5 => intro w hSw; (try dsimp only at hSw); go_simp; (try with_reducible rfl)
          simp only [List.setIfInBounds_toArray, List.set_cons_zero, List.set_cons_succ]
          refine wpAnyH_look (i := 6) (v := ?v6) 95 rfl (by kernel_rfl) (by kernel_rfl) (by kernel_rfl) (fun _ _ _ _ h => h) (by rfl) HS.out (Or.inl ⟨by rfl, ?y6⟩) ?r6
          case y6 => intro w hSw; (try dsimp only at hSw); go_simp; (try with_reducible rfl)
          simp only [List.setIfInBounds_toArray, List.set_cons_zero, List.set_cons_succ]
          refine wpAnyH_look (i := 7) (v := ?v7) 96 rfl (by kernel_rfl) (by kernel_rfl) (by kernel_rfl) (fun _ _ _ _ h => h) (by rfl) HS.out (Or.inl ⟨by rfl, ?y7⟩) ?r7
          case y7 => intro w hSw; (try dsimp only at hSw); go_simp; (try with_reducible rfl)
          simp only [List.setIfInBounds_toArray, List.set_cons_zero, List.set_cons_succ]
          refine wpAnyH_look (i := 8) (v := ?v8) 97 rfl (by kernel_rfl) (by kernel_rfl) (by kernel_rfl) (fun _ _ _ _ h => h) (by rfl) HS.out (Or.inl ⟨by rfl, ?y8⟩) ?r8
          case y8 => intro w hSw; (try dsimp only at hSw); go_simp; (try with_reducible rfl)
          simp only [List.setIfInBounds_toArray, List.set_cons_zero, List.set_cons_succ]
          refine wpAnyH_look (i := 9) (v := ?v9) 98 rfl (by kernel_rfl) (by kernel_rfl) (by kernel_rfl) (fun _ _ _ _ h => h) (by rfl) HS.out (Or.inl ⟨by rfl, ?y9⟩) ?r9
          case y9 => intro w hSw; (try dsimp only at hSw); go_simp; (try with_reducible rfl)
          simp only [List.setIfInBounds_toArray, List.set_cons_zero, List.set_cons_succ]
          refine wpAnyH_look (i := 10) (v := ?v10) 99 rfl (by kernel_rfl) (by kernel_rfl) (by kernel_rfl) (fun _ _ _ _ h => h) (by rfl) HS.out (Or.inl ⟨by rfl, ?y10⟩) ?r10
          case y10 => intro w hSw; (try dsimp only at hSw); go_simp; (try with_reducible rfl)
          simp only [List.setIfInBounds_toArray, List.set_cons_zero, List.set_cons_succ]
          refine wpAnyH_look (i := 11) (v := ?v11) 100 rfl (by kernel_rfl) (by kernel_rfl) (by kernel_rfl) (fun _ _ _ _ h => h) (by rfl) HS.out (Or.inl ⟨by rfl, ?y11⟩) ?r11
          case y11 => intro w hSw; (try dsimp only at hSw); go_simp; (try with_reducible rfl)
          simp only [List.setIfInBounds_toArray, List.set_cons_zero, List.set_cons_succ]
          refine wpAnyH_look (i := 12) (v := ?v12) 101 rfl (by kernel_rfl) (by kernel_rfl) (by kernel_rfl) (fun _ _ _ _ h => h) (by rfl) HS.out (Or.inl ⟨by rfl, ?y12⟩) ?r12
          case y12 => intro w hSw; (try dsimp only at hSw); go_simp; (try with_reducible rfl)
          simp only [List.setIfInBounds_toArray, List.set_cons_zero, List.set_cons_succ]
          refine wpAnyH_look (i := 13) (v := ?v13) 102 rfl (by kernel_rfl) (by kernel_rfl) (by kernel_rfl) (fun _ _ _ _ h => h) (by rfl) HS.out (Or.inl ⟨by rfl, ?y13⟩) ?r13
          case y13 => intro w hSw; (try dsimp only at hSw); go_simp; (try with_reducible rfl)
          simp only [List.setIfInBounds_toArray, List.set_cons_zero, List.set_cons_succ]
          refine wpAnyH_look (i := 14) (v := ?v14) 103 rfl (by kernel_rfl) (by kernel_rfl) (by kernel_rfl) (fun _ _ _ _ h => h) (by rfl) HS.out (Or.inl ⟨by rfl, ?y14⟩) ?r14
          case y14 => intro w hSw; (try dsimp only at hSw); go_simp; (try with_reducible rfl)
          simp only [List.setIfInBounds_toArray, List.set_cons_zero, List.set_cons_succ]
          refine wpAnyH_look (i := 15) (v := ?v15) 104 rfl (by kernel_rfl) (by kernel_rfl) (by kernel_rfl) (fun _ _ _ _ h => h) (by rfl) HS.out (Or.inl ⟨by rfl, ?y15⟩) ?r15
          case y15 => intro w hSw; (try dsimp only at hSw); go_simp; (try with_reducible rfl)
          simp only [List.setIfInBounds_toArray, List.set_cons_zero, List.set_cons_succ]
          refine wpAnyH_look (i := 16) (v := ?v16) 105 rfl (by kernel_rfl) (by kernel_rfl) (by kernel_rfl) (fun _ _ _ _ h => h) (by rfl) HS.out (Or.inl ⟨by rfl, ?y16⟩) ?r16
          case y16 => intro w hSw; (try dsimp only at hSw); go_simp; (try with_reducible rfl)
          simp only [List.setIfInBounds_toArray, List.set_cons_zero, List.set_cons_succ]
          refine wpAnyH_look (i := 17) (v := ?v17) 106 rfl (by kernel_rfl) (by kernel_rfl) (by kernel_rfl) (fun _ _ _ _ h => h) (by rfl) HS.out (Or.inl ⟨by rfl, ?y17⟩) ?r17
          case y17 => intro w hSw; (try dsimp only at hSw); go_simp; (try with_reducible rfl)
          simp only [List.setIfInBounds_toArray, List.set_cons_zero, List.set_cons_succ]
          refine wpAnyH_look (i := 18) (v := ?v18) 107 rfl (by kernel_rfl) (by kernel_rfl) (by kernel_rfl) (fun _ _ _ _ h => h) (by rfl) HS.out (Or.inl ⟨by rfl, ?y18⟩) ?r18
          case y18 => intro w hSw; (try dsimp only at hSw); go_simp; (try with_reducible rfl)
          simp only [List.setIfInBounds_toArray, List.set_cons_zero, List.set_cons_succ]
          refine wpAnyH_look (i := 19) (v := ?v19) 108 rfl (by kernel_rfl) (by kernel_rfl) (by kernel_rfl) (fun _ _ _ _ h => h) (by rfl) HS.out (Or.inl ⟨by rfl, ?y19⟩) ?r19
          case y19 => intro w hSw; (try dsimp only at hSw); go_simp; (try with_reducible rfl)
          simp only [List.setIfInBounds_toArray, List.set_cons_zero, List.set_cons_succ]
          refine wpAnyH_look (i := 20) (v := ?v20) 109 rfl (by kernel_rfl) (by kernel_rfl) (by kernel_rfl) (fun _ _ _ _ h => h) (by rfl) HS.out (Or.inl ⟨by rfl, ?y20⟩) ?r20
          case y20 => intro w hSw; (try dsimp only at hSw); go_simp; (try with_reducible rfl)
          simp only [List.setIfInBounds_toArray, List.set_cons_zero, List.set_cons_succ]
          refine wpAnyH_look (i := 21) (v := ?v21) 110 rfl (by kernel_rfl) (by kernel_rfl) (by kernel_rfl) (fun _ _ _ _ h => h) (by rfl) HS.out (Or.inl ⟨by rfl, ?y21⟩) ?r21
          case y21 => intro w hSw; (try dsimp only at hSw); go_simp; (try with_reducible rfl)
          simp only [List.setIfInBounds_toArray, List.set_cons_zero, List.set_cons_succ]
          refine wpAnyH_look (i := 22) (v := ?v22) 111 rfl (by kernel_rfl) (by kernel_rfl) (by kernel_rfl) (fun _ _ _ _ h => h) (by rfl) HS.out (Or.inl ⟨by rfl, ?y22⟩) ?r22
          case y22 => intro w hSw; (try dsimp only at hSw); go_simp; (try with_reducible rfl)
          simp only [List.setIfInBounds_toArray, List.set_cons_zero, List.set_cons_succ]
          refine wpAnyH_look (i := 23) (v := ?v23) 112 rfl (by kernel_rfl) (by kernel_rfl) (by kernel_rfl) (fun _ _ _ _ h => h) (by rfl) HS.out (Or.inl ⟨by rfl, ?y23⟩) ?r23
          case y23 => intro w hSw; (try dsimp only at hSw); go_simp; (try with_reducible rfl)
          simp only [List.setIfInBounds_toArray, List.set_cons_zero, List.set_cons_succ]
          refine wpAnyH_look (i := 24) (v := ?v24) 113 rfl (by kernel_rfl) (by kernel_rfl) (by kernel_rfl) (fun _ _ _ _ h => h) (by rfl) HS.out (Or.inl ⟨by rfl, ?y24⟩) ?r24
          case y24 => intro w hSw; (try dsimp only at hSw); go_simp; (try with_reducible rfl)
          simp only [List.setIfInBounds_toArray, List.set_cons_zero, List.set_cons_succ]
          refine wpAnyH_look (i := 25) (v := undef) 114 rfl (by kernel_rfl) (by kernel_rfl) (by kernel_rfl) (fun _ _ _ _ h => h) (by rfl) HS.out (Or.inr ⟨by rfl, rfl⟩) ?r25
          simp only [List.setIfInBounds_toArray, List.set_cons_zero, List.set_cons_succ]
          refine wpAnyH_look (i := 26) (v := undef) 115 rfl (by kernel_rfl) (by kernel_rfl) (by kernel_rfl) (fun _ _ _ _ h => h) (by rfl) HS.out (Or.inr ⟨by rfl, rfl⟩) ?r26
          simp only [List.setIfInBounds_toArray, List.set_cons_zero, List.set_cons_succ]
          refine wpAnyH_look (i := 27) (v := undef) 116 rfl (by kernel_rfl) (by kernel_rfl) (by kernel_rfl) (fun _ _ _ _ h => h) (by rfl) HS.out (Or.inr ⟨by rfl, rfl⟩) ?r27
          simp only [List.setIfInBounds_toArray, List.set_cons_zero, List.set_cons_succ]
          refine wpAnyH_look (i := 28) (v := undef) 117 rfl (by kernel_rfl) (by kernel_rfl) (by kernel_rfl) (fun _ _ _ _ h => h) (by rfl) HS.out (Or.inr ⟨by rfl, rfl⟩) ?r28
          simp only [List.setIfInBounds_toArray, List.set_cons_zero, List.set_cons_succ]
          refine wpAnyH_look (i := 29) (v := undef) 118 rfl (by kernel_rfl) (by kernel_rfl) (by kernel_rfl) (fun _ _ _ _ h => h) (by rfl) HS.out (Or.inr ⟨by rfl, rfl⟩) ?r29
          simp only [List.setIfInBounds_toArray, List.set_cons_zero, List.set_cons_succ]
          refine wpAnyH_look (i := 30) (v := undef) 119 rfl (by kernel_rfl) (by kernel_rfl) (by kernel_rfl) (fun _ _ _ _ h => h) (by rfl) HS.out (Or.inr ⟨by rfl, rfl⟩) ?r30
          simp only [List.setIfInBounds_toArray, List.set_cons_zero, List.set_cons_succ]
          refine wpAnyH_look (i := 31) (v := undef) 120 rfl (by kernel_rfl) (by kernel_rfl) (by kernel_rfl) (fun _ _ _ _ h => h) (by rfl) HS.out (Or.inr ⟨by rfl, rfl⟩) ?r31
          simp only [List.setIfInBounds_toArray, List.set_cons_zero, List.set_cons_succ]
          refine wpAnyH_look (i := 32) (v := undef) 121 rfl (by kernel_rfl) (by kernel_rfl) (by kernel_rfl) (fun _ _ _ _ h => h) (by rfl) HS.out (Or.inr ⟨by rfl, rfl⟩) ?r32
          simp only [List.setIfInBounds_toArray, List.set_cons_zero, List.set_cons_succ]
          refine wpAnyH_look (i := 33) (v := undef) 122 rfl (by kernel_rfl) (by kernel_rfl) (by kernel_rfl) (fun _ _ _ _ h => h) (by rfl) HS.out (Or.inr ⟨by rfl, rfl⟩) ?r33
          simp only [List.setIfInBounds_toArray, List.set_cons_zero, List.set_cons_succ]
          refine wpAnyH_look (i := 34) (v := undef) 123 rfl (by kernel_rfl) (by kernel_rfl) (by kernel_rfl) (fun _ _ _ _ h => h) (by rfl) HS.out (Or.inr ⟨by rfl, rfl⟩) ?r34
          simp only [List.setIfInBounds_toArray, List.set_cons_zero, List.set_cons_succ]
          refine wpAnyH_look (i := 35) (v := undef) 124 rfl (by kernel_rfl) (by kernel_rfl) (by kernel_rfl) (fun _ _ _ _ h => h) (by rfl) HS.out (Or.inr ⟨by rfl, rfl⟩) ?r35
          simp only [List.setIfInBounds_toArray, List.set_cons_zero, List.set_cons_succ]
          refine wpAnyH_look (i := 36) (v := undef) 125 rfl (by kernel_rfl) (by kernel_rfl) (by kernel_rfl) (fun _ _ _ _ h => h) (by rfl) HS.out (Or.inr ⟨by rfl, rfl⟩) ?r36
          simp only [List.setIfInBounds_toArray, List.set_cons_zero, List.set_cons_succ]
          refine wpAnyH_look (i := 37) (v := undef) 126 rfl (by kernel_rfl) (by kernel_rfl) (by kernel_rfl) (fun _ _ _ _ h => h) (by rfl) HS.out (Or.inr ⟨by rfl, rfl⟩) ?r37
          simp only [List.setIfInBounds_toArray, List.set_cons_zero, List.set_cons_succ]
          refine wpAnyH_look (i := 38) (v := ?v38) 127 rfl (by kernel_rfl) (by kernel_rfl) (by kernel_rfl) (fun _ _ _ _ h => h) (by rfl) HS.out (Or.inl ⟨by rfl, ?y38⟩) ?r38
          case y38 => intro w hSw; (try dsimp only at hSw); go_simp; (try with_reducible rfl)
          simp only [List.setIfInBounds_toArray, List.set_cons_zero, List.set_cons_succ]
          refine wpAnyH_look (i := 39) (v := ?v39) 128 rfl (by kernel_rfl) (by kernel_rfl) (by kernel_rfl) (fun _ _ _ _ h => h) (by rfl) HS.out (Or.inl ⟨by rfl, ?y39⟩) ?r39
          case y39 => intro w hSw; (try dsimp only at hSw); go_simp; (try with_reducible rfl)
          simp only [List.setIfInBounds_toArray, List.set_cons_zero, List.set_cons_succ]
          refine ⟨by kernel_rfl, ?_⟩
          have hov : w7.drew.cell? ⟨tb, 2, none⟩ = some (.bool true) := HL7.out.1.1
          generalize w7.drew = X5 at HI7 hov ⊢
          clear HL7 HS
          by_cases hkn2 : k < n
          · have hknz : (k : Int) < (n : Int) := by omega
            have hkG : k < G.length := by have := HPs.out.1; omega
            obtain ⟨db, o, hga, d0, d1⟩ := HI7.out.row k hkG
            obtain ⟨gw, hgw⟩ : ∃ w, (G[k]'hkG).1 = w := ⟨_, rfl⟩
            obtain ⟨gt, hgt⟩ : ∃ w, (G[k]'hkG).2 = w := ⟨_, rfl⟩
            have HTk := Lib.hid (ract_took HI7.out hkG HSm.out HPs.out.2.2.2.1 ⟨HPs.out.2.2.2.2.1 _ (List.getElem_mem hkG), HPs.out.2.2.2.2.2 _ (List.getElem_mem hkG)⟩)
            rw [hgw, hgt] at HTk
            rw [hgw] at d0
            rw [hgt] at d1
            subst hga
            have hk1 : (k : Int) ≤ 60 := by omega
            clear HI7 hgw hgt hkG
            go_wp2_with fail
            refine HTk.out.mono ?_
            rintro en w8 ⟨rfl, h8⟩
            have HI8 := Lib.hid h8
            clear h8 HTk
            go_wp2_with fail
            go_roundw
            case rel => exact ⟨k + 1, by go_num, by omega, HI8⟩
            case measure => simp [intOf]; omega
          · have hknz : ¬ (k : Int) < (n : Int) := by omega
            have HI8 := Lib.hid (HI7.out.idle (by have := HPs.out.1; omega))
            clear HI7
            go_wp2_with fail
            go_roundw
            case rel => exact ⟨k + 1, by go_num, by omega, HI8⟩
            case measure => simp [intOf]; omega
        · subst hRE hcd htk hvl hmk
          have hy : nextR E = none := nextR_5 hp5
          rw [hy] at HAc
          have HTt := Lib.hid (And.intro ho hta)
          have HP5 := Lib.hid (show (fed RdM E0 (G.take k)).part = 5 from by rw [HEE.out]; exact hp5)
          clear ho hta hy hp5
          refine HAc.out.mono ?_
          rintro en w4 ⟨rfl, hb4⟩
          have hx := hb4.trans ((below_alloc w4 (actO noAct)).mono hb4.size)
          have HI4 := Lib.hid (HI3.out.below hx)
          have HT4 := Lib.hid (HT3.out.below hx)
          have HN4 := Lib.hid ((hx.block _ (heap_at_lt HN3.out)).trans HN3.out)
          have HA4 := Lib.hid (World.alloc_heap_new w4 (actO noAct))
          clear hx hb4 HI3 HT3 HN3 HAc
          have HRs := Lib.hid ((ract_res HI4.out).1 HP5.out)
          rw [HEE.out] at HRs
          obtain ⟨cd, hcd⟩ : ∃ z, E.code = z := ⟨_, rfl⟩
          obtain ⟨tk, htk⟩ : ∃ z, E.took = z := ⟨_, rfl⟩
          obtain ⟨vl, hvl⟩ : ∃ z, E.val = z := ⟨_, rfl⟩
          obtain ⟨mk, hmk⟩ : ∃ z, E.mark = z := ⟨_, rfl⟩
          rw [hcd, htk, hvl, hmk] at HRs HN4
          rw [hcd, htk, hvl, hmk]
          clear hcd htk hvl hmk
          go_wp2_with fail
          generalize hm16 : w4.heap.size = m16 at HA4 ⊢
          generalize w4.alloc (actO noAct) = w5 at HI4 HT4 HA4 HN4 HRs ⊢
          clear hm16
          refine HRs.out.mono ?_
          rintro en w6 ⟨rfl, hb6⟩
          have hx := hb6.trans ((below_alloc w6 (toldO cd tk vl mk)).mono hb6.size)
          have HI6 := Lib.hid (HI4.out.below hx)
          have HT6 := Lib.hid (HT4.out.below hx)
          have HA6 := Lib.hid ((hx.block _ (heap_at_lt HA4.out)).trans HA4.out)
          have HW6 := Lib.hid ((hx.block _ (heap_at_lt HN4.out)).trans HN4.out)
          have HR6 := Lib.hid (World.alloc_heap_new w6 (toldO cd tk vl mk))
          clear hx hb6 HI4 HT4 HA4 HN4 HRs
          go_wp2_with fail
          generalize hm18 : w6.heap.size = m18 at HR6 ⊢
          generalize w6.alloc (toldO cd tk vl mk) = w7 at HI6 HT6 HA6 HW6 HR6 ⊢
          clear hm18
          have HI7 := Lib.hid (HI6.out.below (below_drew w7))
          have HL := Lib.hid (show ∀ Y, Below w7.heap.size w7 Y → LookD tb m16 m15 m18 cd tk vl mk Y from fun Y hY => lookD_of (HT6.out.below hY) HTt.out.1 HTt.out.2 ((hY.block _ (heap_at_lt HA6.out)).trans HA6.out) ((hY.block _ (heap_at_lt HW6.out)).trans HW6.out) ((hY.block _ (heap_at_lt HR6.out)).trans HR6.out))
          have HS := Lib.hid (HL.out _ (below_drew w7))
          clear HI6 HT6 HA6 HW6 HR6
          refine wp_region_held_drew (S := fun X => (X.cell? ⟨tb, 2, none⟩ = some (.bool false) ∧ X.cell? ⟨tb, 3, none⟩ = some (.int .i64 0) ∧ X.cell? ⟨tb, 4, none⟩ = some (.int .u64 0) ∧ X.cell? ⟨tb, 5, none⟩ = some (.int .i64 0) ∧ X.cell? ⟨tb, 6, none⟩ = some (.int .u64 0) ∧ X.cell? ⟨tb, 7, none⟩ = some (.int .u64 0) ∧ X.cell? ⟨tb, 8, none⟩ = some (.string ⟨#[]⟩)) ∧ (X.cell? ⟨m16, 0, none⟩ = some (.int .i64 0) ∧ X.cell? ⟨m16, 1, none⟩ = some (.int .u64 0) ∧ X.cell? ⟨m16, 2, none⟩ = some (.int .i64 0) ∧ X.cell? ⟨m16, 3, none⟩ = some (.int .u64 0) ∧ X.cell? ⟨m16, 4, none⟩ = some (.int .u64 0) ∧ X.cell? ⟨m16, 5, none⟩ = some (.string ⟨#[]⟩)) ∧ (X.cell? ⟨m15, 0, none⟩ = some (.int .i64 cd) ∧ X.cell? ⟨m15, 1, none⟩ = some (.int .i64 0) ∧ X.cell? ⟨m15, 2, none⟩ = some (.int .i64 0) ∧ X.cell? ⟨m15, 3, none⟩ = some (.bool tk) ∧ X.cell? ⟨m15, 4, none⟩ = some (.string vl) ∧ X.cell? ⟨m15, 5, none⟩ = some (.slice none 0 0) ∧ X.cell? ⟨m15, 6, none⟩ = some (.int .i64 0) ∧ X.cell? ⟨m15, 7, none⟩ = some (.slice none 0 0) ∧ X.cell? ⟨m15, 8, none⟩ = some (.int .i64 mk)) ∧ X.cell? ⟨m18, 0, none⟩ = some (.int .i64 cd) ∧ X.cell? ⟨m18, 1, none⟩ = some (.int .i64 0) ∧ X.cell? ⟨m18, 2, none⟩ = some (.int .i64 0) ∧ X.cell? ⟨m18, 3, none⟩ = some (.bool tk) ∧ X.cell? ⟨m18, 4, none⟩ = some (.string vl) ∧ X.cell? ⟨m18, 5, none⟩ = some (.slice none 0 0) ∧ X.cell? ⟨m18, 6, none⟩ = some (.int .i64 0) ∧ X.cell? ⟨m18, 7, none⟩ = some (.slice none 0 0) ∧ X.cell? ⟨m18, 8, none⟩ = some (.int .i64 mk)) (by kernel_rfl) HS.out (fun _ => ?_)
          refine (fun h => h) ?_
          refine wpAnyH_look (i := 0) (v := ?v0d) 89 rfl (by kernel_rfl) (by kernel_rfl) (by kernel_rfl) (fun _ _ _ _ h => h) (by rfl) HS.out (Or.inl ⟨by rfl, ?y0d⟩) ?r0d
          case y0d => intro w hSw; (try dsimp only at hSw); go_simp; (try with_reducible rfl)
          simp only [List.setIfInBounds_toArray, List.set_cons_zero, List.set_cons_succ]
          refine wpAnyH_look (i := 1) (v := ?v1d) 90 rfl (by kernel_rfl) (by kernel_rfl) (by kernel_rfl) (fun _ _ _ _ h => h) (by rfl) HS.out (Or.inl ⟨by rfl, ?y1d⟩) ?r1d
          case y1d => intro w hSw; (try dsimp only at hSw); go_simp; (try with_reducible rfl)
          simp only [List.setIfInBounds_toArray, List.set_cons_zero, List.set_cons_succ]
          refine wpAnyH_look (i := 2) (v := ?v2d) 91 rfl (by kernel_rfl) (by kernel_rfl) (by kernel_rfl) (fun _ _ _ _ h => h) (by rfl) HS.out (Or.inl ⟨by rfl, ?y2d⟩) ?r2d
          case y2d => intro w hSw; (try dsimp only at hSw); go_simp; (try with_reducible rfl)
          simp only [List.setIfInBounds_toArray, List.set_cons_zero, List.set_cons_succ]
          refine wpAnyH_look (i := 3) (v := ?v3d) 92 rfl (by kernel_rfl) (by kernel_rfl) (by kernel_rfl) (fun _ _ _ _ h => h) (by rfl) HS.out (Or.inl ⟨by rfl, ?y3d⟩) ?r3d
          case y3d => intro w hSw; (try dsimp only at hSw); go_simp; (try with_reducible rfl)
          simp only [List.setIfInBounds_toArray, List.set_cons_zero, List.set_cons_succ]
          refine wpAnyH_look (i := 4) (v := ?v4d) 93 rfl (by kernel_rfl) (by kernel_rfl) (by kernel_rfl) (fun _ _ _ _ h => h) (by rfl) HS.out (Or.inl ⟨by rfl, ?y4d⟩) ?r4d
          case y4d => intro w hSw; (try dsimp only at hSw); go_simp; (try with_reducible rfl)
          simp only [List.setIfInBounds_toArray, List.set_cons_zero, List.set_cons_succ]
          refine wpAnyH_look (i := 5) (v := ?v5d) 94 rfl (by kernel_rfl) (by kernel_rfl) (by kernel_rfl) (fun _ _ _ _ h => h) (by rfl) HS.out (Or.inl ⟨by rfl, ?y5d⟩) ?r5d
          case y5d => intro w hSw; (try dsimp only at hSw); go_simp; (try with_reducible rfl)
          simp only [List.setIfInBounds_toArray, List.set_cons_zero, List.set_cons_succ]
          refine wpAnyH_look (i := 6) (v := ?v6d) 95 rfl (by kernel_rfl) (by kernel_rfl) (by kernel_rfl) (fun _ _ _ _ h => h) (by rfl) HS.out (Or.inl ⟨by rfl, ?y6d⟩) ?r6d
          case y6d => intro w hSw; (try dsimp only at hSw); go_simp; (try with_reducible rfl)
          simp only [List.setIfInBounds_toArray, List.set_cons_zero, List.set_cons_succ]
          refine wpAnyH_look (i := 7) (v := ?v7d) 96 rfl (by kernel_rfl) (by kernel_rfl) (by kernel_rfl) (fun _ _ _ _ h => h) (by rfl) HS.out (Or.inl ⟨by rfl, ?y7d⟩) ?r7d
          case y7d => intro w hSw; (try dsimp only at hSw); go_simp; (try with_reducible rfl)
          simp only [List.setIfInBounds_toArray, List.set_cons_zero, List.set_cons_succ]
          refine wpAnyH_look (i := 8) (v := ?v8d) 97 rfl (by kernel_rfl) (by kernel_rfl) (by kernel_rfl) (fun _ _ _ _ h => h) (by rfl) HS.out (Or.inl ⟨by rfl, ?y8d⟩) ?r8d
          case y8d => intro w hSw; (try dsimp only at hSw); go_simp; (try with_reducible rfl)
          simp only [List.setIfInBounds_toArray, List.set_cons_zero, List.set_cons_succ]
          refine wpAnyH_look (i := 9) (v := ?v9d) 98 rfl (by kernel_rfl) (by kernel_rfl) (by kernel_rfl) (fun _ _ _ _ h => h) (by rfl) HS.out (Or.inl ⟨by rfl, ?y9d⟩) ?r9d
          case y9d => intro w hSw; (try dsimp only at hSw); go_simp; (try with_reducible rfl)
          simp only [List.setIfInBounds_toArray, List.set_cons_zero, List.set_cons_succ]
          refine wpAnyH_look (i := 10) (v := ?v10d) 99 rfl (by kernel_rfl) (by kernel_rfl) (by kernel_rfl) (fun _ _ _ _ h => h) (by rfl) HS.out (Or.inl ⟨by rfl, ?y10d⟩) ?r10d
          case y10d => intro w hSw; (try dsimp only at hSw); go_simp; (try with_reducible rfl)
          simp only [List.setIfInBounds_toArray, List.set_cons_zero, List.set_cons_succ]
          refine wpAnyH_look (i := 11) (v := ?v11d) 100 rfl (by kernel_rfl) (by kernel_rfl) (by kernel_rfl) (fun _ _ _ _ h => h) (by rfl) HS.out (Or.inl ⟨by rfl, ?y11d⟩) ?r11d
          case y11d => intro w hSw; (try dsimp only at hSw); go_simp; (try with_reducible rfl)
          simp only [List.setIfInBounds_toArray, List.set_cons_zero, List.set_cons_succ]
          refine wpAnyH_look (i := 12) (v := ?v12d) 101 rfl (by kernel_rfl) (by kernel_rfl) (by kernel_rfl) (fun _ _ _ _ h => h) (by rfl) HS.out (Or.inl ⟨by rfl, ?y12d⟩) ?r12d
          case y12d => intro w hSw; (try dsimp only at hSw); go_simp; (try with_reducible rfl)
          simp only [List.setIfInBounds_toArray, List.set_cons_zero, List.set_cons_succ]
          refine wpAnyH_look (i := 13) (v := ?v13d) 102 rfl (by kernel_rfl) (by kernel_rfl) (by kernel_rfl) (fun _ _ _ _ h => h) (by rfl) HS.out (Or.inl ⟨by rfl, ?y13d⟩) ?r13d
          case y13d => intro w hSw; (try dsimp only at hSw); go_simp; (try with_reducible rfl)
          simp only [List.setIfInBounds_toArray, List.set_cons_zero, List.set_cons_succ]
          refine wpAnyH_look (i := 14) (v := ?v14d) 103 rfl (by kernel_rfl) (by kernel_rfl) (by kernel_rfl) (fun _ _ _ _ h => h) (by rfl) HS.out (Or.inl ⟨by rfl, ?y14d⟩) ?r14d
          case y14d => intro w hSw; (try dsimp only at hSw); go_simp; (try with_reducible rfl)
          simp only [List.setIfInBounds_toArray, List.set_cons_zero, List.set_cons_succ]
          refine wpAnyH_look (i := 15) (v := ?v15d) 104 rfl (by kernel_rfl) (by kernel_rfl) (by kernel_rfl) (fun _ _ _ _ h => h) (by rfl) HS.out (Or.inl ⟨by rfl, ?y15d⟩) ?r15d
          case y15d => intro w hSw; (try dsimp only at hSw); go_simp; (try with_reducible rfl)
          simp only [List.setIfInBounds_toArray, List.set_cons_zero, List.set_cons_succ]
          refine wpAnyH_look (i := 16) (v := ?v16d) 105 rfl (by kernel_rfl) (by kernel_rfl) (by kernel_rfl) (fun _ _ _ _ h => h) (by rfl) HS.out (Or.inl ⟨by rfl, ?y16d⟩) ?r16d
          case y16d => intro w hSw; (try dsimp only at hSw); go_simp; (try with_reducible rfl)
          simp only [List.setIfInBounds_toArray, List.set_cons_zero, List.set_cons_succ]
          refine wpAnyH_look (i := 17) (v := ?v17d) 106 rfl (by kernel_rfl) (by kernel_rfl) (by kernel_rfl) (fun _ _ _ _ h => h) (by rfl) HS.out (Or.inl ⟨by rfl, ?y17d⟩) ?r17d
          case y17d => intro w hSw; (try dsimp only at hSw); go_simp; (try with_reducible rfl)
          simp only [List.setIfInBounds_toArray, List.set_cons_zero, List.set_cons_succ]
          refine wpAnyH_look (i := 18) (v := ?v18d) 107 rfl (by kernel_rfl) (by kernel_rfl) (by kernel_rfl) (fun _ _ _ _ h => h) (by rfl) HS.out (Or.inl ⟨by rfl, ?y18d⟩) ?r18d
          case y18d => intro w hSw; (try dsimp only at hSw); go_simp; (try with_reducible rfl)
          simp only [List.setIfInBounds_toArray, List.set_cons_zero, List.set_cons_succ]
          refine wpAnyH_look (i := 19) (v := ?v19d) 108 rfl (by kernel_rfl) (by kernel_rfl) (by kernel_rfl) (fun _ _ _ _ h => h) (by rfl) HS.out (Or.inl ⟨by rfl, ?y19d⟩) ?r19d
          case y19d => intro w hSw; (try dsimp only at hSw); go_simp; (try with_reducible rfl)
          simp only [List.setIfInBounds_toArray, List.set_cons_zero, List.set_cons_succ]
          refine wpAnyH_look (i := 20) (v := ?v20d) 109 rfl (by kernel_rfl) (by kernel_rfl) (by kernel_rfl) (fun _ _ _ _ h => h) (by rfl) HS.out (Or.inl ⟨by rfl, ?y20d⟩) ?r20d
          case y20d => intro w hSw; (try dsimp only at hSw); go_simp; (try with_reducible rfl)
          simp only [List.setIfInBounds_toArray, List.set_cons_zero, List.set_cons_succ]
          refine wpAnyH_look (i := 21) (v := ?v21d) 110 rfl (by kernel_rfl) (by kernel_rfl) (by kernel_rfl) (fun _ _ _ _ h => h) (by rfl) HS.out (Or.inl ⟨by rfl, ?y21d⟩) ?r21d
          case y21d => intro w hSw; (try dsimp only at hSw); go_simp; (try with_reducible rfl)
          simp only [List.setIfInBounds_toArray, List.set_cons_zero, List.set_cons_succ]
          refine wpAnyH_look (i := 22) (v := ?v22d) 111 rfl (by kernel_rfl) (by kernel_rfl) (by kernel_rfl) (fun _ _ _ _ h => h) (by rfl) HS.out (Or.inl ⟨by rfl, ?y22d⟩) ?r22d
          case y22d => intro w hSw; (try dsimp only at hSw); go_simp; (try with_reducible rfl)
          simp only [List.setIfInBounds_toArray, List.set_cons_zero, List.set_cons_succ]
          refine wpAnyH_look (i := 23) (v := ?v23d) 112 rfl (by kernel_rfl) (by kernel_rfl) (by kernel_rfl) (fun _ _ _ _ h => h) (by rfl) HS.out (Or.inl ⟨by rfl, ?y23d⟩) ?r23d
          case y23d => intro w hSw; (try dsimp only at hSw); go_simp; (try with_reducible rfl)
          simp only [List.setIfInBounds_toArray, List.set_cons_zero, List.set_cons_succ]
          refine wpAnyH_look (i := 24) (v := ?v24d) 113 rfl (by kernel_rfl) (by kernel_rfl) (by kernel_rfl) (fun _ _ _ _ h => h) (by rfl) HS.out (Or.inl ⟨by rfl, ?y24d⟩) ?r24d
          case y24d => intro w hSw; (try dsimp only at hSw); go_simp; (try with_reducible rfl)
          simp only [List.setIfInBounds_toArray, List.set_cons_zero, List.set_cons_succ]
          refine wpAnyH_look (i := 25) (v := ?v25d) 114 rfl (by kernel_rfl) (by kernel_rfl) (by kernel_rfl) (fun _ _ _ _ h => h) (by rfl) HS.out (Or.inl ⟨by rfl, ?y25d⟩) ?r25d
          case y25d => intro w hSw; (try dsimp only at hSw); go_simp; (try with_reducible rfl)
          simp only [List.setIfInBounds_toArray, List.set_cons_zero, List.set_cons_succ]
          refine wpAnyH_look (i := 26) (v := ?v26d) 115 rfl (by kernel_rfl) (by kernel_rfl) (by kernel_rfl) (fun _ _ _ _ h => h) (by rfl) HS.out (Or.inl ⟨by rfl, ?y26d⟩) ?r26d
          case y26d => intro w hSw; (try dsimp only at hSw); go_simp; (try with_reducible rfl)
          simp only [List.setIfInBounds_toArray, List.set_cons_zero, List.set_cons_succ]
          refine wpAnyH_look (i := 27) (v := ?v27d) 116 rfl (by kernel_rfl) (by kernel_rfl) (by kernel_rfl) (fun _ _ _ _ h => h) (by rfl) HS.out (Or.inl ⟨by rfl, ?y27d⟩) ?r27d
          case y27d => intro w hSw; (try dsimp only at hSw); go_simp; (try with_reducible rfl)
          simp only [List.setIfInBounds_toArray, List.set_cons_zero, List.set_cons_succ]
          refine wpAnyH_look (i := 28) (v := ?v28d) 117 rfl (by kernel_rfl) (by kernel_rfl) (by kernel_rfl) (fun _ _ _ _ h => h) (by rfl) HS.out (Or.inl ⟨by rfl, ?y28d⟩) ?r28d
          case y28d => intro w hSw; (try dsimp only at hSw); go_simp; (try with_reducible rfl)
          simp only [List.setIfInBounds_toArray, List.set_cons_zero, List.set_cons_succ]
          refine wpAnyH_ready (rs := [29]) (by kernel_rfl) (by simp) ?_
          refine AllReadyH.cons rfl (fun K hK => ?_) AllReadyH.nil
          go_simp
          go_at_call 11
          refine (rsame_any _ cd tk vl).mono ?_
          rintro en x1 ⟨rfl, hb⟩
          have HI8 := Lib.hid (HI7.out.below hb)
          have HS := Lib.hid (HL.out _ ((below_drew w7).trans (hb.mono (below_drew w7).size)))
          clear hb
          go_simp
          refine hK.out _ _ HS.out (fun _ => ?_)
          clear hK K
          refine wpAnyH_look (i := 30) (v := ?v30d) 119 rfl (by kernel_rfl) (by kernel_rfl) (by kernel_rfl) (fun _ _ _ _ h => h) (by rfl) HS.out (Or.inl ⟨by rfl, ?y30d⟩) ?r30d
          case y30d => intro w hSw; (try dsimp only at hSw); go_simp; (try with_reducible rfl)
          simp only [List.setIfInBounds_toArray, List.set_cons_zero, List.set_cons_succ]
          refine wpAnyH_look (i := 31) (v := ?v31d) 120 rfl (by kernel_rfl) (by kernel_rfl) (by kernel_rfl) (fun _ _ _ _ h => h) (by rfl) HS.out (Or.inl ⟨by rfl, ?y31d⟩) ?r31d
          case y31d => intro w hSw; (try dsimp only at hSw); go_simp; (try with_reducible rfl)
          simp only [List.setIfInBounds_toArray, List.set_cons_zero, List.set_cons_succ]
          refine wpAnyH_look (i := 32) (v := ?v32d) 121 rfl (by kernel_rfl) (by kernel_rfl) (by kernel_rfl) (fun _ _ _ _ h => h) (by rfl) HS.out (Or.inl ⟨by rfl, ?y32d⟩) ?r32d
          case y32d => intro w hSw; (try dsimp only at hSw); go_simp; (try with_reducible rfl)
          simp only [List.setIfInBounds_toArray, List.set_cons_zero, List.set_cons_succ]
          refine wpAnyH_look (i := 33) (v := ?v33d) 122 rfl (by kernel_rfl) (by kernel_rfl) (by kernel_rfl) (fun _ _ _ _ h => h) (by rfl) HS.out (Or.inl ⟨by rfl, ?y33d⟩) ?r33d
          case y33d => intro w hSw; (try dsimp only at hSw); go_simp; (try with_reducible rfl)
          simp only [List.setIfInBounds_toArray, List.set_cons_zero, List.set_cons_succ]
          refine wpAnyH_look (i := 34) (v := ?v34d) 123 rfl (by kernel_rfl) (by kernel_rfl) (by kernel_rfl) (fun _ _ _ _ h => h) (by rfl) HS.out (Or.inl ⟨by rfl, ?y34d⟩) ?r34d
          case y34d => intro w hSw; (try dsimp only at hSw); go_simp; (try with_reducible rfl)
          simp only [List.setIfInBounds_toArray, List.set_cons_zero, List.set_cons_succ]
          refine wpAnyH_look (i := 35) (v := ?v35d) 124 rfl (by kernel_rfl) (by kernel_rfl) (by kernel_rfl) (fun _ _ _ _ h => h) (by rfl) HS.out (Or.inl ⟨by rfl, ?y35d⟩) ?r35d
          case y35d => intro w hSw; (try dsimp only at hSw); go_simp; (try with_reducible rfl)
          simp only [List.setIfInBounds_toArray, List.set_cons_zero, List.set_cons_succ]
          refine wpAnyH_look (i := 36) (v := ?v36d) 125 rfl (by kernel_rfl) (by kernel_rfl) (by kernel_rfl) (fun _ _ _ _ h => h) (by rfl) HS.out (Or.inl ⟨by rfl, ?y36d⟩) ?r36d
          case y36d => intro w hSw; (try dsimp only at hSw); go_simp; (try with_reducible rfl)
          simp only [List.setIfInBounds_toArray, List.set_cons_zero, List.set_cons_succ]
          refine wpAnyH_look (i := 37) (v := ?v37d) 126 rfl (by kernel_rfl) (by kernel_rfl) (by kernel_rfl) (fun _ _ _ _ h => h) (by rfl) HS.out (Or.inl ⟨by rfl, ?y37d⟩) ?r37d
          case y37d => intro w hSw; (try dsimp only at hSw); go_simp; (try with_reducible rfl)
          simp only [List.setIfInBounds_toArray, List.set_cons_zero, List.set_cons_succ]
          refine wpAnyH_look (i := 38) (v := ?v38d) 127 rfl (by kernel_rfl) (by kernel_rfl) (by kernel_rfl) (fun _ _ _ _ h => h) (by rfl) HS.out (Or.inl ⟨by rfl, ?y38d⟩) ?r38d
          case y38d => intro w hSw; (try dsimp only at hSw); go_simp; (try with_reducible rfl)
          simp only [List.setIfInBounds_toArray, List.set_cons_zero, List.set_cons_succ]
          refine wpAnyH_look (i := 39) (v := ?v39d) 128 rfl (by kernel_rfl) (by kernel_rfl) (by kernel_rfl) (fun _ _ _ _ h => h) (by rfl) HS.out (Or.inl ⟨by rfl, ?y39d⟩) ?r39d
          case y39d => intro w hSw; (try dsimp only at hSw); go_simp; (try with_reducible rfl)
          simp only [List.setIfInBounds_toArray, List.set_cons_zero, List.set_cons_succ]
          refine ⟨by kernel_rfl, ?_⟩
          have hov : x1.cell? ⟨tb, 2, none⟩ = some (.bool false) := HS.out.1.1
          have HBx := Lib.hid HI8.out.bx
          clear HS HL HI7 HI8
          go_wp2_with fail
          go_meet
          case rel => exact HBx
      · have hkz : ¬ (k : Int) ≤ (n : Int) := by omega
        have HBx := Lib.hid HI.out.bx
        clear HI
        go_wp2_with fail
        go_meet
        case rel => exact HBx
  case rest => as_aux_lemma =>
    clear HI2
    have HBx := hcut
    go_upto_region 21 with fail
    have HX := Lib.hid HBx.out.drew
    have HS := Lib.hid (show SixN W a p s q v x wc.drew from HX.out.six)
    refine wp_region_held_drew (S := fun X => X.cell? ⟨W.heap.size, 0, none⟩ = some (.int .i64 a) ∧ X.cell? ⟨W.heap.size, 1, none⟩ = some (.int .i64 p) ∧ X.cell? ⟨W.heap.size, 2, none⟩ = some (.int .i64 s) ∧ X.cell? ⟨W.heap.size, 3, none⟩ = some (.int .i64 q) ∧ X.cell? ⟨W.heap.size, 4, none⟩ = some (.int .i64 v) ∧ X.cell? ⟨W.heap.size, 5, none⟩ = some (.int .u64 x)) (by kernel_rfl) HS.out (fun _ => ?_)
    refine (fun h => h) ?_
    refine wpAnyH_look (i := 0) (v := ?v0f) 144 rfl (by kernel_rfl) (by kernel_rfl) (by kernel_rfl) (fun _ _ _ _ h => h) (by rfl) HS.out (Or.inl ⟨by rfl, ?y0f⟩) ?r0f
    case y0f => intro w hSw; (try dsimp only at hSw); go_simp; (try with_reducible rfl)
    simp only [List.setIfInBounds_toArray, List.set_cons_zero, List.set_cons_succ]
    refine wpAnyH_look (i := 1) (v := ?v1f) 145 rfl (by kernel_rfl) (by kernel_rfl) (by kernel_rfl) (fun _ _ _ _ h => h) (by rfl) HS.out (Or.inl ⟨by rfl, ?y1f⟩) ?r1f
    case y1f => intro w hSw; (try dsimp only at hSw); go_simp; (try with_reducible rfl)
    simp only [List.setIfInBounds_toArray, List.set_cons_zero, List.set_cons_succ]
    refine wpAnyH_look (i := 2) (v := ?v2f) 146 rfl (by kernel_rfl) (by kernel_rfl) (by kernel_rfl) (fun _ _ _ _ h => h) (by rfl) HS.out (Or.inl ⟨by rfl, ?y2f⟩) ?r2f
    case y2f => intro w hSw; (try dsimp only at hSw); go_simp; (try with_reducible rfl)
    simp only [List.setIfInBounds_toArray, List.set_cons_zero, List.set_cons_succ]
    refine wpAnyH_look (i := 4) (v := ?v4f) 148 rfl (by kernel_rfl) (by kernel_rfl) (by kernel_rfl) (fun _ _ _ _ h => h) (by rfl) HS.out (Or.inl ⟨by rfl, ?y4f⟩) ?r4f
    case y4f => intro w hSw; (try dsimp only at hSw); go_simp; (try with_reducible rfl)
    simp only [List.setIfInBounds_toArray, List.set_cons_zero, List.set_cons_succ]
    refine wpAnyH_look (i := 5) (v := ?v5f) 149 rfl (by kernel_rfl) (by kernel_rfl) (by kernel_rfl) (fun _ _ _ _ h => h) (by rfl) HS.out (Or.inl ⟨by rfl, ?y5f⟩) ?r5f
    case y5f => intro w hSw; (try dsimp only at hSw); go_simp; (try with_reducible rfl)
    simp only [List.setIfInBounds_toArray, List.set_cons_zero, List.set_cons_succ]
    refine wpAnyH_look (i := 6) (v := ?v6f) 150 rfl (by kernel_rfl) (by kernel_rfl) (by kernel_rfl) (fun _ _ _ _ h => h) (by rfl) HS.out (Or.inl ⟨by rfl, ?y6f⟩) ?r6f
    case y6f => intro w hSw; (try dsimp only at hSw); go_simp; (try with_reducible rfl)
    simp only [List.setIfInBounds_toArray, List.set_cons_zero, List.set_cons_succ]
    refine wpAnyH_ready (rs := [3]) (by kernel_rfl) (by simp) ?_
    refine AllReadyH.cons rfl (fun K hK => ?_) AllReadyH.nil
    go_simp
    go_at_call 9
    refine (HMo.out _).mono ?_
    rintro en x1 ⟨rfl, hb⟩
    have HX1 := Lib.hid (HX.out.below hb)
    have HS := Lib.hid (show SixN W a p s q v x x1 from HX1.out.six)
    clear hb
    go_simp
    refine hK.out _ _ HS.out (fun _ => ?_)
    clear hK K
    refine wpAnyH_ready (rs := [7]) (by kernel_rfl) (by simp) ?_
    refine AllReadyH.cons rfl (fun K hK => ?_) AllReadyH.nil
    go_simp
    go_at_call 13
    refine (HMr.out _).mono ?_
    rintro en x2 ⟨rfl, hb⟩
    have HX2 := Lib.hid (HX1.out.below hb)
    have HS := Lib.hid (show SixN W a p s q v x x2 from HX2.out.six)
    clear hb
    go_simp
    refine hK.out _ _ HS.out (fun _ => ?_)
    clear hK K
    refine wpAnyH_look (i := 8) (v := ?v8f) 152 rfl (by kernel_rfl) (by kernel_rfl) (by kernel_rfl) (fun _ _ _ _ h => h) (by rfl) HS.out (Or.inl ⟨by rfl, ?y8f⟩) ?r8f
    case y8f => intro w hSw; (try dsimp only at hSw); go_simp; (try with_reducible rfl)
    simp only [List.setIfInBounds_toArray, List.set_cons_zero, List.set_cons_succ]
    refine wpAnyH_look (i := 9) (v := ?v9f) 153 rfl (by kernel_rfl) (by kernel_rfl) (by kernel_rfl) (fun _ _ _ _ h => h) (by rfl) HS.out (Or.inl ⟨by rfl, ?y9f⟩) ?r9f
    case y9f => intro w hSw; (try dsimp only at hSw); go_simp; (try with_reducible rfl)
    simp only [List.setIfInBounds_toArray, List.set_cons_zero, List.set_cons_succ]
    refine wpAnyH_ready (rs := [10]) (by kernel_rfl) (by simp) ?_
    refine AllReadyH.cons rfl (fun K hK => ?_) AllReadyH.nil
    go_simp
    go_at_call 4
    refine (rawake_any _).mono ?_
    rintro en x3 ⟨rfl, hb⟩
    have HX3 := Lib.hid (HX2.out.below hb)
    have HS := Lib.hid (show SixN W a p s q v x x3 from HX3.out.six)
    clear hb
    go_simp
    refine hK.out _ _ HS.out (fun _ => ?_)
    clear hK K
    refine wpAnyH_look (i := 11) (v := ?v11f) 155 rfl (by kernel_rfl) (by kernel_rfl) (by kernel_rfl) (fun _ _ _ _ h => h) (by rfl) HS.out (Or.inl ⟨by rfl, ?y11f⟩) ?r11f
    case y11f => intro w hSw; (try dsimp only at hSw); go_simp; (try with_reducible rfl)
    simp only [List.setIfInBounds_toArray, List.set_cons_zero, List.set_cons_succ]
    refine wpAnyH_look (i := 12) (v := ?v12f) 6 rfl (by kernel_rfl) (by kernel_rfl) (by kernel_rfl) (fun _ _ _ _ h => h) (by rfl) HS.out (Or.inl ⟨by rfl, ?y12f⟩) ?r12f
    case y12f => intro w hSw; (try dsimp only at hSw); go_simp; (try with_reducible rfl)
    simp only [List.setIfInBounds_toArray, List.set_cons_zero, List.set_cons_succ]
    refine ⟨by kernel_rfl, ?_⟩
    go_wp2_with fail
    go_ret
    exact Says.mk rfl HX3.out.lo

end Go.Proofs.YtpnfbabiibopnaaGreat
