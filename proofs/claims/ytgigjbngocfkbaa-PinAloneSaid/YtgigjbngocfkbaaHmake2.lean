/-
  A heap's Make: the walk.
-/
import Derived.Test.YtgigjbngocfkbaaHmake
namespace Go.Proofs.Ytgigjbngocfkbaa
open Go Go.RowKit
attribute [local go_sem ↓] Go.wp_at_zero Go.wp_at_succ

theorem map_some (b : Nat) (w : World) : (binOp .eql 97 (.map (some b)) (.map none)).run Try.prog w = .ok (.bool false) w := by kernel_rfl
theorem map_none (w : World) : (binOp .eql 97 (.map none) (.map none)).run Try.prog w = .ok (.bool true) w := by kernel_rfl

section
variable {B p : Nat} {D : HpD} {f : Nat → Prop}
/-- May a block have so many cells? -/
def okay (c : Int) : Bool := decide (0 ≤ c ∧ c ≤ 256)
def makeV (D : HpD) (c : Int) : Int := if okay c then ((D.L.length + 1 : Nat) : Int) else 0
def makeD (D : HpD) (c : Int) (s : ByteArray) : HpD := if okay c then D.add ⟨List.replicate c.toNat 0, s, false⟩ else D

theorem make_bad (W : World) (c : Int) (s : ByteArray) (hc : okay c = false) :
    Calls Try.prog 33 #[.pointer (some ⟨p, 0, none⟩), .int .i64 c, .string s] W fun e W' => e = .returned (.int .u64 0) ∧ W = W' := by
  have hor : c < 0 ∨ (0 ≤ c ∧ 256 < c) := by unfold okay at hc; have := of_decide_eq_false hc; omega
  clear hc
  rcases hor with hc | ⟨hc0, hc⟩
  all_goals
    go_enter Try.func33, Try.ntmps33
    go_wp2_with fail
    go_ret
    exact ⟨rfl, rfl⟩

set_option maxRecDepth 100000 in
set_option maxHeartbeats 2000000 in
theorem make_good (W : World) (h : Hp W B p D f) (hm : D.L.length < 1000000) (n : Nat) (hn : n ≤ 256) (s : ByteArray) (hs : s.size ≤ 281474976710656) :
    Calls Try.prog 33 #[.pointer (some ⟨p, 0, none⟩), .int .i64 (n : Int), .string s] W (HpR B p f W (.int .u64 ((D.L.length + 1 : Nat) : Int)) (D.add ⟨List.replicate n 0, s, false⟩)) := by
  obtain ⟨mb, g, cp, h⟩ := h
  obtain ⟨i0, gi, gz0, gz1, gz2⟩ := info_parts info_u64
  have hmk : ∀ w : World, (Instr.makeSlice 108 (.int .i64 (n : Int)) (.int .i64 (n : Int))).run Try.prog w = .ok (.slice (some ⟨w.heap.size, 0, none⟩) n n) (w.alloc (.cells (madeCells (Value.cells (.int .u64 0)) n) 22)) := fun w => by
    have := run_make (P := Try.prog) w 108 22 i0 _ Try.underlying108 gi gz0 .i64 .i64 n n (by omega) (Int.le_refl _) (by rw [gz2]; omega) (by omega)
    rw [gz1] at this
    simpa using this
  have hms := map_some
  have hmn := map_none
  have hmm := @run_makeMap Try.prog
  obtain ⟨c0, c1, _, _, f0, f1, _, _⟩ := h.cells
  obtain ⟨l, hl⟩ : ∃ l, D.L.length = l := ⟨_, rfl⟩
  rw [hl] at c1 hm
  have hl1 : (l : Int) ≤ 1000000 := by omega
  have hl0 : (0 : Int) ≤ (l : Int) := by omega
  have hn1 : (n : Int) ≤ 256 := by omega
  have hp := h.plt
  have HH := Lib.hid h
  have HK := Lib.hid hmk
  have hl2 : l < 1000000 := hm
  clear h hmk hm
  have hmix : Try.prog.follows .mixedOrders = true := by kernel_rfl
  have HM := Lib.hid (fun (W1 : World) (f1 : Nat → Prop) (m : Nat) (h1 : HpAt W1 B p D f1 (some m) g cp) (X Z : World) (c : Nat) (ψ : Nat → Option Value) hX hlot hc hZ hψ hg => HpAt.make (X := X) (Z := Z) (n := n) (c := c) (s := s) (u := .int .u64 ((l : Int) + 1)) h1 (by rw [hl]; exact hl2) hn hs (by rw [hl]; simp) hX hlot hc ψ hZ hψ hg)
  rw [hl] at HM ⊢
  have HX0 : ∃ (W1 : World) (f1 : Nat → Prop) (m : Nat), HpAt W1 B p D f1 (some m) g cp ∧ Step f f1 W W1 ∧ ((mb = none ∧ W1.setCell ⟨p, 1, none⟩ (.int .u64 ((l : Int) + 1)) = ((W.setCell ⟨p, 0, none⟩ (.map (some W.heap.size))).setCell ⟨p, 1, none⟩ (.int .u64 ((l : Int) + 1))).alloc (.map #[] 0)) ∨ (mb = some m ∧ W1.setCell ⟨p, 1, none⟩ (.int .u64 ((l : Int) + 1)) = W.setCell ⟨p, 1, none⟩ (.int .u64 ((l : Int) + 1)))) := by
    cases mb with
    | none =>
      obtain ⟨f1, h1, s1⟩ := HH.out.setMap
      exact ⟨_, f1, _, h1, s1, .inl ⟨rfl, by go_simp⟩⟩
    | some m => exact ⟨W, f, m, HH.out, Step.refl _ _, .inr ⟨rfl, rfl⟩⟩
  obtain ⟨W1, g1, m, h1, s1, hor⟩ := HX0
  have HV := Lib.hid (fun X (hX : Below W1.heap.size (W1.setCell ⟨p, 1, none⟩ (.int .u64 ((l : Int) + 1))) X) => show X.cell? ⟨p, 0, none⟩ = some (.map (some m)) ∧ X.cell? ⟨p, 1, none⟩ = some (.int .u64 ((l : Int) + 1)) ∧ Mapped X m l (phi g cp D.L) from by
    have e1 := (hX.block p h1.plt).trans (heap_setAt h1.own)
    refine ⟨(cell_of e1).trans rfl, (cell_of e1).trans rfl, ?_⟩
    have := h1.mapped rfl
    rw [hl] at this
    exact this.stays ((hX.block m this.lt).trans (Below.heap_setCell _ _ _ _ (fun e => h1.mp (by rw [e])))))
  have HMd := Lib.hid (HM.out W1 g1 m h1)
  have HS1 := Lib.hid s1
  have hpw : p < W1.heap.size := h1.plt
  have hz1 := Lib.hid (show (W1.setCell ⟨p, 1, none⟩ (.int .u64 ((l : Int) + 1))).heap.size = W1.heap.size from World.size_setCell _ _ _)
  clear HM h1 s1
  rcases hor with ⟨rfl, hW⟩ | ⟨rfl, hW⟩
  all_goals
    go_enter Try.func33, Try.ntmps33
    go_wp2_with fail
    rw [← hW]
    clear hW
    generalize W1.setCell ⟨p, 1, none⟩ (.int .u64 ((l : Int) + 1)) = V at HV HMd hz1 ⊢
    have A0 := Lib.hid (show Below W1.heap.size V V.drew from (below_drew V).mono (Nat.le_of_eq hz1.out.symm))
    have A1 := Lib.hid (show Below W1.heap.size V (V.alloc (.cells (madeCells #[.int .u64 0] n) 22)).drew from ((below_alloc V _).trans ((below_drew (V.alloc _)).mono (by simp))).mono (Nat.le_of_eq hz1.out.symm))
    have HL := Lib.hid (lot_made V n hn)
    have HSC := Lib.hid (show ∀ X, Below W1.heap.size V X → (X.cell? ⟨p, 0, none⟩ = some (.map (some m)) ∧ X.cell? ⟨p, 1, none⟩ = some (.int .u64 ((l : Int) + 1))) from fun X hX => ⟨(HV.out X hX).1, (HV.out X hX).2.1⟩)
    have hmk := HK.out
    have hl3 : l < maxLen := by unfold maxLen; omega
    have hlz : ((l + 1 : Nat) : Int) = (l : Int) + 1 := rfl
    have HLZ := Lib.hid hlz
    have hc0 := Lib.hid (show W1.heap.size ≤ V.heap.size from Nat.le_of_eq hz1.out.symm)
    clear HK hms hmn hmm f0 f1 c0 c1 HH hlz
    go_region_held3 (fun w' => w'.cell? ⟨p, 0, none⟩ = some (.map (some m)) ∧ w'.cell? ⟨p, 1, none⟩ = some (.int .u64 ((l : Int) + 1)))
      (first
        | exact HS4.out
        | exact HSC.out _ A0.out
        | exact HSC.out _ A1.out
        | exact HSC.out _ X1.out
        | exact HSC.out _ (X1.out.alloc X0.out _))
      (first
        | (go_at_call 49; refine (clone_any s _ hs).mono ?_; rintro e x1 ⟨rfl, hb⟩; (first
            | (have X1 := Lib.hid (A1.out.trans (hb.mono (Nat.le_trans hc0.out A1.out.size))); have HLot := Lib.hid ((HL.out.below (below_drew _)).below hb))
            | (have X1 := Lib.hid (A0.out.trans (hb.mono (Nat.le_trans hc0.out A0.out.size))))
            | fail); (have X0 := Lib.hid (show W1.heap.size ≤ x1.heap.size from Nat.le_trans hc0.out X1.out.size)); clear hb)
        | (obtain ⟨w4, hr4, hM4, hg4⟩ := (HV.out x1 X1.out).2.2.put hl3 (l + 1) (by omega) (.agg #[.slice (some ⟨V.heap.size, 0, none⟩) n n, .string s]); rw [HLZ.out] at hr4; rw [hr4]; obtain ⟨hR, hS⟩ := HMd.out x1 w4 V.heap.size _ X1.out HLot.out hc0.out hM4 rfl hg4; have HR := Lib.hid hR; have HS4 := Lib.hid hS; clear hR hS hM4 hg4 hr4; go_simp)
        | (obtain ⟨w4, hr4, hM4, hg4⟩ := (HV.out _ (X1.out.alloc X0.out (.cells (madeCells #[.int .u64 0] n) 22))).2.2.put hl3 (l + 1) (by omega) (.agg #[.slice (some ⟨x1.heap.size, 0, none⟩) n n, .string s]); rw [HLZ.out] at hr4; rw [hr4]; obtain ⟨hR, hS⟩ := HMd.out _ w4 x1.heap.size _ (X1.out.alloc X0.out _) (lot_made x1 n hn) X0.out hM4 rfl hg4; have HR := Lib.hid hR; have HS4 := Lib.hid hS; clear hR hS hM4 hg4 hr4; go_simp)
        | fail)
    all_goals
      obtain ⟨q0, q1⟩ := HS4.out
      go_wp2_with fail
      go_ret
      obtain ⟨f', r1, r2, r3⟩ := HR.out
      exact ⟨f', rfl, r2, HS1.out.trans r3⟩
end

end Go.Proofs.Ytgigjbngocfkbaa
