/-
  Hmake, Hmake2, Actst, Actdo, in one text.
-/
import Derived.Test.YtpnfbabiibopnaaQ03
/-! A heap's Make. -/
namespace Go.Proofs.Ytpnfbabiibopnaa
open Go Go.RowKit
attribute [local go_sem ↓] Go.wp_at_zero Go.wp_at_succ

theorem info_u64 : (Try.prog.info? 22).map (fun i => (i.zero, i.size, i.bytes)) = some (some (.int .u64 0), 1, 8) := by kernel_rfl

section
variable {W X Y Z : World} {B p : Nat} {D : HpD} {f : Nat → Prop} {mb : Option Nat} {g cp : Nat → Nat}

/-- A map is made where there is none yet. -/
theorem HpAt.setMap (h : HpAt W B p D f none g cp) :
    ∃ f', HpAt ((W.alloc (.map #[] 0)).setCell ⟨p, 0, none⟩ (.map (some W.heap.size))) B p D f' (some W.heap.size) g cp ∧ Step f f' W ((W.alloc (.map #[] 0)).setCell ⟨p, 0, none⟩ (.map (some W.heap.size))) := by
  have hL : D.L = [] := by
    rcases h.map with ⟨_, h0⟩ | ⟨m, h1, _⟩
    · exact h0
    · cases h1
  have hno : ∀ k b, liveAt D.L k ≠ some b := fun k b e => by rw [hL, liveAt_nil] at e; cases e
  have hp := h.plt
  have h2 := h.below (below_alloc W (.map #[] 0))
  have hM : Mapped ((W.alloc (.map #[] 0)).setCell ⟨p, 0, none⟩ (.map (some W.heap.size))) W.heap.size 0 (fun _ => none) :=
    (Mapped.made W).stays (Below.heap_setCell _ _ _ _ (by show W.heap.size ≠ p; omega))
  refine ⟨fun k => k = p ∨ some W.heap.size = some k ∨ ∃ j b, liveAt D.L j = some b ∧ g j = k,
    ⟨(heap_setAt h2.own).trans rfl, .inr ⟨_, rfl, ?_⟩, fun k b hb => absurd hb (hno k b), fun k k' b b' hb => absurd hb (hno k b), rfl, fun k hk => ?_, h.many, fun k b hb => absurd hb (hno k b)⟩,
    rfl, rfl, rfl, by simp [World.setCell], fun k hk hn => ?_, fun k hk => ?_⟩
  · refine (hM.mono (Nat.zero_le _)).same (fun k _ => ?_)
    rw [phi_none (by rw [hL]; exact liveAt_nil k)]
  · rcases hk with hk | hk | ⟨j, b, hj, _⟩
    · rw [hk]; exact h.base p h.self
    · cases hk; exact h.size
    · exact absurd hj (hno j b)
  · rw [Below.heap_setCell _ _ _ _ (fun e => hn (by rw [e]; exact h.self))]
    exact (below_alloc W _).block k hk
  · rcases hk with hk | hk | ⟨j, b, hj, _⟩
    · rw [hk]; exact .inl h.self
    · cases hk; exact .inr (Nat.le_refl _)
    · exact absurd hj (hno j b)

/-- A block is made: the count is raised, its cells are made, and it is put into the map. -/
theorem HpAt.make {m n c : Nat} {s : ByteArray} {u : Value} (h : HpAt W B p D f (some m) g cp) (hm : D.L.length < 1000000) (hn : n ≤ 256) (hs : s.size ≤ 281474976710656) (hu : u = .int .u64 ((D.L.length + 1 : Nat) : Int))
    (hX : Below W.heap.size (W.setCell ⟨p, 1, none⟩ u) X) (hlot : Lot X 22 1 (.slice (some ⟨c, 0, none⟩) n n) n ((List.replicate n (0 : Int)).map uval)) (hc : W.heap.size ≤ c) (ψ : Nat → Option Value)
    (hZ : Mapped Z m (D.L.length + 1) ψ) (hψ : ψ = fun k => if k = D.L.length + 1 then some (.agg #[.slice (some ⟨c, 0, none⟩) n n, .string s]) else phi g cp D.L k) (hg : X.grownBy Z (some m)) :
    HpR B p f W (.int .u64 ((D.L.length + 1 : Nat) : Int)) (D.add ⟨List.replicate n 0, s, false⟩) (.returned (.int .u64 ((D.L.length + 1 : Nat) : Int))) Z ∧ Z.cell? ⟨p, 0, none⟩ = some (.map (some m)) ∧ Z.cell? ⟨p, 1, none⟩ = some u := by
  subst hu hψ
  have hlt := h.lt
  have hcell : ∀ k, f k → k ≠ p → X.heap[k]? = W.heap[k]? := fun k hk hkp => (hX.block k (hlt k hk)).trans (Below.heap_setCell _ _ _ _ hkp)
  have hne : ∀ k, f k → some k ≠ some m → Z.heap[k]? = X.heap[k]? := fun k hk hkm => hg.block k (by have h1 := hX.size; have h2 := hlt k hk; rw [World.size_setCell] at h1; omega) hkm
  have hpm : some p ≠ some m := fun e => h.mp e.symm
  have hpZ : Z.heap[p]? = some (.cells #[.map (some m), .int .u64 ((D.L.length + 1 : Nat) : Int), .bool D.locked, .int .i64 D.faults] 101 (0, 0)) := by
    rw [hne p h.self hpm, hX.block p h.plt, heap_setAt h.own]; rfl
  have hlive : ∀ j, liveAt (D.add ⟨List.replicate n 0, s, false⟩).L j = if j = D.L.length + 1 then some ⟨List.replicate n 0, s, false⟩ else liveAt D.L j := fun j => by
    show liveAt (D.L ++ [_]) j = _
    rw [liveAt_snoc]; rfl
  have hcl : c < Z.heap.size := by
    obtain ⟨cur, h1⟩ := hlot.tag (k := c) rfl
    have := heap_at_lt h1
    have := hg.size; omega
  have hcm : c ≠ m := fun e => by
    obtain ⟨cur, h1⟩ := hlot.tag (k := c) rfl
    have := hlt m (h.fm rfl); omega
  refine ⟨⟨fun k => k = p ∨ some m = some k ∨ ∃ j b, liveAt (D.add ⟨List.replicate n 0, s, false⟩).L j = some b ∧ (fun j => if j = D.L.length + 1 then c else g j) j = k, rfl,
    ⟨some m, fun j => if j = D.L.length + 1 then c else g j, fun j => if j = D.L.length + 1 then n else cp j, ?_, .inr ⟨m, rfl, ?_⟩, fun k b hb => ?_, fun k k' b b' hb hb' he => ?_, rfl, fun k hk => ?_, ⟨?_, h.many.2⟩, fun k b hb => ?_⟩, ?_⟩, ?_, ?_⟩
  · have : (D.add ⟨List.replicate n 0, s, false⟩).L.length = D.L.length + 1 := by simp [HpD.add]
    rw [this]; exact hpZ
  · have : (D.add ⟨List.replicate n 0, s, false⟩).L.length = D.L.length + 1 := by simp [HpD.add]
    rw [this]
    refine hZ.same (fun k _ => ?_)
    unfold phi
    rw [hlive]
    by_cases hk : k = D.L.length + 1
    · subst hk; rw [if_pos rfl, if_pos rfl]; simp
    · rw [if_neg hk, if_neg hk]
      cases hb : liveAt D.L k with
      | none => rfl
      | some b => simp [hk]
  · rw [hlive] at hb
    by_cases hk : k = D.L.length + 1
    · subst hk
      rw [if_pos rfl] at hb
      cases hb
      rw [if_pos rfl, if_pos rfl]
      have := hlot.kept hg (.inr (by show some c ≠ some m; exact fun e => hcm (Option.some.inj e)))
      simpa using this
    · rw [if_neg hk] at hb
      rw [if_neg hk, if_neg hk]
      refine (h.lie k b hb).stays (fun q hq => ?_)
      obtain rfl : g k = q := by simpa [Value.ownBlock] using hq
      rw [hne _ (h.fg hb) (fun e => h.gm hb e.symm), hcell _ (h.fg hb) (h.gp hb)]
  · rw [hlive] at hb hb'
    by_cases hk : k = D.L.length + 1
    · by_cases hk' : k' = D.L.length + 1
      · rw [hk, hk']
      · rw [if_neg hk'] at hb'
        have he' : c = g k' := by simpa [hk, hk'] using he
        have := hlt _ (h.fg hb'); omega
    · rw [if_neg hk] at hb
      by_cases hk' : k' = D.L.length + 1
      · have he' : g k = c := by simpa [hk, hk'] using he
        have := hlt _ (h.fg hb); omega
      · rw [if_neg hk'] at hb'
        have he' : g k = g k' := by simpa [hk, hk'] using he
        exact h.apart _ _ _ _ hb hb' he'
  · rcases hk with hk | hk | ⟨j, b, hj, hk⟩
    · rw [hk]; exact h.base p h.self
    · cases hk; exact h.base m (h.fm rfl)
    · rw [hlive] at hj
      by_cases hjk : j = D.L.length + 1
      · have hk' : c = k := by simpa [hjk] using hk
        have := h.size; omega
      · rw [if_neg hjk] at hj
        have hk' : g j = k := by simpa [hjk] using hk
        rw [← hk']; exact h.base _ (h.fg hj)
  · show (D.L ++ [_]).length ≤ _; simp; omega
  · rw [hlive] at hb
    by_cases hk : k = D.L.length + 1
    · rw [if_pos hk] at hb; cases hb; exact ⟨by simpa using hn, hs⟩
    · rw [if_neg hk] at hb; exact h.fits k b hb
  · refine ⟨hg.os.trans hX.os, hg.tape.trans hX.tape, hg.output.trans hX.output, by have h1 := hX.size; have h2 := hg.size; rw [World.size_setCell] at h1; omega, fun k hk hn => ?_, fun k hk => ?_⟩
    · have hkp : k ≠ p := fun e => hn (by rw [e]; exact h.self)
      have hkm : some k ≠ some m := fun e => hn (by cases e; exact h.fm rfl)
      rw [hg.block k (by have h1 := hX.size; rw [World.size_setCell] at h1; omega) hkm, hX.block k hk, Below.heap_setCell _ _ _ _ hkp]
    · rcases hk with hk | hk | ⟨j, b, hj, hk⟩
      · rw [hk]; exact .inl h.self
      · cases hk; exact .inl (h.fm rfl)
      · rw [hlive] at hj
        by_cases hjk : j = D.L.length + 1
        · have hk' : c = k := by simpa [hjk] using hk
          right; omega
        · rw [if_neg hjk] at hj
          have hk' : g j = k := by simpa [hjk] using hk
          left; rw [← hk']; exact h.fg hj
  · exact (cell_of hpZ).trans rfl
  · exact (cell_of hpZ).trans rfl
end

/-- What makeSlice lays. -/
theorem lot_made (V : World) (n : Nat) (hn : n ≤ 256) : Lot (V.alloc (.cells (madeCells #[.int .u64 0] n) 22)) 22 1 (.slice (some ⟨V.heap.size, 0, none⟩) n n) n ((List.replicate n (0 : Int)).map uval) := by
  refine ⟨by simp, .inr ⟨V.heap.size, n, _, rfl, World.alloc_heap_new V _, Nat.le_refl _, by unfold maxLen; omega, by simp [size_madeCells], ?_⟩⟩
  rw [toList_madeCells_one, Nat.mul_one, List.take_of_length_le (by simp)]
  simp [uval]

/-- A map's put, at a step of a region that draws its order. -/
theorem step_put {w : World} {ops : Array Oper} {o : Oper} {a : Act} {K : Act → World → Prop} {Q : Exit → Act → World → Prop} {E : Prop} (hgd : o.guard = none) (m x v : Operand) (hop : o.op = Op.mapUpdate 99 m x v)
    (b n k : Nat) (z : Int) (hz : (k : Int) = z) (φ : Nat → Option Value) (val : Value) (hm : a.eval m = .map (some b)) (hx : a.eval x = .int .u64 z) (hv : a.eval v = val) (hM : Mapped w b n φ) (hn : n < maxLen) (hk : k < 18446744073709551616)
    (h : ∀ w', Mapped w' b (n + 1) (fun j => if j = k then some val else φ j) → w.grownBy w' (some b) → K (a.put o.dst undef) w') :
    if Region.wanted o (yielded ops a.tmps) = true then Oper.wp Try.prog o a w K Q else E := by
  have hw : Region.wanted o (yielded ops a.tmps) = true := by simp [Region.wanted, hgd]
  rw [if_pos hw]
  subst hz
  obtain ⟨w', hr, h1, h2⟩ := hM.put hn k hk val
  unfold Oper.wp
  simp [execOp, hop, hm, hx, hv, hr, Result.andThen]
  exact h w' h1 h2

end Go.Proofs.Ytpnfbabiibopnaa

/-! A heap's Make: the walk. -/
namespace Go.Proofs.Ytpnfbabiibopnaa
open Go Go.RowKit
attribute [local go_sem ↓] Go.wp_at_zero Go.wp_at_succ

theorem map_some (b : Nat) (w : World) : (binOp .eql 99 (.map (some b)) (.map none)).run Try.prog w = .ok (.bool false) w := by kernel_rfl
theorem map_none (w : World) : (binOp .eql 99 (.map none) (.map none)).run Try.prog w = .ok (.bool true) w := by kernel_rfl

section
variable {B p : Nat} {D : HpD} {f : Nat → Prop}
/-- May a block have so many cells? -/
def okay (c : Int) : Bool := decide (0 ≤ c ∧ c ≤ 256)
def makeV (D : HpD) (c : Int) : Int := if okay c then ((D.L.length + 1 : Nat) : Int) else 0
def makeD (D : HpD) (c : Int) (s : ByteArray) : HpD := if okay c then D.add ⟨List.replicate c.toNat 0, s, false⟩ else D

theorem make_bad (W : World) (c : Int) (s : ByteArray) (hc : okay c = false) :
    Calls Try.prog 26 #[.pointer (some ⟨p, 0, none⟩), .int .i64 c, .string s] W fun e W' => e = .returned (.int .u64 0) ∧ W = W' := by
  have hor : c < 0 ∨ (0 ≤ c ∧ 256 < c) := by unfold okay at hc; have := of_decide_eq_false hc; omega
  clear hc
  rcases hor with hc | ⟨hc0, hc⟩
  all_goals
    go_enter Try.func26, Try.ntmps26
    go_wp2_with fail
    go_ret
    exact ⟨rfl, rfl⟩

set_option maxRecDepth 100000 in
set_option maxHeartbeats 2000000 in
theorem make_good (W : World) (h : Hp W B p D f) (hm : D.L.length < 1000000) (n : Nat) (hn : n ≤ 256) (s : ByteArray) (hs : s.size ≤ 281474976710656) :
    Calls Try.prog 26 #[.pointer (some ⟨p, 0, none⟩), .int .i64 (n : Int), .string s] W (HpR B p f W (.int .u64 ((D.L.length + 1 : Nat) : Int)) (D.add ⟨List.replicate n 0, s, false⟩)) := by
  obtain ⟨mb, g, cp, h⟩ := h
  obtain ⟨i0, gi, gz0, gz1, gz2⟩ := info_parts info_u64
  have hmk : ∀ w : World, (Instr.makeSlice 116 (.int .i64 (n : Int)) (.int .i64 (n : Int))).run Try.prog w = .ok (.slice (some ⟨w.heap.size, 0, none⟩) n n) (w.alloc (.cells (madeCells (Value.cells (.int .u64 0)) n) 22)) := fun w => by
    have := run_make (P := Try.prog) w 116 22 i0 _ Try.underlying116 gi gz0 .i64 .i64 n n (by omega) (Int.le_refl _) (by rw [gz2]; omega) (by omega)
    rw [gz1] at this
    simpa using this
  have hms := map_some
  have hmn := map_none
  have hmm := @run_makeMap Try.prog
  obtain ⟨c0, c1, _, _, f0, f1, _, _⟩ := h.cells
  obtain ⟨l, hl⟩ : ∃ l, D.L.length = l := ⟨_, rfl⟩
  rw [hl] at c1 hm
  have hl1 : (l : Int) ≤ 1000000 := by omega
  have hl0 : (0 : Int) ≤ (l : Int) := by omega
  have hn1 : (n : Int) ≤ 256 := by omega
  have hp := h.plt
  have HH := Lib.hid h
  have HK := Lib.hid hmk
  have hl2 : l < 1000000 := hm
  clear h hmk hm
  have hmix : Try.prog.follows .mixedOrders = true := by kernel_rfl
  have HM := Lib.hid (fun (W1 : World) (f1 : Nat → Prop) (m : Nat) (h1 : HpAt W1 B p D f1 (some m) g cp) (X Z : World) (c : Nat) (ψ : Nat → Option Value) hX hlot hc hZ hψ hg => HpAt.make (X := X) (Z := Z) (n := n) (c := c) (s := s) (u := .int .u64 ((l : Int) + 1)) h1 (by rw [hl]; exact hl2) hn hs (by rw [hl]; simp) hX hlot hc ψ hZ hψ hg)
  rw [hl] at HM ⊢
  have HX0 : ∃ (W1 : World) (f1 : Nat → Prop) (m : Nat), HpAt W1 B p D f1 (some m) g cp ∧ Step f f1 W W1 ∧ ((mb = none ∧ W1.setCell ⟨p, 1, none⟩ (.int .u64 ((l : Int) + 1)) = ((W.setCell ⟨p, 0, none⟩ (.map (some W.heap.size))).setCell ⟨p, 1, none⟩ (.int .u64 ((l : Int) + 1))).alloc (.map #[] 0)) ∨ (mb = some m ∧ W1.setCell ⟨p, 1, none⟩ (.int .u64 ((l : Int) + 1)) = W.setCell ⟨p, 1, none⟩ (.int .u64 ((l : Int) + 1)))) := by
    cases mb with
    | none =>
      obtain ⟨f1, h1, s1⟩ := HH.out.setMap
      exact ⟨_, f1, _, h1, s1, .inl ⟨rfl, by go_simp⟩⟩
    | some m => exact ⟨W, f, m, HH.out, Step.refl _ _, .inr ⟨rfl, rfl⟩⟩
  obtain ⟨W1, g1, m, h1, s1, hor⟩ := HX0
  have HV := Lib.hid (fun X (hX : Below W1.heap.size (W1.setCell ⟨p, 1, none⟩ (.int .u64 ((l : Int) + 1))) X) => show X.cell? ⟨p, 0, none⟩ = some (.map (some m)) ∧ X.cell? ⟨p, 1, none⟩ = some (.int .u64 ((l : Int) + 1)) ∧ Mapped X m l (phi g cp D.L) from by
    have e1 := (hX.block p h1.plt).trans (heap_setAt h1.own)
    refine ⟨(cell_of e1).trans rfl, (cell_of e1).trans rfl, ?_⟩
    have := h1.mapped rfl
    rw [hl] at this
    exact this.stays ((hX.block m this.lt).trans (Below.heap_setCell _ _ _ _ (fun e => h1.mp (by rw [e])))))
  have HMd := Lib.hid (HM.out W1 g1 m h1)
  have HS1 := Lib.hid s1
  have hpw : p < W1.heap.size := h1.plt
  have hz1 := Lib.hid (show (W1.setCell ⟨p, 1, none⟩ (.int .u64 ((l : Int) + 1))).heap.size = W1.heap.size from World.size_setCell _ _ _)
  clear HM h1 s1
  rcases hor with ⟨rfl, hW⟩ | ⟨rfl, hW⟩
  all_goals
    go_enter Try.func26, Try.ntmps26
    go_wp2_with fail
    rw [← hW]
    clear hW
    generalize W1.setCell ⟨p, 1, none⟩ (.int .u64 ((l : Int) + 1)) = V at HV HMd hz1 ⊢
    have A0 := Lib.hid (show Below W1.heap.size V V.drew from (below_drew V).mono (Nat.le_of_eq hz1.out.symm))
    have A1 := Lib.hid (show Below W1.heap.size V (V.alloc (.cells (madeCells #[.int .u64 0] n) 22)).drew from ((below_alloc V _).trans ((below_drew (V.alloc _)).mono (by simp))).mono (Nat.le_of_eq hz1.out.symm))
    have HL := Lib.hid (lot_made V n hn)
    have HSC := Lib.hid (show ∀ X, Below W1.heap.size V X → (X.cell? ⟨p, 0, none⟩ = some (.map (some m)) ∧ X.cell? ⟨p, 1, none⟩ = some (.int .u64 ((l : Int) + 1))) from fun X hX => ⟨(HV.out X hX).1, (HV.out X hX).2.1⟩)
    have hmk := HK.out
    have hl3 : l < maxLen := by unfold maxLen; omega
    have hlz : ((l + 1 : Nat) : Int) = (l : Int) + 1 := rfl
    have HLZ := Lib.hid hlz
    have hc0 := Lib.hid (show W1.heap.size ≤ V.heap.size from Nat.le_of_eq hz1.out.symm)
    clear HK hms hmn hmm f0 f1 c0 c1 HH hlz
    go_region_held3 (fun w' => w'.cell? ⟨p, 0, none⟩ = some (.map (some m)) ∧ w'.cell? ⟨p, 1, none⟩ = some (.int .u64 ((l : Int) + 1)))
      (first
        | exact HS4.out
        | exact HSC.out _ A0.out
        | exact HSC.out _ A1.out
        | exact HSC.out _ X1.out
        | exact HSC.out _ (X1.out.alloc X0.out _))
      (first
        | (go_at_call 50; refine (clone_any s _ hs).mono ?_; rintro e x1 ⟨rfl, hb⟩; (first
            | (have X1 := Lib.hid (A1.out.trans (hb.mono (Nat.le_trans hc0.out A1.out.size))); have HLot := Lib.hid ((HL.out.below (below_drew _)).below hb))
            | (have X1 := Lib.hid (A0.out.trans (hb.mono (Nat.le_trans hc0.out A0.out.size))))
            | fail); (have X0 := Lib.hid (show W1.heap.size ≤ x1.heap.size from Nat.le_trans hc0.out X1.out.size)); clear hb)
        | (obtain ⟨w4, hr4, hM4, hg4⟩ := (HV.out x1 X1.out).2.2.put hl3 (l + 1) (by omega) (.agg #[.slice (some ⟨V.heap.size, 0, none⟩) n n, .string s]); rw [HLZ.out] at hr4; rw [hr4]; obtain ⟨hR, hS⟩ := HMd.out x1 w4 V.heap.size _ X1.out HLot.out hc0.out hM4 rfl hg4; have HR := Lib.hid hR; have HS4 := Lib.hid hS; clear hR hS hM4 hg4 hr4; go_simp)
        | (obtain ⟨w4, hr4, hM4, hg4⟩ := (HV.out _ (X1.out.alloc X0.out (.cells (madeCells #[.int .u64 0] n) 22))).2.2.put hl3 (l + 1) (by omega) (.agg #[.slice (some ⟨x1.heap.size, 0, none⟩) n n, .string s]); rw [HLZ.out] at hr4; rw [hr4]; obtain ⟨hR, hS⟩ := HMd.out _ w4 x1.heap.size _ (X1.out.alloc X0.out _) (lot_made x1 n hn) X0.out hM4 rfl hg4; have HR := Lib.hid hR; have HS4 := Lib.hid hS; clear hR hS hM4 hg4 hr4; go_simp)
        | fail)
    all_goals
      obtain ⟨q0, q1⟩ := HS4.out
      go_wp2_with fail
      go_ret
      obtain ⟨f', r1, r2, r3⟩ := HR.out
      exact ⟨f', rfl, r2, HS1.out.trans r3⟩
end

end Go.Proofs.Ytpnfbabiibopnaa

/-! What an act is answered, and the heap behind it; what lies in the middle of Do. -/
namespace Go.Proofs.Ytpnfbabiibopnaa
open Go Go.RowKit

theorem okay_nat {c : Int} (h : okay c = true) : ∃ n : Nat, c = (n : Int) ∧ n ≤ 256 := by
  unfold okay at h
  have := of_decide_eq_true h
  exact ⟨c.toNat, by omega, by omega⟩
theorem make_all {B p : Nat} {D : HpD} {f : Nat → Prop} (W : World) (h : Hp W B p D f) (hm : D.L.length < 1000000) (c : Int) (s : ByteArray) (hs : s.size ≤ 281474976710656) :
    Calls Try.prog 26 #[.pointer (some ⟨p, 0, none⟩), .int .i64 c, .string s] W (HpR B p f W (.int .u64 (makeV D c)) (makeD D c s)) := by
  cases hc : okay c with
  | true =>
    obtain ⟨n, rfl, hn⟩ := okay_nat hc
    have := make_good W h hm n hn s hs
    unfold makeV makeD
    rw [if_pos hc, if_pos hc]
    exact this
  | false =>
    refine (make_bad (p := p) W c s hc).mono fun e W' he => ?_
    obtain ⟨rfl, rfl⟩ := he
    unfold makeV makeD
    rw [if_neg (by rw [hc]; decide), if_neg (by rw [hc]; decide)]
    exact ⟨f, rfl, h, Step.refl _ _⟩

/-- The word of an answer, of an act that may be. -/
def actW (D : HpD) (x : ActD) : Int :=
  if x.kind = 1 ∨ x.kind = 10 ∨ x.kind = 3 ∨ x.kind = 4 then loadV D x.block x.cell else if x.kind = 5 then makeV D x.cell else if x.kind = 8 then (if D.locked then 0 else 1) else 0
/-- Its text. -/
def actT (D : HpD) (x : ActD) : ByteArray := if x.kind = 6 then textAt D.L x.block else ⟨#[]⟩
/-- The heap behind an act that may be. -/
def actN (D : HpD) (x : ActD) : HpD :=
  if x.kind = 1 ∨ x.kind = 10 then loadD D x.block x.cell else if x.kind = 2 then storeD D x.block x.cell x.new else if x.kind = 3 then swapD D x.block x.cell x.old x.new
  else if x.kind = 4 then bumpD D x.block x.cell x.new else if x.kind = 5 then makeD D x.cell x.text else if x.kind = 6 then wordsD D x.block
  else if x.kind = 7 then dropD D x.block else if x.kind = 8 then D.lock true else if x.kind = 9 then unlockD D else D
def doW (D : HpD) (x : ActD) : Int := if rightA x then actW D x else 0
def doT (D : HpD) (x : ActD) : ByteArray := if rightA x then actT D x else ⟨#[]⟩
def doN (D : HpD) (x : ActD) : HpD := if rightA x then actN D x else D
abbrev gotV (w : Int) (t : ByteArray) : Value := .agg #[.int .u64 w, .string t]

def actCells (x : ActD) : Array Value := #[.int .i64 x.kind, .int .u64 (x.block : Int), .int .i64 x.cell, .int .u64 x.old, .int .u64 x.new, .string x.text]
abbrev gotCells (w : Int) (t : ByteArray) : Array Value := #[.int .u64 w, .string t]

/-- In the middle of Do: the heap, what was asked, the result's own place, the answer so far. -/
structure Doi (W : World) (f0 : Nat → Prop) (H : World → HpD → (Nat → Prop) → Prop) (n : Nat) (x : ActD) (D : HpD) (f : Nat → Prop) (w : Int) (t : ByteArray) (X : World) : Prop where
  hp : H X D f
  bx : X.heap[n]? = some (.cells (actCells x) 59 (0, 0))
  rs : X.heap[n + 1]? = some (.cells (gotCells 0 ⟨#[]⟩) 63 (0, 0))
  gt : X.heap[n + 2]? = some (.cells (gotCells w t) 63 (0, 0))
  lo : ∀ k, f k → k < X.heap.size
  off : ¬ f n ∧ ¬ f (n + 1) ∧ ¬ f (n + 2)
  st : Step f0 f W X
  nn : n = W.heap.size
section
variable {W X Y : World} {f0 f f1 : Nat → Prop} {H : World → HpD → (Nat → Prop) → Prop} {n : Nat} {x : ActD} {D D1 : HpD} {w : Int} {t : ByteArray}
theorem Doi.below (h : Doi W f0 H n x D f w t X) (hH : ∀ {A B : World}, H A D f → Below A.heap.size A B → H B D f) (hb : Below X.heap.size X Y) : Doi W f0 H n x D f w t Y :=
  ⟨hH h.hp hb, (hb.block n (heap_at_lt h.bx)).trans h.bx, (hb.block _ (heap_at_lt h.rs)).trans h.rs, (hb.block _ (heap_at_lt h.gt)).trans h.gt, fun k hk => Nat.lt_of_lt_of_le (h.lo k hk) hb.size, h.off, h.st.trans (Step.of_below hb), h.nn⟩
theorem Doi.turn (h : Doi W f0 H n x D f w t X) (h1 : H Y D1 f1) (s1 : Step f f1 X Y) (hl : ∀ k, f1 k → k < Y.heap.size) : Doi W f0 H n x D1 f1 w t Y :=
  ⟨h1, (s1.block n (heap_at_lt h.bx) h.off.1).trans h.bx, (s1.block _ (heap_at_lt h.rs) h.off.2.1).trans h.rs, (s1.block _ (heap_at_lt h.gt) h.off.2.2).trans h.gt, hl,
    ⟨s1.off (heap_at_lt h.bx) h.off.1, s1.off (heap_at_lt h.rs) h.off.2.1, s1.off (heap_at_lt h.gt) h.off.2.2⟩, h.st.trans s1, h.nn⟩
theorem Doi.cells (h : Doi W f0 H n x D f w t X) : X.cell? ⟨n, 0, none⟩ = some (.int .i64 x.kind) ∧ X.cell? ⟨n, 1, none⟩ = some (.int .u64 (x.block : Int)) ∧ X.cell? ⟨n, 2, none⟩ = some (.int .i64 x.cell) ∧ X.cell? ⟨n, 3, none⟩ = some (.int .u64 x.old) ∧ X.cell? ⟨n, 4, none⟩ = some (.int .u64 x.new) ∧ X.cell? ⟨n, 5, none⟩ = some (.string x.text) ∧
    X.cell? ⟨n + 1, 0, none⟩ = some (.int .u64 0) ∧ X.cell? ⟨n + 1, 1, none⟩ = some (.string ⟨#[]⟩) ∧ X.frozen? ⟨n + 1, 0, none⟩ = false ∧ X.frozen? ⟨n + 1, 1, none⟩ = false ∧
    X.cell? ⟨n + 2, 0, none⟩ = some (.int .u64 w) ∧ X.cell? ⟨n + 2, 1, none⟩ = some (.string t) ∧ X.frozen? ⟨n + 2, 0, none⟩ = false ∧ X.frozen? ⟨n + 2, 1, none⟩ = false :=
  ⟨(cell_of h.bx).trans rfl, (cell_of h.bx).trans rfl, (cell_of h.bx).trans rfl, (cell_of h.bx).trans rfl, (cell_of h.bx).trans rfl, (cell_of h.bx).trans rfl, (cell_of h.rs).trans rfl, (cell_of h.rs).trans rfl, by simp [World.frozen?, h.rs], by simp [World.frozen?, h.rs], (cell_of h.gt).trans rfl, (cell_of h.gt).trans rfl, by simp [World.frozen?, h.gt], by simp [World.frozen?, h.gt]⟩
/-- A store into one of the call's own places is of no matter to the heap. -/
theorem Step.own {A : World} {b o : Nat} {u : Value} (hb : A.heap.size ≤ b) (h : Step f0 f A X) : Step f0 f A (X.setCell ⟨b, o, none⟩ u) :=
  ⟨h.os, h.tape, h.output, by simp only [World.setCell]; simpa using h.size, fun k hk hn => (Below.heap_setCell _ _ _ _ (fun e => by have : k = b := e; omega)).trans (h.block k hk hn), fun k hk => h.foot k hk⟩
theorem Doi.word (h : Doi W f0 H n x D f w t X) (hH : ∀ {A B : World}, H A D f → (∀ k, f k → B.heap[k]? = A.heap[k]?) → H B D f) (w' : Int) : Doi W f0 H n x D f w' t (X.setCell ⟨n + 2, 0, none⟩ (.int .u64 w')) := by
  have hk : ∀ k, k ≠ n + 2 → (X.setCell ⟨n + 2, 0, none⟩ (.int .u64 w')).heap[k]? = X.heap[k]? := fun k hk => Below.heap_setCell _ _ _ _ (fun e => hk e)
  refine ⟨hH h.hp (fun k hf => hk k (fun e => h.off.2.2 (e ▸ hf))), (hk _ (by omega)).trans h.bx, (hk _ (by omega)).trans h.rs, (heap_setAt h.gt).trans rfl, fun k hf => ?_, h.off, ?_, h.nn⟩
  · have := h.lo k hf; simp [World.setCell]; exact this
  · exact Step.own (by have := h.nn; omega) h.st
theorem Doi.text (h : Doi W f0 H n x D f w t X) (hH : ∀ {A B : World}, H A D f → (∀ k, f k → B.heap[k]? = A.heap[k]?) → H B D f) (t' : ByteArray) : Doi W f0 H n x D f w t' (X.setCell ⟨n + 2, 1, none⟩ (.string t')) := by
  have hk : ∀ k, k ≠ n + 2 → (X.setCell ⟨n + 2, 1, none⟩ (.string t')).heap[k]? = X.heap[k]? := fun k hk => Below.heap_setCell _ _ _ _ (fun e => hk e)
  refine ⟨hH h.hp (fun k hf => hk k (fun e => h.off.2.2 (e ▸ hf))), (hk _ (by omega)).trans h.bx, (hk _ (by omega)).trans h.rs, (heap_setAt h.gt).trans rfl, fun k hf => ?_, h.off, ?_, h.nn⟩
  · have := h.lo k hf; simp [World.setCell]; exact this
  · exact Step.own (by have := h.nn; omega) h.st
/-- The answer goes to the result's own place. -/
theorem Doi.done (h : Doi W f0 H n x D f w t X) (hH : ∀ {A B : World}, H A D f → (∀ k, f k → B.heap[k]? = A.heap[k]?) → H B D f) (u u' : Value) :
    H ((X.setCell ⟨n + 1, 0, none⟩ u).setCell ⟨n + 1, 1, none⟩ u') D f ∧ Step f0 f W ((X.setCell ⟨n + 1, 0, none⟩ u).setCell ⟨n + 1, 1, none⟩ u') := by
  refine ⟨hH h.hp (fun k hf => ?_), ?_⟩
  · have hk : k ≠ n + 1 := fun e => h.off.2.1 (e ▸ hf)
    rw [Below.heap_setCell _ _ _ _ (fun e => hk e), Below.heap_setCell _ _ _ _ (fun e => hk e)]
  · exact Step.own (by have := h.nn; omega) (Step.own (by have := h.nn; omega) h.st)
theorem Doi.start (h : H W D f) (hl : ∀ k, f k → k < W.heap.size) (hH : ∀ {A B : World}, H A D f → Below A.heap.size A B → H B D f) :
    Doi W f H W.heap.size x D f 0 ⟨#[]⟩ (((W.alloc (.cells (actCells x) 59)).alloc (.cells (gotCells 0 ⟨#[]⟩) 63)).alloc (.cells (gotCells 0 ⟨#[]⟩) 63)) := by
  have b1 := below_alloc W (.cells (actCells x) 59)
  have b2 := below_alloc (W.alloc (.cells (actCells x) 59)) (.cells (gotCells 0 ⟨#[]⟩) 63)
  have b3 := below_alloc ((W.alloc (.cells (actCells x) 59)).alloc (.cells (gotCells 0 ⟨#[]⟩) 63)) (.cells (gotCells 0 ⟨#[]⟩) 63)
  have h1 := World.alloc_heap_new W (.cells (actCells x) 59)
  have h2 := World.alloc_heap_new (W.alloc (.cells (actCells x) 59)) (.cells (gotCells 0 ⟨#[]⟩) 63)
  have h3 := World.alloc_heap_new ((W.alloc (.cells (actCells x) 59)).alloc (.cells (gotCells 0 ⟨#[]⟩) 63)) (.cells (gotCells 0 ⟨#[]⟩) 63)
  have z1 : (W.alloc (.cells (actCells x) 59)).heap.size = W.heap.size + 1 := by simp
  have z2 : ((W.alloc (.cells (actCells x) 59)).alloc (.cells (gotCells 0 ⟨#[]⟩) 63)).heap.size = W.heap.size + 2 := by simp
  rw [z1] at h2 b2
  rw [z2] at h3 b3
  have b12 := b1.trans (b2.mono (by omega))
  have b123 := b12.trans (b3.mono (by omega))
  refine ⟨hH h b123, ?_, ?_, h3, fun k hk => by have := hl k hk; simp; omega, ⟨fun hf => ?_, fun hf => ?_, fun hf => ?_⟩, Step.of_below b123, rfl⟩
  · rw [b3.block _ (by omega), b2.block _ (by omega)]; exact h1
  · rw [b3.block _ (by omega)]; exact h2
  · have := hl _ hf; omega
  · have := hl _ hf; omega
  · have := hl _ hf; omega
end

end Go.Proofs.Ytpnfbabiibopnaa

/-! Do, on a heap, at every act. -/
namespace Go.Proofs.Ytpnfbabiibopnaa
open Go Go.RowKit
attribute [local go_sem ↓] Go.wp_at_zero Go.wp_at_succ

theorem right_kind {x : ActD} (h : rightA x = true) : x.kind = 0 ∨ x.kind = 1 ∨ x.kind = 2 ∨ x.kind = 3 ∨ x.kind = 4 ∨ x.kind = 5 ∨ x.kind = 6 ∨ x.kind = 7 ∨ x.kind = 8 ∨ x.kind = 9 ∨ x.kind = 10 := by
  by_cases hk : x.kind = 0 ∨ x.kind = 1 ∨ x.kind = 2 ∨ x.kind = 3 ∨ x.kind = 4 ∨ x.kind = 5 ∨ x.kind = 6 ∨ x.kind = 7 ∨ x.kind = 8 ∨ x.kind = 9 ∨ x.kind = 10
  · exact hk
  · exfalso
    have hr : restA x = x := by
      unfold restA
      rw [if_neg (by omega), if_neg (by omega), if_neg (by omega), if_neg (by omega), if_neg (by omega), if_neg (by omega)]
    have hz : zeroA x = false := by
      unfold zeroA
      have : (x.kind == 0) = false := by rw [beq_eq_false_iff_ne]; omega
      rw [this]; rfl
    unfold rightA at h
    rw [hr, hz] at h
    simp at h

/-- The heap lies at p still, whatever else turns. -/
abbrev HpH (B p : Nat) : World → HpD → (Nat → Prop) → Prop := fun X D f => Hp X B p D f

/-- An act of one kind, done. -/
def DoneAt (B p : Nat) (D : HpD) (f : Nat → Prop) (W : World) (x : ActD) : Prop :=
  Calls Try.prog 21 #[.pointer (some ⟨p, 0, none⟩), actV x.kind x.block x.cell x.old x.new x.text] W (HpR B p f W (gotV (actW D x) (actT D x)) (actN D x))
section
variable {B p : Nat} {D : HpD} {f : Nat → Prop} {W : World}

set_option maxRecDepth 100000 in
set_option maxHeartbeats 4000000 in
theorem do_0 (h : Hp W B p D f) (hf : D.faults < 1000000) (hl : D.L.length < 1000000) (b : Nat) (c o n : Int) (t : ByteArray) (hx2 : b < 18446744073709551616) (hx6 : t.size ≤ 281474976710656) (hr : rightA ⟨0, b, c, o, n, t⟩ = true) : DoneAt B p D f W ⟨0, b, c, o, n, t⟩ := by
  have HS := Lib.hid (Doi.start (x := ⟨0, b, c, o, n, t⟩) (H := HpH B p) h h.lt (fun hA hb => Hp.below hA hb))
  have HR := Lib.hid (fun X => right_any 0 b c o n t X)
  rw [hr] at HR
  have HF := Lib.hid (And.intro hf (And.intro hl (And.intro hx2 hx6)))
  unfold DoneAt
  clear h hf hl hx2 hx6 hr
  go_enter Try.func21, Try.ntmps21
  go_wp2_with fail
  refine (HR.out _).mono ?_
  rintro en w1 ⟨rfl, hb⟩
  have H1 := Lib.hid (HS.out.below (fun hA hb => Hp.below hA hb) hb)
  clear hb
  obtain ⟨k0, -, -, -, -, -, r0, r1, rf0, rf1, g0, g1, gf0, gf1⟩ := H1.out.cells
  simp only at k0
  go_wp2_with fail
  refine bodyPost_ret (v := gotV 0 ⟨#[]⟩) (by rw [results_cell1 (by rfl)]; go_simp) rfl ?_
  have H3 := H1.out.done (fun hA hs => Hp.stays hA hs)
  exact ⟨f, rfl, (H3 _ _).1, (H3 _ _).2⟩

set_option maxRecDepth 100000 in
set_option maxHeartbeats 4000000 in
theorem do_1 (h : Hp W B p D f) (hf : D.faults < 1000000) (hl : D.L.length < 1000000) (b : Nat) (c o n : Int) (t : ByteArray) (hx2 : b < 18446744073709551616) (hx6 : t.size ≤ 281474976710656) (hr : rightA ⟨1, b, c, o, n, t⟩ = true) : DoneAt B p D f W ⟨1, b, c, o, n, t⟩ := by
  have HS := Lib.hid (Doi.start (x := ⟨1, b, c, o, n, t⟩) (H := HpH B p) h h.lt (fun hA hb => Hp.below hA hb))
  have HR := Lib.hid (fun X => right_any 1 b c o n t X)
  rw [hr] at HR
  have HF := Lib.hid (And.intro hf (And.intro hl (And.intro hx2 hx6)))
  unfold DoneAt
  clear h hf hl hx2 hx6 hr
  go_enter Try.func21, Try.ntmps21
  go_wp2_with fail
  refine (HR.out _).mono ?_
  rintro en w1 ⟨rfl, hb⟩
  have H1 := Lib.hid (HS.out.below (fun hA hb => Hp.below hA hb) hb)
  clear hb
  obtain ⟨k0, k1, k2, k3, k4, k5, -, -, -, -, -, -, -, -⟩ := H1.out.cells
  simp only at k0 k1 k2 k3 k4 k5
  go_wp2_with fail
  refine (load_any _ H1.out.hp HF.out.1 b HF.out.2.2.1 c).mono ?_
  rintro en w2 ⟨f1, rfl, h1, s1⟩
  have H2 := Lib.hid (H1.out.turn h1 s1 h1.lt)
  clear h1 s1 k0 k1 k2 k3 k4 k5
  obtain ⟨-, -, -, -, -, -, r0, r1, rf0, rf1, g0, g1, gf0, gf1⟩ := H2.out.cells
  go_wp2_with fail
  refine bodyPost_ret (v := gotV (loadV D b c) ⟨#[]⟩) (by rw [results_cell1 (by rfl)]; go_simp) rfl ?_
  have H3 := (H2.out.word (fun hA hs => Hp.stays hA hs) (loadV D b c)).done (fun hA hs => Hp.stays hA hs)
  exact ⟨f1, rfl, (H3 _ _).1, (H3 _ _).2⟩

set_option maxRecDepth 100000 in
set_option maxHeartbeats 4000000 in
theorem do_2 (h : Hp W B p D f) (hf : D.faults < 1000000) (hl : D.L.length < 1000000) (b : Nat) (c o n : Int) (t : ByteArray) (hx2 : b < 18446744073709551616) (hx6 : t.size ≤ 281474976710656) (hr : rightA ⟨2, b, c, o, n, t⟩ = true) : DoneAt B p D f W ⟨2, b, c, o, n, t⟩ := by
  have HS := Lib.hid (Doi.start (x := ⟨2, b, c, o, n, t⟩) (H := HpH B p) h h.lt (fun hA hb => Hp.below hA hb))
  have HR := Lib.hid (fun X => right_any 2 b c o n t X)
  rw [hr] at HR
  have HF := Lib.hid (And.intro hf (And.intro hl (And.intro hx2 hx6)))
  unfold DoneAt
  clear h hf hl hx2 hx6 hr
  go_enter Try.func21, Try.ntmps21
  go_wp2_with fail
  refine (HR.out _).mono ?_
  rintro en w1 ⟨rfl, hb⟩
  have H1 := Lib.hid (HS.out.below (fun hA hb => Hp.below hA hb) hb)
  clear hb
  obtain ⟨k0, k1, k2, k3, k4, k5, -, -, -, -, -, -, -, -⟩ := H1.out.cells
  simp only at k0 k1 k2 k3 k4 k5
  go_wp2_with fail
  refine (store_any _ H1.out.hp HF.out.1 b HF.out.2.2.1 c n).mono ?_
  rintro en w2 ⟨f1, rfl, h1, s1⟩
  have H2 := Lib.hid (H1.out.turn h1 s1 h1.lt)
  clear h1 s1 k0 k1 k2 k3 k4 k5
  obtain ⟨-, -, -, -, -, -, r0, r1, rf0, rf1, g0, g1, gf0, gf1⟩ := H2.out.cells
  go_wp2_with fail
  refine bodyPost_ret (v := gotV 0 ⟨#[]⟩) (by rw [results_cell1 (by rfl)]; go_simp) rfl ?_
  have H3 := H2.out.done (fun hA hs => Hp.stays hA hs)
  exact ⟨f1, rfl, (H3 _ _).1, (H3 _ _).2⟩

set_option maxRecDepth 100000 in
set_option maxHeartbeats 4000000 in
theorem do_3 (h : Hp W B p D f) (hf : D.faults < 1000000) (hl : D.L.length < 1000000) (b : Nat) (c o n : Int) (t : ByteArray) (hx2 : b < 18446744073709551616) (hx6 : t.size ≤ 281474976710656) (hr : rightA ⟨3, b, c, o, n, t⟩ = true) : DoneAt B p D f W ⟨3, b, c, o, n, t⟩ := by
  have HS := Lib.hid (Doi.start (x := ⟨3, b, c, o, n, t⟩) (H := HpH B p) h h.lt (fun hA hb => Hp.below hA hb))
  have HR := Lib.hid (fun X => right_any 3 b c o n t X)
  rw [hr] at HR
  have HF := Lib.hid (And.intro hf (And.intro hl (And.intro hx2 hx6)))
  unfold DoneAt
  clear h hf hl hx2 hx6 hr
  go_enter Try.func21, Try.ntmps21
  go_wp2_with fail
  refine (HR.out _).mono ?_
  rintro en w1 ⟨rfl, hb⟩
  have H1 := Lib.hid (HS.out.below (fun hA hb => Hp.below hA hb) hb)
  clear hb
  obtain ⟨k0, k1, k2, k3, k4, k5, -, -, -, -, -, -, -, -⟩ := H1.out.cells
  simp only at k0 k1 k2 k3 k4 k5
  go_wp2_with fail
  refine (swap_any _ H1.out.hp HF.out.1 b HF.out.2.2.1 c o n).mono ?_
  rintro en w2 ⟨f1, rfl, h1, s1⟩
  have H2 := Lib.hid (H1.out.turn h1 s1 h1.lt)
  clear h1 s1 k0 k1 k2 k3 k4 k5
  obtain ⟨-, -, -, -, -, -, r0, r1, rf0, rf1, g0, g1, gf0, gf1⟩ := H2.out.cells
  go_wp2_with fail
  refine bodyPost_ret (v := gotV (loadV D b c) ⟨#[]⟩) (by rw [results_cell1 (by rfl)]; go_simp) rfl ?_
  have H3 := (H2.out.word (fun hA hs => Hp.stays hA hs) (loadV D b c)).done (fun hA hs => Hp.stays hA hs)
  exact ⟨f1, rfl, (H3 _ _).1, (H3 _ _).2⟩

set_option maxRecDepth 100000 in
set_option maxHeartbeats 4000000 in
theorem do_4 (h : Hp W B p D f) (hf : D.faults < 1000000) (hl : D.L.length < 1000000) (b : Nat) (c o n : Int) (t : ByteArray) (hx2 : b < 18446744073709551616) (hx6 : t.size ≤ 281474976710656) (hr : rightA ⟨4, b, c, o, n, t⟩ = true) : DoneAt B p D f W ⟨4, b, c, o, n, t⟩ := by
  have HS := Lib.hid (Doi.start (x := ⟨4, b, c, o, n, t⟩) (H := HpH B p) h h.lt (fun hA hb => Hp.below hA hb))
  have HR := Lib.hid (fun X => right_any 4 b c o n t X)
  rw [hr] at HR
  have HF := Lib.hid (And.intro hf (And.intro hl (And.intro hx2 hx6)))
  unfold DoneAt
  clear h hf hl hx2 hx6 hr
  go_enter Try.func21, Try.ntmps21
  go_wp2_with fail
  refine (HR.out _).mono ?_
  rintro en w1 ⟨rfl, hb⟩
  have H1 := Lib.hid (HS.out.below (fun hA hb => Hp.below hA hb) hb)
  clear hb
  obtain ⟨k0, k1, k2, k3, k4, k5, -, -, -, -, -, -, -, -⟩ := H1.out.cells
  simp only at k0 k1 k2 k3 k4 k5
  go_wp2_with fail
  refine (bump_any _ H1.out.hp HF.out.1 b HF.out.2.2.1 c n).mono ?_
  rintro en w2 ⟨f1, rfl, h1, s1⟩
  have H2 := Lib.hid (H1.out.turn h1 s1 h1.lt)
  clear h1 s1 k0 k1 k2 k3 k4 k5
  obtain ⟨-, -, -, -, -, -, r0, r1, rf0, rf1, g0, g1, gf0, gf1⟩ := H2.out.cells
  go_wp2_with fail
  refine bodyPost_ret (v := gotV (loadV D b c) ⟨#[]⟩) (by rw [results_cell1 (by rfl)]; go_simp) rfl ?_
  have H3 := (H2.out.word (fun hA hs => Hp.stays hA hs) (loadV D b c)).done (fun hA hs => Hp.stays hA hs)
  exact ⟨f1, rfl, (H3 _ _).1, (H3 _ _).2⟩

set_option maxRecDepth 100000 in
set_option maxHeartbeats 4000000 in
theorem do_5 (h : Hp W B p D f) (hf : D.faults < 1000000) (hl : D.L.length < 1000000) (b : Nat) (c o n : Int) (t : ByteArray) (hx2 : b < 18446744073709551616) (hx6 : t.size ≤ 281474976710656) (hr : rightA ⟨5, b, c, o, n, t⟩ = true) : DoneAt B p D f W ⟨5, b, c, o, n, t⟩ := by
  have HS := Lib.hid (Doi.start (x := ⟨5, b, c, o, n, t⟩) (H := HpH B p) h h.lt (fun hA hb => Hp.below hA hb))
  have HR := Lib.hid (fun X => right_any 5 b c o n t X)
  rw [hr] at HR
  have HF := Lib.hid (And.intro hf (And.intro hl (And.intro hx2 hx6)))
  unfold DoneAt
  clear h hf hl hx2 hx6 hr
  go_enter Try.func21, Try.ntmps21
  go_wp2_with fail
  refine (HR.out _).mono ?_
  rintro en w1 ⟨rfl, hb⟩
  have H1 := Lib.hid (HS.out.below (fun hA hb => Hp.below hA hb) hb)
  clear hb
  obtain ⟨k0, k1, k2, k3, k4, k5, -, -, -, -, -, -, -, -⟩ := H1.out.cells
  simp only at k0 k1 k2 k3 k4 k5
  go_wp2_with fail
  refine (make_all _ H1.out.hp HF.out.2.1 c t HF.out.2.2.2).mono ?_
  rintro en w2 ⟨f1, rfl, h1, s1⟩
  have H2 := Lib.hid (H1.out.turn h1 s1 h1.lt)
  clear h1 s1 k0 k1 k2 k3 k4 k5
  obtain ⟨-, -, -, -, -, -, r0, r1, rf0, rf1, g0, g1, gf0, gf1⟩ := H2.out.cells
  go_wp2_with fail
  refine bodyPost_ret (v := gotV (makeV D c) ⟨#[]⟩) (by rw [results_cell1 (by rfl)]; go_simp) rfl ?_
  have H3 := (H2.out.word (fun hA hs => Hp.stays hA hs) (makeV D c)).done (fun hA hs => Hp.stays hA hs)
  exact ⟨f1, rfl, (H3 _ _).1, (H3 _ _).2⟩

set_option maxRecDepth 100000 in
set_option maxHeartbeats 4000000 in
theorem do_6 (h : Hp W B p D f) (hf : D.faults < 1000000) (hl : D.L.length < 1000000) (b : Nat) (c o n : Int) (t : ByteArray) (hx2 : b < 18446744073709551616) (hx6 : t.size ≤ 281474976710656) (hr : rightA ⟨6, b, c, o, n, t⟩ = true) : DoneAt B p D f W ⟨6, b, c, o, n, t⟩ := by
  have HS := Lib.hid (Doi.start (x := ⟨6, b, c, o, n, t⟩) (H := HpH B p) h h.lt (fun hA hb => Hp.below hA hb))
  have HR := Lib.hid (fun X => right_any 6 b c o n t X)
  rw [hr] at HR
  have HF := Lib.hid (And.intro hf (And.intro hl (And.intro hx2 hx6)))
  unfold DoneAt
  clear h hf hl hx2 hx6 hr
  go_enter Try.func21, Try.ntmps21
  go_wp2_with fail
  refine (HR.out _).mono ?_
  rintro en w1 ⟨rfl, hb⟩
  have H1 := Lib.hid (HS.out.below (fun hA hb => Hp.below hA hb) hb)
  clear hb
  obtain ⟨k0, k1, k2, k3, k4, k5, -, -, -, -, -, -, -, -⟩ := H1.out.cells
  simp only at k0 k1 k2 k3 k4 k5
  go_wp2_with fail
  refine (words_any _ H1.out.hp HF.out.1 b HF.out.2.2.1).mono ?_
  rintro en w2 ⟨f1, rfl, h1, s1⟩
  have H2 := Lib.hid (H1.out.turn h1 s1 h1.lt)
  clear h1 s1 k0 k1 k2 k3 k4 k5
  obtain ⟨-, -, -, -, -, -, r0, r1, rf0, rf1, g0, g1, gf0, gf1⟩ := H2.out.cells
  go_wp2_with fail
  refine bodyPost_ret (v := gotV 0 (textAt D.L b)) (by rw [results_cell1 (by rfl)]; go_simp) rfl ?_
  have H3 := (H2.out.text (fun hA hs => Hp.stays hA hs) (textAt D.L b)).done (fun hA hs => Hp.stays hA hs)
  exact ⟨f1, rfl, (H3 _ _).1, (H3 _ _).2⟩

set_option maxRecDepth 100000 in
set_option maxHeartbeats 4000000 in
theorem do_7 (h : Hp W B p D f) (hf : D.faults < 1000000) (hl : D.L.length < 1000000) (b : Nat) (c o n : Int) (t : ByteArray) (hx2 : b < 18446744073709551616) (hx6 : t.size ≤ 281474976710656) (hr : rightA ⟨7, b, c, o, n, t⟩ = true) : DoneAt B p D f W ⟨7, b, c, o, n, t⟩ := by
  have HS := Lib.hid (Doi.start (x := ⟨7, b, c, o, n, t⟩) (H := HpH B p) h h.lt (fun hA hb => Hp.below hA hb))
  have HR := Lib.hid (fun X => right_any 7 b c o n t X)
  rw [hr] at HR
  have HF := Lib.hid (And.intro hf (And.intro hl (And.intro hx2 hx6)))
  unfold DoneAt
  clear h hf hl hx2 hx6 hr
  go_enter Try.func21, Try.ntmps21
  go_wp2_with fail
  refine (HR.out _).mono ?_
  rintro en w1 ⟨rfl, hb⟩
  have H1 := Lib.hid (HS.out.below (fun hA hb => Hp.below hA hb) hb)
  clear hb
  obtain ⟨k0, k1, k2, k3, k4, k5, -, -, -, -, -, -, -, -⟩ := H1.out.cells
  simp only at k0 k1 k2 k3 k4 k5
  go_wp2_with fail
  refine (drop_any _ H1.out.hp HF.out.1 b HF.out.2.2.1).mono ?_
  rintro en w2 ⟨f1, rfl, h1, s1⟩
  have H2 := Lib.hid (H1.out.turn h1 s1 h1.lt)
  clear h1 s1 k0 k1 k2 k3 k4 k5
  obtain ⟨-, -, -, -, -, -, r0, r1, rf0, rf1, g0, g1, gf0, gf1⟩ := H2.out.cells
  go_wp2_with fail
  refine bodyPost_ret (v := gotV 0 ⟨#[]⟩) (by rw [results_cell1 (by rfl)]; go_simp) rfl ?_
  have H3 := H2.out.done (fun hA hs => Hp.stays hA hs)
  exact ⟨f1, rfl, (H3 _ _).1, (H3 _ _).2⟩

set_option maxRecDepth 100000 in
set_option maxHeartbeats 4000000 in
theorem do_8 (h : Hp W B p D f) (hf : D.faults < 1000000) (hl : D.L.length < 1000000) (b : Nat) (c o n : Int) (t : ByteArray) (hx2 : b < 18446744073709551616) (hx6 : t.size ≤ 281474976710656) (hr : rightA ⟨8, b, c, o, n, t⟩ = true) : DoneAt B p D f W ⟨8, b, c, o, n, t⟩ := by
  have HS := Lib.hid (Doi.start (x := ⟨8, b, c, o, n, t⟩) (H := HpH B p) h h.lt (fun hA hb => Hp.below hA hb))
  have HR := Lib.hid (fun X => right_any 8 b c o n t X)
  rw [hr] at HR
  have HF := Lib.hid (And.intro hf (And.intro hl (And.intro hx2 hx6)))
  have HL := Lib.hid (Eq.refl D.locked)
  obtain ⟨l, hlk⟩ : ∃ l, D.locked = l := ⟨_, rfl⟩
  rw [hlk] at HL
  have HV : Hid (actW D ⟨8, b, c, o, n, t⟩ = if l then 0 else 1) := Lib.hid (by unfold actW; rw [hlk]; rfl)
  unfold DoneAt
  have HLK := Lib.hid (fun X (hX : Hp X B p D f) => lock_any X hX)
  rw [hlk] at HLK
  clear h hf hl hx2 hx6 hr
  clear hlk HL
  cases l
  · go_enter Try.func21, Try.ntmps21
    go_wp2_with fail
    refine (HR.out _).mono ?_
    rintro en w1 ⟨rfl, hb⟩
    have H1 := Lib.hid (HS.out.below (fun hA hb => Hp.below hA hb) hb)
    clear hb
    obtain ⟨k0, k1, k2, k3, k4, k5, -, -, -, -, -, -, -, -⟩ := H1.out.cells
    simp only at k0 k1 k2 k3 k4 k5
    go_wp2_with fail
    refine (HLK.out _ H1.out.hp).mono ?_
    rintro en w2 ⟨f1, rfl, h1, s1⟩
    have H2 := Lib.hid (H1.out.turn h1 s1 h1.lt)
    clear h1 s1 k0 k1 k2 k3 k4 k5
    obtain ⟨-, -, -, -, -, -, r0, r1, rf0, rf1, g0, g1, gf0, gf1⟩ := H2.out.cells
    go_wp2_with fail
    refine bodyPost_ret (v := gotV 1 ⟨#[]⟩) (by rw [results_cell1 (by rfl)]; go_simp) rfl ?_
    have H3 := (H2.out.word (fun hA hs => Hp.stays hA hs) 1).done (fun hA hs => Hp.stays hA hs)
    rw [HV.out]
    exact ⟨f1, rfl, (H3 _ _).1, (H3 _ _).2⟩
  · go_enter Try.func21, Try.ntmps21
    go_wp2_with fail
    refine (HR.out _).mono ?_
    rintro en w1 ⟨rfl, hb⟩
    have H1 := Lib.hid (HS.out.below (fun hA hb => Hp.below hA hb) hb)
    clear hb
    obtain ⟨k0, k1, k2, k3, k4, k5, -, -, -, -, -, -, -, -⟩ := H1.out.cells
    simp only at k0 k1 k2 k3 k4 k5
    go_wp2_with fail
    refine (HLK.out _ H1.out.hp).mono ?_
    rintro en w2 ⟨f1, rfl, h1, s1⟩
    have H2 := Lib.hid (H1.out.turn h1 s1 h1.lt)
    clear h1 s1 k0 k1 k2 k3 k4 k5
    obtain ⟨-, -, -, -, -, -, r0, r1, rf0, rf1, g0, g1, gf0, gf1⟩ := H2.out.cells
    go_wp2_with fail
    refine bodyPost_ret (v := gotV 0 ⟨#[]⟩) (by rw [results_cell1 (by rfl)]; go_simp) rfl ?_
    have H3 := H2.out.done (fun hA hs => Hp.stays hA hs)
    rw [HV.out]
    exact ⟨f1, rfl, (H3 _ _).1, (H3 _ _).2⟩

set_option maxRecDepth 100000 in
set_option maxHeartbeats 4000000 in
theorem do_9 (h : Hp W B p D f) (hf : D.faults < 1000000) (hl : D.L.length < 1000000) (b : Nat) (c o n : Int) (t : ByteArray) (hx2 : b < 18446744073709551616) (hx6 : t.size ≤ 281474976710656) (hr : rightA ⟨9, b, c, o, n, t⟩ = true) : DoneAt B p D f W ⟨9, b, c, o, n, t⟩ := by
  have HS := Lib.hid (Doi.start (x := ⟨9, b, c, o, n, t⟩) (H := HpH B p) h h.lt (fun hA hb => Hp.below hA hb))
  have HR := Lib.hid (fun X => right_any 9 b c o n t X)
  rw [hr] at HR
  have HF := Lib.hid (And.intro hf (And.intro hl (And.intro hx2 hx6)))
  unfold DoneAt
  clear h hf hl hx2 hx6 hr
  go_enter Try.func21, Try.ntmps21
  go_wp2_with fail
  refine (HR.out _).mono ?_
  rintro en w1 ⟨rfl, hb⟩
  have H1 := Lib.hid (HS.out.below (fun hA hb => Hp.below hA hb) hb)
  clear hb
  obtain ⟨k0, k1, k2, k3, k4, k5, -, -, -, -, -, -, -, -⟩ := H1.out.cells
  simp only at k0 k1 k2 k3 k4 k5
  go_wp2_with fail
  refine (unlock_any _ H1.out.hp HF.out.1).mono ?_
  rintro en w2 ⟨f1, rfl, h1, s1⟩
  have H2 := Lib.hid (H1.out.turn h1 s1 h1.lt)
  clear h1 s1 k0 k1 k2 k3 k4 k5
  obtain ⟨-, -, -, -, -, -, r0, r1, rf0, rf1, g0, g1, gf0, gf1⟩ := H2.out.cells
  go_wp2_with fail
  refine bodyPost_ret (v := gotV 0 ⟨#[]⟩) (by rw [results_cell1 (by rfl)]; go_simp) rfl ?_
  have H3 := H2.out.done (fun hA hs => Hp.stays hA hs)
  exact ⟨f1, rfl, (H3 _ _).1, (H3 _ _).2⟩

set_option maxRecDepth 100000 in
set_option maxHeartbeats 4000000 in
theorem do_10 (h : Hp W B p D f) (hf : D.faults < 1000000) (hl : D.L.length < 1000000) (b : Nat) (c o n : Int) (t : ByteArray) (hx2 : b < 18446744073709551616) (hx6 : t.size ≤ 281474976710656) (hr : rightA ⟨10, b, c, o, n, t⟩ = true) : DoneAt B p D f W ⟨10, b, c, o, n, t⟩ := by
  have HS := Lib.hid (Doi.start (x := ⟨10, b, c, o, n, t⟩) (H := HpH B p) h h.lt (fun hA hb => Hp.below hA hb))
  have HR := Lib.hid (fun X => right_any 10 b c o n t X)
  rw [hr] at HR
  have HF := Lib.hid (And.intro hf (And.intro hl (And.intro hx2 hx6)))
  unfold DoneAt
  clear h hf hl hx2 hx6 hr
  go_enter Try.func21, Try.ntmps21
  go_wp2_with fail
  refine (HR.out _).mono ?_
  rintro en w1 ⟨rfl, hb⟩
  have H1 := Lib.hid (HS.out.below (fun hA hb => Hp.below hA hb) hb)
  clear hb
  obtain ⟨k0, k1, k2, k3, k4, k5, -, -, -, -, -, -, -, -⟩ := H1.out.cells
  simp only at k0 k1 k2 k3 k4 k5
  go_wp2_with fail
  refine (load_any _ H1.out.hp HF.out.1 b HF.out.2.2.1 c).mono ?_
  rintro en w2 ⟨f1, rfl, h1, s1⟩
  have H2 := Lib.hid (H1.out.turn h1 s1 h1.lt)
  clear h1 s1 k0 k1 k2 k3 k4 k5
  obtain ⟨-, -, -, -, -, -, r0, r1, rf0, rf1, g0, g1, gf0, gf1⟩ := H2.out.cells
  go_wp2_with fail
  refine bodyPost_ret (v := gotV (loadV D b c) ⟨#[]⟩) (by rw [results_cell1 (by rfl)]; go_simp) rfl ?_
  have H3 := (H2.out.word (fun hA hs => Hp.stays hA hs) (loadV D b c)).done (fun hA hs => Hp.stays hA hs)
  exact ⟨f1, rfl, (H3 _ _).1, (H3 _ _).2⟩

set_option maxRecDepth 100000 in
set_option maxHeartbeats 4000000 in
theorem do_any (W : World) (h : Hp W B p D f) (hf : D.faults < 1000000) (hl : D.L.length < 1000000) (x : ActD) (hx : x.fits) :
    Calls Try.prog 21 #[.pointer (some ⟨p, 0, none⟩), actV x.kind x.block x.cell x.old x.new x.text] W (HpR B p f W (gotV (doW D x) (doT D x)) (doN D x)) := by
  cases hr : rightA x with
  | true =>
    have hk := right_kind hr
    have e1 : doW D x = actW D x := by unfold doW; rw [hr]; rfl
    have e2 : doT D x = actT D x := by unfold doT; rw [hr]; rfl
    have e3 : doN D x = actN D x := by unfold doN; rw [hr]; rfl
    rw [e1, e2, e3]
    clear e1 e2 e3
    obtain ⟨k, b, c, o, n, t⟩ := x
    obtain ⟨-, hx2, -, -, -, hx6⟩ := hx
    simp only at hk hx2 hx6
    rcases hk with rfl | rfl | rfl | rfl | rfl | rfl | rfl | rfl | rfl | rfl | rfl
    · exact do_0 h hf hl b c o n t hx2 hx6 hr
    · exact do_1 h hf hl b c o n t hx2 hx6 hr
    · exact do_2 h hf hl b c o n t hx2 hx6 hr
    · exact do_3 h hf hl b c o n t hx2 hx6 hr
    · exact do_4 h hf hl b c o n t hx2 hx6 hr
    · exact do_5 h hf hl b c o n t hx2 hx6 hr
    · exact do_6 h hf hl b c o n t hx2 hx6 hr
    · exact do_7 h hf hl b c o n t hx2 hx6 hr
    · exact do_8 h hf hl b c o n t hx2 hx6 hr
    · exact do_9 h hf hl b c o n t hx2 hx6 hr
    · exact do_10 h hf hl b c o n t hx2 hx6 hr
  | false =>
    have HS := Lib.hid (Doi.start (x := x) (H := HpH B p) h h.lt (fun hA hb => Hp.below hA hb))
    have HR := Lib.hid (fun X => right_any x.kind x.block x.cell x.old x.new x.text X)
    rw [hr] at HR
    have e1 : doW D x = 0 := by unfold doW; rw [hr]; rfl
    have e2 : doT D x = ⟨#[]⟩ := by unfold doT; rw [hr]; rfl
    have e3 : doN D x = D := by unfold doN; rw [hr]; rfl
    rw [e1, e2, e3]
    obtain ⟨k, b, c, o, n, t⟩ := x
    simp only at HS HR ⊢
    clear h hf hl hr hx e1 e2 e3
    go_enter Try.func21, Try.ntmps21
    go_wp2_with fail
    refine (HR.out _).mono ?_
    rintro en w1 ⟨rfl, hb⟩
    have H1 := Lib.hid (HS.out.below (fun hA hb => Hp.below hA hb) hb)
    clear hb
    obtain ⟨-, -, -, -, -, -, r0, r1, rf0, rf1, g0, g1, gf0, gf1⟩ := H1.out.cells
    go_wp2_with fail
    refine bodyPost_ret (v := gotV 0 ⟨#[]⟩) (by rw [results_cell1 (by rfl)]; go_simp) rfl ?_
    have H3 := H1.out.done (fun hA hs => Hp.stays hA hs)
    exact ⟨f, rfl, (H3 _ _).1, (H3 _ _).2⟩
end

end Go.Proofs.Ytpnfbabiibopnaa
