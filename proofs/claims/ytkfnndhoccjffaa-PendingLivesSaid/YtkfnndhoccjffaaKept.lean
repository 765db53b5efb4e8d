/-
  pending's cut and copied: an entry with lists of its own.
-/
import Derived.Test.YtkfnndhoccjffaaEnt
namespace Go.Proofs.Ytkfnndhoccjffaa
open Go Go.RowKit
attribute [local go_sem ↓] Go.wp_at_zero Go.wp_at_succ

theorem cut_g (p : Option Addr) (n c : Nat) (W : World) (h1 : n ≤ c) : Calls Try.prog 31 #[.slice p n c] W fun e W' => e = .returned (.slice p n n) ∧ W = W' := by
  have z1 : (n : Int) ≤ (c : Int) := by omega
  go_enter Try.func31, Try.ntmps31
  go_wp2
  go_ret
  exact ⟨rfl, rfl⟩
theorem cut_s (p : Option Addr) (n c : Nat) (W : World) (h1 : n ≤ c) : Calls Try.prog 32 #[.slice p n c] W fun e W' => e = .returned (.slice p n n) ∧ W = W' := by
  have z1 : (n : Int) ≤ (c : Int) := by omega
  go_enter Try.func32, Try.ntmps32
  go_wp2
  go_ret
  exact ⟨rfl, rfl⟩
theorem cut_e (p : Option Addr) (n c : Nat) (W : World) (h1 : n ≤ c) : Calls Try.prog 27 #[.slice p n c] W fun e W' => e = .returned (.slice p n n) ∧ W = W' := by
  have z1 : (n : Int) ≤ (c : Int) := by omega
  go_enter Try.func27, Try.ntmps27
  go_wp2
  go_ret
  exact ⟨rfl, rfl⟩

theorem Lot.cut {W : World} {e : TypeId} {size n c : Nat} {p : Option Addr} {xs : List Value} (h : Lot W e size (.slice p n c) n xs) : Lot W e size (.slice p n n) n xs := by
  refine ⟨h.1, ?_⟩
  rcases h.2 with ⟨hv, h0⟩ | ⟨g, cap, cur, hv, hg, h1, h2, h3, h4⟩
  · simp only [Value.slice.injEq] at hv
    obtain ⟨rfl, rfl, rfl⟩ := hv
    exact .inl ⟨rfl, rfl⟩
  · simp only [Value.slice.injEq] at hv
    obtain ⟨rfl, _, rfl⟩ := hv
    exact .inr ⟨g, n, cur, rfl, hg, Nat.le_refl _, Nat.le_trans h1 h2, Nat.le_trans (Nat.mul_le_mul_right _ h1) h3, h4⟩
theorem Lot.room {W : World} {e : TypeId} {size n c : Nat} {p : Option Addr} {xs : List Value} (h : Lot W e size (.slice p n c) n xs) : n ≤ c ∧ c ≤ maxLen := by
  rcases h.2 with ⟨hv, h0⟩ | ⟨g, cap, cur, hv, hg, h1, h2, h3, h4⟩
  · simp only [Value.slice.injEq] at hv
    obtain ⟨rfl, rfl, rfl⟩ := hv
    exact ⟨Nat.le_refl _, Nat.zero_le _⟩
  · simp only [Value.slice.injEq] at hv
    obtain ⟨rfl, _, rfl⟩ := hv
    exact ⟨h1, h2⟩
theorem own_cut {p : Option Addr} {n c c' : Nat} : (Value.slice p n c).ownBlock = (Value.slice p n c').ownBlock := by cases p <;> rfl

theorem results_one {fn : Func} {p : Tmp} {ty : TypeId} (h : fn.results = #[.cell p ty]) (tmps : Array Value) (P : Program) (w : World) :
    (results fn tmps).run P w = ((asAddr (tmps.getD p undef)).run P w).andThen fun a w₁ => (loadVar ty a).run P w₁ := by
  simp [results, h]

/-- What copied leaves. -/
def CopiedE (e : ED) (W : World) (en : Ending) (W' : World) : Prop := ∃ v', en = .returned (EV.val v') ∧ EntO W' W.heap.size v' e ∧ Below W.heap.size W W'

set_option maxHeartbeats 2000000 in
theorem copied_any (v : EV) (e : ED) (W : World) (h : Ent W v e) (h1 : v.ng ≤ 1000) (h2 : v.ns ≤ 1000) : Calls Try.prog 26 #[v.val] W (CopiedE e W) := by
  obtain ⟨⟨o, i⟩, pg, ng, cg, ps, ns, cs⟩ := v
  obtain ⟨hid, hG, hS, hng, hns⟩ := h
  simp only at hid hG hS hng hns h1 h2
  obtain ⟨i0, gi, gz0, gz1, gz2⟩ := info_parts info_guard
  obtain ⟨j0, si, sz0, sz1, sz2⟩ := info_parts info_step
  have HG := Lib.hid (fun X (hX : Below W.heap.size W X) => (hG.grow hX).flat)
  have HS := Lib.hid (fun X (hX : Below W.heap.size W X) => (hS.grow hX).flat)
  have lG : (flatG e.g).length = ng * 3 := by rw [flatG_len, hng]
  have lS : (flatS e.s).length = ns * 5 := by rw [flatS_len, hns]
  have HI := Lib.hid hid
  have HNG := Lib.hid hng
  have HNS := Lib.hid hns
  clear hG hS hid hng hns
  have hmx : 1000 ≤ maxLen := by unfold maxLen; omega
  have hb1 := below_alloc W (.cells #[.int .i64 o, .int .i64 i, .slice pg ng cg, .slice ps ns cs] 40)
  have hb2 := hb1.alloc (by simp) (.cells #[.int .i64 0, .int .i64 0, .slice none 0 0, .slice none 0 0] 40)
  have hz : ((W.alloc (.cells #[.int .i64 o, .int .i64 i, .slice pg ng cg, .slice ps ns cs] 40)).alloc (.cells #[.int .i64 0, .int .i64 0, .slice none 0 0, .slice none 0 0] 40)).heap.size = W.heap.size + 2 := by simp
  have k1 : ((W.alloc (.cells #[.int .i64 o, .int .i64 i, .slice pg ng cg, .slice ps ns cs] 40)).alloc (.cells #[.int .i64 0, .int .i64 0, .slice none 0 0, .slice none 0 0] 40)).heap[W.heap.size]? = some (.cells #[.int .i64 o, .int .i64 i, .slice pg ng cg, .slice ps ns cs] 40 (0, 0)) :=
    (Below.heap_alloc _ _ _ (by simp)).trans (World.alloc_heap_new W _)
  have k2 : ((W.alloc (.cells #[.int .i64 o, .int .i64 i, .slice pg ng cg, .slice ps ns cs] 40)).alloc (.cells #[.int .i64 0, .int .i64 0, .slice none 0 0, .slice none 0 0] 40)).heap[W.heap.size + 1]? = some (.cells #[.int .i64 0, .int .i64 0, .slice none 0 0, .slice none 0 0] 40 (0, 0)) := by
    have h1 := World.alloc_heap_new (W.alloc (.cells #[.int .i64 o, .int .i64 i, .slice pg ng cg, .slice ps ns cs] 40)) (.cells #[.int .i64 0, .int .i64 0, .slice none 0 0, .slice none 0 0] 40)
    rwa [World.size_alloc] at h1
  obtain ⟨W2, hW2⟩ : ∃ W2, ((W.alloc (.cells #[.int .i64 o, .int .i64 i, .slice pg ng cg, .slice ps ns cs] 40)).alloc (.cells #[.int .i64 0, .int .i64 0, .slice none 0 0, .slice none 0 0] 40)) = W2 := ⟨_, rfl⟩
  rw [hW2] at hb2 hz k1 k2
  have HB2 := Lib.hid hb2
  have HF := Lib.hid (show ∀ X, Below W2.heap.size W2 X → X.cell? ⟨W.heap.size, 0, none⟩ = some (.int .i64 o) ∧ X.cell? ⟨W.heap.size, 1, none⟩ = some (.int .i64 i) ∧ X.cell? ⟨W.heap.size, 2, none⟩ = some (.slice pg ng cg) ∧ X.cell? ⟨W.heap.size, 3, none⟩ = some (.slice ps ns cs) ∧ X.frozen? ⟨W.heap.size, 2, none⟩ = false ∧ X.frozen? ⟨W.heap.size, 3, none⟩ = false from fun X hX => by
    have e1 := (hX.block W.heap.size (by omega)).trans k1
    exact ⟨(cell_of e1).trans rfl, (cell_of e1).trans rfl, (cell_of e1).trans rfl, (cell_of e1).trans rfl, by simp [World.frozen?, e1], by simp [World.frozen?, e1]⟩)
  have HR := Lib.hid (show ∀ X, Below W2.heap.size W2 X → X.cell? ⟨W.heap.size + 1, 0, none⟩ = some (.int .i64 0) ∧ X.cell? ⟨W.heap.size + 1, 1, none⟩ = some (.int .i64 0) ∧ X.cell? ⟨W.heap.size + 1, 2, none⟩ = some (.slice none 0 0) ∧ X.cell? ⟨W.heap.size + 1, 3, none⟩ = some (.slice none 0 0) ∧ X.frozen? ⟨W.heap.size + 1, 0, none⟩ = false ∧ X.frozen? ⟨W.heap.size + 1, 1, none⟩ = false ∧ X.frozen? ⟨W.heap.size + 1, 2, none⟩ = false ∧ X.frozen? ⟨W.heap.size + 1, 3, none⟩ = false from fun X hX => by
    have e1 := (hX.block (W.heap.size + 1) (by omega)).trans k2
    exact ⟨(cell_of e1).trans rfl, (cell_of e1).trans rfl, (cell_of e1).trans rfl, (cell_of e1).trans rfl, by simp [World.frozen?, e1], by simp [World.frozen?, e1], by simp [World.frozen?, e1], by simp [World.frozen?, e1]⟩)
  obtain ⟨c0, c1, c2, c3, f2, f3⟩ := HF.out _ (Below.refl _ _)
  clear hb1 hb2 k1 k2
  go_enter Try.func26, Try.ntmps26
  go_wp2_with fail
  clear hW2
  go_region_law (first
    | (refine step_append_fresh _ (by rfl) _ _ 35 (by rfl) 57 i0 _ 3 40 Try.underlying35 gi gz0 gz1 gz2 rfl (by rfl) pg ng cg (flatG e.g) (by rfl) lG (by omega) (HG.out _ (HB2.out.trans ((below_drew W2).mono HB2.out.size))) oneG (by omega) (by omega) ?_; intro q1 d1 w1 hL1 hbl1 hown1 hcap1; have B1 := Lib.hid ((below_drew W2).trans hbl1); have L1 := Lib.hid hL1; have O1 := Lib.hid hown1; clear hL1 hbl1 hown1; obtain ⟨m0, m1, m2, m3, _, _⟩ := HF.out _ B1.out)
    | (refine step_append_fresh _ (by rfl) _ _ 36 (by rfl) 59 j0 _ 5 64 Try.underlying36 si sz0 sz1 sz2 rfl (by rfl) ps ns cs (flatS e.s) (by rfl) lS (by omega) (HS.out _ (HB2.out.trans (B1.out.mono HB2.out.size))) oneS (by omega) (by omega) ?_; intro q2 d2 w2 hL2 hbl2 hown2 hcap2; have B2 := Lib.hid (B1.out.trans (hbl2.mono B1.out.size)); have L2 := Lib.hid hL2; have O2 := Lib.hid hown2; have L12 := Lib.hid (L1.out.below hbl2); clear hL2 hbl2 hown2; obtain ⟨p0, p1, p2, p3, pf2, pf3⟩ := HF.out _ B2.out; obtain ⟨r0, r1, r2, r3, rf0, rf1, rf2, rf3⟩ := HR.out _ B2.out))
  all_goals
    have HFin := Lib.hid (show ∀ X, Below W.heap.size w2 X → (∀ k, W2.heap.size ≤ k → X.heap[k]? = w2.heap[k]?) → CopiedE e W (.returned (.agg #[.int .i64 o, .int .i64 i, .slice q1 ng ng, .slice q2 ns ns])) X from fun X hX hk => by
      have hs1 := B1.out.size
      have hs2 := HB2.out.size
      have a1 : ∀ k, (Value.slice q1 ng ng).ownBlock = some k → W2.heap.size ≤ k := fun k e => O1.out k (by rw [own_cut (c' := ng)]; exact e)
      have a2 : ∀ k, (Value.slice q2 ns ns).ownBlock = some k → W2.heap.size ≤ k := fun k e => Nat.le_trans hs1 (O2.out k (by rw [own_cut (c' := ns)]; exact e))
      exact ⟨⟨⟨o, i⟩, q1, ng, ng, q2, ns, ns⟩, rfl, ⟨HI.out, L12.out.cut.stays (fun k e => hk k (a1 k e)), L2.out.cut.stays (fun k e => hk k (a2 k e)), HNG.out, HNS.out, fun k e => Nat.le_trans hs2 (a1 k e), fun k e => Nat.le_trans hs2 (a2 k e)⟩, (HB2.out.trans (B2.out.mono hs2)).trans hX⟩)
    clear c0 c1 c2 c3 f2 f3 m0 m1 m2 m3 HF HR
    go_wp2_with fail
    refine (cut_g q1 ng d1 _ hcap1.1).mono ?_
    rintro en w3 ⟨rfl, rfl⟩
    go_wp2_with fail
    refine (cut_s q2 ns d2 _ hcap2.1).mono ?_
    rintro en w4 ⟨rfl, rfl⟩
    go_wp2_with fail
    refine bodyPost_ret (v := .agg #[.int .i64 o, .int .i64 i, .slice q1 ng ng, .slice q2 ns ns]) (by rw [results_one (by rfl)]; go_simp) rfl ?_
    refine HFin.out _ (((((((Below.refl _ _).setCell (by dsimp only; omega) _).setCell (by dsimp only; omega) _).setCell (by dsimp only; omega) _).setCell (by dsimp only; omega) _).setCell (by dsimp only; omega) _).setCell (by dsimp only; omega) _) (fun k hk => ?_)
    iterate 6 rw [Below.heap_setCell _ _ _ _ (by dsimp only; omega)]

end Go.Proofs.Ytkfnndhoccjffaa
