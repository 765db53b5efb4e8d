/-
  The reference's boxes: New, Push, Take.
-/
import Derived.Test.YtofkllokmecfgaaExactst
namespace Go.Proofs.Ytofkllokmecfgaa
open Go Go.RowKit
attribute [local go_sem ↓] Go.wp_at_zero Go.wp_at_succ

theorem results_cell1 {fn : Func} {p : Tmp} {ty : TypeId} (h : fn.results = #[.cell p ty]) (tmps : Array Value) (P : Program) (w : World) :
    (results fn tmps).run P w = ((asAddr (tmps.getD p undef)).run P w).andThen fun a w₁ => (loadVar ty a).run P w₁ := by
  simp [results, h]
theorem results_cell2 {fn : Func} {p q : Tmp} {ty : TypeId} (h : fn.results = #[.cell p ty, .tmp q]) (tmps : Array Value) (P : Program) (w : World) :
    (results fn tmps).run P w = ((asAddr (tmps.getD p undef)).run P w).andThen fun a w₁ => ((loadVar ty a).run P w₁).andThen fun v w₂ => .ok (.tuple #[v, tmps.getD q undef]) w₂ := by
  simp [results, h]
theorem results_cell3 {fn : Func} {p q r : Tmp} {ty : TypeId} (h : fn.results = #[.cell p ty, .tmp q, .tmp r]) (tmps : Array Value) (P : Program) (w : World) :
    (results fn tmps).run P w = ((asAddr (tmps.getD p undef)).run P w).andThen fun a w₁ => ((loadVar ty a).run P w₁).andThen fun v w₂ => .ok (.tuple #[v, tmps.getD q undef, tmps.getD r undef]) w₂ := by
  simp [results, h]

/-- What the reference's New leaves. -/
def NewF (cl : Nat) (W : World) (e : Ending) (W' : World) : Prop := e = .returned (.agg #[.int .i64 cl, .slice none 0 0, .bool false]) ∧ Below W.heap.size W W'
theorem refnew_any (m : Int) (W : World) : Calls Try.prog 8 #[.int .i64 m] W (NewF (clampD m) W) := by
  obtain ⟨cl, hcl⟩ : ∃ cl, clampD m = cl := ⟨_, rfl⟩
  have hc : max 0 (min m 64) = ((clampD m : Nat) : Int) := by unfold clampD; omega
  rw [hcl] at hc ⊢
  clear hcl
  go_enter Try.func8, Try.ntmps8
  go_wp2
  refine bodyPost_ret (v := .agg #[.int .i64 cl, .slice none 0 0, .bool false]) (by rw [results_cell1 (by rfl)]; go_simp) rfl ?_
  exact ⟨rfl, below_alloc _ _⟩

/-- An address in a block that did not lie in W. -/
def Fresh (W : World) (p : Option Addr) : Prop := ∀ a, p = some a → W.heap.size ≤ a.block
/-- What the reference's Push leaves. -/
def PushedF (most : Nat) (ov : Bool) (L : List ChD) (x : ChD) (p0 : Option Addr) (W : World) (e : Ending) (W' : World) : Prop :=
  ∃ p n c, (p = p0 ∧ pushD most ov L x = L ∨ Fresh W p) ∧ e = .returned (.tuple #[.agg #[.int .i64 most, .slice p n c, .bool (fullD most ov L)], .bool (!fullD most ov L)]) ∧ Sc W' p (pushD most ov L x) ∧ (pushD most ov L x).length = n ∧ Below W.heap.size W W'

set_option maxHeartbeats 2000000 in
theorem refpush_full (most : Nat) (p : Option Addr) (n c : Nat) (ov : Bool) (L : List ChD) (x : ChD) (W : World) (h : Sc W p L) (hn : L.length = n) (hlm : n ≤ most) (hf : fullD most ov L = true) :
    Calls Try.prog 9 #[.agg #[.int .i64 most, .slice p n c, .bool ov], .agg #[.string x.key, .bool x.has, .string x.val]] W (PushedF most ov L x p W) := by
  have HF := Lib.hid (show ∀ X, Below W.heap.size W X → PushedF most ov L x p W (.returned (.tuple #[.agg #[.int .i64 most, .slice p n c, .bool true], .bool false])) X from fun X hX => by
    have hp : pushD most ov L x = L := by unfold pushD; rw [hf]; rfl
    exact ⟨p, n, c, .inl ⟨rfl, hp⟩, by rw [hf]; rfl, by rw [hp]; exact h.grow hX, by rw [hp]; exact hn, hX⟩)
  obtain ⟨xk, xh, xv⟩ := x
  have ho : ov = true ∨ ov = false ∧ n = most := by
    unfold fullD at hf
    rcases Bool.or_eq_true_iff.1 hf with h | h
    · exact .inl h
    · cases ov
      · exact .inr ⟨rfl, by have := of_decide_eq_true h; omega⟩
      · exact .inl rfl
  have hb := ((below_alloc W (.cells #[.int .i64 most, .slice p n c, .bool true] 28)).alloc (by simp) (.cells #[.string xk, .bool xh, .string xv] 31)).alloc (by simp only [World.size_alloc]; omega) (.cells #[.int .i64 most, .slice p n c, .bool true] 28)
  have HB := Lib.hid hb
  clear h hn hf hb
  rcases ho with rfl | ⟨rfl, rfl⟩
  · go_enter Try.func9, Try.ntmps9
    go_wp2
    refine bodyPost_ret (v := .tuple #[.agg #[.int .i64 most, .slice p n c, .bool true], .bool false]) (by rw [results_cell2 (by rfl)]; go_simp) rfl ?_
    exact HF.out _ HB.out
  · go_enter Try.func9, Try.ntmps9
    go_wp2
    refine bodyPost_ret (v := .tuple #[.agg #[.int .i64 n, .slice p n c, .bool true], .bool false]) (by rw [results_cell2 (by rfl)]; go_simp) rfl ?_
    exact HF.out _ HB.out

/-- A row that the call itself lays, in a block of its own. -/
structure RowI (B : Nat) (W : World) (lv : Value) (T : List ChD) (X : World) : Prop where
  lot : Lot X 31 3 lv T.length (flatC T)
  base : ∀ k, lv.ownBlock = some k → B ≤ k
  low : Below B W X
  size : B ≤ X.heap.size
theorem RowI.start {B : Nat} {W X : World} (h : Below B W X) (hs : B ≤ X.heap.size) : RowI B W (.slice (some ⟨X.heap.size, 0, none⟩) 0 0) [] (X.alloc (.cells #[] 31)) :=
  ⟨Lot.none' X _ 3, fun k hk => by
    obtain rfl : X.heap.size = k := by simpa [Value.ownBlock] using hk
    exact hs, h.alloc hs _, by rw [World.size_alloc]; omega⟩
theorem RowI.below {B : Nat} {W X Y : World} {lv : Value} {T : List ChD} (h : RowI B W lv T X) (hb : Below X.heap.size X Y) : RowI B W lv T Y :=
  ⟨h.lot.below hb, h.base, h.low.trans (hb.mono h.size), Nat.le_trans h.size hb.size⟩
theorem RowI.grow {B : Nat} {W X Y : World} {lv : Value} {T S : List ChD} {g n cap : Nat} (h : RowI B W lv T X) (hn : (T ++ S).length = n) (hL : Lot Y 31 3 (.slice (some ⟨g, 0, none⟩) n cap) n (flatC T ++ flatC S)) (hg : X.grownBy Y lv.ownBlock) (hat : lv.ownBlock = some g ∨ g = X.heap.size) :
    RowI B W (.slice (some ⟨g, 0, none⟩) n cap) (T ++ S) Y := by
  subst hn
  refine ⟨by rw [flatC_append]; exact hL, fun k hk => ?_, h.low.grown hg h.size h.base, Nat.le_trans h.size hg.size⟩
  obtain rfl : g = k := by simpa [Value.ownBlock] using hk
  rcases hat with h0 | h0
  · exact h.base _ h0
  · rw [h0]; exact h.size
theorem RowI.sc {B : Nat} {W X : World} {p : Option Addr} {n c : Nat} {T : List ChD} (h : RowI B W (.slice p n c) T X) (hn : T.length = n) : Sc X p T := by
  have := h.lot; rw [hn] at this; exact this.sc hn
theorem RowI.form {B : Nat} {W X : World} {lv : Value} {T : List ChD} (h : RowI B W lv T X) : ∃ a c, lv = .slice a T.length c := h.lot.form

set_option maxRecDepth 100000 in
set_option maxHeartbeats 4000000 in
theorem refpush_room (most : Nat) (p : Option Addr) (n c : Nat) (ov : Bool) (L : List ChD) (x : ChD) (W : World) (h : Sc W p L) (hn : L.length = n) (hlm : n ≤ most) (hn2 : n ≤ 1000) (hf : fullD most ov L = false) :
    Calls Try.prog 9 #[.agg #[.int .i64 most, .slice p n c, .bool ov], .agg #[.string x.key, .bool x.has, .string x.val]] W (PushedF most ov L x p W) := by
  have hp : pushD most ov L x = L ++ [x] := by unfold pushD; rw [hf]; rfl
  have hov : ov = false ∧ n < most := by
    unfold fullD at hf
    obtain ⟨h1, h2⟩ := Bool.or_eq_false_iff.1 hf
    exact ⟨h1, by have := of_decide_eq_false h2; omega⟩
  obtain ⟨rfl, hlt⟩ := hov
  have HFin := Lib.hid (fun X q n' c' (hfr : Fresh W q) (hq : Sc X q (L ++ [x])) (hnn : (L ++ [x]).length = n') (hX : Below W.heap.size W X) => (show PushedF most false L x p W (.returned (.tuple #[.agg #[.int .i64 most, .slice q n' c', .bool false], .bool true])) X from
    ⟨q, n', c', .inr hfr, by rw [hf]; rfl, by rw [hp]; exact hq, by rw [hp]; exact hnn, hX⟩))
  have HS := Lib.hid (fun X (hX : Below W.heap.size W X) => h.grow hX)
  have HN := Lib.hid hn
  clear h hn hf hp
  obtain ⟨xk, xh, xv⟩ := x
  have hge : ¬ (most : Int) ≤ (n : Int) := by omega
  obtain ⟨W3, hW3⟩ : ∃ X, ((W.alloc (.cells #[.int .i64 most, .slice p n c, .bool false] 28)).alloc (.cells #[.string xk, .bool xh, .string xv] 31)).alloc (.cells #[.int .i64 0, .slice none 0 0, .bool false] 28) = X := ⟨_, rfl⟩
  have hz3 : W3.heap.size = W.heap.size + 1 + 1 + 1 := by rw [← hW3]; simp
  have hb : Below W.heap.size W W3 := by rw [← hW3]; exact ((below_alloc W _).alloc (by simp) _).alloc (by simp only [World.size_alloc]; omega) _
  have k1 : W3.heap[W.heap.size]? = some (.cells #[.int .i64 most, .slice p n c, .bool false] 28 (0, 0)) := by
    rw [← hW3]; exact (Below.heap_alloc _ _ _ (by simp only [World.size_alloc]; omega)).trans ((Below.heap_alloc _ _ _ (by simp)).trans (World.alloc_heap_new W _))
  have k2 : W3.heap[W.heap.size + 1]? = some (.cells #[.string xk, .bool xh, .string xv] 31 (0, 0)) := by
    rw [← hW3]
    refine (Below.heap_alloc _ _ _ (by simp only [World.size_alloc]; omega)).trans ?_
    have h1 := World.alloc_heap_new (W.alloc (.cells #[.int .i64 most, .slice p n c, .bool false] 28)) (.cells #[.string xk, .bool xh, .string xv] 31)
    rwa [World.size_alloc] at h1
  have k3 : W3.heap[W.heap.size + 1 + 1]? = some (.cells #[.int .i64 0, .slice none 0 0, .bool false] 28 (0, 0)) := by
    rw [← hW3]
    have h1 := World.alloc_heap_new ((W.alloc (.cells #[.int .i64 most, .slice p n c, .bool false] 28)).alloc (.cells #[.string xk, .bool xh, .string xv] 31)) (.cells #[.int .i64 0, .slice none 0 0, .bool false] 28)
    rwa [World.size_alloc, World.size_alloc] at h1
  have HX := Lib.hid (show ∀ X, Below W3.heap.size W3 X → X.cell? ⟨W.heap.size, 0, none⟩ = some (.int .i64 most) ∧ X.cell? ⟨W.heap.size, 1, none⟩ = some (.slice p n c) ∧ X.cell? ⟨W.heap.size, 2, none⟩ = some (.bool false) ∧ X.frozen? ⟨W.heap.size, 1, none⟩ = false from fun X hX => by
    have e1 := (hX.block W.heap.size (by omega)).trans k1
    exact ⟨(cell_of e1).trans rfl, (cell_of e1).trans rfl, (cell_of e1).trans rfl, by simp [World.frozen?, e1]⟩)
  have HX2 := Lib.hid (show ∀ X, Below W3.heap.size W3 X → X.cell? ⟨W.heap.size + 1, 0, none⟩ = some (.string xk) ∧ X.cell? ⟨W.heap.size + 1, 1, none⟩ = some (.bool xh) ∧ X.cell? ⟨W.heap.size + 1, 2, none⟩ = some (.string xv) from fun X hX => by
    have e1 := (hX.block (W.heap.size + 1) (by omega)).trans k2
    exact ⟨(cell_of e1).trans rfl, (cell_of e1).trans rfl, (cell_of e1).trans rfl⟩)
  have HX3 := Lib.hid (show ∀ X, Below W3.heap.size W3 X → X.cell? ⟨W.heap.size + 1 + 1, 0, none⟩ = some (.int .i64 0) ∧ X.cell? ⟨W.heap.size + 1 + 1, 1, none⟩ = some (.slice none 0 0) ∧ X.cell? ⟨W.heap.size + 1 + 1, 2, none⟩ = some (.bool false) ∧ X.frozen? ⟨W.heap.size + 1 + 1, 0, none⟩ = false ∧ X.frozen? ⟨W.heap.size + 1 + 1, 1, none⟩ = false ∧ X.frozen? ⟨W.heap.size + 1 + 1, 2, none⟩ = false from fun X hX => by
    have e1 := (hX.block (W.heap.size + 1 + 1) (by omega)).trans k3
    exact ⟨(cell_of e1).trans rfl, (cell_of e1).trans rfl, (cell_of e1).trans rfl, by simp [World.frozen?, e1], by simp [World.frozen?, e1], by simp [World.frozen?, e1]⟩)
  have HB := Lib.hid hb
  have HZ3 := Lib.hid hz3
  have H0 := Lib.hid (show RowI (W.heap.size + 1 + 1 + 1) W3 (.slice (some ⟨W3.heap.size, 0, none⟩) 0 0) [] (W3.alloc (.cells #[] 31)) from by
    have := RowI.start (Below.refl W3.heap.size W3) (Nat.le_refl _)
    rw [hz3] at this ⊢
    exact this)
  obtain ⟨q0, q1, q2, q3⟩ := HX.out _ (Below.refl _ _)
  obtain ⟨i0, gi, gz0, gz1, gz2⟩ := info_parts info_change
  clear hb k1 k2 k3 hz3
  go_enter Try.func9, Try.ntmps9
  go_wp2
  clear q0 q1 q2 q3
  go_loopw [6, 7] (fun lv i wr => ∃ k : Nat, i = .int .i64 k ∧ k ≤ n ∧ Hid (RowI (W.heap.size + 1 + 1 + 1) W3 lv (L.take k) wr)) (fun _ i _ => n - (intOf i).toNat)
  case atStart => exact ⟨0, rfl, Nat.zero_le _, by rw [List.take_zero]; exact H0⟩
  case round =>
    clear H0 hW3
    obtain ⟨k, rfl, hkn, hI⟩ := hrel
    have hlow : Below W3.heap.size W3 wr := by rw [HZ3.out]; exact hI.out.low
    have HLow := Lib.hid hlow
    obtain ⟨q0, q1, q2, q3⟩ := HX.out _ hlow
    obtain ⟨la, lc, rfl⟩ := hI.out.form
    have hlk : (L.take k).length = k := by rw [List.length_take, HN.out]; omega
    have HLk := Lib.hid hlk
    have HI := Lib.hid (show RowI (W.heap.size + 1 + 1 + 1) W3 (.slice la k lc) (L.take k) wr from by have := hI.out; rw [hlk] at this; exact this)
    rw [hlk]
    clear hI hlow hlk
    by_cases hlt : k < n
    · have hkL : k < L.length := by rw [HN.out]; exact hlt
      have hltz : (k : Int) < (n : Int) := by omega
      have h0 : (0 : Int) ≤ (k : Int) := by omega
      obtain ⟨b, o, rfl, c1, c2, c3⟩ := HS.out _ (HB.out.trans (HLow.out.mono HB.out.size)) k hkL
      obtain ⟨⟨yk, yh, yv⟩, hy⟩ : ∃ y, L[k] = y := ⟨_, rfl⟩
      rw [hy] at c1 c2 c3
      simp only at c1 c2 c3
      have hsn := Lib.hid (show L.take (k + 1) = L.take k ++ [⟨yk, yh, yv⟩] from by rw [List.take_succ_eq_append_getElem hkL, hy])
      have HI2 := Lib.hid (HI.out.below (below_alloc wr (.cells #[.string yk, .bool yh, .string yv] 31)))
      have HL2 := Lib.hid (show Lot (wr.alloc (.cells #[.string yk, .bool yh, .string yv] 31)) 31 3 (.slice la k lc) k (flatC (L.take k)) from by have := HI2.out.lot; rwa [HLk.out] at this)
      have hnn := Lib.hid (show (L.take k ++ [(⟨yk, yh, yv⟩ : ChD)]).length = k + 1 from by rw [List.length_append, HLk.out]; rfl)
      have hmx : k + 1 ≤ maxLen := by unfold maxLen; omega
      have hmb : (k + 1) * 40 ≤ 140737488355328 := by omega
      clear hy hkL
      go_wp2_with (at_builtin; refine wpList_append_lot _ rfl _ _ 26 rfl 31 i0 _ 3 40 Try.underlying26 gi gz0 gz1 gz2 rfl (.slice la k lc) k (flatC (L.take k)) rfl HL2.out ⟨wr.heap.size, 0, none⟩ 1 1 [.string yk, .bool yh, .string yv] rfl rfl (change_news wr yk yh yv 31) (change_one yk yh yv) (by omega) hmx hmb _ rfl ?_; intro g cap w4 hL4 hg4 hat4; have HI4 := Lib.hid (HI2.out.grow (S := [⟨yk, yh, yv⟩]) (n := k + 1) hnn.out hL4 hg4 hat4); clear hL4 hg4 hat4)
      go_roundw
      case rel => exact ⟨k + 1, by go_num, by omega, by rw [hsn.out]; exact HI4⟩
      case measure => simp [intOf]; omega
    · obtain rfl : n = k := by omega
      obtain ⟨x0, x1, x2⟩ := HX2.out _ HLow.out
      have ht : L.take n = L := List.take_of_length_le (by rw [HN.out]; exact Nat.le_refl _)
      have HI2 := Lib.hid (HI.out.below (below_alloc wr (.cells #[.string xk, .bool xh, .string xv] 31)))
      rw [ht] at HI2
      have HL2 := Lib.hid (show Lot (wr.alloc (.cells #[.string xk, .bool xh, .string xv] 31)) 31 3 (.slice la n lc) n (flatC L) from by have := HI2.out.lot; rwa [HN.out] at this)
      have hnn := Lib.hid (show (L ++ [(⟨xk, xh, xv⟩ : ChD)]).length = n + 1 from by rw [List.length_append, HN.out]; rfl)
      have hmx : n + 1 ≤ maxLen := by unfold maxLen; omega
      have hmb : (n + 1) * 40 ≤ 140737488355328 := by omega
      clear ht HI
      go_wp2_with (at_builtin; refine wpList_append_lot _ rfl _ _ 26 rfl 31 i0 _ 3 40 Try.underlying26 gi gz0 gz1 gz2 rfl (.slice la n lc) n (flatC L) rfl HL2.out ⟨wr.heap.size, 0, none⟩ 1 1 [.string xk, .bool xh, .string xv] rfl rfl (change_news wr xk xh xv 31) (change_one xk xh xv) (by omega) hmx hmb _ rfl ?_; intro g cap w4 hL4 hg4 hat4; have HI4 := Lib.hid (HI2.out.grow (S := [⟨xk, xh, xv⟩]) (n := n + 1) hnn.out hL4 hg4 hat4); clear hL4 hg4 hat4; have hlow4 : Below W3.heap.size W3 w4 := (by rw [HZ3.out]; exact HI4.out.low); obtain ⟨t0, t1, t2, t3⟩ := HX.out _ hlow4; obtain ⟨r0, r1, r2, r3, r4, r5⟩ := HX3.out _ hlow4; have HLow4 := Lib.hid hlow4; clear hlow4)
      refine bodyPost_ret (v := .tuple #[.agg #[.int .i64 most, .slice (some ⟨g, 0, none⟩) (n + 1) cap, .bool false], .bool true]) (by rw [results_cell2 (by rfl)]; go_simp) rfl ?_
      refine HFin.out _ _ _ _ (fun a ha => ?_) ?_ hnn.out ?_
      · cases ha
        have := HI4.out.base g rfl
        dsimp only
        omega
      · have hl := HI4.out.lot
        rw [hnn.out] at hl
        refine (hl.stays (fun k hk => ?_)).sc hnn.out
        have hk2 := HI4.out.base k hk
        iterate 4 rw [Below.heap_setCell _ _ _ _ (by dsimp only; omega)]
      · exact ((((HB.out.trans (HLow4.out.mono HB.out.size)).setCell (by dsimp only; omega) _).setCell (by dsimp only; omega) _).setCell (by dsimp only; omega) _).setCell (by dsimp only; omega) _

theorem refpush_any (most : Nat) (p : Option Addr) (n c : Nat) (ov : Bool) (L : List ChD) (x : ChD) (W : World) (h : Sc W p L) (hn : L.length = n) (hlm : n ≤ most) (hn2 : n ≤ 1000) :
    Calls Try.prog 9 #[.agg #[.int .i64 most, .slice p n c, .bool ov], .agg #[.string x.key, .bool x.has, .string x.val]] W (PushedF most ov L x p W) := by
  obtain ⟨r, hr⟩ : ∃ r, fullD most ov L = r := ⟨_, rfl⟩
  cases r with
  | true => exact refpush_full most p n c ov L x W h hn hlm hr
  | false => exact refpush_room most p n c ov L x W h hn hlm hn2 hr

end Go.Proofs.Ytofkllokmecfgaa
