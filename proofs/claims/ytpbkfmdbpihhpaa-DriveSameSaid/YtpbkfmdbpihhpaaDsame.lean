/-
  Picks of one routine alone are as if it went alone: the walk.
-/
import Derived.Test.YtpbkfmdbpihhpaaDawake
import Derived.Test.YtpbkfmdbpihhpaaDshort
import Derived.Test.YtpbkfmdbpihhpaaQround
namespace Go.Proofs.Ytpbkfmdbpihhpaa
open Go Go.RowKit
attribute [local go_sem ↓] Go.wp_at_zero Go.wp_at_succ
attribute [local go_sem] Oper.semAt_some

theorem neqA_same (k b c o n : Int) (t : ByteArray) (w : World) : (binOp .neq 40 (actV k b c o n t) (actV k b c o n t)).run Try.prog w = .ok (.bool false) w := by
  have u3 := Try.underlying3
  have u32 := Try.underlying38
  have u9 := Try.underlying9
  have hS : Try.prog.underlying 40 = some (.struct (Try.prog.fieldsOf 40)) := by kernel_rfl
  have hp : Try.prog.stoodInHeld 40 = false := by kernel_rfl
  rw [run_neq_struct, show (10000 : Nat) = 9999 + 1 from rfl, run_equalIn_agg w 9999 40 _ _ hS hp]
  simp only [Program.fieldsOf, Try.underlying40]
  have a3 := Try.isAgg3
  have z3 := Try.sizeOf3
  have a32 := Try.isAgg38
  have z32 := Try.sizeOf38
  have a9 := Try.isAgg9
  have z9 := Try.sizeOf9
  go_simp
theorem neqG_same (a : Int) (s : ByteArray) (w : World) : (binOp .neq 42 (gotV a s) (gotV a s)).run Try.prog w = .ok (.bool false) w := by
  have u32 := Try.underlying38
  have u9 := Try.underlying9
  have hS : Try.prog.underlying 42 = some (.struct (Try.prog.fieldsOf 42)) := by kernel_rfl
  have hp : Try.prog.stoodInHeld 42 = false := by kernel_rfl
  rw [run_neq_struct, show (10000 : Nat) = 9999 + 1 from rfl, run_equalIn_agg w 9999 42 _ _ hS hp]
  simp only [Program.fieldsOf, Try.underlying42]
  have a32 := Try.isAgg38
  have z32 := Try.sizeOf38
  have a9 := Try.isAgg9
  have z9 := Try.sizeOf9
  go_simp

set_option maxRecDepth 100000 in
set_option maxHeartbeats 2000000 in
theorem same_long (la : Option Addr) (n c : Nat) (m : Int) (L : List ActD) (W : World) (hS : Sa W la L) (hl : L.length = n) (hn : n ≤ maxLen) (hsh : shortA L = false) :
    Calls Try.prog 3 #[.slice la n c, .int .u8 m] W (Says true W) := by
  have HS := Lib.hid (fun X (hX : Below W.heap.size W X) => (by have := short_any la n c L X (hS.grow hX) hl hn; rw [hsh] at this; exact this : Calls Try.prog 4 #[.slice la n c] X fun e W' => e = .returned (.bool false) ∧ X = W'))
  clear hS hl hn hsh
  have HB := Lib.hid (below_alloc W (.cells #[.bool false] 4))
  have HN := Lib.hid (World.alloc_heap_new W (.cells #[.bool false] 4))
  go_enter Try.func3, Try.ntmps3
  go_wp2_with fail
  refine (HS.out _ HB.out).mono ?_
  rintro en w1 ⟨rfl, rfl⟩
  go_wp2_with fail
  refine (awake_any _).mono ?_
  rintro en w2 ⟨rfl, hb⟩
  have HB2 := Lib.hid (HB.out.trans (hb.mono HB.out.size))
  have h2 := (hb.block _ (heap_at_lt HN.out)).trans HN.out
  have m0 := (cell_of (i := 0) h2).trans rfl
  have z0 : w2.frozen? ⟨W.heap.size, 0, none⟩ = false := by simp [World.frozen?, h2]
  clear hb
  go_wp2_with fail
  exact bodyPost_ret (v := .bool true) (by rw [results_cell1 (by rfl)]; go_simp) rfl ⟨rfl, HB2.out.setCell (Nat.le_refl _) _⟩

theorem info_int : (Try.prog.info? 3).map (fun i => (i.zero, i.size, i.bytes)) = some (some (.int .i64 0), 1, 8) := by kernel_rfl
abbrev zerosO (n : Nat) : Obj := .cells (madeCells #[.int .i64 0] n) 3 (0, 0)
theorem make_zeros (n : Nat) (hn : n ≤ 255) (w : World) : (Instr.makeSlice 31 (.int .i64 (n : Int)) (.int .i64 (n : Int))).run Try.prog w = .ok (.slice (some ⟨w.heap.size, 0, none⟩) n n) (w.alloc (zerosO n)) := by
  obtain ⟨i0, gi, gz0, gz1, gz2⟩ := info_parts info_int
  have := run_make (P := Try.prog) w 31 3 i0 _ Try.underlying31 gi gz0 .i64 .i64 n n (by omega) (Int.le_refl _) (by rw [gz2]; omega) (by omega)
  rw [gz1] at this
  simp only [Int.toNat_natCast, Nat.mul_one] at this
  exact this
theorem eqs_nil (caps : Array Value) (w : World) : (binOp .eql 36 (.func (.func 13) #[] caps) .nilFunc).run Try.prog w = .ok (.bool false) w := by kernel_rfl
/-- A slice of zeros. -/
theorem zeros_at {X : World} {b n : Nat} (h : X.heap[b]? = some (zerosO n)) (i : Nat) (hi : i < n) : X.cell? ⟨b, i, none⟩ = some (.int .i64 0) := by
  rw [cell_of h, ← Array.getElem?_toList, toList_madeCells_one]
  simp [hi]

/-- The cells of a step within a row of them. -/
theorem step_cells {X : World} {ga : Option Addr} {gc nx : Nat} {pre post : List StepD} {s : StepD} (h : Lot X 44 9 (.slice ga nx gc) nx (flatS (pre ++ s :: post))) (hn : 0 < nx) : ∃ gb, ga = some ⟨gb, 0, none⟩ ∧
    (X.cell? ⟨gb, pre.length * 9 + 1, none⟩ = some (.int .i64 s.act.kind) ∧ X.cell? ⟨gb, pre.length * 9 + 1 + 1, none⟩ = some (.int .u64 (s.act.block : Int)) ∧ X.cell? ⟨gb, pre.length * 9 + 1 + 2, none⟩ = some (.int .i64 s.act.cell) ∧ X.cell? ⟨gb, pre.length * 9 + 1 + 3, none⟩ = some (.int .u64 s.act.old) ∧
      X.cell? ⟨gb, pre.length * 9 + 1 + 4, none⟩ = some (.int .u64 s.act.new) ∧ X.cell? ⟨gb, pre.length * 9 + 1 + 5, none⟩ = some (.string s.act.text) ∧ X.cell? ⟨gb, pre.length * 9 + 7, none⟩ = some (.int .u64 s.w) ∧ X.cell? ⟨gb, pre.length * 9 + 7 + 1, none⟩ = some (.string s.t)) := by
  obtain ⟨gb, cap, hv, hat⟩ := h.cells hn
  have e1 : flatS (pre ++ s :: post) = flatS pre ++ ([.int .i64 0, .int .i64 s.act.kind, .int .u64 (s.act.block : Int), .int .i64 s.act.cell, .int .u64 s.act.old, .int .u64 s.act.new, .string s.act.text, .int .u64 s.w, .string s.t] ++ flatS post) := by simp [flatS]
  have e2 : (flatS pre).length = pre.length * 9 := by
    clear e1 hat hv h
    induction pre with
    | nil => rfl
    | cons a l ih =>
      have : flatS (a :: l) = [.int .i64 0, .int .i64 a.act.kind, .int .u64 (a.act.block : Int), .int .i64 a.act.cell, .int .u64 a.act.old, .int .u64 a.act.new, .string a.act.text, .int .u64 a.w, .string a.t] ++ flatS l := rfl
      rw [this, List.length_append, ih, List.length_cons]
      simp only [List.length_cons, List.length_nil]
      omega
  have hc : ∀ i u, [Value.int .i64 0, .int .i64 s.act.kind, .int .u64 (s.act.block : Int), .int .i64 s.act.cell, .int .u64 s.act.old, .int .u64 s.act.new, .string s.act.text, .int .u64 s.w, .string s.t][i]? = some u → X.cell? ⟨gb, pre.length * 9 + i, none⟩ = some u := fun i u hu => by
    refine hat _ _ ?_
    rw [e1, List.getElem?_append_right (by omega), e2, Nat.add_sub_cancel_left, List.getElem?_append_left (List.getElem?_eq_some_iff.1 hu).1]
    exact hu
  cases hv
  exact ⟨gb, rfl, hc 1 _ rfl, hc 2 _ rfl, hc 3 _ rfl, hc 4 _ rfl, hc 5 _ rfl, hc 6 _ rfl, hc 7 _ rfl, hc 8 _ rfl⟩

/-- What the caller has, while the iterator goes: all lies as it lay but the count. -/
def RestI (W0 : World) (g ro : Nat → Prop) (b : Nat) (ys : List StepD) (f : Nat → Prop) (X : World) : Prop :=
  f = (fun k => k < W0.heap.size ∧ ¬ g k ∧ ¬ ro k) ∧ (b < W0.heap.size ∧ ¬ g b ∧ ¬ ro b) ∧ X.heap[b]? = some (.cells #[.int .i64 (ys.length : Int)] 3 (0, 0)) ∧ ∀ k, k < W0.heap.size → ¬ g k → ¬ ro k → k ≠ b → X.heap[k]? = W0.heap[k]?
theorem RestI.stable (W0 : World) (g ro : Nat → Prop) (b : Nat) : Stable (RestI W0 g ro b) := by
  rintro s f X Y ⟨rfl, h1, h2, h3⟩ _ hb
  exact ⟨rfl, h1, (hb b h1).trans h2, fun k q1 q2 q3 q4 => (hb k ⟨q1, q2, q3⟩).trans (h3 k q1 q2 q3 q4)⟩
theorem RestI.count {W0 X : World} {g ro f : Nat → Prop} {b k : Nat} {ys : List StepD} (h : RestI W0 g ro b ys f X) (s : StepD) (hk : ys.length = k) : f b ∧ RestI W0 g ro b (ys ++ [s]) f (X.setCell ⟨b, 0, none⟩ (.int .i64 ((k : Int) + 1))) := by
  obtain ⟨rfl, h1, h2, h3⟩ := h
  subst hk
  exact ⟨h1, rfl, h1, (heap_setAt h2).trans (by simp), fun k q1 q2 q3 q4 => (Below.heap_setCell _ _ _ _ q4).trans (h3 k q1 q2 q3 q4)⟩
theorem RestI.bound (W0 : World) (g ro : Nat → Prop) (b : Nat) : Bound (RestI W0 g ro b) := by
  rintro s f X ⟨rfl, h1, h2, h3⟩ k ⟨q1, q2, q3⟩
  by_cases e : k = b
  · subst e; exact heap_at_lt h2
  · have := h3 k q1 q2 q3 e
    rw [Array.getElem?_eq_getElem q1] at this
    exact heap_at_lt this

/-- The boxes that the statement and Steps lay. -/
theorem same_boxes {X5 W0 : World} {gv rv : Value} {q : Nat} {m : Int} (h : ((((X5.alloc (.cells #[gv] 32)).alloc (.cells #[.int .i64 0] 3)).alloc (.cells #[.pointer (some ⟨q, 0, none⟩)] 25)).alloc (.cells #[rv] 56)).alloc (.cells #[.int .i64 m] 3) = W0) :
    Below X5.heap.size X5 W0 ∧ W0.heap.size = X5.heap.size + 5 ∧ W0.cell? ⟨X5.heap.size, 0, none⟩ = some gv ∧ W0.heap[X5.heap.size + 1]? = some (.cells #[.int .i64 0] 3 (0, 0)) ∧ W0.cell? ⟨X5.heap.size + 1 + 1, 0, none⟩ = some (.pointer (some ⟨q, 0, none⟩)) ∧ W0.cell? ⟨X5.heap.size + 1 + 1 + 1, 0, none⟩ = some rv ∧ W0.cell? ⟨X5.heap.size + 1 + 1 + 1 + 1, 0, none⟩ = some (.int .i64 m) := by
  have b0 := below_alloc X5 (.cells #[gv] 32)
  have n0 := World.alloc_heap_new X5 (.cells #[gv] 32)
  obtain ⟨b1, z1, c1, c2, c3, c4⟩ := alone_boxes (pa := some ⟨q, 0, none⟩) h
  rw [World.size_alloc] at b1 z1 c1 c2 c3 c4
  exact ⟨b0.trans (b1.mono (by omega)), by omega, (cell_of ((b1.block _ (by omega)).trans n0)).trans rfl, c1, c2, c3, c4⟩

/-- What lies when Steps is ranged over. -/
theorem same_mid {W w1 w2 w3 X4 X5 W0 : World} {la : Option Addr} {n c m p q nx gc : Nat} {ga : Option Addr} {L : List ActD} {xs : List StepD} {fa fb f5 : Nat → Prop} (hS : Sa W la L) (hn : L.length = n) (hla : ∀ a, la = some a → a.block < W.heap.size) (hw1 : Below W.heap.size W w1) (hw2 : w1.heap.size ≤ w2.heap.size)
    (hX : Below w1.heap.size w1 X4) (hz : X4.heap.size = w3.heap.size + 4) (hr : X4.heap[w3.heap.size + 1]? = some (rowO la n c)) (hp : Hp X4 w2.heap.size q emptyD fb) (hfb : ∀ k, fb k → w2.heap.size ≤ k ∧ k < w3.heap.size) (hfa : ∀ k, fa k → w1.heap.size ≤ k ∧ k < w2.heap.size) (hw : w2.heap.size ≤ w3.heap.size)
    (hs5 : Step (fun j => fa j ∨ (j = w3.heap.size ∨ (Value.slice none 0 0).ownBlock = some j)) f5 X4 X5) (hp5 : Pl X5 w1.heap.size p w3.heap.size la c L (stP L S1 m) f5) (hl5 : Lot X5 44 9 (.slice ga nx gc) nx (flatS xs)) (ho5 : ∀ j, (Value.slice ga nx gc).ownBlock = some j → X4.heap.size ≤ j ∧ ¬ f5 j)
    (hb : Below X5.heap.size X5 W0) :
    ∃ g : Nat → Prop, Pl W0 w2.heap.size q (w3.heap.size + 1) la c L S1 g ∧ (∀ k, g k → w2.heap.size ≤ k ∧ k < X5.heap.size) ∧
      (∃ fh, Hp W0 w1.heap.size p (stP L S1 m).D fh ∧ ∀ k, fh k → ¬ g k ∧ k < X5.heap.size ∧ W.heap.size ≤ k) ∧
      (Lot W0 44 9 (.slice ga nx gc) nx (flatS xs) ∧ ∀ j, (Value.slice ga nx gc).ownBlock = some j → ¬ g j ∧ j < X5.heap.size ∧ W.heap.size ≤ j) ∧ Below w1.heap.size w1 W0 := by
  subst hn
  have z5 := hs5.size
  have hfaX : ∀ k, (fa k ∨ (k = w3.heap.size ∨ (Value.slice none 0 0).ownBlock = some k)) → k < w2.heap.size ∨ k = w3.heap.size := fun k hk => by
    rcases hk with hk | hk | hk
    · exact .inl (hfa k hk).2
    · exact .inr hk
    · cases hk
  have hf5 : ∀ k, f5 k → k < w2.heap.size ∨ k = w3.heap.size ∨ X4.heap.size ≤ k := fun k hk => (hs5.foot k hk).elim (fun h => (hfaX k h).elim .inl (fun h => .inr (.inl h))) (fun h => .inr (.inr h))
  have hq5 : Hp X5 w2.heap.size q emptyD fb := hp.stays (fun k hk => hs5.block k (hp.lt k hk) (fun h => by have := hfb k hk; have := hfaX k h; omega))
  have hr5 : X5.heap[w3.heap.size + 1]? = some (rowO la L.length c) := (hs5.block _ (heap_at_lt hr) (fun h => by have := hfaX _ h; omega)).trans hr
  have hw1s := hw1.size
  have hX1 : Below w1.heap.size w1 X5 := hX.trans (hs5.below hX.size (fun k hk h => by
    rcases h with h | h | h
    · have := (hfa k h).1; omega
    · omega
    · cases h))
  have hX5 : Below W.heap.size W X5 := hw1.trans (hX1.mono hw1.size)
  have hPl := Pl.start (la := la) (c := c) (L := L) hq5 hr5 (fun hf => by have := hfb _ hf; omega) (by omega) (hS.grow hX5) (fun a ha => by
    have := hla a ha
    have := hX5.size
    exact ⟨by omega, fun hf => by have := hfb _ hf; omega, by omega⟩)
  refine ⟨_, hPl.below hb, fun k hk => ⟨?_, hPl.lt k hk⟩, ?_, ⟨hl5.below hb, fun j hj => ⟨fun hg => ?_, hl5.lt j hj, by have := (ho5 j hj).1; have := hX.size; omega⟩⟩, hX1.trans (hb.mono hX1.size)⟩
  · rcases hk with hk | hk | hk
    · exact (hfb k hk).1
    · omega
    · cases hk
  · obtain ⟨fh, fr, h1, h2, h3, rfl, h4, h5⟩ := hp5
    refine ⟨fh, h1.below hb, fun k hk => ⟨fun hg => ?_, h1.lt k hk, ?_⟩⟩
    · have h6 := hf5 k (.inl hk)
      rcases hg with hg | hg | hg
      · have := hfb k hg; omega
      · omega
      · cases hg
    · rcases Nat.lt_or_ge k w1.heap.size with h | h
      · exact absurd hk (h1.base k h)
      · omega
  · have h6 := (ho5 j hj).1
    rcases hg with hg | hg | hg
    · have := hfb j hg; omega
    · omega
    · cases hg

theorem same_end {W w9 : World} {D : Nat} {T : Array Value} (h9 : w9.heap[W.heap.size]? = some (.cells #[.bool false] 4 (0, 0))) (k9 : w9.heap[D]? = some (.deferred (some []))) (hL : Below W.heap.size W w9) (hD : W.heap.size ≤ D) (hT : T.getD 4 undef = .pointer (some ⟨W.heap.size, 0, none⟩)) :
    bodyPostM Fence.wide 6 Try.prog Try.f3 (Says true W) .ret { tmps := T, defers := [{ target := .collected D, args := #[] }] } (w9.setCell ⟨W.heap.size, 0, none⟩ (.bool true)) := by
  have hne : D ≠ W.heap.size := fun e => by rw [e, h9] at k9; cases k9
  have k10 : (w9.setCell ⟨W.heap.size, 0, none⟩ (.bool true)).heap[D]? = some (.deferred (some [])) := (Below.heap_setCell _ _ _ _ hne).trans k9
  have h10 : ((w9.setCell ⟨W.heap.size, 0, none⟩ (.bool true)).putObj D (.deferred none)).heap[W.heap.size]? = some (.cells #[.bool true] 4 (0, 0)) := (World.putObj_heap_other (Ne.symm hne)).trans ((heap_setAt h9).trans rfl)
  have m0 := (cell_of (i := 0) h10).trans rfl
  refine ⟨by simp, .inl ⟨_, _, rfl, run_takeDeferred k10, ?_⟩⟩
  refine ⟨.bool true, by rw [results_cell1 (by rfl), hT]; go_simp, rfl, ?_⟩
  have h1 := hL.setCell (p := ⟨W.heap.size, 0, none⟩) (Nat.le_refl _) (.bool true)
  exact ⟨h1.os, h1.tape, h1.output, by simpa using h1.size, fun k hk => (World.putObj_heap_other (by omega)).trans (h1.block k hk)⟩

/-- What lies when Run is called. -/
theorem same_start {W w1 w2 w3 X4 : World} {la : Option Addr} {n c m p q : Nat} {L : List ActD} {fa fb : Nat → Prop} (hS : Sa W la L) (hn : L.length = n) (hla : ∀ a, la = some a → a.block < W.heap.size) (hw1 : Below W.heap.size W w1) (h2 : Hp w2 w1.heap.size p emptyD fa) (hb2 : Below w1.heap.size w1 w2)
    (h3 : Hp w3 w2.heap.size q emptyD fb) (hb3 : Below w2.heap.size w2 w3)
    (hX : (((w3.alloc (rowO la n c)).alloc (rowO la n c)).alloc (zerosO m)).alloc (.cells #[rowV w3.heap.size] 56) = X4) :
    Below w1.heap.size w1 X4 ∧ X4.heap.size = w3.heap.size + 4 ∧ X4.heap[w3.heap.size + 1]? = some (rowO la n c) ∧ X4.heap[w3.heap.size + 1 + 1]? = some (zerosO m) ∧ X4.cell? ⟨w3.heap.size + 1 + 1 + 1, 0, none⟩ = some (rowV w3.heap.size) ∧
    Pl X4 w1.heap.size p w3.heap.size la c L S1 (fun j => fa j ∨ (j = w3.heap.size ∨ (Value.slice none 0 0).ownBlock = some j)) ∧ Hp X4 w2.heap.size q emptyD fb ∧ (∀ k, fa k → w1.heap.size ≤ k ∧ k < w2.heap.size) ∧ w2.heap.size ≤ w3.heap.size ∧ (∀ k, fb k → w2.heap.size ≤ k ∧ k < w3.heap.size) ∧ w1.heap.size ≤ w2.heap.size := by
  subst hn
  have b1 := below_alloc w3 (rowO la L.length c)
  have b2 := below_alloc (w3.alloc (rowO la L.length c)) (rowO la L.length c)
  have b3 := below_alloc ((w3.alloc (rowO la L.length c)).alloc (rowO la L.length c)) (zerosO m)
  have b4 := below_alloc (((w3.alloc (rowO la L.length c)).alloc (rowO la L.length c)).alloc (zerosO m)) (.cells #[rowV w3.heap.size] 56)
  have n1 := World.alloc_heap_new w3 (rowO la L.length c)
  have n2 := World.alloc_heap_new (w3.alloc (rowO la L.length c)) (rowO la L.length c)
  have n3 := World.alloc_heap_new ((w3.alloc (rowO la L.length c)).alloc (rowO la L.length c)) (zerosO m)
  have n4 := World.alloc_heap_new (((w3.alloc (rowO la L.length c)).alloc (rowO la L.length c)).alloc (zerosO m)) (.cells #[rowV w3.heap.size] 56)
  simp only [World.size_alloc] at b2 b3 b4 n2 n3 n4
  have hB : Below w3.heap.size w3 X4 := by rw [← hX]; exact b1.trans ((b2.mono (by omega)).trans ((b3.mono (by omega)).trans (b4.mono (by omega))))
  have hz : X4.heap.size = w3.heap.size + 4 := by rw [← hX]; simp
  have hs2 := hb2.size
  have hs3 := hb3.size
  have hs1 := hw1.size
  have hWX : Below W.heap.size W X4 := hw1.trans ((hb2.mono hs1).trans ((hb3.mono (by omega)).trans (hB.mono (by omega))))
  have hfa : ∀ k, fa k → k < w2.heap.size := h2.lt
  have e0 : X4.heap[w3.heap.size]? = some (rowO la L.length c) := by rw [← hX, b4.block _ (by omega), b3.block _ (by omega), b2.block _ (by omega)]; exact n1
  refine ⟨hb2.trans ((hb3.mono hs2).trans (hB.mono (by omega))), hz, ?_, ?_, ?_, ?_, h3.below hB, fun k hk => ⟨by rcases Nat.lt_or_ge k w1.heap.size with h | h; exact absurd hk (h2.base k h); exact h, hfa k hk⟩, hs3, fun k hk => ⟨by rcases Nat.lt_or_ge k w2.heap.size with h | h; exact absurd hk (h3.base k h); exact h, h3.lt k hk⟩, hs2⟩
  · rw [← hX, b4.block _ (by omega), b3.block _ (by omega)]; exact n2
  · rw [← hX, b4.block _ (by omega)]; exact n3
  · rw [← hX]; exact (cell_of n4).trans rfl
  · refine Pl.start ((h2.below hb3).below hB) e0 (fun hf => by have := hfa _ hf; omega) (by omega) (hS.grow hWX) (fun a ha => ?_)
    have := hla a ha
    exact ⟨by omega, h2.base _ (by omega), by omega⟩

set_option maxRecDepth 100000 in
set_option maxHeartbeats 4000000 in
theorem same_walk (la : Option Addr) (n c m : Nat) (L : List ActD) (W : World) (hS : Sa W la L) (hl : L.length = n) (hn : n ≤ maxLen) (hfit : ∀ x ∈ L, x.fits) (hla : ∀ a, la = some a → a.block < W.heap.size) (hm : m ≤ 255) :
    Calls Try.prog 3 #[.slice la n c, .int .u8 (m : Int)] W (Says true W) := by
  cases hsh : shortA L with
  | false => exact same_long la n c m L W hS hl hn hsh
  | true =>
  have HS := Lib.hid (fun X (hX : Below W.heap.size W X) => (by have := short_any la n c L X (hS.grow hX) hl hn; rw [hsh] at this; exact this : Calls Try.prog 4 #[.slice la n c] X fun e W' => e = .returned (.bool true) ∧ X = W'))
  have hlen := shortA_len hsh
  subst hl
  have HF := Lib.hid (show FewP L S1 from ⟨Nat.zero_le _, Nat.zero_le _, Nat.zero_le _, by omega, rfl, hfit⟩)
  have HSa := Lib.hid hS
  have HLa := Lib.hid hla
  have HB := Lib.hid (below_alloc W (.cells #[.bool false] 4))
  have HN := Lib.hid (World.alloc_heap_new W (.cells #[.bool false] 4))
  have hm1 : (m : Int) ≤ 255 := by omega
  have hm0 : (0 : Int) ≤ (m : Int) := by omega
  obtain ⟨n, hn'⟩ : ∃ n, L.length = n := ⟨_, rfl⟩
  rw [hn'] at HS ⊢
  have HNn := Lib.hid hn'
  clear hS hn hsh hfit hla hn' hlen
  refine callsIn_wide.1 (show CallsIn Fence.wide 6 Try.prog _ _ _ _ from ?_)
  have hW := wide_hW
  refine callsIn_of_wp_marks Try.func3 rfl trivial ?_ rfl
  simp only [Try.ntmps3, List.size_toArray, List.length_cons, List.length_nil, Nat.reduceAdd, Nat.reduceSub, Array.replicate_succ, Array.replicate_zero, List.push_toArray, List.append_toArray, List.nil_append, List.cons_append]
  gi_wp2_with fail
  refine ⟨trivial, (hW.out _ _ _ _ _ (HS.out _ HB.out)).mono ?_⟩
  rintro en w1 ⟨rfl, rfl⟩
  gi_wp2_with fail
  refine ⟨trivial, (hW.out _ _ _ _ _ (new_any _)).mono ?_⟩
  rintro en w2 ⟨p, fa, rfl, h2, hb2⟩
  gi_wp2_with fail
  refine ⟨trivial, (hW.out _ _ _ _ _ (new_any _)).mono ?_⟩
  rintro en w3 ⟨q, fb, rfl, h3, hb3⟩
  have hmk := make_zeros m hm
  obtain ⟨X4, hX4⟩ : ∃ X4, (((w3.alloc (rowO la n c)).alloc (rowO la n c)).alloc (zerosO m)).alloc (.cells #[rowV w3.heap.size] 56) = X4 := ⟨_, rfl⟩
  obtain ⟨s1, s2, s3, s4, s5, s6, s7, s8, s9, s10, s11⟩ := same_start HSa.out HNn.out HLa.out HB.out h2 hb2 h3 hb3 hX4
  have HX := Lib.hid s1
  have HR := Lib.hid (run_any s6 HF.out (n := m) (pc := m) (pb := some ⟨w3.heap.size + 1 + 1, 0, none⟩) (by omega) s5 (fun h => by
    rcases h with h | h | h
    · have := s8 _ h; omega
    · omega
    · cases h) (fun i hi => ⟨_, rfl, zeros_at s4 i hi, fun h => by
    rcases h with h | h | h
    · have := s8 _ h; omega
    · omega
    · cases h⟩))
  have HY := Lib.hid (And.intro s2 (And.intro s3 (And.intro s7 (And.intro s8 (And.intro s9 (And.intro s10 s11))))))
  clear h2 hb2 h3 hb3 s1 s2 s3 s4 s5 s6 s7 s8 s9 s10 s11
  gi_wp2_with fail
  refine ⟨trivial, (hW.out _ _ _ _ _ HR.out).mono ?_⟩
  rintro en X5 ⟨v, rfl, f5, hs5, hp5, hl5, ho5⟩
  obtain ⟨ga, gc, rfl⟩ := hl5.form
  obtain ⟨xs, hxs⟩ : ∃ xs, toP L S1 m = xs := ⟨_, rfl⟩
  have HXs := Lib.hid hxs
  rw [hxs] at hl5 ho5 ⊢
  obtain ⟨nx, hnx⟩ : ∃ nx, xs.length = nx := ⟨_, rfl⟩
  have HNx := Lib.hid hnx
  rw [hnx] at hl5 ho5 ⊢
  have H5 := Lib.hid (And.intro hs5 (And.intro hp5 (And.intro hl5 ho5)))
  clear hs5 hp5 hl5 ho5 hxs hnx HR
  gi_wp2_with fail
  refine ⟨trivial, (hW.out _ _ _ _ _ (steps_any _ _ (.inl ⟨_, rfl⟩) _ _)).mono ?_⟩
  rintro en w8 ⟨rfl, rfl⟩
  have hnil := eqs_nil #[.pointer (some ⟨X5.heap.size + 1 + 1 + 1 + 1, 0, none⟩), .pointer (some ⟨X5.heap.size + 1 + 1, 0, none⟩), .pointer (some ⟨X5.heap.size + 1 + 1 + 1, 0, none⟩)]
  gi_wp2_with fail
  obtain ⟨W0, hW0⟩ : ∃ W0, ((((X5.alloc (.cells #[.slice ga nx gc] 32)).alloc (.cells #[.int .i64 0] 3)).alloc (.cells #[.pointer (some ⟨q, 0, none⟩)] 25)).alloc (.cells #[rowV (w3.heap.size + 1)] 56)).alloc (.cells #[.int .i64 (m : Int)] 3) = W0 := ⟨_, rfl⟩
  obtain ⟨hB0, hz0, hcg, hci, hch, hcr, hcm⟩ := same_boxes hW0
  rw [hW0]
  obtain ⟨g, hPg, hgr, ⟨fh, hPa, hfh⟩, ⟨hLt, hgb⟩, hWW⟩ := same_mid HSa.out HNn.out HLa.out HB.out HY.out.2.2.2.2.2.2 HX.out HY.out.1 HY.out.2.1 HY.out.2.2.1 HY.out.2.2.2.2.2.1 HY.out.2.2.2.1 HY.out.2.2.2.2.1 H5.out.1 H5.out.2.1 H5.out.2.2.1 H5.out.2.2.2 hB0
  have hw2 : W.heap.size ≤ w2.heap.size := Nat.le_trans HB.out.size HY.out.2.2.2.2.2.2
  have hro : ∀ k, roS (X5.heap.size + 1 + 1 + 1 + 1) (X5.heap.size + 1 + 1) (X5.heap.size + 1 + 1 + 1) (roR la) k → k < W.heap.size ∨ X5.heap.size + 1 < k := fun k hk => by
    rcases hk with ⟨a, ha, rfl⟩ | hk | hk | hk
    · exact .inl (HLa.out a ha)
    · omega
    · omega
    · omega
  have hWX : W.heap.size + 1 ≤ X5.heap.size := by have := HX.out.size; have := H5.out.1.size; have := World.size_alloc W (.cells #[.bool false] 4); omega
  have hw2' : W.heap.size + 1 ≤ w2.heap.size := by have := HY.out.2.2.2.2.2.2; have := World.size_alloc W (.cells #[.bool false] 4); omega
  have HO0 := Lib.hid (show OwnS (X5.heap.size + 1 + 1 + 1 + 1) (X5.heap.size + 1 + 1) (X5.heap.size + 1 + 1 + 1) m (some ⟨q, 0, none⟩) (rowV (w3.heap.size + 1)) (OwnR w2.heap.size q (w3.heap.size + 1) la c L S1) 0 g W0 from
    ⟨hPg, hcm, hch, hcr, fun h => by have := hgr _ h; omega, fun h => by have := hgr _ h; omega, fun h => by have := hgr _ h; omega⟩)
  have HIt := Lib.hid (steps_iter Fence.wide 5 (fun _ => trivial) rfl wide_hW (by omega) (X5.heap.size + 1 + 1 + 1 + 1) (X5.heap.size + 1 + 1) (X5.heap.size + 1 + 1 + 1) m (some ⟨q, 0, none⟩) (rowV (w3.heap.size + 1)) (toP L S1 m) (OwnR w2.heap.size q (w3.heap.size + 1) la c L S1) (roR la) ownR_stable ownR_bound (toP_len L S1 m) (by omega)
    (Lib.hid fun j g W hO hj hjm => ownR_next HF.out m j g W hO hj hjm))
  have HI0 := Lib.hid (show RestI W0 g (roS (X5.heap.size + 1 + 1 + 1 + 1) (X5.heap.size + 1 + 1) (X5.heap.size + 1 + 1 + 1) (roR la)) (X5.heap.size + 1) [] _ W0 from
    ⟨rfl, ⟨by omega, fun h => by have := hgr _ h; omega, fun h => by have := hro _ h; omega⟩, hci, fun _ _ _ _ _ => rfl⟩)
  have HBx := Lib.hid (show ∀ X ys f, RestI W0 g (roS (X5.heap.size + 1 + 1 + 1 + 1) (X5.heap.size + 1 + 1) (X5.heap.size + 1 + 1 + 1) (roR la)) (X5.heap.size + 1) ys f X → X.cell? ⟨X5.heap.size, 0, none⟩ = some (.slice ga nx gc) ∧ Lot X 44 9 (.slice ga nx gc) nx (flatS xs) ∧ Hp X (W.alloc (.cells #[.bool false] 4)).heap.size p (stP L S1 m).D fh from fun X ys f hX => by
    obtain ⟨-, -, -, h4⟩ := hX
    refine ⟨?_, ?_, ?_⟩
    · have := h4 X5.heap.size (by omega) (fun h => by have := hgr _ h; omega) (fun h => by have := hro _ h; omega) (by omega)
      exact (World.cell?_of_block (a := ⟨X5.heap.size, 0, none⟩) this).trans hcg
    · refine hLt.stays (fun j hj => h4 j (hLt.lt j hj) (hgb j hj).1 (fun h => ?_) (by have := (hgb j hj).2; omega))
      have := hro _ h
      have := (hgb j hj).2
      omega
    · refine hPa.stays (fun j hj => h4 j (hPa.lt j hj) (hfh j hj).1 (fun h => ?_) (by have := (hfh j hj).2; omega))
      have := hro _ h
      have := (hfh j hj).2
      omega)
  have HG := Lib.hid hgr
  have HRo := Lib.hid hro
  have HZ := Lib.hid (And.intro hz0 (And.intro hw2' hWX))
  have HWW := Lib.hid hWW
  have hmix : Try.prog.follows .mixedOrders = true := by kernel_rfl
  clear hW0 hB0 hz0 hcg hci hch hcr hcm hPg hgr hPa hfh hLt hgb hWW hw2 hw2' hro hWX H5
  refine wpIn_rangeFunc_own rfl (by omega) (gf := 13) (lb := #[.pointer (some ⟨X5.heap.size + 1 + 1 + 1 + 1, 0, none⟩), .pointer (some ⟨X5.heap.size + 1 + 1, 0, none⟩), .pointer (some ⟨X5.heap.size + 1 + 1 + 1, 0, none⟩)]) rfl trivial (enters_of Try.func13 (by kernel_rfl) rfl)
    (OwnS.stable ownR_stable) (OwnS.bound ownR_bound) HIt.out (fun _ => rfl)
    (RestI W0 g (roS (X5.heap.size + 1 + 1 + 1 + 1) (X5.heap.size + 1 + 1) (X5.heap.size + 1 + 1 + 1) (roR la)) (X5.heap.size + 1)) (fun _ _ _ _ => False) (RestI.stable _ _ _ _) (fun _ _ _ _ _ h _ _ => h) (RestI.bound _ _ _ _) _ g HI0.out HO0.out (fun k hk => ⟨hk.2.1, hk.2.2⟩)
    (fun s mm a' X => X.heap[mm]? = some (stepO s) ∧ a' = { tmps := #[.slice la n c, .int .u8 (m : Int), undef, undef, .pointer (some ⟨W.heap.size, 0, none⟩), .pointer (some ⟨p, 0, none⟩), .pointer (some ⟨q, 0, none⟩), .pointer (some ⟨w3.heap.size, 0, none⟩), .pointer (some ⟨w3.heap.size + 1, 0, none⟩), .slice (some ⟨w3.heap.size + 1 + 1, 0, none⟩) m m, .pointer (some ⟨X5.heap.size, 0, none⟩), .pointer (some ⟨X5.heap.size + 1, 0, none⟩), .func (.func 13) #[] #[.pointer (some ⟨X5.heap.size + 1 + 1 + 1 + 1, 0, none⟩), .pointer (some ⟨X5.heap.size + 1 + 1, 0, none⟩), .pointer (some ⟨X5.heap.size + 1 + 1 + 1, 0, none⟩)], .pointer (some ⟨mm, 0, none⟩), .slice la n c, .bool true, .bool false, undef, .pointer (some ⟨p, 0, none⟩), .pointer (some ⟨q, 0, none⟩), .slice la n c, .agg #[.slice la n c, .int .i64 0, .slice none 0 0], .pointer (some ⟨w3.heap.size, 0, none⟩), .slice la n c, .agg #[.slice la n c, .int .i64 0, .slice none 0 0], .pointer (some ⟨w3.heap.size + 1, 0, none⟩), .int .u8 (m : Int), .int .i64 (m : Int), .slice (some ⟨w3.heap.size + 1 + 1, 0, none⟩) m m, .pointer (some ⟨p, 0, none⟩), .pointer (some ⟨w3.heap.size, 0, none⟩), rowV w3.heap.size, .slice (some ⟨w3.heap.size + 1 + 1 + 1, 0, none⟩) 1 1, .slice (some ⟨w3.heap.size + 1 + 1, 0, none⟩) m m, .slice ga nx gc, .pointer (some ⟨q, 0, none⟩), .pointer (some ⟨w3.heap.size + 1, 0, none⟩), rowV (w3.heap.size + 1), .int .u8 (m : Int), .int .i64 (m : Int), .func (.func 13) #[] #[.pointer (some ⟨X5.heap.size + 1 + 1 + 1 + 1, 0, none⟩), .pointer (some ⟨X5.heap.size + 1 + 1, 0, none⟩), .pointer (some ⟨X5.heap.size + 1 + 1 + 1, 0, none⟩)], .func (.func 13) #[] #[.pointer (some ⟨X5.heap.size + 1 + 1 + 1 + 1, 0, none⟩), .pointer (some ⟨X5.heap.size + 1 + 1, 0, none⟩), .pointer (some ⟨X5.heap.size + 1 + 1 + 1, 0, none⟩)], .bool false, .func (.func 13) #[] #[.pointer (some ⟨X5.heap.size + 1 + 1 + 1 + 1, 0, none⟩), .pointer (some ⟨X5.heap.size + 1 + 1, 0, none⟩), .pointer (some ⟨X5.heap.size + 1 + 1 + 1, 0, none⟩)], stepV 0 s, undef, undef, undef, undef, undef, undef, undef, undef, undef, undef, undef, undef, undef, undef, undef, undef, undef, undef, undef, undef, undef, undef, undef, undef, undef, undef, undef, undef, undef, undef, undef, undef, undef, undef, undef, undef, undef, undef, undef, undef], defers := [] })
    (fun _ _ _ _ _ h _ hb => ⟨(hb _ (Nat.le_refl _)).trans h.1, h.2⟩) ?assign ?body ?done ?stop
  case assign =>
    intro l s Wx K hK
    gi_wp2
    exact hK _ _ (below_alloc Wx (stepO s)) ⟨World.alloc_heap_new Wx (stepO s), rfl⟩
  case body =>
    rintro l pre s post f1 a' Wx mm hcut hI ⟨hmm, rfl⟩ hm1 hm2 hf1
    rw [HXs.out] at hcut
    have hlt : pre.length < nx := by
      have := congrArg List.length hcut
      rw [HNx.out] at this
      simp at this
      omega
    have hnx : nx ≤ 255 := by have := toP_len L S1 m; rw [HXs.out, HNx.out] at this; omega
    obtain ⟨hbx, hlx, -⟩ := HBx.out _ _ _ hI
    rw [hcut] at hlx
    obtain ⟨gb, rfl, d1, d2, d3, d4, d5, d6, d7, d8⟩ := step_cells hlx (by omega)
    obtain ⟨⟨m0, m1, m2, m3, m4, m5, m6, m7, m8⟩, -⟩ := nine_at hmm
    have hi1 : Wx.cell? ⟨X5.heap.size + 1, 0, none⟩ = some (.int .i64 (pre.length : Int)) := (cell_of hI.2.2.1).trans rfl
    have HI := Lib.hid hI
    obtain ⟨k, hk⟩ : ∃ k, pre.length = k := ⟨_, rfl⟩
    have HK := Lib.hid hk
    rw [hk] at hi1 d1 d2 d3 d4 d5 d6 d7 d8 hlt
    have hk0 : (0 : Int) ≤ (k : Int) := by omega
    have hk1 : (k : Int) < (nx : Int) := by omega
    have hk2 : (nx : Int) ≤ 255 := by omega
    have hge : decide (nx ≤ k) = false := decide_eq_false (by omega)
    have hnA := neqA_same
    have hnG := neqG_same
    clear hcut hI hlx hmm hm1 hm2 hf1 hlt hnx hk HI0 HO0 HBx HIt HG HRo HZ HWW
    gi_wp2_with fail
    refine wpIn_region_quiet_round hmix (by kernel_rfl) (by kernel_rfl) ?_
    repeat (gi_big_quiet_step (fail))
    refine wpQuietIn_nil ?_
    intro _ hw'
    obtain ⟨nq, hw''⟩ := hw'
    subst hw''
    have HI2 := Lib.hid (RestI.stable _ _ _ _ _ _ _ (Wx.drewN nq) HI.out (Nat.le_refl _) (fun _ _ => rfl))
    have HD := Lib.hid (below_draws Wx nq)
    generalize Wx.drewN nq = Wy at HI2 HD ⊢
    clear d1 d2 d3 d4 d5 d6 d7 d8 m0 m1 m2 m3 m4 m5 m6 m7 m8 hi1
    have hi2 : Wy.cell? ⟨X5.heap.size + 1, 0, none⟩ = some (.int .i64 (k : Int)) := by rw [← HK.out]; exact (cell_of HI2.out.2.2.1).trans rfl
    have hz2 : Wy.frozen? ⟨X5.heap.size + 1, 0, none⟩ = false := by simp [World.frozen?, HI2.out.2.2.1]
    gi_wp2_with fail
    obtain ⟨q1, q2⟩ := RestI.count HI2.out s HK.out
    exact ⟨f1, (Step.of_below HD.out).trans (Step.setCell _ q1), q2⟩
  case done =>
    rintro D f' g' Wd hD hnf hng hnr hst happ hI hown hK
    rw [HXs.out] at hI hown
    obtain ⟨hbx, -, hPa⟩ := HBx.out _ _ _ hI
    have hi1 : Wd.cell? ⟨X5.heap.size + 1, 0, none⟩ = some (.int .i64 (nx : Int)) := by rw [← HNx.out]; exact (cell_of hI.2.2.1).trans rfl
    have hQb : ∃ fq, Hp Wd w2.heap.size q (stP L S1 m).D fq := by
      have e4 := (toP_walk L S1 m).2.2.2
      rw [HXs.out] at e4
      obtain ⟨fq, _, h1, _⟩ := hown.1
      exact ⟨fq, by rw [e4]; exact h1⟩
    obtain ⟨fq, hQb⟩ := hQb
    have hlow : Below (W.alloc (.cells #[.bool false] 4)).heap.size (W.alloc (.cells #[.bool false] 4)) Wd := HWW.out.trans ⟨hst.os, hst.tape, hst.output, hst.size, fun k hk => by
      have hz := HZ.out
      rw [World.size_alloc] at hk
      have hgk : ¬ g k := fun h => by have := HG.out k h; omega
      by_cases hr : roS (X5.heap.size + 1 + 1 + 1 + 1) (X5.heap.size + 1 + 1) (X5.heap.size + 1 + 1 + 1) (roR la) k
      · exact hst.block k (by omega) (fun h => h.elim (fun h => h.2.2 hr) hgk)
      · exact hI.2.2.2 k (by omega) hgk hr (by omega)⟩
    have hres : Wd.heap[W.heap.size]? = some (.cells #[.bool false] 4 (0, 0)) := (hlow.block _ (heap_at_lt HN.out)).trans HN.out
    have HLow := Lib.hid hlow
    have HRes := Lib.hid hres
    have HDl := Lib.hid (show W.heap.size ≤ D from by have := HZ.out; omega)
    have HPa := Lib.hid (faults_any Wd hPa)
    have HQb := Lib.hid (faults_any Wd hQb)
    have HK := Lib.hid hK
    obtain ⟨fl, hfl⟩ : ∃ fl, (stP L S1 m).D.faults = fl := ⟨_, rfl⟩
    rw [hfl] at HPa HQb
    clear hI hown hst happ hnf hng hnr hPa hQb hlow hres hfl hD hK
    gi_wp2_with fail
    refine ⟨trivial, (hW.out _ _ _ _ _ HPa.out).mono ?_⟩
    rintro en w9 ⟨rfl, rfl⟩
    gi_wp2_with fail
    refine ⟨trivial, (hW.out _ _ _ _ _ HQb.out).mono ?_⟩
    rintro en w9 ⟨rfl, rfl⟩
    gi_wp2_with fail
    refine ⟨trivial, (hW.out _ _ _ _ _ (awake_any _)).mono ?_⟩
    rintro en w9 ⟨rfl, hb⟩
    have h9 := (hb.block _ (heap_at_lt HRes.out)).trans HRes.out
    have k9 := (hb.block _ (heap_at_lt HK.out)).trans HK.out
    have HL9 := Lib.hid ((HB.out.trans (HLow.out.mono HB.out.size)).trans (hb.mono (Nat.le_trans HB.out.size HLow.out.size)))
    have m0 := (cell_of (i := 0) h9).trans rfl
    have z0 : w9.frozen? ⟨W.heap.size, 0, none⟩ = false := by simp [World.frozen?, h9]
    have H9 := Lib.hid (And.intro h9 k9)
    clear hb h9 k9
    gi_wp2_with fail
    exact same_end H9.out.1 H9.out.2 HL9.out HDl.out rfl
  case stop =>
    rintro D c pre f' g' Wd _ _ _ _ _ _ _ h
    exact h.elim

end Go.Proofs.Ytpbkfmdbpihhpaa
