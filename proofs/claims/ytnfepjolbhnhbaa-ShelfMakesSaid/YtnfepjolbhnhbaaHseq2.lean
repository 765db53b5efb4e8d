/-
  The keys of a map of words, appended to nothing: slices.AppendSeq, slices.Collect.
-/
import Derived.Test.YtnfepjolbhnhbaaHseq
namespace Go.Proofs.Ytnfepjolbhnhbaa
open Go Go.RowKit Go.Shelf
attribute [local go_sem] Oper.semAt_some

/-- A slice that holds these words, in a block of its own; nil where there are none. -/
def RowU (W0 : World) (v : Value) (ss : List Int) (W : World) : Prop := W.ownsRow W0.heap.size 22 1 v ss.length (ss.map (Value.int .u64)) ∧ (v = .slice none 0 0 ↔ ss = []) ∧ Below W0.heap.size W0 W

set_option maxRecDepth 100000 in
set_option maxHeartbeats 2000000 in
theorem appendseq_in (F : Fence) (n : Nat) (hF : ∀ k, F.fn k) (hro : F.round = none) (hn : 3 ≤ n) (Bm N : Nat) (S : List Int → Prop) (w : World) (hseq : ∀ W, Below w.heap.size w W → SeqStops F (n - 1) Try.prog 37 #[.pointer (some ⟨Bm, 0, none⟩)] (Value.int .u64) S (fun _ => True) N W) (hN : N ≤ 1000000) :
    CallsIn F n Try.prog 41 #[.slice none 0 0, .func (.func 37) #[] #[.pointer (some ⟨Bm, 0, none⟩)]] w fun e W' => ∃ v ss, e = .returned v ∧ S ss ∧ ss.length ≤ N ∧ RowU w v ss W' := by
  have h1 : 1 ≤ n := by omega
  obtain ⟨i0, hi, hz0, hz1, hz2⟩ := info_parts info_u64
  refine callsIn_of_wp_marks Try.func41 rfl (hF _) ?_ hro
  simp only [Try.ntmps41, List.size_toArray, List.length_cons, List.length_nil, Nat.reduceAdd, Nat.reduceSub, Array.replicate_succ, Array.replicate_zero, List.push_toArray, List.append_toArray, List.nil_append, List.cons_append]
  gi_wp2
  have bO := Boxed.new w 55 (.slice none 0 0)
  have hB0 : Below w.heap.size w (w.alloc (.cells #[.slice none 0 0] 55)) := (Below.refl _ w).alloc (Nat.le_refl _) _
  refine wpIn_rangeFunc_ownF hro h1 (gf := 37) (lb := #[.pointer (some ⟨Bm, 0, none⟩)]) rfl (hF _) (enters_of Try.func37 (by kernel_rfl) rfl)
    (encs := fun x : Int => #[Value.int .u64 x]) (Kp := KeepsWalks) (S := S) (Sp := fun _ => True) (N := N)
    (hseq _ hB0) walksK_t (fun W l o o' h h' h'' h3 => walksK_b (w := w.alloc (.cells #[.slice none 0 0] 55)) W l o o' h h' h'' h3) (Below.refl _ _) (fun _ => rfl)
    (fun pre W => ((∃ v, Boxed W w.heap.size 55 v ∧ W.ownsRow w.heap.size 22 1 v pre.length (pre.map (Value.int .u64)) ∧ (v = .slice none 0 0 ↔ pre = [])) ∧ Below w.heap.size w W) ∧ pre.length ≤ N)
    (fun _ _ _ => False)
    (OwnFrom.and (OwnFrom.and (Own.from (holdsRow_own w.heap.size w.heap.size 55 22 1 (fun pre : List Int => pre.length) (fun pre => pre.map (Value.int .u64)) (fun pre v => v = .slice none 0 0 ↔ pre = [])) _) (ownFrom_below (Nat.le_refl _) (by simp))) (fun _ _ _ _ hs _ _ => hs))
    (fun _ _ _ _ _ hs _ _ => hs)
    ⟨⟨⟨_, bO, World.ownsRow_nil _ _ _ _, by simp⟩, hB0⟩, Nat.zero_le _⟩
    (fun x => { tmps := #[.slice none 0 0, .func (.func 37) #[] #[.pointer (some ⟨Bm, 0, none⟩)], .pointer (some ⟨w.heap.size, 0, none⟩), undef, .slice none 0 0, .int .u64 x, .func (.func 37) #[] #[.pointer (some ⟨Bm, 0, none⟩)], .int .u64 x, undef, undef, undef, undef, undef], defers := [] }) ?assign ?body ?done ?stop
  case assign =>
    intro l x W K hK
    gi_wp2
    exact hK
  case body =>
    rintro l pre x W ⟨⟨⟨v, hv, hrow, hnil⟩, hB⟩, _⟩ hlt
    have hc := hv.cell
    have hmx : pre.length + 1 ≤ maxLen := by simp only [maxLen]; omega
    gi_wp2_with (gi_at_builtin; refine wpListIn_append_own _ rfl _ _ 55 rfl w.heap.size 22 i0 (.int .u64 0) 1 8 Try.underlying55 hi hz0 hz1 hz2 rfl (by decide) _ _ _ rfl (hrow.alloc _) ⟨W.heap.size, 0, none⟩ 1 1 [.int .u64 x] rfl rfl (cell_one_new _ _ _) (by simp [Value.oneCell']) hmx (by omega) (by have := hB.size; simp; omega) ?_; intro v' w1 hown' hgrow _; obtain ⟨g', cap', rfl⟩ := ownsRow_succ hown'; obtain ⟨hv1, hv2, hr2, hk2, hb2⟩ := hv.appended (by decide) hrow hB.size (Nat.le_refl _) hown' hgrow; have hc1 := hv1.cell; have hf1 := hv1.frozen)
    exact ⟨hk2, hk2.walks, ⟨⟨_, hv2, by simpa using hr2, by simp⟩, hB.trans hb2⟩, by simp; omega⟩
  case done =>
    rintro L ys W hL hS ⟨⟨⟨v, hv, hrow, hnil⟩, hB⟩, hlen⟩ hK
    have hc := hv.cell
    gi_wp2
    refine ⟨by simp, .inl ⟨_, _, rfl, run_takeDeferred hK, ?_⟩⟩
    exact ⟨_, results_tmp rfl _ _ _, v, ys, rfl, hS, hlen, ownsRow_putObj hrow _ hK rfl, hnil, hB.trans (belowK_b (w := w) (Nat.le_refl _) W L _ _ (by simp at hL; omega) hK rfl rfl)⟩
  case stop =>
    rintro L c pre W _ _ h _
    exact h.elim

set_option maxRecDepth 100000 in
set_option maxHeartbeats 1000000 in
theorem collect_in (F : Fence) (n : Nat) (hF : ∀ k, F.fn k) (hro : F.round = none) (hn : 4 ≤ n) (Bm N : Nat) (S : List Int → Prop) (w : World) (hseq : ∀ W, Below w.heap.size w W → SeqStops F (n - 1 - 1) Try.prog 37 #[.pointer (some ⟨Bm, 0, none⟩)] (Value.int .u64) S (fun _ => True) N W) (hN : N ≤ 1000000) :
    CallsIn F n Try.prog 35 #[.func (.func 37) #[] #[.pointer (some ⟨Bm, 0, none⟩)]] w fun e W' => ∃ v ss, e = .returned v ∧ S ss ∧ ss.length ≤ N ∧ RowU w v ss W' := by
  have h1 : 1 ≤ n := by omega
  refine callsIn_of_wp Try.func35 rfl (hF _) ?_ hro
  simp only [Try.ntmps35, List.size_toArray, List.length_cons, List.length_nil, Nat.reduceAdd, Nat.reduceSub, Array.replicate_succ, Array.replicate_zero, List.push_toArray, List.append_toArray, List.nil_append, List.cons_append]
  have HA := Lib.hid (appendseq_in F (n - 1) hF hro (by omega) Bm N S w hseq hN)
  have hfA := hF 41
  clear hseq
  gi_wp2_with (gi_at_call 41; refine HA.out.mono ?_; rintro e w' ⟨v, ss, rfl, hh⟩; have HH := Lib.hid hh; clear hh)
  go_ret
  exact ⟨v, ss, rfl, HH.out⟩

/-! ### a nil map -/
set_option maxRecDepth 100000 in
set_option maxHeartbeats 1000000 in
theorem keys1_nil (F : Fence) (n : Nat) (hF : ∀ k, F.fn k) (hro : F.round = none) (l Bm : Nat) (J : List Int → World → Prop) (W : World) (hJ : AbidesFrom W.heap.size J) (hm : W.cell? ⟨Bm, 0, none⟩ = some (.map none)) (h0 : J [] W) :
    CallsIn F n Try.prog 37 #[.func (.yield l) #[] #[], .pointer (some ⟨Bm, 0, none⟩)] W fun e W' => (∃ v, e = .returned v) ∧ J [] W' := by
  refine callsIn_of_wp Try.func37 rfl (hF _) ?_ hro
  simp only [Try.ntmps37, List.size_toArray, List.length_cons, List.length_nil, Nat.reduceAdd, Nat.reduceSub, Array.replicate_succ, Array.replicate_zero, List.push_toArray, List.append_toArray, List.nil_append, List.cons_append]
  have hrg := run_range_nilMap (P := Try.prog) W 64 22 68 Try.underlying64
  have hnx : ∀ ty, (Instr.next (.pointer (some ⟨W.heap.size, 0, none⟩)) false ty).run Try.prog (W.alloc (.mapIter none 0 #[] 0)) = _ := fun ty => run_next_nilMap _ ty 0 0 #[]
  gi_wp2
  refine wpIn_loop_rounds 1 ?_
  rw [roundsIn_succ]
  gi_wp2
  go_end0
  exact ⟨⟨_, rfl⟩, hJ [] W _ none h0 (World.grownBy_alloc W _ none) (fun r e => by cases e)⟩
theorem keys_stops_nil (F : Fence) (n : Nat) (hF : ∀ k, F.fn k) (hro : F.round = none) (Bm : Nat) (w : World) (hm : w.cell? ⟨Bm, 0, none⟩ = some (.map none)) :
    SeqStops F n Try.prog 37 #[.pointer (some ⟨Bm, 0, none⟩)] (Value.int .u64) (fun ss => ss = []) (fun _ => True) 0 w := fun l J Jx W hW hJ _ hY h0 => by
  refine (keys1_nil F n hF hro l Bm J W hJ ((hW.cell (p := ⟨Bm, 0, none⟩) (cell_lt hm)).trans hm) h0).mono ?_
  rintro e W' ⟨h1, h2⟩
  exact ⟨h1, .inl ⟨[], rfl, h2⟩⟩

end Go.Proofs.Ytnfepjolbhnhbaa
