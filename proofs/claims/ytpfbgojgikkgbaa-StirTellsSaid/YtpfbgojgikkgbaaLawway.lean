/-
  The places of a way, at most so many, as the statements' own helper collects them.
-/
import Derived.Test.YtpfbgojgikkgbaaWay
import Derived.Maps.AppendAt
import Derived.Maps.OwnIn
import Derived.WalkSpells
namespace Go.Proofs.Ytpfbgojgikkgbaa
open Go Go.RowKit Go.Shelf
attribute [local go_sem] Oper.semAt_some

theorem info_int : (Try.prog.info? 3).map (fun i => (i.zero, i.size, i.bytes)) = some (some (.int .i64 0), 1, 8) := by kernel_rfl

/-- What the helper hands back: a slice of its own with just the places xs; what lay lies as it lay. -/
def Collected (xs : List Int) (w : World) (e : Ending) (W' : World) : Prop :=
  ∃ g cap, e = .returned (.slice (some ⟨g, 0, none⟩) xs.length cap) ∧ W'.ownsRow w.heap.size 3 1 (.slice (some ⟨g, 0, none⟩) xs.length cap) xs.length (xs.map (Value.int .i64)) ∧ Below w.heap.size w W'

theorem Collected.mk {xs ys : List Int} {w W' : World} {v : Value} {g cap : Nat} (hv : v = .slice (some ⟨g, 0, none⟩) ys.length cap) (h : ys = xs) (hr : W'.ownsRow w.heap.size 3 1 (.slice (some ⟨g, 0, none⟩) ys.length cap) ys.length (ys.map (Value.int .i64))) (hb : Below w.heap.size w W') : Collected xs w (.returned v) W' := by
  subst h; subst hv; exact ⟨g, cap, rfl, hr, hb⟩

/-- What the helper owns between two rounds: how many it may collect; its slice's variable; the slice's row. -/
def OutI (B : Nat) (most : Nat) (pre : List Int) (f1 : Nat → Prop) (W : World) : Prop :=
  ∃ g cap, f1 = (fun k => k = B ∨ k = B + 1 + 1 ∨ k = g) ∧ Boxed W B 3 (.int .i64 most) ∧ Boxed W (B + 1 + 1) 29 (.slice (some ⟨g, 0, none⟩) pre.length cap) ∧
    W.ownsRow B 3 1 (.slice (some ⟨g, 0, none⟩) pre.length cap) pre.length (pre.map (Value.int .i64)) ∧ pre.length ≤ most ∧ B < g

theorem OutI.stable (B most : Nat) : Stable (OutI B most) := by
  rintro s f1 X Y ⟨g, cap, rfl, hm, ho, hr, hl⟩ hsz hbl
  refine ⟨g, cap, rfl, (hbl B (.inl rfl)).trans hm, (hbl (B + 1 + 1) (.inr (.inl rfl))).trans ho, ⟨hr.1, ?_⟩, hl⟩
  rcases hr.2 with ⟨h, _⟩ | ⟨g', cap', cur, hv, hb, hg, rest⟩
  · cases h
  · obtain ⟨rfl, _⟩ : g = g' ∧ cap = cap' := by simpa using hv
    exact .inr ⟨g, cap', cur, hv, hb, (hbl g (.inr (.inr rfl))).trans hg, rest⟩

theorem OutI.bound (B most : Nat) : Bound (OutI B most) := by
  rintro s f1 X ⟨g, cap, rfl, hm, ho, hr, hl⟩ k hk
  rcases hk with rfl | rfl | rfl
  · exact hm.lt
  · exact ho.lt
  · exact (hr.lt k rfl).2

theorem eql_nil (caps : Array Value) (w : World) : (binOp .eql 38 (.func (.func 19) #[] caps) .nilFunc).run Try.prog w = .ok (.bool false) w := by kernel_rfl

set_option maxRecDepth 100000 in
set_option maxHeartbeats 1000000 in
theorem lawway_in (F : Fence) (n : Nat) (hF : ∀ k, F.fn k) (hro : F.round = none) (hd : F.depth = none) (hW : Hid (∀ n f args w R, Calls Try.prog f args w R → CallsIn F n Try.prog f args w R)) (hn : 9 ≤ n) (u m : Int) (most : Nat) (w : World) (h0 : 0 ≤ u) (h1 : u ≤ 18446744073709551615) (hm : m ≤ 9223372036854775807) (hmost : most ≤ 100000) :
    CallsIn F n Try.prog 15 #[.int .u64 u, .int .i64 m, .int .i64 most] w (Collected ((wayList (startOf u m) m).take most) w) := by
  have h1' : 1 ≤ n := by omega
  obtain ⟨i0, hi, hz0, hz1, hz2⟩ := info_parts info_int
  refine callsIn_of_wp_marks Try.func15 rfl (hF _) ?_ hro
  simp only [Try.ntmps15, List.size_toArray, List.length_cons, List.length_nil, Nat.reduceAdd, Nat.reduceSub, Array.replicate_succ, Array.replicate_zero, List.push_toArray, List.append_toArray, List.nil_append, List.cons_append]
  have hnil := eql_nil #[.pointer (some ⟨w.heap.size + 1 + 1 + 1 + 1, 0, none⟩), .pointer (some ⟨w.heap.size + 1 + 1 + 1, 0, none⟩)]
  gi_wp2_with (gi_at_call 18; refine (hW.out _ _ _ _ _ (wayf_any _ _ _ h0 h1 hm)).mono ?_; rintro e w' ⟨rfl, rfl⟩)
  have bM := ((((Boxed.new w 3 (.int .i64 most)).alloc (.cells #[] 3)).alloc (.cells #[.slice (some ⟨w.heap.size + 1, 0, none⟩) 0 0] 29)).alloc (.cells #[.int .i64 m] 3)).alloc (.cells #[.int .i64 (startOf u m)] 3)
  have rN := (((World.ownsRow_made (base := w.heap.size) (e := 3) (size := 1) (w.alloc (.cells #[.int .i64 most] 3)) #[] 0 (by simp) (by simp [maxLen]) rfl).alloc (.cells #[.slice (some ⟨w.heap.size + 1, 0, none⟩) 0 0] 29)).alloc (.cells #[.int .i64 m] 3)).alloc (.cells #[.int .i64 (startOf u m)] 3)
  have bO := ((Boxed.new ((w.alloc (.cells #[.int .i64 most] 3)).alloc (.cells #[] 3)) 29 (.slice (some ⟨w.heap.size + 1, 0, none⟩) 0 0)).alloc (.cells #[.int .i64 m] 3)).alloc (.cells #[.int .i64 (startOf u m)] 3)
  have bW := (Boxed.new (((w.alloc (.cells #[.int .i64 most] 3)).alloc (.cells #[] 3)).alloc (.cells #[.slice (some ⟨w.heap.size + 1, 0, none⟩) 0 0] 29)) 3 (.int .i64 m)).alloc (.cells #[.int .i64 (startOf u m)] 3)
  have bS := Boxed.new ((((w.alloc (.cells #[.int .i64 most] 3)).alloc (.cells #[] 3)).alloc (.cells #[.slice (some ⟨w.heap.size + 1, 0, none⟩) 0 0] 29)).alloc (.cells #[.int .i64 m] 3)) 3 (.int .i64 (startOf u m))
  simp only [World.size_alloc] at rN bO bW bS
  have hB0 : Below w.heap.size w (((((w.alloc (.cells #[.int .i64 most] 3)).alloc (.cells #[] 3)).alloc (.cells #[.slice (some ⟨w.heap.size + 1, 0, none⟩) 0 0] 29)).alloc (.cells #[.int .i64 m] 3)).alloc (.cells #[.int .i64 (startOf u m)] 3)) :=
    (((((Below.refl _ w).alloc (Nat.le_refl _) _).alloc (by simp) _).alloc (by simp; omega) _).alloc (by simp; omega) _).alloc (by simp; omega) _
  have hsz : (((((w.alloc (.cells #[.int .i64 most] 3)).alloc (.cells #[] 3)).alloc (.cells #[.slice (some ⟨w.heap.size + 1, 0, none⟩) 0 0] 29)).alloc (.cells #[.int .i64 m] 3)).alloc (.cells #[.int .i64 (startOf u m)] 3)).heap.size = w.heap.size + 1 + 1 + 1 + 1 + 1 := by simp
  obtain ⟨W0, hW0⟩ : ∃ W0, (((((w.alloc (.cells #[.int .i64 most] 3)).alloc (.cells #[] 3)).alloc (.cells #[.slice (some ⟨w.heap.size + 1, 0, none⟩) 0 0] 29)).alloc (.cells #[.int .i64 m] 3)).alloc (.cells #[.int .i64 (startOf u m)] 3)) = W0 := ⟨_, rfl⟩
  rw [hW0] at bM rN bO bW bS hB0 hsz ⊢
  clear hW0
  have hs0 := (startOf_bd u m).1
  have hs1 : startOf u m ≤ 9223372036854775807 := by
    by_cases h : 1 ≤ m
    · have := (startOf_bd u m).2.1 h; omega
    · have := (startOf_bd u m).2.2 (by omega); omega
  refine wpIn_rangeFunc_foot hro h1' (gf := 19) (lb := #[.pointer (some ⟨w.heap.size + 1 + 1 + 1 + 1, 0, none⟩), .pointer (some ⟨w.heap.size + 1 + 1 + 1, 0, none⟩)]) rfl (hF _) (enters_of Try.func19 (by kernel_rfl) rfl)
    (way1_iter F (n - 1) (hF _) (hF _) (hF _) hro hd (by omega) (w.heap.size + 1 + 1 + 1 + 1) (w.heap.size + 1 + 1 + 1) (startOf u m) m hs0 hs1 hm) (fun _ => rfl)
    (OutI w.heap.size most)
    (fun c ys f1 Wx => c = .exit 0 ∧ ∃ pre x, ys = pre ++ [x] ∧ pre.length = most ∧ OutI w.heap.size most pre f1 Wx)
    (OutI.stable _ _) (fun c s f1 A B hs hsz hbl => by obtain ⟨h1, pre, x, h2, h3, h4⟩ := hs; exact ⟨h1, pre, x, h2, h3, OutI.stable _ _ _ _ _ _ h4 hsz hbl⟩) (OutI.bound _ _)
    (fun k => k = w.heap.size ∨ k = w.heap.size + 1 + 1 ∨ k = w.heap.size + 1)
    ⟨w.heap.size + 1, 0, rfl, bM, bO, rN, Nat.zero_le _, by omega⟩
    (fun W1 hb1 => ⟨(World.cell?_of_block (hb1.block (w.heap.size + 1 + 1 + 1 + 1) (by omega))).trans bS.cell, (World.cell?_of_block (hb1.block (w.heap.size + 1 + 1 + 1) (by omega))).trans bW.cell⟩)
    (fun x => { tmps := #[.int .u64 u, .int .i64 m, .int .i64 most, undef, undef, .pointer (some ⟨w.heap.size, 0, none⟩), .slice none 0 0, .pointer (some ⟨w.heap.size + 1 + 1, 0, none⟩),
      .func (.func 19) #[] #[.pointer (some ⟨w.heap.size + 1 + 1 + 1 + 1, 0, none⟩), .pointer (some ⟨w.heap.size + 1 + 1 + 1, 0, none⟩)], .int .i64 x, .slice (some ⟨w.heap.size + 1, 0, none⟩) 0 0, .int .u64 u, .int .i64 m,
      .func (.func 19) #[] #[.pointer (some ⟨w.heap.size + 1 + 1 + 1 + 1, 0, none⟩), .pointer (some ⟨w.heap.size + 1 + 1 + 1, 0, none⟩)], .func (.func 19) #[] #[.pointer (some ⟨w.heap.size + 1 + 1 + 1 + 1, 0, none⟩), .pointer (some ⟨w.heap.size + 1 + 1 + 1, 0, none⟩)], .bool false, undef,
      .func (.func 19) #[] #[.pointer (some ⟨w.heap.size + 1 + 1 + 1 + 1, 0, none⟩), .pointer (some ⟨w.heap.size + 1 + 1 + 1, 0, none⟩)], .int .i64 x, undef, undef, undef, undef, undef, undef, undef, undef, undef], defers := [] }) ?assign ?body ?done ?stop
  case assign =>
    intro l2 x Wx K hK
    gi_wp2
    exact hK
  case body =>
    rintro l2 pre x post f1 Wx hcut ⟨g, cap, rfl, hm', hv, hrow, hl, hBg⟩ hle
    have hcM := hm'.cell
    have hcO := hv.cell
    clear hcut
    by_cases hfull : pre.length = most
    · subst hfull
      gi_wp2
      exact ⟨_, Step.refl _ _, rfl, pre, x, rfl, rfl, g, cap, rfl, hm', hv, hrow, Nat.le_refl _, hBg⟩
    · have hlt : pre.length < most := by omega
      have hBx : w.heap.size ≤ Wx.heap.size := by omega
      gi_wp2_with (gi_at_builtin; refine wpListIn_append_own_at _ rfl _ _ 29 rfl w.heap.size 3 i0 (.int .i64 0) 1 8 Try.underlying29 hi hz0 hz1 hz2 rfl (by decide) (.slice (some ⟨g, 0, none⟩) pre.length cap) pre.length (pre.map (Value.int .i64)) rfl (hrow.alloc _) ⟨Wx.heap.size, 0, none⟩ 1 1 [.int .i64 x] rfl rfl (cell_one_new _ _ _) (by simp [Value.oneCell']) (by simp only [maxLen]; omega) (by omega) (by simp; omega) ?_; intro v' w1 hown' hgrow _ hat; obtain ⟨g', cap', rfl⟩ := ownsRow_succ hown'; obtain ⟨hv1, hv2, hr2, hk2, hb2⟩ := hv.appended (by decide) hrow hBx (by omega) hown' hgrow; have hc1 := hv1.cell; have hf1 := hv1.frozen)
      have hg' : g' = g ∨ g' = Wx.heap.size + 1 := by simpa [Value.ownBlock] using hat
      refine ⟨fun k => k = w.heap.size ∨ k = w.heap.size + 1 + 1 ∨ k = g', ⟨hb2.os, hb2.tape, hb2.output, hb2.size, fun k hk hn => ?_, fun k hk => ?_⟩, g', cap', rfl, ?_, ?_, ?_, ?_, ?_⟩
      · exact (Below.heap_setCell w1 _ _ k (fun e => hn (.inr (.inl e)))).trans ((hgrow.block k (by simp; omega) (by intro e; exact hn (.inr (.inr (by simpa [Value.ownBlock] using e))))).trans (Below.heap_alloc Wx _ k hk))
      · omega
      · exact ((hm'.alloc _).kept hgrow (by intro e; have : w.heap.size = g := by simpa [Value.ownBlock] using e
                                            omega)).other (by omega) _
      · simpa using hv2
      · simpa using hr2
      · simp; omega
      · omega
  case stop =>
    rintro D c ys f' Wd hD hnD hstd hpx ⟨rfl, pre, x, rfl, hlen, g, cap, rfl, hm', hv, hrow, hl⟩ hK
    subst hlen
    have hcO := hv.cell
    gi_wp2
    refine ⟨by simp, .inl ⟨_, _, rfl, run_takeDeferred hK, ?_⟩⟩
    refine ⟨_, results_tmp rfl _ _ _, Collected.mk (ys := pre) (g := g) (cap := cap) rfl ?_ (ownsRow_putObj hrow _ hK rfl) ?_⟩
    · obtain ⟨t, ht⟩ := hpx
      rw [← ht, List.append_assoc, List.take_left]
    · exact hB0.trans ((hstd.below (n := w.heap.size) (by omega) (fun k hk h => by omega)).trans (belowK_b (w := w) (Nat.le_refl _) Wd D _ _ (by omega) hK rfl rfl))
  case done =>
    rintro D f' Wd hD hnD hstd ⟨g, cap, rfl, hm', hv, hrow, hl, hBg⟩ hK
    have hcO := hv.cell
    gi_wp2
    refine ⟨by simp, .inl ⟨_, _, rfl, run_takeDeferred hK, ?_⟩⟩
    refine ⟨_, results_tmp rfl _ _ _, Collected.mk (g := g) (cap := cap) rfl (List.take_of_length_le hl).symm (ownsRow_putObj hrow _ hK rfl) ?_⟩
    · exact hB0.trans ((hstd.below (n := w.heap.size) (by omega) (fun k hk h => by omega)).trans (belowK_b (w := w) (Nat.le_refl _) Wd D _ _ (by omega) hK rfl rfl))

end Go.Proofs.Ytpfbgojgikkgbaa
