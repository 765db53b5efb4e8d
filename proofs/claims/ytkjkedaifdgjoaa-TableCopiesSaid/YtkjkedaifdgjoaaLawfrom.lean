/-
  The pairs of a tour, at most so many, as the statements' own helper collects them.
-/
import Derived.Test.YtkjkedaifdgjoaaFromiter
import Derived.Test.YtkjkedaifdgjoaaPairs
import Derived.Maps.OwnIn
import Derived.WalkSpells
namespace Go.Proofs.Ytkjkedaifdgjoaa
open Go Go.RowKit Go.Shelf
attribute [local go_sem] Oper.semAt_some

/-- What the helper owns between two rounds: how many it may collect; its slice's variable; the slice's row. -/
def OutI (B : Nat) (most : Nat) (pre : Pairs) (f1 : Nat → Prop) (W : World) : Prop :=
  ∃ g cap, f1 = (fun k => k = B ∨ k = B + 1 + 1 ∨ k = g) ∧ Boxed W B 3 (.int .i64 most) ∧ Boxed W (B + 1 + 1) 29 (.slice (some ⟨g, 0, none⟩) pre.length cap) ∧
    W.ownsRow B 42 2 (.slice (some ⟨g, 0, none⟩) pre.length cap) pre.length (flat pre) ∧ pre.length ≤ most ∧ B < g

theorem OutI.stable (B most : Nat) : Stable (OutI B most) := by
  rintro s f1 X Y ⟨g, cap, rfl, hm, ho, hr, hl⟩ hsz hbl
  refine ⟨g, cap, rfl, (hbl B (.inl rfl)).trans hm, (hbl (B + 1 + 1) (.inr (.inl rfl))).trans ho, ⟨hr.1, ?_⟩, hl⟩
  rcases hr.2 with ⟨h, _⟩ | ⟨g', cap', cur, hv, hb, hg, rest⟩
  · cases h
  · obtain ⟨rfl, _⟩ : g = g' ∧ cap = cap' := by simpa using hv
    exact .inr ⟨g, cap', cur, hv, hb, (hbl g (.inr (.inr rfl))).trans hg, rest⟩

theorem OutI.bound (B most : Nat) : Bound (OutI B most) := by
  rintro s f1 X ⟨g, cap, rfl, hm, ho, hr, hl⟩ k hk
  rcases hk with rfl | rfl | rfl
  · exact hm.lt
  · exact ho.lt
  · exact (hr.lt k rfl).2

theorem eql_nil (caps : Array Value) (w : World) : (binOp .eql 55 (.func (.func 30) #[] caps) .nilFunc).run Try.prog w = .ok (.bool false) w := by kernel_rfl

theorem Collected.mk {xs ys : Pairs} {w W' : World} {v : Value} {g cap : Nat} (hv : v = .slice (some ⟨g, 0, none⟩) ys.length cap) (h : ys = xs) (hr : W'.ownsRow w.heap.size 42 2 (.slice (some ⟨g, 0, none⟩) ys.length cap) ys.length (flat ys)) (hb : Below w.heap.size w W') : Collected xs w (.returned v) W' := by
  subst h; subst hv; exact ⟨g, cap, rfl, hr, hb⟩

set_option maxRecDepth 100000 in
set_option maxHeartbeats 2000000 in
/-- Over an iterator that is known: what the helper collects. -/
theorem lawfrom_gen (F : Fence) (n : Nat) (hF : ∀ k, F.fn k) (hro : F.round = none) (hW : Hid (∀ n f args w R, Calls Try.prog f args w R → CallsIn F n Try.prog f args w R)) (hn : 3 ≤ n) (pa : Option Addr) (x : ByteArray) (most : Nat) (w : World) (L : Pairs) (Pre : (Nat → Prop) → World → Prop) (hmost : most ≤ 9000)
    (hIt : Hid (Iter F (n - 1) Try.prog 30 #[.pointer (some ⟨w.heap.size + 1 + 1 + 1, 0, none⟩), .pointer (some ⟨w.heap.size + 1 + 1 + 1 + 1, 0, none⟩)] (fun q : ByteArray × ByteArray => #[.string q.1, .string q.2]) L Pre))
    (hPre : Hid (∀ W f, Below w.heap.size w W → W.cell? ⟨w.heap.size + 1 + 1 + 1, 0, none⟩ = some (.pointer pa) → W.cell? ⟨w.heap.size + 1 + 1 + 1 + 1, 0, none⟩ = some (.string x) → (∀ k, f k → w.heap.size ≤ k ∧ k ≠ w.heap.size + 1 + 1 + 1 ∧ k ≠ w.heap.size + 1 + 1 + 1 + 1) → Pre f W)) :
    CallsIn F n Try.prog 20 #[.pointer pa, .string x, .int .i64 most] w (Collected (L.take most) w) := by
  have h1' : 1 ≤ n := by omega
  obtain ⟨i0, hi, hz0, hz1, hz2⟩ := info_parts info_pair
  refine callsIn_of_wp_marks Try.func20 rfl (hF _) ?_ hro
  simp only [Try.ntmps20, List.size_toArray, List.length_cons, List.length_nil, Nat.reduceAdd, Nat.reduceSub, Array.replicate_succ, Array.replicate_zero, List.push_toArray, List.append_toArray, List.nil_append, List.cons_append]
  have hnil := eql_nil #[.pointer (some ⟨w.heap.size + 1 + 1 + 1, 0, none⟩), .pointer (some ⟨w.heap.size + 1 + 1 + 1 + 1, 0, none⟩)]
  gi_wp2_with (gi_at_call 25; refine (hW.out _ _ _ _ _ (from_any _ _ _)).mono ?_; rintro e w' ⟨rfl, rfl⟩)
  have bM := ((((Boxed.new w 3 (.int .i64 most)).alloc (.cells #[] 42)).alloc (.cells #[.slice (some ⟨w.heap.size + 1, 0, none⟩) 0 0] 29)).alloc (.cells #[.pointer pa] 24)).alloc (.cells #[.string x] 9)
  have rN := (((World.ownsRow_made (base := w.heap.size) (e := 42) (size := 2) (w.alloc (.cells #[.int .i64 most] 3)) #[] 0 (by simp) (by simp [maxLen]) rfl).alloc (.cells #[.slice (some ⟨w.heap.size + 1, 0, none⟩) 0 0] 29)).alloc (.cells #[.pointer pa] 24)).alloc (.cells #[.string x] 9)
  have bO := ((Boxed.new ((w.alloc (.cells #[.int .i64 most] 3)).alloc (.cells #[] 42)) 29 (.slice (some ⟨w.heap.size + 1, 0, none⟩) 0 0)).alloc (.cells #[.pointer pa] 24)).alloc (.cells #[.string x] 9)
  have bP := (Boxed.new (((w.alloc (.cells #[.int .i64 most] 3)).alloc (.cells #[] 42)).alloc (.cells #[.slice (some ⟨w.heap.size + 1, 0, none⟩) 0 0] 29)) 24 (.pointer pa)).alloc (.cells #[.string x] 9)
  have bS := Boxed.new ((((w.alloc (.cells #[.int .i64 most] 3)).alloc (.cells #[] 42)).alloc (.cells #[.slice (some ⟨w.heap.size + 1, 0, none⟩) 0 0] 29)).alloc (.cells #[.pointer pa] 24)) 9 (.string x)
  simp only [World.size_alloc] at rN bO bP bS
  have hB0 : Below w.heap.size w (((((w.alloc (.cells #[.int .i64 most] 3)).alloc (.cells #[] 42)).alloc (.cells #[.slice (some ⟨w.heap.size + 1, 0, none⟩) 0 0] 29)).alloc (.cells #[.pointer pa] 24)).alloc (.cells #[.string x] 9)) :=
    (((((Below.refl _ w).alloc (Nat.le_refl _) _).alloc (by simp) _).alloc (by simp; omega) _).alloc (by simp; omega) _).alloc (by simp; omega) _
  have hsz : (((((w.alloc (.cells #[.int .i64 most] 3)).alloc (.cells #[] 42)).alloc (.cells #[.slice (some ⟨w.heap.size + 1, 0, none⟩) 0 0] 29)).alloc (.cells #[.pointer pa] 24)).alloc (.cells #[.string x] 9)).heap.size = w.heap.size + 1 + 1 + 1 + 1 + 1 := by simp
  obtain ⟨W0, hW0⟩ : ∃ W0, (((((w.alloc (.cells #[.int .i64 most] 3)).alloc (.cells #[] 42)).alloc (.cells #[.slice (some ⟨w.heap.size + 1, 0, none⟩) 0 0] 29)).alloc (.cells #[.pointer pa] 24)).alloc (.cells #[.string x] 9)) = W0 := ⟨_, rfl⟩
  rw [hW0] at bM rN bO bP bS hB0 hsz ⊢
  clear hW0
  refine wpIn_rangeFunc_foot hro h1' (gf := 30) (lb := #[.pointer (some ⟨w.heap.size + 1 + 1 + 1, 0, none⟩), .pointer (some ⟨w.heap.size + 1 + 1 + 1 + 1, 0, none⟩)]) rfl (hF _) (enters_of Try.func30 (by kernel_rfl) rfl)
    hIt.out (fun _ => rfl)
    (OutI w.heap.size most)
    (fun c ys f1 Wx => c = .exit 0 ∧ ∃ pre q, ys = pre ++ [q] ∧ pre.length = most ∧ OutI w.heap.size most pre f1 Wx)
    (OutI.stable _ _) (fun c s f1 A B hs hsz hbl => by obtain ⟨h1, pre, q, h2, h3, h4⟩ := hs; exact ⟨h1, pre, q, h2, h3, OutI.stable _ _ _ _ _ _ h4 hsz hbl⟩) (OutI.bound _ _)
    (fun k => k = w.heap.size ∨ k = w.heap.size + 1 + 1 ∨ k = w.heap.size + 1)
    ⟨w.heap.size + 1, 0, rfl, bM, bO, rN, Nat.zero_le _, by omega⟩
    (fun W1 hb1 => hPre.out W1 _ (hB0.trans (hb1.mono (by omega))) ((World.cell?_of_block (hb1.block (w.heap.size + 1 + 1 + 1) (by omega))).trans bP.cell) ((World.cell?_of_block (hb1.block (w.heap.size + 1 + 1 + 1 + 1) (by omega))).trans bS.cell)
      (fun k hk => by omega))
    (fun q => { tmps := #[.pointer pa, .string x, .int .i64 most, undef, undef, .pointer (some ⟨w.heap.size, 0, none⟩), .slice none 0 0, .pointer (some ⟨w.heap.size + 1 + 1, 0, none⟩),
      (.func (.func 30) #[] #[.pointer (some ⟨w.heap.size + 1 + 1 + 1, 0, none⟩), .pointer (some ⟨w.heap.size + 1 + 1 + 1 + 1, 0, none⟩)]), .string q.1, .string q.2, .slice (some ⟨w.heap.size + 1, 0, none⟩) 0 0, .pointer pa, .string x,
      (.func (.func 30) #[] #[.pointer (some ⟨w.heap.size + 1 + 1 + 1, 0, none⟩), .pointer (some ⟨w.heap.size + 1 + 1 + 1 + 1, 0, none⟩)]), (.func (.func 30) #[] #[.pointer (some ⟨w.heap.size + 1 + 1 + 1, 0, none⟩), .pointer (some ⟨w.heap.size + 1 + 1 + 1 + 1, 0, none⟩)]), .bool false, undef, (.func (.func 30) #[] #[.pointer (some ⟨w.heap.size + 1 + 1 + 1, 0, none⟩), .pointer (some ⟨w.heap.size + 1 + 1 + 1 + 1, 0, none⟩)]), .string q.1, .string q.2, undef, undef, undef, undef, undef, undef, undef, undef, undef, undef, undef], defers := [] }) ?assign ?body ?done ?stop
  case assign =>
    intro l2 q Wx K hK
    gi_wp2
    exact hK
  case body =>
    rintro l2 pre ⟨a, b⟩ post f1 Wx hcut ⟨g, cap, rfl, hm', hv, hrow, hl, hBg⟩ hle
    have hcM := hm'.cell
    have hcO := hv.cell
    clear hcut
    by_cases hfull : pre.length = most
    · subst hfull
      gi_wp2
      exact ⟨_, Step.refl _ _, rfl, pre, (a, b), rfl, rfl, g, cap, rfl, hm', hv, hrow, Nat.le_refl _, hBg⟩
    · have hlt : pre.length < most := by omega
      have hBx : w.heap.size ≤ Wx.heap.size := by omega
      gi_wp2_with (gi_at_builtin; refine wpListIn_append_own_at _ rfl _ _ 29 rfl w.heap.size 42 i0 (.agg #[.string ⟨#[]⟩, .string ⟨#[]⟩]) 2 32 Try.underlying29 hi hz0 hz1 hz2 rfl (by decide) (.slice (some ⟨g, 0, none⟩) pre.length cap) pre.length (flat pre) rfl (hrow.alloc _) ⟨Wx.heap.size, 0, none⟩ 1 1 [.string a, .string b] rfl rfl (pair_news _ _ _ _) (pair_one _ _) (by simp only [maxLen]; omega) (by omega) (by simp; omega) ?_; intro v' w1 hown' hgrow _ hat; obtain ⟨g', cap', rfl⟩ := ownsRow_succ hown'; obtain ⟨hv1, hv2, hr2, hk2, hb2⟩ := hv.appended (by decide) hrow hBx (by omega) hown' hgrow; have hc1 := hv1.cell; have hf1 := hv1.frozen)
      have hg' : g' = g ∨ g' = Wx.heap.size + 1 := by simpa [Value.ownBlock] using hat
      refine ⟨fun k => k = w.heap.size ∨ k = w.heap.size + 1 + 1 ∨ k = g', ⟨hb2.os, hb2.tape, hb2.output, hb2.size, fun k hk hn => ?_, fun k hk => ?_⟩, g', cap', rfl, ?_, ?_, ?_, ?_, ?_⟩
      · exact (Below.heap_setCell w1 _ _ k (fun e => hn (.inr (.inl e)))).trans ((hgrow.block k (by simp; omega) (by intro e; exact hn (.inr (.inr (by simpa [Value.ownBlock] using e))))).trans (Below.heap_alloc Wx _ k hk))
      · omega
      · exact ((hm'.alloc _).kept hgrow (by intro e; have : w.heap.size = g := by simpa [Value.ownBlock] using e
                                            omega)).other (by omega) _
      · simpa using hv2
      · rw [flat_snoc]; simpa using hr2
      · simp; omega
      · omega
  case stop =>
    rintro D c ys f' Wd hD hnD hstd hpx ⟨rfl, pre, q, rfl, hlen, g, cap, rfl, hm', hv, hrow, hl⟩ hK
    subst hlen
    have hcO := hv.cell
    gi_wp2
    refine ⟨by simp, .inl ⟨_, _, rfl, run_takeDeferred hK, ?_⟩⟩
    refine ⟨_, results_tmp rfl _ _ _, Collected.mk (ys := pre) (g := g) (cap := cap) rfl ?_ (ownsRow_putObj hrow _ hK rfl) ?_⟩
    · obtain ⟨t, ht⟩ := hpx
      rw [← ht, List.append_assoc, List.take_left]
    · exact hB0.trans ((hstd.below (n := w.heap.size) (by omega) (fun k hk h => by omega)).trans (belowK_b (w := w) (Nat.le_refl _) Wd D _ _ (by omega) hK rfl rfl))
  case done =>
    rintro D f' Wd hD hnD hstd ⟨g, cap, rfl, hm', hv, hrow, hl, hBg⟩ hK
    have hcO := hv.cell
    gi_wp2
    refine ⟨by simp, .inl ⟨_, _, rfl, run_takeDeferred hK, ?_⟩⟩
    refine ⟨_, results_tmp rfl _ _ _, Collected.mk (g := g) (cap := cap) rfl (List.take_of_length_le hl).symm (ownsRow_putObj hrow _ hK rfl) ?_⟩
    · exact hB0.trans ((hstd.below (n := w.heap.size) (by omega) (fun k hk h => by omega)).trans (belowK_b (w := w) (Nat.le_refl _) Wd D _ _ (by omega) hK rfl rfl))

theorem wide_hW : Hid (∀ n f args w R, Calls Try.prog f args w R → CallsIn Fence.wide n Try.prog f args w R) := fun _ _ _ _ _ h => callsIn_wide.2 h

/-- The helper over a table. -/
theorem lawfrom_any (p : Nat) (D : Pairs) (f : Nat → Prop) (x : ByteArray) (most : Nat) (w : World) (h : Tab w p D f) (hR : Rise D) (hn : D.length ≤ 9000) (hmost : most ≤ 9000) :
    Calls Try.prog 20 #[.pointer (some ⟨p, 0, none⟩), .string x, .int .i64 most] w (Collected ((fromD D x).take most) w) :=
  callsIn_wide.1 (lawfrom_gen Fence.wide 4 (fun _ => trivial) rfl wide_hW (by omega) (some ⟨p, 0, none⟩) x most w (fromD D x) _ hmost
    (from1_iter Fence.wide 3 (fun _ => trivial) rfl rfl wide_hW (by omega) _ _ p D x hR hn)
    (fun W f' hb hp hx hf => ⟨hp, hx, fun hh => (hf _ hh).2.1 rfl, f, h.stays hb.size (fun k hk => hb.block k (h.lt k hk)), fun k hk hf' => absurd (h.lt k hk) (Nat.not_lt.2 (hf k hf').1)⟩))

/-- The helper over a table that is nil. -/
theorem lawfrom_nil (x : ByteArray) (most : Nat) (w : World) (hmost : most ≤ 9000) :
    Calls Try.prog 20 #[.pointer none, .string x, .int .i64 most] w (Collected [] w) := by
  have := callsIn_wide.1 (lawfrom_gen Fence.wide 4 (fun _ => trivial) rfl wide_hW (by omega) none x most w [] _ hmost
    (from1_nil Fence.wide 3 (fun _ => trivial) rfl wide_hW (by omega) _ _ x)
    (fun W f' hb hp hx hf => ⟨hp, hx⟩))
  rwa [List.take_nil] at this

/-- All pairs of a table. -/
theorem lawall_any (p : Nat) (D : Pairs) (f : Nat → Prop) (w : World) (h : Tab w p D f) (hR : Rise D) (hn : D.length ≤ 2000) :
    Calls Try.prog 17 #[.pointer (some ⟨p, 0, none⟩)] w (Collected D w) := by
  have hh := lawfrom_any p D f ⟨#[]⟩ 2000 w h hR (by omega) (by omega)
  have e : (fromD D ⟨#[]⟩).take 2000 = D := by
    have e1 : fromD D ⟨#[]⟩ = D := List.filter_eq_self.2 fun q _ => by
      have : lt q.1 ⟨#[]⟩ = false := by
        unfold lt
        rw [show (⟨#[]⟩ : ByteArray).toList = [] by rw [ByteArray.toList_eq]]
        cases q.1.toList <;> rfl
      rw [this]; rfl
    rw [e1, List.take_of_length_le hn]
  rw [e] at hh
  have HH := Lib.hid (show Calls Try.prog 20 #[.pointer (some ⟨p, 0, none⟩), .string ⟨#[]⟩, .int .i64 2000] w (Collected D w) from hh)
  clear hh e h hR hn
  go_enter Try.func17, Try.ntmps17
  go_wp2_with fail
  refine HH.out.mono ?_
  rintro e w1 ⟨g, cap, rfl, hr, hb⟩
  have HE := Lib.hid (show Collected D w (.returned (.slice (some ⟨g, 0, none⟩) D.length cap)) w1 from ⟨g, cap, rfl, hr, hb⟩)
  clear hr hb
  go_wp2
  go_ret
  exact HE.out

end Go.Proofs.Ytkjkedaifdgjoaa
