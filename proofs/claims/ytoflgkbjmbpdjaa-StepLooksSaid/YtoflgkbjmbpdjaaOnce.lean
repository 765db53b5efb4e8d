/-
  The keys that stand in a list, rising, each once: step's own helper.
-/
import Derived.Test.YtoflgkbjmbpdjaaSortk
import Derived.Maps.OwnIn
import Derived.WalkSpells
namespace Go.Proofs.Ytoflgkbjmbpdjaa
open Go Go.RowKit Go.Shelf
attribute [local go_sem] Oper.semAt_some

/-- A slice of its own with just the keys R; what lay ahead of B lies as it lay. -/
def Keyed (R : List ByteArray) (B : Nat) (w : World) (e : Ending) (W' : World) : Prop :=
  ∃ g cap, e = .returned (.slice (some ⟨g, 0, none⟩) R.length cap) ∧ W'.ownsRow B 9 1 (.slice (some ⟨g, 0, none⟩) R.length cap) R.length (R.map Value.string) ∧ Below B w W'

/-- What stays while keys are put. -/
structure Put1 (B p : Nat) (T : List ByteArray) (w w1 : World) (k : Nat) (W : World) : Prop where
  tab : ∃ f, Tabb W p (putAll (T.take k)) f ∧ Step (fun k => k = p) f w1 W
  base : Below B w w1
  at_ : B ≤ p
  lt : p < w1.heap.size

theorem Put1.below {B p k : Nat} {T : List ByteArray} {w w1 W : World} (h : Put1 B p T w w1 k W) : Below B w W := by
  obtain ⟨f, _, hs⟩ := h.tab
  have h1 := h.at_
  have h2 := h.lt
  exact h.base.trans (hs.below (by omega) (fun k hk e => by subst e; omega))

theorem order_take {T : List ByteArray} (h : Order T) (k : Nat) (hk : k < T.length) : ∀ q ∈ putAll (T.take k), lt T[k] q.1 = false := by
  intro q hq
  have h1 : q.1 ∈ keysOf (putAll (T.take k)) := List.mem_map.2 ⟨q, hq, rfl⟩
  rw [mem_putAll] at h1
  obtain ⟨i, hi, he⟩ := List.getElem_of_mem h1
  rw [List.length_take] at hi
  rw [List.getElem_take] at he
  rw [← he]
  exact List.pairwise_iff_getElem.1 h i k (by omega) hk (by omega)

/-- What is owned between two rounds: the slice's variable; the slice's row. -/
def OutK (b B : Nat) (pre : Pairs) (f1 : Nat → Prop) (W : World) : Prop :=
  ∃ g cap, f1 = (fun k => k = b ∨ k = g) ∧ Boxed W b 35 (.slice (some ⟨g, 0, none⟩) pre.length cap) ∧
    W.ownsRow B 9 1 (.slice (some ⟨g, 0, none⟩) pre.length cap) pre.length ((keysOf pre).map Value.string)

theorem OutK.stable (b B : Nat) : Stable (OutK b B) := by
  rintro s f1 X Y ⟨g, cap, rfl, ho, hr⟩ hsz hbl
  refine ⟨g, cap, rfl, (hbl b (.inl rfl)).trans ho, ⟨hr.1, ?_⟩⟩
  rcases hr.2 with ⟨h, _⟩ | ⟨g', cap', cur, hv, hb, hg, rest⟩
  · cases h
  · obtain ⟨rfl, _⟩ : g = g' ∧ cap = cap' := by simpa using hv
    exact .inr ⟨g, cap', cur, hv, hb, (hbl g (.inr rfl)).trans hg, rest⟩

theorem OutK.bound (b B : Nat) : Bound (OutK b B) := by
  rintro s f1 X ⟨g, cap, rfl, ho, hr⟩ k hk
  rcases hk with rfl | rfl
  · exact ho.lt
  · exact (hr.lt k rfl).2

theorem fromD_nil (D : Pairs) : fromD D ⟨#[]⟩ = D := List.filter_eq_self.2 fun q _ => by
  have : lt q.1 ⟨#[]⟩ = false := by
    unfold lt
    rw [show (⟨#[]⟩ : ByteArray).toList = [] by rw [ByteArray.toList_eq]]
    cases q.1.toList <;> rfl
  rw [this]; rfl

theorem str_news (w : World) (a : ByteArray) (t : TypeId) : ∀ j u, [Value.string a][j]? = some u → (w.alloc (.cells #[.string a] t)).cell? ((⟨w.heap.size, 0, none⟩ : Addr).add j) = some u :=
  World.news_of_block (cs := #[.string a]) (heap_alloc_new w _)
theorem str_one (a : ByteArray) : ∀ u ∈ [Value.string a], u.oneCell' = true := by
  intro u hu; rw [List.mem_singleton.1 hu]; rfl

theorem Keyed.mk {R : List ByteArray} {B : Nat} {w w' : World} {D : Pairs} {g cap : Nat} (h : keysOf D = R) (hr : w'.ownsRow B 9 1 (.slice (some ⟨g, 0, none⟩) D.length cap) D.length ((keysOf D).map Value.string)) (hb : Below B w w') :
    Keyed R B w (.returned (.slice (some ⟨g, 0, none⟩) D.length cap)) w' := by
  subst h
  have e : (keysOf D).length = D.length := by simp [keysOf]
  exact ⟨g, cap, by rw [e], by rw [e]; exact hr, hb⟩

theorem slice_shape {B n : Nat} {t : TypeId} {w : World} {v : Value} {xs : List Value} (h : w.ownsRow B t 1 v n xs) : ∃ pa cap, v = .slice pa n cap := by
  rcases h.2 with ⟨rfl, rfl⟩ | ⟨g, cap, cur, rfl, _⟩
  · exact ⟨none, 0, rfl⟩
  · exact ⟨_, _, rfl⟩

set_option maxRecDepth 100000 in
set_option maxHeartbeats 4000000 in
theorem once_gen (F : Fence) (n : Nat) (hF : ∀ k, F.fn k) (hro : F.round = none) (hd : F.depth = none) (hW : Hid (∀ n f args w R, Calls Try.prog f args w R → CallsIn F n Try.prog f args w R)) (hn : 3 ≤ n) (B m : Nat) (K : List ByteArray) (v : Value) (w : World)
    (h : w.ownsRow B 9 1 v m (K.map Value.string)) (hB : B ≤ w.heap.size) (hm : m ≤ 100) (hk : ∀ k ∈ K, k.size ≤ 281474976710656) :
    CallsIn F n Try.prog 25 #[v] w (Keyed (onceD K) B w) := by
  have h1' : 1 ≤ n := by omega
  obtain ⟨i0, hi, hz0, hz1, hz2⟩ := info_parts info_string
  have hS := Lib.hid (sort_any B m K v w h (by omega))
  have hlt := fun k e => (h.lt k e).1
  have hl : K.length = m := by have := h.1; simpa using this
  obtain ⟨pa, cap, rfl⟩ := slice_shape h
  have HE := Lib.hid (onceD_congr (K := sortK K) (L := K) fun k => mem_sortK)
  have HO := Lib.hid (sortK_order K)
  have HK := Lib.hid (show ∀ k ∈ sortK K, k.size ≤ 281474976710656 from fun k h => hk k (mem_sortK.1 h))
  have HL := Lib.hid ((sortK_length K).trans hl)
  obtain ⟨T, hT⟩ : ∃ T, sortK K = T := ⟨_, rfl⟩
  rw [hT] at hS HE HO HK HL
  have HLT := Lib.hid hlt
  clear h hk hl hT hlt
  refine callsIn_of_wp_marks Try.func25 rfl (hF _) ?_ hro
  simp only [Try.ntmps25, List.size_toArray, List.length_cons, List.length_nil, Nat.reduceAdd, Nat.reduceSub, Array.replicate_succ, Array.replicate_zero, List.push_toArray, List.append_toArray, List.nil_append, List.cons_append]
  gi_wp2_with (first
    | (gi_at_call 29; refine (hW.out _ _ _ _ _ hS.out).mono ?_; rintro e w1 ⟨rfl, hrow, hgrow⟩; have HR := Lib.hid hrow; have HB1 := Lib.hid ((Below.refl B w).grown hgrow hB HLT.out); clear hrow hgrow)
    | (gi_at_call 30; refine (hW.out _ _ _ _ _ (new_any_b _)).mono ?_; rintro e w2 ⟨rfl, rfl⟩))
  gi_loopw [13] (fun s wr => ∃ k : Nat, s = .int .i64 k ∧ k ≤ m ∧ Put1 B w1.heap.size T w (w1.alloc (.cells #[.slice none 0 0, .slice none 0 0] 59)) k wr) (fun s _ => m - (intOf s).toNat)
  case atStart =>
    exact ⟨0, rfl, Nat.zero_le _, ⟨⟨_, tab_new_b w1, Step.refl _ _⟩, HB1.out.alloc (Nat.le_trans hB HB1.out.size) _, Nat.le_trans hB HB1.out.size, by simp⟩⟩
  case round =>
    obtain ⟨k, rfl, hkm, hput⟩ := hrel
    have HP := Lib.hid hput
    clear hput
    by_cases hlt : k < m
    · have hkT : k < T.length := by rw [HL.out]; exact hlt
      obtain ⟨f, hTab, hst⟩ := HP.out.tab
      obtain ⟨g, rfl, hcell⟩ : ∃ g, pa = some ⟨g, 0, none⟩ ∧ wr.cell? ⟨g, k, none⟩ = some (.string T[k]) := by
        have hr := HR.out
        rcases hr.2 with ⟨hv, h0⟩ | ⟨g, cap', cur, hv, _⟩
        · omega
        · obtain ⟨rfl, rfl⟩ : pa = some ⟨g, 0, none⟩ ∧ cap = cap' := by simpa using hv
          refine ⟨g, rfl, ?_⟩
          have hgl := (hr.lt g rfl).2
          have h1 := hr.cells (g := g) rfl k (.string T[k]) (by simp [List.getElem?_eq_getElem hkT])
          rw [Addr.add_lit, Nat.zero_add] at h1
          have h2 := hst.block g (by simp; omega) (fun e => by omega)
          have h3 := Below.heap_alloc w1 (.cells #[.slice none 0 0, .slice none 0 0] 59) g hgl
          exact (World.cell?_of_block (w := w1) (a := ⟨g, k, none⟩) (h2.trans h3)).trans h1
      have HC := Lib.hid (show putAll (T.take (k + 1)) = putD (putAll (T.take k)) T[k] ⟨#[]⟩ by rw [List.take_succ_eq_append_getElem hkT, putAll_snoc])
      have hle := length_putAll (T.take k)
      rw [List.length_take] at hle
      have HPut := Lib.hid (put_any_b w1.heap.size (putAll (T.take k)) f T[k] wr hTab (rise_putAll _) (by omega) (HK.out _ (List.getElem_mem hkT)) (order_take HO.out k hkT))
      have HSt := Lib.hid hst
      obtain ⟨x, hx⟩ : ∃ x, T[k] = x := ⟨_, rfl⟩
      rw [hx] at hcell HC HPut
      clear hx hkT hTab hst hle
      gi_wp2_with (gi_at_call 31; refine (hW.out _ _ _ _ _ HPut.out).mono ?_; rintro e w3 ⟨f', rfl, hT3, hs3⟩)
      have HN := Lib.hid (show Put1 B w1.heap.size T w (w1.alloc (.cells #[.slice none 0 0, .slice none 0 0] 59)) (k + 1) w3 from ⟨⟨f', by rw [HC.out]; exact hT3, HSt.out.trans hs3⟩, HP.out.base, HP.out.at_, HP.out.lt⟩)
      clear hT3 hs3
      gi_wp2
      go_roundw
      case rel => exact ⟨k + 1, by go_num, by omega, HN.out⟩
      case measure => simp [intOf]; omega
    · obtain rfl : k = m := by omega
      obtain ⟨f, hTab, hst⟩ := HP.out.tab
      have hD : putAll (T.take k) = putAll T := by rw [List.take_of_length_le (by rw [HL.out]; exact Nat.le_refl _)]
      rw [hD] at hTab
      have hle := length_putAll T
      rw [HL.out] at hle
      have HLen := Lib.hid (len_any_b _ _ _ _ hTab)
      have HTab := Lib.hid hTab
      have HBw := Lib.hid HP.out.below
      have HRi := Lib.hid (rise_putAll T)
      have HKe := Lib.hid (show keysOf (putAll T) = onceD K from HE.out)
      obtain ⟨D, hDD⟩ : ∃ D, putAll T = D := ⟨_, rfl⟩
      rw [hDD] at HLen HTab hle HRi HKe
      obtain ⟨d, hd'⟩ : ∃ d, D.length = d := ⟨_, rfl⟩
      rw [hd'] at HLen hle
      have HDl := Lib.hid hd'
      have hBr : B ≤ wr.heap.size := Nat.le_trans hB HBw.out.size
      have hpr : w1.heap.size < wr.heap.size := HTab.out.lt _ HTab.out.self
      clear hTab hst hD hDD hd' HP
      have hdb : (d : Int) ≤ 9223372036854775807 := by omega
      gi_wp2_with (first
        | (gi_at_call 32; refine (hW.out _ _ _ _ _ HLen.out).mono ?_; rintro e w' ⟨rfl, rfl⟩)
        | (gi_at_make; refine wpListIn_make_own _ rfl _ _ 35 rfl B 9 i0 (.string ⟨#[]⟩) 1 Try.underlying35 hi hz0 hz1 .i64 .i64 d d rfl rfl rfl (by rw [hz2]; omega) (by unfold maxLen; omega) hBr ?_; intro w4 hown4 hgrow4; have HW4 := Lib.hid hown4; have HG4 := Lib.hid hgrow4; clear hown4 hgrow4)
        | (gi_at_call 33; refine (hW.out _ _ _ _ _ (from_any_b _ _ _)).mono ?_; rintro e w' ⟨rfl, rfl⟩))
      have hbl4 : ∀ k, k < wr.heap.size → w4.heap[k]? = wr.heap[k]? := fun k hk => HG4.out.block k hk (by simp)
      have hsz4 : wr.heap.size < w4.heap.size := (HW4.out.lt _ rfl).2
      have bO := ((Boxed.new w4 35 (.slice (some ⟨wr.heap.size, 0, none⟩) 0 d)).alloc (.cells #[.pointer (some ⟨w1.heap.size, 0, none⟩)] 47)).alloc (.cells #[.string ⟨#[]⟩] 9)
      have bP := (Boxed.new (w4.alloc (.cells #[.slice (some ⟨wr.heap.size, 0, none⟩) 0 d] 35)) 47 (.pointer (some ⟨w1.heap.size, 0, none⟩))).alloc (.cells #[.string ⟨#[]⟩] 9)
      have bS := Boxed.new ((w4.alloc (.cells #[.slice (some ⟨wr.heap.size, 0, none⟩) 0 d] 35)).alloc (.cells #[.pointer (some ⟨w1.heap.size, 0, none⟩)] 47)) 9 (.string ⟨#[]⟩)
      have rN := ((HW4.out.alloc (.cells #[.slice (some ⟨wr.heap.size, 0, none⟩) 0 d] 35)).alloc (.cells #[.pointer (some ⟨w1.heap.size, 0, none⟩)] 47)).alloc (.cells #[.string ⟨#[]⟩] 9)
      have hB4 : Below w4.heap.size w4 (((w4.alloc (.cells #[.slice (some ⟨wr.heap.size, 0, none⟩) 0 d] 35)).alloc (.cells #[.pointer (some ⟨w1.heap.size, 0, none⟩)] 47)).alloc (.cells #[.string ⟨#[]⟩] 9)) :=
        (((Below.refl _ w4).alloc (Nat.le_refl _) _).alloc (by simp) _).alloc (by simp; omega) _
      have hsz : (((w4.alloc (.cells #[.slice (some ⟨wr.heap.size, 0, none⟩) 0 d] 35)).alloc (.cells #[.pointer (some ⟨w1.heap.size, 0, none⟩)] 47)).alloc (.cells #[.string ⟨#[]⟩] 9)).heap.size = w4.heap.size + 1 + 1 + 1 := by simp
      simp only [World.size_alloc] at bP bS
      obtain ⟨W0, hW0⟩ : ∃ W0, (((w4.alloc (.cells #[.slice (some ⟨wr.heap.size, 0, none⟩) 0 d] 35)).alloc (.cells #[.pointer (some ⟨w1.heap.size, 0, none⟩)] 47)).alloc (.cells #[.string ⟨#[]⟩] 9)) = W0 := ⟨_, rfl⟩
      rw [hW0] at bO bP bS rN hB4 hsz ⊢
      clear hW0
      have hBall : Below B w W0 := HBw.out.trans (((Below.refl B wr).grown HG4.out hBr (fun k e => by cases e)).trans (hB4.mono (by omega)))
      have HIt := Lib.hid (from1_iter_b F (n - 1) hF hro hd hW (by omega) (w4.heap.size + 1) (w4.heap.size + 1 + 1) w1.heap.size D ⟨#[]⟩ HRi.out (by have := HDl.out; omega))
      rw [fromD_nil] at HIt
      have HPre : Hid (∀ W1, Below W0.heap.size W0 W1 → W1.cell? ⟨w4.heap.size + 1, 0, none⟩ = some (.pointer (some ⟨w1.heap.size, 0, none⟩)) ∧ W1.cell? ⟨w4.heap.size + 1 + 1, 0, none⟩ = some (.string ⟨#[]⟩) ∧
          ¬ ((w4.heap.size + 1 = w4.heap.size ∨ w4.heap.size + 1 = wr.heap.size) ∨ w4.heap.size + 1 = W0.heap.size ∨ w4.heap.size + 1 = W0.heap.size + 1) ∧
          ∃ ft, Tabb W1 w1.heap.size D ft ∧ ∀ k, ft k → ¬ ((k = w4.heap.size ∨ k = wr.heap.size) ∨ k = W0.heap.size ∨ k = W0.heap.size + 1)) := fun W1 hb1 =>
        ⟨(World.cell?_of_block (hb1.block (w4.heap.size + 1) (by omega))).trans bP.cell, (World.cell?_of_block (hb1.block (w4.heap.size + 1 + 1) (by omega))).trans bS.cell, by omega, f,
          HTab.out.stays (by have := hb1.size; omega) (fun k hk => by
            have h1 := HTab.out.lt k hk
            exact (hb1.block k (by omega)).trans ((hB4.block k (by omega)).trans (hbl4 k h1))),
          fun k hk => by have h1 := HTab.out.lt k hk; omega⟩
      refine wpIn_rangeFunc_foot hro h1' (gf := 40) (lb := #[.pointer (some ⟨w4.heap.size + 1, 0, none⟩), .pointer (some ⟨w4.heap.size + 1 + 1, 0, none⟩)]) rfl (hF _) (enters_of Try.func40 (by kernel_rfl) rfl)
        HIt.out (fun _ => rfl) (OutK w4.heap.size B) (fun _ _ _ _ => False)
        (OutK.stable _ _) (fun c s f1 A B hs hsz hbl => hs) (OutK.bound _ _)
        (fun k => k = w4.heap.size ∨ k = wr.heap.size)
        ⟨wr.heap.size, d, rfl, bO, rN⟩ HPre.out
        (fun q => { tmps := #[.slice pa k cap, undef, .slice none 0 0, .pointer (some ⟨w1.heap.size, 0, none⟩), undef, u5, .pointer (some ⟨w4.heap.size, 0, none⟩), .string q.1, .slice pa k cap, .tuple #[], .pointer (some ⟨w1.heap.size, 0, none⟩), .slice pa k cap,
          .int .i64 k, .int .i64 k, .bool false, u15, u16, u17, u18, u19, u20, .pointer (some ⟨w1.heap.size, 0, none⟩), .int .i64 d, .slice (some ⟨wr.heap.size, 0, none⟩) 0 d, .pointer (some ⟨w1.heap.size, 0, none⟩),
          .func (.func 40) #[] #[.pointer (some ⟨w4.heap.size + 1, 0, none⟩), .pointer (some ⟨w4.heap.size + 1 + 1, 0, none⟩)], .string q.1, .bool true, undef, undef, undef, undef, undef], defers := [] }) ?assign ?body ?done ?stop
      case assign =>
        intro l2 q Wx K hK
        gi_wp2
        exact hK
      case body =>
        rintro l2 pre ⟨a, b⟩ post f1 Wx hcut ⟨g, cap, rfl, hv, hrow⟩ hle
        have hcO := hv.cell
        have hlen : pre.length < 200 := by
          have h1 := HDl.out
          rw [hcut] at h1
          simp at h1
          omega
        clear hcut
        have hBx : B ≤ Wx.heap.size := by omega
        gi_wp2_with (gi_at_builtin; refine wpListIn_append_own_at _ rfl _ _ 35 rfl B 9 i0 (.string ⟨#[]⟩) 1 16 Try.underlying35 hi hz0 hz1 hz2 rfl (by decide) (.slice (some ⟨g, 0, none⟩) pre.length cap) pre.length ((keysOf pre).map Value.string) rfl (hrow.alloc _) ⟨Wx.heap.size, 0, none⟩ 1 1 [.string a] rfl rfl (str_news _ _ _) (str_one _) (by simp only [maxLen]; omega) (by omega) (by simp; omega) ?_; intro v' w5 hown' hgrow _ hat; obtain ⟨g', cap', rfl⟩ := ownsRow_succ hown'; obtain ⟨hv1, hv2, hr2, hk2, hb2⟩ := hv.appended (by decide) hrow hBx (by omega) hown' hgrow; have hc1 := hv1.cell; have hf1 := hv1.frozen)
        have hg' : g' = g ∨ g' = Wx.heap.size + 1 := by simpa [Value.ownBlock] using hat
        refine ⟨fun k => k = w4.heap.size ∨ k = g', ⟨hb2.os, hb2.tape, hb2.output, hb2.size, fun k hk hn => ?_, fun k hk => ?_⟩, g', cap', rfl, ?_, ?_⟩
        · exact (Below.heap_setCell w5 _ _ k (fun e => hn (.inl e))).trans ((hgrow.block k (by simp; omega) (by intro e; exact hn (.inr (by simpa [Value.ownBlock] using e)))).trans (Below.heap_alloc Wx _ k hk))
        · omega
        · simpa using hv2
        · have e : keysOf (pre ++ [(a, b)]) = keysOf pre ++ [a] := by simp [keysOf]
          rw [e]; simpa using hr2
      case stop =>
        intro D c ys f' Wd hD hnD hstd hpx hx hK
        exact hx.elim
      case done =>
        rintro DD f' Wd hD hnD hstd ⟨g, cap, rfl, hv, hrow⟩ hK
        have hcO := hv.cell
        gi_wp2
        refine ⟨by simp, .inl ⟨_, _, rfl, run_takeDeferred hK, ?_⟩⟩
        refine ⟨_, results_tmp rfl _ _ _, Keyed.mk HKe.out (ownsRow_putObj hrow _ hK rfl) ?_⟩
        exact hBall.trans ((hstd.below (n := B) (by omega) (fun k hk h => by omega)).trans (belowK_b (w := W0) (by omega) Wd DD _ _ (by omega) hK rfl rfl))

theorem wide_hW : Hid (∀ n f args w R, Calls Try.prog f args w R → CallsIn Fence.wide n Try.prog f args w R) := fun _ _ _ _ _ h => callsIn_wide.2 h

theorem once_any (B m : Nat) (K : List ByteArray) (v : Value) (w : World) (h : w.ownsRow B 9 1 v m (K.map Value.string)) (hB : B ≤ w.heap.size) (hm : m ≤ 100) (hk : ∀ k ∈ K, k.size ≤ 281474976710656) :
    Calls Try.prog 25 #[v] w (Keyed (onceD K) B w) :=
  callsIn_wide.1 (once_gen Fence.wide 4 (fun _ => trivial) rfl rfl wide_hW (by omega) B m K v w h hB hm hk)

end Go.Proofs.Ytoflgkbjmbpdjaa
