/-
  stir.Way, and the function that it hands out: the places from where a way begins to the width's end, then those from 0 on to where it began, whatever the caller does with them.
-/
import Derived.Test.YtpfbgojgikkgbaaSpan
import Derived.Test.YtpfbgojgikkgbaaNums
import Derived.Sort.CutIn
namespace Go.Proofs.Ytpfbgojgikkgbaa
open Go Go.RowKit Go.Shelf
attribute [local go_sem] Oper.semAt_some

set_option maxHeartbeats 400000 in
theorem wayf_any (n m : Int) (w : World) (h0 : 0 ≤ n) (h1 : n ≤ 18446744073709551615) (hc1 : m ≤ 9223372036854775807) :
    Calls Try.prog 18 #[.int .u64 n, .int .i64 m] w fun e w' =>
      e = .returned (.func (.func 19) #[] #[.pointer (some ⟨w.heap.size + 1, 0, none⟩), .pointer (some ⟨w.heap.size, 0, none⟩)]) ∧
      w' = (w.alloc (.cells #[.int .i64 m] 3)).alloc (.cells #[.int .i64 (startOf n m)] 3) := by
  have hs0 := (startOf_bd n m).1
  go_enter Try.func18, Try.ntmps18
  go_wp2_with (go_at_call 11; refine (start_any _ _ _ (by omega) (by omega) (by omega)).mono ?_; rintro e w' ⟨rfl, rfl⟩)
  go_ret
  exact ⟨rfl, rfl⟩

theorem index0 (x0 x1 : Value) (w : World) : (Instr.index 42 (.agg #[x0, x1]) (.int .i64 0)).run Try.prog w = .ok x0 w := by kernel_rfl
theorem index1 (x0 x1 : Value) (w : World) : (Instr.index 42 (.agg #[x0, x1]) (.int .i64 1)).run Try.prog w = .ok x1 w := by kernel_rfl

/-- The places of a way, as the program goes over them. -/
def wayList (s m : Int) : List Int := spanList s m ++ spanList 0 s

set_option maxRecDepth 100000 in
set_option maxHeartbeats 1000000 in
theorem way1_iter (F : Fence) (n : Nat) (hf : F.fn 19) (hf2 : F.fn 20) (hf3 : F.fn 21) (hro : F.round = none) (hd : F.depth = none) (hn : 4 ≤ n) (bs bw : Nat) (s m : Int) (hs0 : 0 ≤ s) (hs1 : s ≤ 9223372036854775807) (hm : m ≤ 9223372036854775807) :
    Iter F n Try.prog 19 #[.pointer (some ⟨bs, 0, none⟩), .pointer (some ⟨bw, 0, none⟩)] (fun x : Int => #[.int .i64 x]) (wayList s m)
      (fun _ W => W.cell? ⟨bs, 0, none⟩ = some (.int .i64 s) ∧ W.cell? ⟨bw, 0, none⟩ = some (.int .i64 m)) := by
  intro l J Jx W f hJ hJx bJ hpre hY h0
  obtain ⟨hc1, hc2⟩ := hpre
  have hlt1 : bs < W.heap.size := by obtain ⟨o, ho, _⟩ := cells_of_cell hc1; exact (Array.getElem?_eq_some_iff.1 ho).1
  have hlt2 : bw < W.heap.size := by obtain ⟨o, ho, _⟩ := cells_of_cell hc2; exact (Array.getElem?_eq_some_iff.1 ho).1
  have hl1 : bs < W.heap.size + 1 := by omega
  have hl2 : bs < W.heap.size + 1 + 1 := by omega
  have hl3 : bs < W.heap.size + 1 + 1 + 1 := by omega
  have hl4 : bs < W.heap.size + 1 + 1 + 1 + 1 := by omega
  have hk1 : bw < W.heap.size + 1 := by omega
  have hk2 : bw < W.heap.size + 1 + 1 := by omega
  have hk3 : bw < W.heap.size + 1 + 1 + 1 := by omega
  have hk4 : bw < W.heap.size + 1 + 1 + 1 + 1 := by omega
  have hmix : Try.prog.follows .mixedOrders = true := by kernel_rfl
  have h1 : 1 ≤ n := by omega
  refine callsIn_of_wp_marks Try.func19 rfl hf ?_ hro
  simp only [Try.ntmps19, List.size_toArray, List.length_cons, List.length_nil, Nat.reduceAdd, Nat.reduceSub, Array.replicate_succ, Array.replicate_zero, List.push_toArray, List.append_toArray, List.nil_append, List.cons_append]
  gi_wp2
  gi_cut [12, 13] from 7 (fun s12 s13 wc => s12 = .agg #[.func (.func 21) #[] #[.pointer (some ⟨W.heap.size + 1, 0, none⟩), .pointer (some ⟨W.heap.size + 1 + 1, 0, none⟩)], .func (.func 21) #[] #[.pointer (some ⟨W.heap.size + 1 + 1 + 1, 0, none⟩), .pointer (some ⟨W.heap.size + 1 + 1 + 1 + 1, 0, none⟩)]] ∧ s13 = .int .i64 0 ∧
    wc = (((((W.alloc (.cells #[.func (.yield l) #[] #[]] 40)).alloc (.cells #[.int .i64 s] 3)).alloc (.cells #[.int .i64 m] 3)).alloc (.cells #[.int .i64 0] 3)).alloc (.cells #[.int .i64 s] 3)).drew)
  case first =>
    rename_i Jc Kc hJc hKc
    gi_region_with_o (gi_at_call 20; refine (span_in F (n - 1) hf2 hro _ _ _).mono ?_; rintro e w' ⟨rfl, rfl⟩)
    all_goals (show Kc _ _; refine hKc _ _ (Met.intro (hJc _ _ ?_)); (repeat apply Exists.intro); exact ⟨⟨rfl, rfl, rfl⟩, rfl⟩)
  case rest =>
    obtain ⟨rfl, rfl, hwc⟩ := hcut
    have bY := ((((Boxed.new W 40 (.func (.yield l) #[] #[])).alloc (.cells #[.int .i64 s] 3)).alloc (.cells #[.int .i64 m] 3)).alloc (.cells #[.int .i64 0] 3)).alloc (.cells #[.int .i64 s] 3)
    replace bY : Boxed wc W.heap.size 40 (.func (.yield l) #[] #[]) := by rw [hwc]; exact bY
    have b1 := (((Boxed.new (W.alloc (.cells #[.func (.yield l) #[] #[]] 40)) 3 (.int .i64 s)).alloc (.cells #[.int .i64 m] 3)).alloc (.cells #[.int .i64 0] 3)).alloc (.cells #[.int .i64 s] 3)
    replace b1 : Boxed wc (W.heap.size + 1) 3 (.int .i64 s) := by simp only [World.size_alloc] at b1; rw [hwc]; exact b1
    have b2 := ((Boxed.new ((W.alloc (.cells #[.func (.yield l) #[] #[]] 40)).alloc (.cells #[.int .i64 s] 3)) 3 (.int .i64 m)).alloc (.cells #[.int .i64 0] 3)).alloc (.cells #[.int .i64 s] 3)
    replace b2 : Boxed wc (W.heap.size + 1 + 1) 3 (.int .i64 m) := by simp only [World.size_alloc] at b2; rw [hwc]; exact b2
    have b3 := (Boxed.new (((W.alloc (.cells #[.func (.yield l) #[] #[]] 40)).alloc (.cells #[.int .i64 s] 3)).alloc (.cells #[.int .i64 m] 3)) 3 (.int .i64 0)).alloc (.cells #[.int .i64 s] 3)
    replace b3 : Boxed wc (W.heap.size + 1 + 1 + 1) 3 (.int .i64 0) := by simp only [World.size_alloc] at b3; rw [hwc]; exact b3
    have b4 := Boxed.new ((((W.alloc (.cells #[.func (.yield l) #[] #[]] 40)).alloc (.cells #[.int .i64 s] 3)).alloc (.cells #[.int .i64 m] 3)).alloc (.cells #[.int .i64 0] 3)) 3 (.int .i64 s)
    replace b4 : Boxed wc (W.heap.size + 1 + 1 + 1 + 1) 3 (.int .i64 s) := by simp only [World.size_alloc] at b4; rw [hwc]; exact b4
    have hst : Step f f W wc := by rw [hwc]; exact (((((Step.refl f W).alloc _).alloc _).alloc _).alloc _).alloc _ |>.drew
    have hB : Below W.heap.size W wc := by
      rw [hwc]; exact ((((((Below.refl _ W).alloc (Nat.le_refl _) _).alloc (by simp) _).alloc (by simp; omega) _).alloc (by simp; omega) _).alloc (by simp; omega) _).drew
    have hJ0 : J [] f wc := hJ _ _ _ _ h0 hB.size (fun k hk => hB.block k (bJ _ _ _ h0 k hk))
    have hsz : wc.heap.size = W.heap.size + 1 + 1 + 1 + 1 + 1 := by rw [hwc]; simp
    clear hwc hc1 hc2
    have i0 := index0 (.func (.func 21) #[] #[.pointer (some ⟨W.heap.size + 1, 0, none⟩), .pointer (some ⟨W.heap.size + 1 + 1, 0, none⟩)]) (.func (.func 21) #[] #[.pointer (some ⟨W.heap.size + 1 + 1 + 1, 0, none⟩), .pointer (some ⟨W.heap.size + 1 + 1 + 1 + 1, 0, none⟩)])
    have i1 := index1 (.func (.func 21) #[] #[.pointer (some ⟨W.heap.size + 1, 0, none⟩), .pointer (some ⟨W.heap.size + 1 + 1, 0, none⟩)]) (.func (.func 21) #[] #[.pointer (some ⟨W.heap.size + 1 + 1 + 1, 0, none⟩), .pointer (some ⟨W.heap.size + 1 + 1 + 1 + 1, 0, none⟩)])
    gi_wp2
    refine wpIn_loop_rounds 3 ?_
    rw [roundsIn_succ]
    gi_wp2
    -- the first part: from where the way begins on
    refine wpIn_rangeFunc_foot hro h1 (gf := 21) (lb := #[.pointer (some ⟨W.heap.size + 1, 0, none⟩), .pointer (some ⟨W.heap.size + 1 + 1, 0, none⟩)]) rfl hf3 (enters_of Try.func21 (by kernel_rfl) rfl)
      (span1_iter F (n - 1) hf3 hro (by omega) (W.heap.size + 1) (W.heap.size + 1 + 1) s m (by omega) hm) (fun _ => rfl)
      (InI J [] (fun k => k = W.heap.size ∨ k = W.heap.size + 1 + 1 + 1 ∨ k = W.heap.size + 1 + 1 + 1 + 1) wc)
      (fun c pre f1 Wx => c = .ret ∧ InI Jx [] (fun k => k = W.heap.size ∨ k = W.heap.size + 1 + 1 + 1 ∨ k = W.heap.size + 1 + 1 + 1 + 1) wc pre f1 Wx)
      (InI.stable hJ _ _ _) (fun c s f1 A B hs hsz hbl => ⟨hs.1, InI.stable hJx _ _ _ _ _ _ _ hs.2 hsz hbl⟩) (InI.bound bJ _ _ _)
      (fun k => f k ∨ (k = W.heap.size ∨ k = W.heap.size + 1 + 1 + 1 ∨ k = W.heap.size + 1 + 1 + 1 + 1))
      ⟨f, rfl, hJ0, fun k hk => ⟨by omega, rfl, fun h => absurd (bJ _ _ _ h0 k h) (by omega)⟩⟩
      (fun W1 hb1 => ⟨(World.cell?_of_block (hb1.block (W.heap.size + 1) (by omega))).trans b1.cell, (World.cell?_of_block (hb1.block (W.heap.size + 1 + 1) (by omega))).trans b2.cell,
        fun h => by rcases h with (h | h) | h; · exact absurd (bJ _ _ _ h0 _ h) (by omega)
                    · omega
                    · omega⟩)
      (fun x => { tmps := #[.func (.yield l) #[] #[], .pointer (some ⟨bs, 0, none⟩), .pointer (some ⟨bw, 0, none⟩), .pointer (some ⟨W.heap.size, 0, none⟩), undef,
        .func (.func 21) #[] #[.pointer (some ⟨W.heap.size + 1, 0, none⟩), .pointer (some ⟨W.heap.size + 1 + 1, 0, none⟩)], .int .i64 x, u7, u8, u9, u10, u11,
        .agg #[.func (.func 21) #[] #[.pointer (some ⟨W.heap.size + 1, 0, none⟩), .pointer (some ⟨W.heap.size + 1 + 1, 0, none⟩)], .func (.func 21) #[] #[.pointer (some ⟨W.heap.size + 1 + 1 + 1, 0, none⟩), .pointer (some ⟨W.heap.size + 1 + 1 + 1 + 1, 0, none⟩)]],
        .int .i64 0, .bool true, .func (.func 21) #[] #[.pointer (some ⟨W.heap.size + 1, 0, none⟩), .pointer (some ⟨W.heap.size + 1 + 1, 0, none⟩)], .func (.func 21) #[] #[.pointer (some ⟨W.heap.size + 1, 0, none⟩), .pointer (some ⟨W.heap.size + 1 + 1, 0, none⟩)],
        .int .i64 x, u18, u19, u20, u21, u22], defers := [] }) ?assign ?body ?done ?stop
    case assign =>
      intro l2 x Wx K hK
      gi_wp2
      exact hK
    case body =>
      rintro l2 pre x post f1 Wx hcut ⟨fJ, rfl, hj, hO⟩ hle
      have hY' := hY pre x (post ++ spanList 0 s) fJ Wx (by unfold wayList; rw [hcut]; simp) hj
      obtain ⟨fn, tmps, assign, body, hy, hR⟩ := yieldAt_any hd (n - 1 - 1 - 1) hY'
      have cY : Wx.cell? ⟨W.heap.size, 0, none⟩ = some (.func (.yield l) #[] #[]) := (World.cell?_of_block (hO _ (.inl rfl)).2.1).trans bY.cell
      clear hcut hY'
      gi_wp2
      refine hR.mono ?_
      rintro e W3 (⟨rfl, f3, hs3, hJ3⟩ | ⟨rfl, f3, hs3, hJx3⟩)
      · gi_wp2
        exact InI.next hO hs3 (by simpa using hJ3)
      · gi_wp2
        obtain ⟨f', h1', h2'⟩ := InI.next (J := Jx) (p0 := []) (pre := pre ++ [x]) (w0 := wc) hO hs3 (by simpa using hJx3)
        exact ⟨f', h1', rfl, h2'⟩
    case stop =>
      rintro D c pre f' Wd hD hnD hstd hpx ⟨rfl, fJ, rfl, hj, hO⟩ hK
      gi_wp2
      refine ⟨by simp, .inl ⟨_, _, rfl, run_takeDeferred hK, ?_⟩⟩
      refine ⟨_, results_none rfl _ _ _, ⟨_, rfl⟩, .inr ⟨pre, fJ, ?_, (hst.join hstd (fun k hk => by omega)).putObj (by omega) _, ?_⟩⟩
      · exact hpx.trans (List.prefix_append _ _)
      · exact hJx _ _ _ _ (by simpa using hj) (by simp) (fun k hk => World.putObj_heap_other (fun e => hnD (.inl (e ▸ hk))))
    case done =>
      rintro D f' Wd hD hnD hstd ⟨fJ, rfl, hj, hO⟩ hK
      gi_wp2
      rw [roundsIn_succ]
      gi_wp2
      -- the second part: from 0 on to where the way began
      have hDlt : D < Wd.heap.size := (Array.getElem?_eq_some_iff.1 hK).1
      have hst1 : Step f fJ W Wd := hst.join hstd (fun k hk => by omega)
      have hsz1 := hst1.size
      have hszd := hstd.size
      have nJ : ∀ k, fJ k → f k ∨ wc.heap.size ≤ k := fun k hk => (hstd.foot k (.inl hk)).elim (fun h => h.elim .inl (fun h => absurd hk ((hO k h).2.2))) .inr
      have b3' : Boxed Wd (W.heap.size + 1 + 1 + 1) 3 (.int .i64 0) := (hO _ (.inr (.inl rfl))).2.1.trans b3
      have b4' : Boxed Wd (W.heap.size + 1 + 1 + 1 + 1) 3 (.int .i64 s) := (hO _ (.inr (.inr rfl))).2.1.trans b4
      have bY' : Boxed Wd W.heap.size 40 (.func (.yield l) #[] #[]) := (hO _ (.inl rfl)).2.1.trans bY
      have hnY : ¬ fJ W.heap.size := (hO _ (.inl rfl)).2.2
      have hn4 : ¬ fJ (W.heap.size + 1 + 1 + 1 + 1) := (hO _ (.inr (.inr rfl))).2.2
      have hnD' : ¬ fJ D := fun h => hnD (.inl h)
      have hjd : J (spanList s m ++ []) fJ Wd := by simpa using hj
      clear hO hstd hj b1 b2 b3 b4 bY hJ0 hB hst hnD
      refine wpIn_rangeFunc_foot hro h1 (gf := 21) (lb := #[.pointer (some ⟨W.heap.size + 1 + 1 + 1, 0, none⟩), .pointer (some ⟨W.heap.size + 1 + 1 + 1 + 1, 0, none⟩)]) rfl hf3 (enters_of Try.func21 (by kernel_rfl) rfl)
        (span1_iter F (n - 1) hf3 hro (by omega) (W.heap.size + 1 + 1 + 1) (W.heap.size + 1 + 1 + 1 + 1) 0 s (by omega) hs1) (fun _ => rfl)
        (InI J (spanList s m) (fun k => k = W.heap.size) Wd)
        (fun c pre f1 Wx => c = .ret ∧ InI Jx (spanList s m) (fun k => k = W.heap.size) Wd pre f1 Wx)
        (InI.stable hJ _ _ _) (fun c s f1 A B hs hsz hbl => ⟨hs.1, InI.stable hJx _ _ _ _ _ _ _ hs.2 hsz hbl⟩) (InI.bound bJ _ _ _)
        (fun k => fJ k ∨ k = W.heap.size)
        ⟨fJ, rfl, hjd, fun k hk => ⟨by omega, rfl, hk ▸ hnY⟩⟩
        (fun W1 hb1 => ⟨(World.cell?_of_block (hb1.block (W.heap.size + 1 + 1 + 1) (by omega))).trans b3'.cell, (World.cell?_of_block (hb1.block (W.heap.size + 1 + 1 + 1 + 1) (by omega))).trans b4'.cell,
          fun h => by rcases h with (h | h) | h; · exact hn4 h
                      · omega
                      · omega⟩)
        (fun x => { tmps := #[.func (.yield l) #[] #[], .pointer (some ⟨bs, 0, none⟩), .pointer (some ⟨bw, 0, none⟩), .pointer (some ⟨W.heap.size, 0, none⟩), undef,
          .func (.func 21) #[] #[.pointer (some ⟨W.heap.size + 1 + 1 + 1, 0, none⟩), .pointer (some ⟨W.heap.size + 1 + 1 + 1 + 1, 0, none⟩)], .int .i64 x, u7, u8, u9, u10, u11,
          .agg #[.func (.func 21) #[] #[.pointer (some ⟨W.heap.size + 1, 0, none⟩), .pointer (some ⟨W.heap.size + 1 + 1, 0, none⟩)], .func (.func 21) #[] #[.pointer (some ⟨W.heap.size + 1 + 1 + 1, 0, none⟩), .pointer (some ⟨W.heap.size + 1 + 1 + 1 + 1, 0, none⟩)]],
          .int .i64 1, .bool true, .func (.func 21) #[] #[.pointer (some ⟨W.heap.size + 1 + 1 + 1, 0, none⟩), .pointer (some ⟨W.heap.size + 1 + 1 + 1 + 1, 0, none⟩)], .func (.func 21) #[] #[.pointer (some ⟨W.heap.size + 1 + 1 + 1, 0, none⟩), .pointer (some ⟨W.heap.size + 1 + 1 + 1 + 1, 0, none⟩)],
          .int .i64 x, u18, u19, u20, u21, .int .i64 1], defers := [] }) ?assign2 ?body2 ?done2 ?stop2
      case assign2 =>
        intro l2 x Wx K hK
        gi_wp2
        exact hK
      case body2 =>
        rintro l2 pre x post f1 Wx hcut ⟨fJ2, rfl, hj, hO⟩ hle
        have hY' := hY (spanList s m ++ pre) x post fJ2 Wx (by unfold wayList; rw [hcut]; simp) hj
        obtain ⟨fn, tmps, assign, body, hy, hR⟩ := yieldAt_any hd (n - 1 - 1 - 1) hY'
        have cY : Wx.cell? ⟨W.heap.size, 0, none⟩ = some (.func (.yield l) #[] #[]) := (World.cell?_of_block (hO _ rfl).2.1).trans bY'.cell
        clear hcut hY'
        gi_wp2
        refine hR.mono ?_
        rintro e W3 (⟨rfl, f3, hs3, hJ3⟩ | ⟨rfl, f3, hs3, hJx3⟩)
        · gi_wp2
          exact InI.next hO hs3 (by simpa using hJ3)
        · gi_wp2
          obtain ⟨f', h1', h2'⟩ := InI.next (J := Jx) (p0 := spanList s m) (pre := pre ++ [x]) (w0 := Wd) hO hs3 (by simpa using hJx3)
          exact ⟨f', h1', rfl, h2'⟩
      case stop2 =>
        rintro D2 c pre f' We hD2 hnD2 hste hpx ⟨rfl, fJ2, rfl, hj, hO⟩ hK2
        have hK1 : (We.putObj D2 (.deferred none)).heap[D]? = some (.deferred (some [])) := (World.putObj_heap_other (by omega)).trans ((hste.block D hDlt (fun h => h.elim hnD' (fun h => by omega))).trans hK)
        have nD : ¬ fJ2 D := fun h => (hste.foot D (.inl h)).elim (fun h => h.elim hnD' (fun h => by omega)) (fun h => by omega)
        gi_wp2
        refine ⟨by simp, .inl ⟨_, _, rfl, run_takeDeferred hK2, ?_⟩⟩
        refine ⟨by simp, .inl ⟨_, _, rfl, run_takeDeferred hK1, ?_⟩⟩
        refine ⟨_, results_none rfl _ _ _, ⟨_, rfl⟩, .inr ⟨spanList s m ++ pre, fJ2, ?_, ((hst1.join hste (fun k hk => by omega)).putObj (by omega) _).putObj (by omega) _, ?_⟩⟩
        · obtain ⟨t, ht⟩ := hpx
          exact ⟨t, by unfold wayList; rw [← ht]; simp⟩
        · exact hJx.putObj (hJx.putObj hj _ (fun h => hnD2 (.inl h))) _ nD
      case done2 =>
        rintro D2 f' We hD2 hnD2 hste ⟨fJ2, rfl, hj, hO⟩ hK2
        have hK1 : (We.putObj D2 (.deferred none)).heap[D]? = some (.deferred (some [])) := (World.putObj_heap_other (by omega)).trans ((hste.block D hDlt (fun h => h.elim hnD' (fun h => by omega))).trans hK)
        have nD : ¬ fJ2 D := fun h => (hste.foot D (.inl h)).elim (fun h => h.elim hnD' (fun h => by omega)) (fun h => by omega)
        gi_wp2
        rw [roundsIn_succ]
        gi_wp2
        refine ⟨by simp, .inl ⟨_, _, rfl, run_takeDeferred hK2, ?_⟩⟩
        refine ⟨by simp, .inl ⟨_, _, rfl, run_takeDeferred hK1, ?_⟩⟩
        refine ⟨_, results_none rfl _ _ _, ⟨_, rfl⟩, .inl ⟨fJ2, ((hst1.join hste (fun k hk => by omega)).putObj (by omega) _).putObj (by omega) _, ?_⟩⟩
        exact hJ.putObj (hJ.putObj hj _ (fun h => hnD2 (.inl h))) _ nD

end Go.Proofs.Ytpfbgojgikkgbaa
