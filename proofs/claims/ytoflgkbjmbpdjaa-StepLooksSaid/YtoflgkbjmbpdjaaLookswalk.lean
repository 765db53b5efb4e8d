/-
  The statement StepLooks' own function.
-/
import Derived.Test.YtoflgkbjmbpdjaaKeyswalk
namespace Go.Proofs.Ytoflgkbjmbpdjaa
open Go Go.RowKit

/-- What the cells of a guard, and of the variable that has its slice, are. -/
theorem below_to {a w w' : World} {B : Nat} (h : Below B a w) (k : Below w.heap.size w w') (hB : B ≤ w.heap.size) : Below B a w' := h.trans (k.mono hB)

set_option maxRecDepth 100000 in
set_option maxHeartbeats 4000000 in
theorem looks_few (pg ps ph pt : Option Addr) (ng ns nh nt cg cs ch ct : Nat) (G H : List GD) (S T : List SD) (w : World) (h : ArgO w pg ps ng ns G S) (k : ArgO w ph pt nh nt H T) (hf : ng ≤ 30 ∧ ns ≤ 30) (kf : nh ≤ 30 ∧ nt ≤ 30) :
    Calls Try.prog 3 #[.agg #[.slice pg ng cg, .slice ps ns cs], .agg #[.slice ph nh ch, .slice pt nt ct]] w (Says true w) := by
  have HB1 := Lib.hid (show Below w.heap.size w ((w.alloc (.cells #[.slice pg ng cg, .slice ps ns cs] 25)).alloc (.cells #[.slice ph nh ch, .slice pt nt ct] 25)) from (below_alloc w _).alloc (by simp) _)
  have HG := Lib.hid (fun W (hb : Below w.heap.size w W) => h.g.grow hb)
  have HS := Lib.hid (fun W (hb : Below w.heap.size w W) => h.s.grow hb)
  have HNG := Lib.hid h.ng
  have HNS := Lib.hid h.ns
  have FG := Lib.hid h.fg
  have FStep := Lib.hid h.fs
  have F0 := Lib.hid (show ∀ W, Below ((w.alloc (.cells #[.slice pg ng cg, .slice ps ns cs] 25)).alloc (.cells #[.slice ph nh ch, .slice pt nt ct] 25)).heap.size ((w.alloc (.cells #[.slice pg ng cg, .slice ps ns cs] 25)).alloc (.cells #[.slice ph nh ch, .slice pt nt ct] 25)) W →
      W.cell? ⟨w.heap.size, 0, none⟩ = some (.slice pg ng cg) ∧ W.cell? ⟨w.heap.size, 1, none⟩ = some (.slice ps ns cs) ∧ W.cell? ⟨w.heap.size + 1, 0, none⟩ = some (.slice ph nh ch) ∧ W.cell? ⟨w.heap.size + 1, 1, none⟩ = some (.slice pt nt ct) from fun W h => by
    have h1 : W.heap[w.heap.size]? = some (.cells #[.slice pg ng cg, .slice ps ns cs] 25 (0, 0)) := (h.block w.heap.size (by simp; omega)).trans ((((Below.refl (w.alloc (.cells #[.slice pg ng cg, .slice ps ns cs] 25)).heap.size _).alloc (Nat.le_refl _) _).block w.heap.size (by simp)).trans (World.alloc_heap_new w _))
    have h2 : W.heap[w.heap.size + 1]? = some (.cells #[.slice ph nh ch, .slice pt nt ct] 25 (0, 0)) := by
      have h3 := World.alloc_heap_new (w.alloc (.cells #[.slice pg ng cg, .slice ps ns cs] 25)) (.cells #[.slice ph nh ch, .slice pt nt ct] 25)
      rw [show (w.alloc (.cells #[.slice pg ng cg, .slice ps ns cs] 25)).heap.size = w.heap.size + 1 by simp] at h3
      exact (h.block (w.heap.size + 1) (by simp)).trans h3
    exact ⟨(cell_of h1).trans rfl, (cell_of h1).trans rfl, (cell_of h2).trans rfl, (cell_of h2).trans rfl⟩)
  obtain ⟨hg30, hs30⟩ := hf
  obtain ⟨hh30, ht30⟩ := kf
  have HRight := Lib.hid (fun W (hb : Below w.heap.size w W) => right_any pg ps ng ns cg cs G S W (h.g.grow hb) (h.s.grow hb) h.ng h.ns (by omega) (by omega) h.fg h.fs)
  have HRefright := Lib.hid (fun W (hb : Below w.heap.size w W) => refright_any pg ps ng ns cg cs G S W (h.g.grow hb) (h.s.grow hb) h.ng h.ns (by omega) (by omega) h.fg h.fs)
  have HKeys := Lib.hid (fun W (hb : Below w.heap.size w W) => keys_any pg ps ng ns cg cs G S W (h.g.grow hb) (h.s.grow hb) h.ng h.ns (by omega) (by omega) h.fg h.fs)
  have HRefkeys := Lib.hid (fun W (hb : Below w.heap.size w W) => refkeys_any pg ps ng ns cg cs G S W (h.g.grow hb) (h.s.grow hb) h.ng h.ns (by omega) (by omega))
  have HWrites := Lib.hid (fun W (hb : Below w.heap.size w W) => writes_any pg ps ng ns cg cs S W (h.s.grow hb) h.ns (by omega) h.fs)
  have HRefwrites := Lib.hid (fun W (hb : Below w.heap.size w W) => refwrites_any pg ps ng ns cg cs S W (h.s.grow hb) h.ns (by omega))
  have HSame := Lib.hid (fun W (hb : Below w.heap.size w W) => same_any pg ps ph pt ng ns nh nt cg cs ch ct G H S T W (h.g.grow hb) (h.s.grow hb) (k.g.grow hb) (k.s.grow hb) h.ng h.ns k.ng k.ns (by omega) (by omega) (by omega) (by omega))
  have HRefsame := Lib.hid (fun W (hb : Below w.heap.size w W) => refsame_any pg ps ph pt ng ns nh nt cg cs ch ct G H S T W (h.g.grow hb) (h.s.grow hb) (k.g.grow hb) (k.s.grow hb) h.ng h.ns k.ng k.ns (by omega) (by omega) (by omega) (by omega))
  have lk := onceD_length (keysG G ++ keysS S)
  have lw := onceD_length (keysS S)
  have ek : (keysG G ++ keysS S).length = ng + ns := by unfold keysG keysS; rw [List.length_append, List.length_map, List.length_map, h.ng, h.ns]
  have ew : (keysS S).length = ns := by unfold keysS; rw [List.length_map, h.ns]
  rw [ek] at lk
  rw [ew] at lw
  clear h k ek ew
  obtain ⟨KK, hKK⟩ : ∃ K, onceD (keysG G ++ keysS S) = K := ⟨_, rfl⟩
  obtain ⟨WW, hWW⟩ : ∃ K, onceD (keysS S) = K := ⟨_, rfl⟩
  rw [hKK] at HKeys HRefkeys lk
  rw [hWW] at HWrites HRefwrites lw
  clear hKK hWW
  obtain ⟨rr, hrr⟩ : ∃ b, rightD G S = b := ⟨_, rfl⟩
  obtain ⟨sm, hsm⟩ : ∃ b, sameD G H S T = b := ⟨_, rfl⟩
  rw [hrr] at HRight HRefright
  rw [hsm] at HSame HRefsame
  clear hrr hsm
  have hrb : (rr == rr) = true := by cases rr <;> rfl
  have hsb : (sm == sm) = true := by cases sm <;> rfl
  go_enter Try.func3, Try.ntmps3
  go_wp2_with fail
  refine (few_yes pg ps ng ns cg cs _ ⟨hg30, hs30⟩).mono ?_
  rintro e w2 ⟨rfl, hb⟩
  obtain ⟨W1, hW1⟩ : ∃ W1, (w.alloc (.cells #[.slice pg ng cg, .slice ps ns cs] 25)).alloc (.cells #[.slice ph nh ch, .slice pt nt ct] 25) = W1 := ⟨_, rfl⟩
  rw [hW1] at HB1 F0 hb
  have B2 := Lib.hid hb
  obtain ⟨f0, f1, f2, f3⟩ := F0.out w2 hb
  clear hW1 hb
  have HWB := Lib.hid (fun wr (h : Below W1.heap.size W1 wr) => HB1.out.trans (h.mono HB1.out.size))
  go_wp2_with fail
  refine (few_yes ph pt nh nt ch ct _ ⟨hh30, ht30⟩).mono ?_
  rintro e w3 ⟨rfl, hb⟩
  have B3 := Lib.hid (below_to B2.out hb B2.out.size)
  obtain ⟨g0, g1, g2, g3⟩ := F0.out w3 B3.out
  clear hb B2 f0 f1 f2 f3
  go_wp2_with fail
  go_loopw [5] (fun s wr => ∃ k : Nat, s = .int .i64 k ∧ k ≤ ng ∧ Hid (Below W1.heap.size W1 wr)) (fun s _ => ng - (intOf s).toNat)
  case atStart => exact ⟨0, rfl, Nat.zero_le _, B3⟩
  case round =>
    clear B3 g0 g1 g2 g3
    obtain ⟨k, rfl, hkn, hB⟩ := hrel
    obtain ⟨f0, f1, f2, f3⟩ := F0.out _ hB.out
    clear f1 f2 f3
    by_cases hlt : k < ng
    · have hkG : k < G.length := by rw [HNG.out]; exact hlt
      have HC := Lib.hid (fun W (hb : Below W1.heap.size W1 W) => HG.out W (HWB.out W hb) k hkG)
      obtain ⟨b, o, rfl, c1, c2, c3⟩ := HC.out _ hB.out
      have HR := Lib.hid (fun W => rg_any G[k] W (FG.out _ (List.getElem_mem hkG)))
      have HRR := Lib.hid (fun W => refrg_any G[k] W (FG.out _ (List.getElem_mem hkG)))
      obtain ⟨⟨gk, gs, gv⟩, hg'⟩ : ∃ g, G[k] = g := ⟨_, rfl⟩
      rw [hg'] at c1 c2 c3 HR HRR HC
      simp only at c1 c2 c3 HC
      obtain ⟨r, hr⟩ : ∃ r, rgD ⟨gk, gs, gv⟩ = r := ⟨_, rfl⟩
      rw [hr] at HR HRR
      have CC := Lib.hid (show ∀ W, Below W1.heap.size W1 W → W.cell? ⟨w.heap.size, 0, none⟩ = some (.slice (some ⟨b, o, none⟩) ng cg) ∧ W.cell? ⟨b, o + k * 3, none⟩ = some (.int .i64 gk) ∧ W.cell? ⟨b, o + k * 3 + 1, none⟩ = some (.string gs) ∧ W.cell? ⟨b, o + k * 3 + 2, none⟩ = some (.string gv) from fun W hb => by
        obtain ⟨b', o', e, d1, d2, d3⟩ := HC.out W hb
        simp only [Option.some.injEq, Addr.mk.injEq, and_true] at e
        obtain ⟨rfl, rfl⟩ := e
        exact ⟨(F0.out W hb).1, d1, d2, d3⟩)
      have hbb : (r == r) = true := by cases r <;> rfl
      clear hg' hr hkG HC
      have hltz : (k : Int) < (ng : Int) := by omega
      have h0 : (0 : Int) ≤ (k : Int) := by omega
      go_wp2_with fail
      go_region_held3 (fun w' => w'.cell? ⟨w.heap.size, 0, none⟩ = some (.slice (some ⟨b, o, none⟩) ng cg) ∧ w'.cell? ⟨b, o + k * 3, none⟩ = some (.int .i64 gk) ∧ w'.cell? ⟨b, o + k * 3 + 1, none⟩ = some (.string gs) ∧ w'.cell? ⟨b, o + k * 3 + 2, none⟩ = some (.string gv))
        (first
          | exact CC.out _ X2.out
          | exact CC.out _ X1.out
          | exact CC.out _ (drew_below' hB.out)
          | exact CC.out _ hB.out)
        (first
          | (go_at_call 8; refine (HR.out _).mono ?_; rintro e x1 ⟨rfl, hb⟩; have X1 := Lib.hid (below_to (drew_below' hB.out) hb (drew_below' hB.out).size); clear hb)
          | (go_at_call 9; refine (HRR.out _).mono ?_; rintro e x2 ⟨rfl, hb⟩; have X2 := Lib.hid (below_to X1.out hb X1.out.size); clear hb))
      go_wp2_with fail
      go_roundw
      case rel => exact ⟨k + 1, by go_num, by omega, X2⟩
      case measure => simp [intOf]; omega
    · obtain rfl : k = ng := by omega
      have HW0 := Lib.hid hB.out
      obtain ⟨f0, f1, f2, f3⟩ := F0.out _ hB.out
      clear hkn hlt
      go_wp2_with fail
      go_loopw [6] (fun s wr => ∃ k : Nat, s = .int .i64 k ∧ k ≤ ns ∧ Hid (Below W1.heap.size W1 wr)) (fun s _ => ns - (intOf s).toNat)
      case atStart => exact ⟨0, rfl, Nat.zero_le _, hB⟩
      case round =>
        clear hB HW0 f0 f1 f2 f3
        obtain ⟨j, rfl, hjn, hB⟩ := hrel
        obtain ⟨f0, f1, f2, f3⟩ := F0.out _ hB.out
        clear f2 f3
        by_cases hlt : j < ns
        · have hkS : j < S.length := by rw [HNS.out]; exact hlt
          have HC := Lib.hid (fun W (hb : Below W1.heap.size W1 W) => HS.out W (HWB.out W hb) j hkS)
          obtain ⟨b, o, rfl, c1, c2, c3, c4, c5⟩ := HC.out _ hB.out
          have HR := Lib.hid (fun W => rs_any S[j] W (FStep.out _ (List.getElem_mem hkS)))
          have HRR := Lib.hid (fun W => refrs_any S[j] W (FStep.out _ (List.getElem_mem hkS)))
          obtain ⟨⟨gk, gs, gv, go, gn⟩, hg'⟩ : ∃ g, S[j] = g := ⟨_, rfl⟩
          rw [hg'] at c1 c2 c3 c4 c5 HR HRR HC
          simp only at c1 c2 c3 c4 c5 HC
          obtain ⟨r, hr⟩ : ∃ r, rsD ⟨gk, gs, gv, go, gn⟩ = r := ⟨_, rfl⟩
          rw [hr] at HR HRR
          have CC := Lib.hid (show ∀ W, Below W1.heap.size W1 W → W.cell? ⟨w.heap.size, 1, none⟩ = some (.slice (some ⟨b, o, none⟩) ns cs) ∧ W.cell? ⟨b, o + j * 5, none⟩ = some (.int .i64 gk) ∧ W.cell? ⟨b, o + j * 5 + 1, none⟩ = some (.string gs) ∧ W.cell? ⟨b, o + j * 5 + 2, none⟩ = some (.string gv) ∧
              W.cell? ⟨b, o + j * 5 + 3, none⟩ = some (.string go) ∧ W.cell? ⟨b, o + j * 5 + 4, none⟩ = some (.int .i64 gn) from fun W hb => by
            obtain ⟨b', o', e, d1, d2, d3, d4, d5⟩ := HC.out W hb
            simp only [Option.some.injEq, Addr.mk.injEq, and_true] at e
            obtain ⟨rfl, rfl⟩ := e
            exact ⟨(F0.out W hb).2.1, d1, d2, d3, d4, d5⟩)
          have hbb : (r == r) = true := by cases r <;> rfl
          clear hg' hr hkS HC f0
          have hltz : (j : Int) < (ns : Int) := by omega
          have h0 : (0 : Int) ≤ (j : Int) := by omega
          go_wp2_with fail
          go_region_held3 (fun w' => w'.cell? ⟨w.heap.size, 1, none⟩ = some (.slice (some ⟨b, o, none⟩) ns cs) ∧ w'.cell? ⟨b, o + j * 5, none⟩ = some (.int .i64 gk) ∧ w'.cell? ⟨b, o + j * 5 + 1, none⟩ = some (.string gs) ∧ w'.cell? ⟨b, o + j * 5 + 2, none⟩ = some (.string gv) ∧
              w'.cell? ⟨b, o + j * 5 + 3, none⟩ = some (.string go) ∧ w'.cell? ⟨b, o + j * 5 + 4, none⟩ = some (.int .i64 gn))
            (first
              | exact CC.out _ X2.out
              | exact CC.out _ X1.out
              | exact CC.out _ (drew_below' hB.out)
              | exact CC.out _ hB.out)
            (first
              | (go_at_call 10; refine (HR.out _).mono ?_; rintro e x1 ⟨rfl, hb⟩; have X1 := Lib.hid (below_to (drew_below' hB.out) hb (drew_below' hB.out).size); clear hb)
              | (go_at_call 11; refine (HRR.out _).mono ?_; rintro e x2 ⟨rfl, hb⟩; have X2 := Lib.hid (below_to X1.out hb X1.out.size); clear hb))
          go_wp2_with fail
          go_roundw
          case rel => exact ⟨j + 1, by go_num, by omega, X2⟩
          case measure => simp [intOf]; omega
        · obtain rfl : j = ns := by omega
          obtain ⟨f0, f1, f2, f3⟩ := F0.out _ hB.out
          have D0 := Lib.hid (drew_below' hB.out)
          clear hjn hlt
          go_wp2_with fail
          go_region_held3 (fun w' => w'.cell? ⟨w.heap.size, 0, none⟩ = some (.slice pg k cg) ∧ w'.cell? ⟨w.heap.size, 1, none⟩ = some (.slice ps j cs) ∧ w'.cell? ⟨w.heap.size + 1, 0, none⟩ = some (.slice ph nh ch) ∧ w'.cell? ⟨w.heap.size + 1, 1, none⟩ = some (.slice pt nt ct))
            (first
              | exact F0.out _ X11.out
              | exact F0.out _ X10.out
              | exact F0.out _ X9.out
              | exact F0.out _ X8.out
              | exact F0.out _ X7.out
              | exact F0.out _ X6.out
              | exact F0.out _ X5.out
              | exact F0.out _ X4.out
              | exact F0.out _ X3.out
              | exact F0.out _ X2.out
              | exact F0.out _ X1.out
              | exact F0.out _ D0.out
              | exact F0.out _ hB.out)
            (first
              | (go_at_call 7; refine (awake_any _).mono ?_; rintro e x11 ⟨rfl, hb⟩; have X11 := Lib.hid (below_to X10.out hb X10.out.size); clear hb)
              | (go_at_call 20; refine (HRefsame.out _ (HWB.out _ X9.out)).mono ?_; rintro e x10 ⟨rfl, hb⟩; have X10 := Lib.hid (below_to X9.out hb X9.out.size); clear hb)
              | (go_at_call 19; refine (HSame.out _ (HWB.out _ X8.out)).mono ?_; rintro e x9 ⟨rfl, hb⟩; have X9 := Lib.hid (below_to X8.out hb X8.out.size); clear hb)
              | (go_at_call 14; refine (texts_any _ _ _ _ _ _ WW WW _ M7.out N7.out rfl rfl (by omega) (by omega)).mono ?_; rintro e x8 ⟨rfl, hb⟩; have X8 := Lib.hid (below_to X7.out hb X7.out.size); clear hb; rw [eqD_self])
              | (go_at_call 18; refine (HRefwrites.out _ (HWB.out _ X6.out)).mono ?_; rintro e x7 ⟨g7, k7, rfl, hr, hb⟩; have X7 := Lib.hid (below_to X6.out hb X6.out.size); have M7 := Lib.hid (M6.out.grow hb); have N7 := Lib.hid (Sk.of_row hr); clear hb hr)
              | (go_at_call 17; refine (HWrites.out _ (HWB.out _ X5.out)).mono ?_; rintro e x6 ⟨g6, k6, rfl, hr, hb⟩; have X6 := Lib.hid (below_to X5.out hb X5.out.size); have M6 := Lib.hid (Sk.of_row hr); clear hb hr)
              | (go_at_call 14; refine (texts_any _ _ _ _ _ _ KK KK _ M4.out N4.out rfl rfl (by omega) (by omega)).mono ?_; rintro e x5 ⟨rfl, hb⟩; have X5 := Lib.hid (below_to X4.out hb X4.out.size); clear hb; rw [eqD_self])
              | (go_at_call 16; refine (HRefkeys.out _ (HWB.out _ X3.out)).mono ?_; rintro e x4 ⟨g4, k4, rfl, hr, hb⟩; have X4 := Lib.hid (below_to X3.out hb X3.out.size); have M4 := Lib.hid (M3.out.grow hb); have N4 := Lib.hid (Sk.of_row hr); clear hb hr)
              | (go_at_call 15; refine (HKeys.out _ (HWB.out _ X2.out)).mono ?_; rintro e x3 ⟨g3, k3, rfl, hr, hb⟩; have X3 := Lib.hid (below_to X2.out hb X2.out.size); have M3 := Lib.hid (Sk.of_row hr); clear hb hr)
              | (go_at_call 13; refine (HRefright.out _ (HWB.out _ X1.out)).mono ?_; rintro e x2 ⟨rfl, hb⟩; have X2 := Lib.hid (below_to X1.out hb X1.out.size); clear hb)
              | (go_at_call 12; refine (HRight.out _ (HWB.out _ D0.out)).mono ?_; rintro e x1 ⟨rfl, hb⟩; have X1 := Lib.hid (below_to D0.out hb D0.out.size); clear hb))
          have HE := Lib.hid (show Says true w (.returned (.bool true)) x11 from ⟨rfl, HWB.out _ X11.out⟩)
          go_wp2_with fail
          go_ret
          exact HE.out

set_option maxRecDepth 100000 in
set_option maxHeartbeats 2000000 in
theorem looks_many (pg ps ph pt : Option Addr) (ng ns nh nt cg cs ch ct : Nat) (w : World) (b1 : ng ≤ 9223372036854775807) (b2 : ns ≤ 9223372036854775807) (b3 : nh ≤ 9223372036854775807) (b4 : nt ≤ 9223372036854775807) (hf : ¬ ((ng ≤ 30 ∧ ns ≤ 30) ∧ (nh ≤ 30 ∧ nt ≤ 30))) :
    Calls Try.prog 3 #[.agg #[.slice pg ng cg, .slice ps ns cs], .agg #[.slice ph nh ch, .slice pt nt ct]] w (Says true w) := by
  have HB1 := Lib.hid (show Below w.heap.size w ((w.alloc (.cells #[.slice pg ng cg, .slice ps ns cs] 25)).alloc (.cells #[.slice ph nh ch, .slice pt nt ct] 25)) from (below_alloc w _).alloc (by simp) _)
  by_cases hg : ng ≤ 30 ∧ ns ≤ 30
  · have HF := Lib.hid (few_yes pg ps ng ns cg cs ((w.alloc (.cells #[.slice pg ng cg, .slice ps ns cs] 25)).alloc (.cells #[.slice ph nh ch, .slice pt nt ct] 25)) hg)
    have HF2 := Lib.hid (fun W => few_no ph pt nh nt ch ct W b3 b4 (fun e => hf ⟨hg, e⟩))
    have F0 := Lib.hid (show ∀ W, Below ((w.alloc (.cells #[.slice pg ng cg, .slice ps ns cs] 25)).alloc (.cells #[.slice ph nh ch, .slice pt nt ct] 25)).heap.size ((w.alloc (.cells #[.slice pg ng cg, .slice ps ns cs] 25)).alloc (.cells #[.slice ph nh ch, .slice pt nt ct] 25)) W →
        W.cell? ⟨w.heap.size + 1, 0, none⟩ = some (.slice ph nh ch) ∧ W.cell? ⟨w.heap.size + 1, 1, none⟩ = some (.slice pt nt ct) from fun W h => by
      have h2 : W.heap[w.heap.size + 1]? = some (.cells #[.slice ph nh ch, .slice pt nt ct] 25 (0, 0)) := by
        have h3 := World.alloc_heap_new (w.alloc (.cells #[.slice pg ng cg, .slice ps ns cs] 25)) (.cells #[.slice ph nh ch, .slice pt nt ct] 25)
        rw [show (w.alloc (.cells #[.slice pg ng cg, .slice ps ns cs] 25)).heap.size = w.heap.size + 1 by simp] at h3
        exact (h.block (w.heap.size + 1) (by simp)).trans h3
      exact ⟨(cell_of h2).trans rfl, (cell_of h2).trans rfl⟩)
    clear hf hg
    go_enter Try.func3, Try.ntmps3
    go_wp2_with fail
    refine HF.out.mono ?_
    rintro e w2 ⟨rfl, hb⟩
    obtain ⟨f2, f3⟩ := F0.out w2 hb
    have HB2 := Lib.hid (HB1.out.trans (hb.mono HB1.out.size))
    clear hb
    go_wp2_with fail
    refine (HF2.out _).mono ?_
    rintro e w3 ⟨rfl, hb⟩
    have HB3 := Lib.hid (HB2.out.trans (hb.mono HB2.out.size))
    clear hb f2 f3
    go_wp2_with fail
    refine (awake_any _).mono ?_
    rintro e w4 ⟨rfl, hb⟩
    have HB4 := Lib.hid (HB3.out.trans (hb.mono HB3.out.size))
    clear hb
    go_wp2_with fail
    go_ret
    exact Says.mk rfl HB4.out
  · have HF := Lib.hid (few_no pg ps ng ns cg cs ((w.alloc (.cells #[.slice pg ng cg, .slice ps ns cs] 25)).alloc (.cells #[.slice ph nh ch, .slice pt nt ct] 25)) b1 b2 hg)
    clear hf hg
    go_enter Try.func3, Try.ntmps3
    go_wp2_with fail
    refine HF.out.mono ?_
    rintro e w2 ⟨rfl, hb⟩
    have HB2 := Lib.hid (HB1.out.trans (hb.mono HB1.out.size))
    clear hb
    go_wp2_with fail
    refine (awake_any _).mono ?_
    rintro e w3 ⟨rfl, hb⟩
    have HB3 := Lib.hid (HB2.out.trans (hb.mono HB2.out.size))
    clear hb
    go_wp2_with fail
    go_ret
    exact Says.mk rfl HB3.out

theorem looks_any (pg ps ph pt : Option Addr) (ng ns nh nt cg cs ch ct : Nat) (G H : List GD) (S T : List SD) (w : World) (h : ArgO w pg ps ng ns G S) (k : ArgO w ph pt nh nt H T) (b1 : ng ≤ 9223372036854775807) (b2 : ns ≤ 9223372036854775807) (b3 : nh ≤ 9223372036854775807) (b4 : nt ≤ 9223372036854775807) :
    Calls Try.prog 3 #[.agg #[.slice pg ng cg, .slice ps ns cs], .agg #[.slice ph nh ch, .slice pt nt ct]] w (Says true w) := by
  by_cases hf : (ng ≤ 30 ∧ ns ≤ 30) ∧ (nh ≤ 30 ∧ nt ≤ 30)
  · exact looks_few pg ps ph pt ng ns nh nt cg cs ch ct G H S T w h k hf.1 hf.2
  · exact looks_many pg ps ph pt ng ns nh nt cg cs ch ct w b1 b2 b3 b4 hf

end Go.Proofs.Ytoflgkbjmbpdjaa
