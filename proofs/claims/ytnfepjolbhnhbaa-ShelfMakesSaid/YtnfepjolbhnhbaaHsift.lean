/-
  A heap's sinking, and the sort by a heap, at words.
-/
import Derived.Test.YtnfepjolbhnhbaaHsrt
import Derived.Deep.DeepCutAuto
import Derived.Deep.CutBlock
namespace Go.Proofs.Ytnfepjolbhnhbaa
open Go Go.RowKit Go.Sort
attribute [local go_sem ↓] Go.wp_at_zero Go.wp_at_succ

/-- The greater child. -/
def Child (hi F root : Nat) (u : Array Int) (c : Nat) : Prop :=
  root < c ∧ c < hi ∧ (ltInt u[F + root]! u[F + c]! = false → siftDown ltInt hi F root u = u) ∧ (ltInt u[F + root]! u[F + c]! = true → siftDown ltInt hi F root u = siftDown ltInt hi F c (swp u (F + root) (F + c)))
theorem Child.right {hi F root : Nat} {u : Array Int} (h1 : 2 * root + 2 < hi) (h2 : ltInt u[F + (2 * root + 1)]! u[F + (2 * root + 2)]! = true) : Child hi F root u (2 * root + 2) :=
  ⟨by omega, h1, fun h => sd_right_stop ltInt u h1 h2 h, fun h => sd_right_go ltInt u h1 h2 h⟩
theorem Child.left {hi F root : Nat} {u : Array Int} (h0 : 2 * root + 1 < hi) (h2 : 2 * root + 2 < hi → ltInt u[F + (2 * root + 1)]! u[F + (2 * root + 2)]! = false) : Child hi F root u (2 * root + 1) :=
  ⟨by omega, h0, fun h => sd_left_stop ltInt u h0 h2 h, fun h => sd_left_go ltInt u h0 h2 h⟩

set_option maxRecDepth 100000 in
set_option maxHeartbeats 4000000 in
theorem sift_any (W : World) {q off C : Nat} {d : Array Int} {n : Nat} (cap lo hi first : Nat) (hP : Put W q off C d W) (hn : d.size = n) (hlo : lo ≤ hi) (hb : first + hi ≤ n) (hsz : n ≤ 1000000) :
    Calls Try.prog 65 #[.slice (some ⟨q, off, none⟩) n cap, .int .i64 lo, .int .i64 hi, .int .i64 first] W fun e W' => e = .returned (.tuple #[]) ∧ Put W q off C (siftDown ltInt hi first lo d) W' := by
  have H0 := Lib.hid hP
  have HN := Lib.hid hn
  clear hP hn
  go_enter Try.func65, Try.ntmps65
  go_wp2
  go_loopw [8] (fun s8 wr => ∃ (root : Nat) (u : Array Int), s8 = .int .i64 root ∧ root ≤ hi ∧ Hid (u.size = n) ∧ Hid (Put W q off C u wr) ∧ Hid (siftDown ltInt hi first root u = siftDown ltInt hi first lo d)) (fun s8 _ => hi - (intOf s8).toNat)
  case atStart => exact ⟨lo, d, rfl, hlo, HN, H0, Lib.hid rfl⟩
  case round =>
    obtain ⟨root, u, rfl, hr, HU, H1, HO⟩ := hrel
    clear H0
    obtain ⟨G, hG⟩ : ∃ G : Nat → Int, ∀ t, G t = u[t]! := ⟨fun t => u[t]!, fun _ => rfl⟩
    have HG := Lib.hid hG
    clear hG
    by_cases h0 : hi ≤ 2 * root + 1
    · have h0z : (hi : Int) ≤ 2 * (root : Int) + 1 := by omega
      go_wp2
      go_end0
      exact ⟨rfl, by rw [← HO.out, sd_end ltInt u h0]; exact H1.out⟩
    · have h0z : ¬ ((hi : Int) ≤ 2 * (root : Int) + 1) := by omega
      go_upto_region 3 with fail
      go_cut [36] (fun s36 wx => ∃ bb : Bool, s36 = .bool bb ∧ Hid (Put W q off C u wx) ∧ Hid ((bb = true ∧ Child hi first root u (2 * root + 2)) ∨ (bb = false ∧ Child hi first root u (2 * root + 1))))
      case first => as_aux_lemma =>
        have hcw : ∀ t, t < n → wr.cell? ⟨q, off + t, none⟩ = some (.int .u64 (G t)) := fun t ht => by rw [HG.out]; exact H1.out.cell (by rw [HU.out]; exact ht)
        have hfw : ∀ t, t < n → wr.frozen? ⟨q, off + t, none⟩ = false := fun t _ => H1.out.frozen _
        by_cases h1 : 2 * root + 2 < hi
        · have h1z : 2 * (root : Int) + 1 + 1 < (hi : Int) := by omega
          go_wp2_with fail
          go_big_quiet (first | (go_at_call 59; refine Calls.quiet_of_same (less_any _ _ _)))
          go_wp2_with fail
          go_meet
          case rel =>
            refine ⟨_, rfl, Lib.hid (H1.out.drew nq), Lib.hid ?_⟩
            cases hl : ltInt (G (first + 2 * root + 1)) (G (first + 2 * root + 2)) with
            | true => exact .inl ⟨rfl, Child.right h1 (by rw [← HG.out, ← HG.out]; exact hl)⟩
            | false => exact .inr ⟨rfl, Child.left (by omega) (fun _ => by rw [← HG.out, ← HG.out]; exact hl)⟩
        · have h1z : decide (2 * (root : Int) + 1 + 1 < (hi : Int)) = false := decide_eq_false (by omega)
          go_wp2_with fail
          go_big_quiet (first | (go_at_call 59; refine Calls.quiet_of_same (less_any _ _ _)))
          go_wp2_with fail
          go_meet
          case rel => exact ⟨false, by first | rfl | simp, Lib.hid (H1.out.drew nq), Lib.hid (.inr ⟨rfl, Child.left (by omega) (fun h => absurd h h1)⟩)⟩
      case rest => as_aux_lemma =>
        obtain ⟨bb, rfl, H2, HB⟩ := hcut
        clear H1
        go_upto_if 36 with fail
        go_cut [9] (fun s9 wx => ∃ c : Nat, s9 = .int .i64 c ∧ Hid (Put W q off C u wx) ∧ Hid (Child hi first root u c))
        case first => as_aux_lemma =>
          cases bb with
          | true =>
            have HC := Lib.hid (show Child hi first root u (2 * root + 2) from by rcases HB.out with ⟨_, h⟩ | ⟨h, _⟩; exact h; cases h)
            clear HB
            go_wp2_with fail
            go_meet
            case rel => exact ⟨2 * root + 2, by congr 1 <;> omega, H2, HC⟩
          | false =>
            have HC := Lib.hid (show Child hi first root u (2 * root + 1) from by rcases HB.out with ⟨h, _⟩ | ⟨_, h⟩; cases h; exact h)
            clear HB
            go_wp2_with fail
            go_meet
            case rel => exact ⟨2 * root + 1, by congr 1 <;> omega, H2, HC⟩
        case rest => as_aux_lemma =>
          obtain ⟨c, rfl, H3, HC⟩ := hcut
          clear H2 HB
          have hrc := HC.out.1
          have hc := HC.out.2.1
          have hcw : ∀ t, t < n → wc.cell? ⟨q, off + t, none⟩ = some (.int .u64 (G t)) := fun t ht => by rw [HG.out]; exact H3.out.cell (by rw [HU.out]; exact ht)
          have hfw : ∀ t, t < n → wc.frozen? ⟨q, off + t, none⟩ = false := fun t _ => H3.out.frozen _
          clear h0z
          go_wp2_with fail
          go_big_quiet (first | (go_at_call 59; refine Calls.quiet_of_same (less_any _ _ _)))
          go_wp2_with fail
          · have hl : ltInt (G (first + root)) (G (first + c)) = false := by
              have h : (!ltInt (G (first + root)) (G (first + c))) = true := by assumption
              simpa using h
            rw [HG.out, HG.out] at hl
            refine bodyPost_ret (results_none rfl _ _ _) rfl ?_
            exact ⟨rfl, by rw [← HO.out, HC.out.2.2.1 hl]; exact H3.out.drew nq⟩
          · have hl : ltInt (G (first + root)) (G (first + c)) = true := by
              have h : (!ltInt (G (first + root)) (G (first + c))) = false := by assumption
              simpa using h
            go_region
            all_goals go_wp2
            go_roundw
            case rel =>
              refine ⟨c, swp u (first + root) (first + c), rfl, by omega, Lib.hid (by rw [size_swp]; exact HU.out), Lib.hid ?_, Lib.hid ?_⟩
              · rw [HG.out, HG.out]
                exact (H3.out.drew (nq + 1)).swap (by rw [HU.out]; omega) (by rw [HU.out]; omega)
              · rw [HG.out, HG.out] at hl
                rw [← HO.out, HC.out.2.2.2 hl]
            case measure => simp [intOf]; omega

/-! ### the sort by a heap -/
theorem build_step (hi F k : Nat) (u : Array Int) : heapBuild ltInt hi F (k + 1) u = heapBuild ltInt hi F k (siftDown ltInt hi F k u) := rfl
theorem pop_step (F k : Nat) (u : Array Int) : heapPop ltInt F (k + 1) u = heapPop ltInt F k (siftDown ltInt k F 0 (swp u F (F + k))) := rfl
theorem size_sift (hi F root : Nat) (u : Array Int) : (siftDown ltInt hi F root u).size = u.size := by
  fun_induction siftDown ltInt hi F root u <;> simp_all [size_swp]

set_option maxRecDepth 100000 in
set_option maxHeartbeats 4000000 in
theorem heapsort_any (W : World) {q off C : Nat} {d : Array Int} {n : Nat} (cap a b : Nat) (hP : Put W q off C d W) (hn : d.size = n) (hab : a ≤ b) (hb : b ≤ n) (hsz : n ≤ 1000000) :
    Calls Try.prog 54 #[.slice (some ⟨q, off, none⟩) n cap, .int .i64 a, .int .i64 b] W fun e W' => e = .returned (.tuple #[]) ∧ Put W q off C (heapSort ltInt d a b) W' := by
  have H0 := Lib.hid hP
  have HN := Lib.hid hn
  obtain ⟨h, hh⟩ : ∃ h, b - a = h := ⟨b - a, rfl⟩
  obtain ⟨k0, hk0⟩ : ∃ k0, (h - 1) / 2 = k0 := ⟨_, rfl⟩
  have HSort := Lib.hid (show heapSort ltInt d a b = heapPop ltInt a h (heapBuild ltInt h a (k0 + 1) d) from by rw [← hk0, ← hh]; rfl)
  have e0 : (b : Int) - (a : Int) = (h : Int) := by omega
  have e1 : ((h : Int) - 1).tdiv 2 = (k0 : Int) := by
    by_cases hz : h = 0
    · subst hz; subst hk0; decide
    · rw [Int.tdiv_eq_ediv_of_nonneg (by omega)]; first | done | omega
  have hk0h : k0 ≤ h := by omega
  have hah : a + h ≤ n := by omega
  have hhn : (h : Int) ≤ (n : Int) := by omega
  clear hP hn hh hk0
  go_enter Try.func54, Try.ntmps54
  go_wp2
  go_loopw [9] (fun s9 wr => ∃ (z : Int) (k : Nat) (u : Array Int), s9 = .int .i64 z ∧ Hid (z = (k : Int) - 1) ∧ -1 ≤ z ∧ z ≤ (k0 : Int) ∧ Hid (u.size = n) ∧ Hid (Put W q off C u wr) ∧ Hid (heapPop ltInt a h (heapBuild ltInt h a k u) = heapSort ltInt d a b)) (fun s9 _ => (intOf s9 + 1).toNat)
  case atStart => exact ⟨k0, k0 + 1, d, rfl, Lib.hid (by omega), by omega, by omega, HN, H0, Lib.hid HSort.out.symm⟩
  case round =>
    obtain ⟨z, k, u, rfl, hz, hz1, hz2, HU, H1, HO⟩ := hrel
    clear H0 HSort
    have hzo := hz.out
    clear hz
    cases k with
    | succ k =>
      obtain rfl : z = (k : Int) := by omega
      clear hzo
      have hk1 : (0 : Int) ≤ (k : Int) := by omega
      have HC := Lib.hid (sift_any wr cap k h a H1.out.self HU.out (by omega) hah hsz)
      go_wp2_with fail
      refine HC.out.mono ?_
      rintro en w2 ⟨rfl, h2⟩
      have H2 := Lib.hid (H1.out.trans h2)
      clear h2
      go_wp2_with fail
      go_roundw
      case rel => exact ⟨(k : Int) - 1, k, _, rfl, Lib.hid rfl, by omega, by omega, Lib.hid (by rw [size_sift]; exact HU.out), H2, Lib.hid (by rw [← HO.out, build_step])⟩
      case measure => simp [intOf]
    | zero =>
      obtain rfl : z = -1 := by omega
      clear hzo
      have HO2 := Lib.hid (show heapPop ltInt a h u = heapSort ltInt d a b from HO.out)
      clear HO
      go_wp2_with fail
      go_loopw [10] (fun s10 wr => ∃ (z : Int) (k : Nat) (u : Array Int), s10 = .int .i64 z ∧ Hid (z = (k : Int) - 1) ∧ -1 ≤ z ∧ k ≤ h ∧ Hid (u.size = n) ∧ Hid (Put W q off C u wr) ∧ Hid (heapPop ltInt a k u = heapSort ltInt d a b)) (fun s10 _ => (intOf s10 + 1).toNat)
      case atStart => exact ⟨(h : Int) - 1, h, u, rfl, Lib.hid rfl, by omega, Nat.le_refl _, HU, H1, HO2⟩
      case round =>
        clear H1 HO2 HU
        obtain ⟨z, k, u, rfl, hz, hz1, hz2, HU, H1, HO⟩ := hrel
        have hzo := hz.out
        clear hz
        cases k with
        | succ k =>
          obtain rfl : z = (k : Int) := by omega
          clear hzo
          have hk1 : (0 : Int) ≤ (k : Int) := by omega
          obtain ⟨G, hG⟩ : ∃ G : Nat → Int, ∀ t, G t = u[t]! := ⟨fun t => u[t]!, fun _ => rfl⟩
          have HG := Lib.hid hG
          clear hG
          have hcw : ∀ t, t < n → wr.cell? ⟨q, off + t, none⟩ = some (.int .u64 (G t)) := fun t ht => by rw [HG.out]; exact H1.out.cell (by rw [HU.out]; exact ht)
          have hfw : ∀ t, t < n → wr.frozen? ⟨q, off + t, none⟩ = false := fun t _ => H1.out.frozen _
          have hkh : (k : Int) + 1 ≤ (h : Int) := by omega
          have HSw := Lib.hid (show Put W q off C (swp u a (a + k)) (((wr.setCell ⟨q, off + a, none⟩ (.int .u64 u[a + k]!)).setCell ⟨q, off + (a + k), none⟩ (.int .u64 u[a]!)).drew) from (H1.out.swap (i := a) (j := a + k) (by rw [HU.out]; omega) (by rw [HU.out]; omega)).drew 1)
          have HC := Lib.hid (fun X (hX : Put W q off C (swp u a (a + k)) X) => sift_any X cap 0 k a hX.self (by rw [size_swp]; exact HU.out) (by omega) (by omega) hsz)
          have HE := Lib.hid (show heapPop ltInt a k (siftDown ltInt k a 0 (swp u a (a + k))) = heapSort ltInt d a b from by rw [← HO.out, pop_step])
          have HZ := Lib.hid (show (siftDown ltInt k a 0 (swp u a (a + k))).size = n from by rw [size_sift, size_swp]; exact HU.out)
          have HGo := Lib.hid (show u[a]! = G a ∧ u[a + k]! = G (a + k) from ⟨(HG.out _).symm, (HG.out _).symm⟩)
          rw [HGo.out.1, HGo.out.2] at HSw
          clear HG H1 HO HU HGo
          rcases Nat.eq_zero_or_pos k with rfl | hkp
          · simp only [Nat.add_zero] at HSw
            go_upto_region 10 with fail
            go_region
            all_goals go_upto_region 11 with fail
            clear hcw hfw
            generalize ((wr.setCell ⟨q, off + a, none⟩ (.int .u64 (G (a)))).setCell ⟨q, off + a, none⟩ (.int .u64 (G a))).drew = w2 at HSw ⊢
            go_wp2_with fail
            refine (HC.out _ HSw.out).mono ?_
            rintro en w3 ⟨rfl, h3⟩
            have H3 := Lib.hid (HSw.out.trans h3)
            clear h3
            go_wp2_with fail
            go_roundw
            case rel => exact ⟨(0 : Int) - 1, 0, _, rfl, Lib.hid rfl, by omega, by omega, HZ, H3, HE⟩
            case measure => simp [intOf]
          · go_upto_region 10 with fail
            go_region
            all_goals go_upto_region 11 with fail
            clear hcw hfw
            generalize ((wr.setCell ⟨q, off + a, none⟩ (.int .u64 (G (a + k)))).setCell ⟨q, off + (a + k), none⟩ (.int .u64 (G a))).drew = w2 at HSw ⊢
            go_wp2_with fail
            refine (HC.out _ HSw.out).mono ?_
            rintro en w3 ⟨rfl, h3⟩
            have H3 := Lib.hid (HSw.out.trans h3)
            clear h3
            go_wp2_with fail
            go_roundw
            case rel => exact ⟨(k : Int) - 1, k, _, rfl, Lib.hid rfl, by omega, by omega, HZ, H3, HE⟩
            case measure => simp [intOf]
        | zero =>
          obtain rfl : z = -1 := by omega
          clear hzo
          go_wp2_with fail
          go_end0
          exact ⟨rfl, by rw [← HO.out]; exact H1.out⟩
end Go.Proofs.Ytnfepjolbhnhbaa
