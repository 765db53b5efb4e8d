/-
  A row of words whose pattern is broken up: three swaps.
-/
import Derived.Test.YteggbkhlmehpmaaHbreak
namespace Go.Proofs.Yteggbkhlmehpmaa
open Go Go.RowKit Go.Sort
attribute [local go_sem ↓] Go.wp_at_zero Go.wp_at_succ

def BreakE (W : World) (q off C a b : Nat) (d : Array Int) (e : Ending) (Y : World) : Prop := e = .returned (.tuple #[]) ∧ ∃ u, PermIn a b d u ∧ Put W q off C u Y

set_option maxRecDepth 100000 in
set_option maxHeartbeats 8000000 in
theorem break_any (W : World) {q off C : Nat} {d : Array Int} {n : Nat} (cap a b : Nat) (hP : Put W q off C d W) (hn : d.size = n) (hab : a + 12 < b) (hb : b ≤ n) (hsz : n < 256) :
    Calls Try.prog 54 #[.slice (some ⟨q, off, none⟩) n cap, .int .i64 a, .int .i64 b] W (BreakE W q off C a b d) := by
  have HN := Lib.hid hn
  obtain ⟨l, hl⟩ : ∃ l, b - a = l := ⟨_, rfl⟩
  obtain ⟨m, hm⟩ : ∃ m, l / 4 = m := ⟨_, rfl⟩
  obtain ⟨i0, hi0⟩ : ∃ i0, a + m * 2 - 1 = i0 := ⟨_, rfl⟩
  obtain ⟨i1, hi1⟩ : ∃ i1, a + m * 2 + 1 = i1 := ⟨_, rfl⟩
  have z0 : (b : Int) - (a : Int) = (l : Int) := by omega
  have z1 : (l : Int).tdiv 4 = (m : Int) := by rw [Int.tdiv_eq_ediv_of_nonneg (by omega)]; omega
  have z2 : (a : Int) + (m : Int) * 2 - 1 = (i0 : Int) := by omega
  have z3 : (a : Int) + (m : Int) * 2 + 1 = (i1 : Int) := by omega
  have l8 : (8 : Int) ≤ (l : Int) := by omega
  have ln : (l : Int) ≤ (n : Int) := by omega
  have lm : (m : Int) ≤ (n : Int) := by omega
  have hz : (n : Int) < 256 := by omega
  have HI := Lib.hid (show a ≤ i0 ∧ i0 ≤ i1 ∧ i1 < b ∧ a + l = b ∧ 8 ≤ l ∧ l < 256 from by omega)
  have HS := Lib.hid (Sd.start hP hP.lt (l : Int))
  clear hl hm hi0 hi1 hab hP hn
  go_enter Try.func54, Try.ntmps54
  go_wp2_with fail
  refine (pow_is l HI.out.2.2.2.2.2 HI.out.2.2.2.2.1 _).mono ?_
  rintro en w1 ⟨M, rfl, M1, M2, M3, rfl⟩
  obtain ⟨N, hN⟩ : ∃ N, M - 1 = N := ⟨_, rfl⟩
  have z4 : (M : Int) - 1 = (N : Int) := by omega
  have z5 : (1 : Int) ≤ (M : Int) := by omega
  have z6 : (M : Int) ≤ 256 := by omega
  have HM := Lib.hid (show N < 2 * l from by omega)
  clear hN M1 M2 M3
  go_wp2_with fail
  go_loopw [9] (fun s9 wr => ∃ (i : Nat) (u : Array Int), s9 = .int .i64 i ∧ a ≤ i ∧ i ≤ i1 + 1 ∧ Hid (u.size = n) ∧ Hid (PermIn a b d u) ∧ Hid (Sd W q off C W.heap.size u wr)) (fun s9 _ => i1 + 1 - (intOf s9).toNat)
  case atStart => exact ⟨i0, d, rfl, HI.out.1, by have := HI.out.2.1; omega, HN, Lib.hid (permIn_refl d a b), HS⟩
  case round =>
    clear HS
    obtain ⟨i, u, rfl, hai, hi1, HU, HPm, H1⟩ := hrel
    by_cases hi : i ≤ i1
    · have hiz : (i : Int) ≤ (i1 : Int) := by omega
      have hib : i < b := by have := HI.out.2.2.1; omega
      go_wp2_with fail
      refine (next_is W _ H1.out).mono ?_
      rintro en w2 ⟨r, rfl, hr, h2⟩
      have H2 := Lib.hid h2
      obtain ⟨o, ho⟩ : ∃ o, r &&& N = o := ⟨_, rfl⟩
      have ho2 : o < 2 * l := by have := HM.out; have := Nat.and_le_right (n := r) (m := N); omega
      have hand : bits .and .u64 (r : Int) (N : Int) = (o : Int) := by rw [← ho]; exact bits_and_u64_nat r N hr (by omega)
      have hoz : (o : Int) ≤ 512 := by omega
      have HO := Lib.hid ho2
      clear h2 ho H1 ho2 hr
      go_upto_if 43 with fail
      go_cut [10] (fun s10 wx => w2 = wx ∧ ∃ o2 : Nat, s10 = .int .i64 o2 ∧ o2 < l)
      case first => as_aux_lemma =>
        by_cases hol : l ≤ o
        · have holz : (l : Int) ≤ (o : Int) := by omega
          go_wp2_with fail
          go_meet
          case rel => exact ⟨rfl, o - l, by congr 1; omega, by have := HO.out; omega⟩
        · have holz : ¬ (l : Int) ≤ (o : Int) := by omega
          go_wp2_with fail
          go_meet
          case rel => exact ⟨rfl, o, rfl, by omega⟩
      case rest => as_aux_lemma =>
        clear hand hoz HO
        obtain ⟨rfl, o, rfl, hol⟩ := hcut
        have hob : a + o < b := by have := HI.out.2.2.2.1; omega
        obtain ⟨G, hG⟩ : ∃ G : Nat → Int, ∀ t, G t = u[t]! := ⟨fun t => u[t]!, fun _ => rfl⟩
        have hcw : ∀ t, t < n → w2.cell? ⟨q, off + t, none⟩ = some (.int .u64 (G t)) := fun t ht => by rw [hG]; exact H2.out.put.cell (by rw [HU.out]; exact ht)
        have hfw : ∀ t, t < n → w2.frozen? ⟨q, off + t, none⟩ = false := fun t _ => H2.out.put.frozen _
        have HSw := Lib.hid (show Sd W q off C W.heap.size (swp u i (a + o)) (((w2.setCell ⟨q, off + i, none⟩ (.int .u64 u[a + o]!)).setCell ⟨q, off + (a + o), none⟩ (.int .u64 u[i]!)).drew) from (H2.out.swap (by rw [HU.out]; omega) (by rw [HU.out]; omega)).drew 1)
        rw [← hG, ← hG] at HSw
        have HU2 := Lib.hid (show (swp u i (a + o)).size = n from by rw [size_swp]; exact HU.out)
        have HPm2 := Lib.hid (permIn_trans _ _ _ _ _ HPm.out (swp_permIn u a b i (a + o) hai hib (by omega) hob (by rw [HU.out]; exact hb)))
        clear hG H2 HPm HU
        by_cases hne : i = a + o
        · have hnez : (a : Int) + (o : Int) = (i : Int) := by omega
          rw [← hne] at HSw HU2 HPm2
          clear hob hne
          go_upto_region 10 with fail
          go_region
          all_goals go_wp2_with fail
          go_roundw
          case rel => exact ⟨i + 1, _, by go_num, by omega, by omega, HU2, HPm2, HSw⟩
          case measure => simp [intOf]; omega
        · have hnez : (a : Int) + (o : Int) ≠ (i : Int) := by omega
          go_upto_region 10 with fail
          go_region
          all_goals go_wp2_with fail
          go_roundw
          case rel => exact ⟨i + 1, _, by go_num, by omega, by omega, HU2, HPm2, HSw⟩
          case measure => simp [intOf]; omega
    · have hiz : ¬ (i : Int) ≤ (i1 : Int) := by omega
      go_wp2_with fail
      go_end0
      exact ⟨rfl, u, HPm.out, H1.out.put⟩
end Go.Proofs.Yteggbkhlmehpmaa
