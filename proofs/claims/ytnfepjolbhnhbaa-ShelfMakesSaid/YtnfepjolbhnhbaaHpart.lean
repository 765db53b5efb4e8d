/-
  A row of words parted at one of its words; turned round.
-/
import Derived.Test.YtnfepjolbhnhbaaHsift
namespace Go.Proofs.Ytnfepjolbhnhbaa
open Go Go.RowKit Go.Sort
attribute [local go_sem ↓] Go.wp_at_zero Go.wp_at_succ

set_option maxRecDepth 100000 in
set_option maxHeartbeats 4000000 in
theorem reverse_any (W : World) {q off C : Nat} {d : Array Int} {n : Nat} (cap a b : Nat) (hP : Put W q off C d W) (hn : d.size = n) (hab : a < b) (hb : b ≤ n) (hsz : n ≤ 1000000) :
    Calls Try.prog 57 #[.slice (some ⟨q, off, none⟩) n cap, .int .i64 a, .int .i64 b] W fun e W' => e = .returned (.tuple #[]) ∧ Put W q off C (reverseRange d a b) W' := by
  have H0 := Lib.hid hP
  have HN := Lib.hid hn
  obtain ⟨c, rfl⟩ : ∃ c, b = c + 1 := ⟨b - 1, by omega⟩
  clear hP hn
  go_enter Try.func57, Try.ntmps57
  go_wp2
  go_loopw [6, 7] (fun s6 s7 wr => ∃ (i j : Nat) (u : Array Int), s6 = .int .i64 i ∧ s7 = .int .i64 j ∧ a ≤ i ∧ j ≤ c ∧ i ≤ c + 1 ∧ Hid (u.size = n) ∧ Hid (Put W q off C u wr) ∧ Hid (reverseLoop i j u = reverseRange d a (c + 1))) (fun _ s7 _ => (intOf s7).toNat)
  case atStart => exact ⟨a, c, d, rfl, by go_num, Nat.le_refl _, Nat.le_refl _, by omega, HN, H0, Lib.hid rfl⟩
  case round =>
    obtain ⟨i, j, u, rfl, rfl, hai, hjc, hic, HU, H1, HO⟩ := hrel
    clear H0
    by_cases hij : i < j
    · have hijz : (i : Int) < (j : Int) := by omega
      obtain ⟨G, hG⟩ : ∃ G : Nat → Int, ∀ t, G t = u[t]! := ⟨fun t => u[t]!, fun _ => rfl⟩
      have HG := Lib.hid hG
      clear hG
      have hcw : ∀ t, t < n → wr.cell? ⟨q, off + t, none⟩ = some (.int .u64 (G t)) := fun t ht => by rw [HG.out]; exact H1.out.cell (by rw [HU.out]; exact ht)
      have hfw : ∀ t, t < n → wr.frozen? ⟨q, off + t, none⟩ = false := fun t _ => H1.out.frozen _
      go_upto_region 3 with fail
      go_region
      all_goals go_wp2
      go_roundw
      case rel =>
        refine ⟨i + 1, j - 1, swp u i j, by go_num, by congr 1; omega, by omega, by omega, by omega, Lib.hid (by rw [size_swp]; exact HU.out), Lib.hid ?_, Lib.hid ?_⟩
        · rw [HG.out, HG.out]
          exact (H1.out.swap (by rw [HU.out]; omega) (by rw [HU.out]; omega)).drew 1
        · rw [← HO.out]
          conv => rhs; rw [reverseLoop, if_pos hij]
      case measure => simp [intOf]; omega
    · have hijz : ¬ (i : Int) < (j : Int) := by omega
      go_wp2
      go_end0
      exact ⟨rfl, by rw [← HO.out, reverseLoop, if_neg hij]; exact H1.out⟩

/-! ### parted -/
/-- In the middle: what is known of the words up to i and from j on. -/
structure Pt (a b i j : Nat) (d u : Array Int) : Prop where
  perm : PermIn a b d u
  low : ∀ t, a < t → t < i → ltInt u[t]! u[a]! = true
  high : ∀ t, j < t → t < b → ltInt u[t]! u[a]! = false
/-- At the end: all that is less lies ahead of m, all else behind it. -/
def PartR (a b m : Nat) (d u : Array Int) : Prop :=
  a ≤ m ∧ m < b ∧ PermIn a b d u ∧ (∀ t, a ≤ t → t < m → ltInt u[t]! u[m]! = true) ∧ (∀ t, m < t → t < b → ltInt u[t]! u[m]! = false)
section
variable {a b i j : Nat} {d u : Array Int}
theorem Pt.up (h : Pt a b i j d u) (_ : i ≤ j) (hl : ltInt u[i]! u[a]! = true) : Pt a b (i + 1) j d u :=
  ⟨h.perm, fun t h1 h2 => by
    by_cases e : t = i
    · subst e; exact hl
    · exact h.low t h1 (by omega), h.high⟩
theorem Pt.down (h : Pt a b i j d u) (_ : i ≤ j) (hl : ltInt u[j]! u[a]! = false) : Pt a b i (j - 1) d u :=
  ⟨h.perm, h.low, fun t h1 h2 => by
    by_cases e : t = j
    · subst e; exact hl
    · exact h.high t (by omega) h2⟩
theorem Pt.swap (h : Pt a b i j d u) (hb : b ≤ u.size) (ha : a < i) (hij : i < j) (hj : j < b) (hl : ltInt u[i]! u[a]! = false) (hg : ltInt u[j]! u[a]! = true) : Pt a b (i + 1) (j - 1) d (swp u i j) := by
  have g := swp_get u (show i < u.size by omega) (show j < u.size by omega)
  have ga : (swp u i j)[a]! = u[a]! := by rw [g, if_neg (by omega), if_neg (by omega)]
  refine ⟨permIn_trans _ _ _ _ _ h.perm (swp_permIn u a b i j (by omega) (by omega) (by omega) hj hb), fun t h1 h2 => ?_, fun t h1 h2 => ?_⟩
  · rw [ga, g]
    by_cases e : t = i
    · subst e; rw [if_neg (by omega), if_pos rfl]; exact hg
    · rw [if_neg (by omega), if_neg e]; exact h.low t h1 (by omega)
  · rw [ga, g]
    by_cases e : t = j
    · subst e; rw [if_pos rfl]; exact hl
    · rw [if_neg e, if_neg (by omega)]; exact h.high t (by omega) h2
theorem Pt.last (h : Pt a b i j d u) (hb : b ≤ u.size) (haj : a ≤ j) (hij : j < i) (hj : j < b) : PartR a b j d (swp u j a) := by
  have g := swp_get u (show j < u.size by omega) (show a < u.size by omega)
  have gj : (swp u j a)[j]! = u[a]! := by
    rw [g]
    by_cases e : j = a
    · subst e; rw [if_pos rfl]
    · rw [if_neg e, if_pos rfl]
  refine ⟨haj, hj, permIn_trans _ _ _ _ _ h.perm (swp_permIn u a b j a haj hj (Nat.le_refl _) (by omega) hb), fun t h1 h2 => ?_, fun t h1 h2 => ?_⟩
  · rw [gj, g]
    by_cases e : t = a
    · subst e; rw [if_pos rfl]; exact h.low j (by omega) hij
    · rw [if_neg e, if_neg (by omega)]; exact h.low t (by omega) (by omega)
  · rw [gj, g, if_neg (by omega), if_neg (by omega)]; exact h.high t h1 h2
theorem Pt.first (hb : b ≤ d.size) (k : Nat) (hak : a ≤ k) (hkb : k < b) : Pt a b (a + 1) (b - 1) d (swp d a k) :=
  ⟨swp_permIn d a b a k (Nat.le_refl _) (by omega) hak hkb hb, fun t h1 h2 => by omega, fun t h1 h2 => by omega⟩
end

/-- What parting leaves. -/
def PartE (W : World) (q off C a b : Nat) (d : Array Int) (e : Ending) (W' : World) : Prop :=
  ∃ (m : Nat) (bb : Bool) (u : Array Int), e = .returned (.tuple #[.int .i64 m, .bool bb]) ∧ PartR a b m d u ∧ Put W q off C u W'

set_option maxRecDepth 100000 in
set_option maxHeartbeats 8000000 in
theorem part_any (W : World) {q off C : Nat} {d : Array Int} {n : Nat} (cap a b p : Nat) (hP : Put W q off C d W) (hn : d.size = n) (hap : a ≤ p) (hpb : p < b) (hb : b ≤ n) (hsz : n ≤ 1000000) :
    Calls Try.prog 61 #[.slice (some ⟨q, off, none⟩) n cap, .int .i64 a, .int .i64 b, .int .i64 p] W (PartE W q off C a b d) := by
  have H0 := Lib.hid hP
  have HN := Lib.hid hn
  have HD := Lib.hid (Pt.first (d := d) (by rw [hn]; exact hb) p hap hpb)
  obtain ⟨d1, hd1⟩ : ∃ d1, d = d1 := ⟨_, rfl⟩
  obtain ⟨u, hu⟩ : ∃ u, swp d a p = u := ⟨_, rfl⟩
  have HU := Lib.hid (show u.size = n from by rw [← hu, size_swp]; exact hn)
  have HP : Hid (Pt a b (a + 1) (b - 1) d1 u) := Lib.hid (by rw [← hd1, ← hu]; exact HD.out)
  have HDd := Lib.hid hd1
  have HUu := Lib.hid hu
  clear hP hn hd1 hu HD
  obtain ⟨j, hj1⟩ : ∃ j, b = j + 1 := ⟨b - 1, by omega⟩
  have hj : j < b := by omega
  have HJ := Lib.hid hj1
  rw [show b - 1 = j by omega] at HP
  go_enter Try.func61, Try.ntmps61
  go_upto_region 1 with fail
  go_cut [] (fun wx => Hid (Put W q off C u wx))
  case first => as_aux_lemma =>
    obtain ⟨G, hG⟩ : ∃ G : Nat → Int, ∀ t, G t = d[t]! := ⟨fun t => d[t]!, fun _ => rfl⟩
    have HSw := Lib.hid (show Put W q off C (swp d a p) (((W.setCell ⟨q, off + a, none⟩ (.int .u64 d[p]!)).setCell ⟨q, off + p, none⟩ (.int .u64 d[a]!)).drew) from (H0.out.swap (by rw [HN.out]; omega) (by rw [HN.out]; omega)).drew 1)
    rw [HUu.out, ← hG, ← hG] at HSw
    have hcw : ∀ t, t < n → W.cell? ⟨q, off + t, none⟩ = some (.int .u64 (G t)) := fun t ht => by rw [hG]; exact H0.out.cell (by rw [HN.out]; exact ht)
    have hfw : ∀ t, t < n → W.frozen? ⟨q, off + t, none⟩ = false := fun t _ => H0.out.frozen _
    clear hG hj1
    rcases Nat.lt_or_ge a p with hlt | hge
    · go_region
      all_goals go_wp2_with fail
      go_meet
      case rel => exact HSw
    · obtain rfl : p = a := by omega
      go_region
      all_goals go_wp2_with fail
      go_meet
      case rel => exact HSw
  case rest => as_aux_lemma =>
    have H1 := Lib.hid hcut.out
    have hbz : (b : Int) - 1 = (j : Int) := by omega
    have hai : a < a + 1 := Nat.lt_succ_self a
    have hi : a + 1 ≤ j + 1 := by omega
    clear H0 hcut hj1
    obtain ⟨i, hie⟩ : ∃ i, a + 1 = i := ⟨_, rfl⟩
    have hiz : (a : Int) + 1 = (i : Int) := by omega
    rw [hie] at HP hai hi
    have HIe := Lib.hid hie
    clear hie
    obtain ⟨G, hG⟩ : ∃ G : Nat → Int, ∀ t, G t = u[t]! := ⟨fun t => u[t]!, fun _ => rfl⟩
    have HG := Lib.hid hG
    clear hG
    go_upto_block 0 with fail
    go_cut [10] (fun s10 wx => ∃ i2 : Nat, s10 = .int .i64 i2 ∧ i ≤ i2 ∧ a < i2 ∧ i2 ≤ j + 1 ∧ Hid (Pt a b i2 j d1 u) ∧ Hid (i2 ≤ j → ltInt u[i2]! u[a]! = false) ∧ Hid (Put W q off C u wx))
    case first => as_aux_lemma =>
      go_wp2_with fail
      go_loopw [10] (fun s10 wr => ∃ i2 : Nat, s10 = .int .i64 i2 ∧ i ≤ i2 ∧ a < i2 ∧ i2 ≤ j + 1 ∧ Hid (Pt a b i2 j d1 u) ∧ Hid (Put W q off C u wr)) (fun s10 _ => j + 1 - (intOf s10).toNat)
      case atStart => exact ⟨i, rfl, Nat.le_refl _, hai, hi, HP, H1⟩
      case round =>
        clear HP H1 hai hi
        obtain ⟨i, rfl, hii, hai, hi, HP, H1⟩ := hrel
        have hcw : ∀ t, t < n → wr.cell? ⟨q, off + t, none⟩ = some (.int .u64 (G t)) := fun t ht => by rw [HG.out]; exact H1.out.cell (by rw [HU.out]; exact ht)
        have hfw : ∀ t, t < n → wr.frozen? ⟨q, off + t, none⟩ = false := fun t _ => H1.out.frozen _
        by_cases hij : i ≤ j
        · have hijz : (i : Int) ≤ (j : Int) := by omega
          go_wp2_with fail
          go_quiet (first | (go_at_call 59; refine Calls.quiet_of_same (less_any _ _ _)))
          go_wp2_with fail
          · have hl : ltInt (G i) (G a) = true := by assumption
            go_roundw
            case rel => exact ⟨i + 1, by go_num, by omega, by omega, by omega, Lib.hid (HP.out.up hij (by rw [← HG.out, ← HG.out]; exact hl)), Lib.hid (H1.out.drew nq)⟩
            case measure => simp [intOf]; omega
          · have hl : ltInt (G i) (G a) = false := by assumption
            go_meet
            case rel => exact ⟨i, rfl, hii, hai, hi, HP, Lib.hid (fun _ => by rw [← HG.out, ← HG.out]; exact hl), Lib.hid (H1.out.drew nq)⟩
        · have hijz : decide ((i : Int) ≤ (j : Int)) = false := decide_eq_false (by omega)
          go_wp2_with fail
          go_quiet (first | (go_at_call 59; refine Calls.quiet_of_same (less_any _ _ _)))
          go_wp2_with fail
          go_meet
          case rel => exact ⟨i, rfl, hii, hai, hi, HP, Lib.hid (fun h => absurd h hij), Lib.hid (H1.out.drew nq)⟩
    case rest => as_aux_lemma =>
      clear HP H1 hai hi
      obtain ⟨i, rfl, hii, hai, hi, HP, HX, H1⟩ := hcut
      go_upto_block 2 with fail
      go_cut [11] (fun s11 wx => ∃ j2 : Nat, s11 = .int .i64 j2 ∧ i ≤ j2 + 1 ∧ j2 ≤ j ∧ Hid (Pt a b i j2 d1 u) ∧ Hid (i ≤ j2 → ltInt u[j2]! u[a]! = true) ∧ Hid (Put W q off C u wx))
      case first => as_aux_lemma =>
        clear HX
        go_wp2_with fail
        go_loopw [11] (fun s11 wr => ∃ j2 : Nat, s11 = .int .i64 j2 ∧ i ≤ j2 + 1 ∧ j2 ≤ j ∧ Hid (Pt a b i j2 d1 u) ∧ Hid (Put W q off C u wr)) (fun s11 _ => (intOf s11).toNat)
        case atStart => exact ⟨j, rfl, hi, Nat.le_refl _, HP, H1⟩
        case round =>
          clear HP H1 hi
          obtain ⟨k, rfl, hi, hkj, HP, H1⟩ := hrel
          have hcw : ∀ t, t < n → wr.cell? ⟨q, off + t, none⟩ = some (.int .u64 (G t)) := fun t ht => by rw [HG.out]; exact H1.out.cell (by rw [HU.out]; exact ht)
          have hfw : ∀ t, t < n → wr.frozen? ⟨q, off + t, none⟩ = false := fun t _ => H1.out.frozen _
          by_cases hij : i ≤ k
          · have hijz : (i : Int) ≤ (k : Int) := by omega
            go_wp2_with fail
            go_quiet (first | (go_at_call 59; refine Calls.quiet_of_same (less_any _ _ _)))
            go_wp2_with fail
            · have hl : ltInt (G k) (G a) = false := by
                have h : (!ltInt (G k) (G a)) = true := by assumption
                simpa using h
              go_roundw
              case rel => exact ⟨k - 1, by congr 1; omega, by omega, by omega, Lib.hid (HP.out.down hij (by rw [← HG.out, ← HG.out]; exact hl)), Lib.hid (H1.out.drew nq)⟩
              case measure => simp [intOf]; omega
            · have hl : ltInt (G k) (G a) = true := by
                have h : (!ltInt (G k) (G a)) = false := by assumption
                simpa using h
              go_meet
              case rel => exact ⟨k, rfl, hi, hkj, HP, Lib.hid (fun _ => by rw [← HG.out, ← HG.out]; exact hl), Lib.hid (H1.out.drew nq)⟩
          · have hijz : decide ((i : Int) ≤ (k : Int)) = false := decide_eq_false (by omega)
            go_wp2_with fail
            go_quiet (first | (go_at_call 59; refine Calls.quiet_of_same (less_any _ _ _)))
            go_wp2_with fail
            go_meet
            case rel => exact ⟨k, rfl, hi, hkj, HP, Lib.hid (fun h => absurd h hij), Lib.hid (H1.out.drew nq)⟩
      case rest => as_aux_lemma =>
        clear HP H1 hi
        obtain ⟨k, rfl, hi, hkj, HP, HY, H1⟩ := hcut
        obtain hj := Nat.lt_of_le_of_lt hkj hj
        have HZ := Lib.hid (show i ≤ k → ltInt u[i]! u[a]! = false from fun h => HX.out (by omega))
        clear HX
        by_cases hik : k < i
        · have hikz : (k : Int) < (i : Int) := by omega
          have HR := Lib.hid (show PartR a b k d (swp u k a) from by rw [HDd.out]; exact HP.out.last (by rw [HU.out]; exact hb) (by omega) hik hj)
          have HSw := Lib.hid (show Put W q off C (swp u k a) (((wc.setCell ⟨q, off + k, none⟩ (.int .u64 u[a]!)).setCell ⟨q, off + a, none⟩ (.int .u64 u[k]!)).drew) from (H1.out.swap (by rw [HU.out]; omega) (by rw [HU.out]; omega)).drew 1)
          have HGo := Lib.hid (show u[a]! = G a ∧ u[k]! = G k from ⟨(HG.out _).symm, (HG.out _).symm⟩)
          rw [HGo.out.1, HGo.out.2] at HSw
          have hcw : ∀ t, t < n → wc.cell? ⟨q, off + t, none⟩ = some (.int .u64 (G t)) := fun t ht => by rw [HG.out]; exact H1.out.cell (by rw [HU.out]; exact ht)
          have hfw : ∀ t, t < n → wc.frozen? ⟨q, off + t, none⟩ = false := fun t _ => H1.out.frozen _
          clear HG HGo HP HY HZ
          rcases Nat.lt_or_ge a k with hak | hak
          · go_upto_region 8 with fail
            go_region
            all_goals go_wp2_with fail
            go_ret2
            exact ⟨_, _, _, rfl, HR.out, HSw.out⟩
          · obtain rfl : k = a := by omega
            go_upto_region 8 with fail
            go_region
            all_goals go_wp2_with fail
            go_ret2
            exact ⟨_, _, _, rfl, HR.out, HSw.out⟩
        · have hikz : ¬ (k : Int) < (i : Int) := by omega
          have hil := HZ.out (by omega)
          have hjl := HY.out (by omega)
          have hij : i < k := by
            rcases Nat.lt_or_ge i k with h | h
            · exact h
            · obtain rfl : i = k := by omega
              rw [hil] at hjl; cases hjl
          have HP2 := Lib.hid (HP.out.swap (by rw [HU.out]; exact hb) hai hij hj hil hjl)
          have HSw := Lib.hid (show Put W q off C (swp u i k) (((wc.setCell ⟨q, off + i, none⟩ (.int .u64 u[k]!)).setCell ⟨q, off + k, none⟩ (.int .u64 u[i]!)).drew) from (H1.out.swap (by rw [HU.out]; omega) (by rw [HU.out]; omega)).drew 1)
          have HGo := Lib.hid (show u[i]! = G i ∧ u[k]! = G k from ⟨(HG.out _).symm, (HG.out _).symm⟩)
          rw [HGo.out.1, HGo.out.2] at HSw
          have hcw : ∀ t, t < n → wc.cell? ⟨q, off + t, none⟩ = some (.int .u64 (G t)) := fun t ht => by rw [HG.out]; exact H1.out.cell (by rw [HU.out]; exact ht)
          have hfw : ∀ t, t < n → wc.frozen? ⟨q, off + t, none⟩ = false := fun t _ => H1.out.frozen _
          have HU2 := Lib.hid (show (swp u i k).size = n from by rw [size_swp]; exact HU.out)
          clear HG HGo HP HY HZ hil hjl
          go_upto_region 10 with fail
          go_region
          all_goals go_wp2_with fail
          generalize (((wc.setCell ⟨q, off + i, none⟩ (.int .u64 (G k))).setCell ⟨q, off + k, none⟩ (.int .u64 (G i))).drew) = w2 at HSw ⊢
          go_loopw [10, 11] (fun s10 s11 wr => ∃ (i j : Nat) (u : Array Int), s10 = .int .i64 i ∧ s11 = .int .i64 j ∧ a < i ∧ i ≤ j + 1 ∧ j < b ∧ Hid (u.size = n) ∧ Hid (Pt a b i j d1 u) ∧ Hid (Put W q off C u wr)) (fun s10 s11 _ => (intOf s11 + 1 - intOf s10).toNat)
          case atStart => exact ⟨i + 1, k - 1, _, by go_num, by congr 1; omega, by omega, by omega, by omega, HU2, HP2, HSw⟩
          case round => as_aux_lemma =>
            clear HSw HP2 HU2 HU hik hikz hij hi hj hai hcw hfw
            obtain ⟨i, j, u, rfl, rfl, hai, hi, hj, HU, HP, H1⟩ := hrel
            obtain ⟨G, hG⟩ : ∃ G : Nat → Int, ∀ t, G t = u[t]! := ⟨fun t => u[t]!, fun _ => rfl⟩
            have HG := Lib.hid hG
            clear hG
            go_upto_block 6 with fail
            go_cut [10] (fun s10 wx => ∃ i2 : Nat, s10 = .int .i64 i2 ∧ i ≤ i2 ∧ a < i2 ∧ i2 ≤ j + 1 ∧ Hid (Pt a b i2 j d1 u) ∧ Hid (i2 ≤ j → ltInt u[i2]! u[a]! = false) ∧ Hid (Put W q off C u wx))
            case first => as_aux_lemma =>
              go_wp2_with fail
              go_loopw [10] (fun s10 wr => ∃ i2 : Nat, s10 = .int .i64 i2 ∧ i ≤ i2 ∧ a < i2 ∧ i2 ≤ j + 1 ∧ Hid (Pt a b i2 j d1 u) ∧ Hid (Put W q off C u wr)) (fun s10 _ => j + 1 - (intOf s10).toNat)
              case atStart => exact ⟨i, rfl, Nat.le_refl _, hai, hi, HP, H1⟩
              case round =>
                clear HP H1 hai hi
                obtain ⟨i, rfl, hii, hai, hi, HP, H1⟩ := hrel
                have hcw : ∀ t, t < n → wr.cell? ⟨q, off + t, none⟩ = some (.int .u64 (G t)) := fun t ht => by rw [HG.out]; exact H1.out.cell (by rw [HU.out]; exact ht)
                have hfw : ∀ t, t < n → wr.frozen? ⟨q, off + t, none⟩ = false := fun t _ => H1.out.frozen _
                by_cases hij : i ≤ j
                · have hijz : (i : Int) ≤ (j : Int) := by omega
                  go_wp2_with fail
                  go_quiet (first | (go_at_call 59; refine Calls.quiet_of_same (less_any _ _ _)))
                  go_wp2_with fail
                  · have hl : ltInt (G i) (G a) = true := by assumption
                    go_roundw
                    case rel => exact ⟨i + 1, by go_num, by omega, by omega, by omega, Lib.hid (HP.out.up hij (by rw [← HG.out, ← HG.out]; exact hl)), Lib.hid (H1.out.drew nq)⟩
                    case measure => simp [intOf]; omega
                  · have hl : ltInt (G i) (G a) = false := by assumption
                    go_meet
                    case rel => exact ⟨i, rfl, hii, hai, hi, HP, Lib.hid (fun _ => by rw [← HG.out, ← HG.out]; exact hl), Lib.hid (H1.out.drew nq)⟩
                · have hijz : decide ((i : Int) ≤ (j : Int)) = false := decide_eq_false (by omega)
                  go_wp2_with fail
                  go_quiet (first | (go_at_call 59; refine Calls.quiet_of_same (less_any _ _ _)))
                  go_wp2_with fail
                  go_meet
                  case rel => exact ⟨i, rfl, hii, hai, hi, HP, Lib.hid (fun h => absurd h hij), Lib.hid (H1.out.drew nq)⟩
            case rest => as_aux_lemma =>
              clear HP H1 hai hi
              obtain ⟨i, rfl, hii, hai, hi, HP, HX, H1⟩ := hcut
              go_upto_block 8 with fail
              go_cut [11] (fun s11 wx => ∃ j2 : Nat, s11 = .int .i64 j2 ∧ i ≤ j2 + 1 ∧ j2 ≤ j ∧ Hid (Pt a b i j2 d1 u) ∧ Hid (i ≤ j2 → ltInt u[j2]! u[a]! = true) ∧ Hid (Put W q off C u wx))
              case first => as_aux_lemma =>
                clear HX
                go_wp2_with fail
                go_loopw [11] (fun s11 wr => ∃ j2 : Nat, s11 = .int .i64 j2 ∧ i ≤ j2 + 1 ∧ j2 ≤ j ∧ Hid (Pt a b i j2 d1 u) ∧ Hid (Put W q off C u wr)) (fun s11 _ => (intOf s11).toNat)
                case atStart => exact ⟨j, rfl, hi, Nat.le_refl _, HP, H1⟩
                case round =>
                  clear HP H1 hi
                  obtain ⟨k, rfl, hi, hkj, HP, H1⟩ := hrel
                  have hcw : ∀ t, t < n → wr.cell? ⟨q, off + t, none⟩ = some (.int .u64 (G t)) := fun t ht => by rw [HG.out]; exact H1.out.cell (by rw [HU.out]; exact ht)
                  have hfw : ∀ t, t < n → wr.frozen? ⟨q, off + t, none⟩ = false := fun t _ => H1.out.frozen _
                  by_cases hij : i ≤ k
                  · have hijz : (i : Int) ≤ (k : Int) := by omega
                    go_wp2_with fail
                    go_quiet (first | (go_at_call 59; refine Calls.quiet_of_same (less_any _ _ _)))
                    go_wp2_with fail
                    · have hl : ltInt (G k) (G a) = false := by
                        have h : (!ltInt (G k) (G a)) = true := by assumption
                        simpa using h
                      go_roundw
                      case rel => exact ⟨k - 1, by congr 1; omega, by omega, by omega, Lib.hid (HP.out.down hij (by rw [← HG.out, ← HG.out]; exact hl)), Lib.hid (H1.out.drew nq)⟩
                      case measure => simp [intOf]; omega
                    · have hl : ltInt (G k) (G a) = true := by
                        have h : (!ltInt (G k) (G a)) = false := by assumption
                        simpa using h
                      go_meet
                      case rel => exact ⟨k, rfl, hi, hkj, HP, Lib.hid (fun _ => by rw [← HG.out, ← HG.out]; exact hl), Lib.hid (H1.out.drew nq)⟩
                  · have hijz : decide ((i : Int) ≤ (k : Int)) = false := decide_eq_false (by omega)
                    go_wp2_with fail
                    go_quiet (first | (go_at_call 59; refine Calls.quiet_of_same (less_any _ _ _)))
                    go_wp2_with fail
                    go_meet
                    case rel => exact ⟨k, rfl, hi, hkj, HP, Lib.hid (fun h => absurd h hij), Lib.hid (H1.out.drew nq)⟩
              case rest => as_aux_lemma =>
                clear HP H1 hi
                obtain ⟨k, rfl, hi, hkj, HP, HY, H1⟩ := hcut
                obtain hj := Nat.lt_of_le_of_lt hkj hj
                have HZ := Lib.hid (show i ≤ k → ltInt u[i]! u[a]! = false from fun h => HX.out (by omega))
                clear HX
                by_cases hik : k < i
                · have hikz : (k : Int) < (i : Int) := by omega
                  have HR := Lib.hid (show PartR a b k d (swp u k a) from by rw [HDd.out]; exact HP.out.last (by rw [HU.out]; exact hb) (by omega) hik hj)
                  have HSw := Lib.hid (show Put W q off C (swp u k a) (((wc.setCell ⟨q, off + k, none⟩ (.int .u64 u[a]!)).setCell ⟨q, off + a, none⟩ (.int .u64 u[k]!)).drew) from (H1.out.swap (by rw [HU.out]; omega) (by rw [HU.out]; omega)).drew 1)
                  have HGo := Lib.hid (show u[a]! = G a ∧ u[k]! = G k from ⟨(HG.out _).symm, (HG.out _).symm⟩)
                  rw [HGo.out.1, HGo.out.2] at HSw
                  have hcw : ∀ t, t < n → wc.cell? ⟨q, off + t, none⟩ = some (.int .u64 (G t)) := fun t ht => by rw [HG.out]; exact H1.out.cell (by rw [HU.out]; exact ht)
                  have hfw : ∀ t, t < n → wc.frozen? ⟨q, off + t, none⟩ = false := fun t _ => H1.out.frozen _
                  clear HG HGo HP HY HZ
                  rcases Nat.lt_or_ge a k with hak | hak
                  · go_upto_region 21 with fail
                    go_region
                    all_goals go_wp2_with fail
                    go_ret2
                    exact ⟨_, _, _, rfl, HR.out, HSw.out⟩
                  · obtain rfl : k = a := by omega
                    go_upto_region 21 with fail
                    go_region
                    all_goals go_wp2_with fail
                    go_ret2
                    exact ⟨_, _, _, rfl, HR.out, HSw.out⟩
                · have hikz : ¬ (k : Int) < (i : Int) := by omega
                  have hil := HZ.out (by omega)
                  have hjl := HY.out (by omega)
                  have hij : i < k := by
                    rcases Nat.lt_or_ge i k with h | h
                    · exact h
                    · obtain rfl : i = k := by omega
                      rw [hil] at hjl; cases hjl
                  have HP2 := Lib.hid (HP.out.swap (by rw [HU.out]; exact hb) hai hij hj hil hjl)
                  have HSw := Lib.hid (show Put W q off C (swp u i k) (((wc.setCell ⟨q, off + i, none⟩ (.int .u64 u[k]!)).setCell ⟨q, off + k, none⟩ (.int .u64 u[i]!)).drew) from (H1.out.swap (by rw [HU.out]; omega) (by rw [HU.out]; omega)).drew 1)
                  have HGo := Lib.hid (show u[i]! = G i ∧ u[k]! = G k from ⟨(HG.out _).symm, (HG.out _).symm⟩)
                  rw [HGo.out.1, HGo.out.2] at HSw
                  have hcw : ∀ t, t < n → wc.cell? ⟨q, off + t, none⟩ = some (.int .u64 (G t)) := fun t ht => by rw [HG.out]; exact H1.out.cell (by rw [HU.out]; exact ht)
                  have hfw : ∀ t, t < n → wc.frozen? ⟨q, off + t, none⟩ = false := fun t _ => H1.out.frozen _
                  have HU2 := Lib.hid (show (swp u i k).size = n from by rw [size_swp]; exact HU.out)
                  clear HG HGo HP HY HZ hil hjl
                  go_upto_region 18 with fail
                  go_region
                  all_goals go_wp2_with fail
                  generalize (((wc.setCell ⟨q, off + i, none⟩ (.int .u64 (G k))).setCell ⟨q, off + k, none⟩ (.int .u64 (G i))).drew) = w2 at HSw ⊢
                  go_roundw
                  case rel => exact ⟨i + 1, k - 1, _, by go_num, by congr 1; omega, by omega, by omega, by omega, HU2, HP2, HSw⟩
                  case measure => simp [intOf]; omega
end Go.Proofs.Ytnfepjolbhnhbaa
