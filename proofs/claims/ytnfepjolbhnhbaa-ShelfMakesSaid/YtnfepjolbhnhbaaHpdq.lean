/-
  The library's sort of words, by its parts.
-/
import Derived.Test.YtnfepjolbhnhbaaHbreaks
namespace Go.Proofs.Ytnfepjolbhnhbaa
open Go Go.RowKit Go.Sort
attribute [local go_sem ↓] Go.wp_at_zero Go.wp_at_succ

/-- In the middle: the part [x, y) is yet to be put into order. -/
structure Midq (a b x y : Nat) (d u : Array Int) : Prop where
  perm : PermIn a b d u
  out : Out a b x y u
  flo : Floor a b u
  dist : u.toList.Nodup
section
variable {a b x y m n : Nat} {d u u1 u2 : Array Int}
theorem Midq.size (h : Midq a b x y d u) : u.size = d.size := h.perm.1
theorem Midq.turn (h : Midq a b x y d u) (hb : b ≤ d.size) (hax : a ≤ x) (hyb : y ≤ b) (p : PermIn x y u u2) : Midq a b x y d u2 := by
  have hs := h.size
  have p2 := permIn_mono _ _ _ _ _ _ hax hyb (by omega) p
  exact ⟨permIn_trans _ _ _ _ _ h.perm p2, h.out.perm hax hyb (by omega) p, h.flo.perm (by omega) p2, (perm_whole (by omega) p).nodup_iff.2 h.dist⟩
theorem Midq.floor (h : Midq a b x y d u) (hax : a ≤ x) (hyb : y ≤ b) : Floor x y u := h.flo.inner h.out hax hyb
theorem Midq.close (h : Midq a b x y d u) (ho : Ord x y u) : PermIn a b d u ∧ Ord a b u := ⟨h.perm, h.out.close ho⟩
theorem Midq.first (h : Midq a b x y d u) (hb : b ≤ d.size) (hax : a ≤ x) (hyb : y ≤ b) (p : PartR x y m u u1) (q : PermIn x m u1 u2) (s : Ord x m u2) : Midq a b (m + 1) y d u2 := by
  have hs := h.size
  have h1 := h.turn hb hax hyb p.2.2.1
  have hs1 := h1.size
  have hm := p.2.1
  have h2 := h1.turn hb hax hyb (permIn_mono _ _ _ _ _ _ (Nat.le_refl x) (by omega) (by omega) q)
  exact ⟨h2.perm, h1.out.first hax hyb (by omega) p q s, h2.flo, h2.dist⟩
theorem Midq.second (h : Midq a b x y d u) (hb : b ≤ d.size) (hax : a ≤ x) (hyb : y ≤ b) (p : PartR x y m u u1) (q : PermIn (m + 1) y u1 u2) (s : Ord (m + 1) y u2) : Midq a b x m d u2 := by
  have hs := h.size
  have h1 := h.turn hb hax hyb p.2.2.1
  have hs1 := h1.size
  have hm := p.1
  have h2 := h1.turn hb hax hyb (permIn_mono _ _ _ _ _ _ (by omega) (Nat.le_refl y) (by omega) q)
  exact ⟨h2.perm, h1.out.second hax hyb (by omega) p q s, h2.flo, h2.dist⟩
theorem Midq.start (h : Floor a b d) (hd : d.toList.Nodup) : Midq a b a b d d := ⟨permIn_refl d a b, Out.whole a b d, h, hd⟩
end

/-- What the sort leaves. -/
def PdqE (W : World) (q off C a b : Nat) (d : Array Int) (e : Ending) (Y : World) : Prop := e = .returned (.tuple #[]) ∧ ∃ u, PermIn a b d u ∧ Ord a b u ∧ Put W q off C u Y
def PdqN (N : Nat) : Prop := ∀ (W : World) (q off C : Nat) (d : Array Int) (n cap a b k : Nat), b - a < N → a ≤ b → b ≤ n → n < 60000 → d.size = n → d.toList.Nodup → Floor a b d → k ≤ 100 → Put W q off C d W →
  Calls Try.prog 42 #[.slice (some ⟨q, off, none⟩) n cap, .int .i64 a, .int .i64 b, .int .i64 k] W (PdqE W q off C a b d)

set_option maxRecDepth 100000 in
set_option maxHeartbeats 20000000 in
theorem pdq_step (N : Nat) (ih : PdqN N) : PdqN (N + 1) := by
  intro W q off C d n cap a b k0 hN hab hb hsz hn hd hf hk0 hP
  have H0 := Lib.hid hP
  have HM0 := Lib.hid (Midq.start hf hd)
  have HIh := Lib.hid ih
  have HN := Lib.hid hN
  have HD := Lib.hid hn
  have HB := Lib.hid (show b ≤ d.size from by omega)
  have hsz2 : (n : Int) ≤ 9223372036854775807 := by omega
  have hs6 : n ≤ 1000000 := by omega
  have HSz := Lib.hid hsz
  clear hsz ih hN hf hd hP hn
  go_enter Try.func42, Try.ntmps42
  go_wp2
  go_loopw [1, 2, 3, 8, 9] (fun s1 s2 s3 s8 s9 wr => ∃ (x y k : Nat) (b1 b2 : Bool) (u : Array Int), s1 = .int .i64 x ∧ s2 = .int .i64 y ∧ s3 = .int .i64 k ∧ s8 = .bool b1 ∧ s9 = .bool b2 ∧ a ≤ x ∧ x ≤ y ∧ y ≤ b ∧ k ≤ 100 ∧ Hid (Midq a b x y d u) ∧ Hid (Put W q off C u wr)) (fun s1 s2 _ _ _ _ => (intOf s2 - intOf s1).toNat)
  case atStart => exact ⟨a, b, k0, true, true, d, rfl, rfl, rfl, rfl, rfl, Nat.le_refl _, hab, Nat.le_refl _, hk0, HM0, H0⟩
  case round => as_aux_lemma =>
    obtain ⟨x, y, k, b1, b2, u, rfl, rfl, rfl, rfl, rfl, hax, hxy, hyb, hk, HM, H1⟩ := hrel
    clear H0 HM0 hk0
    have HU := Lib.hid (show u.size = n from by rw [HM.out.size]; exact HD.out)
    have hyn : y ≤ n := by omega
    have HFin := Lib.hid (fun (u2 : Array Int) (X : World) (p : PermIn x y u u2) (s : SortedIn ltInt x y u2) (hX : Put W q off C u2 X) => (show PdqE W q off C a b d (.returned (.tuple #[])) X from
      ⟨rfl, u2, ((HM.out.turn HB.out hax hyb p).close (Ord.of s)).1, ((HM.out.turn HB.out hax hyb p).close (Ord.of s)).2, hX⟩))
    by_cases h12 : y - x ≤ 12
    · have h12z : (y : Int) - (x : Int) ≤ 12 := by omega
      have HS := Lib.hid (insertionSort_holds swo_ltInt u x y hxy (by rw [HU.out]; exact hyn))
      go_wp2_with fail
      refine (insert_any _ cap x y H1.out.self HU.out hxy hyn hs6).mono ?_
      rintro en w2 ⟨rfl, h2⟩
      have HE := Lib.hid (HFin.out _ _ HS.out.1 HS.out.2 (H1.out.trans h2))
      clear h2
      go_wp2_with fail
      refine bodyPost_ret (results_none rfl _ _ _) rfl ?_
      exact HE.out
    · have h12z : ¬ (y : Int) - (x : Int) ≤ 12 := by omega
      by_cases hk0 : k = 0
      · subst hk0
        have HS := Lib.hid (heapSort_holds swo_ltInt u x y hxy (by rw [HU.out]; exact hyn))
        go_wp2_with fail
        refine (heapsort_any _ cap x y H1.out.self HU.out hxy hyn hs6).mono ?_
        rintro en w2 ⟨rfl, h2⟩
        have HE := Lib.hid (HFin.out _ _ HS.out.1 HS.out.2 (H1.out.trans h2))
        clear h2
        go_wp2_with fail
        refine bodyPost_ret (results_none rfl _ _ _) rfl ?_
        exact HE.out
      · have hkz : ((k : Int) == 0) = false := by simp; omega
        go_upto_if 35 with fail
        clear HFin
        have hxy12 : x + 12 < y := by omega
        go_cut [3] (fun s3 wx => ∃ (k2 : Nat) (u2 : Array Int), s3 = .int .i64 k2 ∧ k2 ≤ 100 ∧ Hid (Midq a b x y d u2) ∧ Hid (Put W q off C u2 wx))
        case first => as_aux_lemma =>
          cases b1 with
          | true =>
            go_wp2_with fail
            go_meet
            case rel => exact ⟨k, u, rfl, hk, HM, H1⟩
          | false =>
            go_wp2_with fail
            refine (break_any _ cap x y H1.out.self HU.out hxy12 hyn (Nat.lt_trans HSz.out (by decide))).mono ?_
            rintro en w2 ⟨rfl, u2, p2, h2⟩
            have HM2 := Lib.hid (HM.out.turn HB.out hax hyb p2)
            have H2 := Lib.hid (H1.out.trans h2)
            clear p2 h2
            go_wp2_with fail
            go_meet
            case rel => exact ⟨k - 1, u2, by congr 1; omega, by omega, HM2, H2⟩
        case rest => as_aux_lemma =>
          clear HM H1 HU
          obtain ⟨k2, u2, rfl, hk2, HM, H1⟩ := hcut
          have HU := Lib.hid (show u2.size = n from by rw [HM.out.size]; exact HD.out)
          clear hk hkz hk0
          go_wp2_with fail
          refine (pivot_any _ cap x y H1.out.self HU.out hxy12 hyn hs6).mono ?_
          rintro en w2 ⟨p, h, rfl, hp1, hp2, h2⟩
          have H2 := Lib.hid (H1.out.trans h2)
          clear h2 H1
          go_upto_if 50 with fail
          go_cut [11, 12] (fun s11 s12 wx => ∃ (p2 : Nat) (h2 : Int) (u3 : Array Int), s11 = .int .i64 p2 ∧ s12 = .int .i64 h2 ∧ x ≤ p2 ∧ p2 < y ∧ Hid (Midq a b x y d u3) ∧ Hid (Put W q off C u3 wx))
          case first => as_aux_lemma =>
            by_cases hh : h = 2
            · subst hh
              have HS := Lib.hid (reverseRange_holds u2 x y hxy (by rw [HU.out]; exact hyn))
              go_wp2_with fail
              refine (reverse_any _ cap x y H2.out.self HU.out (by omega) hyn hs6).mono ?_
              rintro en w3 ⟨rfl, h3⟩
              have H3 := Lib.hid (H2.out.trans h3)
              have HM3 := Lib.hid (HM.out.turn HB.out hax hyb HS.out)
              clear h3 HS
              go_wp2_with fail
              go_meet
              case rel => exact ⟨y - 1 - (p - x), 1, _, by congr 1; omega, rfl, by omega, by omega, HM3, H3⟩
            · have hhz : (h == 2) = false := by simpa using hh
              go_wp2_with fail
              go_meet
              case rel => exact ⟨p, h, u2, rfl, rfl, hp1, hp2, HM, H2⟩
          case rest => as_aux_lemma =>
            clear HM H2 HU hp1 hp2
            obtain ⟨p, h, u, rfl, rfl, hp1, hp2, HM, H1⟩ := hcut
            have HU := Lib.hid (show u.size = n from by rw [HM.out.size]; exact HD.out)
            go_upto_region 15 with fail
            go_cut [68] (fun s68 wx => wc = wx ∧ ∃ bb : Bool, s68 = .bool bb)
            case first => as_aux_lemma =>
              clear HM H1 HU
              by_cases hh : h = 1
              · subst hh
                cases b1 <;> cases b2
                all_goals
                  go_wp2_with fail
                  go_meet
                  case rel => exact ⟨rfl, _, rfl⟩
              · have hhz : (h == 1) = false := by simpa using hh
                clear hh
                cases b1 <;> cases b2
                all_goals
                  go_wp2_with fail
                  go_meet
                  case rel => exact ⟨rfl, _, rfl⟩
            case rest => as_aux_lemma =>
              obtain ⟨rfl, bb, rfl⟩ := hcut
              go_upto_if 68 with fail
              go_cut [] (fun wx => ∃ u3 : Array Int, Hid (Midq a b x y d u3) ∧ Hid (Put W q off C u3 wx))
              case first => as_aux_lemma =>
                cases bb with
                | false =>
                  go_wp2_with fail
                  go_meet
                  case rel => exact ⟨u, HM, H1⟩
                | true =>
                  have HS := Lib.hid (partialInsertionSort_holds swo_ltInt u x y (by omega) (by rw [HU.out]; exact hyn) (HM.out.floor hax hyb).sort)
                  go_wp2_with fail
                  refine (pins_any _ cap x y H1.out.self HU.out (by omega) hyn hs6).mono ?_
                  rintro en w5 ⟨r, u3, rfl, he, h5⟩
                  have HS2 := Lib.hid (show PermIn x y u u3 ∧ (r = true → SortedIn ltInt x y u3) from by
                    have := HS.out
                    unfold partialInsertionSort at this
                    rw [he] at this
                    exact this)
                  have H5 := Lib.hid (H1.out.trans h5)
                  have HM5 := Lib.hid (HM.out.turn HB.out hax hyb HS2.out.1)
                  clear h5 he HS
                  cases r with
                  | true =>
                    have HE := Lib.hid (show PdqE W q off C a b d (.returned (.tuple #[])) w5 from ⟨rfl, u3, (HM5.out.close (Ord.of (HS2.out.2 rfl))).1, (HM5.out.close (Ord.of (HS2.out.2 rfl))).2, H5.out⟩)
                    go_wp2_with fail
                    refine bodyPost_ret (results_none rfl _ _ _) rfl ?_
                    exact HE.out
                  | false =>
                    go_wp2_with fail
                    go_meet
                    case rel => exact ⟨u3, HM5, H5⟩
              case rest => as_aux_lemma =>
                clear HM H1 HU
                obtain ⟨u, HM, H1⟩ := hcut
                have HU := Lib.hid (show u.size = n from by rw [HM.out.size]; exact HD.out)
                obtain ⟨G, hG⟩ : ∃ G : Nat → Int, ∀ t, G t = u[t]! := ⟨fun t => u[t]!, fun _ => rfl⟩
                have HG := Lib.hid hG
                clear hG
                go_upto_region 17 with fail
                go_cut [87] (fun s87 wx => s87 = .bool false ∧ Hid (Put W q off C u wx))
                case first => as_aux_lemma =>
                  have hcw : ∀ t, t < n → wc.cell? ⟨q, off + t, none⟩ = some (.int .u64 (G t)) := fun t ht => by rw [HG.out]; exact H1.out.cell (by rw [HU.out]; exact ht)
                  have hfw : ∀ t, t < n → wc.frozen? ⟨q, off + t, none⟩ = false := fun t _ => H1.out.frozen _
                  by_cases hx0 : 0 < x
                  · have hx0z : (0 : Int) < (x : Int) := by omega
                    have hlt : ltInt (G (x - 1)) (G p) = true := by
                      rw [HG.out, HG.out, lt_yes]
                      have h1 : u[x - 1]! ≤ u[p]! := (HM.out.floor hax hyb).elim (fun h => by omega) (fun h => h p hp1 hp2)
                      have h2 := dist_ne HM.out.dist (i := x - 1) (j := p) (by rw [HU.out]; omega) (by rw [HU.out]; omega) (by omega)
                      omega
                    go_wp2_with fail
                    go_quiet (first | (go_at_call 59; refine Calls.quiet_of_same (less_any _ _ _)))
                    go_wp2_with fail
                    go_meet
                    case rel => exact ⟨by first | rfl | (rw [hlt]; rfl), Lib.hid (H1.out.drew nq)⟩
                  · have hx0z : decide ((0 : Int) < (x : Int)) = false := decide_eq_false (by omega)
                    go_wp2_with fail
                    go_quiet (first | (go_at_call 59; refine Calls.quiet_of_same (less_any _ _ _)))
                    go_wp2_with fail
                    go_meet
                    case rel => exact ⟨by first | rfl | simp, Lib.hid (H1.out.drew nq)⟩
                case rest => as_aux_lemma =>
                  clear H1 HG
                  obtain ⟨rfl, H1⟩ := hcut
                  go_wp2_with fail
                  refine (part_any _ cap x y p H1.out.self HU.out hp1 hp2 hyn hs6).mono ?_
                  rintro en w6 ⟨m, b3, u1, rfl, hR, h6⟩
                  have HR := Lib.hid hR
                  have H6 := Lib.hid (H1.out.trans h6)
                  have hm1 := hR.1
                  have hm2 := hR.2.1
                  have HM1 := Lib.hid (HM.out.turn HB.out hax hyb hR.2.2.1)
                  have HU1 := Lib.hid (show u1.size = n from by rw [HM1.out.size]; exact HD.out)
                  have HN2 := Lib.hid (show m - x < N ∧ y - (m + 1) < N from by have := HN.out; omega)
                  clear hR h6 H1
                  by_cases hlr : m - x < y - m
                  · have hlrz : (m : Int) - (x : Int) < (y : Int) - (m : Int) := by omega
                    have HC := Lib.hid (HIh.out w6 q off C u1 n cap x m k2 HN2.out.1 hm1 (by omega) HSz.out HU1.out HM1.out.dist (HR.out.floor1 (HM1.out.floor hax hyb)) hk2 H6.out.self)
                    go_wp2_with fail
                    refine HC.out.mono ?_
                    rintro en w7 ⟨rfl, u2, q2, o2, h7⟩
                    have HM2 := Lib.hid (HM.out.first HB.out hax hyb HR.out q2 o2)
                    have H7 := Lib.hid (H6.out.trans h7)
                    clear q2 o2 h7 HC H6 HM HM1
                    go_wp2_with fail
                    go_roundw
                    case rel => exact ⟨m + 1, y, k2, _, b3, u2, by go_num, rfl, rfl, rfl, rfl, by omega, by omega, hyb, hk2, HM2, H7⟩
                    case measure => simp [intOf]; omega
                  · have hlrz : ¬ (m : Int) - (x : Int) < (y : Int) - (m : Int) := by omega
                    have HC := Lib.hid (show Calls Try.prog 42 #[.slice (some ⟨q, off, none⟩) n cap, .int .i64 ((m : Int) + 1), .int .i64 y, .int .i64 k2] w6 (PdqE w6 q off C (m + 1) y u1) from HIh.out w6 q off C u1 n cap (m + 1) y k2 HN2.out.2 (by omega) hyn HSz.out HU1.out HM1.out.dist HR.out.floor2 hk2 H6.out.self)
                    go_wp2_with fail
                    refine HC.out.mono ?_
                    rintro en w7 ⟨rfl, u2, q2, o2, h7⟩
                    have HM2 := Lib.hid (HM.out.second HB.out hax hyb HR.out q2 o2)
                    have H7 := Lib.hid (H6.out.trans h7)
                    clear q2 o2 h7 HC H6 HM HM1
                    go_wp2_with fail
                    go_roundw
                    case rel => exact ⟨x, m, k2, _, b3, u2, rfl, rfl, rfl, rfl, rfl, hax, hm1, by omega, hk2, HM2, H7⟩
                    case measure => simp [intOf]; omega

theorem pdq_all : ∀ N, PdqN N
  | 0 => fun W q off C d n cap a b k h => by omega
  | N + 1 => pdq_step N (pdq_all N)

/-! ### slices.Sort -/
/-- What the sort of a whole row leaves. -/
def SortE (W : World) (q off C : Nat) (d : Array Int) (e : Ending) (Y : World) : Prop := e = .returned (.tuple #[]) ∧ ∃ u, u.toList.Perm d.toList ∧ Ord 0 d.size u ∧ Put W q off C u Y

set_option maxRecDepth 100000 in
set_option maxHeartbeats 2000000 in
theorem sort_any (W : World) {q off C : Nat} {d : Array Int} {n : Nat} (cap : Nat) (hP : Put W q off C d W) (hn : d.size = n) (hsz : n < 60000) (hd : d.toList.Nodup) :
    Calls Try.prog 36 #[.slice (some ⟨q, off, none⟩) n cap] W (SortE W q off C d) := by
  have HC := Lib.hid (fun k (hk : k ≤ 100) => pdq_all (n + 1) W q off C d n cap 0 n k (by omega) (Nat.zero_le _) (Nat.le_refl _) hsz hn hd (.inl rfl) hk hP)
  have HE := Lib.hid (fun (u : Array Int) (X : World) (p : PermIn 0 n d u) (o : Ord 0 n u) (hX : Put W q off C u X) => (show SortE W q off C d (.returned (.tuple #[])) X from
    ⟨rfl, u, perm_whole (by omega) p, by rw [hn]; exact o, hX⟩))
  have HL := Lib.hid (len_is n (by omega) W)
  have hn0 : (0 : Int) ≤ (n : Int) := by omega
  have hn1 : (n : Int) < 60000 := by omega
  clear hP hd hsz hn
  go_enter Try.func36, Try.ntmps36
  go_wp2_with fail
  refine HL.out.mono ?_
  rintro e w' ⟨L, rfl, hL, -, rfl⟩
  have HC2 := Lib.hid (show Calls Try.prog 42 #[.slice (some ⟨q, off, none⟩) n cap, .int .i64 0, .int .i64 n, .int .i64 L] W (PdqE W q off C 0 n d) from HC.out L (by omega))
  clear hL HC
  go_wp2_with fail
  refine HC2.out.mono ?_
  rintro e w' ⟨rfl, u, p, o, hX⟩
  have H2 := Lib.hid (HE.out u _ p o hX)
  clear p o hX
  go_wp2_with fail
  go_end0
  exact H2.out
end Go.Proofs.Ytnfepjolbhnhbaa
