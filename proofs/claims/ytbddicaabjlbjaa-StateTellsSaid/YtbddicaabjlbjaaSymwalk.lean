/-
  The library's merging of two sorted neighbouring parts, of any length: the walk.
-/
import Derived.Test.YtbddicaabjlbjaaSym
namespace Go.Proofs.Ytbddicaabjlbjaa
open Go Go.Shelf Go.RowKit Go.Lib Go.Sort
variable {P : Program} {k : Nat} {enc : ChD → List Value} {cf : ChD → ChD → Int} {g : Nat} {cb : Array Value} {blk off : Nat} {d0 : Array ChD} {w0 : World}

set_option maxHeartbeats 16000000 in
set_option maxRecDepth 1000000 in
theorem sym_step (E : SE P k enc cf g cb blk off d0 w0) {N : Nat} (ih : SymN P enc k w0 blk off g cb d0 N) (X U V Y : List ChD) (cap a m b sz : Nat) (w : World) (hN : U.length + V.length ≤ N + 1) (ha : X.length = a) (hm : a + U.length = m) (hb : m + V.length = b)
    (hU2 : 2 ≤ U.length) (hV2 : 2 ≤ V.length) (hU : KS U) (hV : KS V)
    (hsz : (X ++ (U ++ (V ++ Y))).length = sz) (hd : d0.size = sz) (S : SWK enc k w0 blk off (X ++ (U ++ (V ++ Y))).toArray w) :
    Calls P 42 #[.slice (some ⟨blk, off, none⟩) sz cap, .int .i64 a, .int .i64 m, .int .i64 b, .func (.func g) #[] cb] w (Merged enc k w0 blk off X (U ++ V) Y) := by
  obtain ⟨mixed, t3, a3, z3, v3, t4, a4, z4, v4, tu, au, zu, vu, ts, aS, zs, vs, tf, af, zf, vf⟩ := E.T
  have FG := E.F3
  have aE := E.aE
  have zE := E.zE
  have eg := E.eg
  have e42 : ∀ args w, (callFunc 42 args).run P w = .ok (.enter 42 args) w := enters_of E.F3 (by kernel_rfl) rfl
  have e48 : ∀ args w, (callFunc 48 args).run P w = .ok (.enter 48 args) w := enters_of E.F2 (by kernel_rfl) rfl
  have HR := Lib.hid E.R
  have HC := Lib.hid E.hcmp
  have HCF := Lib.hid E.hcf
  have hz := E.hsz
  have hszb : b ≤ sz := by rw [← hsz]; simp only [List.length_append]; omega
  have hb62 : sz < 4611686018427387904 := by omega
  obtain ⟨mid, hmid⟩ : ∃ mid : Nat, mid = (a + b) / 2 := ⟨_, rfl⟩
  have HMono := Lib.hid (fun lo hi (M : MidS a m b mid lo hi) => mono_sym (Y := Y) hU hV ha hm hb M)
  have HParts := Lib.hid (fun lo hi t w (M : MidS a m b mid lo hi) (h : Srch (fun c => ltC (X ++ (U ++ (V ++ Y))).toArray[mid + m - 1 - c]! (X ++ (U ++ (V ++ Y))).toArray[c]! = false) lo hi t t) (S : SWK enc k w0 blk off (X ++ (U ++ (V ++ Y))).toArray w) => parts E ih (t := t) cap hN hU hV ha hm hb hmid M hsz hd h S (by omega))
  have HCut := Lib.hid (fun t : Nat => show (U.take (t - a) ++ U.drop (t - a)) ++ (V.take (mid - t) ++ V.drop (mid - t)) = U ++ V by rw [List.take_append_drop, List.take_append_drop])
  have HD := Lib.hid hd
  have hma : a + 2 ≤ m := by omega
  have hmb : m + 2 ≤ b := by omega
  obtain ⟨dk, hdk⟩ : ∃ dk, (X ++ (U ++ (V ++ Y))).toArray = dk := ⟨_, rfl⟩
  have hs1 : dk.size = sz := by rw [← hdk]; exact hsz
  rw [hdk] at HMono S HParts
  have HS1 := Lib.hid hs1
  have HS0 : Aside (SWK enc k w0 blk off dk w) := S
  have hmidz : ((a : Int) + (b : Int)) / 2 = (mid : Int) := by omega
  have hm1 : a < mid := by omega
  have hm2 : mid < b := by omega
  have hm3 : 2 * mid ≤ a + b := by omega
  have hm4 : a + b ≤ 2 * mid + 1 := by omega
  have hcond : ¬ (m : Int) - (a : Int) = 1 := by omega
  have hcondB : ((m : Int) - (a : Int) == 1) = false := by rw [beq_eq_false_iff_ne]; omega
  have hcond2 : ¬ (b : Int) - (m : Int) = 1 := by omega
  have hcond2B : ((b : Int) - (m : Int) == 1) = false := by rw [beq_eq_false_iff_ne]; omega
  clear ha hm hb hU hV hU2 hV2 hsz hd S hz hdk hs1 E ih hN
  have HMidS := Lib.hid hmid
  clear hmid
  go_enter FG, Try.ntmps42
  go_upto_if 140 with fail
  clear hcond hcondB hcond2 hcond2B
  go_cut [20, 21] from 25 (fun s20 s21 wc => ∃ lo hi : Nat, s20 = .int .i64 lo ∧ s21 = .int .i64 hi ∧ MidS a m b mid lo hi ∧ wc = w)
  case first =>
    by_cases hc : mid < m
    · have hcz : (mid : Int) < (m : Int) := by omega
      go_wp2_with fail
      go_meet
      case rel => exact ⟨mid + m - b, mid, by congr 1; omega, rfl, ⟨by omega, by omega, by omega, by omega, by omega, .inr rfl, .inr (by omega)⟩, rfl⟩
    · have hcz : ¬ (mid : Int) < (m : Int) := by omega
      go_wp2_with fail
      go_meet
      case rel => exact ⟨a, m, rfl, rfl, ⟨Nat.le_refl _, by omega, by omega, Nat.le_refl _, by omega, .inl rfl, .inl rfl⟩, rfl⟩
  case rest =>
    obtain ⟨lo, hi, rfl, rfl, M, rfl⟩ := hcut
    have q1 := M.a1
    have q2 := M.a2
    have q3 := M.a3
    have q4 := M.a4
    have q5 := M.a5
    have HM := Lib.hid M
    clear M
    go_wp2_with fail
    go_loopg [20, 21] (hi - lo) (fun kx s10 s11 wr => ∃ i j : Nat, s10 = .int .i64 i ∧ s11 = .int .i64 j ∧ lo ≤ i ∧ i ≤ j ∧ j ≤ hi ∧ j - i ≤ kx ∧ Hid (Srch (fun c => ltC dk[mid + m - 1 - c]! dk[c]! = false) lo hi i j) ∧ Aside (SWK enc k w0 blk off dk wr))
    case atStart => exact ⟨lo, hi, rfl, rfl, Nat.le_refl _, q2, Nat.le_refl _, Nat.le_refl _, Srch.start q2, HS0⟩
    case round =>
      clear HS0
      obtain ⟨i, j, rfl, rfl, hmi, hij, hjb, hkx, hS, SU⟩ := hrel
      by_cases hlt : i < j
      · have hltz : (i : Int) < (j : Int) := by omega
        obtain ⟨c, hc0⟩ : ∃ c, (i + j) / 2 = c := ⟨_, rfl⟩
        obtain ⟨q, hq0⟩ : ∃ q, mid + m - 1 - c = q := ⟨_, rfl⟩
        have hcz : ((i : Int) + (j : Int)) / 2 = (c : Int) := by omega
        have hqz : (mid : Int) + (m : Int) - 1 - (c : Int) = (q : Int) := by omega
        have ci : i ≤ c := by omega
        have cj : c < j := by omega
        have pc : (0 : Int) ≤ (c : Int) := by omega
        have bc : (c : Int) < (sz : Int) := by omega
        have pa : (0 : Int) ≤ (q : Int) := by omega
        have ba : (q : Int) < (sz : Int) := by omega
        have ra : IntKind.i64.wrap (q : Int) = (q : Int) := by rw [IntKind.wrap_i64]; omega
        have rc : IntKind.i64.wrap (c : Int) = (c : Int) := by rw [IntKind.wrap_i64]; omega
        obtain ⟨x, hx⟩ : ∃ x, x = dk[q]! := ⟨_, rfl⟩
        obtain ⟨y, hy⟩ : ∃ x, x = dk[c]! := ⟨_, rfl⟩
        have la := SU.out.ld HR.out (by rw [HS1.out, HD.out]) P (q) (by rw [HS1.out]; omega)
        have lb := SU.out.ld HR.out (by rw [HS1.out, HD.out]) P c (by rw [HS1.out]; omega)
        rw [← hx] at la
        rw [← hy] at lb
        have hc := SU.out.cmp HC.out (by rw [HS1.out, HD.out]) x y
        cases hlv : ltC x y with
        | false =>
          have hv : ¬ cf x y < 0 := by have := HCF.out x y; rw [hlv] at this; exact of_decide_eq_false this
          have hd' : decide (cf x y < 0) = false := decide_eq_false hv
          have HN := Lib.hid (show Srch (fun c => ltC dk[mid + m - 1 - c]! dk[c]! = false) lo hi (c + 1) j from hS.out.up (HMono.out _ _ HM.out) (by omega) (by omega) (by show ltC dk[mid + m - 1 - c]! dk[c]! = false; rw [hq0, ← hx, ← hy]; exact hlv))
          clear hx hy hlv hc0 hq0
          go_wp2_with fail
          go_quiet_grown (first | (go_at_fn g; refine Calls.grown_of (hc _ _)))
          have SU2 : Aside (SWK enc k w0 blk off dk (grow (wr.drewN nq) osq)) := SU.out.grown nq osq
          clear la lb hc SU
          generalize grow (wr.drewN nq) osq = wu2 at SU2 ⊢
          clear nq osq
          go_wp2
          go_roundg (j - (c + 1))
          case measure => omega
          case rel => exact ⟨c + 1, j, by first | rfl | go_num, rfl, by omega, by omega, hjb, Nat.le_refl _, HN, SU2⟩
        | true =>
          have hv : cf x y < 0 := by have := HCF.out x y; rw [hlv] at this; exact of_decide_eq_true this
          have hd' : decide (cf x y < 0) = true := decide_eq_true hv
          have HN := Lib.hid (show Srch (fun c => ltC dk[mid + m - 1 - c]! dk[c]! = false) lo hi i c from hS.out.down (HMono.out _ _ HM.out) (by omega) (by omega) (by show ¬ ltC dk[mid + m - 1 - c]! dk[c]! = false; rw [hq0, ← hx, ← hy, hlv]; exact Bool.noConfusion))
          clear hx hy hlv hc0 hq0
          go_wp2_with fail
          go_quiet_grown (first | (go_at_fn g; refine Calls.grown_of (hc _ _)))
          have SU2 : Aside (SWK enc k w0 blk off dk (grow (wr.drewN nq) osq)) := SU.out.grown nq osq
          clear la lb hc SU
          generalize grow (wr.drewN nq) osq = wu2 at SU2 ⊢
          clear nq osq
          go_wp2
          go_roundg (c - i)
          case measure => omega
          case rel => exact ⟨i, c, rfl, rfl, hmi, by omega, by omega, Nat.le_refl _, HN, SU2⟩
      · obtain rfl : i = j := by omega
        have HP := Lib.hid (HParts.out lo hi i wr HM.out hS.out SU.out)
        clear hS SU HMono HParts HM HS1
        obtain ⟨e, he⟩ : ∃ e, mid + m - i = e := ⟨_, rfl⟩
        rw [he] at HP
        have hez : (mid : Int) + (m : Int) - (i : Int) = (e : Int) := by omega
        have he1 : e ≤ b := by omega
        have he2 : m ≤ e := by omega
        have HEq := Lib.hid he
        clear he
        by_cases c1 : i < m ∧ m < e
        · obtain ⟨y1, x1⟩ := (⟨c1.1, c1.2⟩ : i < m ∧ m < e)
          have z1 : (i : Int) < (m : Int) := by omega
          have z2 : (m : Int) < (e : Int) := by omega
          by_cases c2 : a < i ∧ i < mid
          · obtain ⟨y2, x2⟩ := (⟨c2.1, c2.2⟩ : a < i ∧ i < mid)
            have z3 : (a : Int) < (i : Int) := by omega
            have z4 : (i : Int) < (mid : Int) := by omega
            by_cases c3 : mid < e ∧ e < b
            · obtain ⟨y3, x3⟩ := (⟨c3.1, c3.2⟩ : mid < e ∧ e < b)
              have z5 : (mid : Int) < (e : Int) := by omega
              have z6 : (e : Int) < (b : Int) := by omega
              go_wp2_with (go_at_fn 48; refine (HP.out.rot c1.1 c1.2).mono ?_; rintro x w1 ⟨rfl, h1⟩)
              go_wp2_with (go_at_fn 42; refine (HP.out.one _ h1 c2.1 c2.2).mono ?_; rintro x w2 ⟨rfl, h2⟩)
              go_wp2_with (go_at_fn 42; refine (HP.out.two _ h2 c3.1 c3.2).mono ?_; rintro x w3 ⟨rfl, h3⟩)
              go_end0
              exact ⟨rfl, by have := h3; rw [HCut.out] at this; exact this⟩
            · by_cases y3 : mid < e
              · have x3 : ¬ e < b := fun h => c3 ⟨y3, h⟩
                have z5 : (mid : Int) < (e : Int) := by omega
                have z6 : ¬ (e : Int) < (b : Int) := by omega
                go_wp2_with (go_at_fn 48; refine (HP.out.rot c1.1 c1.2).mono ?_; rintro x w1 ⟨rfl, h1⟩)
                go_wp2_with (go_at_fn 42; refine (HP.out.one _ h1 c2.1 c2.2).mono ?_; rintro x w2 ⟨rfl, h2⟩)
                have h3 := HP.out.two' _ h2 c3
                go_wp2_with fail
                go_end0
                exact ⟨rfl, by have := h3; rw [HCut.out] at this; exact this⟩
              · have z5 : ¬ (mid : Int) < (e : Int) := by omega
                go_wp2_with (go_at_fn 48; refine (HP.out.rot c1.1 c1.2).mono ?_; rintro x w1 ⟨rfl, h1⟩)
                go_wp2_with (go_at_fn 42; refine (HP.out.one _ h1 c2.1 c2.2).mono ?_; rintro x w2 ⟨rfl, h2⟩)
                have h3 := HP.out.two' _ h2 c3
                go_wp2_with fail
                go_end0
                exact ⟨rfl, by have := h3; rw [HCut.out] at this; exact this⟩
          · by_cases y2 : a < i
            · have x2 : ¬ i < mid := fun h => c2 ⟨y2, h⟩
              have z3 : (a : Int) < (i : Int) := by omega
              have z4 : ¬ (i : Int) < (mid : Int) := by omega
              by_cases c3 : mid < e ∧ e < b
              · obtain ⟨y3, x3⟩ := (⟨c3.1, c3.2⟩ : mid < e ∧ e < b)
                have z5 : (mid : Int) < (e : Int) := by omega
                have z6 : (e : Int) < (b : Int) := by omega
                go_wp2_with (go_at_fn 48; refine (HP.out.rot c1.1 c1.2).mono ?_; rintro x w1 ⟨rfl, h1⟩)
                have h2 := HP.out.one' _ h1 c2
                go_wp2_with (go_at_fn 42; refine (HP.out.two _ h2 c3.1 c3.2).mono ?_; rintro x w3 ⟨rfl, h3⟩)
                go_end0
                exact ⟨rfl, by have := h3; rw [HCut.out] at this; exact this⟩
              · by_cases y3 : mid < e
                · have x3 : ¬ e < b := fun h => c3 ⟨y3, h⟩
                  have z5 : (mid : Int) < (e : Int) := by omega
                  have z6 : ¬ (e : Int) < (b : Int) := by omega
                  go_wp2_with (go_at_fn 48; refine (HP.out.rot c1.1 c1.2).mono ?_; rintro x w1 ⟨rfl, h1⟩)
                  have h2 := HP.out.one' _ h1 c2
                  have h3 := HP.out.two' _ h2 c3
                  go_wp2_with fail
                  go_end0
                  exact ⟨rfl, by have := h3; rw [HCut.out] at this; exact this⟩
                · have z5 : ¬ (mid : Int) < (e : Int) := by omega
                  go_wp2_with (go_at_fn 48; refine (HP.out.rot c1.1 c1.2).mono ?_; rintro x w1 ⟨rfl, h1⟩)
                  have h2 := HP.out.one' _ h1 c2
                  have h3 := HP.out.two' _ h2 c3
                  go_wp2_with fail
                  go_end0
                  exact ⟨rfl, by have := h3; rw [HCut.out] at this; exact this⟩
            · have z3 : ¬ (a : Int) < (i : Int) := by omega
              by_cases c3 : mid < e ∧ e < b
              · obtain ⟨y3, x3⟩ := (⟨c3.1, c3.2⟩ : mid < e ∧ e < b)
                have z5 : (mid : Int) < (e : Int) := by omega
                have z6 : (e : Int) < (b : Int) := by omega
                go_wp2_with (go_at_fn 48; refine (HP.out.rot c1.1 c1.2).mono ?_; rintro x w1 ⟨rfl, h1⟩)
                have h2 := HP.out.one' _ h1 c2
                go_wp2_with (go_at_fn 42; refine (HP.out.two _ h2 c3.1 c3.2).mono ?_; rintro x w3 ⟨rfl, h3⟩)
                go_end0
                exact ⟨rfl, by have := h3; rw [HCut.out] at this; exact this⟩
              · by_cases y3 : mid < e
                · have x3 : ¬ e < b := fun h => c3 ⟨y3, h⟩
                  have z5 : (mid : Int) < (e : Int) := by omega
                  have z6 : ¬ (e : Int) < (b : Int) := by omega
                  go_wp2_with (go_at_fn 48; refine (HP.out.rot c1.1 c1.2).mono ?_; rintro x w1 ⟨rfl, h1⟩)
                  have h2 := HP.out.one' _ h1 c2
                  have h3 := HP.out.two' _ h2 c3
                  go_wp2_with fail
                  go_end0
                  exact ⟨rfl, by have := h3; rw [HCut.out] at this; exact this⟩
                · have z5 : ¬ (mid : Int) < (e : Int) := by omega
                  go_wp2_with (go_at_fn 48; refine (HP.out.rot c1.1 c1.2).mono ?_; rintro x w1 ⟨rfl, h1⟩)
                  have h2 := HP.out.one' _ h1 c2
                  have h3 := HP.out.two' _ h2 c3
                  go_wp2_with fail
                  go_end0
                  exact ⟨rfl, by have := h3; rw [HCut.out] at this; exact this⟩
        · by_cases y1 : i < m
          · have x1 : ¬ m < e := fun h => c1 ⟨y1, h⟩
            have z1 : (i : Int) < (m : Int) := by omega
            have z2 : ¬ (m : Int) < (e : Int) := by omega
            by_cases c2 : a < i ∧ i < mid
            · obtain ⟨y2, x2⟩ := (⟨c2.1, c2.2⟩ : a < i ∧ i < mid)
              have z3 : (a : Int) < (i : Int) := by omega
              have z4 : (i : Int) < (mid : Int) := by omega
              by_cases c3 : mid < e ∧ e < b
              · obtain ⟨y3, x3⟩ := (⟨c3.1, c3.2⟩ : mid < e ∧ e < b)
                have z5 : (mid : Int) < (e : Int) := by omega
                have z6 : (e : Int) < (b : Int) := by omega
                have h1 := HP.out.rot' c1
                go_wp2_with (go_at_fn 42; refine (HP.out.one _ h1 c2.1 c2.2).mono ?_; rintro x w2 ⟨rfl, h2⟩)
                go_wp2_with (go_at_fn 42; refine (HP.out.two _ h2 c3.1 c3.2).mono ?_; rintro x w3 ⟨rfl, h3⟩)
                go_end0
                exact ⟨rfl, by have := h3; rw [HCut.out] at this; exact this⟩
              · by_cases y3 : mid < e
                · have x3 : ¬ e < b := fun h => c3 ⟨y3, h⟩
                  have z5 : (mid : Int) < (e : Int) := by omega
                  have z6 : ¬ (e : Int) < (b : Int) := by omega
                  have h1 := HP.out.rot' c1
                  go_wp2_with (go_at_fn 42; refine (HP.out.one _ h1 c2.1 c2.2).mono ?_; rintro x w2 ⟨rfl, h2⟩)
                  have h3 := HP.out.two' _ h2 c3
                  go_wp2_with fail
                  go_end0
                  exact ⟨rfl, by have := h3; rw [HCut.out] at this; exact this⟩
                · have z5 : ¬ (mid : Int) < (e : Int) := by omega
                  have h1 := HP.out.rot' c1
                  go_wp2_with (go_at_fn 42; refine (HP.out.one _ h1 c2.1 c2.2).mono ?_; rintro x w2 ⟨rfl, h2⟩)
                  have h3 := HP.out.two' _ h2 c3
                  go_wp2_with fail
                  go_end0
                  exact ⟨rfl, by have := h3; rw [HCut.out] at this; exact this⟩
            · by_cases y2 : a < i
              · have x2 : ¬ i < mid := fun h => c2 ⟨y2, h⟩
                have z3 : (a : Int) < (i : Int) := by omega
                have z4 : ¬ (i : Int) < (mid : Int) := by omega
                by_cases c3 : mid < e ∧ e < b
                · obtain ⟨y3, x3⟩ := (⟨c3.1, c3.2⟩ : mid < e ∧ e < b)
                  have z5 : (mid : Int) < (e : Int) := by omega
                  have z6 : (e : Int) < (b : Int) := by omega
                  have h1 := HP.out.rot' c1
                  have h2 := HP.out.one' _ h1 c2
                  go_wp2_with (go_at_fn 42; refine (HP.out.two _ h2 c3.1 c3.2).mono ?_; rintro x w3 ⟨rfl, h3⟩)
                  go_end0
                  exact ⟨rfl, by have := h3; rw [HCut.out] at this; exact this⟩
                · by_cases y3 : mid < e
                  · have x3 : ¬ e < b := fun h => c3 ⟨y3, h⟩
                    have z5 : (mid : Int) < (e : Int) := by omega
                    have z6 : ¬ (e : Int) < (b : Int) := by omega
                    have h1 := HP.out.rot' c1
                    have h2 := HP.out.one' _ h1 c2
                    have h3 := HP.out.two' _ h2 c3
                    go_wp2_with fail
                    go_end0
                    exact ⟨rfl, by have := h3; rw [HCut.out] at this; exact this⟩
                  · have z5 : ¬ (mid : Int) < (e : Int) := by omega
                    have h1 := HP.out.rot' c1
                    have h2 := HP.out.one' _ h1 c2
                    have h3 := HP.out.two' _ h2 c3
                    go_wp2_with fail
                    go_end0
                    exact ⟨rfl, by have := h3; rw [HCut.out] at this; exact this⟩
              · have z3 : ¬ (a : Int) < (i : Int) := by omega
                by_cases c3 : mid < e ∧ e < b
                · obtain ⟨y3, x3⟩ := (⟨c3.1, c3.2⟩ : mid < e ∧ e < b)
                  have z5 : (mid : Int) < (e : Int) := by omega
                  have z6 : (e : Int) < (b : Int) := by omega
                  have h1 := HP.out.rot' c1
                  have h2 := HP.out.one' _ h1 c2
                  go_wp2_with (go_at_fn 42; refine (HP.out.two _ h2 c3.1 c3.2).mono ?_; rintro x w3 ⟨rfl, h3⟩)
                  go_end0
                  exact ⟨rfl, by have := h3; rw [HCut.out] at this; exact this⟩
                · by_cases y3 : mid < e
                  · have x3 : ¬ e < b := fun h => c3 ⟨y3, h⟩
                    have z5 : (mid : Int) < (e : Int) := by omega
                    have z6 : ¬ (e : Int) < (b : Int) := by omega
                    have h1 := HP.out.rot' c1
                    have h2 := HP.out.one' _ h1 c2
                    have h3 := HP.out.two' _ h2 c3
                    go_wp2_with fail
                    go_end0
                    exact ⟨rfl, by have := h3; rw [HCut.out] at this; exact this⟩
                  · have z5 : ¬ (mid : Int) < (e : Int) := by omega
                    have h1 := HP.out.rot' c1
                    have h2 := HP.out.one' _ h1 c2
                    have h3 := HP.out.two' _ h2 c3
                    go_wp2_with fail
                    go_end0
                    exact ⟨rfl, by have := h3; rw [HCut.out] at this; exact this⟩
          · have z1 : ¬ (i : Int) < (m : Int) := by omega
            by_cases c2 : a < i ∧ i < mid
            · obtain ⟨y2, x2⟩ := (⟨c2.1, c2.2⟩ : a < i ∧ i < mid)
              have z3 : (a : Int) < (i : Int) := by omega
              have z4 : (i : Int) < (mid : Int) := by omega
              by_cases c3 : mid < e ∧ e < b
              · obtain ⟨y3, x3⟩ := (⟨c3.1, c3.2⟩ : mid < e ∧ e < b)
                have z5 : (mid : Int) < (e : Int) := by omega
                have z6 : (e : Int) < (b : Int) := by omega
                have h1 := HP.out.rot' c1
                go_wp2_with (go_at_fn 42; refine (HP.out.one _ h1 c2.1 c2.2).mono ?_; rintro x w2 ⟨rfl, h2⟩)
                go_wp2_with (go_at_fn 42; refine (HP.out.two _ h2 c3.1 c3.2).mono ?_; rintro x w3 ⟨rfl, h3⟩)
                go_end0
                exact ⟨rfl, by have := h3; rw [HCut.out] at this; exact this⟩
              · by_cases y3 : mid < e
                · have x3 : ¬ e < b := fun h => c3 ⟨y3, h⟩
                  have z5 : (mid : Int) < (e : Int) := by omega
                  have z6 : ¬ (e : Int) < (b : Int) := by omega
                  have h1 := HP.out.rot' c1
                  go_wp2_with (go_at_fn 42; refine (HP.out.one _ h1 c2.1 c2.2).mono ?_; rintro x w2 ⟨rfl, h2⟩)
                  have h3 := HP.out.two' _ h2 c3
                  go_wp2_with fail
                  go_end0
                  exact ⟨rfl, by have := h3; rw [HCut.out] at this; exact this⟩
                · have z5 : ¬ (mid : Int) < (e : Int) := by omega
                  have h1 := HP.out.rot' c1
                  go_wp2_with (go_at_fn 42; refine (HP.out.one _ h1 c2.1 c2.2).mono ?_; rintro x w2 ⟨rfl, h2⟩)
                  have h3 := HP.out.two' _ h2 c3
                  go_wp2_with fail
                  go_end0
                  exact ⟨rfl, by have := h3; rw [HCut.out] at this; exact this⟩
            · by_cases y2 : a < i
              · have x2 : ¬ i < mid := fun h => c2 ⟨y2, h⟩
                have z3 : (a : Int) < (i : Int) := by omega
                have z4 : ¬ (i : Int) < (mid : Int) := by omega
                by_cases c3 : mid < e ∧ e < b
                · obtain ⟨y3, x3⟩ := (⟨c3.1, c3.2⟩ : mid < e ∧ e < b)
                  have z5 : (mid : Int) < (e : Int) := by omega
                  have z6 : (e : Int) < (b : Int) := by omega
                  have h1 := HP.out.rot' c1
                  have h2 := HP.out.one' _ h1 c2
                  go_wp2_with (go_at_fn 42; refine (HP.out.two _ h2 c3.1 c3.2).mono ?_; rintro x w3 ⟨rfl, h3⟩)
                  go_end0
                  exact ⟨rfl, by have := h3; rw [HCut.out] at this; exact this⟩
                · by_cases y3 : mid < e
                  · have x3 : ¬ e < b := fun h => c3 ⟨y3, h⟩
                    have z5 : (mid : Int) < (e : Int) := by omega
                    have z6 : ¬ (e : Int) < (b : Int) := by omega
                    have h1 := HP.out.rot' c1
                    have h2 := HP.out.one' _ h1 c2
                    have h3 := HP.out.two' _ h2 c3
                    go_wp2_with fail
                    go_end0
                    exact ⟨rfl, by have := h3; rw [HCut.out] at this; exact this⟩
                  · have z5 : ¬ (mid : Int) < (e : Int) := by omega
                    have h1 := HP.out.rot' c1
                    have h2 := HP.out.one' _ h1 c2
                    have h3 := HP.out.two' _ h2 c3
                    go_wp2_with fail
                    go_end0
                    exact ⟨rfl, by have := h3; rw [HCut.out] at this; exact this⟩
              · have z3 : ¬ (a : Int) < (i : Int) := by omega
                by_cases c3 : mid < e ∧ e < b
                · obtain ⟨y3, x3⟩ := (⟨c3.1, c3.2⟩ : mid < e ∧ e < b)
                  have z5 : (mid : Int) < (e : Int) := by omega
                  have z6 : (e : Int) < (b : Int) := by omega
                  have h1 := HP.out.rot' c1
                  have h2 := HP.out.one' _ h1 c2
                  go_wp2_with (go_at_fn 42; refine (HP.out.two _ h2 c3.1 c3.2).mono ?_; rintro x w3 ⟨rfl, h3⟩)
                  go_end0
                  exact ⟨rfl, by have := h3; rw [HCut.out] at this; exact this⟩
                · by_cases y3 : mid < e
                  · have x3 : ¬ e < b := fun h => c3 ⟨y3, h⟩
                    have z5 : (mid : Int) < (e : Int) := by omega
                    have z6 : ¬ (e : Int) < (b : Int) := by omega
                    have h1 := HP.out.rot' c1
                    have h2 := HP.out.one' _ h1 c2
                    have h3 := HP.out.two' _ h2 c3
                    go_wp2_with fail
                    go_end0
                    exact ⟨rfl, by have := h3; rw [HCut.out] at this; exact this⟩
                  · have z5 : ¬ (mid : Int) < (e : Int) := by omega
                    have h1 := HP.out.rot' c1
                    have h2 := HP.out.one' _ h1 c2
                    have h3 := HP.out.two' _ h2 c3
                    go_wp2_with fail
                    go_end0
                    exact ⟨rfl, by have := h3; rw [HCut.out] at this; exact this⟩

theorem sym_list (E : SE P k enc cf g cb blk off d0 w0) : ∀ N, SymN P enc k w0 blk off g cb d0 N
  | 0 => fun X U V Y cap a m b sz w hN ha hm hb hU hV => by omega
  | N + 1 => fun X U V Y cap a m b sz w hN ha hm hb hU hV kU kV hsz hd S => by
    match U, V, hU, hV with
    | [u], V, _, _ => exact sym_first E u X V Y cap a m b sz w ha (by simpa using hm) hb kV hsz hd S
    | u :: u' :: U', [v], _, _ => exact sym_last E v X (u :: u' :: U') Y cap a m b sz w ha hm (by simpa using hb) kU (by simp) hsz hd S
    | u :: u' :: U', v :: v' :: V', _, _ => exact sym_step E (sym_list E N) X (u :: u' :: U') (v :: v' :: V') Y cap a m b sz w hN ha hm hb (by simp) (by simp) kU kV hsz hd S

end Go.Proofs.Ytbddicaabjlbjaa
