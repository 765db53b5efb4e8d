/-
  The library's stable sort: blocks of twenty, merged two by two.
-/
import Derived.Test.YtbddicaabjlbjaaSymwalk
namespace Go.Proofs.Ytbddicaabjlbjaa
open Go Go.Shelf Go.RowKit Go.Lib Go.Sort
variable {P : Program} {k : Nat} {enc : ChD → List Value} {cf : ChD → ChD → Int} {g : Nat} {cb : Array Value} {blk off : Nat} {d0 : Array ChD} {w0 : World}

/-- A row of sorted blocks of bs; the last one may be shorter. -/
inductive Bl (bs : Nat) : List ChD → Prop
  | last (L : List ChD) : L.length ≤ bs → KS L → Bl bs L
  | cons (B L : List ChD) : B.length = bs → KS B → Bl bs L → Bl bs (B ++ L)

theorem Bl.sorted {bs : Nat} {T : List ChD} (h : Bl bs T) (hl : T.length ≤ bs) : KS T := by
  cases h with
  | last _ _ hk => exact hk
  | cons B L hB hk hL =>
    rw [List.length_append] at hl
    obtain rfl : L = [] := List.eq_nil_of_length_eq_zero (by omega)
    rw [List.append_nil]; exact hk
theorem Bl.split {bs : Nat} {T : List ChD} (h : Bl bs T) (hl : bs < T.length) : ∃ B T', T = B ++ T' ∧ B.length = bs ∧ KS B ∧ Bl bs T' := by
  cases h with
  | last _ h1 _ => omega
  | cons B L hB hk hL => exact ⟨B, L, rfl, hB, hk, hL⟩
theorem Bl.split2 {bs : Nat} {T : List ChD} (h : Bl bs T) (h0 : 0 < bs) (hl : 2 * bs ≤ T.length) : ∃ B1 B2 T', T = B1 ++ (B2 ++ T') ∧ B1.length = bs ∧ B2.length = bs ∧ KS B1 ∧ KS B2 ∧ Bl bs T' := by
  obtain ⟨B1, T1, rfl, h1, k1, hT⟩ := h.split (by omega)
  rw [List.length_append] at hl
  rcases Nat.lt_or_ge bs T1.length with h2 | h2
  · obtain ⟨B2, T2, rfl, h3, k2, hT2⟩ := hT.split h2
    exact ⟨B1, B2, T2, rfl, h1, h3, k1, k2, hT2⟩
  · exact ⟨B1, T1, [], by simp, h1, by omega, k1, hT.sorted h2, .last _ (by simp) KS.nil⟩

/-- The insertion sort of a part, as its caller calls it. -/
def InsOk (P : Program) (enc : ChD → List Value) (k : Nat) (w0 : World) (blk off g : Nat) (cb : Array Value) (d0 : Array ChD) : Prop :=
  ∀ (X U Y : List ChD) (cap a b sz : Nat) (w : World), X.length = a → a + U.length = b → (X ++ (U ++ Y)).length = sz → d0.size = sz → SWK enc k w0 blk off (X ++ (U ++ Y)).toArray w →
    Calls P 41 #[.slice (some ⟨blk, off, none⟩) sz cap, .int .i64 a, .int .i64 b, .func (.func g) #[] cb] w (Merged enc k w0 blk off X U Y)

def Ph1 (enc : ChD → List Value) (k : Nat) (w0 : World) (blk off : Nat) (L : List ChD) (bs a : Nat) (w : World) : Prop :=
  ∃ D T, KP L (D ++ T) ∧ D.length = a ∧ (∀ T', Bl bs T' → Bl bs (D ++ T')) ∧ SWK enc k w0 blk off (D ++ T).toArray w
def Ph2 (enc : ChD → List Value) (k : Nat) (w0 : World) (blk off : Nat) (L : List ChD) (bs a : Nat) (w : World) : Prop :=
  ∃ D T, KP L (D ++ T) ∧ D.length = a ∧ (∀ T', Bl (2 * bs) T' → Bl (2 * bs) (D ++ T')) ∧ Bl bs T ∧ SWK enc k w0 blk off (D ++ T).toArray w
def Ph3 (enc : ChD → List Value) (k : Nat) (w0 : World) (blk off : Nat) (L : List ChD) (bs : Nat) (w : World) : Prop :=
  ∃ R, KP L R ∧ Bl bs R ∧ SWK enc k w0 blk off R.toArray w

theorem ph1_call (I : InsOk P enc k w0 blk off g cb d0) {L : List ChD} {a b n : Nat} {w : World} (cap : Nat) (hn : L.length = n) (hd : d0.size = n) (h : Ph1 enc k w0 blk off L 20 a w) (hb : b = a + 20) (hbn : b ≤ n) :
    Calls P 41 #[.slice (some ⟨blk, off, none⟩) n cap, .int .i64 a, .int .i64 b, .func (.func g) #[] cb] w fun e w' => e = .returned (.tuple #[]) ∧ Ph1 enc k w0 blk off L 20 b w' := by
  obtain ⟨D, T, hK, hD, hc, S⟩ := h
  have hl := hK.1
  rw [List.length_append] at hl
  have e0 : T.take 20 ++ T.drop 20 = T := List.take_append_drop _ _
  have l1 : (T.take 20).length = 20 := by rw [List.length_take]; omega
  obtain ⟨U, hU⟩ : ∃ U, T.take 20 = U := ⟨_, rfl⟩
  obtain ⟨Y, hY⟩ : ∃ Y, T.drop 20 = Y := ⟨_, rfl⟩
  rw [hU, hY] at e0
  rw [hU] at l1
  subst e0
  refine (I D U Y cap a b n w hD (by omega) (by rw [← hn]; exact hK.1.symm) hd S).mono ?_
  rintro e w' ⟨rfl, R, kR, pR, S'⟩
  refine ⟨rfl, D ++ R, Y, ?_, by rw [List.length_append, ← pR.1]; omega, fun T' hT' => ?_, by rw [List.append_assoc]; exact S'⟩
  · rw [List.append_assoc]
    exact hK.trans ((KP.refl D).append (pR.append (KP.refl Y)))
  · rw [List.append_assoc]
    exact hc _ (.cons R T' (by rw [← pR.1]; exact l1) kR hT')

theorem ph1_last (I : InsOk P enc k w0 blk off g cb d0) {L : List ChD} {a n : Nat} {w : World} (cap : Nat) (hn : L.length = n) (hd : d0.size = n) (h : Ph1 enc k w0 blk off L 20 a w) (hbn : n < a + 20) :
    Calls P 41 #[.slice (some ⟨blk, off, none⟩) n cap, .int .i64 a, .int .i64 n, .func (.func g) #[] cb] w fun e w' => e = .returned (.tuple #[]) ∧ Ph3 enc k w0 blk off L 20 w' := by
  obtain ⟨D, T, hK, hD, hc, S⟩ := h
  have hl := hK.1
  rw [List.length_append] at hl
  refine (I D T [] cap a n n w hD (by omega) (by rw [List.append_nil, ← hn]; exact hK.1.symm) hd (by rw [List.append_nil]; exact S)).mono ?_
  rintro e w' ⟨rfl, R, kR, pR, S'⟩
  rw [List.append_nil] at S'
  exact ⟨rfl, D ++ R, hK.trans ((KP.refl D).append pR), hc _ (.last R (by rw [← pR.1]; omega) kR), S'⟩

theorem ph2_start {L : List ChD} {bs : Nat} {w : World} (h : Ph3 enc k w0 blk off L bs w) : Ph2 enc k w0 blk off L bs 0 w := by
  obtain ⟨R, hK, hB, S⟩ := h
  exact ⟨[], R, hK, rfl, fun T' h => h, hB, S⟩

theorem ph2_call (Y : ∀ N, SymN P enc k w0 blk off g cb d0 N) {L : List ChD} {bs a b n : Nat} {w : World} (cap : Nat) (hn : L.length = n) (hd : d0.size = n) (h0 : 0 < bs) (h : Ph2 enc k w0 blk off L bs a w) (hb : b = a + 2 * bs) (hbn : b ≤ n) :
    Calls P 42 #[.slice (some ⟨blk, off, none⟩) n cap, .int .i64 a, .int .i64 ((a : Int) + (bs : Int)), .int .i64 b, .func (.func g) #[] cb] w fun e w' => e = .returned (.tuple #[]) ∧ Ph2 enc k w0 blk off L bs b w' := by
  obtain ⟨D, T, hK, hD, hc, hT, S⟩ := h
  have hl := hK.1
  rw [List.length_append] at hl
  obtain ⟨B1, B2, T', rfl, l1, l2, k1, k2, hT'⟩ := hT.split2 h0 (by omega)
  have := Y _ D B1 B2 T' cap a (a + bs) b n w (Nat.le_refl _) hD (by omega) (by omega) (by omega) (by omega) k1 k2 (by rw [← hn]; exact hK.1.symm) hd S
  rw [show ((a + bs : Nat) : Int) = (a : Int) + (bs : Int) by omega] at this
  refine this.mono ?_
  rintro e w' ⟨rfl, R, kR, pR, S'⟩
  have lR : R.length = 2 * bs := by rw [← pR.1, List.length_append]; omega
  refine ⟨rfl, D ++ R, T', ?_, by rw [List.length_append]; omega, fun T2 hT2 => ?_, hT', by rw [List.append_assoc]; exact S'⟩
  · have := hK.trans ((KP.refl D).append ((KP.append (B := T') (B' := T') pR (KP.refl T')) |> fun h => (show KP (B1 ++ (B2 ++ T')) (R ++ T') by rw [← List.append_assoc]; exact h)))
    rw [List.append_assoc]; exact this
  · rw [List.append_assoc]
    exact hc _ (.cons R T2 lR kR hT2)

theorem ph2_last (Y : ∀ N, SymN P enc k w0 blk off g cb d0 N) {L : List ChD} {bs a n : Nat} {w : World} (cap : Nat) (hn : L.length = n) (hd : d0.size = n) (h0 : 0 < bs) (h : Ph2 enc k w0 blk off L bs a w) (hb : n < a + 2 * bs) (hbn : a + bs < n) :
    Calls P 42 #[.slice (some ⟨blk, off, none⟩) n cap, .int .i64 a, .int .i64 ((a : Int) + (bs : Int)), .int .i64 n, .func (.func g) #[] cb] w fun e w' => e = .returned (.tuple #[]) ∧ Ph3 enc k w0 blk off L (2 * bs) w' := by
  obtain ⟨D, T, hK, hD, hc, hT, S⟩ := h
  have hl := hK.1
  rw [List.length_append] at hl
  obtain ⟨B1, B2, rfl, l1, k1, hT'⟩ := hT.split (by omega)
  rw [List.length_append] at hl
  have k2 := hT'.sorted (by omega)
  have := Y _ D B1 B2 [] cap a (a + bs) n n w (Nat.le_refl _) hD (by omega) (by omega) (by omega) (by omega) k1 k2 (by rw [List.append_nil, ← hn]; exact hK.1.symm) hd (by rw [List.append_nil]; exact S)
  rw [show ((a + bs : Nat) : Int) = (a : Int) + (bs : Int) by omega] at this
  refine this.mono ?_
  rintro e w' ⟨rfl, R, kR, pR, S'⟩
  rw [List.append_nil] at S'
  have lR : R.length = bs + B2.length := by rw [← pR.1, List.length_append]; omega
  exact ⟨rfl, D ++ R, hK.trans ((KP.refl D).append pR), hc _ (.last R (by omega) kR), S'⟩

theorem ph2_none {L : List ChD} {bs a n : Nat} {w : World} (hn : L.length = n) (h : Ph2 enc k w0 blk off L bs a w) (hbn : n ≤ a + bs) : Ph3 enc k w0 blk off L (2 * bs) w := by
  obtain ⟨D, T, hK, hD, hc, hT, S⟩ := h
  have hl := hK.1
  rw [List.length_append] at hl
  exact ⟨D ++ T, hK, hc _ (.last T (by omega) (hT.sorted (by omega))), S⟩

set_option maxHeartbeats 8000000 in
set_option maxRecDepth 1000000 in
theorem stable_list (E : SE P k enc cf g cb blk off d0 w0) (I : InsOk P enc k w0 blk off g cb d0) (FI : ∀ args w, (callFunc 41 args).run P w = .ok (.enter 41 args) w)
    (L : List ChD) (cap n : Nat) (w : World) (hn : L.length = n) (hd : d0.size = n) (hsmall : n ≤ 1000000) (S : SWK enc k w0 blk off L.toArray w) :
    Calls P 34 #[.slice (some ⟨blk, off, none⟩) n cap, .int .i64 n, .func (.func g) #[] cb] w fun e w' => e = .returned (.tuple #[]) ∧ ∃ R, KP L R ∧ SWK enc k w0 blk off R.toArray w' := by
  obtain ⟨mixed, t3, a3, z3, v3, t4, a4, z4, v4, tu, au, zu, vu, ts, aS, zs, vs, tf, af, zf, vf⟩ := E.T
  have FG := E.F4
  have e42 : ∀ args w, (callFunc 42 args).run P w = .ok (.enter 42 args) w := enters_of E.F3 (by kernel_rfl) rfl
  have HI := Lib.hid I
  have HN := Lib.hid hn
  have HD := Lib.hid hd
  have HY := Lib.hid (sym_list E)
  have H0 := Lib.hid (show Ph1 enc k w0 blk off L 20 0 w from ⟨[], L, KP.refl L, rfl, fun T' h => h, S⟩)
  clear hn hd S E I
  go_enter FG, Try.ntmps34
  go_wp2
  go_loopg [7, 8] n (fun kx s7 s8 wr => ∃ a b : Nat, s7 = .int .i64 a ∧ s8 = .int .i64 b ∧ b ≤ a + 20 ∧ a + 20 ≤ b ∧ a ≤ n ∧ n - a ≤ kx ∧ Hid (Ph1 enc k w0 blk off L 20 a wr))
  case atStart => exact ⟨0, 20, rfl, rfl, by omega, by omega, by omega, by omega, H0⟩
  case round =>
    clear H0
    obtain ⟨a, b, rfl, rfl, hb1, hb2, han, hkx, h⟩ := hrel
    by_cases hle : b ≤ n
    · have hlez : (b : Int) ≤ (n : Int) := by omega
      have HC := Lib.hid (ph1_call HI.out cap HN.out HD.out h.out (by omega) hle)
      go_wp2_with (go_at_fn 41; refine HC.out.mono ?_; rintro e w1 ⟨rfl, h1⟩)
      go_roundg (n - b)
      case measure => omega
      case rel => exact ⟨b, b + 20, rfl, by first | rfl | go_num, by omega, by omega, hle, Nat.le_refl _, h1⟩
    · have hlez : ¬ (b : Int) ≤ (n : Int) := by omega
      have HC := Lib.hid (ph1_last HI.out cap HN.out HD.out h.out (by omega))
      go_wp2_with (go_at_fn 41; refine HC.out.mono ?_; rintro e w1 ⟨rfl, h1⟩)
      have H1 := Lib.hid h1
      clear h1 HC h
      go_loopg [6, 7, 8, 9] n (fun kx s6 s7 s8 s9 wr => ∃ bs : Nat, s6 = .int .i64 bs ∧ 20 ≤ bs ∧ bs ≤ 2000000 ∧ n - bs ≤ kx ∧ Hid (Ph3 enc k w0 blk off L bs wr))
      case atStart => exact ⟨20, rfl, by omega, by omega, by omega, H1⟩
      case round =>
        clear H1
        obtain ⟨bs, rfl, h20, hbs, hkx2, h3⟩ := hrel
        by_cases hlt : bs < n
        · have hltz : (bs : Int) < (n : Int) := by omega
          have H2 := Lib.hid (ph2_start h3.out)
          clear h3
          go_wp2
          go_loopg [7, 8] n (fun kx s7 s8 wr => ∃ a b : Nat, s7 = .int .i64 a ∧ s8 = .int .i64 b ∧ b ≤ a + 2 * bs ∧ a + 2 * bs ≤ b ∧ a ≤ n ∧ n - a ≤ kx ∧ Hid (Ph2 enc k w0 blk off L bs a wr))
          case atStart => exact ⟨0, 2 * bs, rfl, by first | rfl | go_num | (congr 1; omega), by omega, by omega, by omega, by omega, H2⟩
          case round =>
            clear H2
            obtain ⟨a', b', rfl, rfl, hb1', hb2', han', hkx3, h4⟩ := hrel
            by_cases hle' : b' ≤ n
            · have hlez' : (b' : Int) ≤ (n : Int) := by omega
              have HC := Lib.hid (ph2_call HY.out cap HN.out HD.out (by omega) h4.out (by omega) hle')
              go_wp2_with (go_at_fn 42; refine HC.out.mono ?_; rintro e w1 ⟨rfl, h1⟩)
              go_roundg (n - b')
              case measure => omega
              case rel => exact ⟨b', b' + 2 * bs, rfl, by first | rfl | go_num | (congr 1; omega), by omega, by omega, hle', Nat.le_refl _, h1⟩
            · have hlez' : ¬ (b' : Int) ≤ (n : Int) := by omega
              by_cases hm : a' + bs < n
              · have hmz : (a' : Int) + (bs : Int) < (n : Int) := by omega
                have HC := Lib.hid (ph2_last HY.out cap HN.out HD.out (by omega) h4.out (by omega) hm)
                go_wp2_with (go_at_fn 42; refine HC.out.mono ?_; rintro e w1 ⟨rfl, h1⟩)
                go_roundg (n - 2 * bs)
                case measure => omega
                case rel => exact ⟨2 * bs, by first | rfl | go_num | (congr 1; omega), by omega, by omega, Nat.le_refl _, h1⟩
              · have hmz : ¬ (a' : Int) + (bs : Int) < (n : Int) := by omega
                have HC := Lib.hid (ph2_none HN.out h4.out (by omega))
                go_wp2
                go_roundg (n - 2 * bs)
                case measure => omega
                case rel => exact ⟨2 * bs, by first | rfl | go_num | (congr 1; omega), by omega, by omega, Nat.le_refl _, HC⟩
        · have hltz : ¬ (bs : Int) < (n : Int) := by omega
          go_wp2
          go_end0
          obtain ⟨R, hK, _, S⟩ := h3.out
          exact ⟨rfl, R, hK, S⟩

end Go.Proofs.Ytbddicaabjlbjaa
