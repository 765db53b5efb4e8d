/-
  The library's turning of two neighbouring parts of a row: 'x u v y' becomes 'x v u y'.
-/
import Derived.Test.YtbddicaabjlbjaaSwaps
import Derived.Lib.Hide
namespace Go.Proofs.Ytbddicaabjlbjaa
open Go Go.Shelf Go.RowKit Go.Lib Go.Sort
variable {P : Program}

/-- What the sort's parts are told, once. -/
structure SE (P : Program) (k : Nat) (enc : ChD → List Value) (cf : ChD → ChD → Int) (g : Nat) (cb : Array Value) (blk off : Nat) (d0 : Array ChD) (w0 : World) : Prop where
  T : TF P
  F1 : P.funcs[53]? = some Try.f53
  F2 : P.funcs[48]? = some Try.f48
  F3 : P.funcs[42]? = some Try.f42
  F4 : P.funcs[34]? = some Try.f34
  aE : ∀ w, (isAgg 38).run P w = .ok true w
  zE : ∀ w, (Go.sizeOf 38).run P w = .ok k w
  R : RowK enc k w0 blk off d0
  eg : ∀ args w, (callFunc g args).run P w = .ok (.enter g args) w
  hcmp : CmpLays P g cb enc k cf blk off d0.size w0
  hcf : ∀ x y, ltOf cf x y = ltC x y
  hsz : d0.size < 4611686018427387904

variable {k : Nat} {enc : ChD → List Value} {cf : ChD → ChD → Int} {g : Nat} {cb : Array Value} {blk off : Nat} {d0 : Array ChD} {w0 : World}

theorem swpN_list (X A M B Y : List ChD) (h : A.length = B.length) : ∀ n, n ≤ A.length →
    swpN (X ++ (A ++ (M ++ (B ++ Y)))).toArray X.length (X.length + A.length + M.length) n = (X ++ ((B.take n ++ A.drop n) ++ (M ++ ((A.take n ++ B.drop n) ++ Y)))).toArray
  | 0, _ => by simp [swpN]
  | n + 1, hn => by
    rw [swpN, swpN_list X A M B Y h n (by omega)]
    have hA : n < A.length := by omega
    have hB : n < B.length := by omega
    have eA : A.drop n = A[n] :: A.drop (n + 1) := List.drop_eq_getElem_cons hA
    have eB : B.drop n = B[n] :: B.drop (n + 1) := List.drop_eq_getElem_cons hB
    have tA : A.take (n + 1) = A.take n ++ [A[n]] := List.take_succ_eq_append_getElem hA
    have tB : B.take (n + 1) = B.take n ++ [B[n]] := List.take_succ_eq_append_getElem hB
    have e := swp_list (X ++ B.take n) (A.drop (n + 1) ++ (M ++ A.take n)) (B.drop (n + 1) ++ Y) A[n] B[n]
    have l1 : (X ++ B.take n).length = X.length + n := by rw [List.length_append, List.length_take]; omega
    have l2 : X.length + n + 1 + (A.drop (n + 1) ++ (M ++ A.take n)).length = X.length + A.length + M.length + n := by
      simp only [List.length_append, List.length_drop, List.length_take]; omega
    rw [l1, l2] at e
    have f1 : X ++ ((B.take n ++ A.drop n) ++ (M ++ ((A.take n ++ B.drop n) ++ Y))) = (X ++ B.take n) ++ A[n] :: ((A.drop (n + 1) ++ (M ++ A.take n)) ++ B[n] :: (B.drop (n + 1) ++ Y)) := by
      rw [eA, eB]; simp only [List.append_assoc, List.cons_append]
    have f2 : X ++ ((B.take (n + 1) ++ A.drop (n + 1)) ++ (M ++ ((A.take (n + 1) ++ B.drop (n + 1)) ++ Y))) = (X ++ B.take n) ++ B[n] :: ((A.drop (n + 1) ++ (M ++ A.take n)) ++ A[n] :: (B.drop (n + 1) ++ Y)) := by
      rw [tA, tB]; simp only [List.append_assoc, List.cons_append, List.nil_append]
    rw [f1, f2]
    exact e

theorem swpN_whole (X A M B Y : List ChD) (h : A.length = B.length) : swpN (X ++ (A ++ (M ++ (B ++ Y)))).toArray X.length (X.length + A.length + M.length) A.length = (X ++ (B ++ (M ++ (A ++ Y)))).toArray := by
  rw [swpN_list X A M B Y h A.length (Nat.le_refl _)]
  rw [List.take_of_length_le (by omega), List.drop_of_length_le (Nat.le_refl _), List.take_of_length_le (Nat.le_refl _), List.drop_of_length_le (by omega)]
  simp

/-- The exchange of two parts, as its caller calls it. -/
theorem swapRange_list (E : SE P k enc cf g cb blk off d0 w0) (X A M B Y : List ChD) (h : A.length = B.length) (cap a b n sz : Nat) (w : World) (ha : X.length = a) (hb : a + A.length + M.length = b) (hn : A.length = n) (hsz : (X ++ (A ++ (M ++ (B ++ Y)))).length = sz) (hd : d0.size = sz)
    (S : SWK enc k w0 blk off (X ++ (A ++ (M ++ (B ++ Y)))).toArray w) :
    Calls P 53 #[.slice (some ⟨blk, off, none⟩) sz cap, .int .i64 a, .int .i64 b, .int .i64 n, .func (.func g) #[] cb] w fun e w' => e = .returned (.tuple #[]) ∧ SWK enc k w0 blk off (X ++ (B ++ (M ++ (A ++ Y)))).toArray w' := by
  subst ha hb hn
  have hs : (X ++ (A ++ (M ++ (B ++ Y)))).toArray.size = sz := hsz
  have hz := E.hsz
  have := swapRange_gen E.T E.F1 k E.aE E.zE enc g cb blk off cap X.length (X.length + A.length + M.length) A.length d0 (X ++ (A ++ (M ++ (B ++ Y)))).toArray w0 w E.R (by omega) S (by omega)
    (by simp only [List.size_toArray, List.length_append]; omega) (by omega)
  rw [hs, swpN_whole X A M B Y h] at this
  exact this

/-- Between two exchanges. -/
def RotI (enc : ChD → List Value) (k : Nat) (w0 : World) (blk off : Nat) (X U V Y : List ChD) (m i j : Nat) (w : World) : Prop :=
  ∃ A U' V' B, U'.length = i ∧ V'.length = j ∧ X.length + A.length + i = m ∧ A ++ (V' ++ (U' ++ B)) = V ++ U ∧ SWK enc k w0 blk off (X ++ (A ++ (U' ++ (V' ++ (B ++ Y))))).toArray w

theorem rot_len {U V A U' V' B : List ChD} (h : A ++ (V' ++ (U' ++ B)) = V ++ U) : A.length + V'.length + U'.length + B.length = V.length + U.length := by
  have := congrArg List.length h
  simp only [List.length_append] at this; omega

theorem rot_gt (E : SE P k enc cf g cb blk off d0 w0) {X U V Y : List ChD} {m i j sz : Nat} {w : World} (cap : Nat) (hsz : (X ++ (U ++ (V ++ Y))).length = sz) (hd : d0.size = sz) (h : RotI enc k w0 blk off X U V Y m i j w) (hij : j < i) :
    Calls P 53 #[.slice (some ⟨blk, off, none⟩) sz cap, .int .i64 ((m : Int) - (i : Int)), .int .i64 m, .int .i64 j, .func (.func g) #[] cb] w fun e w' => e = .returned (.tuple #[]) ∧ RotI enc k w0 blk off X U V Y m (i - j) j w' := by
  obtain ⟨A, U', V', B, hU, hV, hm, he, S⟩ := h
  have hl := rot_len he
  have e0 : U' = U'.take j ++ U'.drop j := (List.take_append_drop _ _).symm
  have l1 : (U'.take j).length = j := by rw [List.length_take]; omega
  have l2 : (U'.drop j).length = i - j := by rw [List.length_drop]; omega
  obtain ⟨U1, h1⟩ : ∃ U1, U'.take j = U1 := ⟨_, rfl⟩
  obtain ⟨U2, h2⟩ : ∃ U2, U'.drop j = U2 := ⟨_, rfl⟩
  rw [h1, h2] at e0
  rw [h1] at l1
  rw [h2] at l2
  subst e0
  have eq1 : X ++ (A ++ ((U1 ++ U2) ++ (V' ++ (B ++ Y)))) = (X ++ A) ++ (U1 ++ (U2 ++ (V' ++ (B ++ Y)))) := by simp
  rw [eq1] at S
  have hs2 : ((X ++ A) ++ (U1 ++ (U2 ++ (V' ++ (B ++ Y))))).length = sz := by
    rw [← hsz]; simp only [List.length_append] at hl hU ⊢; omega
  have hc := swapRange_list E (X ++ A) U1 U2 V' (B ++ Y) (by omega) cap (m - i) m j sz w (by rw [List.length_append]; omega) (by omega) l1 hs2 hd S
  rw [show ((m - i : Nat) : Int) = (m : Int) - (i : Int) by omega] at hc
  refine hc.mono ?_
  rintro e w' ⟨rfl, S'⟩
  refine ⟨rfl, A ++ V', U2, U1, B, l2, l1, by rw [List.length_append]; omega, by rw [← he]; simp, ?_⟩
  have eq2 : X ++ ((A ++ V') ++ (U2 ++ (U1 ++ (B ++ Y)))) = (X ++ A) ++ (V' ++ (U2 ++ (U1 ++ (B ++ Y)))) := by simp
  rw [eq2]; exact S'

theorem rot_lt (E : SE P k enc cf g cb blk off d0 w0) {X U V Y : List ChD} {m i j sz : Nat} {w : World} (cap : Nat) (hsz : (X ++ (U ++ (V ++ Y))).length = sz) (hd : d0.size = sz) (h : RotI enc k w0 blk off X U V Y m i j w) (hij : i < j) :
    Calls P 53 #[.slice (some ⟨blk, off, none⟩) sz cap, .int .i64 ((m : Int) - (i : Int)), .int .i64 ((m : Int) + (j : Int) - (i : Int)), .int .i64 i, .func (.func g) #[] cb] w fun e w' => e = .returned (.tuple #[]) ∧ RotI enc k w0 blk off X U V Y m i (j - i) w' := by
  obtain ⟨A, U', V', B, hU, hV, hm, he, S⟩ := h
  have hl := rot_len he
  have e0 : V' = V'.take (j - i) ++ V'.drop (j - i) := (List.take_append_drop _ _).symm
  have l1 : (V'.take (j - i)).length = j - i := by rw [List.length_take]; omega
  have l2 : (V'.drop (j - i)).length = i := by rw [List.length_drop]; omega
  obtain ⟨V1, h1⟩ : ∃ V1, V'.take (j - i) = V1 := ⟨_, rfl⟩
  obtain ⟨V2, h2⟩ : ∃ V2, V'.drop (j - i) = V2 := ⟨_, rfl⟩
  rw [h1, h2] at e0
  rw [h1] at l1
  rw [h2] at l2
  subst e0
  have eq1 : X ++ (A ++ (U' ++ ((V1 ++ V2) ++ (B ++ Y)))) = (X ++ A) ++ (U' ++ (V1 ++ (V2 ++ (B ++ Y)))) := by simp
  rw [eq1] at S
  have hs2 : ((X ++ A) ++ (U' ++ (V1 ++ (V2 ++ (B ++ Y))))).length = sz := by
    rw [← hsz]; simp only [List.length_append] at hl hV ⊢; omega
  have hc := swapRange_list E (X ++ A) U' V1 V2 (B ++ Y) (by omega) cap (m - i) (m + j - i) i sz w (by rw [List.length_append]; omega) (by omega) hU hs2 hd S
  rw [show ((m - i : Nat) : Int) = (m : Int) - (i : Int) by omega, show ((m + j - i : Nat) : Int) = (m : Int) + (j : Int) - (i : Int) by omega] at hc
  refine hc.mono ?_
  rintro e w' ⟨rfl, S'⟩
  refine ⟨rfl, A, V2, V1, U' ++ B, l2, l1, by omega, by rw [← he]; simp, ?_⟩
  have eq2 : X ++ (A ++ (V2 ++ (V1 ++ ((U' ++ B) ++ Y)))) = (X ++ A) ++ (V2 ++ (V1 ++ (U' ++ (B ++ Y)))) := by simp
  rw [eq2]; exact S'

theorem rot_eq (E : SE P k enc cf g cb blk off d0 w0) {X U V Y : List ChD} {m i sz : Nat} {w : World} (cap : Nat) (hsz : (X ++ (U ++ (V ++ Y))).length = sz) (hd : d0.size = sz) (h : RotI enc k w0 blk off X U V Y m i i w) :
    Calls P 53 #[.slice (some ⟨blk, off, none⟩) sz cap, .int .i64 ((m : Int) - (i : Int)), .int .i64 m, .int .i64 i, .func (.func g) #[] cb] w fun e w' => e = .returned (.tuple #[]) ∧ SWK enc k w0 blk off (X ++ (V ++ (U ++ Y))).toArray w' := by
  obtain ⟨A, U', V', B, hU, hV, hm, he, S⟩ := h
  have hl := rot_len he
  have eq1 : X ++ (A ++ (U' ++ (V' ++ (B ++ Y)))) = (X ++ A) ++ (U' ++ ([] ++ (V' ++ (B ++ Y)))) := by simp
  rw [eq1] at S
  have hs2 : ((X ++ A) ++ (U' ++ ([] ++ (V' ++ (B ++ Y))))).length = sz := by
    rw [← hsz]; simp only [List.length_append, List.length_nil] at hl ⊢; omega
  have hc := swapRange_list E (X ++ A) U' [] V' (B ++ Y) (by omega) cap (m - i) m i sz w (by rw [List.length_append]; omega) (by rw [List.length_nil]; omega) hU hs2 hd S
  rw [show ((m - i : Nat) : Int) = (m : Int) - (i : Int) by omega] at hc
  refine hc.mono ?_
  rintro e w' ⟨rfl, S'⟩
  refine ⟨rfl, ?_⟩
  have eq2 : X ++ (V ++ (U ++ Y)) = (X ++ A) ++ (V' ++ ([] ++ (U' ++ (B ++ Y)))) := by
    rw [← List.append_assoc V U Y, ← he]; simp
  rw [eq2]; exact S'

theorem RotI.bounds {X U V Y : List ChD} {a m b i j : Nat} {w : World} (ha : X.length = a) (hm : a + U.length = m) (hb : m + V.length = b) (h : RotI enc k w0 blk off X U V Y m i j w) : a + i ≤ m ∧ m + j ≤ b := by
  obtain ⟨A, U', V', B, hU, hV, hm', he, S⟩ := h
  have hl := rot_len he
  omega

set_option maxHeartbeats 4000000 in
set_option maxRecDepth 1000000 in
theorem rotate_list (E : SE P k enc cf g cb blk off d0 w0) (X U V Y : List ChD) (cap a m b sz : Nat) (w : World) (ha : X.length = a) (hm : a + U.length = m) (hb : m + V.length = b) (hU : 0 < U.length) (hV : 0 < V.length)
    (hsz : (X ++ (U ++ (V ++ Y))).length = sz) (hd : d0.size = sz) (S : SWK enc k w0 blk off (X ++ (U ++ (V ++ Y))).toArray w) :
    Calls P 48 #[.slice (some ⟨blk, off, none⟩) sz cap, .int .i64 a, .int .i64 m, .int .i64 b, .func (.func g) #[] cb] w fun e w' => e = .returned (.tuple #[]) ∧ SWK enc k w0 blk off (X ++ (V ++ (U ++ Y))).toArray w' := by
  obtain ⟨mixed, t3, a3, z3, v3, t4, a4, z4, v4, tu, au, zu, vu, ts, aS, zs, vs, tf, af, zf, vf⟩ := E.T
  have FG := E.F2
  have hz := E.hsz
  have hszb : b ≤ sz := by rw [← hsz]; simp only [List.length_append]; omega
  have hb62 : b < 4611686018427387904 := by omega
  have H0 := Lib.hid (show RotI enc k w0 blk off X U V Y m (m - a) (b - m) w from ⟨[], U, V, [], by omega, by omega, by rw [List.length_nil]; omega, by simp, by simpa using S⟩)
  have hma : a < m := by omega
  have hmb : m < b := by omega
  have HB := Lib.hid (fun (i j : Nat) (w : World) (h : RotI enc k w0 blk off X U V Y m i j w) => h.bounds ha hm hb)
  have HS := Lib.hid hsz
  have HD := Lib.hid hd
  have e1 : ∀ args w, (callFunc 53 args).run P w = .ok (.enter 53 args) w := enters_of E.F1 (by kernel_rfl) rfl
  clear ha hm hb hU hV hsz hd S hz
  have HE := Lib.hid E
  clear E
  go_enter FG, Try.ntmps48
  go_wp2
  go_loopg [10, 11] (b - a) (fun kx s10 s11 wr => ∃ i j : Nat, s10 = .int .i64 i ∧ s11 = .int .i64 j ∧ 0 < i ∧ 0 < j ∧ i + j ≤ kx ∧ Hid (RotI enc k w0 blk off X U V Y m i j wr))
  case atStart => exact ⟨m - a, b - m, by congr 1; omega, by congr 1; omega, by omega, by omega, by omega, H0⟩
  case round =>
    obtain ⟨i, j, rfl, rfl, hi, hj, hk, h⟩ := hrel
    obtain ⟨b1, b2⟩ := HB.out i j wr h.out
    clear H0
    by_cases hij : i = j
    · subst hij
      have HC := Lib.hid (rot_eq HE.out cap HS.out HD.out h.out)
      go_wp2_with (go_at_fn 53; refine HC.out.mono ?_; rintro e w1 ⟨rfl, h1⟩)
      go_end0
      exact ⟨rfl, h1⟩
    · have hij1 : ¬ (i : Int) = (j : Int) := by omega
      by_cases hgt : j < i
      · have hgtz : (j : Int) < (i : Int) := by omega
        have HC := Lib.hid (rot_gt HE.out cap HS.out HD.out h.out hgt)
        go_wp2_with (go_at_fn 53; refine HC.out.mono ?_; rintro e w1 ⟨rfl, h1⟩)
        go_roundg (i - j + j)
        case measure => omega
        case rel => exact ⟨i - j, j, by congr 1; omega, rfl, by omega, hj, by omega, h1⟩
      · have hgtz : ¬ (j : Int) < (i : Int) := by omega
        have HC := Lib.hid (rot_lt HE.out cap HS.out HD.out h.out (by omega))
        go_wp2_with (go_at_fn 53; refine HC.out.mono ?_; rintro e w1 ⟨rfl, h1⟩)
        go_roundg (i + (j - i))
        case measure => omega
        case rel => exact ⟨i, j - i, rfl, by congr 1; omega, hi, by omega, by omega, h1⟩

end Go.Proofs.Ytbddicaabjlbjaa
