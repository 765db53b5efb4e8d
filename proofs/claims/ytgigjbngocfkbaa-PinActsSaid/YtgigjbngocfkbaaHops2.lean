/-
  A heap's Store, Swap, Bump.
-/
import Derived.Test.YtgigjbngocfkbaaHops
namespace Go.Proofs.Ytgigjbngocfkbaa
open Go Go.RowKit
attribute [local go_sem ↓] Go.wp_at_zero Go.wp_at_succ

section
variable {B p : Nat} {D : HpD} {f : Nat → Prop}

set_option maxRecDepth 100000 in
set_option maxHeartbeats 1000000 in
theorem store_any (W : World) (h : Hp W B p D f) (hf : D.faults < 1000000) (k : Nat) (hk : k < 18446744073709551616) (i u : Int) :
    Calls Try.prog 20 #[.pointer (some ⟨p, 0, none⟩), .int .u64 (k : Int), .int .i64 i, .int .u64 u] W (HpR B p f W (.int .i64 (spot D.L k i)) (storeD D k i u)) := by
  obtain ⟨mb, g, cp, h⟩ := h
  obtain ⟨z, hz⟩ : ∃ z, (k : Int) = z := ⟨_, rfl⟩
  by_cases hs : spot D.L k i = 0
  · obtain ⟨b, j, hb, rfl, hj⟩ := spot_zero hs
    have HC := Lib.hid (cell_hit W h k hk b hb j hj)
    have HW := Lib.hid (fun Y hY x => (h.below (W' := Y) hY).setWord hb j hj x)
    have HH := Lib.hid h
    unfold storeD
    rw [if_pos hs, word_hit hb, spot_hit hb hj]
    obtain ⟨q, hq⟩ : ∃ q, g k = q := ⟨_, rfl⟩
    have HX := Lib.hid (fun Y hY => HW.out Y hY u)
    unfold uval at HX
    rw [hq] at HX HC
    rw [hz] at HC ⊢
    clear hq hz hs hb hk hf h HW HH
    go_enter Try.func20, Try.ntmps20
    go_wp2_with fail
    refine HC.out.mono ?_
    rintro en w1 ⟨rfl, hb1⟩
    have HB := Lib.hid hb1
    obtain ⟨c1, c2, c3, c4⟩ := HX.out _ hb1
    have H3 := Lib.hid c3
    have H4 := Lib.hid c4
    clear hb1 c3 c4 HX
    go_wp2_with fail
    go_ret
    exact ⟨f, rfl, ⟨mb, g, cp, H3.out⟩, (Step.of_below HB.out).trans H4.out⟩

  · have HC := Lib.hid (cell_none W h hf k hk i hs)
    have hcode := spot_bool hs
    unfold storeD
    rw [if_neg hs]
    obtain ⟨c, hc⟩ : ∃ c, spot D.L k i = c := ⟨_, rfl⟩
    rw [hc] at HC hcode ⊢
    rw [hz] at HC ⊢
    unfold NoneR at HC
    clear hz hc hs h hk hf
    go_enter Try.func20, Try.ntmps20
    go_wp2_with fail
    refine HC.out.mono ?_
    rintro en w1 ⟨rfl, h1, s1⟩
    have H1 := Lib.hid h1
    have S1 := Lib.hid s1
    clear h1 s1
    go_wp2_with fail
    go_ret
    exact ⟨f, rfl, ⟨mb, g, cp, H1.out⟩, S1.out⟩

set_option maxRecDepth 100000 in
set_option maxHeartbeats 1000000 in
theorem swap_any (W : World) (h : Hp W B p D f) (hf : D.faults < 1000000) (k : Nat) (hk : k < 18446744073709551616) (i o u : Int) :
    Calls Try.prog 36 #[.pointer (some ⟨p, 0, none⟩), .int .u64 (k : Int), .int .i64 i, .int .u64 o, .int .u64 u] W (HpR B p f W (TwoV (loadV D k i) (spot D.L k i)) (swapD D k i o u)) := by
  obtain ⟨mb, g, cp, h⟩ := h
  obtain ⟨z, hz⟩ : ∃ z, (k : Int) = z := ⟨_, rfl⟩
  by_cases hs : spot D.L k i = 0
  · obtain ⟨b, j, hb, rfl, hj⟩ := spot_zero hs
    have HC := Lib.hid (cell_hit W h k hk b hb j hj)
    have HW := Lib.hid (fun Y hY x => (h.below (W' := Y) hY).setWord hb j hj x)
    have HH := Lib.hid h
    unfold swapD loadV
    rw [if_pos hs, if_pos hs, word_hit hb, wordAt_hit hb hj, spot_hit hb hj]
    obtain ⟨q, hq⟩ : ∃ q, g k = q := ⟨_, rfl⟩
    obtain ⟨x, hx⟩ : ∃ x, b.ws[j] = x := ⟨_, rfl⟩
    have HX := Lib.hid (fun Y hY => HW.out Y hY u)
    unfold uval at HX
    rw [hq, hx] at HX
    rw [hq] at HC
    rw [hz] at HC ⊢
    rw [hx]
    clear hq hz hs hb hk hf h HW hx hj
    by_cases hxo : x = o
    · rw [if_pos hxo]
      have hxb : (x == o) = true := by rw [beq_iff_eq]; exact hxo
      clear hxo HH
      go_enter Try.func36, Try.ntmps36
      go_wp2_with fail
      refine HC.out.mono ?_
      rintro en w1 ⟨rfl, hb1⟩
      have HB := Lib.hid hb1
      obtain ⟨c1, c2, c3, c4⟩ := HX.out _ hb1
      have H3 := Lib.hid c3
      have H4 := Lib.hid c4
      clear hb1 c3 c4 HX
      go_wp2_with fail
      go_ret2
      exact ⟨f, rfl, ⟨mb, g, cp, H3.out⟩, (Step.of_below HB.out).trans H4.out⟩
    · rw [if_neg hxo]
      have hxb : (x == o) = false := by rw [beq_eq_false_iff_ne]; exact hxo
      clear hxo
      go_enter Try.func36, Try.ntmps36
      go_wp2_with fail
      refine HC.out.mono ?_
      rintro en w1 ⟨rfl, hb1⟩
      have HB := Lib.hid hb1
      obtain ⟨c1, c2, _, _⟩ := HX.out _ hb1
      clear hb1 HX
      go_wp2_with fail
      go_ret2
      exact ⟨f, rfl, ⟨mb, g, cp, HH.out.below HB.out⟩, Step.of_below HB.out⟩

  · have HC := Lib.hid (cell_none W h hf k hk i hs)
    have hcode := spot_bool hs
    unfold swapD loadV
    rw [if_neg hs, if_neg hs]
    obtain ⟨c, hc⟩ : ∃ c, spot D.L k i = c := ⟨_, rfl⟩
    rw [hc] at HC hcode ⊢
    rw [hz] at HC ⊢
    unfold NoneR at HC
    clear hz hc hs h hk hf
    go_enter Try.func36, Try.ntmps36
    go_wp2_with fail
    refine HC.out.mono ?_
    rintro en w1 ⟨rfl, h1, s1⟩
    have H1 := Lib.hid h1
    have S1 := Lib.hid s1
    clear h1 s1
    go_wp2_with fail
    go_ret2
    exact ⟨f, rfl, ⟨mb, g, cp, H1.out⟩, S1.out⟩

set_option maxRecDepth 100000 in
set_option maxHeartbeats 1000000 in
theorem bump_any (W : World) (h : Hp W B p D f) (hf : D.faults < 1000000) (k : Nat) (hk : k < 18446744073709551616) (i u : Int) :
    Calls Try.prog 37 #[.pointer (some ⟨p, 0, none⟩), .int .u64 (k : Int), .int .i64 i, .int .u64 u] W (HpR B p f W (TwoV (loadV D k i) (spot D.L k i)) (bumpD D k i u)) := by
  obtain ⟨mb, g, cp, h⟩ := h
  obtain ⟨z, hz⟩ : ∃ z, (k : Int) = z := ⟨_, rfl⟩
  by_cases hs : spot D.L k i = 0
  · obtain ⟨b, j, hb, rfl, hj⟩ := spot_zero hs
    have HC := Lib.hid (cell_hit W h k hk b hb j hj)
    have HW := Lib.hid (fun Y hY x => (h.below (W' := Y) hY).setWord hb j hj x)
    have HH := Lib.hid h
    unfold bumpD loadV
    rw [if_pos hs, if_pos hs, word_hit hb, wordAt_hit hb hj, spot_hit hb hj]
    obtain ⟨q, hq⟩ : ∃ q, g k = q := ⟨_, rfl⟩
    obtain ⟨x, hx⟩ : ∃ x, b.ws[j] = x := ⟨_, rfl⟩
    obtain ⟨y, hy⟩ : ∃ y, IntKind.u64.wrap (x + u) = y := ⟨_, rfl⟩
    have HX := Lib.hid (fun Y hY => HW.out Y hY y)
    unfold uval at HX
    rw [hq, hx] at HX
    rw [hq] at HC
    rw [hz] at HC ⊢
    rw [hx, hy]
    clear hq hz hs hb hk hf h HW HH hx hj
    go_enter Try.func37, Try.ntmps37
    go_wp2_with fail
    refine HC.out.mono ?_
    rintro en w1 ⟨rfl, hb1⟩
    have HB := Lib.hid hb1
    obtain ⟨c1, c2, c3, c4⟩ := HX.out _ hb1
    have H3 := Lib.hid c3
    have H4 := Lib.hid c4
    clear hb1 c3 c4 HX
    go_wp2_with fail
    go_ret2
    exact ⟨f, rfl, ⟨mb, g, cp, H3.out⟩, (Step.of_below HB.out).trans H4.out⟩

  · have HC := Lib.hid (cell_none W h hf k hk i hs)
    have hcode := spot_bool hs
    unfold bumpD loadV
    rw [if_neg hs, if_neg hs]
    obtain ⟨c, hc⟩ : ∃ c, spot D.L k i = c := ⟨_, rfl⟩
    rw [hc] at HC hcode ⊢
    rw [hz] at HC ⊢
    unfold NoneR at HC
    clear hz hc hs h hk hf
    go_enter Try.func37, Try.ntmps37
    go_wp2_with fail
    refine HC.out.mono ?_
    rintro en w1 ⟨rfl, h1, s1⟩
    have H1 := Lib.hid h1
    have S1 := Lib.hid s1
    clear h1 s1
    go_wp2_with fail
    go_ret2
    exact ⟨f, rfl, ⟨mb, g, cp, H1.out⟩, S1.out⟩
end

end Go.Proofs.Ytgigjbngocfkbaa
