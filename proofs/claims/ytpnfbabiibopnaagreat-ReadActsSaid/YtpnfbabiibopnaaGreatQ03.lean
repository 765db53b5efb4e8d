/-
  Hops, Hops2, Hops3, in one text.
-/
import Derived.Test.YtpnfbabiibopnaaGreatQ02
/-! A heap's Load, Store, Swap, Bump, Words. -/
namespace Go.Proofs.YtpnfbabiibopnaaGreat
open Go Go.RowKit
attribute [local go_sem ↓] Go.wp_at_zero Go.wp_at_succ

/-- What is wrong with a cell; 0, if nothing is. -/
def spot (L : List BlkD) (k : Nat) (i : Int) : Int := match liveAt L k with | none => lostAt L k | some b => if i < 0 ∨ (b.ws.length : Int) ≤ i then 18 else 0
/-- What is wrong with a block; 0, if nothing is. -/
def there (L : List BlkD) (k : Nat) : Int := match liveAt L k with | none => lostAt L k | some _ => 0
def wordAt (L : List BlkD) (k : Nat) (i : Int) : Int := match liveAt L k with | none => 0 | some b => b.ws.getD i.toNat 0
def textAt (L : List BlkD) (k : Nat) : ByteArray := match liveAt L k with | none => ⟨#[]⟩ | some b => b.text
def sizeAt (L : List BlkD) (k : Nat) : Nat := match liveAt L k with | none => 0 | some b => b.ws.length
def HpD.word (D : HpD) (k : Nat) (i u : Int) : HpD := match liveAt D.L k with | none => D | some b => D.at k ⟨b.ws.set i.toNat u, b.text, false⟩
def HpD.lose (D : HpD) (k : Nat) : HpD := match liveAt D.L k with | none => D | some b => D.at k ⟨b.ws, b.text, true⟩

theorem lost_nz (L : List BlkD) (k : Nat) : lostAt L k = 16 ∨ lostAt L k = 17 := by unfold lostAt; split <;> simp
theorem spot_zero {L : List BlkD} {k : Nat} {i : Int} (h : spot L k i = 0) : ∃ b j, liveAt L k = some b ∧ i = ((j : Nat) : Int) ∧ j < b.ws.length := by
  unfold spot at h
  split at h
  · rcases lost_nz L k with e | e <;> rw [e] at h <;> cases h
  · rename_i b hb
    split at h
    · cases h
    · exact ⟨b, i.toNat, hb, by omega, by omega⟩
theorem spot_lost {L : List BlkD} {k : Nat} {i : Int} (h : liveAt L k = none) : spot L k i = lostAt L k := by unfold spot; rw [h]
theorem spot_off {L : List BlkD} {k : Nat} {i : Int} {b : BlkD} (h : liveAt L k = some b) (hi : i < 0 ∨ (b.ws.length : Int) ≤ i) : spot L k i = 18 := by unfold spot; rw [h]; simp only; rw [if_pos hi]
theorem spot_some {L : List BlkD} {k : Nat} {i : Int} {b : BlkD} (h : liveAt L k = some b) : spot L k i = if i < 0 ∨ (b.ws.length : Int) ≤ i then 18 else 0 := by unfold spot; rw [h]
theorem spot_hit {L : List BlkD} {k j : Nat} {b : BlkD} (h : liveAt L k = some b) (hj : j < b.ws.length) : spot L k (j : Int) = 0 := by rw [spot_some h, if_neg (by omega)]
theorem wordAt_hit {L : List BlkD} {k j : Nat} {b : BlkD} (h : liveAt L k = some b) (hj : j < b.ws.length) : wordAt L k (j : Int) = b.ws[j] := by unfold wordAt; rw [h]; simp [hj]
theorem word_hit {D : HpD} {k j : Nat} {u : Int} {b : BlkD} (h : liveAt D.L k = some b) : D.word k (j : Int) u = D.at k ⟨b.ws.set j u, b.text, false⟩ := by unfold HpD.word; rw [h]; simp
theorem there_hit {L : List BlkD} {k : Nat} {b : BlkD} (h : liveAt L k = some b) : there L k = 0 := by unfold there; rw [h]
theorem there_lost {L : List BlkD} {k : Nat} (h : liveAt L k = none) : there L k = lostAt L k := by unfold there; rw [h]
theorem textAt_hit {L : List BlkD} {k : Nat} {b : BlkD} (h : liveAt L k = some b) : textAt L k = b.text := by unfold textAt; rw [h]
theorem textAt_lost {L : List BlkD} {k : Nat} (h : liveAt L k = none) : textAt L k = ⟨#[]⟩ := by unfold textAt; rw [h]

/-- The answers of the calls, and the heap behind them. -/
def loadV (D : HpD) (k : Nat) (i : Int) : Int := if spot D.L k i = 0 then wordAt D.L k i else 0
def loadD (D : HpD) (k : Nat) (i : Int) : HpD := if spot D.L k i = 0 then D else D.fault
def storeD (D : HpD) (k : Nat) (i u : Int) : HpD := if spot D.L k i = 0 then D.word k i u else D.fault
def swapD (D : HpD) (k : Nat) (i o u : Int) : HpD := if spot D.L k i = 0 then (if wordAt D.L k i = o then D.word k i u else D) else D.fault
def bumpD (D : HpD) (k : Nat) (i u : Int) : HpD := if spot D.L k i = 0 then D.word k i (IntKind.u64.wrap (wordAt D.L k i + u)) else D.fault
def wordsD (D : HpD) (k : Nat) : HpD := if there D.L k = 0 then D else D.fault
def dropD (D : HpD) (k : Nat) : HpD := if there D.L k = 0 then D.lose k else D.fault

abbrev TwoV (w c : Int) : Value := .tuple #[.int .u64 w, .int .i64 c]

section
variable {B p : Nat} {D : HpD} {f : Nat → Prop} {mb : Option Nat} {g cp : Nat → Nat}
theorem cell_none (W : World) (h : HpAt W B p D f mb g cp) (hf : D.faults < 1000000) (k : Nat) (hk : k < 18446744073709551616) (i : Int) (hs : spot D.L k i ≠ 0) :
    Calls Tryz.prog 72 #[.pointer (some ⟨p, 0, none⟩), .int .u64 (k : Int), .int .i64 i] W (NoneR B p D f mb g cp (spot D.L k i) W) := by
  cases hb : liveAt D.L k with
  | none => rw [spot_lost hb]; exact cell_lost W h hf k hk hb i
  | some b =>
    by_cases hi : i < 0 ∨ (b.ws.length : Int) ≤ i
    · rw [spot_off hb hi]; exact cell_off W h hf k hk b hb i hi
    · rw [spot_some hb, if_neg hi] at hs; exact absurd rfl hs

/-- What the calls of a cell share. -/
theorem spot_bool {L : List BlkD} {k : Nat} {i : Int} (hs : spot L k i ≠ 0) : ((spot L k i) == 0) = false := by rw [beq_eq_false_iff_ne]; exact hs

set_option maxRecDepth 100000 in
set_option maxHeartbeats 1000000 in
theorem load_any (W : World) (h : Hp W B p D f) (hf : D.faults < 1000000) (k : Nat) (hk : k < 18446744073709551616) (i : Int) :
    Calls Tryz.prog 73 #[.pointer (some ⟨p, 0, none⟩), .int .u64 (k : Int), .int .i64 i] W (HpR B p f W (TwoV (loadV D k i) (spot D.L k i)) (loadD D k i)) := by
  obtain ⟨mb, g, cp, h⟩ := h
  obtain ⟨z, hz⟩ : ∃ z, (k : Int) = z := ⟨_, rfl⟩
  by_cases hs : spot D.L k i = 0
  · obtain ⟨b, j, hb, rfl, hj⟩ := spot_zero hs
    have HC := Lib.hid (cell_hit W h k hk b hb j hj)
    have HW := Lib.hid (fun Y hY => ((h.below (W' := Y) hY).setWord hb j hj 0).1)
    have HH := Lib.hid h
    unfold loadV loadD
    rw [if_pos hs, if_pos hs, wordAt_hit hb hj, spot_hit hb hj]
    obtain ⟨u, hu⟩ : ∃ u, b.ws[j] = u := ⟨_, rfl⟩
    obtain ⟨q, hq⟩ : ∃ q, g k = q := ⟨_, rfl⟩
    unfold uval at HW
    rw [hu, hq] at HW
    rw [hq] at HC
    rw [hz] at HC ⊢
    rw [hu]
    clear hu hq hz hs hb hj hk hf h
    go_enter Tryz.func73, Tryz.ntmps73
    go_wp2_with fail
    refine HC.out.mono ?_
    rintro en w1 ⟨rfl, hb1⟩
    have HB := Lib.hid hb1
    have hc := HW.out _ hb1
    clear hb1
    go_wp2_with fail
    go_ret2
    exact ⟨f, rfl, ⟨mb, g, cp, HH.out.below HB.out⟩, Step.of_below HB.out⟩
  · have HC := Lib.hid (cell_none W h hf k hk i hs)
    have hcode := spot_bool hs
    unfold loadV loadD
    rw [if_neg hs, if_neg hs]
    obtain ⟨c, hc⟩ : ∃ c, spot D.L k i = c := ⟨_, rfl⟩
    rw [hc] at HC hcode ⊢
    rw [hz] at HC ⊢
    unfold NoneR at HC
    clear hz hc hs h hk hf
    go_enter Tryz.func73, Tryz.ntmps73
    go_wp2_with fail
    refine HC.out.mono ?_
    rintro en w1 ⟨rfl, h1, s1⟩
    have H1 := Lib.hid h1
    have S1 := Lib.hid s1
    clear h1 s1
    go_wp2_with fail
    go_ret2
    exact ⟨f, rfl, ⟨mb, g, cp, H1.out⟩, S1.out⟩
end

end Go.Proofs.YtpnfbabiibopnaaGreat

/-! A heap's Store, Swap, Bump. -/
namespace Go.Proofs.YtpnfbabiibopnaaGreat
open Go Go.RowKit
attribute [local go_sem ↓] Go.wp_at_zero Go.wp_at_succ

section
variable {B p : Nat} {D : HpD} {f : Nat → Prop}

set_option maxRecDepth 100000 in
set_option maxHeartbeats 1000000 in
theorem store_any (W : World) (h : Hp W B p D f) (hf : D.faults < 1000000) (k : Nat) (hk : k < 18446744073709551616) (i u : Int) :
    Calls Tryz.prog 47 #[.pointer (some ⟨p, 0, none⟩), .int .u64 (k : Int), .int .i64 i, .int .u64 u] W (HpR B p f W (.int .i64 (spot D.L k i)) (storeD D k i u)) := by
  obtain ⟨mb, g, cp, h⟩ := h
  obtain ⟨z, hz⟩ : ∃ z, (k : Int) = z := ⟨_, rfl⟩
  by_cases hs : spot D.L k i = 0
  · obtain ⟨b, j, hb, rfl, hj⟩ := spot_zero hs
    have HC := Lib.hid (cell_hit W h k hk b hb j hj)
    have HW := Lib.hid (fun Y hY x => (h.below (W' := Y) hY).setWord hb j hj x)
    have HH := Lib.hid h
    unfold storeD
    rw [if_pos hs, word_hit hb, spot_hit hb hj]
    obtain ⟨q, hq⟩ : ∃ q, g k = q := ⟨_, rfl⟩
    have HX := Lib.hid (fun Y hY => HW.out Y hY u)
    unfold uval at HX
    rw [hq] at HX HC
    rw [hz] at HC ⊢
    clear hq hz hs hb hk hf h HW HH
    go_enter Tryz.func47, Tryz.ntmps47
    go_wp2_with fail
    refine HC.out.mono ?_
    rintro en w1 ⟨rfl, hb1⟩
    have HB := Lib.hid hb1
    obtain ⟨c1, c2, c3, c4⟩ := HX.out _ hb1
    have H3 := Lib.hid c3
    have H4 := Lib.hid c4
    clear hb1 c3 c4 HX
    go_wp2_with fail
    go_ret
    exact ⟨f, rfl, ⟨mb, g, cp, H3.out⟩, (Step.of_below HB.out).trans H4.out⟩

  · have HC := Lib.hid (cell_none W h hf k hk i hs)
    have hcode := spot_bool hs
    unfold storeD
    rw [if_neg hs]
    obtain ⟨c, hc⟩ : ∃ c, spot D.L k i = c := ⟨_, rfl⟩
    rw [hc] at HC hcode ⊢
    rw [hz] at HC ⊢
    unfold NoneR at HC
    clear hz hc hs h hk hf
    go_enter Tryz.func47, Tryz.ntmps47
    go_wp2_with fail
    refine HC.out.mono ?_
    rintro en w1 ⟨rfl, h1, s1⟩
    have H1 := Lib.hid h1
    have S1 := Lib.hid s1
    clear h1 s1
    go_wp2_with fail
    go_ret
    exact ⟨f, rfl, ⟨mb, g, cp, H1.out⟩, S1.out⟩

set_option maxRecDepth 100000 in
set_option maxHeartbeats 1000000 in
theorem swap_any (W : World) (h : Hp W B p D f) (hf : D.faults < 1000000) (k : Nat) (hk : k < 18446744073709551616) (i o u : Int) :
    Calls Tryz.prog 93 #[.pointer (some ⟨p, 0, none⟩), .int .u64 (k : Int), .int .i64 i, .int .u64 o, .int .u64 u] W (HpR B p f W (TwoV (loadV D k i) (spot D.L k i)) (swapD D k i o u)) := by
  obtain ⟨mb, g, cp, h⟩ := h
  obtain ⟨z, hz⟩ : ∃ z, (k : Int) = z := ⟨_, rfl⟩
  by_cases hs : spot D.L k i = 0
  · obtain ⟨b, j, hb, rfl, hj⟩ := spot_zero hs
    have HC := Lib.hid (cell_hit W h k hk b hb j hj)
    have HW := Lib.hid (fun Y hY x => (h.below (W' := Y) hY).setWord hb j hj x)
    have HH := Lib.hid h
    unfold swapD loadV
    rw [if_pos hs, if_pos hs, word_hit hb, wordAt_hit hb hj, spot_hit hb hj]
    obtain ⟨q, hq⟩ : ∃ q, g k = q := ⟨_, rfl⟩
    obtain ⟨x, hx⟩ : ∃ x, b.ws[j] = x := ⟨_, rfl⟩
    have HX := Lib.hid (fun Y hY => HW.out Y hY u)
    unfold uval at HX
    rw [hq, hx] at HX
    rw [hq] at HC
    rw [hz] at HC ⊢
    rw [hx]
    clear hq hz hs hb hk hf h HW hx hj
    by_cases hxo : x = o
    · rw [if_pos hxo]
      have hxb : (x == o) = true := by rw [beq_iff_eq]; exact hxo
      clear hxo HH
      go_enter Tryz.func93, Tryz.ntmps93
      go_wp2_with fail
      refine HC.out.mono ?_
      rintro en w1 ⟨rfl, hb1⟩
      have HB := Lib.hid hb1
      obtain ⟨c1, c2, c3, c4⟩ := HX.out _ hb1
      have H3 := Lib.hid c3
      have H4 := Lib.hid c4
      clear hb1 c3 c4 HX
      go_wp2_with fail
      go_ret2
      exact ⟨f, rfl, ⟨mb, g, cp, H3.out⟩, (Step.of_below HB.out).trans H4.out⟩
    · rw [if_neg hxo]
      have hxb : (x == o) = false := by rw [beq_eq_false_iff_ne]; exact hxo
      clear hxo
      go_enter Tryz.func93, Tryz.ntmps93
      go_wp2_with fail
      refine HC.out.mono ?_
      rintro en w1 ⟨rfl, hb1⟩
      have HB := Lib.hid hb1
      obtain ⟨c1, c2, _, _⟩ := HX.out _ hb1
      clear hb1 HX
      go_wp2_with fail
      go_ret2
      exact ⟨f, rfl, ⟨mb, g, cp, HH.out.below HB.out⟩, Step.of_below HB.out⟩

  · have HC := Lib.hid (cell_none W h hf k hk i hs)
    have hcode := spot_bool hs
    unfold swapD loadV
    rw [if_neg hs, if_neg hs]
    obtain ⟨c, hc⟩ : ∃ c, spot D.L k i = c := ⟨_, rfl⟩
    rw [hc] at HC hcode ⊢
    rw [hz] at HC ⊢
    unfold NoneR at HC
    clear hz hc hs h hk hf
    go_enter Tryz.func93, Tryz.ntmps93
    go_wp2_with fail
    refine HC.out.mono ?_
    rintro en w1 ⟨rfl, h1, s1⟩
    have H1 := Lib.hid h1
    have S1 := Lib.hid s1
    clear h1 s1
    go_wp2_with fail
    go_ret2
    exact ⟨f, rfl, ⟨mb, g, cp, H1.out⟩, S1.out⟩

set_option maxRecDepth 100000 in
set_option maxHeartbeats 1000000 in
theorem bump_any (W : World) (h : Hp W B p D f) (hf : D.faults < 1000000) (k : Nat) (hk : k < 18446744073709551616) (i u : Int) :
    Calls Tryz.prog 94 #[.pointer (some ⟨p, 0, none⟩), .int .u64 (k : Int), .int .i64 i, .int .u64 u] W (HpR B p f W (TwoV (loadV D k i) (spot D.L k i)) (bumpD D k i u)) := by
  obtain ⟨mb, g, cp, h⟩ := h
  obtain ⟨z, hz⟩ : ∃ z, (k : Int) = z := ⟨_, rfl⟩
  by_cases hs : spot D.L k i = 0
  · obtain ⟨b, j, hb, rfl, hj⟩ := spot_zero hs
    have HC := Lib.hid (cell_hit W h k hk b hb j hj)
    have HW := Lib.hid (fun Y hY x => (h.below (W' := Y) hY).setWord hb j hj x)
    have HH := Lib.hid h
    unfold bumpD loadV
    rw [if_pos hs, if_pos hs, word_hit hb, wordAt_hit hb hj, spot_hit hb hj]
    obtain ⟨q, hq⟩ : ∃ q, g k = q := ⟨_, rfl⟩
    obtain ⟨x, hx⟩ : ∃ x, b.ws[j] = x := ⟨_, rfl⟩
    obtain ⟨y, hy⟩ : ∃ y, IntKind.u64.wrap (x + u) = y := ⟨_, rfl⟩
    have HX := Lib.hid (fun Y hY => HW.out Y hY y)
    unfold uval at HX
    rw [hq, hx] at HX
    rw [hq] at HC
    rw [hz] at HC ⊢
    rw [hx, hy]
    clear hq hz hs hb hk hf h HW HH hx hj
    go_enter Tryz.func94, Tryz.ntmps94
    go_wp2_with fail
    refine HC.out.mono ?_
    rintro en w1 ⟨rfl, hb1⟩
    have HB := Lib.hid hb1
    obtain ⟨c1, c2, c3, c4⟩ := HX.out _ hb1
    have H3 := Lib.hid c3
    have H4 := Lib.hid c4
    clear hb1 c3 c4 HX
    go_wp2_with fail
    go_ret2
    exact ⟨f, rfl, ⟨mb, g, cp, H3.out⟩, (Step.of_below HB.out).trans H4.out⟩

  · have HC := Lib.hid (cell_none W h hf k hk i hs)
    have hcode := spot_bool hs
    unfold bumpD loadV
    rw [if_neg hs, if_neg hs]
    obtain ⟨c, hc⟩ : ∃ c, spot D.L k i = c := ⟨_, rfl⟩
    rw [hc] at HC hcode ⊢
    rw [hz] at HC ⊢
    unfold NoneR at HC
    clear hz hc hs h hk hf
    go_enter Tryz.func94, Tryz.ntmps94
    go_wp2_with fail
    refine HC.out.mono ?_
    rintro en w1 ⟨rfl, h1, s1⟩
    have H1 := Lib.hid h1
    have S1 := Lib.hid s1
    clear h1 s1
    go_wp2_with fail
    go_ret2
    exact ⟨f, rfl, ⟨mb, g, cp, H1.out⟩, S1.out⟩
end

end Go.Proofs.YtpnfbabiibopnaaGreat

/-! A heap's New, Words, Size, Lock, Unlock, Locked, Faults; the calls of a nil heap. -/
namespace Go.Proofs.YtpnfbabiibopnaaGreat
open Go Go.RowKit
attribute [local go_sem ↓] Go.wp_at_zero Go.wp_at_succ

section
variable {B p : Nat} {D : HpD} {f : Nat → Prop}

set_option maxRecDepth 100000 in
set_option maxHeartbeats 1000000 in
theorem words_any (W : World) (h : Hp W B p D f) (hf : D.faults < 1000000) (k : Nat) (hk : k < 18446744073709551616) :
    Calls Tryz.prog 95 #[.pointer (some ⟨p, 0, none⟩), .int .u64 (k : Int)] W (HpR B p f W (.tuple #[.string (textAt D.L k), .int .i64 (there D.L k)]) (wordsD D k)) := by
  obtain ⟨mb, g, cp, h⟩ := h
  obtain ⟨z, hz⟩ : ∃ z, (k : Int) = z := ⟨_, rfl⟩
  cases hb : liveAt D.L k with
  | some b =>
    have HC := Lib.hid (find_hit W h k hk b hb)
    have HH := Lib.hid h
    unfold wordsD
    rw [there_hit hb, if_pos rfl, textAt_hit hb]
    obtain ⟨n, hn⟩ : ∃ n, b.ws.length = n := ⟨_, rfl⟩
    obtain ⟨s, hs⟩ : ∃ s, b.text = s := ⟨_, rfl⟩
    obtain ⟨q, hq⟩ : ∃ q, g k = q := ⟨_, rfl⟩
    obtain ⟨c, hc⟩ : ∃ c, cp k = c := ⟨_, rfl⟩
    rw [hn, hs, hq, hc] at HC
    rw [hz] at HC ⊢
    rw [hs]
    clear hn hs hq hc hz h hb hk hf
    go_enter Tryz.func95, Tryz.ntmps95
    go_wp2_with fail
    refine HC.out.mono ?_
    rintro en w1 ⟨rfl, hb1⟩
    have HB := Lib.hid hb1
    clear hb1
    go_wp2_with fail
    go_ret2
    have hB2 := HB.out.alloc HB.out.size (.cells #[.slice (some ⟨q, 0, none⟩) n c, .string s] 135)
    exact ⟨f, rfl, ⟨mb, g, cp, HH.out.below hB2⟩, Step.of_below hB2⟩
  | none =>
    have HC := Lib.hid (find_miss W h hf k hk hb)
    unfold wordsD
    have hcode : ¬ (lostAt D.L k = 0) := by rcases lost_nz D.L k with e | e <;> rw [e] <;> decide
    rw [there_lost hb, if_neg hcode, textAt_lost hb]
    unfold LostR zeroB at HC
    obtain ⟨c, hc⟩ : ∃ c, lostAt D.L k = c := ⟨_, rfl⟩
    rw [hc] at HC ⊢
    rw [hz] at HC ⊢
    clear hz hc h hb hk hf hcode
    go_enter Tryz.func95, Tryz.ntmps95
    go_wp2_with fail
    refine HC.out.mono ?_
    rintro en w1 ⟨rfl, h1, s1⟩
    have H1 := Lib.hid h1
    have S1 := Lib.hid s1
    clear h1 s1
    go_wp2_with fail
    go_ret2
    exact ⟨f, rfl, ⟨mb, g, cp, H1.out.below (below_alloc _ _)⟩, S1.out.trans (Step.of_below (below_alloc _ _))⟩

theorem run_field_block (W : World) (u v : Value) : (Instr.field 135 (.agg #[u, v]) 0).run Tryz.prog W = .ok u W := by
  kernel_rfl
set_option maxRecDepth 100000 in
theorem size_any (W : World) (h : Hp W B p D f) (k : Nat) (hk : k < 18446744073709551616) :
    Calls Tryz.prog 92 #[.pointer (some ⟨p, 0, none⟩), .int .u64 (k : Int)] W fun e W' => e = .returned (.int .i64 (sizeAt D.L k)) ∧ W = W' := by
  obtain ⟨mb, g, cp, h⟩ := h
  obtain ⟨c0, _⟩ := h.cells
  have hl : ∃ q s c, (Instr.lookup 130 (.map mb) (.int .u64 (k : Int)) false).run Tryz.prog W = .ok (.agg #[.slice q (sizeAt D.L k) c, .string s]) W := by
    have hp : ∃ q s c, (phi g cp D.L k).getD zeroB = .agg #[.slice q (sizeAt D.L k) c, .string s] := by
      unfold sizeAt
      cases hb : liveAt D.L k with
      | none => exact ⟨none, ⟨#[]⟩, 0, by rw [phi_none hb]; rfl⟩
      | some b => exact ⟨_, _, _, by rw [phi_some hb]; rfl⟩
    obtain ⟨q, s, c, hp⟩ := hp
    refine ⟨q, s, c, ?_⟩
    rw [← hp]
    rcases h.map with ⟨h0, h1⟩ | ⟨m, h1, h2⟩
    · rw [h0, phi_none (by rw [h1]; exact liveAt_nil k)]; exact look0_none k hk
    · rw [h1]; exact h2.look0 k hk
  obtain ⟨q, s, c, hl⟩ := hl
  obtain ⟨n, hn⟩ : ∃ n, sizeAt D.L k = n := ⟨_, rfl⟩
  obtain ⟨z, hz⟩ : ∃ z, (k : Int) = z := ⟨_, rfl⟩
  rw [hn] at hl ⊢
  rw [hz] at hl ⊢
  clear hn hz h hk
  have hfd := run_field_block W (.slice q n c) (.string s)
  go_enter Tryz.func92, Tryz.ntmps92
  go_wp2_with fail
  go_ret
  exact ⟨rfl, rfl⟩

theorem locked_any (W : World) (h : Hp W B p D f) : Calls Tryz.prog 91 #[.pointer (some ⟨p, 0, none⟩)] W fun e W' => e = .returned (.bool D.locked) ∧ W = W' := by
  obtain ⟨mb, g, cp, h⟩ := h
  obtain ⟨_, _, c2, _⟩ := h.cells
  obtain ⟨l, hl⟩ : ∃ l, D.locked = l := ⟨_, rfl⟩
  rw [hl] at c2 ⊢
  clear h hl
  go_enter Tryz.func91, Tryz.ntmps91
  go_wp2_with fail
  go_ret
  exact ⟨rfl, rfl⟩

theorem lock_any (W : World) (h : Hp W B p D f) : Calls Tryz.prog 97 #[.pointer (some ⟨p, 0, none⟩)] W (HpR B p f W (.bool (!D.locked)) (D.lock true)) := by
  obtain ⟨mb, g, cp, h⟩ := h
  obtain ⟨_, _, c2, _, _, _, f2, _⟩ := h.cells
  have HF := Lib.hid (h.setLock true)
  have HH := Lib.hid h
  obtain ⟨l, hl⟩ : ∃ l, D.locked = l := ⟨_, rfl⟩
  have HL := Lib.hid hl
  rw [hl] at c2 ⊢
  clear h hl
  cases l with
  | true =>
    clear HF
    go_enter Tryz.func97, Tryz.ntmps97
    go_wp2_with fail
    go_ret
    refine ⟨f, rfl, ⟨mb, g, cp, ?_⟩, Step.refl _ _⟩
    have : D.lock true = D := by cases D; simp only [HpD.lock]; rw [← HL.out]
    rw [this]; exact HH.out
  | false =>
    go_enter Tryz.func97, Tryz.ntmps97
    go_wp2_with fail
    go_ret
    exact ⟨f, rfl, ⟨mb, g, cp, HF.out.1⟩, HF.out.2⟩

/-- The heap behind Unlock. -/
def unlockD (D : HpD) : HpD := if D.locked then D.lock false else D.fault
set_option maxRecDepth 100000 in
theorem unlock_any (W : World) (h : Hp W B p D f) (hf : D.faults < 1000000) : Calls Tryz.prog 98 #[.pointer (some ⟨p, 0, none⟩)] W (HpR B p f W (.bool D.locked) (unlockD D)) := by
  obtain ⟨mb, g, cp, h⟩ := h
  obtain ⟨_, _, c2, c3, _, _, f2, f3⟩ := h.cells
  have HF := Lib.hid (h.setLock false)
  have HG := Lib.hid (h.setFaults hf)
  unfold unlockD
  obtain ⟨l, hl⟩ : ∃ l, D.locked = l := ⟨_, rfl⟩
  obtain ⟨fl, hfl⟩ : ∃ fl, D.faults = fl := ⟨_, rfl⟩
  rw [hfl] at HG c3 hf
  rw [hl] at c2 ⊢
  have hf0 : (0 : Int) ≤ (fl : Int) := by omega
  have hf1 : (fl : Int) ≤ 1000000 := by omega
  clear h hl hf hfl
  cases l with
  | true =>
    clear HG
    go_enter Tryz.func98, Tryz.ntmps98
    go_wp2_with fail
    go_ret
    exact ⟨f, rfl, ⟨mb, g, cp, HF.out.1⟩, HF.out.2⟩
  | false =>
    clear HF
    go_enter Tryz.func98, Tryz.ntmps98
    go_wp2_with fail
    go_ret
    have HG1 := HG.out
    rw [Int.natCast_add] at HG1
    exact ⟨f, rfl, ⟨mb, g, cp, HG1.1⟩, HG1.2⟩
end

/-! ### New -/
/-- What New leaves. -/
def NewR (W : World) (e : Ending) (W' : World) : Prop := ∃ p f, e = .returned (.pointer (some ⟨p, 0, none⟩)) ∧ Hp W' W.heap.size p emptyD f ∧ Below W.heap.size W W'
theorem plain_heap (W : World) : Hp (W.alloc (.cells #[.map none, .int .u64 0, .bool false, .int .i64 0] 132)) W.heap.size W.heap.size emptyD (fun k => k = W.heap.size ∨ none = some k ∨ ∃ j b, liveAt [] j = some b ∧ (0 : Nat) = k) :=
  ⟨none, fun _ => 0, fun _ => 0, World.alloc_heap_new W _, .inl ⟨rfl, rfl⟩, fun k b hb => absurd (hb.symm.trans (liveAt_nil k)) (by simp), fun k k' b b' hb => absurd (hb.symm.trans (liveAt_nil k)) (by simp), rfl,
    fun k hk => (by
      rcases hk with h0 | h0 | ⟨j, b, hj, _⟩
      · exact Nat.le_of_eq h0.symm
      · cases h0
      · rw [liveAt_nil] at hj; cases hj),
    ⟨Nat.zero_le _, Nat.zero_le _⟩, fun k b hb => absurd (hb.symm.trans (liveAt_nil k)) (by simp)⟩
theorem new_any (W : World) : Calls Tryz.prog 42 #[] W (NewR W) := by
  go_enter Tryz.func42, Tryz.ntmps42
  go_wp2
  go_ret
  exact ⟨W.heap.size, _, rfl, plain_heap W, below_alloc W _⟩

/-! ### a nil heap -/
theorem lock_nil (W : World) : Calls Tryz.prog 97 #[.pointer none] W fun e W' => e = .returned (.bool false) ∧ W = W' := by
  go_enter Tryz.func97, Tryz.ntmps97
  go_wp2_with fail
  go_ret
  exact ⟨rfl, rfl⟩
theorem make_nil (W : World) (c : Int) (s : ByteArray) : Calls Tryz.prog 43 #[.pointer none, .int .i64 c, .string s] W fun e W' => e = .returned (.int .u64 0) ∧ W = W' := by
  go_enter Tryz.func43, Tryz.ntmps43
  go_wp2_with fail
  go_ret
  exact ⟨rfl, rfl⟩
theorem find_nil (W : World) (z : Int) : Calls Tryz.prog 87 #[.pointer none, .int .u64 z] W fun e W' => e = .returned (.tuple #[zeroB, .int .i64 16]) ∧ Below W.heap.size W W' := by
  go_enter Tryz.func87, Tryz.ntmps87
  go_wp2_with fail
  refine bodyPost_ret (v := .tuple #[zeroB, .int .i64 16]) (by rw [results_cell_tmp (by rfl)]; go_simp) rfl ⟨rfl, ?_⟩
  exact below_alloc W _
set_option maxRecDepth 100000 in
theorem cell_nil (W : World) (z i : Int) : Calls Tryz.prog 72 #[.pointer none, .int .u64 z, .int .i64 i] W fun e W' => e = .returned (.tuple #[.pointer none, .int .i64 16]) ∧ Below W.heap.size W W' := by
  have HC := Lib.hid (find_nil W z)
  unfold zeroB at HC
  go_enter Tryz.func72, Tryz.ntmps72
  go_wp2_with fail
  refine HC.out.mono ?_
  rintro en w1 ⟨rfl, hb1⟩
  have HB := Lib.hid hb1
  clear hb1
  go_wp2_with fail
  go_ret2
  exact ⟨rfl, HB.out.alloc HB.out.size _⟩
theorem load_nil (W : World) (z i : Int) : Calls Tryz.prog 73 #[.pointer none, .int .u64 z, .int .i64 i] W fun e W' => e = .returned (TwoV 0 16) ∧ Below W.heap.size W W' := by
  have HC := Lib.hid (cell_nil W z i)
  go_enter Tryz.func73, Tryz.ntmps73
  go_wp2_with fail
  refine HC.out.mono ?_
  rintro en w1 ⟨rfl, hb1⟩
  have HB := Lib.hid hb1
  clear hb1
  go_wp2_with fail
  go_ret2
  exact ⟨rfl, HB.out⟩

end Go.Proofs.YtpnfbabiibopnaaGreat
