/-
  The statement StateBack's own function.
-/
import Derived.Test.YtbddicaabjlbjaaAwake7
namespace Go.Proofs.Ytbddicaabjlbjaa
open Go Go.RowKit

/-- An argument: its pairs, whose keys no machine's memory exceeds. -/
def ArgP (W : World) (p : Option Addr) (X : Pairs) : Prop := Sl W p X ∧ ∀ q ∈ X, q.1.size ≤ 281474976710656

theorem diff_short {A B : Pairs} (hA : Rise A) (hB : Rise B) (kA : ∀ q ∈ A, q.1.size ≤ 281474976710656) (kB : ∀ q ∈ B, q.1.size ≤ 281474976710656) : ∀ c ∈ diffD A B, c.key.size ≤ 281474976710656 := fun c hc => by
  rcases good_keys (good A B hA hB) hc with ⟨p, hp, e⟩ | ⟨p, hp, e⟩
  · rw [← e]; exact kA p hp
  · rw [← e]; exact kB p hp

/-- A row of pairs that a call has laid, and that stays. -/
def Kept (W : World) (g cap : Nat) (D : Pairs) : Prop := Lies W g D ∧ g < W.heap.size ∧ D.length ≤ cap
theorem Kept.of {W : World} {base g cap : Nat} {D : Pairs} (h : W.ownsRow base 34 2 (.slice (some ⟨g, 0, none⟩) D.length cap) D.length (flat D)) : Kept W g cap D := ⟨Lies.of_row h, (h.lt g rfl).2, Collected.cap h⟩
theorem Kept.grow {W W' : World} {g cap : Nat} {D : Pairs} (h : Kept W g cap D) (hb : Below W.heap.size W W') : Kept W' g cap D := ⟨h.1.stays (hb.block g h.2.1), Nat.lt_of_lt_of_le h.2.1 hb.size, h.2.2⟩
theorem below_drewN (w : World) (q : Nat) : Below w.heap.size w (w.drewN q) := ⟨rfl, rfl, rfl, Nat.le_refl _, fun _ _ => rfl⟩

set_option maxRecDepth 100000 in
set_option maxHeartbeats 4000000 in
theorem back_short (pa pb : Option Addr) (na nb ca cb : Nat) (X Y : Pairs) (w : World) (hX : ArgP w pa X) (hY : ArgP w pb Y) (hna : X.length = na) (hnb : Y.length = nb) (hla : na ≤ 60) (hlb : nb ≤ 60) :
    Calls Try.prog 4 #[.slice pa na ca, .slice pb nb cb] w (Yes w) := by
  have HX := Lib.hid hX
  have HY := Lib.hid hY
  have HNX := Lib.hid hna
  have HNY := Lib.hid hnb
  have hna1 : ¬ (na : Int) > 60 := by omega
  have hnb1 : ¬ (nb : Int) > 60 := by omega
  obtain ⟨A, hA⟩ : ∃ A, stateD X = A := ⟨_, rfl⟩
  obtain ⟨B, hB⟩ : ∃ B, stateD Y = B := ⟨_, rfl⟩
  have RA := Lib.hid (show Rise A by rw [← hA]; exact stateD_rise X)
  have RB := Lib.hid (show Rise B by rw [← hB]; exact stateD_rise Y)
  have KA := Lib.hid (show ∀ q ∈ A, q.1.size ≤ 281474976710656 by rw [← hA]; exact stateD_keys (P := fun k => k.size ≤ 281474976710656) X hX.2)
  have KB := Lib.hid (show ∀ q ∈ B, q.1.size ≤ 281474976710656 by rw [← hB]; exact stateD_keys (P := fun k => k.size ≤ 281474976710656) Y hY.2)
  have lA : A.length ≤ 60 := by rw [← hA]; exact Nat.le_trans (stateD_length X) (by omega)
  have lB : B.length ≤ 60 := by rw [← hB]; exact Nat.le_trans (stateD_length Y) (by omega)
  have lL := diffD_length A B
  have lM := diffD_length B A
  have HP1 := Lib.hid (patch_back RA.out RB.out)
  have HP2 := Lib.hid (patch_back RB.out RA.out)
  have HP3 := Lib.hid (diff_self RA.out)
  have SA := Lib.hid (diff_short RA.out RB.out KA.out KB.out)
  have SB := Lib.hid (diff_short RB.out RA.out KB.out KA.out)
  have HA := Lib.hid hA
  have HB := Lib.hid hB
  clear hX hY hna hnb hA hB
  go_enter Try.func4, Try.ntmps4
  go_wp2_with fail
  refine (state_any pa na ca X w HX.out.1 HNX.out (by omega)).mono ?_
  rintro e w1 ⟨ga, ka, rfl, hr, hb⟩
  rw [HA.out] at hr ⊢
  have A1 := Lib.hid (Kept.of hr)
  have B1 := Lib.hid hb
  clear hr hb
  obtain ⟨a, ha⟩ : ∃ a, A.length = a := ⟨_, rfl⟩
  have Ha := Lib.hid ha
  rw [ha] at lA lL lM ⊢
  clear ha
  go_wp2_with fail
  refine (state_any pb nb cb Y w1 (HY.out.1.grow B1.out) HNY.out (by omega)).mono ?_
  rintro e w2 ⟨gb, kb, rfl, hr, hb⟩
  rw [HB.out] at hr ⊢
  have A2 := Lib.hid (A1.out.grow hb)
  have C2 := Lib.hid (Kept.of hr)
  have B2 := Lib.hid (B1.out.trans (hb.mono B1.out.size))
  clear hr hb A1 B1
  obtain ⟨b, hb⟩ : ∃ b, B.length = b := ⟨_, rfl⟩
  have Hb := Lib.hid hb
  rw [hb] at lB lL lM ⊢
  clear hb
  go_wp2_with fail
  refine (diff_calls (some ⟨ga, 0, none⟩) (some ⟨gb, 0, none⟩) a b ka kb A B w2 Ha.out Hb.out (by rw [← Ha.out]; exact A2.out.2.2) (by rw [← Hb.out]; exact C2.out.2.2) A2.out.1.sl C2.out.1.sl RA.out RB.out (by omega) (by omega)).mono ?_
  rintro e w3 ⟨v3, rfl, hr, hb⟩
  obtain ⟨p3, c3, rfl, hc3, hs3, _⟩ := Sc.of_row hr
  have A3 := Lib.hid (A2.out.grow hb)
  have C3 := Lib.hid (C2.out.grow hb)
  have B3 := Lib.hid (B2.out.trans (hb.mono B2.out.size))
  have L3 := Lib.hid hs3
  clear hr hb hs3 hc3 A2 C2 B2
  obtain ⟨l, hl⟩ : ∃ l, (diffD A B).length = l := ⟨_, rfl⟩
  have Hl := Lib.hid hl
  rw [hl] at lL ⊢
  clear hl
  go_wp2_with fail
  refine (patch_calls (some ⟨ga, 0, none⟩) p3 a l ka c3 A (diffD A B) w3 Ha.out Hl.out (by rw [← Ha.out]; exact A3.out.2.2) A3.out.1.sl L3.out RA.out (by omega) (by omega) KA.out SA.out).mono ?_
  rw [HP1.out]
  rintro e w4 ⟨g4, c4, rfl, hr, hb⟩
  have A4 := Lib.hid (A3.out.grow hb)
  have C4 := Lib.hid (C3.out.grow hb)
  have P4 := Lib.hid (Kept.of hr)
  have L4 := Lib.hid (L3.out.grow hb)
  have B4 := Lib.hid (B3.out.trans (hb.mono B3.out.size))
  clear hr hb A3 C3 L3 B3
  rw [Hb.out]
  go_wp2_with fail
  have HSm := same_yes g4 c4 gb kb B w4 P4.out.1 C4.out.1 (by have := Hb.out; omega)
  rw [Hb.out] at HSm
  refine HSm.mono ?_
  rintro e w' ⟨rfl, q, rfl⟩
  have hd := below_drewN w4 q
  have A5 := Lib.hid (A4.out.grow hd)
  have C5 := Lib.hid (C4.out.grow hd)
  have L5 := Lib.hid (L4.out.grow hd)
  have B5 := Lib.hid (B4.out.trans (hd.mono B4.out.size))
  obtain ⟨w5, hw5⟩ : ∃ w5, w4.drewN q = w5 := ⟨_, rfl⟩
  rw [hw5] at A5 C5 L5 B5 ⊢
  clear hw5 hd A4 C4 L4 B4 P4 HSm
  go_wp2_with fail
  refine (undo_any (some ⟨ga, 0, none⟩) p3 a l ka c3 A (diffD A B) w5 Ha.out Hl.out (by rw [← Ha.out]; exact A5.out.2.2) A5.out.1.sl L5.out RA.out (by omega) (by omega) KA.out SA.out).mono ?_
  rw [HP1.out]
  rintro e w6 ⟨v6, rfl, hr, hb⟩
  obtain ⟨p6, c6, rfl, hc6, hs6, _⟩ := Sc.of_row hr
  have A6 := Lib.hid (A5.out.grow hb)
  have C6 := Lib.hid (C5.out.grow hb)
  have B6 := Lib.hid (B5.out.trans (hb.mono B5.out.size))
  have M6 := Lib.hid hs6
  clear hr hb hs6 hc6 A5 C5 L5 B5
  obtain ⟨m, hm⟩ : ∃ m, (diffD B A).length = m := ⟨_, rfl⟩
  have Hm := Lib.hid hm
  rw [hm] at lM ⊢
  clear hm
  go_wp2_with fail
  refine (patch_calls (some ⟨gb, 0, none⟩) p6 b m kb c6 B (diffD B A) w6 Hb.out Hm.out (by rw [← Hb.out]; exact C6.out.2.2) C6.out.1.sl M6.out RB.out (by omega) (by omega) KB.out SB.out).mono ?_
  rw [HP2.out]
  rintro e w7 ⟨g7, c7, rfl, hr, hb⟩
  have A7 := Lib.hid (A6.out.grow hb)
  have P7 := Lib.hid (Kept.of hr)
  have B7 := Lib.hid (B6.out.trans (hb.mono B6.out.size))
  clear hr hb A6 C6 M6 B6
  rw [Ha.out]
  go_wp2_with fail
  have HSm := same_yes g7 c7 ga ka A w7 P7.out.1 A7.out.1 (by have := Ha.out; omega)
  rw [Ha.out] at HSm
  refine HSm.mono ?_
  rintro e w' ⟨rfl, q, rfl⟩
  have hd := below_drewN w7 q
  have A8 := Lib.hid (A7.out.grow hd)
  have B8 := Lib.hid (B7.out.trans (hd.mono B7.out.size))
  obtain ⟨w8, hw8⟩ : ∃ w8, w7.drewN q = w8 := ⟨_, rfl⟩
  rw [hw8] at A8 B8 ⊢
  clear hw8 hd A7 B7 P7 HSm
  go_wp2_with fail
  refine (diff_calls (some ⟨ga, 0, none⟩) (some ⟨ga, 0, none⟩) a a ka ka A A w8 Ha.out Ha.out (by rw [← Ha.out]; exact A8.out.2.2) (by rw [← Ha.out]; exact A8.out.2.2) A8.out.1.sl A8.out.1.sl RA.out RA.out (by omega) (by omega)).mono ?_
  rw [HP3.out]
  rintro e w9 ⟨v9, rfl, hr, hb⟩
  obtain ⟨p9, c9, rfl, hc9, hs9, _⟩ := Sc.of_row hr
  have B9 := Lib.hid (B8.out.trans (hb.mono B8.out.size))
  clear hr hb hs9 hc9 A8 B8
  rw [show ([] : List ChD).length = 0 from rfl]
  go_wp2_with fail
  refine (awake_any w9).mono ?_
  rintro e w10 ⟨rfl, hb⟩
  have B10 := Lib.hid (B9.out.trans (hb.mono B9.out.size))
  clear hb B9
  go_wp2_with fail
  go_ret
  exact ⟨rfl, B10.out⟩

set_option maxRecDepth 100000 in
set_option maxHeartbeats 4000000 in
theorem back_any (pa pb : Option Addr) (na nb ca cb : Nat) (X Y : Pairs) (w : World) (hX : ArgP w pa X) (hY : ArgP w pb Y) (hna : X.length = na) (hnb : Y.length = nb) (ha63 : na ≤ 9223372036854775807) (hb63 : nb ≤ 9223372036854775807) :
    Calls Try.prog 4 #[.slice pa na ca, .slice pb nb cb] w (Yes w) := by
  by_cases h1 : 60 < na
  · have h1z : (na : Int) > 60 := by omega
    clear hX hY hna hnb
    go_enter Try.func4, Try.ntmps4
    go_wp2_with fail
    refine (awake_any w).mono ?_
    rintro e w1 ⟨rfl, hb⟩
    have HB := Lib.hid hb
    clear hb
    go_wp2_with fail
    go_ret
    exact ⟨rfl, HB.out⟩
  · by_cases h2 : 60 < nb
    · have h1z : ¬ (na : Int) > 60 := by omega
      have h2z : (nb : Int) > 60 := by omega
      clear hX hY hna hnb
      go_enter Try.func4, Try.ntmps4
      go_wp2_with fail
      refine (awake_any w).mono ?_
      rintro e w1 ⟨rfl, hb⟩
      have HB := Lib.hid hb
      clear hb
      go_wp2_with fail
      go_ret
      exact ⟨rfl, HB.out⟩
    · exact back_short pa pb na nb ca cb X Y w hX hY hna hnb (by omega) (by omega)

end Go.Proofs.Ytbddicaabjlbjaa
