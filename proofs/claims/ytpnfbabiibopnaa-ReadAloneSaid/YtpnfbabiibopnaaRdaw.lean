/-
  A read beside a heap: New, Alone, Result; the chapter's example.
-/
import Derived.Test.YtpnfbabiibopnaaQ13
import Derived.Test.YtpnfbabiibopnaaRdlay
namespace Go.Proofs.Ytpnfbabiibopnaa
open Go Go.RowKit
attribute [local go_sem ↓] Go.wp_at_zero Go.wp_at_succ

section
variable {W X Y : World} {a p s q v x th : Int} {B hp r m : Nat} {D D' : HpD} {ks : List (Nat × Obj)} {E : RdD} {G : Nat → Int} {K : Shelves} {V : Int → Nat → VsnD} {N : Int → Nat} {key : ByteArray}
def RnewQ (W : World) (a p s q v x : Int) (B hp : Nat) (D : HpD) (ks : List (Nat × Obj)) (m : Nat) (E : RdD) (e : Ending) (Y : World) : Prop := ∃ r, e = .returned (.pointer (some ⟨r, 0, none⟩)) ∧ Rnf RdM W a p s q v x B hp D ks r m E Y
theorem rnd_rnew (h : Rnd W a p s q v x B hp D ks X) (hF : FewD D m) (hr : rightC a p s q v = true) (hth : 0 ≤ th) (hk : key.size ≤ 281474976710656) :
    Calls Try.prog 12 #[cfV a p s q v x, .int .i64 th, .string key] X (RnewQ W a p s q v x B hp D ks m (newR a p s q v x th key)) := by
  refine (rnew_any X a p s q v x th key hr hth hk).mono fun e Y hE => ?_
  obtain ⟨r, rp, rf, rfl, hI, hb⟩ := hE
  have hs : B ≤ X.heap.size := by obtain ⟨f, h1, _⟩ := h.hh; exact h1.size
  exact ⟨r, rfl, h.start (M := RdM) (fr := footR (newR a p s q v x th key) r rp rf none) hF (show RdAt Y B r _ _ from ⟨rp, rf, none, hI.weaken hs, rfl⟩) (fun j hj => (hI.lt j hj).2) hb⟩
theorem rnf_rrun (h : Rnf RdM W a p s q v x B hp D ks r m (newR a p s q v x th key) X) (l : Nat) (hA : AloneR a p s q v x th key D G K V N l E D') (hl : l ≤ 1000000) (hlm : l ≤ m) :
    Calls Try.prog 13 #[.pointer (some ⟨hp, 0, none⟩), .iface 38 (.pointer (some ⟨r, 0, none⟩)), .int .i64 (l : Int)] X
      (fun e Y => e = .returned (.tuple #[.int .i64 ((actsK K V N (newF a p s q v x key) (G 0) : Nat) : Int), .bool true]) ∧ Rnf RdM W a p s q v x B hp D' ks r (m - l) E Y) := by
  refine (show Calls Try.prog 13 #[.pointer (some ⟨hp, 0, none⟩), .iface 38 (.pointer (some ⟨r, 0, none⟩)), .int .i64 (l : Int)] X _ from rnf_alone h l hl hlm).mono fun e Y he => ?_
  obtain ⟨rfl, h2⟩ := he
  rw [hA.st] at h2 ⊢
  rw [hA.to]
  exact ⟨by show Ending.returned (.tuple #[_, .bool (!(nextR E).isSome)]) = _; rw [nextR_5 hA.done]; rfl, h2⟩
/-- A routine that rests stays as it is. -/
theorem Rnf.rrest (h : Rnf RdM W a p s q v x B hp D ks r m E X) : ∃ rp rf rc, Rnd W a p s q v x B hp D ((r, rdO E rp rf rc) :: ks) X := by
  obtain ⟨f, h1, h2⟩ := h.pl
  obtain ⟨fh, fr, h3, ⟨rp, rf, rc, h4, hfr⟩, h5, rfl, h6⟩ := h1
  have hB := h.hB
  have hb := h4.base
  refine ⟨rp, rf, rc, h.cf, h.lo, hB, fh, h3, fun u hu => ?_⟩
  rcases List.mem_cons.1 hu with rfl | hu
  · exact ⟨h4.own, by show W.heap.size < r; omega, fun hf => h5 _ hf (by rw [hfr]; exact .inl rfl)⟩
  · exact ⟨(h2 u hu).1, (h2 u hu).2.1, fun hf => (h2 u hu).2.2 (.inl hf)⟩
theorem rnd_rres {rp rf : Nat} {rc : Option Addr} (h : Rnd W a p s q v x B hp D ks X) (hm : (r, rdO E rp rf rc) ∈ ks) (h5 : E.part = 5) : Calls Try.prog 14 #[.pointer (some ⟨r, 0, none⟩)] X fun e Y => e = .returned (.tuple #[toldV E.code E.took E.val E.mark, .bool true]) ∧ Rnd W a p s q v x B hp D ks Y :=
  (rres_done X (h.kept hm) h5).mono fun _ _ he => ⟨he.1, h.below he.2⟩
end

/-! ### the example -/
theorem rda_right : rightC 2 2 3 2 1 = true := by decide
theorem seen_one (V : Nat → VsnD) (e : Int) (y : VsnD) (h : V 0 = y) (he : y.ep ≤ e) : seenC V e 1 = (y.has, if y.has then y.text else ⟨#[]⟩, y.block) ∧ actsC V e 1 = if y.has then 3 else 2 := by
  have hl : lastAt V e 1 = some 0 := by unfold lastAt; rw [h, if_pos he]
  have hp : passN V e 1 = 0 := by unfold passN; rw [hl]
  refine ⟨by unfold seenC; rw [hl]; (try simp only [h]), by unfold actsC; rw [hl, hp]; (try simp only [h]); (try simp)⟩

set_option maxRecDepth 100000 in
set_option maxHeartbeats 4000000 in
theorem rawake_any (W : World) : Calls Try.prog 6 #[] W (Says true W) := by
  have hL0 := Laid.start rda_right 0 (fun _ _ => ⟨0, false, ⟨#[]⟩, 0⟩)
  obtain ⟨d, hd⟩ : ∃ d, newF 2 2 3 2 1 0 ⟨#[107]⟩ = d := ⟨_, rfl⟩
  have hds : d.s = 3 := by rw [← hd]; rfl
  have hE0 := findK_empty (d := d) (by omega)
  have a0 : actsK (fun _ => none) (fun _ _ => ⟨0, false, ⟨#[]⟩, 0⟩) (fun _ => 0) d 0 = 5 := by unfold actsK; rw [hE0.1, hE0.2.2, if_neg (by decide)]
  have r0 : readK (fun _ => none) (fun _ _ => ⟨0, false, ⟨#[]⟩, 0⟩) (fun _ => 0) d 0 = (false, ⟨#[]⟩) := by unfold readK; rw [hE0.1, if_neg (by decide)]
  obtain ⟨E1, D1, hA1⟩ := read_alone (th := 0) (key := ⟨#[107]⟩) hL0 (fun _ _ _ => rfl) (fun _ => by show 0 ≤ 1000; omega) 99 (by rw [hd, a0]; omega)
  have hA1c := hA1
  have HA1 := Lib.hid hA1
  have hto : actsK (fun _ => none) (fun _ _ => ⟨0, false, ⟨#[]⟩, 0⟩) (fun _ => 0) (newF 2 2 3 2 1 0 ⟨#[107]⟩) ((fun _ => 0 : Nat → Int) 0) = 5 := by rw [hd]; exact a0
  have hz : (sizeW 2 2 3 2 1).toNat = 13 := by decide
  have hlen1 : D1.L.length = 1 := by rw [hA1.oth.1, hz]; rfl
  have ht1 : E1.took = false := by rw [hA1.took]; rw [hd]; show (readK _ _ _ d 0).1 = false; rw [r0]
  have hm1 := hA1.mark
  have hd1 := hA1.done
  have HE1 := Lib.hid (And.intro hto (And.intro hlen1 hd1))
  have HSh := Lib.hid (show (seenF (fun _ => none) (newF 2 2 3 2 1 0 ⟨#[107]⟩)).1.k = 2 ∧ (seenF (fun _ => none) (newF 2 2 3 2 1 0 ⟨#[107]⟩)).1.sh = d.way 0 from by rw [hd]; exact ⟨hE0.1, hE0.2.1⟩)
  obtain ⟨tk1, htk1⟩ : ∃ t, E1.took = t := ⟨_, rfl⟩
  have HD := Lib.hid hd
  have HT1 := Lib.hid (And.intro ht1 hm1)
  clear hL0 hd hds hE0 a0 r0 hA1 hA1c hto hlen1 ht1 hm1 hd1 hz htk1
  go_enter Try.func6, Try.ntmps6
  go_wp2_with fail
  refine (tiny_any _).mono ?_
  rintro en w1 ⟨rfl, hb⟩
  have B1 := Lib.hid hb
  clear hb
  have X1 := Lib.hid (BoxC.start w1 2 2 3 2 1 0)
  obtain ⟨c0, c1, c2, c3, c4, c5⟩ := X1.out.six
  go_wp2_with fail
  refine (field_any _ 2 2 3 2 1 0 rda_right).mono ?_
  rintro en w2 ⟨B, hp, f2, rfl, hB, h2, hb⟩
  have R2 := Lib.hid (rnd_begin (X1.out.below hb) h2 (Nat.lt_of_lt_of_le (by simp) hB))
  clear h2 hb hB c0 c1 c2 c3 c4 c5 X1
  obtain ⟨c0, c1, c2, c3, c4, c5⟩ := R2.out.six
  go_wp2_with fail
  refine (rnd_rnew R2.out (m := 1000) ((Ctl.start _).few (by omega)) rda_right (th := 0) (by omega) (key := ⟨#[107]⟩) (by decide)).mono ?_
  rintro en w3 ⟨r, rfl, h3⟩
  have R3 := Lib.hid h3
  clear h3 R2 c0 c1 c2 c3 c4 c5
  go_wp2_with fail
  refine (rnf_rrun R3.out 99 HA1.out (by omega) (by omega)).mono ?_
  rintro en w4 ⟨rfl, h4⟩
  rw [HE1.out.1]
  obtain ⟨rp, rf, rc, h4⟩ := h4.rrest
  have R4 := Lib.hid h4
  clear h4 R3
  go_wp2_with fail
  refine (rnd_rres R4.out (List.mem_cons_self ..) HE1.out.2.2).mono ?_
  rintro en w5 ⟨rfl, h5⟩
  rw [HT1.out.1, HT1.out.2]
  have R5 := Lib.hid (h5.add (toldO E1.code false E1.val 3))
  clear h5 R4
  obtain ⟨c0, c1, c2, c3, c4, c5⟩ := R5.out.six
  go_wp2_with fail
  obtain ⟨g, hg⟩ : ∃ g, w5.heap.size = g := ⟨_, rfl⟩
  rw [hg] at R5 ⊢
  generalize w5.alloc (toldO E1.code false E1.val 3) = w6 at R5 c0 c1 c2 c3 c4 c5 ⊢
  clear hg
  refine (rnd_lay R5.out HA1.out.laid (by rw [HE1.out.2.1]; omega) (ep := 0) (by omega) (key := ⟨#[107]⟩) (by decide) true (val := ⟨#[118]⟩) (by decide)).mono ?_
  intro en w7 hLy
  rcases hLy with ⟨-, -, hbad⟩ | ⟨rfl, D2, G2, sh, bl, h7, hsh, hin, -, hL2, hG2, hl2, -⟩
  · rw [HSh.out.1] at hbad; cases hbad
  have R7 := Lib.hid h7
  rw [HSh.out.2] at hsh
  have hA2 : ∃ E2 D3, AloneR 2 2 3 2 1 0 1 ⟨#[107]⟩ D2 G2 (Shelves.put (fun _ => none) sh (⟨#[107]⟩ : ByteArray).toList) (pushV (fun _ _ => ⟨0, false, ⟨#[]⟩, 0⟩) (fun _ => 0) sh ⟨0, true, putT true ⟨#[118]⟩, bl⟩) (pushN (fun _ => 0) sh) 99 E2 D3 ∧ E2.took = true ∧ E2.val = ⟨#[118]⟩ := by
    have hd := HD.out
    have hds : d.s = 3 := by rw [← hd]; rfl
    have hdk : d.key = ⟨#[107]⟩ := by rw [← hd]; rfl
    have hF := findK_first (K := Shelves.put (fun _ => none) sh (⟨#[107]⟩ : ByteArray).toList) (d := d) (by omega) (by rw [← hsh, hdk]; unfold Shelves.put; rw [if_pos rfl])
    rw [← hsh] at hF
    have eN : pushN (fun _ => 0) sh sh = 1 := if_pos rfl
    have hs1 := seen_one (pushV (fun _ _ => ⟨0, false, ⟨#[]⟩, 0⟩) (fun _ => 0) sh ⟨0, true, putT true ⟨#[118]⟩, bl⟩ sh) 0 ⟨0, true, putT true ⟨#[118]⟩, bl⟩ (if_pos ⟨rfl, rfl⟩) (Int.le_refl _)
    have hG0 : G2 0 = 0 := hG2 0 (by omega)
    have hac : actsK (Shelves.put (fun _ => none) sh (⟨#[107]⟩ : ByteArray).toList) (pushV (fun _ _ => ⟨0, false, ⟨#[]⟩, 0⟩) (fun _ => 0) sh ⟨0, true, putT true ⟨#[118]⟩, bl⟩) (pushN (fun _ => 0) sh) d 0 = 10 := by
      unfold actsK; rw [hF.1, hF.2.2, if_pos rfl, hF.2.1, eN, hs1.2]; rfl
    have hrk : readK (Shelves.put (fun _ => none) sh (⟨#[107]⟩ : ByteArray).toList) (pushV (fun _ _ => ⟨0, false, ⟨#[]⟩, 0⟩) (fun _ => 0) sh ⟨0, true, putT true ⟨#[118]⟩, bl⟩) (pushN (fun _ => 0) sh) d 0 = (true, ⟨#[118]⟩) := by
      unfold readK; rw [hF.1, if_pos rfl, hF.2.1, eN, hs1.1]; rfl
    obtain ⟨E2, D3, hA⟩ := read_alone (th := 1) (key := ⟨#[107]⟩) hL2 (fun i h3 hi => (hG2 i hi)) (fun y => by show (if y = sh then 0 + 1 else 0) ≤ 1000; split <;> omega) 99 (by rw [hd, hG0, hac]; omega)
    exact ⟨E2, D3, hA, by rw [hA.took, hd, hG0, hrk], by rw [hA.val, hd, hG0, hrk]⟩
  obtain ⟨E2, D3, hA2, ht2, hv2⟩ := hA2
  have HA2 := Lib.hid hA2
  have HT2 := Lib.hid (And.intro ht2 (And.intro hv2 hA2.done))
  have HF2 := Lib.hid (hL2.ctl.few (m := 1000) (by omega))
  clear h7 hsh hin hL2 hG2 hl2 hA2 ht2 hv2 R5 c0 c1 c2 c3 c4 c5
  obtain ⟨c0, c1, c2, c3, c4, c5⟩ := R7.out.six
  go_wp2_with fail
  refine (rnd_rnew R7.out (m := 1000) HF2.out rda_right (th := 1) (by omega) (key := ⟨#[107]⟩) (by decide)).mono ?_
  rintro en w8 ⟨r2, rfl, h8⟩
  have R8 := Lib.hid h8
  clear h8 R7 c0 c1 c2 c3 c4 c5
  go_wp2_with fail
  refine (rnf_rrun R8.out 99 HA2.out (by omega) (by omega)).mono ?_
  rintro en w9 ⟨rfl, h9⟩
  generalize ((actsK _ _ _ _ _ : Nat) : Int) = nn
  obtain ⟨rp2, rf2, rc2, h9⟩ := h9.rrest
  have R9 := Lib.hid h9
  clear h9 R8
  go_wp2_with fail
  refine (rnd_rres R9.out (List.mem_cons_self ..) HT2.out.2.2).mono ?_
  rintro en w10 ⟨rfl, h10⟩
  rw [HT2.out.1, HT2.out.2.1]
  have R10 := Lib.hid (h10.add (toldO E2.code true ⟨#[118]⟩ E2.mark))
  clear h10 R9
  go_wp2_with fail
  obtain ⟨g2, hg2⟩ : ∃ g, w10.heap.size = g := ⟨_, rfl⟩
  rw [hg2] at R10 ⊢
  generalize w10.alloc (toldO E2.code true ⟨#[118]⟩ E2.mark) = w11 at R10 ⊢
  clear hg2
  refine (ract_nil _).mono ?_
  rintro en w12 ⟨rfl, hb⟩
  have R12 := Lib.hid (R10.out.below (hb.trans ((below_alloc w12 (actO noAct)).mono hb.size)))
  clear hb R10
  obtain ⟨⟨u0, u1, u2, u3, u4⟩, u5, u6, u7, u8, u9⟩ := told_at (R12.out.kept (List.mem_cons_self ..))
  obtain ⟨⟨v0, v1, v2, v3, v4⟩, v5, v6, v7, v8, v9⟩ := told_at (R12.out.kept (List.mem_cons_of_mem _ (List.mem_cons_of_mem _ (List.mem_cons_self ..))))
  obtain ⟨c0, c1, c2, c3, c4, c5⟩ := R12.out.six
  go_wp2_with fail
  refine (rmost_any _ 2 2 3 2 1 0 0 rda_right (by omega)).mono ?_
  rintro en w13 ⟨rfl, hb⟩
  have HB := Lib.hid (B1.out.trans ((R12.out.below hb).lo.mono B1.out.size))
  clear hb
  go_wp2_with fail
  go_ret
  exact Says.mk rfl HB.out

end Go.Proofs.Ytpnfbabiibopnaa
