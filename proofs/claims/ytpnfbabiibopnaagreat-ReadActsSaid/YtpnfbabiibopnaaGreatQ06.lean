/-
  Actdo, Actready, Heldo, in one text.
-/
import Derived.Test.YtpnfbabiibopnaaGreatQ05
import Derived.Deep.QuietTactic
import Derived.BigQuiet
import Derived.StillTail
import Derived.OrdersHeld
/-! Do, on a heap, at every act. -/
namespace Go.Proofs.YtpnfbabiibopnaaGreat
open Go Go.RowKit
attribute [local go_sem ↓] Go.wp_at_zero Go.wp_at_succ

theorem right_kind {x : ActD} (h : rightA x = true) : x.kind = 0 ∨ x.kind = 1 ∨ x.kind = 2 ∨ x.kind = 3 ∨ x.kind = 4 ∨ x.kind = 5 ∨ x.kind = 6 ∨ x.kind = 7 ∨ x.kind = 8 ∨ x.kind = 9 ∨ x.kind = 10 := by
  by_cases hk : x.kind = 0 ∨ x.kind = 1 ∨ x.kind = 2 ∨ x.kind = 3 ∨ x.kind = 4 ∨ x.kind = 5 ∨ x.kind = 6 ∨ x.kind = 7 ∨ x.kind = 8 ∨ x.kind = 9 ∨ x.kind = 10
  · exact hk
  · exfalso
    have hr : restA x = x := by
      unfold restA
      rw [if_neg (by omega), if_neg (by omega), if_neg (by omega), if_neg (by omega), if_neg (by omega), if_neg (by omega)]
    have hz : zeroA x = false := by
      unfold zeroA
      have : (x.kind == 0) = false := by rw [beq_eq_false_iff_ne]; omega
      rw [this]; rfl
    unfold rightA at h
    rw [hr, hz] at h
    simp at h

/-- The heap lies at p still, whatever else turns. -/
abbrev HpH (B p : Nat) : World → HpD → (Nat → Prop) → Prop := fun X D f => Hp X B p D f

/-- An act of one kind, done. -/
def DoneAt (B p : Nat) (D : HpD) (f : Nat → Prop) (W : World) (x : ActD) : Prop :=
  Calls Tryz.prog 85 #[.pointer (some ⟨p, 0, none⟩), actV x.kind x.block x.cell x.old x.new x.text] W (HpR B p f W (gotV (actW D x) (actT D x)) (actN D x))
section
variable {B p : Nat} {D : HpD} {f : Nat → Prop} {W : World}

set_option maxRecDepth 100000 in
set_option maxHeartbeats 4000000 in
theorem do_0 (h : Hp W B p D f) (hf : D.faults < 1000000) (hl : D.L.length < 1000000) (b : Nat) (c o n : Int) (t : ByteArray) (hx2 : b < 18446744073709551616) (hx6 : t.size ≤ 281474976710656) (hr : rightA ⟨0, b, c, o, n, t⟩ = true) : DoneAt B p D f W ⟨0, b, c, o, n, t⟩ := by
  have HS := Lib.hid (Doi.start (x := ⟨0, b, c, o, n, t⟩) (H := HpH B p) h h.lt (fun hA hb => Hp.below hA hb))
  have HR := Lib.hid (fun X => right_any 0 b c o n t X)
  rw [hr] at HR
  have HF := Lib.hid (And.intro hf (And.intro hl (And.intro hx2 hx6)))
  unfold DoneAt
  clear h hf hl hx2 hx6 hr
  go_enter Tryz.func85, Tryz.ntmps85
  go_wp2_with fail
  refine (HR.out _).mono ?_
  rintro en w1 ⟨rfl, hb⟩
  have H1 := Lib.hid (HS.out.below (fun hA hb => Hp.below hA hb) hb)
  clear hb
  obtain ⟨k0, -, -, -, -, -, r0, r1, rf0, rf1, g0, g1, gf0, gf1⟩ := H1.out.cells
  simp only at k0
  go_wp2_with fail
  refine bodyPost_ret (v := gotV 0 ⟨#[]⟩) (by rw [results_cell1 (by rfl)]; go_simp) rfl ?_
  have H3 := H1.out.done (fun hA hs => Hp.stays hA hs)
  exact ⟨f, rfl, (H3 _ _).1, (H3 _ _).2⟩

set_option maxRecDepth 100000 in
set_option maxHeartbeats 4000000 in
theorem do_1 (h : Hp W B p D f) (hf : D.faults < 1000000) (hl : D.L.length < 1000000) (b : Nat) (c o n : Int) (t : ByteArray) (hx2 : b < 18446744073709551616) (hx6 : t.size ≤ 281474976710656) (hr : rightA ⟨1, b, c, o, n, t⟩ = true) : DoneAt B p D f W ⟨1, b, c, o, n, t⟩ := by
  have HS := Lib.hid (Doi.start (x := ⟨1, b, c, o, n, t⟩) (H := HpH B p) h h.lt (fun hA hb => Hp.below hA hb))
  have HR := Lib.hid (fun X => right_any 1 b c o n t X)
  rw [hr] at HR
  have HF := Lib.hid (And.intro hf (And.intro hl (And.intro hx2 hx6)))
  unfold DoneAt
  clear h hf hl hx2 hx6 hr
  go_enter Tryz.func85, Tryz.ntmps85
  go_wp2_with fail
  refine (HR.out _).mono ?_
  rintro en w1 ⟨rfl, hb⟩
  have H1 := Lib.hid (HS.out.below (fun hA hb => Hp.below hA hb) hb)
  clear hb
  obtain ⟨k0, k1, k2, k3, k4, k5, -, -, -, -, -, -, -, -⟩ := H1.out.cells
  simp only at k0 k1 k2 k3 k4 k5
  go_wp2_with fail
  refine (load_any _ H1.out.hp HF.out.1 b HF.out.2.2.1 c).mono ?_
  rintro en w2 ⟨f1, rfl, h1, s1⟩
  have H2 := Lib.hid (H1.out.turn h1 s1 h1.lt)
  clear h1 s1 k0 k1 k2 k3 k4 k5
  obtain ⟨-, -, -, -, -, -, r0, r1, rf0, rf1, g0, g1, gf0, gf1⟩ := H2.out.cells
  go_wp2_with fail
  refine bodyPost_ret (v := gotV (loadV D b c) ⟨#[]⟩) (by rw [results_cell1 (by rfl)]; go_simp) rfl ?_
  have H3 := (H2.out.word (fun hA hs => Hp.stays hA hs) (loadV D b c)).done (fun hA hs => Hp.stays hA hs)
  exact ⟨f1, rfl, (H3 _ _).1, (H3 _ _).2⟩

set_option maxRecDepth 100000 in
set_option maxHeartbeats 4000000 in
theorem do_2 (h : Hp W B p D f) (hf : D.faults < 1000000) (hl : D.L.length < 1000000) (b : Nat) (c o n : Int) (t : ByteArray) (hx2 : b < 18446744073709551616) (hx6 : t.size ≤ 281474976710656) (hr : rightA ⟨2, b, c, o, n, t⟩ = true) : DoneAt B p D f W ⟨2, b, c, o, n, t⟩ := by
  have HS := Lib.hid (Doi.start (x := ⟨2, b, c, o, n, t⟩) (H := HpH B p) h h.lt (fun hA hb => Hp.below hA hb))
  have HR := Lib.hid (fun X => right_any 2 b c o n t X)
  rw [hr] at HR
  have HF := Lib.hid (And.intro hf (And.intro hl (And.intro hx2 hx6)))
  unfold DoneAt
  clear h hf hl hx2 hx6 hr
  go_enter Tryz.func85, Tryz.ntmps85
  go_wp2_with fail
  refine (HR.out _).mono ?_
  rintro en w1 ⟨rfl, hb⟩
  have H1 := Lib.hid (HS.out.below (fun hA hb => Hp.below hA hb) hb)
  clear hb
  obtain ⟨k0, k1, k2, k3, k4, k5, -, -, -, -, -, -, -, -⟩ := H1.out.cells
  simp only at k0 k1 k2 k3 k4 k5
  go_wp2_with fail
  refine (store_any _ H1.out.hp HF.out.1 b HF.out.2.2.1 c n).mono ?_
  rintro en w2 ⟨f1, rfl, h1, s1⟩
  have H2 := Lib.hid (H1.out.turn h1 s1 h1.lt)
  clear h1 s1 k0 k1 k2 k3 k4 k5
  obtain ⟨-, -, -, -, -, -, r0, r1, rf0, rf1, g0, g1, gf0, gf1⟩ := H2.out.cells
  go_wp2_with fail
  refine bodyPost_ret (v := gotV 0 ⟨#[]⟩) (by rw [results_cell1 (by rfl)]; go_simp) rfl ?_
  have H3 := H2.out.done (fun hA hs => Hp.stays hA hs)
  exact ⟨f1, rfl, (H3 _ _).1, (H3 _ _).2⟩

set_option maxRecDepth 100000 in
set_option maxHeartbeats 4000000 in
theorem do_3 (h : Hp W B p D f) (hf : D.faults < 1000000) (hl : D.L.length < 1000000) (b : Nat) (c o n : Int) (t : ByteArray) (hx2 : b < 18446744073709551616) (hx6 : t.size ≤ 281474976710656) (hr : rightA ⟨3, b, c, o, n, t⟩ = true) : DoneAt B p D f W ⟨3, b, c, o, n, t⟩ := by
  have HS := Lib.hid (Doi.start (x := ⟨3, b, c, o, n, t⟩) (H := HpH B p) h h.lt (fun hA hb => Hp.below hA hb))
  have HR := Lib.hid (fun X => right_any 3 b c o n t X)
  rw [hr] at HR
  have HF := Lib.hid (And.intro hf (And.intro hl (And.intro hx2 hx6)))
  unfold DoneAt
  clear h hf hl hx2 hx6 hr
  go_enter Tryz.func85, Tryz.ntmps85
  go_wp2_with fail
  refine (HR.out _).mono ?_
  rintro en w1 ⟨rfl, hb⟩
  have H1 := Lib.hid (HS.out.below (fun hA hb => Hp.below hA hb) hb)
  clear hb
  obtain ⟨k0, k1, k2, k3, k4, k5, -, -, -, -, -, -, -, -⟩ := H1.out.cells
  simp only at k0 k1 k2 k3 k4 k5
  go_wp2_with fail
  refine (swap_any _ H1.out.hp HF.out.1 b HF.out.2.2.1 c o n).mono ?_
  rintro en w2 ⟨f1, rfl, h1, s1⟩
  have H2 := Lib.hid (H1.out.turn h1 s1 h1.lt)
  clear h1 s1 k0 k1 k2 k3 k4 k5
  obtain ⟨-, -, -, -, -, -, r0, r1, rf0, rf1, g0, g1, gf0, gf1⟩ := H2.out.cells
  go_wp2_with fail
  refine bodyPost_ret (v := gotV (loadV D b c) ⟨#[]⟩) (by rw [results_cell1 (by rfl)]; go_simp) rfl ?_
  have H3 := (H2.out.word (fun hA hs => Hp.stays hA hs) (loadV D b c)).done (fun hA hs => Hp.stays hA hs)
  exact ⟨f1, rfl, (H3 _ _).1, (H3 _ _).2⟩

set_option maxRecDepth 100000 in
set_option maxHeartbeats 4000000 in
theorem do_4 (h : Hp W B p D f) (hf : D.faults < 1000000) (hl : D.L.length < 1000000) (b : Nat) (c o n : Int) (t : ByteArray) (hx2 : b < 18446744073709551616) (hx6 : t.size ≤ 281474976710656) (hr : rightA ⟨4, b, c, o, n, t⟩ = true) : DoneAt B p D f W ⟨4, b, c, o, n, t⟩ := by
  have HS := Lib.hid (Doi.start (x := ⟨4, b, c, o, n, t⟩) (H := HpH B p) h h.lt (fun hA hb => Hp.below hA hb))
  have HR := Lib.hid (fun X => right_any 4 b c o n t X)
  rw [hr] at HR
  have HF := Lib.hid (And.intro hf (And.intro hl (And.intro hx2 hx6)))
  unfold DoneAt
  clear h hf hl hx2 hx6 hr
  go_enter Tryz.func85, Tryz.ntmps85
  go_wp2_with fail
  refine (HR.out _).mono ?_
  rintro en w1 ⟨rfl, hb⟩
  have H1 := Lib.hid (HS.out.below (fun hA hb => Hp.below hA hb) hb)
  clear hb
  obtain ⟨k0, k1, k2, k3, k4, k5, -, -, -, -, -, -, -, -⟩ := H1.out.cells
  simp only at k0 k1 k2 k3 k4 k5
  go_wp2_with fail
  refine (bump_any _ H1.out.hp HF.out.1 b HF.out.2.2.1 c n).mono ?_
  rintro en w2 ⟨f1, rfl, h1, s1⟩
  have H2 := Lib.hid (H1.out.turn h1 s1 h1.lt)
  clear h1 s1 k0 k1 k2 k3 k4 k5
  obtain ⟨-, -, -, -, -, -, r0, r1, rf0, rf1, g0, g1, gf0, gf1⟩ := H2.out.cells
  go_wp2_with fail
  refine bodyPost_ret (v := gotV (loadV D b c) ⟨#[]⟩) (by rw [results_cell1 (by rfl)]; go_simp) rfl ?_
  have H3 := (H2.out.word (fun hA hs => Hp.stays hA hs) (loadV D b c)).done (fun hA hs => Hp.stays hA hs)
  exact ⟨f1, rfl, (H3 _ _).1, (H3 _ _).2⟩

set_option maxRecDepth 100000 in
set_option maxHeartbeats 4000000 in
theorem do_5 (h : Hp W B p D f) (hf : D.faults < 1000000) (hl : D.L.length < 1000000) (b : Nat) (c o n : Int) (t : ByteArray) (hx2 : b < 18446744073709551616) (hx6 : t.size ≤ 281474976710656) (hr : rightA ⟨5, b, c, o, n, t⟩ = true) : DoneAt B p D f W ⟨5, b, c, o, n, t⟩ := by
  have HS := Lib.hid (Doi.start (x := ⟨5, b, c, o, n, t⟩) (H := HpH B p) h h.lt (fun hA hb => Hp.below hA hb))
  have HR := Lib.hid (fun X => right_any 5 b c o n t X)
  rw [hr] at HR
  have HF := Lib.hid (And.intro hf (And.intro hl (And.intro hx2 hx6)))
  unfold DoneAt
  clear h hf hl hx2 hx6 hr
  go_enter Tryz.func85, Tryz.ntmps85
  go_wp2_with fail
  refine (HR.out _).mono ?_
  rintro en w1 ⟨rfl, hb⟩
  have H1 := Lib.hid (HS.out.below (fun hA hb => Hp.below hA hb) hb)
  clear hb
  obtain ⟨k0, k1, k2, k3, k4, k5, -, -, -, -, -, -, -, -⟩ := H1.out.cells
  simp only at k0 k1 k2 k3 k4 k5
  go_wp2_with fail
  refine (make_all _ H1.out.hp HF.out.2.1 c t HF.out.2.2.2).mono ?_
  rintro en w2 ⟨f1, rfl, h1, s1⟩
  have H2 := Lib.hid (H1.out.turn h1 s1 h1.lt)
  clear h1 s1 k0 k1 k2 k3 k4 k5
  obtain ⟨-, -, -, -, -, -, r0, r1, rf0, rf1, g0, g1, gf0, gf1⟩ := H2.out.cells
  go_wp2_with fail
  refine bodyPost_ret (v := gotV (makeV D c) ⟨#[]⟩) (by rw [results_cell1 (by rfl)]; go_simp) rfl ?_
  have H3 := (H2.out.word (fun hA hs => Hp.stays hA hs) (makeV D c)).done (fun hA hs => Hp.stays hA hs)
  exact ⟨f1, rfl, (H3 _ _).1, (H3 _ _).2⟩

set_option maxRecDepth 100000 in
set_option maxHeartbeats 4000000 in
theorem do_6 (h : Hp W B p D f) (hf : D.faults < 1000000) (hl : D.L.length < 1000000) (b : Nat) (c o n : Int) (t : ByteArray) (hx2 : b < 18446744073709551616) (hx6 : t.size ≤ 281474976710656) (hr : rightA ⟨6, b, c, o, n, t⟩ = true) : DoneAt B p D f W ⟨6, b, c, o, n, t⟩ := by
  have HS := Lib.hid (Doi.start (x := ⟨6, b, c, o, n, t⟩) (H := HpH B p) h h.lt (fun hA hb => Hp.below hA hb))
  have HR := Lib.hid (fun X => right_any 6 b c o n t X)
  rw [hr] at HR
  have HF := Lib.hid (And.intro hf (And.intro hl (And.intro hx2 hx6)))
  unfold DoneAt
  clear h hf hl hx2 hx6 hr
  go_enter Tryz.func85, Tryz.ntmps85
  go_wp2_with fail
  refine (HR.out _).mono ?_
  rintro en w1 ⟨rfl, hb⟩
  have H1 := Lib.hid (HS.out.below (fun hA hb => Hp.below hA hb) hb)
  clear hb
  obtain ⟨k0, k1, k2, k3, k4, k5, -, -, -, -, -, -, -, -⟩ := H1.out.cells
  simp only at k0 k1 k2 k3 k4 k5
  go_wp2_with fail
  refine (words_any _ H1.out.hp HF.out.1 b HF.out.2.2.1).mono ?_
  rintro en w2 ⟨f1, rfl, h1, s1⟩
  have H2 := Lib.hid (H1.out.turn h1 s1 h1.lt)
  clear h1 s1 k0 k1 k2 k3 k4 k5
  obtain ⟨-, -, -, -, -, -, r0, r1, rf0, rf1, g0, g1, gf0, gf1⟩ := H2.out.cells
  go_wp2_with fail
  refine bodyPost_ret (v := gotV 0 (textAt D.L b)) (by rw [results_cell1 (by rfl)]; go_simp) rfl ?_
  have H3 := (H2.out.text (fun hA hs => Hp.stays hA hs) (textAt D.L b)).done (fun hA hs => Hp.stays hA hs)
  exact ⟨f1, rfl, (H3 _ _).1, (H3 _ _).2⟩

set_option maxRecDepth 100000 in
set_option maxHeartbeats 4000000 in
theorem do_7 (h : Hp W B p D f) (hf : D.faults < 1000000) (hl : D.L.length < 1000000) (b : Nat) (c o n : Int) (t : ByteArray) (hx2 : b < 18446744073709551616) (hx6 : t.size ≤ 281474976710656) (hr : rightA ⟨7, b, c, o, n, t⟩ = true) : DoneAt B p D f W ⟨7, b, c, o, n, t⟩ := by
  have HS := Lib.hid (Doi.start (x := ⟨7, b, c, o, n, t⟩) (H := HpH B p) h h.lt (fun hA hb => Hp.below hA hb))
  have HR := Lib.hid (fun X => right_any 7 b c o n t X)
  rw [hr] at HR
  have HF := Lib.hid (And.intro hf (And.intro hl (And.intro hx2 hx6)))
  unfold DoneAt
  clear h hf hl hx2 hx6 hr
  go_enter Tryz.func85, Tryz.ntmps85
  go_wp2_with fail
  refine (HR.out _).mono ?_
  rintro en w1 ⟨rfl, hb⟩
  have H1 := Lib.hid (HS.out.below (fun hA hb => Hp.below hA hb) hb)
  clear hb
  obtain ⟨k0, k1, k2, k3, k4, k5, -, -, -, -, -, -, -, -⟩ := H1.out.cells
  simp only at k0 k1 k2 k3 k4 k5
  go_wp2_with fail
  refine (drop_any _ H1.out.hp HF.out.1 b HF.out.2.2.1).mono ?_
  rintro en w2 ⟨f1, rfl, h1, s1⟩
  have H2 := Lib.hid (H1.out.turn h1 s1 h1.lt)
  clear h1 s1 k0 k1 k2 k3 k4 k5
  obtain ⟨-, -, -, -, -, -, r0, r1, rf0, rf1, g0, g1, gf0, gf1⟩ := H2.out.cells
  go_wp2_with fail
  refine bodyPost_ret (v := gotV 0 ⟨#[]⟩) (by rw [results_cell1 (by rfl)]; go_simp) rfl ?_
  have H3 := H2.out.done (fun hA hs => Hp.stays hA hs)
  exact ⟨f1, rfl, (H3 _ _).1, (H3 _ _).2⟩

set_option maxRecDepth 100000 in
set_option maxHeartbeats 4000000 in
theorem do_8 (h : Hp W B p D f) (hf : D.faults < 1000000) (hl : D.L.length < 1000000) (b : Nat) (c o n : Int) (t : ByteArray) (hx2 : b < 18446744073709551616) (hx6 : t.size ≤ 281474976710656) (hr : rightA ⟨8, b, c, o, n, t⟩ = true) : DoneAt B p D f W ⟨8, b, c, o, n, t⟩ := by
  have HS := Lib.hid (Doi.start (x := ⟨8, b, c, o, n, t⟩) (H := HpH B p) h h.lt (fun hA hb => Hp.below hA hb))
  have HR := Lib.hid (fun X => right_any 8 b c o n t X)
  rw [hr] at HR
  have HF := Lib.hid (And.intro hf (And.intro hl (And.intro hx2 hx6)))
  have HL := Lib.hid (Eq.refl D.locked)
  obtain ⟨l, hlk⟩ : ∃ l, D.locked = l := ⟨_, rfl⟩
  rw [hlk] at HL
  have HV : Hid (actW D ⟨8, b, c, o, n, t⟩ = if l then 0 else 1) := Lib.hid (by unfold actW; rw [hlk]; rfl)
  unfold DoneAt
  have HLK := Lib.hid (fun X (hX : Hp X B p D f) => lock_any X hX)
  rw [hlk] at HLK
  clear h hf hl hx2 hx6 hr
  clear hlk HL
  cases l
  · go_enter Tryz.func85, Tryz.ntmps85
    go_wp2_with fail
    refine (HR.out _).mono ?_
    rintro en w1 ⟨rfl, hb⟩
    have H1 := Lib.hid (HS.out.below (fun hA hb => Hp.below hA hb) hb)
    clear hb
    obtain ⟨k0, k1, k2, k3, k4, k5, -, -, -, -, -, -, -, -⟩ := H1.out.cells
    simp only at k0 k1 k2 k3 k4 k5
    go_wp2_with fail
    refine (HLK.out _ H1.out.hp).mono ?_
    rintro en w2 ⟨f1, rfl, h1, s1⟩
    have H2 := Lib.hid (H1.out.turn h1 s1 h1.lt)
    clear h1 s1 k0 k1 k2 k3 k4 k5
    obtain ⟨-, -, -, -, -, -, r0, r1, rf0, rf1, g0, g1, gf0, gf1⟩ := H2.out.cells
    go_wp2_with fail
    refine bodyPost_ret (v := gotV 1 ⟨#[]⟩) (by rw [results_cell1 (by rfl)]; go_simp) rfl ?_
    have H3 := (H2.out.word (fun hA hs => Hp.stays hA hs) 1).done (fun hA hs => Hp.stays hA hs)
    rw [HV.out]
    exact ⟨f1, rfl, (H3 _ _).1, (H3 _ _).2⟩
  · go_enter Tryz.func85, Tryz.ntmps85
    go_wp2_with fail
    refine (HR.out _).mono ?_
    rintro en w1 ⟨rfl, hb⟩
    have H1 := Lib.hid (HS.out.below (fun hA hb => Hp.below hA hb) hb)
    clear hb
    obtain ⟨k0, k1, k2, k3, k4, k5, -, -, -, -, -, -, -, -⟩ := H1.out.cells
    simp only at k0 k1 k2 k3 k4 k5
    go_wp2_with fail
    refine (HLK.out _ H1.out.hp).mono ?_
    rintro en w2 ⟨f1, rfl, h1, s1⟩
    have H2 := Lib.hid (H1.out.turn h1 s1 h1.lt)
    clear h1 s1 k0 k1 k2 k3 k4 k5
    obtain ⟨-, -, -, -, -, -, r0, r1, rf0, rf1, g0, g1, gf0, gf1⟩ := H2.out.cells
    go_wp2_with fail
    refine bodyPost_ret (v := gotV 0 ⟨#[]⟩) (by rw [results_cell1 (by rfl)]; go_simp) rfl ?_
    have H3 := H2.out.done (fun hA hs => Hp.stays hA hs)
    rw [HV.out]
    exact ⟨f1, rfl, (H3 _ _).1, (H3 _ _).2⟩

set_option maxRecDepth 100000 in
set_option maxHeartbeats 4000000 in
theorem do_9 (h : Hp W B p D f) (hf : D.faults < 1000000) (hl : D.L.length < 1000000) (b : Nat) (c o n : Int) (t : ByteArray) (hx2 : b < 18446744073709551616) (hx6 : t.size ≤ 281474976710656) (hr : rightA ⟨9, b, c, o, n, t⟩ = true) : DoneAt B p D f W ⟨9, b, c, o, n, t⟩ := by
  have HS := Lib.hid (Doi.start (x := ⟨9, b, c, o, n, t⟩) (H := HpH B p) h h.lt (fun hA hb => Hp.below hA hb))
  have HR := Lib.hid (fun X => right_any 9 b c o n t X)
  rw [hr] at HR
  have HF := Lib.hid (And.intro hf (And.intro hl (And.intro hx2 hx6)))
  unfold DoneAt
  clear h hf hl hx2 hx6 hr
  go_enter Tryz.func85, Tryz.ntmps85
  go_wp2_with fail
  refine (HR.out _).mono ?_
  rintro en w1 ⟨rfl, hb⟩
  have H1 := Lib.hid (HS.out.below (fun hA hb => Hp.below hA hb) hb)
  clear hb
  obtain ⟨k0, k1, k2, k3, k4, k5, -, -, -, -, -, -, -, -⟩ := H1.out.cells
  simp only at k0 k1 k2 k3 k4 k5
  go_wp2_with fail
  refine (unlock_any _ H1.out.hp HF.out.1).mono ?_
  rintro en w2 ⟨f1, rfl, h1, s1⟩
  have H2 := Lib.hid (H1.out.turn h1 s1 h1.lt)
  clear h1 s1 k0 k1 k2 k3 k4 k5
  obtain ⟨-, -, -, -, -, -, r0, r1, rf0, rf1, g0, g1, gf0, gf1⟩ := H2.out.cells
  go_wp2_with fail
  refine bodyPost_ret (v := gotV 0 ⟨#[]⟩) (by rw [results_cell1 (by rfl)]; go_simp) rfl ?_
  have H3 := H2.out.done (fun hA hs => Hp.stays hA hs)
  exact ⟨f1, rfl, (H3 _ _).1, (H3 _ _).2⟩

set_option maxRecDepth 100000 in
set_option maxHeartbeats 4000000 in
theorem do_10 (h : Hp W B p D f) (hf : D.faults < 1000000) (hl : D.L.length < 1000000) (b : Nat) (c o n : Int) (t : ByteArray) (hx2 : b < 18446744073709551616) (hx6 : t.size ≤ 281474976710656) (hr : rightA ⟨10, b, c, o, n, t⟩ = true) : DoneAt B p D f W ⟨10, b, c, o, n, t⟩ := by
  have HS := Lib.hid (Doi.start (x := ⟨10, b, c, o, n, t⟩) (H := HpH B p) h h.lt (fun hA hb => Hp.below hA hb))
  have HR := Lib.hid (fun X => right_any 10 b c o n t X)
  rw [hr] at HR
  have HF := Lib.hid (And.intro hf (And.intro hl (And.intro hx2 hx6)))
  unfold DoneAt
  clear h hf hl hx2 hx6 hr
  go_enter Tryz.func85, Tryz.ntmps85
  go_wp2_with fail
  refine (HR.out _).mono ?_
  rintro en w1 ⟨rfl, hb⟩
  have H1 := Lib.hid (HS.out.below (fun hA hb => Hp.below hA hb) hb)
  clear hb
  obtain ⟨k0, k1, k2, k3, k4, k5, -, -, -, -, -, -, -, -⟩ := H1.out.cells
  simp only at k0 k1 k2 k3 k4 k5
  go_wp2_with fail
  refine (load_any _ H1.out.hp HF.out.1 b HF.out.2.2.1 c).mono ?_
  rintro en w2 ⟨f1, rfl, h1, s1⟩
  have H2 := Lib.hid (H1.out.turn h1 s1 h1.lt)
  clear h1 s1 k0 k1 k2 k3 k4 k5
  obtain ⟨-, -, -, -, -, -, r0, r1, rf0, rf1, g0, g1, gf0, gf1⟩ := H2.out.cells
  go_wp2_with fail
  refine bodyPost_ret (v := gotV (loadV D b c) ⟨#[]⟩) (by rw [results_cell1 (by rfl)]; go_simp) rfl ?_
  have H3 := (H2.out.word (fun hA hs => Hp.stays hA hs) (loadV D b c)).done (fun hA hs => Hp.stays hA hs)
  exact ⟨f1, rfl, (H3 _ _).1, (H3 _ _).2⟩

set_option maxRecDepth 100000 in
set_option maxHeartbeats 4000000 in
theorem do_any (W : World) (h : Hp W B p D f) (hf : D.faults < 1000000) (hl : D.L.length < 1000000) (x : ActD) (hx : x.fits) :
    Calls Tryz.prog 85 #[.pointer (some ⟨p, 0, none⟩), actV x.kind x.block x.cell x.old x.new x.text] W (HpR B p f W (gotV (doW D x) (doT D x)) (doN D x)) := by
  cases hr : rightA x with
  | true =>
    have hk := right_kind hr
    have e1 : doW D x = actW D x := by unfold doW; rw [hr]; rfl
    have e2 : doT D x = actT D x := by unfold doT; rw [hr]; rfl
    have e3 : doN D x = actN D x := by unfold doN; rw [hr]; rfl
    rw [e1, e2, e3]
    clear e1 e2 e3
    obtain ⟨k, b, c, o, n, t⟩ := x
    obtain ⟨-, hx2, -, -, -, hx6⟩ := hx
    simp only at hk hx2 hx6
    rcases hk with rfl | rfl | rfl | rfl | rfl | rfl | rfl | rfl | rfl | rfl | rfl
    · exact do_0 h hf hl b c o n t hx2 hx6 hr
    · exact do_1 h hf hl b c o n t hx2 hx6 hr
    · exact do_2 h hf hl b c o n t hx2 hx6 hr
    · exact do_3 h hf hl b c o n t hx2 hx6 hr
    · exact do_4 h hf hl b c o n t hx2 hx6 hr
    · exact do_5 h hf hl b c o n t hx2 hx6 hr
    · exact do_6 h hf hl b c o n t hx2 hx6 hr
    · exact do_7 h hf hl b c o n t hx2 hx6 hr
    · exact do_8 h hf hl b c o n t hx2 hx6 hr
    · exact do_9 h hf hl b c o n t hx2 hx6 hr
    · exact do_10 h hf hl b c o n t hx2 hx6 hr
  | false =>
    have HS := Lib.hid (Doi.start (x := x) (H := HpH B p) h h.lt (fun hA hb => Hp.below hA hb))
    have HR := Lib.hid (fun X => right_any x.kind x.block x.cell x.old x.new x.text X)
    rw [hr] at HR
    have e1 : doW D x = 0 := by unfold doW; rw [hr]; rfl
    have e2 : doT D x = ⟨#[]⟩ := by unfold doT; rw [hr]; rfl
    have e3 : doN D x = D := by unfold doN; rw [hr]; rfl
    rw [e1, e2, e3]
    obtain ⟨k, b, c, o, n, t⟩ := x
    simp only at HS HR ⊢
    clear h hf hl hr hx e1 e2 e3
    go_enter Tryz.func85, Tryz.ntmps85
    go_wp2_with fail
    refine (HR.out _).mono ?_
    rintro en w1 ⟨rfl, hb⟩
    have H1 := Lib.hid (HS.out.below (fun hA hb => Hp.below hA hb) hb)
    clear hb
    obtain ⟨-, -, -, -, -, -, r0, r1, rf0, rf1, g0, g1, gf0, gf1⟩ := H1.out.cells
    go_wp2_with fail
    refine bodyPost_ret (v := gotV 0 ⟨#[]⟩) (by rw [results_cell1 (by rfl)]; go_simp) rfl ?_
    have H3 := H1.out.done (fun hA hs => Hp.stays hA hs)
    exact ⟨f, rfl, (H3 _ _).1, (H3 _ _).2⟩
end

end Go.Proofs.YtpnfbabiibopnaaGreat

/-! Ready: whether an act needs not wait. -/
namespace Go.Proofs.YtpnfbabiibopnaaGreat
open Go Go.RowKit
attribute [local go_sem ↓] Go.wp_at_zero Go.wp_at_succ

/-- Needs an act not wait? -/
def readyA (D : HpD) (x : ActD) : Bool := if rightA x then (if x.kind = 8 then !D.locked else if x.kind = 10 then (decide (x.cell < (sizeAt D.L x.block : Int)) && !(loadV D x.block x.cell == 0)) else true) else true
theorem load_there {D : HpD} {k : Nat} {i : Int} (h0 : 0 ≤ i) (h1 : i < (sizeAt D.L k : Int)) : spot D.L k i = 0 ∧ loadD D k i = D := by
  have hs : spot D.L k i = 0 := by
    unfold sizeAt at h1
    unfold spot
    cases hb : liveAt D.L k with
    | none => rw [hb] at h1; simp only at h1; omega
    | some b => rw [hb] at h1; simp only at h1 ⊢; rw [if_neg (by omega)]
  exact ⟨hs, by unfold loadD; rw [if_pos hs]⟩
theorem right_cell {x : ActD} (h : rightA x = true) : 0 ≤ x.cell := by
  unfold rightA at h
  simp only [Bool.and_eq_true, decide_eq_true_eq] at h
  exact h.1

set_option maxRecDepth 100000 in
set_option maxHeartbeats 4000000 in
theorem ready_any (W : World) {B p : Nat} {D : HpD} {f : Nat → Prop} (h : Hp W B p D f) (hf : D.faults < 1000000) (x : ActD) (hx : x.fits) :
    Calls Tryz.prog 84 #[.pointer (some ⟨p, 0, none⟩), actV x.kind x.block x.cell x.old x.new x.text] W (HpR B p f W (.bool (readyA D x)) D) := by
  have HR := Lib.hid (fun X => right_any x.kind x.block x.cell x.old x.new x.text X)
  have HH := Lib.hid h
  obtain ⟨k, b, c, o, n, t⟩ := x
  obtain ⟨-, hx2, -, -, -, -⟩ := hx
  simp only at hx2 HR ⊢
  have HA := Lib.hid (World.alloc_heap_new W (.cells #[.int .i64 k, .int .u64 (b : Int), .int .i64 c, .int .u64 o, .int .u64 n, .string t] 31))
  have HF := Lib.hid (And.intro hf hx2)
  cases hr : rightA ⟨k, b, c, o, n, t⟩ with
  | false =>
    have e1 : readyA D ⟨k, b, c, o, n, t⟩ = true := by unfold readyA; rw [hr]; rfl
    rw [e1]
    rw [hr] at HR
    clear h hf hx2 hr e1
    go_enter Tryz.func84, Tryz.ntmps84
    go_wp2_with fail
    refine (HR.out _).mono ?_
    rintro en w1 ⟨rfl, hb⟩
    have HB := Lib.hid ((below_alloc W _).trans (hb.mono (by simp)))
    clear hb
    go_wp2_with fail
    go_ret
    exact ⟨f, rfl, HH.out.below HB.out, Step.of_below HB.out⟩
  | true =>
    have hc0 := right_cell hr
    simp only at hc0
    rw [hr] at HR
    by_cases h8 : k = 8
    · subst h8
      have e1 : readyA D ⟨8, b, c, o, n, t⟩ = !D.locked := by unfold readyA; rw [hr]; rfl
      rw [e1]
      have HK := Lib.hid (fun X (hX : Hp X B p D f) => locked_any X hX)
      obtain ⟨l, hlk⟩ : ∃ l, D.locked = l := ⟨_, rfl⟩
      rw [hlk] at HK ⊢
      clear h hf hx2 hr e1 hlk hc0
      go_enter Tryz.func84, Tryz.ntmps84
      go_wp2_with fail
      refine (HR.out _).mono ?_
      rintro en w1 ⟨rfl, hb⟩
      have HB := Lib.hid ((below_alloc W _).trans (hb.mono (by simp)))
      have k0 : w1.cell? ⟨W.heap.size, 0, none⟩ = some (.int .i64 8) := (cell_of ((hb.block _ (heap_at_lt HA.out)).trans HA.out)).trans rfl
      clear hb
      go_wp2_with fail
      refine (HK.out _ (HH.out.below HB.out)).mono ?_
      rintro en w2 ⟨rfl, rfl⟩
      go_wp2_with fail
      go_ret
      exact ⟨f, rfl, HH.out.below HB.out, Step.of_below HB.out⟩
    · by_cases h10 : k = 10
      · subst h10
        have e1 : readyA D ⟨10, b, c, o, n, t⟩ = (decide (c < (sizeAt D.L b : Int)) && !(loadV D b c == 0)) := by unfold readyA; rw [hr]; rfl
        rw [e1]
        have HZ := Lib.hid (fun X (hX : Hp X B p D f) => (size_any X hX b hx2).mono fun _ _ hh => (And.intro hh.1 hh.2.symm))
        have HL := Lib.hid (fun X (hX : Hp X B p D f) => load_any X hX hf b hx2 c)
        by_cases hlt : c < (sizeAt D.L b : Int)
        · obtain ⟨hsp, hld⟩ := load_there hc0 hlt
          rw [hld, hsp] at HL
          have hge : decide ((sizeAt D.L b : Int) ≤ c) = false := decide_eq_false (by omega)
          have hlt' := decide_eq_true hlt
          rw [hlt']
          obtain ⟨z, hz⟩ : ∃ z, (sizeAt D.L b : Int) = z := ⟨_, rfl⟩
          rw [hz] at HZ hge hlt
          obtain ⟨v, hv⟩ : ∃ v, loadV D b c = v := ⟨_, rfl⟩
          rw [hv] at HL ⊢
          clear h hf hx2 hr e1 hz hsp hld hv hlt' h8
          go_enter Tryz.func84, Tryz.ntmps84
          go_wp2_with fail
          refine (HR.out _).mono ?_
          rintro en w1 ⟨rfl, hb⟩
          have HB := Lib.hid ((below_alloc W _).trans (hb.mono (by simp)))
          have k0 : w1.cell? ⟨W.heap.size, 0, none⟩ = some (.int .i64 10) := (cell_of ((hb.block _ (heap_at_lt HA.out)).trans HA.out)).trans rfl
          have k1 : w1.cell? ⟨W.heap.size, 1, none⟩ = some (.int .u64 (b : Int)) := (cell_of ((hb.block _ (heap_at_lt HA.out)).trans HA.out)).trans rfl
          have k2 : w1.cell? ⟨W.heap.size, 2, none⟩ = some (.int .i64 c) := (cell_of ((hb.block _ (heap_at_lt HA.out)).trans HA.out)).trans rfl
          clear hb
          go_wp2_with fail
          go_quiet (exact Calls.quiet_of_same (HZ.out _ (HH.out.below (HB.out.trans ((below_draws _ _).mono HB.out.size)))))
          go_wp2_with fail
          refine (HL.out _ (HH.out.below (HB.out.trans ((below_draws _ _).mono HB.out.size)))).mono ?_
          rintro en w2 ⟨f1, rfl, h1, s1⟩
          have H2 := Lib.hid h1
          have S2 := Lib.hid ((Step.of_below (HB.out.trans ((below_draws _ _).mono HB.out.size))).trans s1)
          clear h1 s1
          go_wp2_with fail
          go_ret
          exact ⟨f1, by rw [Bool.true_and]; rfl, H2.out, S2.out⟩
        · have hge : decide ((sizeAt D.L b : Int) ≤ c) = true := decide_eq_true (by omega)
          have hlt' := decide_eq_false hlt
          rw [hlt']
          obtain ⟨z, hz⟩ : ∃ z, (sizeAt D.L b : Int) = z := ⟨_, rfl⟩
          rw [hz] at HZ hge hlt
          clear h hf hx2 hr e1 hz HL hlt' h8
          go_enter Tryz.func84, Tryz.ntmps84
          go_wp2_with fail
          refine (HR.out _).mono ?_
          rintro en w1 ⟨rfl, hb⟩
          have HB := Lib.hid ((below_alloc W _).trans (hb.mono (by simp)))
          have k0 : w1.cell? ⟨W.heap.size, 0, none⟩ = some (.int .i64 10) := (cell_of ((hb.block _ (heap_at_lt HA.out)).trans HA.out)).trans rfl
          have k1 : w1.cell? ⟨W.heap.size, 1, none⟩ = some (.int .u64 (b : Int)) := (cell_of ((hb.block _ (heap_at_lt HA.out)).trans HA.out)).trans rfl
          have k2 : w1.cell? ⟨W.heap.size, 2, none⟩ = some (.int .i64 c) := (cell_of ((hb.block _ (heap_at_lt HA.out)).trans HA.out)).trans rfl
          clear hb
          go_wp2_with fail
          go_quiet (exact Calls.quiet_of_same (HZ.out _ (HH.out.below (HB.out.trans ((below_draws _ _).mono HB.out.size)))))
          go_wp2_with fail
          go_ret
          exact ⟨f, by simp, HH.out.below (HB.out.trans ((below_draws _ _).mono HB.out.size)), Step.of_below (HB.out.trans ((below_draws _ _).mono HB.out.size))⟩
      · have e1 : readyA D ⟨k, b, c, o, n, t⟩ = true := by unfold readyA; rw [hr]; simp only [if_true]; rw [if_neg h8, if_neg h10]
        rw [e1]
        clear h hf hx2 hr e1 hc0

        go_enter Tryz.func84, Tryz.ntmps84
        go_wp2_with fail
        refine (HR.out _).mono ?_
        rintro en w1 ⟨rfl, hb⟩
        have HB := Lib.hid ((below_alloc W _).trans (hb.mono (by simp)))
        have k0 : w1.cell? ⟨W.heap.size, 0, none⟩ = some (.int .i64 k) := (cell_of ((hb.block _ (heap_at_lt HA.out)).trans HA.out)).trans rfl
        clear hb
        go_wp2_with fail
        go_ret
        exact ⟨f, rfl, HH.out.below HB.out, Step.of_below HB.out⟩

end Go.Proofs.YtpnfbabiibopnaaGreat

/-! A region that draws its order: operations that only look at cells that stay, then those that call or make memory, one behind the other, and then the rest, which may store where was looked. Nothing of one program. -/
namespace Go.Proofs.YtpnfbabiibopnaaGreat
open Go

section
variable {P : Program} {ops : Array Oper} {Q : Exit → Act → World → Prop} {md : Region.Mode} {S : World → Prop} {m : Nat}

/-- Whatever order is picked from here on; behind each of the first m operations S holds. -/
def wpAnyU (P : Program) (md : Region.Mode) (ops : Array Oper) (Q : Exit → Act → World → Prop) (S : World → Prop) (m : Nat) : Nat → Array Bool → Act → World → Prop
  | 0, listed, a, w => Region.ready md ops listed = [] ∧ Q .normal a w
  | fuel + 1, listed, a, w =>
    (Region.ready md ops listed = [] → Q .normal a w) ∧
    ∀ i ∈ Region.ready md ops listed, wpOp P ops Q i (fun a' w' => (i < m → S w') ∧ wpAnyU P md ops Q S m fuel (listed.setIfInBounds i true) a' w') a w

theorem wpAny_of_U : ∀ (fuel : Nat) (listed : Array Bool) (a : Act) (w : World), wpAnyU P md ops Q S m fuel listed a w → wpAny P md ops Q fuel listed a w
  | 0, _, _, _, h => h
  | fuel + 1, _, _, _, h => ⟨h.1, fun i hi => wpOp_mono (fun a' w' h' => wpAny_of_U fuel _ a' w' h'.2) (h.2 i hi)⟩

theorem wpAnyU_first {i : Nat} {oi : Oper} {v : Value} (hi : ops[i]? = some oi) (hsel : ∀ (j : Nat) (o : Oper) cs b, ops[j]? = some o → o.op ≠ .select cs b)
    (hQ : ∀ c a w, Q (.panic c) (a.put oi.dst v) w → Q (.panic c) a w) (hs : Region.sinkB md ops m = true) (hc : Region.chainB md ops m = true) (hmn : m < ops.size) (him : i < m) :
    ∀ (fuel : Nat) (listed : Array Bool) (a : Act) (w : World), HeadInv md ops m listed →
      (∀ j oj, ops[j]? = some oj → j ≠ i → listed.getD j true = false → (∀ e ∈ oj.after, Region.binds md e = true → e.on ≠ i) → oi.apart ops oj = true) →
      i ∈ Region.ready md ops listed → YieldsIf P ops S oi v a → S w →
      wpAnyU P md ops Q S m fuel (listed.setIfInBounds i true) (a.put oi.dst v) w → wpAnyU P md ops Q S m (fuel + 1) listed a w := by
  intro fuel
  induction fuel with
  | zero =>
    intro listed a w inv _ hr hy hS H
    refine ⟨fun h => (by rw [h] at hr; cases hr), fun j hj => ?_⟩
    by_cases hji : j = i
    · subst hji; exact hy.wpOp hi hS ⟨fun _ => hS, H⟩
    · have := ready_mono hj hji
      rw [H.1] at this
      cases this
  | succ fuel ih =>
    intro listed a w inv hfree hr hy hS H
    refine ⟨fun h => (by rw [h] at hr; cases hr), fun j hj => ?_⟩
    have hun := (mem_ready.1 hr).1
    by_cases hji : j = i
    · subst hji; exact hy.wpOp hi hS ⟨fun _ => hS, H⟩
    · have hjm : j < m := by
        rcases Nat.lt_or_ge j m with h | h
        · exact h
        · exact absurd hj (tail_waits hs hc hmn inv _ i rfl him hun j h)
      have h1 := H.2 j (ready_mono hj hji)
      obtain ⟨hjun, oj, hoj, hall⟩ := mem_ready.1 hj
      have hnot : ∀ e ∈ oj.after, Region.binds md e = true → e.on ≠ i := fun e he hb heq => by
        have h1 := hall e he hb
        rw [heq, getD_both hun] at h1
        cases h1
      have h2 := wpOp_putIf hoj (hfree j oj hoj hji hjun hnot) (fun cs b => hsel i oi cs b hi) (fun cs b => hsel j oj cs b hoj) hQ hy h1
      have hfree' : ∀ k ok, ops[k]? = some ok → k ≠ i → (listed.setIfInBounds j true).getD k true = false →
          (∀ e ∈ ok.after, Region.binds md e = true → e.on ≠ i) → oi.apart ops ok = true := fun k ok hk hki hun hno => by
        refine hfree k ok hk hki ?_ hno
        by_cases hjk : j = k
        · subst hjk; exact hjun
        · rw [getD_set_ne true hjk] at hun; exact hun
      refine wpOp_mono (fun a' w' h3 => ⟨h3.2.1, ih (listed.setIfInBounds j true) a' w' (inv.set hj hjm) hfree' (ready_mono hr (Ne.symm hji)) h3.1 (h3.2.1 hjm) ?_⟩) h2
      rw [Array.setIfInBounds_comm _ _ hji]
      exact h3.2.2

/-- The operations of these places, each of which only looks, in every world that meets S. -/
def heldU (P : Program) (ops : Array Oper) (S : World → Prop) (K : Act → Prop) : List Nat → Act → Prop
  | [], a => K a
  | k :: r, a => ∃ o v, ops[k]? = some o ∧ o.guard = none ∧ (∀ w, S w → (execOp a.eval o).run P w = .ok (.value v) w) ∧ heldU P ops S K r (a.put o.dst v)

/-- The head in the order given. -/
def Region.headUB (md : Region.Mode) (ops : Array Oper) (m : Nat) : List Nat → Array Bool → Bool
  | [], _ => true
  | k :: r, listed => decide (k < m) && (Region.ready md ops listed).contains k && Region.free md ops listed k && Region.headUB md ops m r (listed.setIfInBounds k true)
def Region.listU : List Nat → Array Bool → Array Bool
  | [], listed => listed
  | k :: r, listed => Region.listU r (listed.setIfInBounds k true)
/-- Behind the head nothing else is ready but these, one behind the other. -/
def Region.midUB (md : Region.Mode) (ops : Array Oper) (m : Nat) : List Nat → Array Bool → Bool
  | [], _ => true
  | k :: r, listed => decide (k < m) && decide (Region.ready md ops listed = [k]) && Region.midUB md ops m r (listed.setIfInBounds k true)

/-- The operations between the head and the tail. -/
def midU (P : Program) (ops : Array Oper) (Q : Exit → Act → World → Prop) (S : World → Prop) (K : Act → World → Prop) : List Nat → Act → World → Prop
  | [], a, w => K a w
  | k :: r, a, w => ∃ o, ops[k]? = some o ∧ o.guard = none ∧ o.wp P a w (fun a' w' => S w' ∧ midU P ops Q S K r a' w') Q

theorem heldU_step {K : Act → Prop} {k : Nat} {r : List Nat} {o : Oper} {a : Act} (v : Value) (h0 : ops[k]? = some o) (hg : o.guard = none) (hv : ∀ w, S w → (execOp a.eval o).run P w = .ok (.value v) w)
    (h : ∀ K' : Act → Prop, (∀ a, heldU P ops S K r a → K' a) → K' (a.put o.dst v)) : heldU P ops S K (k :: r) a := ⟨o, v, h0, hg, hv, h _ fun _ h => h⟩
theorem midU_step {K : Act → World → Prop} {k : Nat} {r : List Nat} {o : Oper} {a : Act} {w : World} (h0 : ops[k]? = some o) (hg : o.guard = none)
    (h : ∀ K' : Act → World → Prop, (∀ a w, S w ∧ midU P ops Q S K r a w → K' a w) → o.wp P a w K' Q) : midU P ops Q S K (k :: r) a w := ⟨o, h0, hg, h _ fun _ _ h => h⟩

theorem wpAnyU_head (hsel : Region.noSelect ops = true) (hQ : ∀ c a w d v, Q (.panic c) (Act.put a d v) w → Q (.panic c) a w)
    (hs : Region.sinkB md ops m = true) (hc : Region.chainB md ops m = true) (hmn : m < ops.size) {w : World} (hS : S w) {g : Nat} {L : Array Bool} {K : Act → Prop}
    (hK : ∀ a, HeadInv md ops m L → K a → wpAnyU P md ops Q S m g L a w) :
    ∀ (l : List Nat) (listed : Array Bool) (a : Act), HeadInv md ops m listed → Region.headUB md ops m l listed = true → Region.listU l listed = L →
      heldU P ops S K l a → wpAnyU P md ops Q S m (l.length + g) listed a w
  | [], listed, a, inv, _, hL, h => by rw [List.length_nil, Nat.zero_add]; have : listed = L := hL; subst this; exact hK a inv h
  | k :: l, listed, a, inv, hB, hL, h => by
    simp only [Region.headUB, Bool.and_eq_true, decide_eq_true_eq] at hB
    obtain ⟨⟨⟨hkm, hr⟩, hf⟩, hB'⟩ := hB
    obtain ⟨o, v, h0, hg, hv, hrest⟩ := h
    have hr' : k ∈ Region.ready md ops listed := by simpa using hr
    rw [show (k :: l).length + g = (l.length + g) + 1 by simp; omega]
    refine wpAnyU_first h0 (Region.noSelect_spec hsel) (fun c a w => hQ c a w _ _) hs hc hmn hkm _ listed a w inv (Region.free_spec h0 hf) hr' (.inl ⟨by simp [Region.wanted, hg], hv⟩) hS ?_
    exact wpAnyU_head hsel hQ hs hc hmn hS hK l _ _ (inv.set hr' hkm) hB' hL hrest

theorem wpAnyU_mid {g : Nat} {L : Array Bool} {K : Act → World → Prop}
    (hK : ∀ a w, K a w → wpAnyU P md ops Q S m g L a w) :
    ∀ (l : List Nat) (listed : Array Bool) (a : Act) (w : World), Region.midUB md ops m l listed = true → Region.listU l listed = L →
      midU P ops Q S K l a w → wpAnyU P md ops Q S m (l.length + g) listed a w
  | [], listed, a, w, _, hL, h => by rw [List.length_nil, Nat.zero_add]; have : listed = L := hL; subst this; exact hK a w h
  | k :: l, listed, a, w, hB, hL, h => by
    simp only [Region.midUB, Bool.and_eq_true, decide_eq_true_eq] at hB
    obtain ⟨⟨hkm, hr⟩, hB'⟩ := hB
    obtain ⟨o, h0, hg, h⟩ := h
    rw [show (k :: l).length + g = (l.length + g) + 1 by simp; omega]
    refine ⟨fun h0 => (by rw [hr] at h0; cases h0), fun i hi => ?_⟩
    rw [hr] at hi
    have hik : i = k := by simpa using hi
    subst hik
    unfold wpOp
    rw [h0]
    have hw : Region.wanted o (yielded ops a.tmps) = true := by simp [Region.wanted, hg]
    simp only [hw, if_true]
    exact .inl (Oper.wp_mono (fun a2 w2 h2 => ⟨fun _ => h2.1, wpAnyU_mid hK l _ a2 w2 hB' hL h2.2⟩) h)

theorem wpAnyU_tail : ∀ (r : List Oper) (q : Nat) (listed : Array Bool) (a : Act) (w : World), (∀ j, r[j]? = ops[q + j]?) → m ≤ q →
    Region.seqB md ops r.length q listed = true → wpList P ops Q r a w → wpAnyU P md ops Q S m r.length listed a w
  | [], q, listed, a, w, _, _, hB, h => ⟨by simpa [Region.seqB] using hB, h⟩
  | o2 :: r, q, listed, a, w, hl, hq, hB, h => by
    have h0 : ops[q]? = some o2 := by simpa using (hl 0).symm
    simp only [List.length_cons, Region.seqB, Bool.and_eq_true, decide_eq_true_eq] at hB
    refine ⟨fun h1 => (by rw [hB.1] at h1; cases h1), fun i2 hi2 => ?_⟩
    rw [hB.1] at hi2
    have hik : i2 = q := by simpa using hi2
    subst hik
    have hw : wpOp P ops Q i2 (wpList P ops Q r) a w := by unfold wpOp; simp only [h0]; exact h
    exact wpOp_mono (fun a' w' h' => ⟨fun hlt => absurd hlt (by omega), wpAnyU_tail r (i2 + 1) _ a' w' (fun j => by have := hl (j + 1); simpa [Nat.add_assoc, Nat.add_comm 1 j] using this) (by omega) hB.2 h'⟩) hw

/-- All that is asked of the region's shape: the looks in the order given, the others between, and the tail from m on, one behind the other. -/
def Region.heldUB (md : Region.Mode) (ops : Array Oper) (m : Nat) (head mid : List Nat) : Bool :=
  Region.noSelect ops && decide (m < ops.size) && Region.sinkB md ops m && Region.chainB md ops m && Region.headUB md ops m head (Array.replicate ops.size false) &&
    Region.midUB md ops m mid (Region.listU head (Array.replicate ops.size false)) && Region.seqB md ops (ops.size - m) m (Region.listU mid (Region.listU head (Array.replicate ops.size false))) &&
    decide (head.length + (mid.length + (ops.size - m)) = ops.size)

theorem wp_region_heldU {id : Nat} {a : Act} {w : World} {l : List Oper} (m : Nat) (head mid : List Nat)
    (hQ : ∀ c a w d v, Q (.panic c) (Act.put a d v) w → Q (.panic c) a w) (hm : P.follows .mixedOrders = true) (hB : Region.heldUB .any l.toArray m head mid = true) (S : World → Prop) (hS : S w.drew)
    (h : heldU P l.toArray S (fun a' => midU P l.toArray Q S (fun a2 w2 => wpList P l.toArray Q (l.drop m) a2 w2) mid a' w.drew) head a) : (Code.region id l.toArray true).wp P Q a w := by
  simp only [Region.heldUB, Bool.and_eq_true, decide_eq_true_eq] at hB
  obtain ⟨⟨⟨⟨⟨⟨⟨hsel, hn⟩, hs⟩, hc⟩, hhead⟩, hmid⟩, hseq⟩, hlen⟩ := hB
  have hdl : (l.drop m).length = l.toArray.size - m := by simp
  have inv0 : HeadInv .any l.toArray m (Array.replicate l.toArray.size false) :=
    ⟨by simp, fun j oj _ hl => (by rw [getD_replicate_false] at hl; cases hl), fun t _ ht => getD_in (by simpa using ht) (getD_replicate_false _ _)⟩
  refine wp_region_any hm ?_
  have hT := wpAnyU_head (P := P) (Q := Q) (md := .any) (S := S) (m := m) hsel hQ hs hc hn (w := w.drew) hS (g := mid.length + (l.drop m).length)
    (fun a' _ ha' => wpAnyU_mid (fun a2 w2 h2 => wpAnyU_tail (l.drop m) m _ a2 w2 (fun j => by simp [List.getElem?_drop]) (Nat.le_refl _) (by rw [hdl]; exact hseq) h2) mid _ a' w.drew hmid rfl ha')
    head _ a inv0 hhead rfl h
  have := wpAny_of_U _ _ _ _ hT
  rw [hdl, hlen] at this
  exact this
end

end Go.Proofs.YtpnfbabiibopnaaGreat
