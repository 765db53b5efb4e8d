/-
  Do, on a heap, at every act.
-/
import Derived.Test.YtgigjbngocfkbaaActst
namespace Go.Proofs.Ytgigjbngocfkbaa
open Go Go.RowKit
attribute [local go_sem ↓] Go.wp_at_zero Go.wp_at_succ

theorem right_kind {x : ActD} (h : rightA x = true) : x.kind = 0 ∨ x.kind = 1 ∨ x.kind = 2 ∨ x.kind = 3 ∨ x.kind = 4 ∨ x.kind = 5 ∨ x.kind = 6 ∨ x.kind = 7 ∨ x.kind = 8 ∨ x.kind = 9 ∨ x.kind = 10 := by
  by_cases hk : x.kind = 0 ∨ x.kind = 1 ∨ x.kind = 2 ∨ x.kind = 3 ∨ x.kind = 4 ∨ x.kind = 5 ∨ x.kind = 6 ∨ x.kind = 7 ∨ x.kind = 8 ∨ x.kind = 9 ∨ x.kind = 10
  · exact hk
  · exfalso
    have hr : restA x = x := by
      unfold restA
      rw [if_neg (by omega), if_neg (by omega), if_neg (by omega), if_neg (by omega), if_neg (by omega), if_neg (by omega)]
    have hz : zeroA x = false := by
      unfold zeroA
      have : (x.kind == 0) = false := by rw [beq_eq_false_iff_ne]; omega
      rw [this]; rfl
    unfold rightA at h
    rw [hr, hz] at h
    simp at h

/-- The heap lies at p still, whatever else turns. -/
abbrev HpH (B p : Nat) : World → HpD → (Nat → Prop) → Prop := fun X D f => Hp X B p D f

/-- An act of one kind, done. -/
def DoneAt (B p : Nat) (D : HpD) (f : Nat → Prop) (W : World) (x : ActD) : Prop :=
  Calls Try.prog 15 #[.pointer (some ⟨p, 0, none⟩), actV x.kind x.block x.cell x.old x.new x.text] W (HpR B p f W (gotV (actW D x) (actT D x)) (actN D x))
section
variable {B p : Nat} {D : HpD} {f : Nat → Prop} {W : World}

set_option maxRecDepth 100000 in
set_option maxHeartbeats 4000000 in
theorem do_0 (h : Hp W B p D f) (hf : D.faults < 1000000) (hl : D.L.length < 1000000) (b : Nat) (c o n : Int) (t : ByteArray) (hx2 : b < 18446744073709551616) (hx6 : t.size ≤ 281474976710656) (hr : rightA ⟨0, b, c, o, n, t⟩ = true) : DoneAt B p D f W ⟨0, b, c, o, n, t⟩ := by
  have HS := Lib.hid (Doi.start (x := ⟨0, b, c, o, n, t⟩) (H := HpH B p) h h.lt (fun hA hb => Hp.below hA hb))
  have HR := Lib.hid (fun X => right_any 0 b c o n t X)
  rw [hr] at HR
  have HF := Lib.hid (And.intro hf (And.intro hl (And.intro hx2 hx6)))
  unfold DoneAt
  clear h hf hl hx2 hx6 hr
  go_enter Try.func15, Try.ntmps15
  go_wp2_with fail
  refine (HR.out _).mono ?_
  rintro en w1 ⟨rfl, hb⟩
  have H1 := Lib.hid (HS.out.below (fun hA hb => Hp.below hA hb) hb)
  clear hb
  obtain ⟨k0, -, -, -, -, -, r0, r1, rf0, rf1, g0, g1, gf0, gf1⟩ := H1.out.cells
  simp only at k0
  go_wp2_with fail
  refine bodyPost_ret (v := gotV 0 ⟨#[]⟩) (by rw [results_cell1 (by rfl)]; go_simp) rfl ?_
  have H3 := H1.out.done (fun hA hs => Hp.stays hA hs)
  exact ⟨f, rfl, (H3 _ _).1, (H3 _ _).2⟩

set_option maxRecDepth 100000 in
set_option maxHeartbeats 4000000 in
theorem do_1 (h : Hp W B p D f) (hf : D.faults < 1000000) (hl : D.L.length < 1000000) (b : Nat) (c o n : Int) (t : ByteArray) (hx2 : b < 18446744073709551616) (hx6 : t.size ≤ 281474976710656) (hr : rightA ⟨1, b, c, o, n, t⟩ = true) : DoneAt B p D f W ⟨1, b, c, o, n, t⟩ := by
  have HS := Lib.hid (Doi.start (x := ⟨1, b, c, o, n, t⟩) (H := HpH B p) h h.lt (fun hA hb => Hp.below hA hb))
  have HR := Lib.hid (fun X => right_any 1 b c o n t X)
  rw [hr] at HR
  have HF := Lib.hid (And.intro hf (And.intro hl (And.intro hx2 hx6)))
  unfold DoneAt
  clear h hf hl hx2 hx6 hr
  go_enter Try.func15, Try.ntmps15
  go_wp2_with fail
  refine (HR.out _).mono ?_
  rintro en w1 ⟨rfl, hb⟩
  have H1 := Lib.hid (HS.out.below (fun hA hb => Hp.below hA hb) hb)
  clear hb
  obtain ⟨k0, k1, k2, k3, k4, k5, -, -, -, -, -, -, -, -⟩ := H1.out.cells
  simp only at k0 k1 k2 k3 k4 k5
  go_wp2_with fail
  refine (load_any _ H1.out.hp HF.out.1 b HF.out.2.2.1 c).mono ?_
  rintro en w2 ⟨f1, rfl, h1, s1⟩
  have H2 := Lib.hid (H1.out.turn h1 s1 h1.lt)
  clear h1 s1 k0 k1 k2 k3 k4 k5
  obtain ⟨-, -, -, -, -, -, r0, r1, rf0, rf1, g0, g1, gf0, gf1⟩ := H2.out.cells
  go_wp2_with fail
  refine bodyPost_ret (v := gotV (loadV D b c) ⟨#[]⟩) (by rw [results_cell1 (by rfl)]; go_simp) rfl ?_
  have H3 := (H2.out.word (fun hA hs => Hp.stays hA hs) (loadV D b c)).done (fun hA hs => Hp.stays hA hs)
  exact ⟨f1, rfl, (H3 _ _).1, (H3 _ _).2⟩

set_option maxRecDepth 100000 in
set_option maxHeartbeats 4000000 in
theorem do_2 (h : Hp W B p D f) (hf : D.faults < 1000000) (hl : D.L.length < 1000000) (b : Nat) (c o n : Int) (t : ByteArray) (hx2 : b < 18446744073709551616) (hx6 : t.size ≤ 281474976710656) (hr : rightA ⟨2, b, c, o, n, t⟩ = true) : DoneAt B p D f W ⟨2, b, c, o, n, t⟩ := by
  have HS := Lib.hid (Doi.start (x := ⟨2, b, c, o, n, t⟩) (H := HpH B p) h h.lt (fun hA hb => Hp.below hA hb))
  have HR := Lib.hid (fun X => right_any 2 b c o n t X)
  rw [hr] at HR
  have HF := Lib.hid (And.intro hf (And.intro hl (And.intro hx2 hx6)))
  unfold DoneAt
  clear h hf hl hx2 hx6 hr
  go_enter Try.func15, Try.ntmps15
  go_wp2_with fail
  refine (HR.out _).mono ?_
  rintro en w1 ⟨rfl, hb⟩
  have H1 := Lib.hid (HS.out.below (fun hA hb => Hp.below hA hb) hb)
  clear hb
  obtain ⟨k0, k1, k2, k3, k4, k5, -, -, -, -, -, -, -, -⟩ := H1.out.cells
  simp only at k0 k1 k2 k3 k4 k5
  go_wp2_with fail
  refine (store_any _ H1.out.hp HF.out.1 b HF.out.2.2.1 c n).mono ?_
  rintro en w2 ⟨f1, rfl, h1, s1⟩
  have H2 := Lib.hid (H1.out.turn h1 s1 h1.lt)
  clear h1 s1 k0 k1 k2 k3 k4 k5
  obtain ⟨-, -, -, -, -, -, r0, r1, rf0, rf1, g0, g1, gf0, gf1⟩ := H2.out.cells
  go_wp2_with fail
  refine bodyPost_ret (v := gotV 0 ⟨#[]⟩) (by rw [results_cell1 (by rfl)]; go_simp) rfl ?_
  have H3 := H2.out.done (fun hA hs => Hp.stays hA hs)
  exact ⟨f1, rfl, (H3 _ _).1, (H3 _ _).2⟩

set_option maxRecDepth 100000 in
set_option maxHeartbeats 4000000 in
theorem do_3 (h : Hp W B p D f) (hf : D.faults < 1000000) (hl : D.L.length < 1000000) (b : Nat) (c o n : Int) (t : ByteArray) (hx2 : b < 18446744073709551616) (hx6 : t.size ≤ 281474976710656) (hr : rightA ⟨3, b, c, o, n, t⟩ = true) : DoneAt B p D f W ⟨3, b, c, o, n, t⟩ := by
  have HS := Lib.hid (Doi.start (x := ⟨3, b, c, o, n, t⟩) (H := HpH B p) h h.lt (fun hA hb => Hp.below hA hb))
  have HR := Lib.hid (fun X => right_any 3 b c o n t X)
  rw [hr] at HR
  have HF := Lib.hid (And.intro hf (And.intro hl (And.intro hx2 hx6)))
  unfold DoneAt
  clear h hf hl hx2 hx6 hr
  go_enter Try.func15, Try.ntmps15
  go_wp2_with fail
  refine (HR.out _).mono ?_
  rintro en w1 ⟨rfl, hb⟩
  have H1 := Lib.hid (HS.out.below (fun hA hb => Hp.below hA hb) hb)
  clear hb
  obtain ⟨k0, k1, k2, k3, k4, k5, -, -, -, -, -, -, -, -⟩ := H1.out.cells
  simp only at k0 k1 k2 k3 k4 k5
  go_wp2_with fail
  refine (swap_any _ H1.out.hp HF.out.1 b HF.out.2.2.1 c o n).mono ?_
  rintro en w2 ⟨f1, rfl, h1, s1⟩
  have H2 := Lib.hid (H1.out.turn h1 s1 h1.lt)
  clear h1 s1 k0 k1 k2 k3 k4 k5
  obtain ⟨-, -, -, -, -, -, r0, r1, rf0, rf1, g0, g1, gf0, gf1⟩ := H2.out.cells
  go_wp2_with fail
  refine bodyPost_ret (v := gotV (loadV D b c) ⟨#[]⟩) (by rw [results_cell1 (by rfl)]; go_simp) rfl ?_
  have H3 := (H2.out.word (fun hA hs => Hp.stays hA hs) (loadV D b c)).done (fun hA hs => Hp.stays hA hs)
  exact ⟨f1, rfl, (H3 _ _).1, (H3 _ _).2⟩

set_option maxRecDepth 100000 in
set_option maxHeartbeats 4000000 in
theorem do_4 (h : Hp W B p D f) (hf : D.faults < 1000000) (hl : D.L.length < 1000000) (b : Nat) (c o n : Int) (t : ByteArray) (hx2 : b < 18446744073709551616) (hx6 : t.size ≤ 281474976710656) (hr : rightA ⟨4, b, c, o, n, t⟩ = true) : DoneAt B p D f W ⟨4, b, c, o, n, t⟩ := by
  have HS := Lib.hid (Doi.start (x := ⟨4, b, c, o, n, t⟩) (H := HpH B p) h h.lt (fun hA hb => Hp.below hA hb))
  have HR := Lib.hid (fun X => right_any 4 b c o n t X)
  rw [hr] at HR
  have HF := Lib.hid (And.intro hf (And.intro hl (And.intro hx2 hx6)))
  unfold DoneAt
  clear h hf hl hx2 hx6 hr
  go_enter Try.func15, Try.ntmps15
  go_wp2_with fail
  refine (HR.out _).mono ?_
  rintro en w1 ⟨rfl, hb⟩
  have H1 := Lib.hid (HS.out.below (fun hA hb => Hp.below hA hb) hb)
  clear hb
  obtain ⟨k0, k1, k2, k3, k4, k5, -, -, -, -, -, -, -, -⟩ := H1.out.cells
  simp only at k0 k1 k2 k3 k4 k5
  go_wp2_with fail
  refine (bump_any _ H1.out.hp HF.out.1 b HF.out.2.2.1 c n).mono ?_
  rintro en w2 ⟨f1, rfl, h1, s1⟩
  have H2 := Lib.hid (H1.out.turn h1 s1 h1.lt)
  clear h1 s1 k0 k1 k2 k3 k4 k5
  obtain ⟨-, -, -, -, -, -, r0, r1, rf0, rf1, g0, g1, gf0, gf1⟩ := H2.out.cells
  go_wp2_with fail
  refine bodyPost_ret (v := gotV (loadV D b c) ⟨#[]⟩) (by rw [results_cell1 (by rfl)]; go_simp) rfl ?_
  have H3 := (H2.out.word (fun hA hs => Hp.stays hA hs) (loadV D b c)).done (fun hA hs => Hp.stays hA hs)
  exact ⟨f1, rfl, (H3 _ _).1, (H3 _ _).2⟩

set_option maxRecDepth 100000 in
set_option maxHeartbeats 4000000 in
theorem do_5 (h : Hp W B p D f) (hf : D.faults < 1000000) (hl : D.L.length < 1000000) (b : Nat) (c o n : Int) (t : ByteArray) (hx2 : b < 18446744073709551616) (hx6 : t.size ≤ 281474976710656) (hr : rightA ⟨5, b, c, o, n, t⟩ = true) : DoneAt B p D f W ⟨5, b, c, o, n, t⟩ := by
  have HS := Lib.hid (Doi.start (x := ⟨5, b, c, o, n, t⟩) (H := HpH B p) h h.lt (fun hA hb => Hp.below hA hb))
  have HR := Lib.hid (fun X => right_any 5 b c o n t X)
  rw [hr] at HR
  have HF := Lib.hid (And.intro hf (And.intro hl (And.intro hx2 hx6)))
  unfold DoneAt
  clear h hf hl hx2 hx6 hr
  go_enter Try.func15, Try.ntmps15
  go_wp2_with fail
  refine (HR.out _).mono ?_
  rintro en w1 ⟨rfl, hb⟩
  have H1 := Lib.hid (HS.out.below (fun hA hb => Hp.below hA hb) hb)
  clear hb
  obtain ⟨k0, k1, k2, k3, k4, k5, -, -, -, -, -, -, -, -⟩ := H1.out.cells
  simp only at k0 k1 k2 k3 k4 k5
  go_wp2_with fail
  refine (make_all _ H1.out.hp HF.out.2.1 c t HF.out.2.2.2).mono ?_
  rintro en w2 ⟨f1, rfl, h1, s1⟩
  have H2 := Lib.hid (H1.out.turn h1 s1 h1.lt)
  clear h1 s1 k0 k1 k2 k3 k4 k5
  obtain ⟨-, -, -, -, -, -, r0, r1, rf0, rf1, g0, g1, gf0, gf1⟩ := H2.out.cells
  go_wp2_with fail
  refine bodyPost_ret (v := gotV (makeV D c) ⟨#[]⟩) (by rw [results_cell1 (by rfl)]; go_simp) rfl ?_
  have H3 := (H2.out.word (fun hA hs => Hp.stays hA hs) (makeV D c)).done (fun hA hs => Hp.stays hA hs)
  exact ⟨f1, rfl, (H3 _ _).1, (H3 _ _).2⟩

set_option maxRecDepth 100000 in
set_option maxHeartbeats 4000000 in
theorem do_6 (h : Hp W B p D f) (hf : D.faults < 1000000) (hl : D.L.length < 1000000) (b : Nat) (c o n : Int) (t : ByteArray) (hx2 : b < 18446744073709551616) (hx6 : t.size ≤ 281474976710656) (hr : rightA ⟨6, b, c, o, n, t⟩ = true) : DoneAt B p D f W ⟨6, b, c, o, n, t⟩ := by
  have HS := Lib.hid (Doi.start (x := ⟨6, b, c, o, n, t⟩) (H := HpH B p) h h.lt (fun hA hb => Hp.below hA hb))
  have HR := Lib.hid (fun X => right_any 6 b c o n t X)
  rw [hr] at HR
  have HF := Lib.hid (And.intro hf (And.intro hl (And.intro hx2 hx6)))
  unfold DoneAt
  clear h hf hl hx2 hx6 hr
  go_enter Try.func15, Try.ntmps15
  go_wp2_with fail
  refine (HR.out _).mono ?_
  rintro en w1 ⟨rfl, hb⟩
  have H1 := Lib.hid (HS.out.below (fun hA hb => Hp.below hA hb) hb)
  clear hb
  obtain ⟨k0, k1, k2, k3, k4, k5, -, -, -, -, -, -, -, -⟩ := H1.out.cells
  simp only at k0 k1 k2 k3 k4 k5
  go_wp2_with fail
  refine (words_any _ H1.out.hp HF.out.1 b HF.out.2.2.1).mono ?_
  rintro en w2 ⟨f1, rfl, h1, s1⟩
  have H2 := Lib.hid (H1.out.turn h1 s1 h1.lt)
  clear h1 s1 k0 k1 k2 k3 k4 k5
  obtain ⟨-, -, -, -, -, -, r0, r1, rf0, rf1, g0, g1, gf0, gf1⟩ := H2.out.cells
  go_wp2_with fail
  refine bodyPost_ret (v := gotV 0 (textAt D.L b)) (by rw [results_cell1 (by rfl)]; go_simp) rfl ?_
  have H3 := (H2.out.text (fun hA hs => Hp.stays hA hs) (textAt D.L b)).done (fun hA hs => Hp.stays hA hs)
  exact ⟨f1, rfl, (H3 _ _).1, (H3 _ _).2⟩

set_option maxRecDepth 100000 in
set_option maxHeartbeats 4000000 in
theorem do_7 (h : Hp W B p D f) (hf : D.faults < 1000000) (hl : D.L.length < 1000000) (b : Nat) (c o n : Int) (t : ByteArray) (hx2 : b < 18446744073709551616) (hx6 : t.size ≤ 281474976710656) (hr : rightA ⟨7, b, c, o, n, t⟩ = true) : DoneAt B p D f W ⟨7, b, c, o, n, t⟩ := by
  have HS := Lib.hid (Doi.start (x := ⟨7, b, c, o, n, t⟩) (H := HpH B p) h h.lt (fun hA hb => Hp.below hA hb))
  have HR := Lib.hid (fun X => right_any 7 b c o n t X)
  rw [hr] at HR
  have HF := Lib.hid (And.intro hf (And.intro hl (And.intro hx2 hx6)))
  unfold DoneAt
  clear h hf hl hx2 hx6 hr
  go_enter Try.func15, Try.ntmps15
  go_wp2_with fail
  refine (HR.out _).mono ?_
  rintro en w1 ⟨rfl, hb⟩
  have H1 := Lib.hid (HS.out.below (fun hA hb => Hp.below hA hb) hb)
  clear hb
  obtain ⟨k0, k1, k2, k3, k4, k5, -, -, -, -, -, -, -, -⟩ := H1.out.cells
  simp only at k0 k1 k2 k3 k4 k5
  go_wp2_with fail
  refine (drop_any _ H1.out.hp HF.out.1 b HF.out.2.2.1).mono ?_
  rintro en w2 ⟨f1, rfl, h1, s1⟩
  have H2 := Lib.hid (H1.out.turn h1 s1 h1.lt)
  clear h1 s1 k0 k1 k2 k3 k4 k5
  obtain ⟨-, -, -, -, -, -, r0, r1, rf0, rf1, g0, g1, gf0, gf1⟩ := H2.out.cells
  go_wp2_with fail
  refine bodyPost_ret (v := gotV 0 ⟨#[]⟩) (by rw [results_cell1 (by rfl)]; go_simp) rfl ?_
  have H3 := H2.out.done (fun hA hs => Hp.stays hA hs)
  exact ⟨f1, rfl, (H3 _ _).1, (H3 _ _).2⟩

set_option maxRecDepth 100000 in
set_option maxHeartbeats 4000000 in
theorem do_8 (h : Hp W B p D f) (hf : D.faults < 1000000) (hl : D.L.length < 1000000) (b : Nat) (c o n : Int) (t : ByteArray) (hx2 : b < 18446744073709551616) (hx6 : t.size ≤ 281474976710656) (hr : rightA ⟨8, b, c, o, n, t⟩ = true) : DoneAt B p D f W ⟨8, b, c, o, n, t⟩ := by
  have HS := Lib.hid (Doi.start (x := ⟨8, b, c, o, n, t⟩) (H := HpH B p) h h.lt (fun hA hb => Hp.below hA hb))
  have HR := Lib.hid (fun X => right_any 8 b c o n t X)
  rw [hr] at HR
  have HF := Lib.hid (And.intro hf (And.intro hl (And.intro hx2 hx6)))
  have HL := Lib.hid (Eq.refl D.locked)
  obtain ⟨l, hlk⟩ : ∃ l, D.locked = l := ⟨_, rfl⟩
  rw [hlk] at HL
  have HV : Hid (actW D ⟨8, b, c, o, n, t⟩ = if l then 0 else 1) := Lib.hid (by unfold actW; rw [hlk]; rfl)
  unfold DoneAt
  have HLK := Lib.hid (fun X (hX : Hp X B p D f) => lock_any X hX)
  rw [hlk] at HLK
  clear h hf hl hx2 hx6 hr
  clear hlk HL
  cases l
  · go_enter Try.func15, Try.ntmps15
    go_wp2_with fail
    refine (HR.out _).mono ?_
    rintro en w1 ⟨rfl, hb⟩
    have H1 := Lib.hid (HS.out.below (fun hA hb => Hp.below hA hb) hb)
    clear hb
    obtain ⟨k0, k1, k2, k3, k4, k5, -, -, -, -, -, -, -, -⟩ := H1.out.cells
    simp only at k0 k1 k2 k3 k4 k5
    go_wp2_with fail
    refine (HLK.out _ H1.out.hp).mono ?_
    rintro en w2 ⟨f1, rfl, h1, s1⟩
    have H2 := Lib.hid (H1.out.turn h1 s1 h1.lt)
    clear h1 s1 k0 k1 k2 k3 k4 k5
    obtain ⟨-, -, -, -, -, -, r0, r1, rf0, rf1, g0, g1, gf0, gf1⟩ := H2.out.cells
    go_wp2_with fail
    refine bodyPost_ret (v := gotV 1 ⟨#[]⟩) (by rw [results_cell1 (by rfl)]; go_simp) rfl ?_
    have H3 := (H2.out.word (fun hA hs => Hp.stays hA hs) 1).done (fun hA hs => Hp.stays hA hs)
    rw [HV.out]
    exact ⟨f1, rfl, (H3 _ _).1, (H3 _ _).2⟩
  · go_enter Try.func15, Try.ntmps15
    go_wp2_with fail
    refine (HR.out _).mono ?_
    rintro en w1 ⟨rfl, hb⟩
    have H1 := Lib.hid (HS.out.below (fun hA hb => Hp.below hA hb) hb)
    clear hb
    obtain ⟨k0, k1, k2, k3, k4, k5, -, -, -, -, -, -, -, -⟩ := H1.out.cells
    simp only at k0 k1 k2 k3 k4 k5
    go_wp2_with fail
    refine (HLK.out _ H1.out.hp).mono ?_
    rintro en w2 ⟨f1, rfl, h1, s1⟩
    have H2 := Lib.hid (H1.out.turn h1 s1 h1.lt)
    clear h1 s1 k0 k1 k2 k3 k4 k5
    obtain ⟨-, -, -, -, -, -, r0, r1, rf0, rf1, g0, g1, gf0, gf1⟩ := H2.out.cells
    go_wp2_with fail
    refine bodyPost_ret (v := gotV 0 ⟨#[]⟩) (by rw [results_cell1 (by rfl)]; go_simp) rfl ?_
    have H3 := H2.out.done (fun hA hs => Hp.stays hA hs)
    rw [HV.out]
    exact ⟨f1, rfl, (H3 _ _).1, (H3 _ _).2⟩

set_option maxRecDepth 100000 in
set_option maxHeartbeats 4000000 in
theorem do_9 (h : Hp W B p D f) (hf : D.faults < 1000000) (hl : D.L.length < 1000000) (b : Nat) (c o n : Int) (t : ByteArray) (hx2 : b < 18446744073709551616) (hx6 : t.size ≤ 281474976710656) (hr : rightA ⟨9, b, c, o, n, t⟩ = true) : DoneAt B p D f W ⟨9, b, c, o, n, t⟩ := by
  have HS := Lib.hid (Doi.start (x := ⟨9, b, c, o, n, t⟩) (H := HpH B p) h h.lt (fun hA hb => Hp.below hA hb))
  have HR := Lib.hid (fun X => right_any 9 b c o n t X)
  rw [hr] at HR
  have HF := Lib.hid (And.intro hf (And.intro hl (And.intro hx2 hx6)))
  unfold DoneAt
  clear h hf hl hx2 hx6 hr
  go_enter Try.func15, Try.ntmps15
  go_wp2_with fail
  refine (HR.out _).mono ?_
  rintro en w1 ⟨rfl, hb⟩
  have H1 := Lib.hid (HS.out.below (fun hA hb => Hp.below hA hb) hb)
  clear hb
  obtain ⟨k0, k1, k2, k3, k4, k5, -, -, -, -, -, -, -, -⟩ := H1.out.cells
  simp only at k0 k1 k2 k3 k4 k5
  go_wp2_with fail
  refine (unlock_any _ H1.out.hp HF.out.1).mono ?_
  rintro en w2 ⟨f1, rfl, h1, s1⟩
  have H2 := Lib.hid (H1.out.turn h1 s1 h1.lt)
  clear h1 s1 k0 k1 k2 k3 k4 k5
  obtain ⟨-, -, -, -, -, -, r0, r1, rf0, rf1, g0, g1, gf0, gf1⟩ := H2.out.cells
  go_wp2_with fail
  refine bodyPost_ret (v := gotV 0 ⟨#[]⟩) (by rw [results_cell1 (by rfl)]; go_simp) rfl ?_
  have H3 := H2.out.done (fun hA hs => Hp.stays hA hs)
  exact ⟨f1, rfl, (H3 _ _).1, (H3 _ _).2⟩

set_option maxRecDepth 100000 in
set_option maxHeartbeats 4000000 in
theorem do_10 (h : Hp W B p D f) (hf : D.faults < 1000000) (hl : D.L.length < 1000000) (b : Nat) (c o n : Int) (t : ByteArray) (hx2 : b < 18446744073709551616) (hx6 : t.size ≤ 281474976710656) (hr : rightA ⟨10, b, c, o, n, t⟩ = true) : DoneAt B p D f W ⟨10, b, c, o, n, t⟩ := by
  have HS := Lib.hid (Doi.start (x := ⟨10, b, c, o, n, t⟩) (H := HpH B p) h h.lt (fun hA hb => Hp.below hA hb))
  have HR := Lib.hid (fun X => right_any 10 b c o n t X)
  rw [hr] at HR
  have HF := Lib.hid (And.intro hf (And.intro hl (And.intro hx2 hx6)))
  unfold DoneAt
  clear h hf hl hx2 hx6 hr
  go_enter Try.func15, Try.ntmps15
  go_wp2_with fail
  refine (HR.out _).mono ?_
  rintro en w1 ⟨rfl, hb⟩
  have H1 := Lib.hid (HS.out.below (fun hA hb => Hp.below hA hb) hb)
  clear hb
  obtain ⟨k0, k1, k2, k3, k4, k5, -, -, -, -, -, -, -, -⟩ := H1.out.cells
  simp only at k0 k1 k2 k3 k4 k5
  go_wp2_with fail
  refine (load_any _ H1.out.hp HF.out.1 b HF.out.2.2.1 c).mono ?_
  rintro en w2 ⟨f1, rfl, h1, s1⟩
  have H2 := Lib.hid (H1.out.turn h1 s1 h1.lt)
  clear h1 s1 k0 k1 k2 k3 k4 k5
  obtain ⟨-, -, -, -, -, -, r0, r1, rf0, rf1, g0, g1, gf0, gf1⟩ := H2.out.cells
  go_wp2_with fail
  refine bodyPost_ret (v := gotV (loadV D b c) ⟨#[]⟩) (by rw [results_cell1 (by rfl)]; go_simp) rfl ?_
  have H3 := (H2.out.word (fun hA hs => Hp.stays hA hs) (loadV D b c)).done (fun hA hs => Hp.stays hA hs)
  exact ⟨f1, rfl, (H3 _ _).1, (H3 _ _).2⟩

set_option maxRecDepth 100000 in
set_option maxHeartbeats 4000000 in
theorem do_any (W : World) (h : Hp W B p D f) (hf : D.faults < 1000000) (hl : D.L.length < 1000000) (x : ActD) (hx : x.fits) :
    Calls Try.prog 15 #[.pointer (some ⟨p, 0, none⟩), actV x.kind x.block x.cell x.old x.new x.text] W (HpR B p f W (gotV (doW D x) (doT D x)) (doN D x)) := by
  cases hr : rightA x with
  | true =>
    have hk := right_kind hr
    have e1 : doW D x = actW D x := by unfold doW; rw [hr]; rfl
    have e2 : doT D x = actT D x := by unfold doT; rw [hr]; rfl
    have e3 : doN D x = actN D x := by unfold doN; rw [hr]; rfl
    rw [e1, e2, e3]
    clear e1 e2 e3
    obtain ⟨k, b, c, o, n, t⟩ := x
    obtain ⟨-, hx2, -, -, -, hx6⟩ := hx
    simp only at hk hx2 hx6
    rcases hk with rfl | rfl | rfl | rfl | rfl | rfl | rfl | rfl | rfl | rfl | rfl
    · exact do_0 h hf hl b c o n t hx2 hx6 hr
    · exact do_1 h hf hl b c o n t hx2 hx6 hr
    · exact do_2 h hf hl b c o n t hx2 hx6 hr
    · exact do_3 h hf hl b c o n t hx2 hx6 hr
    · exact do_4 h hf hl b c o n t hx2 hx6 hr
    · exact do_5 h hf hl b c o n t hx2 hx6 hr
    · exact do_6 h hf hl b c o n t hx2 hx6 hr
    · exact do_7 h hf hl b c o n t hx2 hx6 hr
    · exact do_8 h hf hl b c o n t hx2 hx6 hr
    · exact do_9 h hf hl b c o n t hx2 hx6 hr
    · exact do_10 h hf hl b c o n t hx2 hx6 hr
  | false =>
    have HS := Lib.hid (Doi.start (x := x) (H := HpH B p) h h.lt (fun hA hb => Hp.below hA hb))
    have HR := Lib.hid (fun X => right_any x.kind x.block x.cell x.old x.new x.text X)
    rw [hr] at HR
    have e1 : doW D x = 0 := by unfold doW; rw [hr]; rfl
    have e2 : doT D x = ⟨#[]⟩ := by unfold doT; rw [hr]; rfl
    have e3 : doN D x = D := by unfold doN; rw [hr]; rfl
    rw [e1, e2, e3]
    obtain ⟨k, b, c, o, n, t⟩ := x
    simp only at HS HR ⊢
    clear h hf hl hr hx e1 e2 e3
    go_enter Try.func15, Try.ntmps15
    go_wp2_with fail
    refine (HR.out _).mono ?_
    rintro en w1 ⟨rfl, hb⟩
    have H1 := Lib.hid (HS.out.below (fun hA hb => Hp.below hA hb) hb)
    clear hb
    obtain ⟨-, -, -, -, -, -, r0, r1, rf0, rf1, g0, g1, gf0, gf1⟩ := H1.out.cells
    go_wp2_with fail
    refine bodyPost_ret (v := gotV 0 ⟨#[]⟩) (by rw [results_cell1 (by rfl)]; go_simp) rfl ?_
    have H3 := H1.out.done (fun hA hs => Hp.stays hA hs)
    exact ⟨f, rfl, (H3 _ _).1, (H3 _ _).2⟩
end

end Go.Proofs.Ytgigjbngocfkbaa
