/-
  A version beside a heap: it is laid, run alone, asked; and the chapter's example.
-/
import Derived.Test.YtnfepjolbhnhbaaVerm
namespace Go.Proofs.Ytnfepjolbhnhbaa
open Go Go.RowKit
attribute [local go_sem ↓] Go.wp_at_zero Go.wp_at_succ

theorem plm_ver {X Y : World} {B p r n : Nat} {D : HpD} {fh : Nat → Prop} {v : VerD} (h : Hp X B p D fh) (hF : FewD D n) (hv : v.fits) (hr : X.heap.size ≤ r) (ho : Y.heap[r]? = some (verO v)) (hb : Below X.heap.size X Y) : PlM VerM Y B p r ⟨D, v⟩ n (fun j => fh j ∨ j = r) :=
  ⟨fh, fun j => j = r, h.below hb, ⟨ho, rfl, Nat.le_trans h.size hr, hv⟩, fun j hj hj' => by have := h.lt j hj; omega, rfl, hF⟩
section
variable {W : World} {B p r n : Nat} {D : HpD} {f : Nat → Prop}
theorem ver_run {ep nx : Int} {has : Bool} {t : ByteArray} (h : PlM VerM W B p r ⟨D, ⟨ep, nx, has, t, 1, 0⟩⟩ n f) (ht : t.size ≤ 4096) (m : Nat) (h4 : 4 ≤ m) (hm : m ≤ 1000000) (hmn : m ≤ n) :
    Calls Try.prog 13 #[.pointer (some ⟨p, 0, none⟩), .iface 28 (.pointer (some ⟨r, 0, none⟩)), .int .i64 (m : Int)] W
      (PmR VerM B p r ⟨D.add (blkV [ep, nx, if has then 1 else 0] t), ⟨ep, nx, has, t, 5, D.L.length + 1⟩⟩ (n - m) (.tuple #[.int .i64 ((actsV nx has : Nat) : Int), .bool true]) f W) := by
  refine (show Calls Try.prog 13 #[.pointer (some ⟨p, 0, none⟩), .iface 28 (.pointer (some ⟨r, 0, none⟩)), .int .i64 (m : Int)] W _ from malone_any h m hm hmn).mono fun e W' he => ?_
  obtain ⟨rfl, g', h1, h2⟩ := he
  obtain ⟨e1, e2⟩ := ver_alone D ep nx has t ht m h4
  rw [e1] at h1 ⊢
  rw [e2]
  exact ⟨g', rfl, h1, h2⟩
theorem plm_result {v : VerD} (h : PlM VerM W B p r ⟨D, v⟩ n f) (hp : v.place = 5) : Calls Try.prog 9 #[.pointer (some ⟨r, 0, none⟩)] W fun e W' => e = .returned (.tuple #[.int .u64 (v.block : Int), .bool true]) ∧ W' = W := by
  obtain ⟨fh, fr, h1, h2, _⟩ := h
  have := result_any W h2
  rw [if_pos hp, decide_eq_true hp] at this
  exact this
end
section
variable {σ : Type} {M : Mach σ} {W : World} {B p r n : Nat} {S : PmS σ} {f : Nat → Prop}
theorem plm_load (h : PlM M W B p r S n f) (k : Nat) (hk : k < 18446744073709551616) (i : Int) (hs : spot S.D.L k i = 0) :
    Calls Try.prog 14 #[.pointer (some ⟨p, 0, none⟩), .int .u64 (k : Int), .int .i64 i] W (PmR M B p r S n (TwoV (wordAt S.D.L k i) 0) f W) := by
  obtain ⟨fh, fr, h1, h2, h3, rfl, h4⟩ := h
  refine (load_any W h1 (by have := h4.faults; omega) k hk i).mono fun e W' he => ?_
  have e1 : loadV S.D k i = wordAt S.D.L k i := by unfold loadV; rw [if_pos hs]
  have e2 : loadD S.D k i = S.D := by unfold loadD; rw [if_pos hs]
  rw [e1, e2, hs] at he
  obtain ⟨f', rfl, hp, hst⟩ := he
  exact ⟨_, rfl, ⟨f', fr, hp, M.stays h2 (fun j hj => hst.block j (M.lt h2 j hj) (fun hf => h3 j hf hj)), fun j hj hj' => (hst.foot j hj).elim (fun hf => h3 j hf hj') (fun hge => by have := M.lt h2 j hj'; omega), rfl, h4⟩, step_or hst fr⟩
theorem plm_words (h : PlM M W B p r S n f) (k : Nat) (hk : k < 18446744073709551616) (hs : there S.D.L k = 0) :
    Calls Try.prog 15 #[.pointer (some ⟨p, 0, none⟩), .int .u64 (k : Int)] W (PmR M B p r S n (.tuple #[.string (textAt S.D.L k), .int .i64 0]) f W) := by
  obtain ⟨fh, fr, h1, h2, h3, rfl, h4⟩ := h
  refine (words_any W h1 (by have := h4.faults; omega) k hk).mono fun e W' he => ?_
  have e2 : wordsD S.D k = S.D := by unfold wordsD; rw [if_pos hs]
  rw [e2, hs] at he
  obtain ⟨f', rfl, hp, hst⟩ := he
  exact ⟨_, rfl, ⟨f', fr, hp, M.stays h2 (fun j hj => hst.block j (M.lt h2 j hj) (fun hf => h3 j hf hj)), fun j hj hj' => (hst.foot j hj).elim (fun hf => h3 j hf hj') (fun hge => by have := M.lt h2 j hj'; omega), rfl, h4⟩, step_or hst fr⟩
theorem plm_size (h : PlM M W B p r S n f) (k : Nat) (hk : k < 18446744073709551616) : Calls Try.prog 18 #[.pointer (some ⟨p, 0, none⟩), .int .u64 (k : Int)] W fun e W' => e = .returned (.int .i64 (sizeAt S.D.L k)) ∧ W = W' := by
  obtain ⟨fh, fr, h1, _⟩ := h
  exact size_any W h1 k hk
theorem plm_faults (h : PlM M W B p r S n f) : Calls Try.prog 16 #[.pointer (some ⟨p, 0, none⟩)] W fun e W' => e = .returned (.int .i64 S.D.faults) ∧ W = W' := by
  obtain ⟨fh, fr, h1, _⟩ := h
  exact faults_any W h1
end
theorem few_empty (n : Nat) (hn : n ≤ 900000) : FewD emptyD n := ⟨by show 0 + n ≤ _; omega, by show 0 + n ≤ _; omega, fun b hb => by cases hb⟩
theorem newV_fits {ep nx : Int} {has : Bool} {val : ByteArray} (he : 0 ≤ ep ∧ ep < 18446744073709551616) (hn : 0 ≤ nx ∧ nx < 18446744073709551616) (hv : val.size ≤ 281474976710656) : (newV ep nx has val).fits := by
  refine ⟨he, hn, ?_, by show 1 ≤ 1 ∧ 1 ≤ 5; omega, by show 0 < 18446744073709551616; omega⟩
  show (if has then val else ⟨#[]⟩ : ByteArray).size ≤ _
  split
  · exact hv
  · exact Nat.zero_le _

/-! ### the example -/
abbrev awD : HpD := emptyD.add (blkV [2, 0, 0] ⟨#[]⟩)
abbrev awV : VerD := ⟨2, 0, false, ⟨#[]⟩, 5, 1⟩

set_option maxRecDepth 100000 in
set_option maxHeartbeats 4000000 in
theorem awake_any (W : World) : Calls Try.prog 5 #[] W (Says true W) := by
  go_enter Try.func5, Try.ntmps5
  go_wp2_with fail
  refine (new_any _).mono ?_
  rintro en w1 ⟨p, f1, rfl, h1, hb1⟩
  have H1 := Lib.hid h1
  have B1 := Lib.hid hb1
  clear h1 hb1
  go_wp2_with fail
  refine (newv_any w1 2 0 ⟨#[107]⟩ false ⟨#[]⟩ (by decide)).mono ?_
  rintro en w2 ⟨r, rfl, hr, ho, hb2⟩
  have P2 := Lib.hid (show PlM VerM w2 W.heap.size p r ⟨emptyD, ⟨2, 0, false, ⟨#[]⟩, 1, 0⟩⟩ 100 _ from plm_ver H1.out (few_empty 100 (by omega)) (newV_fits (ep := 2) (nx := 0) (has := false) (val := ⟨#[]⟩) (by omega) (by omega) (by decide)) hr ho hb2)
  have B2 := Lib.hid (B1.out.trans (hb2.mono B1.out.size))
  clear hr ho hb2 H1 B1
  go_wp2_with fail
  refine (ver_run P2.out (by decide) 9 (by omega) (by omega) (by omega)).mono ?_
  rintro en w3 ⟨f3, rfl, h3, s3⟩
  have P3 := Lib.hid (show PlM VerM w3 W.heap.size p r ⟨awD, awV⟩ 91 f3 from h3)
  have B3 := Lib.hid (B2.out.trans (s3.below B2.out.size P2.out.base))
  have e1 : ((actsV 0 false : Nat) : Int) = 2 := rfl
  rw [e1]
  clear h3 s3 P2 B2 e1
  go_wp2_with fail
  refine (plm_result P3.out rfl).mono ?_
  rintro en w4 ⟨rfl, rfl⟩
  go_wp2_with fail
  refine (show Calls _ _ _ _ (PmR VerM W.heap.size p r ⟨awD, awV⟩ 91 (TwoV 2 0) f3 w4) from plm_load P3.out 1 (by omega) 0 rfl).mono ?_
  rintro en w5 ⟨f5, rfl, h5, s5⟩
  have P5 := Lib.hid h5
  have B5 := Lib.hid (B3.out.trans (s5.below B3.out.size P3.out.base))
  clear h5 s5 P3 B3
  go_wp2_with fail
  refine (result_nil _).mono ?_
  rintro en w6 ⟨rfl, rfl⟩
  go_wp2_with fail
  refine (show Calls _ _ _ _ (fun e W' => e = .returned (.int .i64 3) ∧ w6 = W') from plm_size P5.out 1 (by omega)).mono ?_
  rintro en w7 ⟨rfl, rfl⟩
  go_wp2_with fail
  go_ret
  exact Says.mk rfl B5.out

end Go.Proofs.Ytnfepjolbhnhbaa
