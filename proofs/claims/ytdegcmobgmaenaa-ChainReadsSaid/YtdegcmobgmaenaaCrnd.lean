/-
  Between two calls: the config's box, a heap with a control block, rows beside them; a version is pushed, a chain is read; and the chapter's example.
-/
import Derived.Test.YtdegcmobgmaenaaCpush
namespace Go.Proofs.Ytdegcmobgmaenaa
open Go Go.RowKit
attribute [local go_sem ↓] Go.wp_at_zero Go.wp_at_succ

section
variable {W X Y : World} {a p s q v x : Int} {B hp r m : Nat} {D : HpD} {ks : List (Nat × Obj)} {o : Obj} {E : ChnD} {k z : Int} {V : Nat → VsnD} {n : Nat}
/-- A routine that has done stays as it is. -/
theorem Rnf.rest (h : Rnf ChnM W a p s q v x B hp D ks r m E X) : Rnd W a p s q v x B hp D ((r, chnO E) :: ks) X := by
  obtain ⟨f, h1, h2⟩ := h.pl
  obtain ⟨fh, fr, h3, h4, h5, rfl, h6⟩ := h1
  have h4' : ChnAt X B r E fr := h4
  have hB := h.hB
  have hb := h4'.base
  refine ⟨h.cf, h.lo, hB, fh, h3, fun u hu => ?_⟩
  rcases List.mem_cons.1 hu with rfl | hu
  · exact ⟨h4'.own, by show W.heap.size < r; omega, fun hf => h5 _ hf (by rw [h4'.foot])⟩
  · exact ⟨(h2 u hu).1, (h2 u hu).2.1, fun hf => (h2 u hu).2.2 (.inl hf)⟩
theorem rnd_push (h : Rnd W a p s q v x B hp D ks X) (hS : Shl k z D V n) (hn : n ≤ 1000) {sh : Int} (hk : headW a p s q v sh = k) {ep : Int} (he : 0 ≤ ep ∧ ep < 18446744073709551616) (key : ByteArray) (has : Bool) {val : ByteArray} (hv : val.size ≤ 4096) :
    Calls Try.prog 7 #[.pointer (some ⟨hp, 0, none⟩), cfV a p s q v x, .int .i64 sh, .int .u64 ep, .agg #[.string key, .bool has, .string val]] X
      (fun e Y => e = .returned (.int .u64 ((D.L.length + 1 : Nat) : Int)) ∧ Rnd W a p s q v x B hp (pushD D k ep has (putT has val)) ks Y) := by
  obtain ⟨f, h1, h2⟩ := h.hh
  refine (push_any X h1 hS hn a p s q v x sh hk ep he key has val hv).mono fun e Y hE => ?_
  obtain ⟨f', rfl, h3, st⟩ := hE
  exact ⟨rfl, h.turn h1 h2 h3 st⟩
def CnewQ (W : World) (a p s q v x : Int) (B hp : Nat) (D : HpD) (ks : List (Nat × Obj)) (m : Nat) (E : ChnD) (e : Ending) (Y : World) : Prop := ∃ r, e = .returned (.pointer (some ⟨r, 0, none⟩)) ∧ Rnf ChnM W a p s q v x B hp D ks r m E Y
theorem rnd_cnew (h : Rnd W a p s q v x B hp D ks X) (hF : FewD D m) {sh : Int} (hk : headW a p s q v sh = k) (h0 : 0 ≤ k ∧ k ≤ 100000) {ep : Int} (he : 0 ≤ ep ∧ ep < 18446744073709551616) :
    Calls Try.prog 8 #[cfV a p s q v x, .int .i64 sh, .int .u64 ep] X (CnewQ W a p s q v x B hp D ks m (newC k ep)) := by
  subst hk
  refine (cnew_any X a p s q v x sh ep h0.1).mono fun e Y hE => ?_
  obtain ⟨r, rfl, hr, ho, hb⟩ := hE
  have hs : B ≤ X.heap.size := by obtain ⟨f, h1, _⟩ := h.hh; exact h1.size
  exact ⟨r, rfl, h.start (M := ChnM) (fr := fun j => j = r) hF (show ChnAt Y B r _ _ from ⟨ho, rfl, Nat.le_trans hs hr, newC_fits (by omega) he⟩) (fun j hj => by omega) hb⟩
theorem rnf_crun {ep : Int} (h : Rnf ChnM W a p s q v x B hp D ks r m (newC k ep) X) (hS : Shl k z D V n) (hn : n ≤ 1000) (l : Nat) (h4 : 2 * n + 4 ≤ l) (hl : l ≤ 1000000) (hlm : l ≤ m) :
    Calls Try.prog 9 #[.pointer (some ⟨hp, 0, none⟩), .iface 37 (.pointer (some ⟨r, 0, none⟩)), .int .i64 (l : Int)] X
      (fun e Y => e = .returned (.tuple #[.int .i64 ((1 + actsC V ep n : Nat) : Int), .bool true]) ∧ Rnf ChnM W a p s q v x B hp D ks r (m - l) (endC k V ep n 0) Y) := by
  obtain ⟨b, hw, hd⟩ := hS.down
  obtain ⟨e1, e2⟩ := chain_alone (at_ := ep) hS.inn.1 hS.spot hw hd hn l h4
  refine (show Calls Try.prog 9 #[.pointer (some ⟨hp, 0, none⟩), .iface 37 (.pointer (some ⟨r, 0, none⟩)), .int .i64 (l : Int)] X _ from rnf_alone h l hl hlm).mono fun e Y he => ?_
  obtain ⟨rfl, h2⟩ := he
  rw [e1] at h2 ⊢
  rw [e2]
  exact ⟨rfl, h2⟩
theorem rnf_cres (h : Rnf ChnM W a p s q v x B hp D ks r m E X) (h6 : E.asks = 6) :
    Calls Try.prog 10 #[.pointer (some ⟨r, 0, none⟩)] X fun e Y => e = .returned (.tuple #[valV E.has E.text E.block, .bool true]) ∧ Rnd W a p s q v x B hp D ((r, chnO E) :: ks) Y := by
  have h1 := h.rest
  exact (cres_any X (h1.kept (List.mem_cons_self ..)) h6).mono fun e Y he => ⟨he.1, h1.below he.2⟩
theorem rnd_cpassed (h : Rnd W a p s q v x B hp D ks X) (hm : (r, chnO E) ∈ ks) :
    Calls Try.prog 11 #[.pointer (some ⟨r, 0, none⟩)] X fun e Y => e = .returned (.int .i64 E.passed) ∧ X = Y := cpassed_any X (h.kept hm)
end

/-! ### the example -/
abbrev awN : Nat → VsnD := fun j => if j = 0 then ⟨3, true, ⟨#[118]⟩, 2⟩ else ⟨6, false, ⟨#[]⟩, 3⟩
theorem awc_right : rightC 2 2 3 2 1 = true := by decide
theorem awc_head : headW 2 2 3 2 1 1 = 10 := by decide
theorem awc_s0 : Shl 10 13 (fieldD 13) awN 0 := Shl.start (k := 10) (z := 13) awN (by decide) (by decide)
theorem awc_s1 : Shl 10 13 (pushD (fieldD 13) 10 3 true ⟨#[118]⟩) awN 1 := awc_s0.push rfl (by decide) (by decide) (by decide)
theorem awc_s2 : Shl 10 13 (pushD (pushD (fieldD 13) 10 3 true ⟨#[118]⟩) 10 6 false ⟨#[]⟩) awN 2 := awc_s1.push rfl (by decide) (by decide) (by decide)

set_option maxRecDepth 100000 in
set_option maxHeartbeats 4000000 in
theorem cawake_any (W : World) : Calls Try.prog 5 #[] W (Says true W) := by
  go_enter Try.func5, Try.ntmps5
  go_wp2_with fail
  refine (tiny_any _).mono ?_
  rintro en w1 ⟨rfl, hb⟩
  have B1 := Lib.hid hb
  clear hb
  have X1 := Lib.hid (BoxC.start w1 2 2 3 2 1 0)
  obtain ⟨c0, c1, c2, c3, c4, c5⟩ := X1.out.six
  go_wp2_with fail
  refine (field_any _ 2 2 3 2 1 0 awc_right).mono ?_
  rintro en w2 ⟨B, p, f2, rfl, hB, h2, hb⟩
  have R2 := Lib.hid (rnd_begin (X1.out.below hb) h2 (Nat.lt_of_lt_of_le (by simp) hB))
  have hz : (sizeW 2 2 3 2 1).toNat = 13 := by decide
  rw [hz] at R2
  clear h2 hb hB c0 c1 c2 c3 c4 c5 X1 hz
  obtain ⟨c0, c1, c2, c3, c4, c5⟩ := R2.out.six
  go_wp2_with fail
  refine (rnd_cnew R2.out (awc_s0.few (m := 1000) (by omega) (by omega)) (sh := 1) awc_head (by omega) (ep := 5) (by omega)).mono ?_
  rintro en w3 ⟨r, rfl, h3⟩
  have R3 := Lib.hid h3
  clear h3 R2 c0 c1 c2 c3 c4 c5
  go_wp2_with fail
  refine (rnf_crun R3.out awc_s0 (by omega) 9 (by omega) (by omega) (by omega)).mono ?_
  rintro en w4 ⟨rfl, h4⟩
  have R4 := Lib.hid h4.drop
  have e1 : ((1 + actsC awN 5 0 : Nat) : Int) = 1 := rfl
  rw [e1]
  clear h4 R3 e1
  obtain ⟨c0, c1, c2, c3, c4, c5⟩ := R4.out.six
  go_wp2_with fail
  refine (rnd_push R4.out awc_s0 (by omega) (sh := 1) awc_head (ep := 3) (by omega) ⟨#[]⟩ true (val := ⟨#[118]⟩) (by decide)).mono ?_
  rintro en w5 ⟨rfl, h5⟩
  have R5 := Lib.hid (show Rnd w1 2 2 3 2 1 0 B p (pushD (fieldD 13) 10 3 true ⟨#[118]⟩) [] w5 from h5)
  clear h5 R4 c0 c1 c2 c3 c4 c5
  obtain ⟨c0, c1, c2, c3, c4, c5⟩ := R5.out.six
  go_wp2_with fail
  refine (rnd_push R5.out awc_s1 (by omega) (sh := 1) awc_head (ep := 6) (by omega) ⟨#[]⟩ false (val := ⟨#[]⟩) (by decide)).mono ?_
  rintro en w6 ⟨rfl, h6⟩
  have R6 := Lib.hid (show Rnd w1 2 2 3 2 1 0 B p (pushD (pushD (fieldD 13) 10 3 true ⟨#[118]⟩) 10 6 false ⟨#[]⟩) [] w6 from h6)
  clear h6 R5 c0 c1 c2 c3 c4 c5
  obtain ⟨c0, c1, c2, c3, c4, c5⟩ := R6.out.six
  go_wp2_with fail
  refine (rnd_cnew R6.out (awc_s2.few (m := 1000) (by omega) (by omega)) (sh := 1) awc_head (by omega) (ep := 5) (by omega)).mono ?_
  rintro en w7 ⟨r2, rfl, h7⟩
  have R7 := Lib.hid h7
  clear h7 R6 c0 c1 c2 c3 c4 c5
  go_wp2_with fail
  refine (rnf_crun R7.out awc_s2 (by omega) 9 (by omega) (by omega) (by omega)).mono ?_
  rintro en w8 ⟨rfl, h8⟩
  have R8 := Lib.hid (show Rnf ChnM w1 2 2 3 2 1 0 B p _ [] r2 _ (⟨10, 5, 6, 1, true, ⟨#[118]⟩, 2⟩ : ChnD) w8 from h8)
  have e1 : ((1 + actsC awN 5 2 : Nat) : Int) = 6 := rfl
  rw [e1]
  clear h8 R7 e1
  go_wp2_with fail
  refine (rnf_cres R8.out rfl).mono ?_
  rintro en w9 ⟨rfl, h9⟩
  have R9 := Lib.hid (h9.add (valO true ⟨#[118]⟩ 2))
  clear h9 R8
  go_wp2_with fail
  obtain ⟨g, hg⟩ : ∃ g, w9.heap.size = g := ⟨_, rfl⟩
  generalize hw : w9.alloc (valO true ⟨#[118]⟩ 2) = w10 at R9 ⊢
  rw [hg] at R9 ⊢
  clear hg hw
  refine (cact_nil _).mono ?_
  rintro en w11 ⟨rfl, hb⟩
  have R11 := Lib.hid (R9.out.below (hb.trans ((below_alloc w11 (actO noAct)).mono hb.size)))
  clear hb R9
  obtain ⟨v0, v1, v2⟩ := val_at (R11.out.kept (List.mem_cons_self ..))
  go_wp2_with fail
  refine (rnd_cpassed R11.out (r := r2) (List.mem_cons_of_mem _ (List.mem_cons_self ..))).mono ?_
  rintro en w12 ⟨rfl, rfl⟩
  go_wp2_with fail
  refine (cpassed_nil _).mono ?_
  rintro en w13 ⟨rfl, rfl⟩
  go_wp2_with fail
  go_ret
  exact Says.mk rfl (B1.out.trans (R11.out.lo.mono B1.out.size))

end Go.Proofs.Ytdegcmobgmaenaa
