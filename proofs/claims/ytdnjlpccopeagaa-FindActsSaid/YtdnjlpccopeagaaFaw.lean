/-
  A control block on a heap of its own, a routine beside it, run alone; and the chapter's example.
-/
import Derived.Test.YtdnjlpccopeagaaFfield
namespace Go.Proofs.Ytdnjlpccopeagaa
open Go Go.RowKit
attribute [local go_sem ↓] Go.wp_at_zero Go.wp_at_succ

theorem plm_find {X Y : World} {B p r n : Nat} {D : HpD} {fh : Nat → Prop} {E : FindR} (h : Hp X B p D fh) (hF : FewD D n) (hv : E.fits) (hr : X.heap.size ≤ r) (ho : Y.heap[r]? = some (fndO E)) (hb : Below X.heap.size X Y) : PlM FindM Y B p r ⟨D, E⟩ n (fun j => fh j ∨ j = r) :=
  ⟨fh, fun j => j = r, h.below hb, ⟨ho, rfl, Nat.le_trans h.size hr, hv⟩, fun j hj hj' => by have := h.lt j hj; omega, rfl, hF⟩
/-- A heap, and a routine that lies there. -/
theorem plm_parts {X : World} {B p r n : Nat} {D : HpD} {f : Nat → Prop} {E : FindR} (h : PlM FindM X B p r ⟨D, E⟩ n f) : ∃ fh, Hp X B p D fh ∧ X.heap[r]? = some (fndO E) := by
  obtain ⟨fh, fr, h1, h2, _⟩ := h
  exact ⟨fh, h1, h2.own⟩
theorem find_run {W : World} {B p r n : Nat} {D : HpD} {K : Shelves} {d : FindR} {f : Nat → Prop} (h : PlM FindM W B p r ⟨D, lookN d 0⟩ n f) (hK : Field d D K) (hr : rightC d.a d.p d.s d.q d.v = true) (m : Nat) (h4 : 2 * d.s ≤ (m : Int)) (hm : m ≤ 1000000) (hmn : m ≤ n) :
    Calls Try.prog 15 #[.pointer (some ⟨p, 0, none⟩), .iface 27 (.pointer (some ⟨r, 0, none⟩)), .int .i64 (m : Int)] W
      (PmR FindM B p r ⟨D, (findK K d d.s.toNat 0).1⟩ (n - m) (.tuple #[.int .i64 (((findK K d d.s.toNat 0).2 : Nat) : Int), .bool true]) f W) := by
  refine (show Calls Try.prog 15 #[.pointer (some ⟨p, 0, none⟩), .iface 27 (.pointer (some ⟨r, 0, none⟩)), .int .i64 (m : Int)] W _ from malone_any h m hm hmn).mono fun e W' he => ?_
  obtain ⟨rfl, g', h1, h2⟩ := he
  obtain ⟨e1, e2, e3⟩ := find_alone hK hr m h4
  rw [e1] at h1 ⊢
  rw [e2]
  refine ⟨g', ?_, h1, h2⟩
  show Ending.returned (.tuple #[_, .bool (!(nextF (findK K d d.s.toNat 0).1).isSome)]) = _
  rw [e3]; rfl
/-- What it found. -/
theorem plm_result {W : World} {B p r n : Nat} {D : HpD} {E : FindR} {f : Nat → Prop} (h : PlM FindM W B p r ⟨D, E⟩ n f) (hk : E.k ≠ 0) : Calls Try.prog 10 #[.pointer (some ⟨r, 0, none⟩)] W (ResE E.k E.sh true W) := by
  obtain ⟨fh, fr, h1, h2, _⟩ := h
  refine fres_any W h2.own rfl rfl ?_
  have : (E.k == 0) = false := by simpa using hk
  simp [this]

/-! ### a control block -/
def FieldR (z : Int) (W : World) (e : Ending) (W' : World) : Prop := ∃ B b f, e = .returned (.pointer (some ⟨b, 0, none⟩)) ∧ W.heap.size ≤ B ∧ Hp W' B b (fieldD z.toNat) f ∧ Below W.heap.size W W'
set_option maxRecDepth 100000 in
set_option maxHeartbeats 2000000 in
theorem field_any (W : World) (a p s q v x : Int) (hr : rightC a p s q v = true) : Calls Try.prog 14 #[cfV a p s q v x] W (FieldR (sizeW a p s q v) W) := by
  obtain ⟨ha, hp, hs⟩ := rightC_bd hr
  have hz : sizeW a p s q v = 3 + p + a + 2 * s := if_pos hr
  obtain ⟨z, hzz⟩ : ∃ z, sizeW a p s q v = z := ⟨_, rfl⟩
  have HZ := Lib.hid (fun X : World => (by have := csize_any a p s q v x X; rw [hzz] at this; exact this : Calls Try.prog 31 #[cfV a p s q v x] X (Tells z X)))
  have hmk : okay z = true := by unfold okay; rw [← hzz, hz]; exact decide_eq_true (by omega)
  have HD := Lib.hid (show makeD emptyD z ⟨#[]⟩ = fieldD z.toNat from by unfold makeD fieldD; rw [hmk, if_pos rfl])
  have HMk := Lib.hid (fun (X : World) (b : Nat) (f : Nat → Prop) (B : Nat) (hX : Hp X B b emptyD f) => make_all X hX (by show 0 < 1000000; omega) z ⟨#[]⟩ (by show (⟨#[]⟩ : ByteArray).size ≤ _; exact Nat.zero_le _))
  rw [hzz]
  have X0 := Lib.hid (BoxC.start W a p s q v x)
  clear ha hp hs hz hzz hmk hr
  go_enter Try.func14, Try.ntmps14
  go_wp2_with fail
  refine (new_any _).mono ?_
  rintro en w1 ⟨b, f1, rfl, h1, hb1⟩
  have X1 := Lib.hid (X0.out.below hb1)
  have H1 := Lib.hid h1
  clear h1 hb1 X0
  obtain ⟨c0, c1, c2, c3, c4, c5⟩ := X1.out.six
  go_wp2_with fail
  refine (HZ.out _).mono ?_
  rintro en w2 ⟨rfl, hb⟩
  have X2 := Lib.hid (X1.out.below hb)
  have H2 := Lib.hid (H1.out.below hb)
  clear hb c0 c1 c2 c3 c4 c5 X1 H1
  go_wp2_with fail
  refine (HMk.out _ b _ _ H2.out).mono ?_
  rintro en w3 ⟨f3, rfl, h3, s3⟩
  have HE := Lib.hid (show FieldR z W (.returned (.pointer (some ⟨b, 0, none⟩))) w3 from by
    rw [HD.out] at h3
    exact ⟨_, b, f3, rfl, by simp, h3, X2.out.lo.trans (s3.below X2.out.lo.size (fun k hk => H2.out.base k (by rw [World.size_alloc]; omega)))⟩)
  clear h3 s3
  go_wp2_with fail
  go_ret
  exact HE.out

/-! ### the example -/
theorem tiny_any (W : World) : Calls Try.prog 20 #[] W fun e W' => e = .returned (cfV 2 2 3 2 1 0) ∧ Below W.heap.size W W' := by
  have HZ := Lib.hid (World.alloc_heap_new W (.cells #[.int .i64 0, .int .i64 0, .int .i64 0, .int .i64 0, .int .i64 0, .int .u64 0] 24))
  obtain ⟨z0, z1, z2, z3, z4, z5⟩ := six_free HZ.out
  obtain ⟨m0, m1, m2, m3, m4, m5⟩ := six_at HZ.out
  go_enter Try.func20, Try.ntmps20
  go_wp2_with fail
  refine bodyPost_ret (v := cfV 2 2 3 2 1 0) (by rw [results_cell1 (by rfl)]; go_simp) rfl ⟨rfl, ?_⟩
  exact below_alloc _ _

theorem field_few {z : Int} {n : Nat} (hn : n ≤ 800000) : FewD (fieldD z.toNat) n := by
  refine ⟨by show 0 + n ≤ _; omega, by show 1 + n ≤ _; omega, fun b hb => ?_⟩
  have hb' : b = ⟨List.replicate z.toNat 0, ⟨#[]⟩, false⟩ := by
    have : b ∈ [(⟨List.replicate z.toNat 0, ⟨#[]⟩, false⟩ : BlkD)] := hb
    simpa using this
  subst hb'
  exact ⟨fun w hw => by rw [List.eq_of_mem_replicate hw]; omega, by show (⟨#[]⟩ : ByteArray).size ≤ _; exact Nat.zero_le _⟩
abbrev awF : FindR := newF 2 2 3 2 1 0 ⟨#[107]⟩
theorem aw_right : rightC 2 2 3 2 1 = true := by decide
theorem aw_field : Field awF (fieldD (sizeW 2 2 3 2 1).toNat) (fun _ => none) := Field.start awF (by rfl)

set_option maxRecDepth 100000 in
set_option maxHeartbeats 4000000 in
theorem awake_any (W : World) : Calls Try.prog 6 #[] W (Says true W) := by
  go_enter Try.func6, Try.ntmps6
  go_wp2_with fail
  refine (tiny_any _).mono ?_
  rintro en w1 ⟨rfl, hb⟩
  have B1 := Lib.hid hb
  clear hb
  go_wp2_with fail
  refine (field_any w1 2 2 3 2 1 0 aw_right).mono ?_
  rintro en w2 ⟨B, p, f2, rfl, hB, h2, hb⟩
  have H2 := Lib.hid h2
  have B2 := Lib.hid (B1.out.trans (hb.mono B1.out.size))
  have HBB := Lib.hid (show W.heap.size ≤ B from Nat.le_trans B1.out.size hB)
  clear h2 hb hB B1
  go_wp2_with fail
  refine (tiny_any _).mono ?_
  rintro en w3 ⟨rfl, hb⟩
  have H3 := Lib.hid (H2.out.below hb)
  have B3 := Lib.hid (B2.out.trans (hb.mono B2.out.size))
  clear hb B2 H2
  go_wp2_with fail
  refine (fnew_any w3 2 2 3 2 1 0 ⟨#[107]⟩ aw_right (by decide)).mono ?_
  rintro en w4 ⟨r, rfl, hr, ho, hb⟩
  have P4 := Lib.hid (plm_find H3.out (field_few (z := sizeW 2 2 3 2 1) (n := 100) (by omega)) (newF_fits aw_right ⟨#[107]⟩) hr ho hb)
  have B4 := Lib.hid (B3.out.trans (hb.mono B3.out.size))
  clear hr ho hb H3 B3
  go_wp2_with fail
  refine (find_run P4.out aw_field aw_right 9 (by decide) (by omega) (by omega)).mono ?_
  rintro en w5 ⟨f5, rfl, h5, s5⟩
  obtain ⟨q1, q2, q3⟩ := findK_empty (d := awF) (by decide)
  have P5 := Lib.hid h5
  have B5 := Lib.hid (B4.out.trans (s5.below B4.out.size (fun k hk => P4.out.base k (Nat.lt_of_lt_of_le hk HBB.out))))
  rw [q3]
  have HRs := Lib.hid (plm_result P5.out (by rw [q1]; decide))
  rw [q1, q2] at HRs
  clear h5 s5 P4 B4 q1 q2 q3
  go_wp2_with fail
  refine HRs.out.mono ?_
  rintro en w6 ⟨rfl, hb⟩
  have P6 := Lib.hid (P5.out.below hb)
  have B6 := Lib.hid (B5.out.trans (hb.mono B5.out.size))
  clear hb HRs P5 B5
  obtain ⟨g, hg⟩ : ∃ g, awF.way 0 = g := ⟨_, rfl⟩
  rw [hg]
  obtain ⟨fh, hh, -⟩ := plm_parts P6.out
  have hd6 := below_alloc w6 (fouO 2 g)
  have H7 := Lib.hid (hh.below hd6)
  have B7 := Lib.hid (B6.out.trans (hd6.mono B6.out.size))
  have N7 := Lib.hid (World.alloc_heap_new w6 (fouO 2 g))
  clear hh hd6 P6 B6 hg
  go_wp2_with fail
  generalize w6.heap.size = m at N7 ⊢
  generalize w6.alloc (fouO 2 g) = w7 at H7 B7 N7 ⊢
  refine (fact_nil _).mono ?_
  rintro en w8 ⟨rfl, hb⟩
  have hx := hb.trans ((below_alloc w8 (actO noAct)).mono hb.size)
  have H8 := Lib.hid (H7.out.below hx)
  have B8 := Lib.hid (B7.out.trans (hx.mono B7.out.size))
  have N8 := Lib.hid ((hx.block _ (heap_at_lt N7.out)).trans N7.out)
  clear hb hx H7 B7 N7
  go_wp2_with fail
  generalize w8.alloc (actO noAct) = w9 at H8 B8 N8 ⊢
  refine (fnew_bad w9 0 0 0 0 0 0 ⟨#[107]⟩ (by decide)).mono ?_
  rintro en w10 ⟨r2, rfl, hr, ho, hb⟩
  have H10 := Lib.hid (H8.out.below hb)
  have B10 := Lib.hid (B8.out.trans (hb.mono B8.out.size))
  have N10 := Lib.hid ((hb.block _ (heap_at_lt N8.out)).trans N8.out)
  have HO := Lib.hid ho
  clear hb hr ho H8 B8 N8
  go_wp2_with fail
  refine (fact_any w10 HO.out (y := noAct) (q := false) rfl (fun w => neqA_same _ _ _ _ _ _ w)).mono ?_
  rintro en w11 ⟨rfl, hb⟩
  have hx := hb.trans ((below_alloc w11 (actO noAct)).mono hb.size)
  have H12 := Lib.hid (H10.out.below hx)
  have B12 := Lib.hid (B10.out.trans (hx.mono B10.out.size))
  have N12 := (hx.block _ (heap_at_lt N10.out)).trans N10.out
  clear hb hx H10 B10 N10 HO
  obtain ⟨c0, c1⟩ := two_at N12
  go_wp2_with fail
  refine (show Calls _ _ _ _ (fun e W' => e = .returned (.int .i64 0) ∧ _ = W') from faults_any _ H12.out).mono ?_
  rintro en w13 ⟨rfl, rfl⟩
  go_wp2_with fail
  go_ret
  exact Says.mk rfl B12.out

end Go.Proofs.Ytdnjlpccopeagaa
