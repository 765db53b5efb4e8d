/-
  A config's control block on a heap of its own: the statements' Field and Tiny.
-/
import Derived.Test.YtgigjbngocfkbaaCfg
import Derived.Test.YtgigjbngocfkbaaMrun
namespace Go.Proofs.Ytgigjbngocfkbaa
open Go Go.RowKit
attribute [local go_sem ↓] Go.wp_at_zero Go.wp_at_succ

def fieldD (n : Nat) : HpD := emptyD.add ⟨List.replicate n 0, ⟨#[]⟩, false⟩

def FieldR (z : Int) (W : World) (e : Ending) (W' : World) : Prop := ∃ B b f, e = .returned (.pointer (some ⟨b, 0, none⟩)) ∧ W.heap.size ≤ B ∧ Hp W' B b (fieldD z.toNat) f ∧ Below W.heap.size W W'

set_option maxRecDepth 100000 in
set_option maxHeartbeats 2000000 in
theorem field_any (W : World) (a p s q v x : Int) (hr : rightC a p s q v = true) : Calls Try.prog 14 #[cfV a p s q v x] W (FieldR (sizeW a p s q v) W) := by
  obtain ⟨ha, hp, hs⟩ := rightC_bd hr
  have hz : sizeW a p s q v = 3 + p + a + 2 * s := if_pos hr
  obtain ⟨z, hzz⟩ : ∃ z, sizeW a p s q v = z := ⟨_, rfl⟩
  have HZ := Lib.hid (fun X : World => (by have := csize_any a p s q v x X; rw [hzz] at this; exact this : Calls Try.prog 34 #[cfV a p s q v x] X (Tells z X)))
  have hmk : okay z = true := by unfold okay; rw [← hzz, hz]; exact decide_eq_true (by omega)
  have HD := Lib.hid (show makeD emptyD z ⟨#[]⟩ = fieldD z.toNat from by unfold makeD fieldD; rw [hmk, if_pos rfl])
  have HMk := Lib.hid (fun (X : World) (b : Nat) (f : Nat → Prop) (B : Nat) (hX : Hp X B b emptyD f) => make_all X hX (by show 0 < 1000000; omega) z ⟨#[]⟩ (by show (⟨#[]⟩ : ByteArray).size ≤ _; exact Nat.zero_le _))
  rw [hzz]
  have X0 := Lib.hid (BoxC.start W a p s q v x)
  clear ha hp hs hz hzz hmk hr
  go_enter Try.func14, Try.ntmps14
  go_wp2_with fail
  refine (new_any _).mono ?_
  rintro en w1 ⟨b, f1, rfl, h1, hb1⟩
  have X1 := Lib.hid (X0.out.below hb1)
  have H1 := Lib.hid h1
  clear h1 hb1 X0
  obtain ⟨c0, c1, c2, c3, c4, c5⟩ := X1.out.six
  go_wp2_with fail
  refine (HZ.out _).mono ?_
  rintro en w2 ⟨rfl, hb⟩
  have X2 := Lib.hid (X1.out.below hb)
  have H2 := Lib.hid (H1.out.below hb)
  clear hb c0 c1 c2 c3 c4 c5 X1 H1
  go_wp2_with fail
  refine (HMk.out _ b _ _ H2.out).mono ?_
  rintro en w3 ⟨f3, rfl, h3, s3⟩
  have HE := Lib.hid (show FieldR z W (.returned (.pointer (some ⟨b, 0, none⟩))) w3 from by
    rw [HD.out] at h3
    exact ⟨_, b, f3, rfl, by simp, h3, X2.out.lo.trans (s3.below X2.out.lo.size (fun k hk => H2.out.base k (by rw [World.size_alloc]; omega)))⟩)
  clear h3 s3
  go_wp2_with fail
  go_ret
  exact HE.out

theorem tiny_any (W : World) : Calls Try.prog 23 #[] W fun e W' => e = .returned (cfV 2 2 3 2 1 0) ∧ Below W.heap.size W W' := by
  have HZ := Lib.hid (World.alloc_heap_new W (.cells #[.int .i64 0, .int .i64 0, .int .i64 0, .int .i64 0, .int .i64 0, .int .u64 0] 24))
  obtain ⟨z0, z1, z2, z3, z4, z5⟩ := six_free HZ.out
  obtain ⟨m0, m1, m2, m3, m4, m5⟩ := six_at HZ.out
  go_enter Try.func23, Try.ntmps23
  go_wp2_with fail
  refine bodyPost_ret (v := cfV 2 2 3 2 1 0) (by rw [results_cell1 (by rfl)]; go_simp) rfl ⟨rfl, ?_⟩
  exact below_alloc _ _

theorem field_few {z : Int} {n : Nat} (hn : n ≤ 800000) : FewD (fieldD z.toNat) n := by
  refine ⟨by show 0 + n ≤ _; omega, by show 1 + n ≤ _; omega, fun b hb => ?_⟩
  have hb' : b = ⟨List.replicate z.toNat 0, ⟨#[]⟩, false⟩ := by
    have : b ∈ [(⟨List.replicate z.toNat 0, ⟨#[]⟩, false⟩ : BlkD)] := hb
    simpa using this
  subst hb'
  exact ⟨fun w hw => by rw [List.eq_of_mem_replicate hw]; omega, by show (⟨#[]⟩ : ByteArray).size ≤ _; exact Nat.zero_le _⟩

end Go.Proofs.Ytgigjbngocfkbaa
