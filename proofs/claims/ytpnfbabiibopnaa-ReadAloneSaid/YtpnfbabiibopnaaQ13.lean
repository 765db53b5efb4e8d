/-
  Rdn, Rdm, Pnmath, Rdrun, in one text.
-/
import Derived.Test.YtpnfbabiibopnaaQ12
import Derived.Test.YtpnfbabiibopnaaQ08
import Derived.Deep.RegionHeld3
import Derived.WalkMore
import Derived.Test.YtpnfbabiibopnaaRdv
import Derived.Test.YtpnfbabiibopnaaQ07
import Derived.Test.YtpnfbabiibopnaaQ11
/-! read's routine: Result, New, Most. -/
namespace Go.Proofs.Ytpnfbabiibopnaa
open Go Go.RowKit
attribute [local go_sem ↓] Go.wp_at_zero Go.wp_at_succ

/-! ### Result -/
abbrev toldV (c : Int) (tk : Bool) (vl : ByteArray) (mk : Int) : Value := .agg #[.int .i64 c, .int .i64 0, .int .i64 0, .bool tk, .string vl, .slice none 0 0, .int .i64 0, .slice none 0 0, .int .i64 mk, .int .u64 0]
abbrev toldO (c : Int) (tk : Bool) (vl : ByteArray) (mk : Int) : Obj := .cells #[.int .i64 c, .int .i64 0, .int .i64 0, .bool tk, .string vl, .slice none 0 0, .int .i64 0, .slice none 0 0, .int .i64 mk, .int .u64 0] 47 (0, 0)
theorem told_at {X : World} {m : Nat} {c mk : Int} {tk : Bool} {vl : ByteArray} (h : X.heap[m]? = some (toldO c tk vl mk)) :
    (X.cell? ⟨m, 0, none⟩ = some (.int .i64 c) ∧ X.cell? ⟨m, 1, none⟩ = some (.int .i64 0) ∧ X.cell? ⟨m, 2, none⟩ = some (.int .i64 0) ∧ X.cell? ⟨m, 3, none⟩ = some (.bool tk) ∧ X.cell? ⟨m, 4, none⟩ = some (.string vl)) ∧ (X.cell? ⟨m, 5, none⟩ = some (.slice none 0 0) ∧ X.cell? ⟨m, 6, none⟩ = some (.int .i64 0) ∧ X.cell? ⟨m, 7, none⟩ = some (.slice none 0 0) ∧ X.cell? ⟨m, 8, none⟩ = some (.int .i64 mk) ∧ X.cell? ⟨m, 9, none⟩ = some (.int .u64 0)) :=
  ⟨⟨(cell_of h).trans rfl, (cell_of h).trans rfl, (cell_of h).trans rfl, (cell_of h).trans rfl, (cell_of h).trans rfl⟩, (cell_of h).trans rfl, (cell_of h).trans rfl, (cell_of h).trans rfl, (cell_of h).trans rfl, (cell_of h).trans rfl⟩
theorem told_free {X : World} {m : Nat} {c mk : Int} {tk : Bool} {vl : ByteArray} (h : X.heap[m]? = some (toldO c tk vl mk)) (i : Nat) : X.frozen? ⟨m, i, none⟩ = false := by simp [World.frozen?, h]
def RresE (c : Int) (tk : Bool) (vl : ByteArray) (mk : Int) (q : Bool) (W : World) (e : Ending) (W' : World) : Prop := e = .returned (.tuple #[toldV c tk vl mk, .bool q]) ∧ Below W.heap.size W W'

set_option maxRecDepth 100000 in
set_option maxHeartbeats 4000000 in
theorem rres_done (W : World) {r rp rf : Nat} {rc : Option Addr} {E : RdD} (h : W.heap[r]? = some (rdO E rp rf rc)) (hp : E.part = 5) :
    Calls Try.prog 14 #[.pointer (some ⟨r, 0, none⟩)] W (RresE E.code E.took E.val E.mark true W) := by
  have HB := Lib.hid (below_alloc W (toldO 0 false ⟨#[]⟩ 0))
  have HN := Lib.hid (World.alloc_heap_new W (toldO 0 false ⟨#[]⟩ 0))
  obtain ⟨⟨m0, m1, m2, m3, m4⟩, m5, m6, m7, m8, m9⟩ := told_at HN.out
  have hz := told_free HN.out
  have z0 := hz 0
  have z1 := hz 1
  have z2 := hz 2
  have z3 := hz 3
  have z4 := hz 4
  have z5 := hz 5
  have z6 := hz 6
  have z7 := hz 7
  have z8 := hz 8
  have z9 := hz 9
  clear hz
  obtain ⟨-, ⟨c6, -, -, -⟩, ⟨c10, c11, c12, c13, c14, c15, c16, c17⟩, c18, c19⟩ := rd_at ((HB.out.block r (heap_at_lt h)).trans h)
  have hne : W.heap.size ≠ r := by have := heap_at_lt h; omega
  rw [hp] at c6
  clear h hp
  go_enter Try.func14, Try.ntmps14
  go_wp2_with fail
  refine bodyPost_ret (v := .tuple #[toldV E.code E.took E.val E.mark, .bool true]) (by rw [results_cell2 (by rfl)]; go_simp) rfl ⟨rfl, ?_⟩
  exact below_alloc _ _

set_option maxRecDepth 100000 in
set_option maxHeartbeats 4000000 in
theorem rres_not (W : World) {r : Nat} {n : Int} (h : W.cell? ⟨r, 6, none⟩ = some (.int .i64 n)) (hn : n ≠ 5) :
    Calls Try.prog 14 #[.pointer (some ⟨r, 0, none⟩)] W (RresE 0 false ⟨#[]⟩ 0 false W) := by
  have HB := Lib.hid (below_alloc W (toldO 0 false ⟨#[]⟩ 0))
  have HN := Lib.hid (World.alloc_heap_new W (toldO 0 false ⟨#[]⟩ 0))
  obtain ⟨⟨m0, m1, m2, m3, m4⟩, m5, m6, m7, m8, m9⟩ := told_at HN.out
  have hz := told_free HN.out
  have z0 := hz 0
  have z1 := hz 1
  have z2 := hz 2
  have z3 := hz 3
  have z4 := hz 4
  have z5 := hz 5
  have z6 := hz 6
  have z7 := hz 7
  have z8 := hz 8
  have z9 := hz 9
  clear hz
  have c6 := (World.cell?_of_block (a := ⟨r, 6, none⟩) (HB.out.block r (cell_lt h))).trans h
  have hne : W.heap.size ≠ r := by have h1 := cell_lt h; exact fun e => absurd h1 (by rw [← e]; exact Nat.lt_irrefl _)
  have hb : (n != 5) = true := by simpa using hn
  clear h hn
  go_enter Try.func14, Try.ntmps14
  go_wp2_with fail
  refine bodyPost_ret (v := .tuple #[toldV 0 false ⟨#[]⟩ 0, .bool false]) (by rw [results_cell2 (by rfl)]; go_simp) rfl ⟨rfl, ?_⟩
  exact below_alloc _ _

/-! ### New -/
def newR (a p s q v x th : Int) (key : ByteArray) : RdD := ⟨a, p, s, q, v, x, 1, newP a p s q v x th, lookN (newF a p s q v x key) 0, newC 0 0, 0, false, ⟨#[]⟩, 0⟩
theorem newR_fits {a p s q v : Int} (hr : rightC a p s q v = true) (x th : Int) (key : ByteArray) : (newR a p s q v x th key).fits :=
  ⟨hr, by show 1 ≤ 1 ∧ 1 ≤ 5; omega, lookN_s _ _, fun h => absurd (show 2 ≤ 1 from h) (by omega)⟩

set_option maxRecDepth 100000 in
set_option maxHeartbeats 2000000 in
theorem rnew_bad (W : World) (a p s q v x th : Int) (key : ByteArray) (hr : rightC a p s q v = false) :
    Calls Try.prog 12 #[cfV a p s q v x, .int .i64 th, .string key] W fun e Y => ∃ r, e = .returned (.pointer (some ⟨r, 0, none⟩)) ∧ W.heap.size ≤ r ∧ Y.cell? ⟨r, 6, none⟩ = some (.int .i64 0) ∧ Below W.heap.size W Y := by
  have HR := Lib.hid (fun X : World => cright_any a p s q v x X)
  have X0 := Lib.hid (BoxC.start W a p s q v x)
  obtain ⟨c0, c1, c2, c3, c4, c5⟩ := X0.out.six
  rw [hr] at HR
  clear hr
  go_enter Try.func12, Try.ntmps12
  go_wp2_with fail
  refine (HR.out _).mono ?_
  rintro e w1 ⟨rfl, hb⟩
  have HB := Lib.hid (X0.out.lo.trans (hb.mono X0.out.lo.size))
  clear hb c0 c1 c2 c3 c4 c5
  go_wp2_with fail
  go_ret
  exact ⟨_, rfl, HB.out.size, (cell_of (World.alloc_heap_new w1 _)).trans rfl, HB.out.trans ((below_alloc w1 _).mono HB.out.size)⟩

def NewRE (E : RdD) (W : World) (e : Ending) (Y : World) : Prop := ∃ r rp rf, e = .returned (.pointer (some ⟨r, 0, none⟩)) ∧ RdIn Y W.heap.size r E rp rf none ∧ Below W.heap.size W Y

set_option maxRecDepth 100000 in
set_option maxHeartbeats 4000000 in
theorem rnew_any (W : World) (a p s q v x th : Int) (key : ByteArray) (hr : rightC a p s q v = true) (hth : 0 ≤ th) (hk : key.size ≤ 281474976710656) :
    Calls Try.prog 12 #[cfV a p s q v x, .int .i64 th, .string key] W (NewRE (newR a p s q v x th key) W) := by
  have HR := Lib.hid (fun X : World => cright_any a p s q v x X)
  rw [hr] at HR
  have X0 := Lib.hid (BoxC.start W a p s q v x)
  obtain ⟨c0, c1, c2, c3, c4, c5⟩ := X0.out.six
  have HP := Lib.hid (fun X => pnew_any X a p s q v x th hr hth)
  have HF := Lib.hid (fun X => fnew_any X a p s q v x key hr hk)
  have HRt := Lib.hid hr
  have ht0 : ¬ th < 0 := by omega
  clear hr hth hk
  go_enter Try.func12, Try.ntmps12
  go_wp2_with fail
  refine (HR.out _).mono ?_
  rintro e w1 ⟨rfl, hb⟩
  have X1 := Lib.hid (X0.out.below hb)
  clear hb c0 c1 c2 c3 c4 c5 X0
  go_wp2_with fail
  have HS := Lib.hid (show SixN W a p s q v x w1.drew from X1.out.drew.six)
  refine wp_region_held_drew (S := fun X => X.cell? ⟨W.heap.size, 0, none⟩ = some (.int .i64 a) ∧ X.cell? ⟨W.heap.size, 1, none⟩ = some (.int .i64 p) ∧ X.cell? ⟨W.heap.size, 2, none⟩ = some (.int .i64 s) ∧ X.cell? ⟨W.heap.size, 3, none⟩ = some (.int .i64 q) ∧ X.cell? ⟨W.heap.size, 4, none⟩ = some (.int .i64 v) ∧ X.cell? ⟨W.heap.size, 5, none⟩ = some (.int .u64 x)) (by kernel_rfl) HS.out (fun _ => ?_)
  refine (fun h => h) ?_
  refine wpAnyH_look (i := 0) (v := ?v0) 16 rfl (by kernel_rfl) (by kernel_rfl) (by kernel_rfl) (fun _ _ _ _ h => h) (by rfl) HS.out (Or.inl ⟨by rfl, ?y0⟩) ?r0
  case y0 => intro w hSw; (try dsimp only at hSw); go_simp; (try with_reducible rfl)
  simp only [List.setIfInBounds_toArray, List.set_cons_zero, List.set_cons_succ]
  refine wpAnyH_look (i := 1) (v := ?v1) 17 rfl (by kernel_rfl) (by kernel_rfl) (by kernel_rfl) (fun _ _ _ _ h => h) (by rfl) HS.out (Or.inl ⟨by rfl, ?y1⟩) ?r1
  case y1 => intro w hSw; (try dsimp only at hSw); go_simp; (try with_reducible rfl)
  simp only [List.setIfInBounds_toArray, List.set_cons_zero, List.set_cons_succ]
  refine wpAnyH_look (i := 2) (v := ?v2) 18 rfl (by kernel_rfl) (by kernel_rfl) (by kernel_rfl) (fun _ _ _ _ h => h) (by rfl) HS.out (Or.inl ⟨by rfl, ?y2⟩) ?r2
  case y2 => intro w hSw; (try dsimp only at hSw); go_simp; (try with_reducible rfl)
  simp only [List.setIfInBounds_toArray, List.set_cons_zero, List.set_cons_succ]
  refine wpAnyH_look (i := 4) (v := ?v4) 20 rfl (by kernel_rfl) (by kernel_rfl) (by kernel_rfl) (fun _ _ _ _ h => h) (by rfl) HS.out (Or.inl ⟨by rfl, ?y4⟩) ?r4
  case y4 => intro w hSw; (try dsimp only at hSw); go_simp; (try with_reducible rfl)
  simp only [List.setIfInBounds_toArray, List.set_cons_zero, List.set_cons_succ]
  refine wpAnyH_look (i := 5) (v := ?v5) 21 rfl (by kernel_rfl) (by kernel_rfl) (by kernel_rfl) (fun _ _ _ _ h => h) (by rfl) HS.out (Or.inl ⟨by rfl, ?y5⟩) ?r5
  case y5 => intro w hSw; (try dsimp only at hSw); go_simp; (try with_reducible rfl)
  simp only [List.setIfInBounds_toArray, List.set_cons_zero, List.set_cons_succ]
  refine wpAnyH_ready (rs := [3]) (by kernel_rfl) (by simp) ?_
  refine AllReadyH.cons rfl (fun K hK => ?_) AllReadyH.nil
  go_simp
  go_at_call 33
  refine (HP.out _).mono ?_
  rintro en x1 ⟨rp, rfl, hrp, ho, hb⟩
  have X2 := Lib.hid (X1.out.drew.below hb)
  have HP2 := Lib.hid (And.intro (show W.heap.size ≤ rp from Nat.le_trans X1.out.lo.size hrp) ho)
  have HS := Lib.hid (show SixN W a p s q v x x1 from X2.out.six)
  clear hb hrp ho
  go_simp
  refine hK.out _ _ HS.out (fun _ => ?_)
  clear hK K
  refine wpAnyH_ready (rs := [6]) (by kernel_rfl) (by simp) ?_
  refine AllReadyH.cons rfl (fun K hK => ?_) AllReadyH.nil
  go_simp
  go_at_call 28
  refine (HF.out _).mono ?_
  rintro en x2 ⟨rf, rfl, hrf, ho, hb⟩
  have X3 := Lib.hid (X2.out.below hb)
  have HP3 := Lib.hid ((hb.block _ (heap_at_lt HP2.out.2)).trans HP2.out.2)
  have HF3 := Lib.hid (And.intro (show W.heap.size ≤ rf ∧ rp ≠ rf from ⟨Nat.le_trans X2.out.lo.size hrf, by have := heap_at_lt HP2.out.2; omega⟩) ho)
  have HS := Lib.hid (show SixN W a p s q v x x2 from X3.out.six)
  clear hb hrf ho
  go_simp
  refine hK.out _ _ HS.out (fun _ => ?_)
  clear hK K
  refine wpAnyH_look (i := 7) (v := ?v7) 23 rfl (by kernel_rfl) (by kernel_rfl) (by kernel_rfl) (fun _ _ _ _ h => h) (by rfl) HS.out (Or.inl ⟨by rfl, ?y7⟩) ?r7
  case y7 => intro w hSw; (try dsimp only at hSw); go_simp; (try with_reducible rfl)
  simp only [List.setIfInBounds_toArray, List.set_cons_zero, List.set_cons_succ]
  refine wpAnyH_ready (rs := [8]) (by kernel_rfl) (by simp) ?_
  refine AllReadyH.cons rfl (fun K hK => ?_) AllReadyH.nil
  go_simp
  have HS := Lib.hid (show SixN W a p s q v x (x2.alloc (rdO (newR a p s q v x th key) rp rf none)) from (X3.out.below (below_alloc _ _)).six)
  refine hK.out _ _ HS.out (fun _ => ?_)
  clear hK K
  refine wpAnyH_look (i := 9) (v := ?v9) 6 rfl (by kernel_rfl) (by kernel_rfl) (by kernel_rfl) (fun _ _ _ _ h => h) (by rfl) HS.out (Or.inl ⟨by rfl, ?y9⟩) ?r9
  case y9 => intro w hSw; (try dsimp only at hSw); go_simp; (try with_reducible rfl)
  simp only [List.setIfInBounds_toArray, List.set_cons_zero, List.set_cons_succ]
  refine ⟨by kernel_rfl, ?_⟩
  go_wp2_with fail
  go_ret
  have hx := below_alloc x2 (rdO (newR a p s q v x th key) rp rf none)
  have hl := X3.out.lo.size
  have h1 := heap_at_lt HP3.out
  have h2 := heap_at_lt HF3.out.2
  refine ⟨x2.heap.size, rp, rf, rfl, ⟨World.alloc_heap_new _ _, ⟨(hx.block _ h1).trans HP3.out, rfl, HP2.out.1, newP_fits HRt.out x th⟩, ⟨(hx.block _ h2).trans HF3.out.2, rfl, HF3.out.1.1, newF_fits HRt.out key⟩, fun h => absurd (show 1 = 3 from h) (by omega), ⟨by omega, by omega, HF3.out.1.2⟩, hl, newR_fits HRt.out x th key⟩, X3.out.lo.trans (hx.mono hl)⟩

/-! ### Most -/
set_option maxRecDepth 100000 in
set_option maxHeartbeats 2000000 in
theorem rmost_bad (W : World) (a p s q v x n : Int) (hr : rightC a p s q v = false) :
    Calls Try.prog 22 #[cfV a p s q v x, .int .i64 n] W fun e Y => e = .returned (.int .i64 0) ∧ Below W.heap.size W Y := by
  have HR := Lib.hid (fun X : World => cright_any a p s q v x X)
  have X0 := Lib.hid (BoxC.start W a p s q v x)
  obtain ⟨c0, c1, c2, c3, c4, c5⟩ := X0.out.six
  rw [hr] at HR
  clear hr
  go_enter Try.func22, Try.ntmps22
  go_wp2_with fail
  refine (HR.out _).mono ?_
  rintro e w1 ⟨rfl, hb⟩
  have HB := Lib.hid (X0.out.lo.trans (hb.mono X0.out.lo.size))
  clear hb c0 c1 c2 c3 c4 c5
  go_wp2_with fail
  go_ret
  exact ⟨rfl, HB.out⟩
set_option maxRecDepth 100000 in
set_option maxHeartbeats 2000000 in
theorem rmost_any (W : World) (a p s q v x n : Int) (hr : rightC a p s q v = true) (hn : 0 ≤ n ∧ n ≤ 1000) :
    Calls Try.prog 22 #[cfV a p s q v x, .int .i64 n] W fun e Y => e = .returned (.int .i64 (p + 2 * s + 9 + 4 * n)) ∧ Below W.heap.size W Y := by
  have HR := Lib.hid (fun X : World => cright_any a p s q v x X)
  have X0 := Lib.hid (BoxC.start W a p s q v x)
  obtain ⟨⟨a1, a32⟩, ⟨p1, p8⟩, s1, s64⟩ := rightC_bd hr
  obtain ⟨n0, n1⟩ := hn
  rw [hr] at HR
  obtain ⟨m, hm⟩ : ∃ m, p + 2 * s + 9 = m := ⟨_, rfl⟩
  have e1 : IntKind.i64.wrap (p + 2) = p + 2 := IntWalk.i64_in _ (by omega)
  have e2 : IntKind.i64.wrap (1 + (p + 2)) = 1 + (p + 2) := IntWalk.i64_in _ (by omega)
  have e3 : IntKind.i64.wrap (2 * s) = 2 * s := IntWalk.i64_in _ (by omega)
  have e4 : IntKind.i64.wrap (1 + (p + 2) + 2 * s) = 1 + (p + 2) + 2 * s := IntWalk.i64_in _ (by omega)
  have e5 : IntKind.i64.wrap (1 + (p + 2) + 2 * s + 6) = m := by rw [IntWalk.i64_in _ (by omega)]; omega
  have e6 : IntKind.i64.wrap (9223372036854775807 - m) = 9223372036854775807 - m := IntWalk.i64_in _ (by omega)
  have hd : (9223372036854775807 - m).tdiv 4 = (9223372036854775807 - m) / 4 := Int.tdiv_eq_ediv_of_nonneg (by omega)
  have e7 : IntKind.i64.wrap ((9223372036854775807 - m).tdiv 4) = (9223372036854775807 - m) / 4 := by rw [hd]; exact IntWalk.i64_in _ (by omega)
  have e10 : wrap64 ((9223372036854775807 - m) / 4) = (9223372036854775807 - m) / 4 := IntWalk.wrap64_in _ (by omega)
  have e8 : IntKind.i64.wrap (4 * n) = 4 * n := IntWalk.i64_in _ (by omega)
  have e9 : IntKind.i64.wrap (m + 4 * n) = m + 4 * n := IntWalk.i64_in _ (by omega)
  have hlt : ¬ (9223372036854775807 - m) / 4 < n := by omega
  have hmx : max n 0 = n := by omega
  have hmx2 : max 0 n = n := by omega
  rw [hm]
  obtain ⟨c0, c1, c2, c3, c4, c5⟩ := X0.out.six
  clear hr hm
  go_enter Try.func22, Try.ntmps22
  go_wp2_with fail
  refine (HR.out _).mono ?_
  rintro e w1 ⟨rfl, hb⟩
  have X1 := Lib.hid (X0.out.below hb)
  clear hb c0 c1 c2 c3 c4 c5
  obtain ⟨c0, c1, c2, c3, c4, c5⟩ := X1.out.six
  go_wp2_with fail
  go_ret
  exact ⟨rfl, X1.out.lo⟩

end Go.Proofs.Ytpnfbabiibopnaa

/-! read's routine as a kind of routine. -/
namespace Go.Proofs.Ytpnfbabiibopnaa
open Go Go.RowKit

theorem footR_ne {E : RdD} {r rp rf : Nat} {rc : Option Addr} {k : Nat} (h3 : E.part ≠ 3) : footR E r rp rf rc k ↔ (k = r ∨ k = rp ∨ k = rf) :=
  ⟨fun h => by rcases h with h | h | h | h; exact .inl h; exact .inr (.inl h); exact .inr (.inr h); exact absurd h.1 h3, fun h => by rcases h with h | h | h; exact .inl h; exact .inr (.inl h); exact .inr (.inr (.inl h))⟩
section
variable {W X : World} {B r rp rf : Nat} {rc rc' : Option Addr} {E E' : RdD} {w : Int} {t : ByteArray} {cn : Option Nat}
/-- Behind Take: the routine lies as one. -/
theorem RMid.toAt (h : RMid W r rp rf cn E' rc' w t X) {f : Nat → Prop} (hf : ∀ k, ftR r rp rf cn k → f k) (h' : RdIn X B r E' rp rf rc') (h3 : ∀ k, E'.part = 3 → rc' = some ⟨k, 0, none⟩ → f k ∨ W.heap.size ≤ k) :
    ∃ f', RdAt X B r E' f' ∧ Step f f' W X :=
  ⟨_, ⟨rp, rf, rc', h', rfl⟩, h.st.os, h.st.tape, h.st.output, h.st.size, fun k hk hn => h.st.block k hk (fun hc => hn (hf k hc)), fun k hk => by
    rcases hk with rfl | rfl | rfl | ⟨p3, e⟩
    · exact .inl (hf _ (.inl rfl))
    · exact .inl (hf _ (.inr (.inl rfl)))
    · exact .inl (hf _ (.inr (.inr (.inl rfl))))
    · exact h3 k p3 e⟩
theorem ft_foot (k : Nat) : ftR r rp rf none k → footR E r rp rf rc k := fun h => by
  rcases h with h | h | h | h
  · exact .inl h
  · exact .inr (.inl h)
  · exact .inr (.inr (.inl h))
  · cases h
theorem pinnedR_part (E : RdD) (P : PinD) (h1 : E.part = 1) : (pinnedR E P).part ≠ 3 ∧ (pinnedR E P).pin = P ∧ (pinnedR E P).fnd = E.fnd ∧ (pinnedR E P).s = E.s ∧ ((E.fits) → (pinnedR E P).fits) := by
  unfold pinnedR
  split
  · split
    · rename_i h5 _
      exact ⟨by show (5 : Nat) ≠ 3; decide, rfl, rfl, rfl, fun hf => ⟨hf.rc, by show 1 ≤ 5 ∧ 5 ≤ 5; omega, hf.fs, fun _ h => absurd (show 5 ≤ 4 from h) (by omega)⟩⟩
    · rename_i h5 _
      exact ⟨by show (2 : Nat) ≠ 3; decide, rfl, rfl, rfl, fun hf => ⟨hf.rc, by show 1 ≤ 2 ∧ 2 ≤ 5; omega, hf.fs, fun _ _ => h5⟩⟩
  · exact ⟨by show E.part ≠ 3; omega, rfl, rfl, rfl, fun hf => ⟨hf.rc, hf.part, hf.fs, fun h => absurd (show 2 ≤ E.part from h) (by omega)⟩⟩
theorem rd_takes {f : Nat → Prop} (h : RdAt W B r E f) (hs : (nextR E).isSome = true) (hg : Good w t) :
    Calls Try.prog 88 #[.pointer (some ⟨r, 0, none⟩), gotV w t] W fun e W' => ∃ f', e = .returned (.tuple #[]) ∧ RdAt W' B r (takeR E w t) f' ∧ Step f f' W W' := by
  obtain ⟨rp, rf, rc, h, rfl⟩ := h
  have hpt := h.fits.part
  have h5 : E.part = 1 ∨ E.part = 2 ∨ E.part = 3 ∨ E.part = 4 := by
    have : E.part ≠ 5 := fun e => by rw [nextR_5 e] at hs; cases hs
    omega
  rcases h5 with e | e | e | e
  · rw [nextR_1 e] at hs
    rw [takeR_1 e]
    obtain ⟨k3, kp, kf, ks, kfit⟩ := pinnedR_part E (takeP E.pin w t) e
    have hC : Calls Try.prog 88 #[.pointer (some ⟨r, 0, none⟩), gotV w t] W (RtakeE W r rp rf none (pinnedR E (takeP E.pin w t)) rc w t) := by
      by_cases q5 : (takeP E.pin w t).part = 5
      · cases qt : (takeP E.pin w t).taken with
        | false => exact rtake_1got h e hs ⟨q5, qt⟩
        | true => exact rtake_1many h e hs ⟨q5, qt⟩
      · exact rtake_1no h e hs q5
    refine hC.mono ?_
    rintro en Y ⟨rfl, hM⟩
    have hI : RdIn Y B r (pinnedR E (takeP E.pin w t)) rp rf rc := ⟨hM.own, ⟨hM.pn, rfl, h.pn.base, by rw [kp]; exact takeP_fits h.pn.fits hg.1⟩, ⟨hM.fn, rfl, h.fn.base, by rw [kf]; exact h.fn.fits⟩, fun h3 => absurd h3 k3, h.ne, h.base, kfit h.fits⟩
    obtain ⟨f', h1, h2⟩ := hM.toAt (f := footR E r rp rf rc) ft_foot hI (fun k h3 => absurd h3 k3)
    exact ⟨f', rfl, h1, h2⟩
  · rw [nextR_2 e] at hs
    rw [takeR_2 e]
    have hFf : (takeF E.fnd w t).fits := takeF_fits h.fn.fits hg.1 t
    have hFs : (takeF E.fnd w t).s = E.s := by rw [takeF_s]; exact h.fits.fs
    have hp5 := h.fits.held (by omega) (by omega)
    rcases takeF_says E.fnd w t with q | ⟨q, q0, q1⟩ | q
    · refine (rtake_2no h e hs hg q).mono ?_
      rintro en Y ⟨rfl, hM⟩
      have hE : foundR E (takeF E.fnd w t) = E.wf (takeF E.fnd w t) := by unfold foundR; rw [if_pos q.1]; rfl
      rw [hE] at hM ⊢
      have k3 : (E.wf (takeF E.fnd w t)).part ≠ 3 := by show E.part ≠ 3; omega
      have hI : RdIn Y B r (E.wf (takeF E.fnd w t)) rp rf rc := ⟨hM.own, ⟨hM.pn, rfl, h.pn.base, h.pn.fits⟩, ⟨hM.fn, rfl, h.fn.base, hFf⟩, fun h3 => absurd h3 k3, h.ne, h.base, ⟨h.fits.rc, h.fits.part, hFs, h.fits.held⟩⟩
      obtain ⟨f', h1, h2⟩ := hM.toAt (f := footR E r rp rf rc) ft_foot hI (fun k h3 => absurd h3 k3)
      exact ⟨f', rfl, h1, h2⟩
    · have hs0 : (takeF E.fnd w t).sh < E.s := by rw [← h.fits.fs]; exact q1
      have hh : 0 ≤ headW E.a E.p E.s E.q E.v (takeF E.fnd w t).sh := by
        rw [headW_in h.fits.rc q0 hs0]
        have := rightC_bd h.fits.rc
        omega
      refine (rtake_2here h e hs hg q hh).mono ?_
      rintro en Y ⟨rfl, c, hc, ho, hM⟩
      have hE : foundR E (takeF E.fnd w t) = ⟨E.a, E.p, E.s, E.q, E.v, E.x, 3, E.pin, takeF E.fnd w t, newC (headW E.a E.p E.s E.q E.v (takeF E.fnd w t).sh) E.pin.ep, E.code, E.took, E.val, E.mark⟩ := by unfold foundR; rw [if_neg (by rw [q]; decide), if_pos q]
      rw [hE] at hM ⊢
      have hlt := hM.lt
      have hle := headW_le (a := E.a) (p := E.p) (s := E.s) (q := E.q) (v := E.v) (sh := (takeF E.fnd w t).sh)
      have hsz := h.lt r (.inl rfl)
      obtain ⟨f', h1, h2⟩ := hM.toAt (B := B) (f := footR E r rp rf rc) ft_foot
        ⟨hM.own, ⟨hM.pn, rfl, h.pn.base, h.pn.fits⟩, ⟨hM.fn, rfl, h.fn.base, hFf⟩, fun _ => ⟨c, rfl, ⟨ho, rfl, by omega, newC_fits (by omega) h.pn.fits.2.1⟩, by omega, by omega, by omega⟩, h.ne, h.base, ⟨h.fits.rc, by show 1 ≤ 3 ∧ 3 ≤ 5; omega, hFs, fun _ _ => hp5⟩⟩
        (fun k _ e => by cases e; exact .inr hc)
      exact ⟨f', rfl, h1, h2⟩
    · refine (rtake_2not h e hs hg q).mono ?_
      rintro en Y ⟨rfl, hM⟩
      have hE : foundR E (takeF E.fnd w t) = { E.wf (takeF E.fnd w t) with part := 4 } := by unfold foundR; rw [if_neg q.1, if_neg q.2]; rfl
      rw [hE] at hM ⊢
      have k3 : ({ E.wf (takeF E.fnd w t) with part := 4 } : RdD).part ≠ 3 := by show (4 : Nat) ≠ 3; decide
      obtain ⟨f', h1, h2⟩ := hM.toAt (B := B) (f := footR E r rp rf rc) ft_foot
        ⟨hM.own, ⟨hM.pn, rfl, h.pn.base, h.pn.fits⟩, ⟨hM.fn, rfl, h.fn.base, hFf⟩, fun h3 => absurd h3 k3, h.ne, h.base, ⟨h.fits.rc, by show 1 ≤ 4 ∧ 4 ≤ 5; omega, hFs, fun _ _ => hp5⟩⟩
        (fun k h3 => absurd h3 k3)
      exact ⟨f', rfl, h1, h2⟩
  · rw [nextR_3 e] at hs
    rw [takeR_3 e]
    obtain ⟨c, rfl, hc, hne⟩ := h.ch e
    have hp5 := h.fits.held (by omega) (by omega)
    have hCf := takeC_fits (t := t) hc.fits hg.1
    have hft : ∀ k, ftR r rp rf (some c) k → footR E r rp rf (some ⟨c, 0, none⟩) k := fun k hk => by
      rcases hk with q | q | q | q
      · exact .inl q
      · exact .inr (.inl q)
      · exact .inr (.inr (.inl q))
      · cases q; exact .inr (.inr (.inr ⟨e, rfl⟩))
    by_cases q6 : (takeC E.chn w t).asks = 6
    · refine (rtake_3end h e hs hg q6).mono ?_
      rintro en Y ⟨rfl, hM⟩
      have hE : chainedR E (takeC E.chn w t) = { (E.wc (takeC E.chn w t)).read (takeC E.chn w t).has (takeC E.chn w t).text with part := 4 } := by unfold chainedR; rw [if_pos q6]; rfl
      rw [hE] at hM ⊢
      have k3 : ({ (E.wc (takeC E.chn w t)).read (takeC E.chn w t).has (takeC E.chn w t).text with part := 4 } : RdD).part ≠ 3 := by show (4 : Nat) ≠ 3; decide
      obtain ⟨f', h1, h2⟩ := hM.toAt (B := B) (f := footR E r rp rf (some ⟨c, 0, none⟩)) hft
        ⟨hM.own, ⟨hM.pn, rfl, h.pn.base, h.pn.fits⟩, ⟨hM.fn, rfl, h.fn.base, h.fn.fits⟩, fun h3 => absurd h3 k3, h.ne, h.base, ⟨h.fits.rc, by show 1 ≤ 4 ∧ 4 ≤ 5; omega, h.fits.fs, fun _ _ => hp5⟩⟩
        (fun k h3 => absurd h3 k3)
      exact ⟨f', rfl, h1, h2⟩
    · refine (rtake_3no h e hs hg q6).mono ?_
      rintro en Y ⟨rfl, hM⟩
      have hE : chainedR E (takeC E.chn w t) = E.wc (takeC E.chn w t) := by unfold chainedR; rw [if_neg q6]; rfl
      rw [hE] at hM ⊢
      obtain ⟨f', h1, h2⟩ := hM.toAt (B := B) (f := footR E r rp rf (some ⟨c, 0, none⟩)) hft
        ⟨hM.own, ⟨hM.pn, rfl, h.pn.base, h.pn.fits⟩, ⟨hM.fn, rfl, h.fn.base, h.fn.fits⟩, fun _ => ⟨c, rfl, ⟨hM.ch c rfl, rfl, hc.base, hCf⟩, hne⟩, h.ne, h.base, ⟨h.fits.rc, h.fits.part, h.fits.fs, h.fits.held⟩⟩
        (fun k _ q => by cases q; exact .inl (.inr (.inr (.inr ⟨e, rfl⟩))))
      exact ⟨f', rfl, h1, h2⟩
  · rw [takeR_4 e]
    refine (rtake_4 h e).mono ?_
    rintro en Y ⟨rfl, hM⟩
    have k3 : E.done.part ≠ 3 := by show (5 : Nat) ≠ 3; decide
    obtain ⟨f', h1, h2⟩ := hM.toAt (B := B) (f := footR E r rp rf rc) ft_foot
      ⟨hM.own, ⟨hM.pn, rfl, h.pn.base, h.pn.fits⟩, ⟨hM.fn, rfl, h.fn.base, h.fn.fits⟩, fun h3 => absurd h3 k3, h.ne, h.base, ⟨h.fits.rc, by show 1 ≤ 5 ∧ 5 ≤ 5; omega, h.fits.fs, fun _ h => absurd (show 5 ≤ 4 from h) (by omega)⟩⟩
      (fun k h3 => absurd h3 k3)
    exact ⟨f', rfl, h1, h2⟩
theorem rd_act {f : Nat → Prop} (h : RdAt W B r E f) : Calls Try.prog 19 #[.pointer (some ⟨r, 0, none⟩)] W fun e W' => e = .returned (.tuple #[actOf ((nextR E).getD noAct), .bool (nextR E).isSome]) ∧ Below W.heap.size W W' := by
  obtain ⟨rp, rf, rc, h, rfl⟩ := h
  have hpt := h.fits.part
  have h5 : E.part = 1 ∨ E.part = 2 ∨ E.part = 3 ∨ E.part = 4 ∨ E.part = 5 := by omega
  rcases h5 with e | e | e | e | e
  · exact ract_1 W h e
  · exact ract_2 W h e
  · exact ract_3 W h e
  · exact ract_4 W h e
  · rw [nextR_5 e]
    have c6 := (rd_at h.own).2.1.1
    rw [e] at c6
    exact ract_none W c6 (.inl rfl)
theorem rd_fits {f : Nat → Prop} {x : ActD} (h : RdAt W B r E f) (hx : nextR E = some x) : x.fits := by
  obtain ⟨rp, rf, rc, h, rfl⟩ := h
  have hpt := h.fits.part
  have h5 : E.part = 1 ∨ E.part = 2 ∨ E.part = 3 ∨ E.part = 4 ∨ E.part = 5 := by omega
  rcases h5 with e | e | e | e | e
  · rw [nextR_1 e] at hx; exact (nextP_fits hx).1
  · rw [nextR_2 e] at hx; exact (nextF_kind h.fn.fits hx).2.2.2
  · rw [nextR_3 e] at hx
    obtain ⟨c, -, hc, -⟩ := h.ch e
    exact (nextC_fits hc.fits hx).1
  · rw [nextR_4 e] at hx; cases hx; exact E.free_fits
  · rw [nextR_5 e] at hx; cases hx
end
theorem rd_metA (n r : Nat) (w : World) : (method (n + 1) 38 (.pointer (some ⟨r, 0, none⟩)) "Act").run Try.prog w = .ok (19, .pointer (some ⟨r, 0, none⟩)) w := by kernel_rfl
theorem rd_metT (n r : Nat) (w : World) : (method (n + 1) 38 (.pointer (some ⟨r, 0, none⟩)) "Take").run Try.prog w = .ok (88, .pointer (some ⟨r, 0, none⟩)) w := by kernel_rfl
theorem rd_entA (args : Array Value) (w : World) : (callFunc 19 args).run Try.prog w = .ok (.enter 19 args) w := enters_of Try.func19 (by kernel_rfl) rfl args w
theorem rd_entT (args : Array Value) (w : World) : (callFunc 88 args).run Try.prog w = .ok (.enter 88 args) w := enters_of Try.func88 (by kernel_rfl) rfl args w
def RdM : Mach RdD where
  tid := 38
  fA := 19
  fT := 88
  next := nextR
  take := takeR
  At := RdAt
  metA := rd_metA
  metT := rd_metT
  entA := rd_entA
  entT := rd_entT
  stays := fun h hs => by obtain ⟨rp, rf, rc, h, rfl⟩ := h; exact ⟨rp, rf, rc, h.stays hs, rfl⟩
  lt := fun h k hk => by obtain ⟨rp, rf, rc, h, rfl⟩ := h; exact (h.lt k hk).1
  base := fun h k hk => by obtain ⟨rp, rf, rc, h, rfl⟩ := h; exact (h.lt k hk).2
  self := fun h => by obtain ⟨rp, rf, rc, h, rfl⟩ := h; exact .inl rfl
  fits := fun h hx => rd_fits h hx
  act := fun h => rd_act h
  takes := fun h hs hg => rd_takes h hs hg
theorem RdM_next (E : RdD) : RdM.next E = nextR E := rfl
theorem RdM_take (E : RdD) (w : Int) (t : ByteArray) : RdM.take E w t = takeR E w t := rfl
/-- A new one, as a routine of its kind. -/
theorem RdIn.weaken {W : World} {B B' r rp rf : Nat} {E : RdD} {rc : Option Addr} (h : RdIn W B r E rp rf rc) (hB : B' ≤ B) : RdIn W B' r E rp rf rc :=
  ⟨h.own, ⟨h.pn.own, rfl, Nat.le_trans hB h.pn.base, h.pn.fits⟩, ⟨h.fn.own, rfl, Nat.le_trans hB h.fn.base, h.fn.fits⟩, fun h3 => by
    obtain ⟨c, h1, h2, h4⟩ := h.ch h3
    exact ⟨c, h1, ⟨h2.own, rfl, Nat.le_trans hB h2.base, h2.fits⟩, h4⟩, h.ne, Nat.le_trans hB h.base, h.fits⟩

end Go.Proofs.Ytpnfbabiibopnaa

/-! A pin that is looked for alone: which one is taken, and by how many acts. Plain. -/
namespace Go.Proofs.Ytpnfbabiibopnaa
open Go Go.RowKit

/-- The i-th pin on the way. -/
def wayP (th p : Int) (i : Nat) : Int := (th % p + (i : Int)) % p
theorem wayP_zero (th p : Int) (hp : 1 ≤ p) : wayP th p 0 = th % p := by
  have hm := Int.emod_nonneg th (show p ≠ 0 by omega)
  have hm2 := Int.emod_lt_of_pos th (show 0 < p by omega)
  unfold wayP
  rw [Int.emod_eq_of_lt (by omega) (by omega)]
  omega
theorem wayP_in (th p : Int) (hp : 1 ≤ p) (i : Nat) : 0 ≤ wayP th p i ∧ wayP th p i < p :=
  ⟨Int.emod_nonneg _ (by omega), Int.emod_lt_of_pos _ (by omega)⟩
theorem wayP_succ (th p : Int) (i : Nat) : (wayP th p i + 1) % p = wayP th p (i + 1) := by
  unfold wayP
  rw [Int.emod_add_emod]
  congr 1
  push_cast
  omega
/-- Each pin is on the way. -/
theorem wayP_all (th p : Int) (hp : 1 ≤ p) {k : Int} (h0 : 0 ≤ k) (h1 : k < p) : ∃ i : Nat, (i : Int) < p ∧ wayP th p i = k := by
  have hm := Int.emod_nonneg th (show p ≠ 0 by omega)
  have hm2 := Int.emod_lt_of_pos th (show 0 < p by omega)
  by_cases h : th % p ≤ k
  · refine ⟨(k - th % p).toNat, by omega, ?_⟩
    unfold wayP
    rw [show th % p + ((k - th % p).toNat : Int) = k by omega, Int.emod_eq_of_lt h0 h1]
  · refine ⟨(k + p - th % p).toNat, by omega, ?_⟩
    unfold wayP
    rw [show th % p + ((k + p - th % p).toNat : Int) = k + p by omega, Int.add_emod_right, Int.emod_eq_of_lt h0 h1]

/-- The first place on the way at which a pin is free, among m from the i-th on. -/
def firstP (G : Nat → Int) (th p : Int) : Nat → Nat → Option Nat
  | 0, _ => none
  | m + 1, i => if G (3 + wayP th p i).toNat = 0 then some i else firstP G th p m (i + 1)
theorem firstP_some {G : Nat → Int} {th p : Int} : ∀ {m i j : Nat}, firstP G th p m i = some j → i ≤ j ∧ j < i + m ∧ G (3 + wayP th p j).toNat = 0
  | 0, _, _, h => by cases h
  | m + 1, i, j, h => by
    unfold firstP at h
    split at h
    · cases h; exact ⟨Nat.le_refl _, by omega, by assumption⟩
    · obtain ⟨h1, h2, h3⟩ := firstP_some h
      exact ⟨by omega, by omega, h3⟩
theorem firstP_none {G : Nat → Int} {th p : Int} : ∀ {m i : Nat}, firstP G th p m i = none → ∀ j, i ≤ j → j < i + m → G (3 + wayP th p j).toNat ≠ 0
  | 0, _, _, j, h1, h2 => by omega
  | m + 1, i, h, j, h1, h2 => by
    unfold firstP at h
    split at h
    · cases h
    · rename_i hn
      rcases Nat.eq_or_lt_of_le h1 with e | hl
      · subst e; exact hn
      · exact firstP_none h j hl (by omega)

/-- Where it stands at the i-th try. -/
def tryP (a p s q v x th e : Int) (i : Nat) : PinD := ⟨a, p, s, q, v, x, 2, (i : Int), wayP th p i, e, false⟩
def takenP (a p s q v x : Int) : PinD := ⟨a, p, s, q, v, x, 5, p, 0, 0, true⟩
def gotP (a p s q v x th e : Int) (i : Nat) : PinD := ⟨a, p, s, q, v, x, 5, (i : Int), wayP th p i, e, false⟩

section
variable {a p s q v x th e : Int} {n : Nat} {D : HpD} {G : Nat → Int}
theorem tryP_cell (hr : rightC a p s q v = true) (i : Nat) : (tryP a p s q v x th e i).cell = ((3 + wayP th p i).toNat : Int) := by
  obtain ⟨h0, h1⟩ := wayP_in th p (rightC_bd hr).2.1.1 i
  show pinW a p s q v (wayP th p i) = _
  rw [pinW_in hr h0 h1]; omega
/-- From the i-th try on. -/
theorem pin_runs (S0 : PmS PinD) (hr : rightC a p s q v = true) (hn : (n : Int) = sizeW a p s q v) (hC : Ctl n D G) (hG : G 0 = e) : ∀ (m i n0 : Nat), (i : Int) + m = p → (stM PinM S0 n0 = ⟨D, if m = 0 then takenP a p s q v x else tryP a p s q v x th e i⟩ ∧ (toM PinM S0 n0).length = n0) →
    match firstP G th p m i with
    | none => stM PinM S0 (n0 + m) = ⟨D, takenP a p s q v x⟩ ∧ (toM PinM S0 (n0 + m)).length = n0 + m
    | some j => ∃ D', Ctl n D' (upd G (3 + wayP th p j).toNat (upE e)) ∧ stM PinM S0 (n0 + (j - i) + 2) = ⟨D', gotP a p s q v x th e j⟩ ∧ (toM PinM S0 (n0 + (j - i) + 2)).length = n0 + (j - i) + 2
  | 0, i, n0, hi, h0 => h0
  | m + 1, i, n0, hi, h0 => by
    rw [if_neg (by omega)] at h0
    obtain ⟨⟨a1, a32⟩, ⟨p1, p8⟩, s1, s64⟩ := rightC_bd hr
    have hsz : sizeW a p s q v = 3 + p + a + 2 * s := if_pos hr
    obtain ⟨w0, w1⟩ := wayP_in th p p1 i
    have hc : (3 + wayP th p i).toNat < n := by omega
    have hD := hC.swaps hc (upE_in e) 0
    have hnx : PinM.next (tryP a p s q v x th e i) = some (actW3 1 ((3 + wayP th p i).toNat : Int) 0 (upE e)) := by
      show some (swapE (tryP a p s q v x th e i).cell e) = _
      rw [tryP_cell hr]; rfl
    have s1 := stM_succ h0 (advM_does (M := PinM) hnx hD)
    unfold firstP
    by_cases hz : G (3 + wayP th p i).toNat = 0
    · rw [if_pos hz]
      show ∃ D', Ctl n D' (upd G (3 + wayP th p i).toNat (upE e)) ∧ stM PinM S0 (n0 + (i - i) + 2) = _ ∧ _
      rw [Nat.sub_self, Nat.add_zero]
      have hD2 := hD.ctl
      rw [if_pos hz] at hD2
      have e1 : PinM.take (tryP a p s q v x th e i) (G (3 + wayP th p i).toNat) ⟨#[]⟩ = (tryP a p s q v x th e i).to 3 := by
        rw [PinM_take, takeP_2 rfl, if_pos hz]
      rw [e1] at s1
      have hG0 : upd G (3 + wayP th p i).toNat (upE e) 0 = e := by rw [upd_other (by omega)]; exact hG
      have hL := hD2.loads (c := 0) (by omega)
      rw [hG0] at hL
      have s2 := stM_succ s1 (advM_does (M := PinM) (E := (tryP a p s q v x th e i).to 3) (x := actL 1 ((0 : Nat) : Int)) rfl hL)
      have e2 : PinM.take ((tryP a p s q v x th e i).to 3) e ⟨#[]⟩ = gotP a p s q v x th e i := by
        rw [PinM_take, takeP_3 rfl]; exact if_pos rfl
      rw [e2] at s2
      exact ⟨_, hL.ctl, s2.1, s2.2⟩
    · rw [if_neg hz]
      have e0 := hC.swaps_not hc (upE e) hz
      have e1 : PinM.take (tryP a p s q v x th e i) (G (3 + wayP th p i).toNat) ⟨#[]⟩ = if m = 0 then takenP a p s q v x else tryP a p s q v x th e (i + 1) := by
        rw [PinM_take, takeP_2 rfl, if_neg hz]
        unfold PinD.miss
        show (if (i : Int) + 1 = p then _ else _) = _
        by_cases hm : m = 0
        · rw [if_pos hm, if_pos (by omega)]
          show (⟨a, p, s, q, v, x, 5, (i : Int) + 1, 0, 0, true⟩ : PinD) = _
          rw [show (i : Int) + 1 = p by omega]; rfl
        · rw [if_neg hm, if_neg (by omega)]
          show (⟨a, p, s, q, v, x, 2, (i : Int) + 1, (wayP th p i + 1) % p, e, false⟩ : PinD) = _
          rw [wayP_succ]; rfl
      rw [e0, e1] at s1
      have ih := pin_runs S0 hr hn hC hG m (i + 1) (n0 + 1) (by omega) s1
      cases hf : firstP G th p m (i + 1) with
      | none =>
        rw [hf] at ih
        rw [show n0 + (m + 1) = n0 + 1 + m by omega]
        exact ih
      | some j =>
        rw [hf] at ih
        have hj := (firstP_some hf).1
        obtain ⟨D', h1, h2, h3⟩ := ih
        rw [show n0 + 1 + (j - (i + 1)) = n0 + (j - i) by omega] at h2 h3
        exact ⟨D', h1, h2, h3⟩
/-- What a pin that is looked for alone comes to. -/
structure AloneP (a p s q v x th : Int) (n : Nat) (D : HpD) (G : Nat → Int) (m : Nat) (k : Nat) (E : PinD) (D' : HpD) (G' : Nat → Int) : Prop where
  st : stM PinM ⟨D, newP a p s q v x th⟩ m = ⟨D', E⟩
  to : (toM PinM ⟨D, newP a p s q v x th⟩ m).length = k
  stop : PinM.next E = none
  ctl : Ctl n D' G'
theorem pin_alone (hr : rightC a p s q v = true) (hn : (n : Int) = sizeW a p s q v) (hC : Ctl n D G) (m : Nat) (hm : p + 2 ≤ (m : Int)) :
    (firstP G th p p.toNat 0 = none → AloneP a p s q v x th n D G m (p.toNat + 1) (takenP a p s q v x) D G) ∧
    (∀ j, firstP G th p p.toNat 0 = some j → ∃ D', AloneP a p s q v x th n D G m (j + 3) (gotP a p s q v x th (G 0) j) D' (upd G (3 + wayP th p j).toNat (upE (G 0)))) := by
  obtain ⟨⟨a1, a32⟩, ⟨p1, p8⟩, s1, s64⟩ := rightC_bd hr
  have hsz : sizeW a p s q v = 3 + p + a + 2 * s := if_pos hr
  have hL := hC.loads (c := 0) (by omega)
  have hld := hC.loads_same (c := 0) (by omega)
  have h1 := stM_succ (M := PinM) (S := ⟨D, newP a p s q v x th⟩) (n := 0) ⟨rfl, rfl⟩ (advM_does (M := PinM) (E := newP a p s q v x th) (x := actL 1 ((0 : Nat) : Int)) rfl hL)
  have e1 : PinM.take (newP a p s q v x th) (G 0) ⟨#[]⟩ = tryP a p s q v x th (G 0) 0 := by
    rw [PinM_take, takeP_1 rfl]
    show (⟨a, p, s, q, v, x, 2, 0, th % p, G 0, false⟩ : PinD) = ⟨a, p, s, q, v, x, 2, 0, wayP th p 0, G 0, false⟩
    rw [wayP_zero th p p1]
  rw [hld, e1] at h1
  have hr1 := pin_runs (th := th) (x := x) ⟨D, newP a p s q v x th⟩ hr hn hC rfl p.toNat 0 1 (by omega) ⟨by rw [if_neg (by omega)]; exact h1.1, h1.2⟩
  constructor
  · intro hf
    rw [hf] at hr1
    obtain ⟨r1, r2⟩ := hr1
    have hst : stepM PinM (stM PinM ⟨D, newP a p s q v x th⟩ (1 + p.toNat)) = none := by rw [r1]; rfl
    obtain ⟨u1, u2⟩ := mstop_stays hst (m - (1 + p.toNat))
    rw [show 1 + p.toNat + (m - (1 + p.toNat)) = m by omega] at u1 u2
    exact ⟨u2.trans r1, by rw [u1, r2]; omega, rfl, hC⟩
  · intro j hf
    rw [hf] at hr1
    obtain ⟨D', r0, r1, r2⟩ := hr1
    have hj := (firstP_some hf).2.1
    have hst : stepM PinM (stM PinM ⟨D, newP a p s q v x th⟩ (1 + (j - 0) + 2)) = none := by rw [r1]; rfl
    obtain ⟨u1, u2⟩ := mstop_stays hst (m - (1 + (j - 0) + 2))
    rw [show 1 + (j - 0) + 2 + (m - (1 + (j - 0) + 2)) = m by omega] at u1 u2
    exact ⟨D', u2.trans r1, by rw [u1, r2]; omega, rfl, r0⟩
end

/-! ### pins that are taken ahead -/
/-- The words once the first j were looked at. -/
def takG (tk : Nat → Bool) (j : Nat) : Nat → Int := fun c => if 3 ≤ c ∧ c < 3 + j ∧ tk (c - 3) = true then 9 else 0
def freeN (tk : Nat → Bool) : Nat → Nat
  | 0 => 0
  | j + 1 => freeN tk j + if tk j = true then 0 else 1
theorem freeN_le (tk : Nat → Bool) : ∀ j, freeN tk j ≤ j
  | 0 => Nat.le_refl _
  | j + 1 => by have := freeN_le tk j; unfold freeN; split <;> omega
theorem freeN_zero {tk : Nat → Bool} : ∀ {j : Nat}, freeN tk j = 0 ↔ ∀ i, i < j → tk i = true
  | 0 => ⟨fun _ i hi => absurd hi (Nat.not_lt_zero _), fun _ => rfl⟩
  | j + 1 => by
    unfold freeN
    constructor
    · intro h i hi
      by_cases ht : tk j = true
      · rw [if_pos ht] at h
        rcases Nat.eq_or_lt_of_le (Nat.le_of_lt_succ hi) with e | hl
        · rw [e]; exact ht
        · exact freeN_zero.1 h i hl
      · rw [if_neg ht] at h; omega
    · intro h
      rw [if_pos (h j (Nat.lt_succ_self _)), Nat.add_zero]
      exact freeN_zero.2 fun i hi => h i (Nat.lt_succ_of_lt hi)
theorem takG_hit {tk : Nat → Bool} {j : Nat} (h : tk j = true) : ∀ c, upd (takG tk j) (3 + j) 9 c = takG tk (j + 1) c := fun c => by
  unfold upd takG
  by_cases e : c = 3 + j
  · subst e
    rw [if_pos rfl, if_pos ⟨by omega, by omega, by rw [show 3 + j - 3 = j by omega]; exact h⟩]
  · rw [if_neg e]
    by_cases h1 : 3 ≤ c ∧ c < 3 + j ∧ tk (c - 3) = true
    · rw [if_pos h1, if_pos ⟨h1.1, by omega, h1.2.2⟩]
    · rw [if_neg h1, if_neg (fun h2 => h1 ⟨h2.1, by omega, h2.2.2⟩)]
theorem takG_miss {tk : Nat → Bool} {j : Nat} (h : ¬ tk j = true) : ∀ c, takG tk (j + 1) c = takG tk j c := fun c => by
  unfold takG
  by_cases e : c = 3 + j
  · subst e
    rw [if_neg (fun h2 => h (by have := h2.2.2; rwa [show 3 + j - 3 = j by omega] at this)), if_neg (fun h2 => by omega)]
  · by_cases h1 : 3 ≤ c ∧ c < 3 + j ∧ tk (c - 3) = true
    · rw [if_pos h1, if_pos ⟨h1.1, by omega, h1.2.2⟩]
    · rw [if_neg h1, if_neg (fun h2 => h1 ⟨h2.1, by omega, h2.2.2⟩)]
/-- Whether all are taken. -/
theorem takG_first {tk : Nat → Bool} {th p : Int} (hp : 1 ≤ p ∧ p ≤ 8) : firstP (takG tk p.toNat) th p p.toNat 0 = none ↔ freeN tk p.toNat = 0 := by
  constructor
  · intro h
    refine freeN_zero.2 fun i hi => ?_
    obtain ⟨j, hj, hw⟩ := wayP_all th p hp.1 (k := (i : Int)) (by omega) (by omega)
    have := firstP_none h j (Nat.zero_le _) (by omega)
    rw [hw] at this
    unfold takG at this
    by_cases hc : 3 ≤ (3 + (i : Int)).toNat ∧ (3 + (i : Int)).toNat < 3 + p.toNat ∧ tk ((3 + (i : Int)).toNat - 3) = true
    · have := hc.2.2; rwa [show (3 + (i : Int)).toNat - 3 = i by omega] at this
    · rw [if_neg hc] at this; exact absurd rfl this
  · intro h
    cases hf : firstP (takG tk p.toNat) th p p.toNat 0 with
    | none => rfl
    | some j =>
      obtain ⟨-, hj, hz⟩ := firstP_some hf
      obtain ⟨w0, w1⟩ := wayP_in th p hp.1 j
      have := freeN_zero.1 h (wayP th p j).toNat (by omega)
      unfold takG at hz
      rw [if_pos ⟨by omega, by omega, by rw [show (3 + wayP th p j).toNat - 3 = (wayP th p j).toNat by omega]; exact this⟩] at hz
      cases hz

end Go.Proofs.Ytpnfbabiibopnaa

/-! A key that is read alone: what is told, by how many acts, and that the heap is as it was. Plain. -/
namespace Go.Proofs.Ytpnfbabiibopnaa
open Go Go.RowKit

/-! ### the three routines within it -/
/-- Where it stands while it looks for the key. -/
def inF (R : RdD) (_ : Nat) (F : FindR) : RdD :=
  if F.k = 0 then ⟨R.a, R.p, R.s, R.q, R.v, R.x, 2, R.pin, F, R.chn, R.code, R.took, R.val, R.mark⟩
  else if F.k = 1 then ⟨R.a, R.p, R.s, R.q, R.v, R.x, 3, R.pin, F, newC (headW R.a R.p R.s R.q R.v F.sh) R.pin.ep, R.code, R.took, R.val, R.mark⟩
  else ⟨R.a, R.p, R.s, R.q, R.v, R.x, 4, R.pin, F, R.chn, R.code, R.took, R.val, R.mark⟩
def okF (F : FindR) : Prop := F.y = noAct ∨ F.k = 0
theorem lookN_ok (d : FindR) (i : Nat) : okF (lookN d i) := by
  unfold lookN
  split
  · exact .inr rfl
  · exact .inl rfl
theorem takeF_ok (F : FindR) (w : Int) (t : ByteArray) : okF (takeF F w t) := by
  unfold takeF lookY
  split
  · split
    · exact .inr rfl
    split
    · split
      · exact .inl rfl
      · exact .inr rfl
    split
    · exact .inl rfl
    · exact lookN_ok _ _
  · exact .inl rfl
theorem nextF_k {F : FindR} (h : okF F) (hs : (nextF F).isSome = true) : F.k = 0 := by
  rcases h with h | h
  · unfold nextF at hs; rw [h] at hs; cases hs
  · exact h
theorem emb_find (R : RdD) : Emb FindM RdM (inF R) okF := by
  refine ⟨fun k F hF hs => ?_, fun k F w t hF hs => ⟨?_, takeF_ok F w t⟩⟩
  · have h0 := nextF_k hF hs
    unfold inF
    rw [if_pos h0]
    rfl
  · have h0 := nextF_k hF hs
    have e : inF R k F = ⟨R.a, R.p, R.s, R.q, R.v, R.x, 2, R.pin, F, R.chn, R.code, R.took, R.val, R.mark⟩ := by unfold inF; rw [if_pos h0]
    rw [e]
    rfl
/-- Where it stands while it reads the chain. -/
def inC (R : RdD) (_ : Nat) (C : ChnD) : RdD :=
  if C.asks = 6 then ⟨R.a, R.p, R.s, R.q, R.v, R.x, 4, R.pin, R.fnd, C, R.code, C.has, C.text, R.mark⟩
  else ⟨R.a, R.p, R.s, R.q, R.v, R.x, 3, R.pin, R.fnd, C, R.code, R.took, R.val, R.mark⟩
theorem emb_chain (R : RdD) : Emb ChnM RdM (inC R) (fun _ => True) := by
  refine ⟨fun k C _ hs => ?_, fun k C w t _ hs => ⟨?_, trivial⟩⟩
  · have h6 : C.asks ≠ 6 := fun e => by
      have : nextC C = none := by unfold nextC; rw [e]; rfl
      rw [show ChnM.next C = nextC C from rfl, this] at hs; cases hs
    unfold inC
    rw [if_neg h6]
    rfl
  · have h6 : C.asks ≠ 6 := fun e => by
      have : nextC C = none := by unfold nextC; rw [e]; rfl
      rw [show ChnM.next C = nextC C from rfl, this] at hs; cases hs
    have e : inC R k C = ⟨R.a, R.p, R.s, R.q, R.v, R.x, 3, R.pin, R.fnd, C, R.code, R.took, R.val, R.mark⟩ := by unfold inC; rw [if_neg h6]
    rw [e]
    rfl

/-! ### alone -/
/-- What is read of a key. -/
def readK (K : Shelves) (V : Int → Nat → VsnD) (N : Int → Nat) (d : FindR) (e : Int) : Bool × ByteArray :=
  if (findK K d d.s.toNat 0).1.k = 1 then ((seenC (V (findK K d d.s.toNat 0).1.sh) e (N (findK K d d.s.toNat 0).1.sh)).1, (seenC (V (findK K d d.s.toNat 0).1.sh) e (N (findK K d d.s.toNat 0).1.sh)).2.1) else (false, ⟨#[]⟩)
/-- The acts that it takes. -/
def actsK (K : Shelves) (V : Int → Nat → VsnD) (N : Int → Nat) (d : FindR) (e : Int) : Nat :=
  4 + (findK K d d.s.toNat 0).2 + if (findK K d d.s.toNat 0).1.k = 1 then 1 + actsC (V (findK K d d.s.toNat 0).1.sh) e (N (findK K d d.s.toNat 0).1.sh) else 0
section
variable {a p s q v x th : Int} {D : HpD} {G : Nat → Int} {K : Shelves} {V : Int → Nat → VsnD} {N : Int → Nat} {key : ByteArray}
/-- What a read that is alone comes to. -/
structure AloneR (a p s q v x th : Int) (key : ByteArray) (D : HpD) (G : Nat → Int) (K : Shelves) (V : Int → Nat → VsnD) (N : Int → Nat) (m : Nat) (E : RdD) (D' : HpD) : Prop where
  st : stM RdM ⟨D, newR a p s q v x th key⟩ m = ⟨D', E⟩
  to : (toM RdM ⟨D, newR a p s q v x th key⟩ m).length = actsK K V N (newF a p s q v x key) (G 0)
  done : E.part = 5
  code : E.code = 0
  took : E.took = (readK K V N (newF a p s q v x key) (G 0)).1
  val : E.val = (readK K V N (newF a p s q v x key) (G 0)).2
  mark : E.mark = 3
  laid : Laid a p s q v x D' G K V N
  oth : Oth D D'
theorem findK_sh (K : Shelves) (d : FindR) : ∀ (m i : Nat), (i : Int) + m = d.s → (findK K d m i).1.k = 1 → 0 ≤ (findK K d m i).1.sh ∧ (findK K d m i).1.sh < d.s := fun m i hmi hk => by
  rcases findK_says K d m i with ⟨h, _⟩ | ⟨_, j, h1, h2, h3, _⟩ | ⟨h, _⟩
  · rw [h] at hk; cases hk
  · rw [h3]; exact way_in d (by omega)
  · rw [h] at hk; cases hk
theorem findK_k0 (K : Shelves) (d : FindR) (m i : Nat) : (findK K d m i).1.k ≠ 0 := by
  rcases findK_says K d m i with ⟨h, _⟩ | ⟨h, _⟩ | ⟨h, _⟩ <;> rw [h] <;> decide
theorem read_alone (hL : Laid a p s q v x D G K V N) (hf : ∀ i : Nat, 3 ≤ i → (i : Int) < 3 + p → G i = 0) (hN : ∀ sh, N sh ≤ 1000) (m : Nat) (hm : actsK K V N (newF a p s q v x key) (G 0) ≤ m) :
    ∃ E D', AloneR a p s q v x th key D G K V N m E D' := by
  have hr := hL.rc
  obtain ⟨⟨a1, a32⟩, ⟨p1, p8⟩, s1, s64⟩ := rightC_bd hr
  have hsz := sizeW_at hr
  obtain ⟨w0, w1⟩ := wayP_in th p p1 0
  obtain ⟨c, hc⟩ : ∃ c, (3 + wayP th p 0).toNat = c := ⟨_, rfl⟩
  have hcn : c < (sizeW a p s q v).toNat := by omega
  have hc3 : 3 ≤ c := by omega
  have hcp : (c : Int) < 3 + p := by omega
  have hGc := hf c hc3 hcp
  have hcell : pinW a p s q v (wayP th p 0) = (c : Int) := by rw [pinW_in hr w0 w1]; omega
  obtain ⟨e, he⟩ : ∃ e, G 0 = e := ⟨_, rfl⟩
  have hC := hL.ctl
  have he64 := hC.in64 (c := 0) (by omega)
  have wr1 : wrap64 ((0 : Int) + 1) = 1 := (IntWalk.wrap64_in _ (by omega)).trans rfl
  have wr2 : wrap64 ((1 : Int) + 1) = 2 := (IntWalk.wrap64_in _ (by omega)).trans rfl
  have wr3 : wrap64 ((2 : Int) + 1) = 3 := (IntWalk.wrap64_in _ (by omega)).trans rfl
  rw [he] at hm he64
  -- the pin
  obtain ⟨P1, hP1⟩ : ∃ P, (newP a p s q v x th).at 2 e = P := ⟨_, rfl⟩
  have l1 := hC.loads (c := 0) (by omega)
  have l1s := hC.loads_same (c := 0) (by omega)
  rw [he] at l1
  have s1 := stM_succ (M := RdM) (S := ⟨D, newR a p s q v x th key⟩) (n := 0) ⟨rfl, rfl⟩ (advM_does (M := RdM) (E := newR a p s q v x th key) (x := actL 1 ((0 : Nat) : Int)) rfl l1)
  obtain ⟨F0, hF0⟩ : ∃ F, lookN (newF a p s q v x key) 0 = F := ⟨_, rfl⟩
  have t1 : RdM.take (newR a p s q v x th key) e ⟨#[]⟩ = ⟨a, p, s, q, v, x, 1, tryP a p s q v x th e 0, F0, newC 0 0, 0, false, ⟨#[]⟩, 1⟩ := by
    rw [← hF0]
    show (⟨a, p, s, q, v, x, 1, ⟨a, p, s, q, v, x, 2, 0, th % p, e, false⟩, _, newC 0 0, 0, false, ⟨#[]⟩, wrap64 (0 + 1)⟩ : RdD) = _
    rw [← wayP_zero th p p1, wr1]; rfl
  rw [l1s, t1] at s1
  have d2 := hC.swaps hcn (upE_in e) 0
  rw [if_pos hGc] at d2
  have e2 : doN D (actW3 1 (c : Int) 0 (upE e)) = D.word 1 (c : Int) (upE e) := by
    unfold doN; rw [actW3_right (b := 1) (c := (c : Int)) (o := 0) (u := upE e) (by omega), if_pos rfl]
    show swapD D 1 c 0 (upE e) = _
    unfold swapD; rw [if_pos (hC.spot hcn), hC.word hcn, if_pos hGc]
  have nx2 : RdM.next ⟨a, p, s, q, v, x, 1, tryP a p s q v x th e 0, F0, newC 0 0, 0, false, ⟨#[]⟩, 1⟩ = some (actW3 1 (c : Int) 0 (upE e)) := by
    show some (swapE (tryP a p s q v x th e 0).cell e) = _
    show some (swapE (pinW a p s q v (wayP th p 0)) e) = _
    rw [hcell]; rfl
  have s2 := stM_succ s1 (advM_does (M := RdM) nx2 d2)
  have t2 : RdM.take ⟨a, p, s, q, v, x, 1, tryP a p s q v x th e 0, F0, newC 0 0, 0, false, ⟨#[]⟩, 1⟩ (G c) ⟨#[]⟩ = ⟨a, p, s, q, v, x, 1, (tryP a p s q v x th e 0).to 3, F0, newC 0 0, 0, false, ⟨#[]⟩, 2⟩ := by
    show pinnedR _ (takeP (tryP a p s q v x th e 0) (G c) ⟨#[]⟩) = _
    rw [takeP_2 rfl, if_pos hGc]
    show (⟨a, p, s, q, v, x, 1, _, F0, newC 0 0, 0, false, ⟨#[]⟩, wrap64 (1 + 1)⟩ : RdD) = _
    rw [wr2]
  rw [t2] at s2
  have hC2 := d2.ctl
  have hO2 : Oth D (doN D (actW3 1 (c : Int) 0 (upE e))) := by rw [e2]; exact hC.word_oth c (upE e)
  obtain ⟨D2, hD2⟩ : ∃ D2, doN D (actW3 1 (c : Int) 0 (upE e)) = D2 := ⟨_, rfl⟩
  rw [hD2] at s2 hC2 hO2
  have hG20 : upd G c (upE e) 0 = e := by rw [upd_other (by omega)]; exact he
  have l3 := hC2.loads (c := 0) (by omega)
  have l3s := hC2.loads_same (c := 0) (by omega)
  rw [hG20] at l3
  have s3 := stM_succ s2 (advM_does (M := RdM) (x := actL 1 ((0 : Nat) : Int)) rfl l3)
  have t3 : RdM.take ⟨a, p, s, q, v, x, 1, (tryP a p s q v x th e 0).to 3, F0, newC 0 0, 0, false, ⟨#[]⟩, 2⟩ e ⟨#[]⟩ = ⟨a, p, s, q, v, x, 2, gotP a p s q v x th e 0, F0, newC 0 0, 0, false, ⟨#[]⟩, 3⟩ := by
    show pinnedR _ (takeP ((tryP a p s q v x th e 0).to 3) e ⟨#[]⟩) = _
    rw [takeP_3 rfl, if_pos (show e = ((tryP a p s q v x th e 0).to 3).ep from rfl)]
    show (⟨a, p, s, q, v, x, 2, _, F0, newC 0 0, 0, false, ⟨#[]⟩, wrap64 (2 + 1)⟩ : RdD) = _
    rw [wr3]; rfl
  rw [l3s, t3] at s3
  -- the key
  obtain ⟨R, hR⟩ : ∃ R : RdD, (⟨a, p, s, q, v, x, 2, gotP a p s q v x th e 0, F0, newC 0 0, 0, false, ⟨#[]⟩, 3⟩ : RdD) = R := ⟨_, rfl⟩
  have hL2 : Laid a p s q v x D2 (upd G c (upE e)) K V N := hL.touch hC2 (fun i hi => upd_other (by omega)) hO2.2
  obtain ⟨d, hd⟩ : ∃ d, newF a p s q v x key = d := ⟨_, rfl⟩
  have hds : d.s = s := by rw [← hd]; rfl
  have hFd := hL2.field key
  rw [hd] at hFd
  have hrd : rightC d.a d.p d.s d.q d.v = true := by rw [← hd]; exact hr
  have hF0k : F0.k = 0 := by rw [← hF0]; unfold lookN; rw [if_pos (by show ((0 : Nat) : Int) < s; omega)]; rfl
  have i0 : inF R 0 F0 = R := by unfold inF; rw [if_pos hF0k, ← hR]
  obtain ⟨f1, f2, f3⟩ := find_alone hFd hrd 1000 (by omega)
  obtain ⟨g1, g2⟩ := toM_exact f2
  rw [f1] at g2
  have hF0d : lookN d 0 = F0 := by rw [← hd]; exact hF0
  rw [hF0d] at g1 g2
  have hI0 : okF F0 := by rw [← hF0]; exact lookN_ok _ _
  have s3' : stM RdM ⟨D, newR a p s q v x th key⟩ (0 + 1 + 1 + 1) = ⟨D2, inF R 0 F0⟩ ∧ (toM RdM ⟨D, newR a p s q v x th key⟩ (0 + 1 + 1 + 1)).length = 0 + 1 + 1 + 1 := by rw [i0, ← hR]; exact s3
  have s4 := (emb_runs (emb_find R) hI0 s3' _ g1).1
  rw [g2] at s4
  rw [hd] at hm
  have hkF := findK_k0 K d d.s.toNat 0
  have hpin : R.pin = gotP a p s q v x th e 0 := by rw [← hR]
  have hRc : R.a = a ∧ R.p = p ∧ R.s = s ∧ R.q = q ∧ R.v = v ∧ R.x = x ∧ R.code = 0 ∧ R.took = false ∧ R.val = ⟨#[]⟩ ∧ R.mark = 3 := by rw [← hR]; exact ⟨rfl, rfl, rfl, rfl, rfl, rfl, rfl, rfl, rfl, rfl⟩
  obtain ⟨ra, rp, rs, rq, rv, rx, rcode, rtook, rval, rmark⟩ := hRc
  -- what is left: the pin is given back
  have hlast : ∀ (E4 : RdD) (n4 : Nat), E4.part = 4 → E4.pin = gotP a p s q v x th e 0 → E4.a = a → E4.p = p → E4.s = s → E4.q = q → E4.v = v → E4.code = 0 → E4.mark = 3 → E4.took = (readK K V N d e).1 → E4.val = (readK K V N d e).2 → n4 + 1 = actsK K V N d e →
      stM RdM ⟨D, newR a p s q v x th key⟩ n4 = ⟨D2, E4⟩ ∧ (toM RdM ⟨D, newR a p s q v x th key⟩ n4).length = n4 → ∃ E D', AloneR a p s q v x th key D G K V N m E D' := by
    intro E4 n4 hp4 hpn h1 h2 h3 h4 h5 hcode hmark htook hval hn4 hs4
    have d5 := hC2.stores hcn (u := 0) (by omega)
    have nx5 : RdM.next E4 = some (actS 1 (c : Int) 0) := by
      rw [RdM_next, nextR_4 hp4]
      unfold RdD.free
      rw [hpn, h1, h2, h3, h4, h5]
      show some (freeE (pinW a p s q v (wayP th p 0))) = _
      rw [hcell]
      unfold freeE
      rw [if_neg (by omega)]
      rfl
    have s5 := stM_succ hs4 (advM_does (M := RdM) nx5 d5)
    have t5 : RdM.take E4 0 ⟨#[]⟩ = E4.done := by rw [RdM_take, takeR_4 hp4]
    rw [t5] at s5
    have hC5 := d5.ctl
    have hO5 : Oth D2 (doN D2 (actS 1 (c : Int) 0)) := by
      have e5 : doN D2 (actS 1 (c : Int) 0) = D2.word 1 (c : Int) 0 := by
        unfold doN; rw [actS_right (b := 1) (c := (c : Int)) (u := 0) (by omega), if_pos rfl]
        show storeD D2 1 c 0 = _
        unfold storeD; rw [if_pos (hC2.spot hcn)]
      rw [e5]; exact hC2.word_oth c 0
    have hno : stepM RdM (stM RdM ⟨D, newR a p s q v x th key⟩ (n4 + 1)) = none := by
      rw [s5.1]; rfl
    obtain ⟨u1, u2⟩ := mstop_stays hno (m - (n4 + 1))
    rw [show n4 + 1 + (m - (n4 + 1)) = m by omega] at u1 u2
    refine ⟨E4.done, _, u2.trans s5.1, by rw [u1, s5.2, hn4, hd, he], rfl, hcode, by rw [hd, he]; exact htook, by rw [hd, he]; exact hval, hmark, ?_, hO2.trans hO5⟩
    refine hL.touch (hC5.same fun i hi => ?_) (fun _ _ => rfl) (hO2.trans hO5).2
    by_cases ei : i = c
    · subst ei; rw [upd_self]; exact hGc
    · rw [upd_other ei, upd_other ei]
  by_cases h1 : (findK K d d.s.toNat 0).1.k = 1
  · obtain ⟨y0, y1⟩ := findK_sh K d d.s.toNat 0 (by omega) h1
    obtain ⟨sh, hsh⟩ : ∃ sh, (findK K d d.s.toNat 0).1.sh = sh := ⟨_, rfl⟩
    rw [hsh] at y0 y1
    obtain ⟨b, gb, db⟩ := hL2.down sh y0 (by omega)
    have hk : headW a p s q v sh = 3 + p + a + 2 * sh + 1 := if_pos ⟨hr, y0, by omega⟩
    have hkc : (((headW a p s q v sh).toNat : Nat) : Int) = headW a p s q v sh := by omega
    have hw : wordAt D2.L 1 (headW a p s q v sh) = (b : Int) := by
      have := hC2.word (c := (headW a p s q v sh).toNat) (by omega)
      rw [hkc] at this
      exact this.trans gb
    have hsp : spot D2.L 1 (headW a p s q v sh) = 0 := by
      have := hC2.spot (c := (headW a p s q v sh).toNat) (by omega)
      rw [hkc] at this
      exact this
    obtain ⟨q1, q2⟩ := chain_alone (at_ := e) (by omega) hsp hw db (hN sh) (2 * N sh + 4) (Nat.le_refl _)
    obtain ⟨c1, c2⟩ := toM_exact q2
    rw [q1] at c2
    obtain ⟨R3, hR3⟩ : ∃ R3 : RdD, inF R (0 + (findK K d d.s.toNat 0).2) (findK K d d.s.toNat 0).1 = R3 := ⟨_, rfl⟩
    have eR3 : R3 = ⟨a, p, s, q, v, x, 3, gotP a p s q v x th e 0, (findK K d d.s.toNat 0).1, newC (headW a p s q v sh) e, 0, false, ⟨#[]⟩, 3⟩ := by
      rw [← hR3]; unfold inF; rw [if_neg hkF, if_pos h1, ra, rp, rs, rq, rv, rx, rcode, rtook, rval, rmark, hpin, hsh]; rfl
    have i3 : inC R3 0 (newC (headW a p s q v sh) e) = R3 := by
      unfold inC; rw [if_neg (by show (1 : Nat) ≠ 6; decide), eR3]
    rw [hR3, ← i3] at s4
    have s5 := (emb_runs (emb_chain R3) trivial s4 _ c1).1
    rw [c2] at s5
    have eEnd : inC R3 (0 + (1 + actsC (V sh) e (N sh))) (endC (headW a p s q v sh) (V sh) e (N sh) 0) = ⟨a, p, s, q, v, x, 4, gotP a p s q v x th e 0, (findK K d d.s.toNat 0).1, endC (headW a p s q v sh) (V sh) e (N sh) 0, 0, (seenC (V sh) e (N sh)).1, (seenC (V sh) e (N sh)).2.1, 3⟩ := by
      unfold inC; rw [if_pos (by rfl), eR3]; rfl
    rw [eEnd] at s5
    have hrk : readK K V N d e = ((seenC (V sh) e (N sh)).1, (seenC (V sh) e (N sh)).2.1) := by unfold readK; rw [if_pos h1, hsh]
    have hak : actsK K V N d e = 4 + (findK K d d.s.toNat 0).2 + (1 + actsC (V sh) e (N sh)) := by unfold actsK; rw [if_pos h1, hsh]
    exact hlast _ _ rfl rfl rfl rfl rfl rfl rfl rfl rfl (by rw [hrk]) (by rw [hrk]) (by rw [hak]; omega) s5
  · have e4 : inF R (0 + (findK K d d.s.toNat 0).2) (findK K d d.s.toNat 0).1 = ⟨a, p, s, q, v, x, 4, gotP a p s q v x th e 0, (findK K d d.s.toNat 0).1, R.chn, 0, false, ⟨#[]⟩, 3⟩ := by
      unfold inF; rw [if_neg hkF, if_neg h1, ra, rp, rs, rq, rv, rx, rcode, rtook, rval, rmark, hpin]
    rw [e4] at s4
    have hrk : readK K V N d e = (false, ⟨#[]⟩) := by unfold readK; rw [if_neg h1]
    have hak : actsK K V N d e = 4 + (findK K d d.s.toNat 0).2 := by unfold actsK; rw [if_neg h1]; omega
    exact hlast _ _ rfl rfl rfl rfl rfl rfl rfl rfl rfl (by rw [hrk]) (by rw [hrk]) (by rw [hak]; omega) s4
end

end Go.Proofs.Ytpnfbabiibopnaa
