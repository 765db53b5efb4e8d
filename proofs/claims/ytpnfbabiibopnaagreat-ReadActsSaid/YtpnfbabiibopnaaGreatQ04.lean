/-
  Act, Clone17, Hops4, in one text.
-/
import Derived.Test.YtpnfbabiibopnaaGreatQ03
import Derived.Laws.StructEq
import Derived.Laws.ResultCell
import Derived.Shelf.Pu.Clone
/-! An act as it lies; whether it may be, and whether it only looks: the program and the reference. -/
namespace Go.Proofs.YtpnfbabiibopnaaGreat
open Go Go.RowKit
attribute [local go_sem ↓] Go.wp_at_zero Go.wp_at_succ

/-- An act. -/
structure ActD where
  kind : Int
  block : Nat
  cell : Int
  old : Int
  new : Int
  text : ByteArray
def ActD.fits (x : ActD) : Prop := (-9223372036854775808 ≤ x.kind ∧ x.kind ≤ 9223372036854775807) ∧ x.block < 18446744073709551616 ∧ (-9223372036854775808 ≤ x.cell ∧ x.cell ≤ 9223372036854775807) ∧ (0 ≤ x.old ∧ x.old < 18446744073709551616) ∧ (0 ≤ x.new ∧ x.new < 18446744073709551616) ∧ x.text.size ≤ 281474976710656
abbrev actV (k : Int) (b : Int) (c o n : Int) (t : ByteArray) : Value := .agg #[.int .i64 k, .int .u64 b, .int .i64 c, .int .u64 o, .int .u64 n, .string t]

/-- What is left of an act once all is taken off that its kind has. -/
def restA (x : ActD) : ActD :=
  if x.kind = 5 then ⟨0, x.block, 0, x.old, x.new, ⟨#[]⟩⟩ else if x.kind = 3 then ⟨0, 0, 0, 0, 0, x.text⟩
  else if x.kind = 2 ∨ x.kind = 4 then ⟨0, 0, 0, x.old, 0, x.text⟩ else if x.kind = 1 ∨ x.kind = 10 then ⟨0, 0, 0, x.old, x.new, x.text⟩
  else if x.kind = 6 ∨ x.kind = 7 then ⟨0, 0, x.cell, x.old, x.new, x.text⟩ else if x.kind = 8 ∨ x.kind = 9 ∨ x.kind = 0 then ⟨0, x.block, x.cell, x.old, x.new, x.text⟩ else x
def zeroA (x : ActD) : Bool := x.kind == 0 && ((x.block : Int) == 0 && (x.cell == 0 && (x.old == 0 && (x.new == 0 && x.text.toList == (⟨#[]⟩ : ByteArray).toList))))
/-- May it be? -/
def rightA (x : ActD) : Bool := decide (0 ≤ x.cell) && (decide ((x.text.size : Int) ≤ 4096) && zeroA (restA x))
def looksA (x : ActD) : Bool := (x.kind == 1 || x.kind == 10 || x.kind == 6) && rightA x

theorem eqA_run (k b c o n k' b' c' o' n' : Int) (t t' : ByteArray) (w : World) : (binOp .eql 31 (actV k b c o n t) (actV k' b' c' o' n' t')).run Tryz.prog w = .ok (.bool (k == k' && (b == b' && (c == c' && (o == o' && (n == n' && t.toList == t'.toList)))))) w := by
  have u3 := Tryz.underlying3
  have u32 := Tryz.underlying22
  have u9 := Tryz.underlying9
  have hS : Tryz.prog.underlying 31 = some (.struct (Tryz.prog.fieldsOf 31)) := by kernel_rfl
  have hp : Tryz.prog.stoodInHeld 31 = false := by kernel_rfl
  rw [run_eql_struct, show (10000 : Nat) = 9999 + 1 from rfl, run_equalIn_agg w 9999 31 _ _ hS hp]
  simp only [Program.fieldsOf, Tryz.underlying31]
  have a3 := Tryz.isAgg3
  have z3 := Tryz.sizeOf3
  have a32 := Tryz.isAgg22
  have z32 := Tryz.sizeOf22
  have a9 := Tryz.isAgg9
  have z9 := Tryz.sizeOf9
  go_simp
  by_cases h1 : k = k' <;> by_cases h2 : b = b' <;> by_cases h3 : c = c' <;> by_cases h4 : o = o' <;> by_cases h5 : n = n' <;> by_cases h6 : t.toList = t'.toList <;> simp [h1, h2, h3, h4, h5, h6]

theorem results_cell1 {fn : Func} {p : Tmp} {ty : TypeId} (h : fn.results = #[.cell p ty]) (tmps : Array Value) (P : Program) (w : World) :
    (results fn tmps).run P w = ((asAddr (tmps.getD p undef)).run P w).andThen fun a w₁ => (loadVar ty a).run P w₁ := by
  simp [results, h]

set_option maxRecDepth 100000 in
set_option maxHeartbeats 4000000 in
theorem rest_known (k : Int) (b : Nat) (c o n : Int) (t : ByteArray) (W : World) (hk : k = 0 ∨ k = 1 ∨ k = 2 ∨ k = 3 ∨ k = 4 ∨ k = 5 ∨ k = 6 ∨ k = 7 ∨ k = 8 ∨ k = 9 ∨ k = 10) (v : ActD) (hv : restA ⟨k, b, c, o, n, t⟩ = v) : Calls Tryz.prog 101 #[actV k b c o n t] W fun e W' => e = .returned (actV v.kind v.block v.cell v.old v.new v.text) ∧ Below W.heap.size W W' := by
  rcases hk with rfl | rfl | rfl | rfl | rfl | rfl | rfl | rfl | rfl | rfl | rfl
  all_goals
    simp [restA] at hv
    subst hv
    go_enter Tryz.func101, Tryz.ntmps101
    go_wp2_with fail
    refine bodyPost_ret (by rw [results_cell1 (by rfl)]; go_simp) rfl ⟨rfl, ?_⟩
    exact (below_alloc _ _).trans ((below_alloc _ _).mono (by simp))

set_option maxRecDepth 100000 in
set_option maxHeartbeats 4000000 in
theorem rest_other (k : Int) (b : Nat) (c o n : Int) (t : ByteArray) (W : World) (n0 : k ≠ 0) (n1 : k ≠ 1) (n2 : k ≠ 2) (n3 : k ≠ 3) (n4 : k ≠ 4) (n5 : k ≠ 5) (n6 : k ≠ 6) (n7 : k ≠ 7) (n8 : k ≠ 8) (n9 : k ≠ 9) (n10 : k ≠ 10) : Calls Tryz.prog 101 #[actV k b c o n t] W fun e W' => e = .returned (actV k b c o n t) ∧ Below W.heap.size W W' := by
  go_enter Tryz.func101, Tryz.ntmps101
  go_wp2_with fail
  refine bodyPost_ret (by rw [results_cell1 (by rfl)]; go_simp) rfl ⟨rfl, ?_⟩
  exact (below_alloc _ _).trans ((below_alloc _ _).mono (by simp))

theorem rest_any (k : Int) (b : Nat) (c o n : Int) (t : ByteArray) (W : World) (v : ActD) (hv : restA ⟨k, b, c, o, n, t⟩ = v) : Calls Tryz.prog 101 #[actV k b c o n t] W fun e W' => e = .returned (actV v.kind v.block v.cell v.old v.new v.text) ∧ Below W.heap.size W W' := by
  by_cases hk : k = 0 ∨ k = 1 ∨ k = 2 ∨ k = 3 ∨ k = 4 ∨ k = 5 ∨ k = 6 ∨ k = 7 ∨ k = 8 ∨ k = 9 ∨ k = 10
  · exact rest_known k b c o n t W hk v hv
  · have hv' : v = ⟨k, b, c, o, n, t⟩ := by
      subst hv
      unfold restA
      simp only
      rw [if_neg (by omega), if_neg (by omega), if_neg (by omega), if_neg (by omega), if_neg (by omega), if_neg (by omega)]
    subst hv'
    exact rest_other k b c o n t W (by omega) (by omega) (by omega) (by omega) (by omega) (by omega) (by omega) (by omega) (by omega) (by omega) (by omega)

theorem eqZ_run (v : ActD) (w : World) : (binOp .eql 31 (actV v.kind v.block v.cell v.old v.new v.text) (actV 0 0 0 0 0 ⟨#[]⟩)).run Tryz.prog w = .ok (.bool (zeroA v)) w := eqA_run _ _ _ _ _ 0 0 0 0 0 _ ⟨#[]⟩ w

set_option maxRecDepth 100000 in
set_option maxHeartbeats 4000000 in
theorem right_any (k : Int) (b : Nat) (c o n : Int) (t : ByteArray) (W : World) : Calls Tryz.prog 90 #[actV k b c o n t] W (Says (rightA ⟨k, b, c, o, n, t⟩) W) := by
  by_cases hc : 0 ≤ c
  · by_cases hs : (t.size : Int) ≤ 4096
    · obtain ⟨v, hv⟩ : ∃ v, restA ⟨k, b, c, o, n, t⟩ = v := ⟨_, rfl⟩
      have HR := Lib.hid (fun X => rest_any k b c o n t X v hv)
      have hz := eqZ_run v
      have HE : rightA ⟨k, b, c, o, n, t⟩ = zeroA v := by unfold rightA; simp only; rw [decide_eq_true hc, decide_eq_true hs, hv]; rfl
      rw [HE]
      obtain ⟨z, hzz⟩ : ∃ z, zeroA v = z := ⟨_, rfl⟩
      rw [hzz] at hz ⊢
      clear hv HE hzz
      go_enter Tryz.func90, Tryz.ntmps90
      go_wp2_with fail
      refine (HR.out _).mono ?_
      rintro en w1 ⟨rfl, hb⟩
      have HB := Lib.hid ((below_alloc W _).trans (hb.mono (by simp)))
      clear hb
      go_wp2_with fail
      go_ret
      exact ⟨rfl, HB.out⟩
    · have HE : rightA ⟨k, b, c, o, n, t⟩ = false := by unfold rightA; simp only; rw [decide_eq_false hs]; simp
      rw [HE]
      clear HE
      go_enter Tryz.func90, Tryz.ntmps90
      go_wp2_with fail
      go_ret
      exact ⟨rfl, below_alloc _ _⟩
  · have HE : rightA ⟨k, b, c, o, n, t⟩ = false := by unfold rightA; simp only; rw [decide_eq_false hc]; simp
    rw [HE]
    clear HE
    go_enter Tryz.func90, Tryz.ntmps90
    go_wp2_with fail
    go_ret
    exact ⟨rfl, below_alloc _ _⟩

end Go.Proofs.YtpnfbabiibopnaaGreat

/-! strings.Clone, by the contract of the shelf. -/
namespace Go.Proofs.YtpnfbabiibopnaaGreat
open Go Go.Shelf Go.RowKit
def laysClone_ren : Go.Shelf.Ren := ⟨fun | 25 => 76 | n => n, fun | 9 => 9 | 3 => 3 | 4 => 4 | 37 => 163 | 0 => 0 | 47 => 164 | 5 => 5 | n => n, fun | n => n⟩
theorem laysClone : Go.Proofs.LaysPu.n25 Tryz.prog laysClone_ren := {
  mixed := by kernel_rfl
  f25 := Tryz.func76.trans (congrArg some (by kernel_rfl))
  t0 := Tryz.underlying0
  a0 := Tryz.isAgg0
  z0 := Tryz.sizeOf0
  v0 := Tryz.zeroValue0
  i0 := by kernel_rfl
  t3 := Tryz.underlying3
  a3 := Tryz.isAgg3
  z3 := Tryz.sizeOf3
  v3 := Tryz.zeroValue3
  i3 := by kernel_rfl
  t4 := Tryz.underlying4
  a4 := Tryz.isAgg4
  z4 := Tryz.sizeOf4
  v4 := Tryz.zeroValue4
  i4 := by kernel_rfl
  t5 := Tryz.underlying5
  a5 := Tryz.isAgg5
  z5 := Tryz.sizeOf5
  v5 := Tryz.zeroValue5
  i5 := by kernel_rfl
  t9 := Tryz.underlying9
  a9 := Tryz.isAgg9
  z9 := Tryz.sizeOf9
  v9 := Tryz.zeroValue9
  i9 := by kernel_rfl
  t37 := Tryz.underlying163
  a37 := Tryz.isAgg163
  z37 := Tryz.sizeOf163
  v37 := Tryz.zeroValue163
  i37 := by kernel_rfl
  t47 := Tryz.underlying164
  a47 := Tryz.isAgg164
  z47 := Tryz.sizeOf164
  v47 := Tryz.zeroValue164
  i47 := by kernel_rfl }

theorem clone_in (s : ByteArray) (W : World) (hs : s.size ≤ 281474976710656) : Calls Tryz.prog 76 #[.string s] W fun e W' => e = .returned (.string s) ∧ Below W.heap.size W W' :=
  Go.Proofs.AnyPu.stringslite_Clone laysClone s W hs

theorem clone_any (s : ByteArray) (W : World) (hs : s.size ≤ 281474976710656) : Calls Tryz.prog 51 #[.string s] W fun e W' => e = .returned (.string s) ∧ Below W.heap.size W W' := by
  go_enter Tryz.func51, Tryz.ntmps51
  go_wp2_with fail
  refine (clone_in s _ hs).mono ?_
  rintro e w' ⟨rfl, hb⟩
  have HB := Lib.hid hb
  clear hb
  go_wp2
  go_ret
  exact ⟨rfl, HB.out⟩

end Go.Proofs.YtpnfbabiibopnaaGreat

/-! A heap's Drop. -/
namespace Go.Proofs.YtpnfbabiibopnaaGreat
open Go Go.RowKit
attribute [local go_sem ↓] Go.wp_at_zero Go.wp_at_succ

section
variable {B p : Nat} {D : HpD} {f : Nat → Prop}

theorem lose_hit {D : HpD} {k : Nat} {b : BlkD} (h : liveAt D.L k = some b) : D.lose k = D.at k ⟨b.ws, b.text, true⟩ := by unfold HpD.lose; rw [h]

set_option maxRecDepth 100000 in
set_option maxHeartbeats 1000000 in
theorem drop_any (W : World) (h : Hp W B p D f) (hf : D.faults < 1000000) (k : Nat) (hk : k < 18446744073709551616) :
    Calls Tryz.prog 96 #[.pointer (some ⟨p, 0, none⟩), .int .u64 (k : Int)] W (HpR B p f W (.int .i64 (there D.L k)) (dropD D k)) := by
  obtain ⟨mb, g, cp, h⟩ := h
  obtain ⟨z, hz⟩ : ∃ z, (k : Int) = z := ⟨_, rfl⟩
  cases hb : liveAt D.L k with
  | some b =>
    obtain ⟨m, rfl⟩ : ∃ m, mb = some m := by
      rcases h.map with ⟨_, h0⟩ | ⟨m, h1, _⟩
      · rw [h0, liveAt_nil] at hb; cases hb
      · exact ⟨m, h1⟩
    have HC := Lib.hid (find_hit W h k hk b hb)
    unfold dropD
    rw [there_hit hb, if_pos rfl, lose_hit hb]
    have HX := Lib.hid (fun X (hX : Below W.heap.size W X) => show ∃ c : Nat, (∀ ty, (Builtin.len_ #[130] ty #[.map (some m)]).run Tryz.prog X = .ok (.int .i64 c) X) ∧
        ((1 < c ∧ ∃ Z, (Builtin.delete_ #[130, 22] 0 #[.map (some m), .int .u64 z]).run Tryz.prog X = .ok (.tuple #[]) Z ∧ HpR B p f W (.int .i64 0) (D.at k ⟨b.ws, b.text, true⟩) (.returned (.int .i64 0)) Z) ∨
         (c ≤ 1 ∧ ∃ Z, (Builtin.clear_ #[130] 0 #[.map (some m)]).run Tryz.prog X = .ok (.tuple #[]) Z ∧ HpR B p f W (.int .i64 0) (D.at k ⟨b.ws, b.text, true⟩) (.returned (.int .i64 0)) Z)) from by
      have h2 := h.below hX
      have hM := h2.mapped rfl
      obtain ⟨c, hc1, hc2, hc3⟩ := hM.len
      refine ⟨c, hc2, ?_⟩
      rcases Nat.lt_or_ge 1 c with hc | hc
      · obtain ⟨Z, r1, r2, r3⟩ := hM.drop k hk 0
        obtain ⟨f', q1, q2⟩ := h2.gone hb rfl r2 r3 (fun _ _ => rfl)
        exact .inl ⟨hc, Z, by rw [← hz]; exact r1, f', rfl, ⟨_, _, _, q1⟩, (Step.of_below hX).trans q2⟩
      · obtain ⟨Z, r1, r2, r3⟩ := hM.clear 0
        obtain ⟨f', q1, q2⟩ := h2.gone hb rfl r2 r3 (fun j hj => by
          by_cases hjk : j = k
          · rw [if_pos hjk]
          · rw [if_neg hjk, hc3 k hk (by rw [phi_some hb]; rfl) hc j hj hjk])
        exact .inr ⟨hc, Z, r1, f', rfl, ⟨_, _, _, q1⟩, (Step.of_below hX).trans q2⟩)
    have HCE := Lib.hid (fun X (hX : Below W.heap.size W X) => (h.below hX).cells.1)
    obtain ⟨n, hn⟩ : ∃ n, b.ws.length = n := ⟨_, rfl⟩
    obtain ⟨s, hs⟩ : ∃ s, b.text = s := ⟨_, rfl⟩
    obtain ⟨q, hq⟩ : ∃ q, g k = q := ⟨_, rfl⟩
    obtain ⟨c, hc⟩ : ∃ c, cp k = c := ⟨_, rfl⟩
    obtain ⟨x, hx⟩ : ∃ x, D.at k ⟨b.ws, b.text, true⟩ = x := ⟨_, rfl⟩
    rw [hn, hs, hq, hc] at HC
    rw [hz] at HC ⊢
    rw [hx] at HX ⊢
    clear hn hs hq hc hz h hb hk hf hx
    go_enter Tryz.func96, Tryz.ntmps96
    go_wp2_with fail
    refine HC.out.mono ?_
    rintro en w1 ⟨rfl, hb1⟩
    have hB2 := hb1.alloc hb1.size (.cells #[.slice (some ⟨q, 0, none⟩) n c, .string s] 135)
    have hb0 := HCE.out _ hB2
    obtain ⟨l, hl, hor⟩ := HX.out _ hB2
    clear hb1 hB2 HX HC HCE
    rcases hor with ⟨hl1, Z, hr, hz⟩ | ⟨hl1, Z, hr, hz⟩
    · have hl2 : (1 : Int) < (l : Int) := by omega
      have HZ := Lib.hid hz
      clear hl1 hz
      go_wp2_with fail
      go_ret
      exact HZ.out
    · have hl2 : (l : Int) ≤ 1 := by omega
      have HZ := Lib.hid hz
      clear hl1 hz
      go_wp2_with fail
      go_ret
      exact HZ.out
  | none =>
    have HC := Lib.hid (find_miss W h hf k hk hb)
    unfold dropD
    have hcode : ¬ (lostAt D.L k = 0) := by rcases lost_nz D.L k with e | e <;> rw [e] <;> decide
    have hcb : (lostAt D.L k == 0) = false := by rw [beq_eq_false_iff_ne]; exact hcode
    rw [there_lost hb, if_neg hcode]
    unfold LostR zeroB at HC
    obtain ⟨c, hc⟩ : ∃ c, lostAt D.L k = c := ⟨_, rfl⟩
    rw [hc] at HC hcb ⊢
    rw [hz] at HC ⊢
    clear hz hc h hb hk hf hcode
    go_enter Tryz.func96, Tryz.ntmps96
    go_wp2_with fail
    refine HC.out.mono ?_
    rintro en w1 ⟨rfl, h1, s1⟩
    have H1 := Lib.hid h1
    have S1 := Lib.hid s1
    clear h1 s1
    go_wp2_with fail
    go_ret
    exact ⟨f, rfl, ⟨mb, g, cp, H1.out.below (below_alloc _ _)⟩, S1.out.trans (Step.of_below (below_alloc _ _))⟩
end

end Go.Proofs.YtpnfbabiibopnaaGreat
