/-
  Hops3, Act, Clone17, Hops4, in one text.
-/
import Derived.Test.YtpnfbabiibopnaaQ02
import Derived.Laws.StructEq
import Derived.Laws.ResultCell
import Derived.Shelf.Pu.Clone
/-! A heap's New, Words, Size, Lock, Unlock, Locked, Faults; the calls of a nil heap. -/
namespace Go.Proofs.Ytpnfbabiibopnaa
open Go Go.RowKit
attribute [local go_sem ↓] Go.wp_at_zero Go.wp_at_succ

section
variable {B p : Nat} {D : HpD} {f : Nat → Prop}

set_option maxRecDepth 100000 in
set_option maxHeartbeats 1000000 in
theorem words_any (W : World) (h : Hp W B p D f) (hf : D.faults < 1000000) (k : Nat) (hk : k < 18446744073709551616) :
    Calls Try.prog 46 #[.pointer (some ⟨p, 0, none⟩), .int .u64 (k : Int)] W (HpR B p f W (.tuple #[.string (textAt D.L k), .int .i64 (there D.L k)]) (wordsD D k)) := by
  obtain ⟨mb, g, cp, h⟩ := h
  obtain ⟨z, hz⟩ : ∃ z, (k : Int) = z := ⟨_, rfl⟩
  cases hb : liveAt D.L k with
  | some b =>
    have HC := Lib.hid (find_hit W h k hk b hb)
    have HH := Lib.hid h
    unfold wordsD
    rw [there_hit hb, if_pos rfl, textAt_hit hb]
    obtain ⟨n, hn⟩ : ∃ n, b.ws.length = n := ⟨_, rfl⟩
    obtain ⟨s, hs⟩ : ∃ s, b.text = s := ⟨_, rfl⟩
    obtain ⟨q, hq⟩ : ∃ q, g k = q := ⟨_, rfl⟩
    obtain ⟨c, hc⟩ : ∃ c, cp k = c := ⟨_, rfl⟩
    rw [hn, hs, hq, hc] at HC
    rw [hz] at HC ⊢
    rw [hs]
    clear hn hs hq hc hz h hb hk hf
    go_enter Try.func46, Try.ntmps46
    go_wp2_with fail
    refine HC.out.mono ?_
    rintro en w1 ⟨rfl, hb1⟩
    have HB := Lib.hid hb1
    clear hb1
    go_wp2_with fail
    go_ret2
    have hB2 := HB.out.alloc HB.out.size (.cells #[.slice (some ⟨q, 0, none⟩) n c, .string s] 119)
    exact ⟨f, rfl, ⟨mb, g, cp, HH.out.below hB2⟩, Step.of_below hB2⟩
  | none =>
    have HC := Lib.hid (find_miss W h hf k hk hb)
    unfold wordsD
    have hcode : ¬ (lostAt D.L k = 0) := by rcases lost_nz D.L k with e | e <;> rw [e] <;> decide
    rw [there_lost hb, if_neg hcode, textAt_lost hb]
    unfold LostR zeroB at HC
    obtain ⟨c, hc⟩ : ∃ c, lostAt D.L k = c := ⟨_, rfl⟩
    rw [hc] at HC ⊢
    rw [hz] at HC ⊢
    clear hz hc h hb hk hf hcode
    go_enter Try.func46, Try.ntmps46
    go_wp2_with fail
    refine HC.out.mono ?_
    rintro en w1 ⟨rfl, h1, s1⟩
    have H1 := Lib.hid h1
    have S1 := Lib.hid s1
    clear h1 s1
    go_wp2_with fail
    go_ret2
    exact ⟨f, rfl, ⟨mb, g, cp, H1.out.below (below_alloc _ _)⟩, S1.out.trans (Step.of_below (below_alloc _ _))⟩

theorem run_field_block (W : World) (u v : Value) : (Instr.field 119 (.agg #[u, v]) 0).run Try.prog W = .ok u W := by
  kernel_rfl
set_option maxRecDepth 100000 in
theorem size_any (W : World) (h : Hp W B p D f) (k : Nat) (hk : k < 18446744073709551616) :
    Calls Try.prog 63 #[.pointer (some ⟨p, 0, none⟩), .int .u64 (k : Int)] W fun e W' => e = .returned (.int .i64 (sizeAt D.L k)) ∧ W = W' := by
  obtain ⟨mb, g, cp, h⟩ := h
  obtain ⟨c0, _⟩ := h.cells
  have hl : ∃ q s c, (Instr.lookup 99 (.map mb) (.int .u64 (k : Int)) false).run Try.prog W = .ok (.agg #[.slice q (sizeAt D.L k) c, .string s]) W := by
    have hp : ∃ q s c, (phi g cp D.L k).getD zeroB = .agg #[.slice q (sizeAt D.L k) c, .string s] := by
      unfold sizeAt
      cases hb : liveAt D.L k with
      | none => exact ⟨none, ⟨#[]⟩, 0, by rw [phi_none hb]; rfl⟩
      | some b => exact ⟨_, _, _, by rw [phi_some hb]; rfl⟩
    obtain ⟨q, s, c, hp⟩ := hp
    refine ⟨q, s, c, ?_⟩
    rw [← hp]
    rcases h.map with ⟨h0, h1⟩ | ⟨m, h1, h2⟩
    · rw [h0, phi_none (by rw [h1]; exact liveAt_nil k)]; exact look0_none k hk
    · rw [h1]; exact h2.look0 k hk
  obtain ⟨q, s, c, hl⟩ := hl
  obtain ⟨n, hn⟩ : ∃ n, sizeAt D.L k = n := ⟨_, rfl⟩
  obtain ⟨z, hz⟩ : ∃ z, (k : Int) = z := ⟨_, rfl⟩
  rw [hn] at hl ⊢
  rw [hz] at hl ⊢
  clear hn hz h hk
  have hfd := run_field_block W (.slice q n c) (.string s)
  go_enter Try.func63, Try.ntmps63
  go_wp2_with fail
  go_ret
  exact ⟨rfl, rfl⟩

theorem locked_any (W : World) (h : Hp W B p D f) : Calls Try.prog 62 #[.pointer (some ⟨p, 0, none⟩)] W fun e W' => e = .returned (.bool D.locked) ∧ W = W' := by
  obtain ⟨mb, g, cp, h⟩ := h
  obtain ⟨_, _, c2, _⟩ := h.cells
  obtain ⟨l, hl⟩ : ∃ l, D.locked = l := ⟨_, rfl⟩
  rw [hl] at c2 ⊢
  clear h hl
  go_enter Try.func62, Try.ntmps62
  go_wp2_with fail
  go_ret
  exact ⟨rfl, rfl⟩
theorem faults_any (W : World) (h : Hp W B p D f) : Calls Try.prog 18 #[.pointer (some ⟨p, 0, none⟩)] W fun e W' => e = .returned (.int .i64 D.faults) ∧ W = W' := by
  obtain ⟨mb, g, cp, h⟩ := h
  obtain ⟨_, _, _, c3, _⟩ := h.cells
  obtain ⟨l, hl⟩ : ∃ l, D.faults = l := ⟨_, rfl⟩
  rw [hl] at c3 ⊢
  clear h hl
  go_enter Try.func18, Try.ntmps18
  go_wp2_with fail
  go_ret
  exact ⟨rfl, rfl⟩

theorem lock_any (W : World) (h : Hp W B p D f) : Calls Try.prog 48 #[.pointer (some ⟨p, 0, none⟩)] W (HpR B p f W (.bool (!D.locked)) (D.lock true)) := by
  obtain ⟨mb, g, cp, h⟩ := h
  obtain ⟨_, _, c2, _, _, _, f2, _⟩ := h.cells
  have HF := Lib.hid (h.setLock true)
  have HH := Lib.hid h
  obtain ⟨l, hl⟩ : ∃ l, D.locked = l := ⟨_, rfl⟩
  have HL := Lib.hid hl
  rw [hl] at c2 ⊢
  clear h hl
  cases l with
  | true =>
    clear HF
    go_enter Try.func48, Try.ntmps48
    go_wp2_with fail
    go_ret
    refine ⟨f, rfl, ⟨mb, g, cp, ?_⟩, Step.refl _ _⟩
    have : D.lock true = D := by cases D; simp only [HpD.lock]; rw [← HL.out]
    rw [this]; exact HH.out
  | false =>
    go_enter Try.func48, Try.ntmps48
    go_wp2_with fail
    go_ret
    exact ⟨f, rfl, ⟨mb, g, cp, HF.out.1⟩, HF.out.2⟩

/-- The heap behind Unlock. -/
def unlockD (D : HpD) : HpD := if D.locked then D.lock false else D.fault
set_option maxRecDepth 100000 in
theorem unlock_any (W : World) (h : Hp W B p D f) (hf : D.faults < 1000000) : Calls Try.prog 49 #[.pointer (some ⟨p, 0, none⟩)] W (HpR B p f W (.bool D.locked) (unlockD D)) := by
  obtain ⟨mb, g, cp, h⟩ := h
  obtain ⟨_, _, c2, c3, _, _, f2, f3⟩ := h.cells
  have HF := Lib.hid (h.setLock false)
  have HG := Lib.hid (h.setFaults hf)
  unfold unlockD
  obtain ⟨l, hl⟩ : ∃ l, D.locked = l := ⟨_, rfl⟩
  obtain ⟨fl, hfl⟩ : ∃ fl, D.faults = fl := ⟨_, rfl⟩
  rw [hfl] at HG c3 hf
  rw [hl] at c2 ⊢
  have hf0 : (0 : Int) ≤ (fl : Int) := by omega
  have hf1 : (fl : Int) ≤ 1000000 := by omega
  clear h hl hf hfl
  cases l with
  | true =>
    clear HG
    go_enter Try.func49, Try.ntmps49
    go_wp2_with fail
    go_ret
    exact ⟨f, rfl, ⟨mb, g, cp, HF.out.1⟩, HF.out.2⟩
  | false =>
    clear HF
    go_enter Try.func49, Try.ntmps49
    go_wp2_with fail
    go_ret
    have HG1 := HG.out
    rw [Int.natCast_add] at HG1
    exact ⟨f, rfl, ⟨mb, g, cp, HG1.1⟩, HG1.2⟩
end

/-! ### New -/
/-- What New leaves. -/
def NewR (W : World) (e : Ending) (W' : World) : Prop := ∃ p f, e = .returned (.pointer (some ⟨p, 0, none⟩)) ∧ Hp W' W.heap.size p emptyD f ∧ Below W.heap.size W W'
theorem plain_heap (W : World) : Hp (W.alloc (.cells #[.map none, .int .u64 0, .bool false, .int .i64 0] 101)) W.heap.size W.heap.size emptyD (fun k => k = W.heap.size ∨ none = some k ∨ ∃ j b, liveAt [] j = some b ∧ (0 : Nat) = k) :=
  ⟨none, fun _ => 0, fun _ => 0, World.alloc_heap_new W _, .inl ⟨rfl, rfl⟩, fun k b hb => absurd (hb.symm.trans (liveAt_nil k)) (by simp), fun k k' b b' hb => absurd (hb.symm.trans (liveAt_nil k)) (by simp), rfl,
    fun k hk => (by
      rcases hk with h0 | h0 | ⟨j, b, hj, _⟩
      · exact Nat.le_of_eq h0.symm
      · cases h0
      · rw [liveAt_nil] at hj; cases hj),
    ⟨Nat.zero_le _, Nat.zero_le _⟩, fun k b hb => absurd (hb.symm.trans (liveAt_nil k)) (by simp)⟩
theorem new_any (W : World) : Calls Try.prog 25 #[] W (NewR W) := by
  go_enter Try.func25, Try.ntmps25
  go_wp2
  go_ret
  exact ⟨W.heap.size, _, rfl, plain_heap W, below_alloc W _⟩

end Go.Proofs.Ytpnfbabiibopnaa

/-! An act as it lies; whether it may be, and whether it only looks: the program and the reference. -/
namespace Go.Proofs.Ytpnfbabiibopnaa
open Go Go.RowKit
attribute [local go_sem ↓] Go.wp_at_zero Go.wp_at_succ

/-- An act. -/
structure ActD where
  kind : Int
  block : Nat
  cell : Int
  old : Int
  new : Int
  text : ByteArray
def ActD.fits (x : ActD) : Prop := (-9223372036854775808 ≤ x.kind ∧ x.kind ≤ 9223372036854775807) ∧ x.block < 18446744073709551616 ∧ (-9223372036854775808 ≤ x.cell ∧ x.cell ≤ 9223372036854775807) ∧ (0 ≤ x.old ∧ x.old < 18446744073709551616) ∧ (0 ≤ x.new ∧ x.new < 18446744073709551616) ∧ x.text.size ≤ 281474976710656
abbrev actV (k : Int) (b : Int) (c o n : Int) (t : ByteArray) : Value := .agg #[.int .i64 k, .int .u64 b, .int .i64 c, .int .u64 o, .int .u64 n, .string t]

/-- What is left of an act once all is taken off that its kind has. -/
def restA (x : ActD) : ActD :=
  if x.kind = 5 then ⟨0, x.block, 0, x.old, x.new, ⟨#[]⟩⟩ else if x.kind = 3 then ⟨0, 0, 0, 0, 0, x.text⟩
  else if x.kind = 2 ∨ x.kind = 4 then ⟨0, 0, 0, x.old, 0, x.text⟩ else if x.kind = 1 ∨ x.kind = 10 then ⟨0, 0, 0, x.old, x.new, x.text⟩
  else if x.kind = 6 ∨ x.kind = 7 then ⟨0, 0, x.cell, x.old, x.new, x.text⟩ else if x.kind = 8 ∨ x.kind = 9 ∨ x.kind = 0 then ⟨0, x.block, x.cell, x.old, x.new, x.text⟩ else x
def zeroA (x : ActD) : Bool := x.kind == 0 && ((x.block : Int) == 0 && (x.cell == 0 && (x.old == 0 && (x.new == 0 && x.text.toList == (⟨#[]⟩ : ByteArray).toList))))
/-- May it be? -/
def rightA (x : ActD) : Bool := decide (0 ≤ x.cell) && (decide ((x.text.size : Int) ≤ 4096) && zeroA (restA x))
def looksA (x : ActD) : Bool := (x.kind == 1 || x.kind == 10 || x.kind == 6) && rightA x

theorem eqA_run (k b c o n k' b' c' o' n' : Int) (t t' : ByteArray) (w : World) : (binOp .eql 59 (actV k b c o n t) (actV k' b' c' o' n' t')).run Try.prog w = .ok (.bool (k == k' && (b == b' && (c == c' && (o == o' && (n == n' && t.toList == t'.toList)))))) w := by
  have u3 := Try.underlying3
  have u32 := Try.underlying22
  have u9 := Try.underlying9
  have hS : Try.prog.underlying 59 = some (.struct (Try.prog.fieldsOf 59)) := by kernel_rfl
  have hp : Try.prog.stoodInHeld 59 = false := by kernel_rfl
  rw [run_eql_struct, show (10000 : Nat) = 9999 + 1 from rfl, run_equalIn_agg w 9999 59 _ _ hS hp]
  simp only [Program.fieldsOf, Try.underlying59]
  have a3 := Try.isAgg3
  have z3 := Try.sizeOf3
  have a32 := Try.isAgg22
  have z32 := Try.sizeOf22
  have a9 := Try.isAgg9
  have z9 := Try.sizeOf9
  go_simp
  by_cases h1 : k = k' <;> by_cases h2 : b = b' <;> by_cases h3 : c = c' <;> by_cases h4 : o = o' <;> by_cases h5 : n = n' <;> by_cases h6 : t.toList = t'.toList <;> simp [h1, h2, h3, h4, h5, h6]

theorem results_cell1 {fn : Func} {p : Tmp} {ty : TypeId} (h : fn.results = #[.cell p ty]) (tmps : Array Value) (P : Program) (w : World) :
    (results fn tmps).run P w = ((asAddr (tmps.getD p undef)).run P w).andThen fun a w₁ => (loadVar ty a).run P w₁ := by
  simp [results, h]

set_option maxRecDepth 100000 in
set_option maxHeartbeats 4000000 in
theorem rest_known (k : Int) (b : Nat) (c o n : Int) (t : ByteArray) (W : World) (hk : k = 0 ∨ k = 1 ∨ k = 2 ∨ k = 3 ∨ k = 4 ∨ k = 5 ∨ k = 6 ∨ k = 7 ∨ k = 8 ∨ k = 9 ∨ k = 10) (v : ActD) (hv : restA ⟨k, b, c, o, n, t⟩ = v) : Calls Try.prog 65 #[actV k b c o n t] W fun e W' => e = .returned (actV v.kind v.block v.cell v.old v.new v.text) ∧ Below W.heap.size W W' := by
  rcases hk with rfl | rfl | rfl | rfl | rfl | rfl | rfl | rfl | rfl | rfl | rfl
  all_goals
    simp [restA] at hv
    subst hv
    go_enter Try.func65, Try.ntmps65
    go_wp2_with fail
    refine bodyPost_ret (by rw [results_cell1 (by rfl)]; go_simp) rfl ⟨rfl, ?_⟩
    exact (below_alloc _ _).trans ((below_alloc _ _).mono (by simp))

set_option maxRecDepth 100000 in
set_option maxHeartbeats 4000000 in
theorem rest_other (k : Int) (b : Nat) (c o n : Int) (t : ByteArray) (W : World) (n0 : k ≠ 0) (n1 : k ≠ 1) (n2 : k ≠ 2) (n3 : k ≠ 3) (n4 : k ≠ 4) (n5 : k ≠ 5) (n6 : k ≠ 6) (n7 : k ≠ 7) (n8 : k ≠ 8) (n9 : k ≠ 9) (n10 : k ≠ 10) : Calls Try.prog 65 #[actV k b c o n t] W fun e W' => e = .returned (actV k b c o n t) ∧ Below W.heap.size W W' := by
  go_enter Try.func65, Try.ntmps65
  go_wp2_with fail
  refine bodyPost_ret (by rw [results_cell1 (by rfl)]; go_simp) rfl ⟨rfl, ?_⟩
  exact (below_alloc _ _).trans ((below_alloc _ _).mono (by simp))

theorem rest_any (k : Int) (b : Nat) (c o n : Int) (t : ByteArray) (W : World) (v : ActD) (hv : restA ⟨k, b, c, o, n, t⟩ = v) : Calls Try.prog 65 #[actV k b c o n t] W fun e W' => e = .returned (actV v.kind v.block v.cell v.old v.new v.text) ∧ Below W.heap.size W W' := by
  by_cases hk : k = 0 ∨ k = 1 ∨ k = 2 ∨ k = 3 ∨ k = 4 ∨ k = 5 ∨ k = 6 ∨ k = 7 ∨ k = 8 ∨ k = 9 ∨ k = 10
  · exact rest_known k b c o n t W hk v hv
  · have hv' : v = ⟨k, b, c, o, n, t⟩ := by
      subst hv
      unfold restA
      simp only
      rw [if_neg (by omega), if_neg (by omega), if_neg (by omega), if_neg (by omega), if_neg (by omega), if_neg (by omega)]
    subst hv'
    exact rest_other k b c o n t W (by omega) (by omega) (by omega) (by omega) (by omega) (by omega) (by omega) (by omega) (by omega) (by omega) (by omega)

theorem eqZ_run (v : ActD) (w : World) : (binOp .eql 59 (actV v.kind v.block v.cell v.old v.new v.text) (actV 0 0 0 0 0 ⟨#[]⟩)).run Try.prog w = .ok (.bool (zeroA v)) w := eqA_run _ _ _ _ _ 0 0 0 0 0 _ ⟨#[]⟩ w

set_option maxRecDepth 100000 in
set_option maxHeartbeats 4000000 in
theorem right_any (k : Int) (b : Nat) (c o n : Int) (t : ByteArray) (W : World) : Calls Try.prog 43 #[actV k b c o n t] W (Says (rightA ⟨k, b, c, o, n, t⟩) W) := by
  by_cases hc : 0 ≤ c
  · by_cases hs : (t.size : Int) ≤ 4096
    · obtain ⟨v, hv⟩ : ∃ v, restA ⟨k, b, c, o, n, t⟩ = v := ⟨_, rfl⟩
      have HR := Lib.hid (fun X => rest_any k b c o n t X v hv)
      have hz := eqZ_run v
      have HE : rightA ⟨k, b, c, o, n, t⟩ = zeroA v := by unfold rightA; simp only; rw [decide_eq_true hc, decide_eq_true hs, hv]; rfl
      rw [HE]
      obtain ⟨z, hzz⟩ : ∃ z, zeroA v = z := ⟨_, rfl⟩
      rw [hzz] at hz ⊢
      clear hv HE hzz
      go_enter Try.func43, Try.ntmps43
      go_wp2_with fail
      refine (HR.out _).mono ?_
      rintro en w1 ⟨rfl, hb⟩
      have HB := Lib.hid ((below_alloc W _).trans (hb.mono (by simp)))
      clear hb
      go_wp2_with fail
      go_ret
      exact ⟨rfl, HB.out⟩
    · have HE : rightA ⟨k, b, c, o, n, t⟩ = false := by unfold rightA; simp only; rw [decide_eq_false hs]; simp
      rw [HE]
      clear HE
      go_enter Try.func43, Try.ntmps43
      go_wp2_with fail
      go_ret
      exact ⟨rfl, below_alloc _ _⟩
  · have HE : rightA ⟨k, b, c, o, n, t⟩ = false := by unfold rightA; simp only; rw [decide_eq_false hc]; simp
    rw [HE]
    clear HE
    go_enter Try.func43, Try.ntmps43
    go_wp2_with fail
    go_ret
    exact ⟨rfl, below_alloc _ _⟩

end Go.Proofs.Ytpnfbabiibopnaa

/-! strings.Clone, by the contract of the shelf. -/
namespace Go.Proofs.Ytpnfbabiibopnaa
open Go Go.Shelf Go.RowKit
def laysClone_ren : Go.Shelf.Ren := ⟨fun | 25 => 66 | n => n, fun | 9 => 9 | 3 => 3 | 4 => 4 | 37 => 57 | 0 => 0 | 47 => 145 | 5 => 5 | n => n, fun | n => n⟩
theorem laysClone : Go.Proofs.LaysPu.n25 Try.prog laysClone_ren := {
  mixed := by kernel_rfl
  f25 := Try.func66.trans (congrArg some (by kernel_rfl))
  t0 := Try.underlying0
  a0 := Try.isAgg0
  z0 := Try.sizeOf0
  v0 := Try.zeroValue0
  i0 := by kernel_rfl
  t3 := Try.underlying3
  a3 := Try.isAgg3
  z3 := Try.sizeOf3
  v3 := Try.zeroValue3
  i3 := by kernel_rfl
  t4 := Try.underlying4
  a4 := Try.isAgg4
  z4 := Try.sizeOf4
  v4 := Try.zeroValue4
  i4 := by kernel_rfl
  t5 := Try.underlying5
  a5 := Try.isAgg5
  z5 := Try.sizeOf5
  v5 := Try.zeroValue5
  i5 := by kernel_rfl
  t9 := Try.underlying9
  a9 := Try.isAgg9
  z9 := Try.sizeOf9
  v9 := Try.zeroValue9
  i9 := by kernel_rfl
  t37 := Try.underlying57
  a37 := Try.isAgg57
  z37 := Try.sizeOf57
  v37 := Try.zeroValue57
  i37 := by kernel_rfl
  t47 := Try.underlying145
  a47 := Try.isAgg145
  z47 := Try.sizeOf145
  v47 := Try.zeroValue145
  i47 := by kernel_rfl }

theorem clone_in (s : ByteArray) (W : World) (hs : s.size ≤ 281474976710656) : Calls Try.prog 66 #[.string s] W fun e W' => e = .returned (.string s) ∧ Below W.heap.size W W' :=
  Go.Proofs.AnyPu.stringslite_Clone laysClone s W hs

theorem clone_any (s : ByteArray) (W : World) (hs : s.size ≤ 281474976710656) : Calls Try.prog 50 #[.string s] W fun e W' => e = .returned (.string s) ∧ Below W.heap.size W W' := by
  go_enter Try.func50, Try.ntmps50
  go_wp2_with fail
  refine (clone_in s _ hs).mono ?_
  rintro e w' ⟨rfl, hb⟩
  have HB := Lib.hid hb
  clear hb
  go_wp2
  go_ret
  exact ⟨rfl, HB.out⟩

end Go.Proofs.Ytpnfbabiibopnaa

/-! A heap's Drop. -/
namespace Go.Proofs.Ytpnfbabiibopnaa
open Go Go.RowKit
attribute [local go_sem ↓] Go.wp_at_zero Go.wp_at_succ

section
variable {B p : Nat} {D : HpD} {f : Nat → Prop}

theorem lose_hit {D : HpD} {k : Nat} {b : BlkD} (h : liveAt D.L k = some b) : D.lose k = D.at k ⟨b.ws, b.text, true⟩ := by unfold HpD.lose; rw [h]

set_option maxRecDepth 100000 in
set_option maxHeartbeats 1000000 in
theorem drop_any (W : World) (h : Hp W B p D f) (hf : D.faults < 1000000) (k : Nat) (hk : k < 18446744073709551616) :
    Calls Try.prog 47 #[.pointer (some ⟨p, 0, none⟩), .int .u64 (k : Int)] W (HpR B p f W (.int .i64 (there D.L k)) (dropD D k)) := by
  obtain ⟨mb, g, cp, h⟩ := h
  obtain ⟨z, hz⟩ : ∃ z, (k : Int) = z := ⟨_, rfl⟩
  cases hb : liveAt D.L k with
  | some b =>
    obtain ⟨m, rfl⟩ : ∃ m, mb = some m := by
      rcases h.map with ⟨_, h0⟩ | ⟨m, h1, _⟩
      · rw [h0, liveAt_nil] at hb; cases hb
      · exact ⟨m, h1⟩
    have HC := Lib.hid (find_hit W h k hk b hb)
    unfold dropD
    rw [there_hit hb, if_pos rfl, lose_hit hb]
    have HX := Lib.hid (fun X (hX : Below W.heap.size W X) => show ∃ c : Nat, (∀ ty, (Builtin.len_ #[99] ty #[.map (some m)]).run Try.prog X = .ok (.int .i64 c) X) ∧
        ((1 < c ∧ ∃ Z, (Builtin.delete_ #[99, 22] 0 #[.map (some m), .int .u64 z]).run Try.prog X = .ok (.tuple #[]) Z ∧ HpR B p f W (.int .i64 0) (D.at k ⟨b.ws, b.text, true⟩) (.returned (.int .i64 0)) Z) ∨
         (c ≤ 1 ∧ ∃ Z, (Builtin.clear_ #[99] 0 #[.map (some m)]).run Try.prog X = .ok (.tuple #[]) Z ∧ HpR B p f W (.int .i64 0) (D.at k ⟨b.ws, b.text, true⟩) (.returned (.int .i64 0)) Z)) from by
      have h2 := h.below hX
      have hM := h2.mapped rfl
      obtain ⟨c, hc1, hc2, hc3⟩ := hM.len
      refine ⟨c, hc2, ?_⟩
      rcases Nat.lt_or_ge 1 c with hc | hc
      · obtain ⟨Z, r1, r2, r3⟩ := hM.drop k hk 0
        obtain ⟨f', q1, q2⟩ := h2.gone hb rfl r2 r3 (fun _ _ => rfl)
        exact .inl ⟨hc, Z, by rw [← hz]; exact r1, f', rfl, ⟨_, _, _, q1⟩, (Step.of_below hX).trans q2⟩
      · obtain ⟨Z, r1, r2, r3⟩ := hM.clear 0
        obtain ⟨f', q1, q2⟩ := h2.gone hb rfl r2 r3 (fun j hj => by
          by_cases hjk : j = k
          · rw [if_pos hjk]
          · rw [if_neg hjk, hc3 k hk (by rw [phi_some hb]; rfl) hc j hj hjk])
        exact .inr ⟨hc, Z, r1, f', rfl, ⟨_, _, _, q1⟩, (Step.of_below hX).trans q2⟩)
    have HCE := Lib.hid (fun X (hX : Below W.heap.size W X) => (h.below hX).cells.1)
    obtain ⟨n, hn⟩ : ∃ n, b.ws.length = n := ⟨_, rfl⟩
    obtain ⟨s, hs⟩ : ∃ s, b.text = s := ⟨_, rfl⟩
    obtain ⟨q, hq⟩ : ∃ q, g k = q := ⟨_, rfl⟩
    obtain ⟨c, hc⟩ : ∃ c, cp k = c := ⟨_, rfl⟩
    obtain ⟨x, hx⟩ : ∃ x, D.at k ⟨b.ws, b.text, true⟩ = x := ⟨_, rfl⟩
    rw [hn, hs, hq, hc] at HC
    rw [hz] at HC ⊢
    rw [hx] at HX ⊢
    clear hn hs hq hc hz h hb hk hf hx
    go_enter Try.func47, Try.ntmps47
    go_wp2_with fail
    refine HC.out.mono ?_
    rintro en w1 ⟨rfl, hb1⟩
    have hB2 := hb1.alloc hb1.size (.cells #[.slice (some ⟨q, 0, none⟩) n c, .string s] 119)
    have hb0 := HCE.out _ hB2
    obtain ⟨l, hl, hor⟩ := HX.out _ hB2
    clear hb1 hB2 HX HC HCE
    rcases hor with ⟨hl1, Z, hr, hz⟩ | ⟨hl1, Z, hr, hz⟩
    · have hl2 : (1 : Int) < (l : Int) := by omega
      have HZ := Lib.hid hz
      clear hl1 hz
      go_wp2_with fail
      go_ret
      exact HZ.out
    · have hl2 : (l : Int) ≤ 1 := by omega
      have HZ := Lib.hid hz
      clear hl1 hz
      go_wp2_with fail
      go_ret
      exact HZ.out
  | none =>
    have HC := Lib.hid (find_miss W h hf k hk hb)
    unfold dropD
    have hcode : ¬ (lostAt D.L k = 0) := by rcases lost_nz D.L k with e | e <;> rw [e] <;> decide
    have hcb : (lostAt D.L k == 0) = false := by rw [beq_eq_false_iff_ne]; exact hcode
    rw [there_lost hb, if_neg hcode]
    unfold LostR zeroB at HC
    obtain ⟨c, hc⟩ : ∃ c, lostAt D.L k = c := ⟨_, rfl⟩
    rw [hc] at HC hcb ⊢
    rw [hz] at HC ⊢
    clear hz hc h hb hk hf hcode
    go_enter Try.func47, Try.ntmps47
    go_wp2_with fail
    refine HC.out.mono ?_
    rintro en w1 ⟨rfl, h1, s1⟩
    have H1 := Lib.hid h1
    have S1 := Lib.hid s1
    clear h1 s1
    go_wp2_with fail
    go_ret
    exact ⟨f, rfl, ⟨mb, g, cp, H1.out.below (below_alloc _ _)⟩, S1.out.trans (Step.of_below (below_alloc _ _))⟩
end

end Go.Proofs.Ytpnfbabiibopnaa
