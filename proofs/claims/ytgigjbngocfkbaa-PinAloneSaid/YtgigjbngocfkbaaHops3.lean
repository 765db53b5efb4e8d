/-
  A heap's New, Words, Size, Lock, Unlock, Locked, Faults; the calls of a nil heap.
-/
import Derived.Test.YtgigjbngocfkbaaHops2
namespace Go.Proofs.Ytgigjbngocfkbaa
open Go Go.RowKit
attribute [local go_sem ↓] Go.wp_at_zero Go.wp_at_succ

section
variable {B p : Nat} {D : HpD} {f : Nat → Prop}

set_option maxRecDepth 100000 in
set_option maxHeartbeats 1000000 in
theorem words_any (W : World) (h : Hp W B p D f) (hf : D.faults < 1000000) (k : Nat) (hk : k < 18446744073709551616) :
    Calls Try.prog 38 #[.pointer (some ⟨p, 0, none⟩), .int .u64 (k : Int)] W (HpR B p f W (.tuple #[.string (textAt D.L k), .int .i64 (there D.L k)]) (wordsD D k)) := by
  obtain ⟨mb, g, cp, h⟩ := h
  obtain ⟨z, hz⟩ : ∃ z, (k : Int) = z := ⟨_, rfl⟩
  cases hb : liveAt D.L k with
  | some b =>
    have HC := Lib.hid (find_hit W h k hk b hb)
    have HH := Lib.hid h
    unfold wordsD
    rw [there_hit hb, if_pos rfl, textAt_hit hb]
    obtain ⟨n, hn⟩ : ∃ n, b.ws.length = n := ⟨_, rfl⟩
    obtain ⟨s, hs⟩ : ∃ s, b.text = s := ⟨_, rfl⟩
    obtain ⟨q, hq⟩ : ∃ q, g k = q := ⟨_, rfl⟩
    obtain ⟨c, hc⟩ : ∃ c, cp k = c := ⟨_, rfl⟩
    rw [hn, hs, hq, hc] at HC
    rw [hz] at HC ⊢
    rw [hs]
    clear hn hs hq hc hz h hb hk hf
    go_enter Try.func38, Try.ntmps38
    go_wp2_with fail
    refine HC.out.mono ?_
    rintro en w1 ⟨rfl, hb1⟩
    have HB := Lib.hid hb1
    clear hb1
    go_wp2_with fail
    go_ret2
    have hB2 := HB.out.alloc HB.out.size (.cells #[.slice (some ⟨q, 0, none⟩) n c, .string s] 111)
    exact ⟨f, rfl, ⟨mb, g, cp, HH.out.below hB2⟩, Step.of_below hB2⟩
  | none =>
    have HC := Lib.hid (find_miss W h hf k hk hb)
    unfold wordsD
    have hcode : ¬ (lostAt D.L k = 0) := by rcases lost_nz D.L k with e | e <;> rw [e] <;> decide
    rw [there_lost hb, if_neg hcode, textAt_lost hb]
    unfold LostR zeroB at HC
    obtain ⟨c, hc⟩ : ∃ c, lostAt D.L k = c := ⟨_, rfl⟩
    rw [hc] at HC ⊢
    rw [hz] at HC ⊢
    clear hz hc h hb hk hf hcode
    go_enter Try.func38, Try.ntmps38
    go_wp2_with fail
    refine HC.out.mono ?_
    rintro en w1 ⟨rfl, h1, s1⟩
    have H1 := Lib.hid h1
    have S1 := Lib.hid s1
    clear h1 s1
    go_wp2_with fail
    go_ret2
    exact ⟨f, rfl, ⟨mb, g, cp, H1.out.below (below_alloc _ _)⟩, S1.out.trans (Step.of_below (below_alloc _ _))⟩

theorem run_field_block (W : World) (u v : Value) : (Instr.field 111 (.agg #[u, v]) 0).run Try.prog W = .ok u W := by
  kernel_rfl
set_option maxRecDepth 100000 in
theorem size_any (W : World) (h : Hp W B p D f) (k : Nat) (hk : k < 18446744073709551616) :
    Calls Try.prog 55 #[.pointer (some ⟨p, 0, none⟩), .int .u64 (k : Int)] W fun e W' => e = .returned (.int .i64 (sizeAt D.L k)) ∧ W = W' := by
  obtain ⟨mb, g, cp, h⟩ := h
  obtain ⟨c0, _⟩ := h.cells
  have hl : ∃ q s c, (Instr.lookup 97 (.map mb) (.int .u64 (k : Int)) false).run Try.prog W = .ok (.agg #[.slice q (sizeAt D.L k) c, .string s]) W := by
    have hp : ∃ q s c, (phi g cp D.L k).getD zeroB = .agg #[.slice q (sizeAt D.L k) c, .string s] := by
      unfold sizeAt
      cases hb : liveAt D.L k with
      | none => exact ⟨none, ⟨#[]⟩, 0, by rw [phi_none hb]; rfl⟩
      | some b => exact ⟨_, _, _, by rw [phi_some hb]; rfl⟩
    obtain ⟨q, s, c, hp⟩ := hp
    refine ⟨q, s, c, ?_⟩
    rw [← hp]
    rcases h.map with ⟨h0, h1⟩ | ⟨m, h1, h2⟩
    · rw [h0, phi_none (by rw [h1]; exact liveAt_nil k)]; exact look0_none k hk
    · rw [h1]; exact h2.look0 k hk
  obtain ⟨q, s, c, hl⟩ := hl
  obtain ⟨n, hn⟩ : ∃ n, sizeAt D.L k = n := ⟨_, rfl⟩
  obtain ⟨z, hz⟩ : ∃ z, (k : Int) = z := ⟨_, rfl⟩
  rw [hn] at hl ⊢
  rw [hz] at hl ⊢
  clear hn hz h hk
  have hfd := run_field_block W (.slice q n c) (.string s)
  go_enter Try.func55, Try.ntmps55
  go_wp2_with fail
  go_ret
  exact ⟨rfl, rfl⟩

theorem locked_any (W : World) (h : Hp W B p D f) : Calls Try.prog 54 #[.pointer (some ⟨p, 0, none⟩)] W fun e W' => e = .returned (.bool D.locked) ∧ W = W' := by
  obtain ⟨mb, g, cp, h⟩ := h
  obtain ⟨_, _, c2, _⟩ := h.cells
  obtain ⟨l, hl⟩ : ∃ l, D.locked = l := ⟨_, rfl⟩
  rw [hl] at c2 ⊢
  clear h hl
  go_enter Try.func54, Try.ntmps54
  go_wp2_with fail
  go_ret
  exact ⟨rfl, rfl⟩
theorem faults_any (W : World) (h : Hp W B p D f) : Calls Try.prog 19 #[.pointer (some ⟨p, 0, none⟩)] W fun e W' => e = .returned (.int .i64 D.faults) ∧ W = W' := by
  obtain ⟨mb, g, cp, h⟩ := h
  obtain ⟨_, _, _, c3, _⟩ := h.cells
  obtain ⟨l, hl⟩ : ∃ l, D.faults = l := ⟨_, rfl⟩
  rw [hl] at c3 ⊢
  clear h hl
  go_enter Try.func19, Try.ntmps19
  go_wp2_with fail
  go_ret
  exact ⟨rfl, rfl⟩

theorem lock_any (W : World) (h : Hp W B p D f) : Calls Try.prog 40 #[.pointer (some ⟨p, 0, none⟩)] W (HpR B p f W (.bool (!D.locked)) (D.lock true)) := by
  obtain ⟨mb, g, cp, h⟩ := h
  obtain ⟨_, _, c2, _, _, _, f2, _⟩ := h.cells
  have HF := Lib.hid (h.setLock true)
  have HH := Lib.hid h
  obtain ⟨l, hl⟩ : ∃ l, D.locked = l := ⟨_, rfl⟩
  have HL := Lib.hid hl
  rw [hl] at c2 ⊢
  clear h hl
  cases l with
  | true =>
    clear HF
    go_enter Try.func40, Try.ntmps40
    go_wp2_with fail
    go_ret
    refine ⟨f, rfl, ⟨mb, g, cp, ?_⟩, Step.refl _ _⟩
    have : D.lock true = D := by cases D; simp only [HpD.lock]; rw [← HL.out]
    rw [this]; exact HH.out
  | false =>
    go_enter Try.func40, Try.ntmps40
    go_wp2_with fail
    go_ret
    exact ⟨f, rfl, ⟨mb, g, cp, HF.out.1⟩, HF.out.2⟩

/-- The heap behind Unlock. -/
def unlockD (D : HpD) : HpD := if D.locked then D.lock false else D.fault
set_option maxRecDepth 100000 in
theorem unlock_any (W : World) (h : Hp W B p D f) (hf : D.faults < 1000000) : Calls Try.prog 41 #[.pointer (some ⟨p, 0, none⟩)] W (HpR B p f W (.bool D.locked) (unlockD D)) := by
  obtain ⟨mb, g, cp, h⟩ := h
  obtain ⟨_, _, c2, c3, _, _, f2, f3⟩ := h.cells
  have HF := Lib.hid (h.setLock false)
  have HG := Lib.hid (h.setFaults hf)
  unfold unlockD
  obtain ⟨l, hl⟩ : ∃ l, D.locked = l := ⟨_, rfl⟩
  obtain ⟨fl, hfl⟩ : ∃ fl, D.faults = fl := ⟨_, rfl⟩
  rw [hfl] at HG c3 hf
  rw [hl] at c2 ⊢
  have hf0 : (0 : Int) ≤ (fl : Int) := by omega
  have hf1 : (fl : Int) ≤ 1000000 := by omega
  clear h hl hf hfl
  cases l with
  | true =>
    clear HG
    go_enter Try.func41, Try.ntmps41
    go_wp2_with fail
    go_ret
    exact ⟨f, rfl, ⟨mb, g, cp, HF.out.1⟩, HF.out.2⟩
  | false =>
    clear HF
    go_enter Try.func41, Try.ntmps41
    go_wp2_with fail
    go_ret
    have HG1 := HG.out
    rw [Int.natCast_add] at HG1
    exact ⟨f, rfl, ⟨mb, g, cp, HG1.1⟩, HG1.2⟩
end

/-! ### New -/
/-- What New leaves. -/
def NewR (W : World) (e : Ending) (W' : World) : Prop := ∃ p f, e = .returned (.pointer (some ⟨p, 0, none⟩)) ∧ Hp W' W.heap.size p emptyD f ∧ Below W.heap.size W W'
theorem plain_heap (W : World) : Hp (W.alloc (.cells #[.map none, .int .u64 0, .bool false, .int .i64 0] 99)) W.heap.size W.heap.size emptyD (fun k => k = W.heap.size ∨ none = some k ∨ ∃ j b, liveAt [] j = some b ∧ (0 : Nat) = k) :=
  ⟨none, fun _ => 0, fun _ => 0, World.alloc_heap_new W _, .inl ⟨rfl, rfl⟩, fun k b hb => absurd (hb.symm.trans (liveAt_nil k)) (by simp), fun k k' b b' hb => absurd (hb.symm.trans (liveAt_nil k)) (by simp), rfl,
    fun k hk => (by
      rcases hk with h0 | h0 | ⟨j, b, hj, _⟩
      · exact Nat.le_of_eq h0.symm
      · cases h0
      · rw [liveAt_nil] at hj; cases hj),
    ⟨Nat.zero_le _, Nat.zero_le _⟩, fun k b hb => absurd (hb.symm.trans (liveAt_nil k)) (by simp)⟩
theorem new_any (W : World) : Calls Try.prog 32 #[] W (NewR W) := by
  go_enter Try.func32, Try.ntmps32
  go_wp2
  go_ret
  exact ⟨W.heap.size, _, rfl, plain_heap W, below_alloc W _⟩

end Go.Proofs.Ytgigjbngocfkbaa
