/-
  A heap's Drop.
-/
import Derived.Test.YtgigjbngocfkbaaClone17
namespace Go.Proofs.Ytgigjbngocfkbaa
open Go Go.RowKit
attribute [local go_sem ↓] Go.wp_at_zero Go.wp_at_succ

section
variable {B p : Nat} {D : HpD} {f : Nat → Prop}

theorem lose_hit {D : HpD} {k : Nat} {b : BlkD} (h : liveAt D.L k = some b) : D.lose k = D.at k ⟨b.ws, b.text, true⟩ := by unfold HpD.lose; rw [h]

set_option maxRecDepth 100000 in
set_option maxHeartbeats 1000000 in
theorem drop_any (W : World) (h : Hp W B p D f) (hf : D.faults < 1000000) (k : Nat) (hk : k < 18446744073709551616) :
    Calls Try.prog 39 #[.pointer (some ⟨p, 0, none⟩), .int .u64 (k : Int)] W (HpR B p f W (.int .i64 (there D.L k)) (dropD D k)) := by
  obtain ⟨mb, g, cp, h⟩ := h
  obtain ⟨z, hz⟩ : ∃ z, (k : Int) = z := ⟨_, rfl⟩
  cases hb : liveAt D.L k with
  | some b =>
    obtain ⟨m, rfl⟩ : ∃ m, mb = some m := by
      rcases h.map with ⟨_, h0⟩ | ⟨m, h1, _⟩
      · rw [h0, liveAt_nil] at hb; cases hb
      · exact ⟨m, h1⟩
    have HC := Lib.hid (find_hit W h k hk b hb)
    unfold dropD
    rw [there_hit hb, if_pos rfl, lose_hit hb]
    have HX := Lib.hid (fun X (hX : Below W.heap.size W X) => show ∃ c : Nat, (∀ ty, (Builtin.len_ #[97] ty #[.map (some m)]).run Try.prog X = .ok (.int .i64 c) X) ∧
        ((1 < c ∧ ∃ Z, (Builtin.delete_ #[97, 22] 0 #[.map (some m), .int .u64 z]).run Try.prog X = .ok (.tuple #[]) Z ∧ HpR B p f W (.int .i64 0) (D.at k ⟨b.ws, b.text, true⟩) (.returned (.int .i64 0)) Z) ∨
         (c ≤ 1 ∧ ∃ Z, (Builtin.clear_ #[97] 0 #[.map (some m)]).run Try.prog X = .ok (.tuple #[]) Z ∧ HpR B p f W (.int .i64 0) (D.at k ⟨b.ws, b.text, true⟩) (.returned (.int .i64 0)) Z)) from by
      have h2 := h.below hX
      have hM := h2.mapped rfl
      obtain ⟨c, hc1, hc2, hc3⟩ := hM.len
      refine ⟨c, hc2, ?_⟩
      rcases Nat.lt_or_ge 1 c with hc | hc
      · obtain ⟨Z, r1, r2, r3⟩ := hM.drop k hk 0
        obtain ⟨f', q1, q2⟩ := h2.gone hb rfl r2 r3 (fun _ _ => rfl)
        exact .inl ⟨hc, Z, by rw [← hz]; exact r1, f', rfl, ⟨_, _, _, q1⟩, (Step.of_below hX).trans q2⟩
      · obtain ⟨Z, r1, r2, r3⟩ := hM.clear 0
        obtain ⟨f', q1, q2⟩ := h2.gone hb rfl r2 r3 (fun j hj => by
          by_cases hjk : j = k
          · rw [if_pos hjk]
          · rw [if_neg hjk, hc3 k hk (by rw [phi_some hb]; rfl) hc j hj hjk])
        exact .inr ⟨hc, Z, r1, f', rfl, ⟨_, _, _, q1⟩, (Step.of_below hX).trans q2⟩)
    have HCE := Lib.hid (fun X (hX : Below W.heap.size W X) => (h.below hX).cells.1)
    obtain ⟨n, hn⟩ : ∃ n, b.ws.length = n := ⟨_, rfl⟩
    obtain ⟨s, hs⟩ : ∃ s, b.text = s := ⟨_, rfl⟩
    obtain ⟨q, hq⟩ : ∃ q, g k = q := ⟨_, rfl⟩
    obtain ⟨c, hc⟩ : ∃ c, cp k = c := ⟨_, rfl⟩
    obtain ⟨x, hx⟩ : ∃ x, D.at k ⟨b.ws, b.text, true⟩ = x := ⟨_, rfl⟩
    rw [hn, hs, hq, hc] at HC
    rw [hz] at HC ⊢
    rw [hx] at HX ⊢
    clear hn hs hq hc hz h hb hk hf hx
    go_enter Try.func39, Try.ntmps39
    go_wp2_with fail
    refine HC.out.mono ?_
    rintro en w1 ⟨rfl, hb1⟩
    have hB2 := hb1.alloc hb1.size (.cells #[.slice (some ⟨q, 0, none⟩) n c, .string s] 111)
    have hb0 := HCE.out _ hB2
    obtain ⟨l, hl, hor⟩ := HX.out _ hB2
    clear hb1 hB2 HX HC HCE
    rcases hor with ⟨hl1, Z, hr, hz⟩ | ⟨hl1, Z, hr, hz⟩
    · have hl2 : (1 : Int) < (l : Int) := by omega
      have HZ := Lib.hid hz
      clear hl1 hz
      go_wp2_with fail
      go_ret
      exact HZ.out
    · have hl2 : (l : Int) ≤ 1 := by omega
      have HZ := Lib.hid hz
      clear hl1 hz
      go_wp2_with fail
      go_ret
      exact HZ.out
  | none =>
    have HC := Lib.hid (find_miss W h hf k hk hb)
    unfold dropD
    have hcode : ¬ (lostAt D.L k = 0) := by rcases lost_nz D.L k with e | e <;> rw [e] <;> decide
    have hcb : (lostAt D.L k == 0) = false := by rw [beq_eq_false_iff_ne]; exact hcode
    rw [there_lost hb, if_neg hcode]
    unfold LostR zeroB at HC
    obtain ⟨c, hc⟩ : ∃ c, lostAt D.L k = c := ⟨_, rfl⟩
    rw [hc] at HC hcb ⊢
    rw [hz] at HC ⊢
    clear hz hc h hb hk hf hcode
    go_enter Try.func39, Try.ntmps39
    go_wp2_with fail
    refine HC.out.mono ?_
    rintro en w1 ⟨rfl, h1, s1⟩
    have H1 := Lib.hid h1
    have S1 := Lib.hid s1
    clear h1 s1
    go_wp2_with fail
    go_ret
    exact ⟨f, rfl, ⟨mb, g, cp, H1.out.below (below_alloc _ _)⟩, S1.out.trans (Step.of_below (below_alloc _ _))⟩
end

end Go.Proofs.Ytgigjbngocfkbaa
