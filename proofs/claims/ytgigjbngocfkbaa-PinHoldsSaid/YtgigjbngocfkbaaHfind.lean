/-
  A heap's find and cell.
-/
import Derived.Test.YtgigjbngocfkbaaHp
namespace Go.Proofs.Ytgigjbngocfkbaa
open Go Go.RowKit
attribute [local go_sem ↓] Go.wp_at_zero Go.wp_at_succ

section
variable {W Y Z : World} {B p : Nat} {D : HpD} {f : Nat → Prop} {mb : Option Nat} {g cp : Nat → Nat}
/-- A fault is counted among other things that only make memory. -/
theorem fault_fin (h : HpAt W B p D f mb g cp) (hf : D.faults < 1000000) (hY : Below W.heap.size W Y) (hZ : Below W.heap.size (Y.setCell ⟨p, 3, none⟩ (.int .i64 ((D.faults + 1 : Nat) : Int))) Z) :
    HpAt Z B p D.fault f mb g cp ∧ Step f f W Z := by
  obtain ⟨h1, h2⟩ := (h.below hY).setFaults hf
  have h3 := h.lt
  refine ⟨h1.stays (fun k hk => hZ.block k (h3 k hk)), ?_⟩
  have s1 := (Step.of_below (f := f) hY).trans h2
  exact ⟨hZ.os.trans s1.os, hZ.tape.trans s1.tape, hZ.output.trans s1.output, by have := hZ.size; have := hY.size; simp [World.setCell] at *; omega, fun k hk hn => (hZ.block k hk).trans (s1.block k hk hn), fun k hk => .inl hk⟩
theorem phi_some {L : List BlkD} {k : Nat} {b : BlkD} (hb : liveAt L k = some b) : phi g cp L k = some (.agg #[.slice (some ⟨g k, 0, none⟩) b.ws.length (cp k), .string b.text]) := by unfold phi; rw [hb]; rfl
theorem phi_none {L : List BlkD} {k : Nat} (hb : liveAt L k = none) : phi g cp L k = none := by unfold phi; rw [hb]; rfl

/-- What find looks up. -/
theorem HpAt.look (h : HpAt W B p D f mb g cp) (k : Nat) (hk : k < 18446744073709551616) (hb : Below W.heap.size W Y) :
    (Instr.lookup 97 (.map mb) (.int .u64 (k : Int)) true).run Try.prog Y = .ok (.tuple #[(phi g cp D.L k).getD zeroB, .bool (phi g cp D.L k).isSome]) Y := by
  rcases (h.below hb).map with ⟨h0, h1⟩ | ⟨m, h1, h2⟩
  · rw [h0, phi_none (by rw [h1]; exact liveAt_nil k)]
    exact look_none k hk
  · rw [h1]; exact h2.look k hk
end

set_option maxHeartbeats 1000000 in
theorem find_hit {B p : Nat} {D : HpD} {f : Nat → Prop} {mb : Option Nat} {g cp : Nat → Nat} (W : World) (h : HpAt W B p D f mb g cp) (k : Nat) (hk : k < 18446744073709551616) (b : BlkD) (hb : liveAt D.L k = some b) :
    Calls Try.prog 52 #[.pointer (some ⟨p, 0, none⟩), .int .u64 (k : Int)] W fun e W' => e = .returned (.tuple #[.agg #[.slice (some ⟨g k, 0, none⟩) b.ws.length (cp k), .string b.text], .int .i64 0]) ∧ Below W.heap.size W W' := by
  have hl := h.look k hk (below_alloc W (.cells #[.slice none 0 0, .string ⟨#[]⟩] 111))
  rw [phi_some hb] at hl
  obtain ⟨c0, _⟩ := h.cells
  obtain ⟨n, hn⟩ : ∃ n, b.ws.length = n := ⟨_, rfl⟩
  obtain ⟨s, hs⟩ : ∃ s, b.text = s := ⟨_, rfl⟩
  obtain ⟨q, hq⟩ : ∃ q, g k = q := ⟨_, rfl⟩
  obtain ⟨c, hc⟩ : ∃ c, cp k = c := ⟨_, rfl⟩
  rw [hn, hs, hq, hc] at hl ⊢
  simp only [Option.getD_some, Option.isSome_some] at hl
  have hp := h.plt
  clear hn hs hq hc h hb hk
  go_enter Try.func52, Try.ntmps52
  go_wp2_with fail
  refine bodyPost_ret (v := .tuple #[.agg #[.slice (some ⟨q, 0, none⟩) n c, .string s], .int .i64 0]) (by rw [results_cell_tmp (by rfl)]; go_simp) rfl ⟨rfl, ?_⟩
  exact (below_alloc W _).alloc (by simp) _

theorem two_allocs {n : Nat} {Y : World} (hn : n ≤ Y.heap.size) (o1 o2 : Obj) : Below n Y ((Y.alloc o1).alloc o2) := ((Below.refl _ _).alloc hn _).alloc (by simp; omega) _

theorem lost_first {L : List BlkD} {k : Nat} (h : k = 0 ∨ L.length < k) : lostAt L k = 16 := by unfold lostAt; rw [if_pos h]
theorem lost_then {L : List BlkD} {k : Nat} (h : ¬ (k = 0 ∨ L.length < k)) : lostAt L k = 17 := by unfold lostAt; rw [if_neg h]

/-- What find leaves where the block is not there. -/
def LostR (B p : Nat) (D : HpD) (f : Nat → Prop) (mb : Option Nat) (g cp : Nat → Nat) (k : Nat) (W : World) (e : Ending) (W' : World) : Prop :=
  e = .returned (.tuple #[zeroB, .int .i64 (lostAt D.L k)]) ∧ HpAt W' B p D.fault f mb g cp ∧ Step f f W W'

set_option maxRecDepth 100000 in
set_option maxHeartbeats 1000000 in
theorem find_miss {B p : Nat} {D : HpD} {f : Nat → Prop} {mb : Option Nat} {g cp : Nat → Nat} (W : World) (h : HpAt W B p D f mb g cp) (hf : D.faults < 1000000) (k : Nat) (hk : k < 18446744073709551616) (hb : liveAt D.L k = none) :
    Calls Try.prog 52 #[.pointer (some ⟨p, 0, none⟩), .int .u64 (k : Int)] W (LostR B p D f mb g cp k W) := by
  have hl := h.look k hk (below_alloc W (.cells #[.slice none 0 0, .string ⟨#[]⟩] 111))
  rw [phi_none hb] at hl
  simp only [Option.getD_none, Option.isSome_none] at hl
  obtain ⟨c0, c1, _, c3, _, _, _, f3⟩ := h.cells
  have HF := Lib.hid (fun Y Z hY hZ => fault_fin (Y := Y) (Z := Z) h hf hY hZ)
  obtain ⟨n, hn⟩ : ∃ n, D.L.length = n := ⟨_, rfl⟩
  obtain ⟨fl, hfl⟩ : ∃ fl, D.faults = fl := ⟨_, rfl⟩
  rw [hfl] at c3 HF hf
  rw [hn] at c1
  have hp := h.plt
  have hm := h.many.1
  rw [hn] at hm
  have HL0 := Lib.hid (fun e => lost_first (L := D.L) (k := k) e)
  have HL1 := Lib.hid (fun e => lost_then (L := D.L) (k := k) e)
  rw [hn] at HL0 HL1
  have hf0 : (0 : Int) ≤ (fl : Int) := by omega
  have hf1 : (fl : Int) ≤ 1000000 := by omega
  clear hn hfl h hb hk hf hm
  have hq : k = 0 ∨ (k ≠ 0 ∧ n < k) ∨ (k ≠ 0 ∧ k ≤ n) := by omega
  have HD := Lib.hid (show LostR B p D f mb g cp k W = LostR B p D f mb g cp k W from rfl)
  obtain ⟨z, hz⟩ : ∃ z, (k : Int) = z := ⟨_, rfl⟩
  rw [hz] at hl ⊢
  have fin : ∀ e Z, e = .returned (.tuple #[zeroB, .int .i64 (lostAt D.L k)]) → (∃ Y, Below W.heap.size W Y ∧ Below W.heap.size (Y.setCell ⟨p, 3, none⟩ (.int .i64 ((fl + 1 : Nat) : Int))) Z) → LostR B p D f mb g cp k W e Z := by
    rintro e Z rfl ⟨Y, h1, h2⟩
    exact ⟨rfl, HF.out Y Z h1 h2⟩
  have FIN := Lib.hid fin
  clear fin HF
  rcases hq with h0 | ⟨h0, hlt⟩ | ⟨h0, hle⟩
  · have h1 := Lib.hid (HL0.out (.inl h0))
    have hz1 : (z == 0) = true := by rw [beq_iff_eq]; omega
    clear HL0 HL1 h0 hz
    go_enter Try.func52, Try.ntmps52
    go_wp2_with fail
    refine bodyPost_ret (v := .tuple #[zeroB, .int .i64 16]) (by rw [results_cell_tmp (by rfl)]; go_simp) rfl ?_
    exact FIN.out _ _ (by rw [h1.out]) ⟨W, Below.refl _ _, by rw [Int.natCast_add]; exact two_allocs (by simp [World.setCell]) _ _⟩
  · have h1 := Lib.hid (HL0.out (.inr hlt))
    have hz1 : (z == 0) = false := by rw [beq_eq_false_iff_ne]; omega
    have hz2 : (n : Int) < z := by omega
    clear HL0 HL1 h0 hz hlt
    go_enter Try.func52, Try.ntmps52
    go_wp2_with fail
    refine bodyPost_ret (v := .tuple #[zeroB, .int .i64 16]) (by rw [results_cell_tmp (by rfl)]; go_simp) rfl ?_
    exact FIN.out _ _ (by rw [h1.out]) ⟨W, Below.refl _ _, by rw [Int.natCast_add]; exact two_allocs (by simp [World.setCell]) _ _⟩
  · have h1 := Lib.hid (HL1.out (fun e => by omega))
    have hz1 : (z == 0) = false := by rw [beq_eq_false_iff_ne]; omega
    have hz2 : z ≤ (n : Int) := by omega
    clear HL0 HL1 h0 hz hle
    go_enter Try.func52, Try.ntmps52
    go_wp2_with fail
    refine bodyPost_ret (v := .tuple #[zeroB, .int .i64 17]) (by rw [results_cell_tmp (by rfl)]; go_simp) rfl ?_
    exact FIN.out _ _ (by rw [h1.out]) ⟨W, Below.refl _ _, by rw [Int.natCast_add]; exact two_allocs (by simp [World.setCell]) _ _⟩

/-- What cell leaves where there is no such cell. -/
def NoneR (B p : Nat) (D : HpD) (f : Nat → Prop) (mb : Option Nat) (g cp : Nat → Nat) (c : Int) (W : World) (e : Ending) (W' : World) : Prop :=
  e = .returned (.tuple #[.pointer none, .int .i64 c]) ∧ HpAt W' B p D.fault f mb g cp ∧ Step f f W W'

set_option maxRecDepth 100000 in
set_option maxHeartbeats 1000000 in
theorem cell_hit {B p : Nat} {D : HpD} {f : Nat → Prop} {mb : Option Nat} {g cp : Nat → Nat} (W : World) (h : HpAt W B p D f mb g cp) (k : Nat) (hk : k < 18446744073709551616) (b : BlkD) (hb : liveAt D.L k = some b) (i : Nat) (hi : i < b.ws.length) :
    Calls Try.prog 42 #[.pointer (some ⟨p, 0, none⟩), .int .u64 (k : Int), .int .i64 (i : Int)] W fun e W' => e = .returned (.tuple #[.pointer (some ⟨g k, i, none⟩), .int .i64 0]) ∧ Below W.heap.size W W' := by
  have HC := Lib.hid (find_hit W h k hk b hb)
  have hfit := (h.fits k b hb).1
  obtain ⟨n, hn⟩ : ∃ n, b.ws.length = n := ⟨_, rfl⟩
  obtain ⟨s, hs⟩ : ∃ s, b.text = s := ⟨_, rfl⟩
  obtain ⟨q, hq⟩ : ∃ q, g k = q := ⟨_, rfl⟩
  obtain ⟨c, hc⟩ : ∃ c, cp k = c := ⟨_, rfl⟩
  obtain ⟨z, hz⟩ : ∃ z, (k : Int) = z := ⟨_, rfl⟩
  rw [hn, hs, hq, hc] at HC
  rw [hq]
  rw [hz] at HC ⊢
  rw [hn] at hi hfit
  clear hn hs hq hc hz h hb hk
  go_enter Try.func42, Try.ntmps42
  go_wp2_with fail
  refine HC.out.mono ?_
  rintro en w1 ⟨rfl, hb1⟩
  have HB := Lib.hid hb1
  clear hb1
  go_wp2_with fail
  go_ret2
  exact ⟨rfl, HB.out.alloc HB.out.size _⟩

set_option maxRecDepth 100000 in
set_option maxHeartbeats 1000000 in
theorem cell_lost {B p : Nat} {D : HpD} {f : Nat → Prop} {mb : Option Nat} {g cp : Nat → Nat} (W : World) (h : HpAt W B p D f mb g cp) (hf : D.faults < 1000000) (k : Nat) (hk : k < 18446744073709551616) (hb : liveAt D.L k = none) (i : Int) :
    Calls Try.prog 42 #[.pointer (some ⟨p, 0, none⟩), .int .u64 (k : Int), .int .i64 i] W (NoneR B p D f mb g cp (lostAt D.L k) W) := by
  have HC := Lib.hid (find_miss W h hf k hk hb)
  have hcode : ((lostAt D.L k) == 0) = false := by unfold lostAt; split <;> rfl
  obtain ⟨z, hz⟩ : ∃ z, (k : Int) = z := ⟨_, rfl⟩
  rw [hz] at HC ⊢
  unfold LostR at HC
  obtain ⟨c, hc⟩ : ∃ c, lostAt D.L k = c := ⟨_, rfl⟩
  rw [hc] at HC hcode ⊢
  clear hz h hb hk hc hf
  go_enter Try.func42, Try.ntmps42
  go_wp2_with fail
  refine HC.out.mono ?_
  rintro en w1 ⟨rfl, h1, s1⟩
  have H1 := Lib.hid h1
  have S1 := Lib.hid s1
  clear h1 s1
  go_wp2_with fail
  go_ret2
  exact ⟨rfl, H1.out.below (below_alloc _ _), S1.out.trans (Step.of_below (below_alloc _ _))⟩

set_option maxRecDepth 100000 in
set_option maxHeartbeats 1000000 in
theorem cell_off {B p : Nat} {D : HpD} {f : Nat → Prop} {mb : Option Nat} {g cp : Nat → Nat} (W : World) (h : HpAt W B p D f mb g cp) (hf : D.faults < 1000000) (k : Nat) (hk : k < 18446744073709551616) (b : BlkD) (hb : liveAt D.L k = some b) (i : Int) (hi : i < 0 ∨ (b.ws.length : Int) ≤ i) :
    Calls Try.prog 42 #[.pointer (some ⟨p, 0, none⟩), .int .u64 (k : Int), .int .i64 i] W (NoneR B p D f mb g cp 18 W) := by
  have HC := Lib.hid (find_hit W h k hk b hb)
  have HF := Lib.hid (fun Y Z hY hZ => fault_fin (Y := Y) (Z := Z) h hf hY hZ)
  have HCE := Lib.hid (fun Y (hY : Below W.heap.size W Y) => (h.below hY).cells)
  have hfit := (h.fits k b hb).1
  obtain ⟨n, hn⟩ : ∃ n, b.ws.length = n := ⟨_, rfl⟩
  obtain ⟨fl, hfl⟩ : ∃ fl, D.faults = fl := ⟨_, rfl⟩
  rw [hfl] at HF HCE hf
  obtain ⟨z, hz⟩ : ∃ z, (k : Int) = z := ⟨_, rfl⟩
  rw [hn] at HC
  rw [hz] at HC ⊢
  rw [hn] at hi hfit
  have hf0 : (0 : Int) ≤ (fl : Int) := by omega
  have hf1 : (fl : Int) ≤ 1000000 := by omega
  have HPW := Lib.hid h.plt
  clear hn hz h hb hk hf hfl
  have hor : i < 0 ∨ (0 ≤ i ∧ (n : Int) ≤ i) := by omega
  clear hi
  rcases hor with hi | ⟨hi0, hi⟩
  all_goals
    go_enter Try.func42, Try.ntmps42
    go_wp2_with fail
    refine HC.out.mono ?_
    rintro en w1 ⟨rfl, hb1⟩
    have HB := Lib.hid hb1
    obtain ⟨_, _, _, c3, _, _, _, f3⟩ := HCE.out _ hb1
    clear hb1
    have hp : p < w1.heap.size := by have := HB.out.size; have := HPW.out; omega
    go_wp2_with fail
    go_ret2
    exact ⟨rfl, HF.out w1 _ HB.out (by rw [Int.natCast_add]; exact (Below.refl _ _).alloc (by rw [World.size_setCell]; exact HB.out.size) _)⟩

end Go.Proofs.Ytgigjbngocfkbaa
