/-
  A heap's Load, Store, Swap, Bump, Words.
-/
import Derived.Test.YtgigjbngocfkbaaHfind
namespace Go.Proofs.Ytgigjbngocfkbaa
open Go Go.RowKit
attribute [local go_sem ↓] Go.wp_at_zero Go.wp_at_succ

/-- What is wrong with a cell; 0, if nothing is. -/
def spot (L : List BlkD) (k : Nat) (i : Int) : Int := match liveAt L k with | none => lostAt L k | some b => if i < 0 ∨ (b.ws.length : Int) ≤ i then 18 else 0
/-- What is wrong with a block; 0, if nothing is. -/
def there (L : List BlkD) (k : Nat) : Int := match liveAt L k with | none => lostAt L k | some _ => 0
def wordAt (L : List BlkD) (k : Nat) (i : Int) : Int := match liveAt L k with | none => 0 | some b => b.ws.getD i.toNat 0
def textAt (L : List BlkD) (k : Nat) : ByteArray := match liveAt L k with | none => ⟨#[]⟩ | some b => b.text
def sizeAt (L : List BlkD) (k : Nat) : Nat := match liveAt L k with | none => 0 | some b => b.ws.length
def HpD.word (D : HpD) (k : Nat) (i u : Int) : HpD := match liveAt D.L k with | none => D | some b => D.at k ⟨b.ws.set i.toNat u, b.text, false⟩
def HpD.lose (D : HpD) (k : Nat) : HpD := match liveAt D.L k with | none => D | some b => D.at k ⟨b.ws, b.text, true⟩

theorem lost_nz (L : List BlkD) (k : Nat) : lostAt L k = 16 ∨ lostAt L k = 17 := by unfold lostAt; split <;> simp
theorem spot_zero {L : List BlkD} {k : Nat} {i : Int} (h : spot L k i = 0) : ∃ b j, liveAt L k = some b ∧ i = ((j : Nat) : Int) ∧ j < b.ws.length := by
  unfold spot at h
  split at h
  · rcases lost_nz L k with e | e <;> rw [e] at h <;> cases h
  · rename_i b hb
    split at h
    · cases h
    · exact ⟨b, i.toNat, hb, by omega, by omega⟩
theorem spot_lost {L : List BlkD} {k : Nat} {i : Int} (h : liveAt L k = none) : spot L k i = lostAt L k := by unfold spot; rw [h]
theorem spot_off {L : List BlkD} {k : Nat} {i : Int} {b : BlkD} (h : liveAt L k = some b) (hi : i < 0 ∨ (b.ws.length : Int) ≤ i) : spot L k i = 18 := by unfold spot; rw [h]; simp only; rw [if_pos hi]
theorem spot_some {L : List BlkD} {k : Nat} {i : Int} {b : BlkD} (h : liveAt L k = some b) : spot L k i = if i < 0 ∨ (b.ws.length : Int) ≤ i then 18 else 0 := by unfold spot; rw [h]
theorem spot_hit {L : List BlkD} {k j : Nat} {b : BlkD} (h : liveAt L k = some b) (hj : j < b.ws.length) : spot L k (j : Int) = 0 := by rw [spot_some h, if_neg (by omega)]
theorem wordAt_hit {L : List BlkD} {k j : Nat} {b : BlkD} (h : liveAt L k = some b) (hj : j < b.ws.length) : wordAt L k (j : Int) = b.ws[j] := by unfold wordAt; rw [h]; simp [hj]
theorem word_hit {D : HpD} {k j : Nat} {u : Int} {b : BlkD} (h : liveAt D.L k = some b) : D.word k (j : Int) u = D.at k ⟨b.ws.set j u, b.text, false⟩ := by unfold HpD.word; rw [h]; simp
theorem there_hit {L : List BlkD} {k : Nat} {b : BlkD} (h : liveAt L k = some b) : there L k = 0 := by unfold there; rw [h]
theorem there_lost {L : List BlkD} {k : Nat} (h : liveAt L k = none) : there L k = lostAt L k := by unfold there; rw [h]
theorem textAt_hit {L : List BlkD} {k : Nat} {b : BlkD} (h : liveAt L k = some b) : textAt L k = b.text := by unfold textAt; rw [h]
theorem textAt_lost {L : List BlkD} {k : Nat} (h : liveAt L k = none) : textAt L k = ⟨#[]⟩ := by unfold textAt; rw [h]

/-- The answers of the calls, and the heap behind them. -/
def loadV (D : HpD) (k : Nat) (i : Int) : Int := if spot D.L k i = 0 then wordAt D.L k i else 0
def loadD (D : HpD) (k : Nat) (i : Int) : HpD := if spot D.L k i = 0 then D else D.fault
def storeD (D : HpD) (k : Nat) (i u : Int) : HpD := if spot D.L k i = 0 then D.word k i u else D.fault
def swapD (D : HpD) (k : Nat) (i o u : Int) : HpD := if spot D.L k i = 0 then (if wordAt D.L k i = o then D.word k i u else D) else D.fault
def bumpD (D : HpD) (k : Nat) (i u : Int) : HpD := if spot D.L k i = 0 then D.word k i (IntKind.u64.wrap (wordAt D.L k i + u)) else D.fault
def wordsD (D : HpD) (k : Nat) : HpD := if there D.L k = 0 then D else D.fault
def dropD (D : HpD) (k : Nat) : HpD := if there D.L k = 0 then D.lose k else D.fault

abbrev TwoV (w c : Int) : Value := .tuple #[.int .u64 w, .int .i64 c]

section
variable {B p : Nat} {D : HpD} {f : Nat → Prop} {mb : Option Nat} {g cp : Nat → Nat}
theorem cell_none (W : World) (h : HpAt W B p D f mb g cp) (hf : D.faults < 1000000) (k : Nat) (hk : k < 18446744073709551616) (i : Int) (hs : spot D.L k i ≠ 0) :
    Calls Try.prog 42 #[.pointer (some ⟨p, 0, none⟩), .int .u64 (k : Int), .int .i64 i] W (NoneR B p D f mb g cp (spot D.L k i) W) := by
  cases hb : liveAt D.L k with
  | none => rw [spot_lost hb]; exact cell_lost W h hf k hk hb i
  | some b =>
    by_cases hi : i < 0 ∨ (b.ws.length : Int) ≤ i
    · rw [spot_off hb hi]; exact cell_off W h hf k hk b hb i hi
    · rw [spot_some hb, if_neg hi] at hs; exact absurd rfl hs

/-- What the calls of a cell share. -/
theorem spot_bool {L : List BlkD} {k : Nat} {i : Int} (hs : spot L k i ≠ 0) : ((spot L k i) == 0) = false := by rw [beq_eq_false_iff_ne]; exact hs

set_option maxRecDepth 100000 in
set_option maxHeartbeats 1000000 in
theorem load_any (W : World) (h : Hp W B p D f) (hf : D.faults < 1000000) (k : Nat) (hk : k < 18446744073709551616) (i : Int) :
    Calls Try.prog 16 #[.pointer (some ⟨p, 0, none⟩), .int .u64 (k : Int), .int .i64 i] W (HpR B p f W (TwoV (loadV D k i) (spot D.L k i)) (loadD D k i)) := by
  obtain ⟨mb, g, cp, h⟩ := h
  obtain ⟨z, hz⟩ : ∃ z, (k : Int) = z := ⟨_, rfl⟩
  by_cases hs : spot D.L k i = 0
  · obtain ⟨b, j, hb, rfl, hj⟩ := spot_zero hs
    have HC := Lib.hid (cell_hit W h k hk b hb j hj)
    have HW := Lib.hid (fun Y hY => ((h.below (W' := Y) hY).setWord hb j hj 0).1)
    have HH := Lib.hid h
    unfold loadV loadD
    rw [if_pos hs, if_pos hs, wordAt_hit hb hj, spot_hit hb hj]
    obtain ⟨u, hu⟩ : ∃ u, b.ws[j] = u := ⟨_, rfl⟩
    obtain ⟨q, hq⟩ : ∃ q, g k = q := ⟨_, rfl⟩
    unfold uval at HW
    rw [hu, hq] at HW
    rw [hq] at HC
    rw [hz] at HC ⊢
    rw [hu]
    clear hu hq hz hs hb hj hk hf h
    go_enter Try.func16, Try.ntmps16
    go_wp2_with fail
    refine HC.out.mono ?_
    rintro en w1 ⟨rfl, hb1⟩
    have HB := Lib.hid hb1
    have hc := HW.out _ hb1
    clear hb1
    go_wp2_with fail
    go_ret2
    exact ⟨f, rfl, ⟨mb, g, cp, HH.out.below HB.out⟩, Step.of_below HB.out⟩
  · have HC := Lib.hid (cell_none W h hf k hk i hs)
    have hcode := spot_bool hs
    unfold loadV loadD
    rw [if_neg hs, if_neg hs]
    obtain ⟨c, hc⟩ : ∃ c, spot D.L k i = c := ⟨_, rfl⟩
    rw [hc] at HC hcode ⊢
    rw [hz] at HC ⊢
    unfold NoneR at HC
    clear hz hc hs h hk hf
    go_enter Try.func16, Try.ntmps16
    go_wp2_with fail
    refine HC.out.mono ?_
    rintro en w1 ⟨rfl, h1, s1⟩
    have H1 := Lib.hid h1
    have S1 := Lib.hid s1
    clear h1 s1
    go_wp2_with fail
    go_ret2
    exact ⟨f, rfl, ⟨mb, g, cp, H1.out⟩, S1.out⟩
end

end Go.Proofs.Ytgigjbngocfkbaa
