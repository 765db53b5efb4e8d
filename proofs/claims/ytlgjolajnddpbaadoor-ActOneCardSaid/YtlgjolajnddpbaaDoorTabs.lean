/-
  What start-up lays that the acts' texts read; numbers as decimal digits.
-/
import Derived.Test.YtlgjolajnddpbaaDoorShelf18
import Derived.Test.YtlgjolajnddpbaaDoorFoot
import Derived.Test.YtlgjolajnddpbaaDoorRows
import Derived.WalkSmall
import Derived.Lib.AppendIntMem
namespace Go.Proofs.YtlgjolajnddpbaaDoor
open Go Go.Shelf Go.RowKit
attribute [local go_sem ↓] Go.wp_at_zero Go.wp_at_succ

/-- The word of a kind. -/
def nameA (i : Nat) : ByteArray := ([⟨#[110, 111, 110, 101]⟩, ⟨#[108, 111, 97, 100]⟩, ⟨#[115, 116, 111, 114, 101]⟩, ⟨#[115, 119, 97, 112]⟩, ⟨#[98, 117, 109, 112]⟩, ⟨#[109, 97, 107, 101]⟩, ⟨#[119, 111, 114, 100, 115]⟩, ⟨#[100, 114, 111, 112]⟩, ⟨#[108, 111, 99, 107]⟩, ⟨#[117, 110, 108, 111, 99, 107]⟩, ⟨#[97, 119, 97, 105, 116]⟩] : List ByteArray).getD i ⟨#[]⟩
def powName : String := Rows.actDoesRow.named.getD 1 default
/-- The two tables that are read. -/
structure Tabs (W : World) : Prop where
  pow : Lib.TabIs Tryd.prog W powName .u64 Lib.pow10Tab
  names : ∀ i, i < 11 → W.cell? ⟨0, i, none⟩ = some (.string (nameA i))
theorem pow_global : Tryd.prog.globalNamed powName = some 1 := by kernel_rfl
theorem Tabs.stays {W W' : World} (h : Tabs W) (h0 : W'.heap[0]? = W.heap[0]?) (h1 : W'.heap[1]? = W.heap[1]?) : Tabs W' := by
  refine ⟨?_, fun i hi => ?_⟩
  · have := h.pow
    unfold Lib.TabIs World.var? at this ⊢
    rw [pow_global] at this ⊢
    simp only [Option.bind_some] at this ⊢
    rw [h1]
    exact this
  · have := h.names i hi
    unfold World.cell? at this ⊢
    simp only at this ⊢
    rw [h0]
    exact this
theorem Tabs.lt {W : World} (h : Tabs W) : 0 < W.heap.size ∧ 1 < W.heap.size := by
  refine ⟨cell_lt (h.names 0 (by decide)), ?_⟩
  have := Lib.TabIs.cell h.pow pow_global 0 (by decide)
  exact World.block_lt_of_cell? W _ this
theorem Tabs.below {W W' : World} (h : Tabs W) (hb : Below W.heap.size W W') : Tabs W' := h.stays (hb.block _ h.lt.1) (hb.block _ h.lt.2)
theorem Tabs.step {W W' : World} {f f' : Nat → Prop} (h : Tabs W) (hs : Step f f' W W') (hf : ∀ k, k < 2 → ¬ f k) : Tabs W' := h.stays (hs.block _ h.lt.1 (hf _ (by decide))) (hs.block _ h.lt.2 (hf _ (by decide)))

/-- The decimal digits of a number. -/
def digN (u : Nat) : ByteArray := ⟨(Lib.decDigits u).toArray⟩
theorem nd_le : ∀ (k u : Nat), u < 10 ^ (k + 1) → Lib.nDigits u ≤ k + 1
  | 0, u, h => by rw [Lib.nDigits_small (by simpa using h)]; exact Nat.le_refl _
  | k + 1, u, h => by
    by_cases h0 : u < 10
    · rw [Lib.nDigits_small h0]; omega
    · rw [Lib.nDigits_big h0]
      have := nd_le k (u / 10) (by rw [Nat.pow_succ] at h; omega)
      omega
theorem dig_size (u : Nat) (h : u < 18446744073709551616) : (digN u).size ≤ 20 := by
  have h1 : (digN u).size = Lib.nDigits u := by rw [← Lib.decDigits_length]; simp [digN, ByteArray.size]
  rw [h1]
  exact nd_le 19 u (by omega)
theorem format_any (u : Nat) (hu : u ≤ 9223372036854775807) (W : World) (hT : Tabs W) : Calls Tryd.prog 63 #[.int .i64 (u : Int), .int .i64 10] W fun e W' => e = .returned (.string (digN u)) ∧ Below W.heap.size W W' := by
  refine (Any.strconv_FormatInt_10 laysM173 (u : Int) (by omega) (by omega) W hT.pow).mono fun e W' he => ?_
  obtain ⟨he, k, os, rfl⟩ := he
  refine ⟨?_, Lib.below_grow _ _ (Nat.le_refl _) k os⟩
  rw [he]
  have : Lib.itoa (u : Int) = Lib.decDigits u := by unfold Lib.itoa; rw [if_neg (by omega)]; simp
  rw [this]
  rfl
theorem print_any (u : Nat) (hu : u ≤ 9223372036854775807) (W : World) (hT : Tabs W) : Calls Tryd.prog 49 #[.int .i64 (u : Int)] W fun e W' => e = .returned (.string (digN u)) ∧ Below W.heap.size W W' := by
  have HC := Lib.hid (format_any u hu W hT)
  go_enter Tryd.func49, Tryd.ntmps49
  go_wp2_with fail
  refine (HC.out).mono ?_
  rintro en w1 ⟨rfl, hb⟩
  have HB := Lib.hid hb
  clear hb
  go_wp2_with fail
  go_ret
  exact ⟨rfl, HB.out⟩

theorem mk_app (a b : List UInt8) : (⟨a.toArray⟩ : ByteArray) ++ ⟨b.toArray⟩ = ⟨(a ++ b).toArray⟩ := by
  apply ByteArray.ext
  simp
theorem dig_split (u : Nat) (h : ¬ u < 10) : digN (u / 10) ++ digN (u % 10) = digN u := by
  have h1 : Lib.decDigits (u % 10) = [UInt8.ofNat (48 + u % 10)] := Lib.decDigits_one (by omega)
  have h2 : Lib.decDigits u = Lib.decDigits (u / 10) ++ [UInt8.ofNat (48 + u % 10)] := by rw [Lib.decDigits, dif_neg h]
  unfold digN
  rw [mk_app, h1, h2]

set_option maxHeartbeats 1000000 in
theorem number_any (u : Nat) (hu : u < 18446744073709551616) (W : World) (hT : Tabs W) : Calls Tryd.prog 48 #[.int .u64 (u : Int)] W fun e W' => e = .returned (.string (digN u)) ∧ Below W.heap.size W W' := by
  by_cases hs : (u : Int) ≤ 9223372036854775807
  · have HC := Lib.hid (print_any u (by omega) W hT)
    have hw : IntKind.i64.wrap (u : Int) = (u : Int) := by rw [IntKind.wrap_i64]; omega
    obtain ⟨z, hz⟩ : ∃ z, (u : Int) = z := ⟨_, rfl⟩
    rw [hz] at hs hw HC ⊢
    clear hz
    go_enter Tryd.func48, Tryd.ntmps48
    go_wp2_with fail
    refine (HC.out).mono ?_
    rintro en w1 ⟨rfl, hb⟩
    have HB := Lib.hid hb
    clear hb
    go_wp2_with fail
    go_ret
    exact ⟨rfl, HB.out⟩
  · have H1 := Lib.hid (fun X (hX : Tabs X) => print_any (u / 10) (by omega) X hX)
    have H2 := Lib.hid (fun X (hX : Tabs X) => print_any (u % 10) (by omega) X hX)
    have HE := Lib.hid (dig_split u (by omega))
    have s1 := dig_size (u / 10) (by omega)
    have s2 := dig_size (u % 10) (by omega)
    have s3 : (digN (u / 10)).size + (digN (u % 10)).size ≤ 9223372036854775807 := by omega
    clear s1 s2
    have HT := Lib.hid hT
    go_enter Tryd.func48, Tryd.ntmps48
    go_wp2_with fail
    refine (H1.out _ HT.out).mono ?_
    rintro en w1 ⟨rfl, hb⟩
    have HB := Lib.hid hb
    clear hb
    go_wp2_with fail
    refine (H2.out _ (HT.out.below HB.out)).mono ?_
    rintro en w2 ⟨rfl, hb⟩
    have HB2 := Lib.hid (HB.out.trans (hb.mono HB.out.size))
    clear hb
    go_wp2_with fail
    go_ret
    refine ⟨?_, HB2.out⟩
    rw [HE.out]
    rfl

end Go.Proofs.YtlgjolajnddpbaaDoor
