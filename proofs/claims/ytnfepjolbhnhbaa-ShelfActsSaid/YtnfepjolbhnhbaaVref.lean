/-
  The reference's Version on a tape, and what the routine does beside it.
-/
import Derived.Test.YtnfepjolbhnhbaaTape
import Derived.Test.YtnfepjolbhnhbaaVaw
namespace Go.Proofs.Ytnfepjolbhnhbaa
open Go Go.RowKit
attribute [local go_sem ↓] Go.wp_at_zero Go.wp_at_succ

theorem run_field_word (W : World) (w : Int) (t : ByteArray) : (Instr.field 42 (gotV w t) 0).run Try.prog W = .ok (.int .u64 w) W := by
  kernel_rfl
section
variable {W : World} {b c : Nat} {ga : Option Addr} {G : List (Int × ByteArray)} {T : TapD}
set_option maxRecDepth 100000 in
set_option maxHeartbeats 2000000 in
theorem tape_make (h : TapAt W b ga c G T) (hga : ∀ a, ga = some a → a.block < W.heap.size) (n : Int) (t : ByteArray) :
    Calls Try.prog 20 #[.pointer (some ⟨b, 0, none⟩), .int .i64 n, .string t] W (TapR b ga c G (onT G T ⟨5, 0, n, 0, 0, t⟩) (.int .u64 (doW' G T)) W) := by
  have H := Lib.hid (tape_do W h hga ⟨5, 0, n, 0, 0, t⟩)
  obtain ⟨w', hw'⟩ : ∃ w, doW' G T = w := ⟨_, rfl⟩
  obtain ⟨t', ht'⟩ : ∃ w, doT' G T = w := ⟨_, rfl⟩
  rw [hw', ht'] at H
  rw [hw']
  have hfw := fun X => run_field_word X w' t'
  clear h hga hw' ht'
  go_enter Try.func20, Try.ntmps20
  go_wp2_with fail
  refine H.out.mono ?_
  rintro en w1 ⟨rfl, h1, s1⟩
  have H1 := Lib.hid (And.intro h1 s1)
  clear h1 s1
  go_wp2_with fail
  go_ret
  exact ⟨rfl, H1.out.1, H1.out.2⟩
set_option maxRecDepth 100000 in
set_option maxHeartbeats 2000000 in
theorem tape_store (h : TapAt W b ga c G T) (hga : ∀ a, ga = some a → a.block < W.heap.size) (k : Nat) (i w : Int) :
    Calls Try.prog 21 #[.pointer (some ⟨b, 0, none⟩), .int .u64 (k : Int), .int .i64 i, .int .u64 w] W (TapR b ga c G (onT G T ⟨2, k, i, 0, w, ⟨#[]⟩⟩) (.tuple #[]) W) := by
  have H := Lib.hid (tape_do W h hga ⟨2, k, i, 0, w, ⟨#[]⟩⟩)
  obtain ⟨w', hw'⟩ : ∃ w, doW' G T = w := ⟨_, rfl⟩
  obtain ⟨t', ht'⟩ : ∃ w, doT' G T = w := ⟨_, rfl⟩
  rw [hw', ht'] at H
  clear h hga hw' ht'
  go_enter Try.func21, Try.ntmps21
  go_wp2_with fail
  refine H.out.mono ?_
  rintro en w1 ⟨rfl, h1, s1⟩
  have H1 := Lib.hid (And.intro h1 s1)
  clear h1 s1
  go_wp2_with fail
  go_end0
  exact ⟨rfl, H1.out.1, H1.out.2⟩
end

/-- What the reference comes to: its answer, and the tape behind it. -/
def verT (G : List (Int × ByteArray)) (ep nx : Int) (has : Bool) (t : ByteArray) : Int × TapD :=
  let b := doW' G tape0
  let T1 := onT G tape0 ⟨5, 0, 3, 0, 0, t⟩
  if b = 0 then (0, T1) else
  let T2 := onT G T1 ⟨2, b.toNat, 0, 0, ep, ⟨#[]⟩⟩
  let T3 := if nx = 0 then T2 else onT G T2 ⟨2, b.toNat, 1, 0, nx, ⟨#[]⟩⟩
  let T4 := if has then onT G T3 ⟨2, b.toNat, 2, 0, 1, ⟨#[]⟩⟩ else T3
  (b, T4)

set_option maxRecDepth 100000 in
set_option maxHeartbeats 4000000 in
theorem ref_any (W : World) {b c : Nat} {ga : Option Addr} {G : List (Int × ByteArray)} (h : TapAt W b ga c G tape0) (hga : ∀ a, ga = some a → a.block < W.heap.size) (hG : ∀ g ∈ G, 0 ≤ g.1 ∧ g.1 < 18446744073709551616) (ep nx : Int) (key : ByteArray) (has : Bool) (val t : ByteArray) (ht : (if has then val else ⟨#[]⟩ : ByteArray) = t) :
    Calls Try.prog 7 #[.pointer (some ⟨b, 0, none⟩), .int .u64 ep, .int .u64 nx, .agg #[.string key, .bool has, .string val]] W (TapR b ga c G (verT G ep nx has t).2 (.int .u64 (verT G ep nx has t).1) W) := by
  have hb0 : 0 ≤ doW' G tape0 := by
    unfold doW' tape0
    simp only [Bool.false_eq_true, if_false]
    cases hg : G[0]? with
    | none => exact Int.le_refl _
    | some g => exact (hG g (List.mem_of_getElem? hg)).1
  obtain ⟨m, hm⟩ : ∃ m : Nat, doW' G tape0 = (m : Int) := ⟨(doW' G tape0).toNat, by omega⟩
  have hB := Lib.hid (below_alloc W (chO key has val))
  have H0 := Lib.hid (h.below hB.out)
  have HGa := Lib.hid (fun (X : World) (hX : W.heap.size ≤ X.heap.size) a (ha : ga = some a) => Nat.lt_of_lt_of_le (hga a ha) hX)
  have HC := Lib.hid (World.alloc_heap_new W (chO key has val))
  have HMk := Lib.hid (fun (X : World) (hX : TapAt X b ga c G tape0) (hs : W.heap.size ≤ X.heap.size) => (by have := tape_make hX (HGa.out X hs) 3 t; rw [hm] at this; exact this :
    Calls Try.prog 20 #[.pointer (some ⟨b, 0, none⟩), .int .i64 3, .string t] X (TapR b ga c G (onT G tape0 ⟨5, 0, 3, 0, 0, t⟩) (.int .u64 (m : Int)) X)))
  have HSt := Lib.hid (fun (X : World) (T : TapD) (i w : Int) (hX : TapAt X b ga c G T) (hs : W.heap.size ≤ X.heap.size) => tape_store hX (HGa.out X hs) m i w)
  obtain ⟨V, hV⟩ : ∃ V, verT G ep nx has t = V := ⟨_, rfl⟩
  have HV := Lib.hid hV
  rw [hV]
  have hbl : W.heap.size ≠ b := by have := heap_at_lt h.own; omega
  have HCb := Lib.hid (fun (X : World) (hs : Step (fun k => k = b) (fun k => k = b) (W.alloc (chO key has val)) X) => (hs.block W.heap.size (by simp) hbl).trans HC.out)
  have hc0 : (W.alloc (chO key has val)).cell? ⟨W.heap.size, 1, none⟩ = some (.bool has) := (cell_of HC.out).trans rfl
  have hc1 : (W.alloc (chO key has val)).cell? ⟨W.heap.size, 2, none⟩ = some (.string val) := (cell_of HC.out).trans rfl
  clear h hga hG hV hb0 hbl
  cases has with
  | false =>
    obtain rfl : ⟨#[]⟩ = t := ht
    go_enter Try.func7, Try.ntmps7
    go_wp2_with fail
    refine (HMk.out _ H0.out hB.out.size).mono ?_
    rintro en w1 ⟨rfl, h1, s1⟩
    have H1 := Lib.hid h1
    have S1 := Lib.hid s1
    clear h1 s1
    by_cases hm0 : m = 0
    · subst hm0
      go_wp2_with fail
      go_ret
      have e : V = (0, (onT G tape0 ⟨5, 0, 3, 0, 0, ⟨#[]⟩⟩)) := by rw [← HV.out]; unfold verT; simp [hm]
      rw [e]
      exact ⟨rfl, H1.out, (Step.of_below hB.out).trans S1.out⟩
    · have hmz : ((m : Int) == 0) = false := by simp; omega
      have hmi : ¬ ((m : Int) = 0) := by omega
      go_wp2_with fail
      refine (HSt.out _ _ _ _ H1.out (Nat.le_trans hB.out.size S1.out.size)).mono ?_
      rintro en w2 ⟨rfl, h2, s2⟩
      have H2 := Lib.hid h2
      have S2 := Lib.hid (S1.out.trans s2)
      clear h2 s2
      by_cases hnx : nx = 0
      · subst hnx
        have hd := HCb.out _ S2.out
        have hd0 : w2.cell? ⟨W.heap.size, 1, none⟩ = some (.bool false) := (cell_of hd).trans rfl
        clear hd
        go_wp2_with fail
        go_ret
        have e : V = ((m : Int), (onT G (onT G tape0 ⟨5, 0, 3, 0, 0, ⟨#[]⟩⟩) ⟨2, m, 0, 0, ep, ⟨#[]⟩⟩)) := by rw [← HV.out]; unfold verT; simp [hm, hm0]
        rw [e]
        exact ⟨rfl, H2.out, (Step.of_below hB.out).trans S2.out⟩
      · have hnz : (nx == 0) = false := by simpa using hnx
        go_wp2_with fail
        refine (HSt.out _ _ _ _ H2.out (Nat.le_trans hB.out.size S2.out.size)).mono ?_
        rintro en w3 ⟨rfl, h3, s3⟩
        have H3 := Lib.hid h3
        have S3 := Lib.hid (S2.out.trans s3)
        clear h3 s3
        have hd := HCb.out _ S3.out
        have hd0 : w3.cell? ⟨W.heap.size, 1, none⟩ = some (.bool false) := (cell_of hd).trans rfl
        clear hd
        go_wp2_with fail
        go_ret
        have e : V = ((m : Int), (onT G (onT G (onT G tape0 ⟨5, 0, 3, 0, 0, ⟨#[]⟩⟩) ⟨2, m, 0, 0, ep, ⟨#[]⟩⟩) ⟨2, m, 1, 0, nx, ⟨#[]⟩⟩)) := by rw [← HV.out]; unfold verT; simp [hm, hm0, hnx]
        rw [e]
        exact ⟨rfl, H3.out, (Step.of_below hB.out).trans S3.out⟩
  | true =>
    obtain rfl : val = t := ht
    go_enter Try.func7, Try.ntmps7
    go_wp2_with fail
    refine (HMk.out _ H0.out hB.out.size).mono ?_
    rintro en w1 ⟨rfl, h1, s1⟩
    have H1 := Lib.hid h1
    have S1 := Lib.hid s1
    clear h1 s1
    by_cases hm0 : m = 0
    · subst hm0
      go_wp2_with fail
      go_ret
      have e : V = (0, (onT G tape0 ⟨5, 0, 3, 0, 0, val⟩)) := by rw [← HV.out]; unfold verT; simp [hm]
      rw [e]
      exact ⟨rfl, H1.out, (Step.of_below hB.out).trans S1.out⟩
    · have hmz : ((m : Int) == 0) = false := by simp; omega
      have hmi : ¬ ((m : Int) = 0) := by omega
      go_wp2_with fail
      refine (HSt.out _ _ _ _ H1.out (Nat.le_trans hB.out.size S1.out.size)).mono ?_
      rintro en w2 ⟨rfl, h2, s2⟩
      have H2 := Lib.hid h2
      have S2 := Lib.hid (S1.out.trans s2)
      clear h2 s2
      by_cases hnx : nx = 0
      · subst hnx
        have hd := HCb.out _ S2.out
        have hd0 : w2.cell? ⟨W.heap.size, 1, none⟩ = some (.bool true) := (cell_of hd).trans rfl
        clear hd
        go_wp2_with fail
        refine (HSt.out _ _ _ _ H2.out (Nat.le_trans hB.out.size S2.out.size)).mono ?_
        rintro en w9 ⟨rfl, h9, s9⟩
        have H9 := Lib.hid h9
        have S9 := Lib.hid (S2.out.trans s9)
        clear h9 s9
        go_wp2_with fail
        go_ret
        have e : V = ((m : Int), (onT G (onT G (onT G tape0 ⟨5, 0, 3, 0, 0, val⟩) ⟨2, m, 0, 0, ep, ⟨#[]⟩⟩) ⟨2, m, 2, 0, 1, ⟨#[]⟩⟩)) := by rw [← HV.out]; unfold verT; simp [hm, hm0]
        rw [e]
        exact ⟨rfl, H9.out, (Step.of_below hB.out).trans S9.out⟩
      · have hnz : (nx == 0) = false := by simpa using hnx
        go_wp2_with fail
        refine (HSt.out _ _ _ _ H2.out (Nat.le_trans hB.out.size S2.out.size)).mono ?_
        rintro en w3 ⟨rfl, h3, s3⟩
        have H3 := Lib.hid h3
        have S3 := Lib.hid (S2.out.trans s3)
        clear h3 s3
        have hd := HCb.out _ S3.out
        have hd0 : w3.cell? ⟨W.heap.size, 1, none⟩ = some (.bool true) := (cell_of hd).trans rfl
        clear hd
        go_wp2_with fail
        refine (HSt.out _ _ _ _ H3.out (Nat.le_trans hB.out.size S3.out.size)).mono ?_
        rintro en w9 ⟨rfl, h9, s9⟩
        have H9 := Lib.hid h9
        have S9 := Lib.hid (S3.out.trans s9)
        clear h9 s9
        go_wp2_with fail
        go_ret
        have e : V = ((m : Int), (onT G (onT G (onT G (onT G tape0 ⟨5, 0, 3, 0, 0, val⟩) ⟨2, m, 0, 0, ep, ⟨#[]⟩⟩) ⟨2, m, 1, 0, nx, ⟨#[]⟩⟩) ⟨2, m, 2, 0, 1, ⟨#[]⟩⟩)) := by rw [← HV.out]; unfold verT; simp [hm, hm0, hnx]
        rw [e]
        exact ⟨rfl, H9.out, (Step.of_below hB.out).trans S9.out⟩

end Go.Proofs.Ytnfepjolbhnhbaa
