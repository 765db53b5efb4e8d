/-
  The statement on a text with one byte more: the walk.
-/
import Derived.Test.YtpfbgojgikkgbaaAwake
import Derived.WalkSpells
import Derived.Laws.IdiomStrings
namespace Go.Proofs.Ytpfbgojgikkgbaa
open Go Go.RowKit Go.Shelf

theorem one_more (s : ByteArray) (b : UInt8) : (s ++ ⟨#[b]⟩).data.toList = s.data.toList ++ [b] := by simp

theorem sum_snoc_any (u : Int) (s : ByteArray) (b : UInt8) (w : World) (hs : s.size ≤ 9223372036854775806) :
    Calls Try.prog 7 #[.int .u64 u, .string (s ++ ⟨#[b]⟩)] w fun e w' => e = .returned (.int .u64 (moreU (sumU u s.data.toList) (b.toNat : Int))) ∧ w = w' := by
  have h := sum_any u (s ++ ⟨#[b]⟩) w (by rw [ByteArray.size_append]; show s.size + 1 ≤ _; omega)
  rw [one_more, sumU_snoc] at h
  exact h

theorem one_byte (w : World) (b : UInt8) : (convert 33 9 (.slice (some ⟨w.heap.size, 0, none⟩) 1 1)).run Try.prog (w.alloc (.cells #[.int .u8 (b.toNat : Int)] 5)) = .ok (.string ⟨#[b]⟩) (w.alloc (.cells #[.int .u8 (b.toNat : Int)] 5)) := by
  refine run_convert_bytes_back _ 33 9 5 ⟨w.heap.size, 0, none⟩ 1 [b] Try.underlying33 Try.underlying5 Try.underlying9 ?_
  intro j hj
  obtain rfl : j = 0 := by simpa using hj
  exact cell_one_new w _ _ 0 _ rfl

set_option maxRecDepth 100000 in
set_option maxHeartbeats 1000000 in
theorem step_any (u : Int) (b : UInt8) (s : ByteArray) (w : World) (hs : s.size ≤ 9223372036854775807) :
    Calls Try.prog 5 #[.int .u64 u, .string s, .int .u8 (b.toNat : Int)] w (Yes w) := by
  by_cases hlong : 2000 < s.size
  · go_enter Try.func5, Try.ntmps5
    go_wp2_with fail
    refine (awake_any _).mono ?_
    rintro e w' ⟨rfl, hb⟩
    have HB := Lib.hid hb
    clear hb
    go_wp2_with fail
    go_ret
    exact ⟨rfl, HB.out⟩
  · have hb1 := UInt8.toNat_lt b
    have hconv := one_byte w b
    go_enter Try.func5, Try.ntmps5
    go_wp2_with fail
    refine (sum_snoc_any _ _ _ _ (by omega)).mono ?_
    rintro e w' ⟨rfl, rfl⟩
    go_wp2_with fail
    refine (sum_any _ _ _ hs).mono ?_
    rintro e w' ⟨rfl, rfl⟩
    go_wp2_with fail
    refine (more_any _ _ _ (by omega) (by omega)).mono ?_
    rintro e w' ⟨rfl, rfl⟩
    go_wp2_with fail
    refine (awake_any _).mono ?_
    rintro e w' ⟨rfl, hb⟩
    have HB := Lib.hid hb
    clear hb
    go_wp2_with fail
    go_ret
    exact ⟨rfl, ((Below.refl _ w).alloc (Nat.le_refl _) _).trans (HB.out.mono (by simp))⟩

end Go.Proofs.Ytpfbgojgikkgbaa
