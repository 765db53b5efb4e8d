/-
  The reference's From, Delete, Put and Same.
-/
import Derived.Test.YtpnfbabiibopnaaPairs6
import Derived.Laws.StructEq
namespace Go.Proofs.Ytpnfbabiibopnaa
open Go Go.RowKit

theorem fromD_snoc (L : Pairs) (x : ByteArray) (k : Nat) (h : k < L.length) : fromD (L.take (k + 1)) x = if lt L[k].1 x then fromD (L.take k) x else fromD (L.take k) x ++ [L[k]] := by
  unfold fromD
  rw [List.take_succ_eq_append_getElem h, List.filter_append]
  cases e : lt L[k].1 x <;> simp [e]
theorem delD_snoc (L : Pairs) (x : ByteArray) (k : Nat) (h : k < L.length) : delD (L.take (k + 1)) x = if L[k].1 = x then delD (L.take k) x else delD (L.take k) x ++ [L[k]] := by
  unfold delD
  rw [List.take_succ_eq_append_getElem h, List.filter_append]
  by_cases e : L[k].1 = x <;> simp [e]
theorem length_fromD (D : Pairs) (k : ByteArray) : (fromD D k).length ≤ D.length := List.length_filter_le _ _

theorem Grows.mk0 {w : World} (hB : w.heap.size = w.heap.size) : Grows w.heap.size w [] (.slice (some ⟨w.heap.size, 0, none⟩) 0 0) (w.alloc (.cells #[] 83)) :=
  ⟨w.heap.size, 0, rfl, World.ownsRow_made w #[] 0 (Nat.le_of_eq hB) (by simp [maxLen]) rfl, (Below.refl _ w).alloc (Nat.le_refl _) _⟩

theorem Grows.done {w W : World} {L O : Pairs} {o : Value} (h : Grows w.heap.size w O o W) (e : O = L) : Collected L w (.returned o) W := by
  subst e
  obtain ⟨g, cap, rfl, hr, hb⟩ := h
  exact ⟨g, cap, rfl, hr, hb⟩

/-- How much has come. -/
def Upto (n B : Nat) (w : World) (O : Nat → Pairs) (o i : Value) (W : World) : Prop := ∃ k : Nat, k ≤ n ∧ i = .int .i64 k ∧ Grows B w (O k) o W

theorem Upto.out {n B : Nat} {w : World} {O : Nat → Pairs} {o i : Value} {W : World} (h : Upto n B w O o i W) : ∃ (k g cap : Nat) (Ok : Pairs), O k = Ok ∧ k ≤ n ∧ i = .int .i64 k ∧ o = .slice (some ⟨g, 0, none⟩) Ok.length cap ∧
    W.ownsRow B 83 2 (.slice (some ⟨g, 0, none⟩) Ok.length cap) Ok.length (flat Ok) ∧ Below B w W := by
  obtain ⟨k, hk, hi, g, cap, ho, hr, hb⟩ := h
  exact ⟨k, g, cap, O k, rfl, hk, hi, ho, hr, hb⟩

set_option maxHeartbeats 2000000 in
set_option maxRecDepth 100000 in
theorem refdel_any (g c : Nat) (L : Pairs) (x : ByteArray) (w : World) (h : Lies w g L) (hgw : g < w.heap.size) (hn : L.length ≤ 10000) :
    Calls Try.prog 10 #[.slice (some ⟨g, 0, none⟩) L.length c, .string x] w (Collected (delD L x) w) := by
  obtain ⟨i0, hi, hz0, hz1, hz2⟩ := info_parts info_pair
  have H := Lib.hid h
  obtain ⟨n, hnn⟩ : ∃ n, L.length = n := ⟨_, rfl⟩
  rw [hnn] at hn ⊢
  have HN := Lib.hid hnn
  clear h hnn
  obtain ⟨B, hB⟩ : ∃ B, w.heap.size = B := ⟨_, rfl⟩
  have HB := Lib.hid hB
  have hgB : g < B := by omega
  have H0 := Lib.hid (Grows.mk0 (w := w) rfl)
  clear hgw
  go_enter Try.func10, Try.ntmps10
  go_wp2
  go_loopw [5, 6] (Upto n B w (fun k => delD (L.take k) x)) (fun _ i _ => n - (intOf i).toNat)
  case atStart => exact ⟨0, Nat.zero_le _, rfl, by rw [← HB.out]; exact H0.out⟩
  case round =>
    obtain ⟨k, g', cap, O, hO, hk, rfl, rfl, hrow, hbel⟩ := hrel.out
    have hO : delD (L.take k) x = O := hO
    by_cases hlt : k < n
    · have hltL : k < L.length := by rw [HN.out]; exact hlt
      obtain ⟨c1, c2⟩ := H.out k hltL
      have c1' := (hbel.cell (p := ⟨g, k * 2, none⟩) hgB).trans c1
      have c2' := (hbel.cell (p := ⟨g, k * 2 + 1, none⟩) hgB).trans c2
      have hs := delD_snoc L x k hltL
      have hlen : (delD (L.take k) x).length ≤ 10000 := Nat.le_trans (length_delD _ _) (by rw [List.length_take]; omega)
      obtain ⟨O', hO'⟩ : ∃ O, delD (L.take (k + 1)) x = O := ⟨_, rfl⟩
      have HO' := Lib.hid hO'
      obtain ⟨q, hq⟩ : ∃ q, L[k] = q := ⟨_, rfl⟩
      obtain ⟨a, b⟩ := q
      rw [hO, hO', hq] at hs
      rw [hO] at hlen
      rw [hq] at c1' c2'
      have hwr : B ≤ wr.heap.size := by have := hbel.size; omega
      clear c1 c2 hq hO hO' hltL
      by_cases hl : a = x
      · subst hl
        have HS := Lib.hid (show O' = O by rw [hs]; simp)
        clear hs
        have HR := Lib.hid (show Grows B w O (.slice (some ⟨g', 0, none⟩) O.length cap) wr from ⟨g', cap, rfl, hrow, hbel⟩)
        go_wp2
        go_roundw
        case rel => exact ⟨k + 1, by omega, by go_num, by show Grows B w (delD (L.take (k + 1)) a) _ _; rw [HO'.out, HS.out]; exact HR.out⟩
        case measure => simp [intOf]; omega
      · have hl' := ne_bytes hl
        have HS := Lib.hid (show O' = O ++ [(a, b)] by rw [hs]; simp [hl])
        clear hs hl
        obtain ⟨m, hm⟩ : ∃ m, O.length = m := ⟨_, rfl⟩
        have HM := Lib.hid hm
        rw [hm] at hlen
        have hrow' := hrow
        rw [hm] at hrow'
        clear hm
        have HROW := Lib.hid hrow
        have HBEL := Lib.hid hbel
        clear hrow hbel
        rw [HM.out]
        go_wp2_with (at_builtin; refine wpList_append_own_at _ rfl _ _ 30 rfl B 83 i0 (.agg #[.string ⟨#[]⟩, .string ⟨#[]⟩]) 2 32 Try.underlying30 hi hz0 hz1 hz2 rfl (by decide) (.slice (some ⟨g', 0, none⟩) m cap) m (flat O) rfl (hrow'.alloc _) ⟨wr.heap.size, 0, none⟩ 1 1 [.string a, .string b] rfl rfl (pair_news _ _ _ _) (pair_one _ _) (by simp only [maxLen]; omega) (by omega) (by simp; omega) ?_; intro v' w1 hown' hgrow _ hat)
        go_roundw
        case rel =>
          refine ⟨k + 1, by omega, by go_num, ?_⟩
          show Grows B w (delD (L.take (k + 1)) x) _ _
          rw [HO'.out, HS.out]
          rw [← HM.out] at hown' hgrow
          exact (Grows.next hwr HROW.out HBEL.out hown' hgrow).1
        case measure => simp [intOf]; omega
    · obtain rfl : k = n := by omega
      have HE := Lib.hid (show Collected (delD L x) w (.returned (.slice (some ⟨g', 0, none⟩) O.length cap)) wr from by
        rw [← HB.out] at hrow hbel
        exact Grows.done ⟨g', cap, rfl, hrow, hbel⟩ (by rw [← hO, List.take_of_length_le (by rw [HN.out]; exact Nat.le_refl _)]))
      clear hO
      go_wp2
      go_ret
      exact HE.out

theorem neq_pair (a b : ByteArray) (w : World) : (binOp .neq 83 (.agg #[.string a, .string b]) (.agg #[.string a, .string b])).run Try.prog w = .ok (.bool false) w := by
  have hS : Try.prog.underlying 83 = some (.struct (Try.prog.fieldsOf 83)) := by kernel_rfl
  have hp : Try.prog.stoodInHeld 83 = false := by kernel_rfl
  have u9 := Try.underlying9
  rw [run_neq_struct, show (10000 : Nat) = 9999 + 1 from rfl, run_equalIn_agg w 9999 83 _ _ hS hp]
  simp only [Program.fieldsOf, Try.underlying83]
  go_simp

end Go.Proofs.Ytpnfbabiibopnaa
