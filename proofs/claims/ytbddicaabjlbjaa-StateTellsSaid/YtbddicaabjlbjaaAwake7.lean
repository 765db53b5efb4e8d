/-
  Get; the chapter's example.
-/
import Derived.Test.YtbddicaabjlbjaaLaw7
namespace Go.Proofs.Ytbddicaabjlbjaa
open Go Go.RowKit

/-- What Get answers. -/
def StGot (L : Pairs) (x : ByteArray) (w : World) (e : Ending) (w' : World) : Prop := e = .returned (.tuple #[.string ((getD L x).getD ⟨#[]⟩), .bool (hasD L x)]) ∧ Below w.heap.size w w'

set_option maxHeartbeats 2000000 in
set_option maxRecDepth 100000 in
theorem get_any (p : Option Addr) (n c : Nat) (L : Pairs) (x : ByteArray) (w : World) (h : Sl w p L) (hnn : L.length = n) (hn : n ≤ 10000) :
    Calls Try.prog 16 #[.slice p n c, .string x] w (StGot L x w) := by
  have H := Lib.hid h
  have HN := Lib.hid hnn
  clear h hnn
  go_enter Try.func16, Try.ntmps16
  go_wp2
  go_loopw [10] (fun i wr => ∃ k : Nat, k ≤ n ∧ i = .int .i64 k ∧ Hid (NoneYet L x k) ∧ Hid (Below w.heap.size w wr)) (fun i _ => n - (intOf i).toNat)
  case atStart => exact ⟨0, Nat.zero_le _, rfl, fun t ht h0 => absurd h0 (Nat.not_lt_zero _), Below.refl _ _⟩
  case round =>
    obtain ⟨k, hk, rfl, HNo, HB⟩ := hrel
    by_cases hlt : k < n
    · have hltL : k < L.length := by rw [HN.out]; exact hlt
      obtain ⟨b, o, rfl, a1, a2⟩ := H.out k hltL
      have hbl := cell_lt a1
      have c1 := (HB.out.cell (p := ⟨b, _, none⟩) hbl).trans a1
      have c2 := (HB.out.cell (p := ⟨b, _, none⟩) hbl).trans a2
      have hroom := HB.out.size
      by_cases he : L[k].1 = x
      · have hg := getD_first L x k hltL HNo.out he
        have HE : Hid (∀ w', Below w.heap.size w w' → StGot L x w (.returned (.tuple #[.string L[k].2, .bool true])) w') := fun w' hb => ⟨by unfold hasD; rw [hg]; rfl, hb⟩
        have HBa := Lib.hid (HB.out.alloc hroom (.cells #[.string L[k].1, .string L[k].2] 34))
        obtain ⟨u, hu⟩ : ∃ u, L[k].2 = u := ⟨_, rfl⟩
        rw [hu] at c2 HE HBa
        rw [he] at c1 HBa
        clear hu he hg hltL a1 a2
        go_wp2
        go_ret2
        exact HE.out _ HBa.out
      · have hne := ne_bytes he
        have HX := Lib.hid (HNo.out.next hltL he)
        have HBa := Lib.hid (HB.out.alloc hroom (.cells #[.string L[k].1, .string L[k].2] 34))
        obtain ⟨u, hu⟩ : ∃ u, L[k].1 = u := ⟨_, rfl⟩
        obtain ⟨u2, hu2⟩ : ∃ u, L[k].2 = u := ⟨_, rfl⟩
        rw [hu] at c1 hne HBa
        rw [hu2] at c2 HBa
        clear hu hu2 he hltL a1 a2
        go_wp2
        go_roundw
        case rel => exact ⟨k + 1, by omega, by go_num, HX, HBa⟩
        case measure => simp [intOf]; omega
    · have HE := Lib.hid (show StGot L x w (.returned (.tuple #[.string ⟨#[]⟩, .bool false])) wr from by
        have hg : getD L x = none := getD_ne L x (fun q hq => by
          obtain ⟨t, ht, rfl⟩ := List.getElem_of_mem hq
          exact HNo.out t ht (by have := HN.out; omega))
        exact ⟨by unfold hasD; rw [hg]; rfl, HB.out⟩)
      go_wp2
      go_ret2
      exact HE.out

/-! ### the chapter's example -/
theorem lt_ab : lt ⟨#[97]⟩ ⟨#[98]⟩ = true := by unfold lt; rw [ByteArray.toList_eq, ByteArray.toList_eq]; decide
def exA : Pairs := [(⟨#[97]⟩, ⟨#[49]⟩), (⟨#[98]⟩, ⟨#[50]⟩)]
def exB : Pairs := [(⟨#[98]⟩, ⟨#[51]⟩)]
def exL : List ChD := [⟨⟨#[97]⟩, false, ⟨#[]⟩⟩, ⟨⟨#[98]⟩, true, ⟨#[51]⟩⟩]
theorem ex_riseA : Rise exA := by simp [Rise, exA, lt_ab]
theorem ex_riseB : Rise exB := by simp [Rise, exB]
theorem ex_diff : diffD exA exB = exL := by
  unfold diffD exA exB exL
  rw [bothD, if_pos lt_ab, bothD, if_neg (by rw [lt_irrefl]; exact Bool.false_ne_true), if_pos rfl, bothD, picked_cons, picked_cons]
  simp [yes, no, picked]
theorem ex_patch : patchD exA exL = exB := by rw [← ex_diff]; exact patch_back ex_riseA ex_riseB
theorem ex_norise : ¬ Rise [((⟨#[]⟩ : ByteArray), (⟨#[]⟩ : ByteArray)), (⟨#[]⟩, ⟨#[]⟩)] := by simp [Rise, lt_irrefl]

/-- What may be said of the world behind the call: true comes, and nothing that lay has turned. -/
def Yes (w : World) (e : Ending) (W' : World) : Prop := e = .returned (.bool true) ∧ Below w.heap.size w W'

theorem sl_one {w : World} {g : Nat} {a b : ByteArray} {t : TypeId} {fr : Nat × Nat} (h : w.heap[g]? = some (.cells #[.string a, .string b] t fr)) : Sl w (some ⟨g, 0, none⟩) [(a, b)] := by
  intro j hj
  obtain rfl : j = 0 := by simpa using hj
  exact ⟨g, 0, rfl, cell_at h 0, cell_at h 1⟩
theorem sl_two {w : World} {g : Nat} {a b c d : ByteArray} {t : TypeId} {fr : Nat × Nat} (h : w.heap[g]? = some (.cells #[.string a, .string b, .string c, .string d] t fr)) : Sl w (some ⟨g, 0, none⟩) [(a, b), (c, d)] := by
  intro j hj
  have hj2 : j < 2 := by simpa using hj
  rcases (show j = 0 ∨ j = 1 by omega) with rfl | rfl
  · exact ⟨g, 0, rfl, cell_at h 0, cell_at h 1⟩
  · exact ⟨g, 0, rfl, cell_at h 2, cell_at h 3⟩
theorem sc_two {w : World} {g : Nat} {a c a' c' : ByteArray} {b b' : Bool} {t : TypeId} {fr : Nat × Nat} (h : w.heap[g]? = some (.cells #[.string a, .bool b, .string c, .string a', .bool b', .string c'] t fr)) : Sc w (some ⟨g, 0, none⟩) [⟨a, b, c⟩, ⟨a', b', c'⟩] := by
  intro j hj
  have hj2 : j < 2 := by simpa using hj
  rcases (show j = 0 ∨ j = 1 by omega) with rfl | rfl
  · exact ⟨g, 0, rfl, cell_at h 0, cell_at h 1, cell_at h 2⟩
  · exact ⟨g, 0, rfl, cell_at h 3, cell_at h 4, cell_at h 5⟩

set_option maxRecDepth 100000 in
set_option maxHeartbeats 4000000 in
theorem awake_any (w : World) : Calls Try.prog 6 #[] w (Yes w) := by
  go_enter Try.func6, Try.ntmps6
  go_wp2_with fail
  have a0 := heap_alloc2_old w (.cells #[.string ⟨#[97]⟩, .string ⟨#[49]⟩, .string ⟨#[98]⟩, .string ⟨#[50]⟩] 34) (.cells #[.string ⟨#[98]⟩, .string ⟨#[51]⟩] 34)
  have a1 := heap_alloc2_new w (.cells #[.string ⟨#[97]⟩, .string ⟨#[49]⟩, .string ⟨#[98]⟩, .string ⟨#[50]⟩] 34) (.cells #[.string ⟨#[98]⟩, .string ⟨#[51]⟩] 34)
  have hb2 : Below w.heap.size w ((w.alloc (.cells #[.string ⟨#[97]⟩, .string ⟨#[49]⟩, .string ⟨#[98]⟩, .string ⟨#[50]⟩] 34)).alloc (.cells #[.string ⟨#[98]⟩, .string ⟨#[51]⟩] 34)) :=
    ((Below.refl _ w).alloc (Nat.le_refl _) _).alloc (by simp) _
  have hsz2 : ((w.alloc (.cells #[.string ⟨#[97]⟩, .string ⟨#[49]⟩, .string ⟨#[98]⟩, .string ⟨#[50]⟩] 34)).alloc (.cells #[.string ⟨#[98]⟩, .string ⟨#[51]⟩] 34)).heap.size = w.heap.size + 1 + 1 := by simp
  obtain ⟨w2, hw2⟩ : ∃ w2, ((w.alloc (.cells #[.string ⟨#[97]⟩, .string ⟨#[49]⟩, .string ⟨#[98]⟩, .string ⟨#[50]⟩] 34)).alloc (.cells #[.string ⟨#[98]⟩, .string ⟨#[51]⟩] 34)) = w2 := ⟨_, rfl⟩
  rw [hw2] at a0 a1 hb2 hsz2 ⊢
  obtain ⟨B, hB⟩ : ∃ B, w.heap.size = B := ⟨_, rfl⟩
  have HBw := Lib.hid hB
  rw [hB] at a0 a1 hb2 hsz2 ⊢
  clear hw2 hB
  have A0 := Lib.hid a0
  have A1 := Lib.hid a1
  have HB2 := Lib.hid hb2
  have HZ2 := Lib.hid hsz2
  clear a0 a1 hb2 hsz2
  refine (diff_calls (some ⟨B, 0, none⟩) (some ⟨B + 1, 0, none⟩) 2 1 2 1 exA exB w2 rfl rfl (Nat.le_refl _) (Nat.le_refl _) (sl_two A0.out) (sl_one A1.out) ex_riseA ex_riseB (by omega) (by omega)).mono ?_
  rw [ex_diff]
  rintro e w3 ⟨v3, rfl, hr3, hb3⟩
  obtain ⟨p3, c3, rfl, hc3, hs3, _⟩ := Sc.of_row hr3
  have HS3 := Lib.hid hs3
  have h23 := hb3.size
  have HB3 := Lib.hid (HB2.out.trans (hb3.mono (by rw [HZ2.out]; omega)))
  have A3 := Lib.hid ((hb3.block B (by rw [HZ2.out]; omega)).trans A0.out)
  have A3' := Lib.hid ((hb3.block (B + 1) (by rw [HZ2.out]; omega)).trans A1.out)
  have hB3 : B + 1 < w3.heap.size := by rw [HZ2.out] at h23; omega
  change 2 ≤ c3 at hc3
  clear hr3 hb3 hs3 h23
  rw [show exL.length = 2 from rfl]
  go_wp2_with fail
  have a4 := heap_alloc_new w3 (.cells #[.string ⟨#[97]⟩, .bool false, .string ⟨#[]⟩, .string ⟨#[98]⟩, .bool true, .string ⟨#[51]⟩] 38)
  have hb4 : Below w3.heap.size w3 (w3.alloc (.cells #[.string ⟨#[97]⟩, .bool false, .string ⟨#[]⟩, .string ⟨#[98]⟩, .bool true, .string ⟨#[51]⟩] 38)) := (Below.refl _ w3).alloc (Nat.le_refl _) _
  obtain ⟨w4, hw4⟩ : ∃ w4, w3.alloc (.cells #[.string ⟨#[97]⟩, .bool false, .string ⟨#[]⟩, .string ⟨#[98]⟩, .bool true, .string ⟨#[51]⟩] 38) = w4 := ⟨_, rfl⟩
  rw [hw4] at a4 hb4 ⊢
  clear hw4
  have HS4 := Lib.hid (HS3.out.grow hb4)
  have HL4 := Lib.hid (show Sc w4 (some ⟨w3.heap.size, 0, none⟩) exL from sc_two a4)
  have HB4 := Lib.hid (HB3.out.trans (hb4.mono (by omega)))
  have A4 := Lib.hid ((hb4.block B (by omega)).trans A3.out)
  have A4' := Lib.hid ((hb4.block (B + 1) (by omega)).trans A3'.out)
  have hB4 : B + 1 < w4.heap.size := Nat.lt_of_lt_of_le hB3 hb4.size
  clear a4 hb4 HS3 A3 A3' HB3
  refine (sameC_yes p3 _ 2 c3 2 exL w4 HS4.out HL4.out rfl (by omega)).mono ?_
  rintro e w' ⟨rfl, q, rfl⟩
  have hd5 : Below w4.heap.size w4 (w4.drewN q) := ⟨rfl, rfl, rfl, Nat.le_refl _, fun _ _ => rfl⟩
  have A5 : Hid ((w4.drewN q).heap[B]? = some (.cells #[.string ⟨#[97]⟩, .string ⟨#[49]⟩, .string ⟨#[98]⟩, .string ⟨#[50]⟩] 34 (0, 0))) := A4.out
  have A5' : Hid ((w4.drewN q).heap[B + 1]? = some (.cells #[.string ⟨#[98]⟩, .string ⟨#[51]⟩] 34 (0, 0))) := A4'.out
  have HS5 := Lib.hid (HS4.out.grow hd5)
  have HB5 := Lib.hid (HB4.out.trans (hd5.mono (by omega)))
  have hB5 : B + 1 < (w4.drewN q).heap.size := hB4
  obtain ⟨w5, hw5⟩ : ∃ w5, w4.drewN q = w5 := ⟨_, rfl⟩
  rw [hw5] at A5 A5' HS5 HB5 hB5 ⊢
  clear hw5 hd5 A4 A4' HS4 HL4 HB4
  go_wp2_with fail
  refine (patch_calls (some ⟨B, 0, none⟩) p3 2 2 2 c3 exA exL w5 rfl rfl (Nat.le_refl _) (sl_two A5.out) HS5.out ex_riseA (by omega) (by omega) (fun q hq => by
    simp only [exA, List.mem_cons, List.not_mem_nil, or_false] at hq
    rcases hq with rfl | rfl <;> decide) (fun c hc => by
    simp only [exL, List.mem_cons, List.not_mem_nil, or_false] at hc
    rcases hc with rfl | rfl <;> decide)).mono ?_
  rw [ex_patch]
  rintro e w6 ⟨g6, c6, rfl, hr6, hb6⟩
  have HL6 := Lib.hid (Lies.of_row hr6)
  have HB6 := Lib.hid (HB5.out.trans (hb6.mono (by omega)))
  have A6 := Lib.hid ((hb6.block B (by omega)).trans A5.out)
  have A6' := Lib.hid ((hb6.block (B + 1) (by omega)).trans A5'.out)
  have hB6 : B + 1 < w6.heap.size := Nat.lt_of_lt_of_le hB5 hb6.size
  clear hr6 hb6 A5 A5' HS5 HB5
  rw [show exB.length = 1 from rfl]
  go_wp2_with fail
  refine (same_yes g6 c6 (B + 1) 1 exB w6 HL6.out (fun j hj => by
    obtain rfl : j = 0 := by simpa [exB] using hj
    exact ⟨cell_at A6'.out 0, cell_at A6'.out 1⟩) (by simp [exB])).mono ?_
  rintro e w' ⟨rfl, q6, rfl⟩
  have hd7 : Below w6.heap.size w6 (w6.drewN q6) := ⟨rfl, rfl, rfl, Nat.le_refl _, fun _ _ => rfl⟩
  have A7 : Hid ((w6.drewN q6).heap[B]? = some (.cells #[.string ⟨#[97]⟩, .string ⟨#[49]⟩, .string ⟨#[98]⟩, .string ⟨#[50]⟩] 34 (0, 0))) := A6.out
  have HB7 := Lib.hid (HB6.out.trans (hd7.mono (by omega)))
  have hB7 : B + 1 < (w6.drewN q6).heap.size := hB6
  obtain ⟨w7, hw7⟩ : ∃ w7, w6.drewN q6 = w7 := ⟨_, rfl⟩
  rw [hw7] at A7 HB7 hB7 ⊢
  clear hw7 hd7 A6 A6' HL6 HB6
  go_wp2_with fail
  refine (right_any (some ⟨B, 0, none⟩) 2 exA w7 (sl_two A7.out) (by simp [exA])).mono ?_
  rintro e w' ⟨b8, rfl, hb8, q8, rfl⟩
  obtain rfl : b8 = true := hb8.2 ex_riseA
  clear hb8
  have hd8 : Below w7.heap.size w7 (w7.drewN q8) := ⟨rfl, rfl, rfl, Nat.le_refl _, fun _ _ => rfl⟩
  have HB8 := Lib.hid (HB7.out.trans (hd8.mono (by omega)))
  have hB8 : B + 1 < (w7.drewN q8).heap.size := hB7
  obtain ⟨w8, hw8⟩ : ∃ w8, w7.drewN q8 = w8 := ⟨_, rfl⟩
  rw [hw8] at HB8 hB8 ⊢
  clear hw8 hd8 HB7
  go_wp2_with fail
  have a9 := heap_alloc_new w8 (.cells #[.string ⟨#[]⟩, .string ⟨#[]⟩, .string ⟨#[]⟩, .string ⟨#[]⟩] 34)
  have hb9 : Below w8.heap.size w8 (w8.alloc (.cells #[.string ⟨#[]⟩, .string ⟨#[]⟩, .string ⟨#[]⟩, .string ⟨#[]⟩] 34)) := (Below.refl _ w8).alloc (Nat.le_refl _) _
  have HB9 := Lib.hid (HB8.out.trans (hb9.mono (by omega)))
  refine (right_any (some ⟨w8.heap.size, 0, none⟩) 2 [((⟨#[]⟩ : ByteArray), (⟨#[]⟩ : ByteArray)), (⟨#[]⟩, ⟨#[]⟩)] _ (sl_two a9) (by simp)).mono ?_
  rintro e w' ⟨b9, rfl, hb9', q9, rfl⟩
  obtain rfl : b9 = false := by
    cases b9 with
    | false => rfl
    | true => exact absurd (hb9'.1 rfl) ex_norise
  clear hb9' a9 hb9
  have HB10 : Hid (∀ w', Below B (w8.alloc (.cells #[.string ⟨#[]⟩, .string ⟨#[]⟩, .string ⟨#[]⟩, .string ⟨#[]⟩] 34)) w' → Below w.heap.size w w') := fun w' h => by rw [HBw.out]; exact HB9.out.trans h
  clear HB9 HB8
  go_wp2_with fail
  go_ret
  exact ⟨rfl, HB10.out _ ⟨rfl, rfl, rfl, Nat.le_refl _, fun _ _ => rfl⟩⟩

end Go.Proofs.Ytbddicaabjlbjaa
