/-
  Undo; the law's own State; rows of changes held against each other; Get; the chapter's example.
-/
import Derived.Test.YtbddicaabjlbjaaPatch
import Derived.Test.YtbddicaabjlbjaaRefput
import Derived.StillTailTactics
namespace Go.Proofs.Ytbddicaabjlbjaa
open Go Go.RowKit

theorem ownsRow_base {W : World} {base base' size n : Nat} {e : TypeId} {v : Value} {xs : List Value} (h : W.ownsRow base e size v n xs) (hb : base' ≤ base) : W.ownsRow base' e size v n xs := by
  refine ⟨h.1, ?_⟩
  rcases h.2 with hn | ⟨g, cap, cur, rfl, hbg, rest⟩
  · exact .inl hn
  · exact .inr ⟨g, cap, cur, rfl, Nat.le_trans hb hbg, rest⟩

theorem Collected.cap {L : Pairs} {W : World} {base g cap : Nat} (h : W.ownsRow base 34 2 (.slice (some ⟨g, 0, none⟩) L.length cap) L.length (flat L)) : L.length ≤ cap := by
  rcases h.2 with ⟨h0, _⟩ | ⟨g', cap', cur, hv, _, _, hnc, _⟩
  · cases h0
  · obtain ⟨_, rfl⟩ : g = g' ∧ cap = cap' := by simpa using hv
    exact hnc

theorem undo_any (pa pc : Option Addr) (na nl ca cl : Nat) (A : Pairs) (L : List ChD) (w : World) (hna : A.length = na) (hnl : L.length = nl) (hca : na ≤ ca) (hSA : Sl w pa A) (hSL : Sc w pc L) (hRA : Rise A) (hla : na ≤ 4000) (hll : nl ≤ 4000)
    (hkA : ∀ q ∈ A, q.1.size ≤ 281474976710656) (hkL : ∀ c ∈ L, c.key.size ≤ 281474976710656) :
    Calls Try.prog 15 #[.slice pa na ca, .slice pc nl cl] w (CollC (diffD (patchD A L) A) w) := by
  have HP := Lib.hid (patch_calls pa pc na nl ca cl A L w hna hnl hca hSA hSL hRA hla hll hkA hkL)
  have hlen : (patchD A L).length ≤ 8000 := by have := length_patch L A; omega
  have HD := Lib.hid (fun g cap w1 (hc : (patchD A L).length ≤ cap) (hb : Below w.heap.size w w1) (hs : Sl w1 (some ⟨g, 0, none⟩) (patchD A L)) => diff_calls (some ⟨g, 0, none⟩) pa (patchD A L).length na cap ca (patchD A L) A w1 rfl hna hc hca hs (hSA.grow hb) (Rise.patch L hRA) hRA (by omega) (by omega))
  clear hna hnl hSA hSL hRA hkA hkL
  go_enter Try.func15, Try.ntmps15
  go_wp2_with fail
  refine HP.out.mono ?_
  rintro e w1 ⟨g, cap, rfl, hr, hb⟩
  have HC := Lib.hid (HD.out g cap w1 (Collected.cap hr) hb (Lies.of_row hr).sl)
  have HB := Lib.hid hb
  clear hr hb
  go_wp2_with fail
  refine HC.out.mono ?_
  rintro e w2 ⟨v, rfl, hr, hb⟩
  have HE := Lib.hid (show CollC (diffD (patchD A L) A) w (.returned v) w2 from ⟨v, rfl, ownsRow_base hr HB.out.size, HB.out.trans (hb.mono HB.out.size)⟩)
  clear hr hb
  go_wp2_with fail
  go_ret
  exact HE.out

set_option maxHeartbeats 2000000 in
set_option maxRecDepth 100000 in
theorem sameC_yes (p1 p2 : Option Addr) (n c1 c2 : Nat) (L : List ChD) (w : World) (h1 : Sc w p1 L) (h2 : Sc w p2 L) (hnn : L.length = n) (hn : n ≤ 100000) :
    Calls Try.prog 9 #[.slice p1 n c1, .slice p2 n c2] w fun e w' => e = .returned (.bool true) ∧ ∃ q, w' = w.drewN q := by
  have H1 := Lib.hid h1
  have H2 := Lib.hid h2
  have HN := Lib.hid hnn
  clear h1 h2 hnn
  go_enter Try.func9, Try.ntmps9
  go_wp2
  go_loopw [5] (fun i wr => ∃ k q : Nat, k ≤ n ∧ i = .int .i64 k ∧ wr = w.drewN q) (fun i _ => n - (intOf i).toNat)
  case atStart => exact ⟨0, 0, Nat.zero_le _, rfl, rfl⟩
  case round =>
    obtain ⟨k, q, hk, rfl, rfl⟩ := hrel
    by_cases hlt : k < n
    · have hltL : k < L.length := by rw [HN.out]; exact hlt
      obtain ⟨b1, o1, rfl, a1, a2, a3⟩ := H1.out k hltL
      obtain ⟨b2, o2, rfl, e1, e2, e3⟩ := H2.out k hltL
      obtain ⟨⟨xk, xh, xv⟩, hx⟩ : ∃ x, L[k] = x := ⟨_, rfl⟩
      rw [hx] at a1 a2 a3 e1 e2 e3
      have hneq := neq_change ⟨xk, xh, xv⟩ ⟨xk, xh, xv⟩
      rw [decide_eq_true rfl] at hneq
      simp only [Bool.not_true] at hneq
      clear hx hltL
      go_wp2_with fail
      go_quiet (fail)
      go_wp2
      go_roundw
      case rel => exact ⟨k + 1, _, by omega, by go_num, rfl⟩
      case measure => simp [intOf]; omega
    · go_wp2
      go_ret
      exact ⟨rfl, q, rfl⟩

/-! ### the law's State -/
def stateD (X : Pairs) : Pairs := X.foldl (fun D p => putD D p.1 p.2) []
theorem stateD_snoc (X : Pairs) (k : Nat) (h : k < X.length) : stateD (X.take (k + 1)) = putD (stateD (X.take k)) X[k].1 X[k].2 := by
  unfold stateD
  rw [List.take_succ_eq_append_getElem h, List.foldl_append]; rfl
theorem stateD_rise (X : Pairs) : Rise (stateD X) := by
  unfold stateD
  suffices h : ∀ (X D : Pairs), Rise D → Rise (X.foldl (fun D p => putD D p.1 p.2) D) from h X [] Rise.nil
  intro X
  induction X with
  | nil => intro D h; exact h
  | cons p r ih => intro D h; exact ih _ (h.put _ _)
theorem stateD_length (X : Pairs) : (stateD X).length ≤ X.length := by
  unfold stateD
  suffices h : ∀ (X D : Pairs), (X.foldl (fun D p => putD D p.1 p.2) D).length ≤ D.length + X.length from by simpa using h X []
  intro X
  induction X with
  | nil => intro D; simp
  | cons p r ih => intro D; have h1 := ih (putD D p.1 p.2); have h2 := length_putD D p.1 p.2; simp only [List.foldl_cons, List.length_cons]; omega
theorem stateD_keys {P : ByteArray → Prop} (X : Pairs) (hX : ∀ p ∈ X, P p.1) : ∀ q ∈ stateD X, P q.1 := by
  unfold stateD
  suffices h : ∀ (X D : Pairs), (∀ p ∈ X, P p.1) → (∀ p ∈ D, P p.1) → ∀ q ∈ X.foldl (fun D p => putD D p.1 p.2) D, P q.1 from h X [] hX (fun _ h => by cases h)
  intro X
  induction X with
  | nil => intro D _ hD; exact hD
  | cons p r ih =>
    intro D hX hD
    refine ih _ (fun q hq => hX q (by simp [hq])) (fun q hq => ?_)
    rcases mem_putD hq with rfl | hq
    · exact hX p (by simp)
    · exact hD q hq

/-- How much of a state has come. -/
def UptoS (n : Nat) (w : World) (X : Pairs) (m i : Value) (W : World) : Prop :=
  ∃ (k g cap : Nat), k ≤ n ∧ i = .int .i64 k ∧ m = .slice (some ⟨g, 0, none⟩) (stateD (X.take k)).length cap ∧ W.ownsRow w.heap.size 34 2 (.slice (some ⟨g, 0, none⟩) (stateD (X.take k)).length cap) (stateD (X.take k)).length (flat (stateD (X.take k))) ∧ Below w.heap.size w W

set_option maxHeartbeats 2000000 in
set_option maxRecDepth 100000 in
theorem state_any (p : Option Addr) (n c : Nat) (X : Pairs) (w : World) (h : Sl w p X) (hnn : X.length = n) (hn : n ≤ 9000) :
    Calls Try.prog 18 #[.slice p n c] w (Collected (stateD X) w) := by
  have hmix : Try.prog.follows .mixedOrders = true := by kernel_rfl
  have H := Lib.hid h
  have HN := Lib.hid hnn
  clear h hnn
  have H0 := Lib.hid (show UptoS n w X (.slice (some ⟨w.heap.size, 0, none⟩) 0 0) (.int .i64 0) (w.alloc (.cells #[] 34)) from
    ⟨0, w.heap.size, 0, Nat.zero_le _, rfl, rfl, World.ownsRow_made w #[] 0 (Nat.le_refl _) (by simp [maxLen]) rfl, (Below.refl _ w).alloc (Nat.le_refl _) _⟩)
  go_enter Try.func18, Try.ntmps18
  go_wp2
  go_loopw [3, 4] (fun m i wr => UptoS n w X m i wr) (fun _ i _ => n - (intOf i).toNat)
  case atStart => exact H0.out
  case round =>
    clear H0
    obtain ⟨k, g, cap, hk, rfl, rfl, hr, hb⟩ := hrel
    have hDl : (stateD (X.take k)).length ≤ 9000 := Nat.le_trans (stateD_length _) (by rw [List.length_take]; omega)
    have hRD := stateD_rise (X.take k)
    by_cases hlt : k < n
    · have hltX : k < X.length := by rw [HN.out]; exact hlt
      obtain ⟨b, o, rfl, a1, a2⟩ := H.out k hltX
      have hbl := cell_lt a1
      have d1 := (hb.cell (p := ⟨b, _, none⟩) hbl).trans a1
      have d2 := (hb.cell (p := ⟨b, _, none⟩) hbl).trans a2
      have hs := stateD_snoc X k hltX
      obtain ⟨⟨x, y⟩, hxy⟩ : ∃ q, X[k] = q := ⟨_, rfl⟩
      rw [hxy] at d1 d2 hs
      obtain ⟨D, hD⟩ : ∃ D, stateD (X.take k) = D := ⟨_, rfl⟩
      obtain ⟨D', hD'⟩ : ∃ D, stateD (X.take (k + 1)) = D := ⟨_, rfl⟩
      rw [hD] at hr hDl hRD hs ⊢
      rw [hD'] at hs
      have HD' := Lib.hid hD'
      obtain ⟨hL, hgB, hgl⟩ := (show Lies wr g D ∧ w.heap.size ≤ g ∧ g < wr.heap.size from ⟨Lies.of_row hr, (hr.lt g rfl).1, (hr.lt g rfl).2⟩)
      have HPut := Lib.hid (refput_any g cap D x y wr.drew (hL.stays rfl) hgl hRD (by omega))
      have HB := Lib.hid hb
      have HS := Lib.hid hs
      obtain ⟨m, hm⟩ : ∃ m, D.length = m := ⟨_, rfl⟩
      rw [hm] at HPut hDl ⊢
      clear a1 a2 hxy hD hD' hL hgB hgl hr hb hs hRD hltX hbl hm
      go_wp2_with fail
      go_still_tail 11, hmix
      change wpList _ _ _ _ _ wr.drew
      go_wp2_with fail
      refine HPut.out.mono ?_
      rintro e w2 ⟨g2, cap2, rfl, hr2, hb2⟩
      have hb3 : Below wr.heap.size wr w2 := ⟨hb2.os, hb2.tape, hb2.output, hb2.size, hb2.block⟩
      have HR2 := Lib.hid (show w2.ownsRow w.heap.size 34 2 (.slice (some ⟨g2, 0, none⟩) (putD D x y).length cap2) (putD D x y).length (flat (putD D x y)) from ownsRow_base hr2 (by show w.heap.size ≤ wr.heap.size; exact HB.out.size))
      have HB3 := Lib.hid (HB.out.trans (hb3.mono HB.out.size))
      clear hr2 hb2 hb3 HPut
      go_wp2_with fail
      go_roundw
      case rel =>
        refine ⟨k + 1, g2, cap2, by omega, by go_num, ?_, ?_, HB3.out⟩
        · rw [HD'.out, HS.out]
        · rw [HD'.out, HS.out]; exact HR2.out
      case measure => simp [intOf]; omega
    · obtain rfl : k = n := by omega
      rw [List.take_of_length_le (by rw [HN.out]; exact Nat.le_refl _)] at hr ⊢
      have HE := Lib.hid (show Collected (stateD X) w (.returned (.slice (some ⟨g, 0, none⟩) (stateD X).length cap)) wr from ⟨g, cap, rfl, hr, hb⟩)
      clear hr hb hRD
      go_wp2
      go_ret
      exact HE.out

end Go.Proofs.Ytbddicaabjlbjaa
