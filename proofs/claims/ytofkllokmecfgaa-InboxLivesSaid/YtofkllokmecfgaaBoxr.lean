/-
  inbox's Push of a nil box, Empty and Take.
-/
import Derived.Test.YtofkllokmecfgaaBoxq
namespace Go.Proofs.Ytofkllokmecfgaa
open Go Go.RowKit
attribute [local go_sem ↓] Go.wp_at_zero Go.wp_at_succ

theorem push_nil (c : ChD) (W : World) : Calls Try.prog 10 #[.pointer none, .agg #[.string c.key, .bool c.has, .string c.val]] W (Says false W) := by
  obtain ⟨k, hs, v⟩ := c
  have HB := Lib.hid (below_alloc W (.cells #[.string k, .bool hs, .string v] 31))
  go_enter Try.func10, Try.ntmps10
  go_wp2_with fail
  go_ret
  exact Says.mk rfl HB.out

theorem take_nil (n : Int) (W : World) : Calls Try.prog 12 #[.pointer none, .int .i64 n] W fun e W' => e = .returned (.tuple #[.slice none 0 0, .bool false]) ∧ W = W' := by
  go_enter Try.func12, Try.ntmps12
  go_wp2_with fail
  go_ret2
  exact ⟨rfl, rfl⟩

/-- What Empty leaves. -/
def EmptiedR (B p most : Nat) (f : Nat → Prop) (W : World) (e : Ending) (W' : World) : Prop := ∃ f', e = .returned (.tuple #[]) ∧ Boxp W' B p most false [] f' ∧ Step f f' W W'
theorem empty_fin {W : World} {B p most : Nat} {ov : Bool} {L : List ChD} {f : Nat → Prop} {ev : Value} (h : BoxAt W B p most ov L f ev) :
    EmptiedR B p most f W (.returned (.tuple #[])) ((W.setCell ⟨p, 2, none⟩ (.slice none 0 0)).setCell ⟨p, 1, none⟩ (.bool false)) := by
  obtain ⟨_, f', h1, h2⟩ := h.list (W' := W) (r := none) (ev' := .slice none 0 0) (L' := []) ⟨rfl, rfl, rfl, Nat.le_refl _, fun _ _ _ => rfl⟩ (.inr rfl) (Lot.nil _ _ _) (fun k hk => by cases hk) (Nat.zero_le _)
  obtain ⟨h3, h4⟩ := h1.setOver false
  exact ⟨f', rfl, ⟨_, h3⟩, h2.trans h4⟩
theorem empty_any (B p most : Nat) (ov : Bool) (L : List ChD) (f : Nat → Prop) (W : World) (h : Boxp W B p most ov L f) :
    Calls Try.prog 14 #[.pointer (some ⟨p, 0, none⟩)] W (EmptiedR B p most f W) := by
  obtain ⟨ev, h⟩ := h
  obtain ⟨_, c1, c2, f1, f2⟩ := h.cells
  have HF := Lib.hid (empty_fin h)
  clear h
  go_enter Try.func14, Try.ntmps14
  go_wp2_with fail
  go_end0
  exact HF.out

/-- How many Take takes. -/
def takeN (n : Int) (m : Nat) : Nat := (min (max n 0) m).toNat
theorem takeN_le (n : Int) (m : Nat) : takeN n m ≤ m := by unfold takeN; omega

theorem take_gone (B p most : Nat) (n : Int) (f : Nat → Prop) (W : World) (h : Boxp W B p most true [] f) :
    Calls Try.prog 12 #[.pointer (some ⟨p, 0, none⟩), .int .i64 n] W fun e W' => e = .returned (.tuple #[.slice none 0 0, .bool false]) ∧ W = W' := by
  have HL := Lib.hid (len_any B p most true [] f W h)
  have HO := Lib.hid (over_any B p most true [] f W h)
  clear h
  go_enter Try.func12, Try.ntmps12
  go_wp2_with fail
  refine HL.out.mono ?_
  rintro en x1 ⟨rfl, rfl⟩
  go_wp2_with fail
  refine HO.out.mono ?_
  rintro en x1 ⟨rfl, rfl⟩
  go_wp2_with fail
  go_ret2
  exact ⟨rfl, rfl⟩

/-- What Take leaves. -/
def TakenR (B p most : Nat) (ov : Bool) (L : List ChD) (k : Nat) (f : Nat → Prop) (W : World) (e : Ending) (W' : World) : Prop :=
  ∃ q f', e = .returned (.tuple #[.slice q k k, .bool true]) ∧ Boxp W' B p most ov (L.drop k) f' ∧ Step f f' W W' ∧ Sc W' q (L.take k)

theorem take_zero {W : World} {B p most : Nat} {ov : Bool} {L : List ChD} {f : Nat → Prop} {a : Option Addr} {c k : Nat} (h : BoxAt W B p most ov L f (.slice a L.length c)) (hk : L.length = k) :
    TakenR B p most ov L k f W (.returned (.tuple #[.slice a k k, .bool true])) (W.setCell ⟨p, 2, none⟩ (.slice none 0 0)) := by
  have hd : L.drop k = [] := List.drop_of_length_le (by omega)
  obtain ⟨_, f', h1, h2⟩ := h.list (W' := W) (r := none) (ev' := .slice none 0 0) (L' := L.drop k) ⟨rfl, rfl, rfl, Nat.le_refl _, fun _ _ _ => rfl⟩ (.inr rfl) (by rw [hd]; exact Lot.nil _ _ _) (fun k hk => by cases hk) (by rw [hd]; exact Nat.zero_le _)
  have hl := h.lot.stays (W' := W.setCell ⟨p, 2, none⟩ (.slice none 0 0)) (fun j hj => Below.heap_setCell _ _ _ _ (fun e => h.ne (by rw [hj]; exact congrArg some e)))
  exact ⟨a, f', rfl, ⟨_, h1⟩, h2, (hl.sc rfl).take k⟩
theorem take_some {W w4 : World} {B p most : Nat} {ov : Bool} {L : List ChD} {f : Nat → Prop} {a : Option Addr} {c k j g cap : Nat} (h : BoxAt W B p most ov L f (.slice a L.length c)) (hk : j = (L.drop k).length)
    (hL : Lot w4 31 3 (.slice (some ⟨g, 0, none⟩) (0 + j) cap) (0 + j) ([] ++ flatC (L.drop k))) (hg : W.grownBy w4 (Value.slice none 0 0).ownBlock) (hat : (Value.slice none 0 0).ownBlock = some g ∨ g = W.heap.size) :
    w4.cell? ⟨p, 2, none⟩ = some (.slice a L.length c) ∧ w4.frozen? ⟨p, 2, none⟩ = false ∧ TakenR B p most ov L k f W (.returned (.tuple #[.slice a k k, .bool true])) (w4.setCell ⟨p, 2, none⟩ (.slice (some ⟨g, 0, none⟩) j cap)) := by
  rw [Nat.zero_add, List.nil_append] at hL
  subst hk
  obtain ⟨hp, f', h1, h2⟩ := h.list (ev' := .slice (some ⟨g, 0, none⟩) (L.drop k).length cap) (L' := L.drop k) hg (.inr rfl) hL
    (fun j hj => by
      obtain rfl : g = j := by simpa [Value.ownBlock] using hj
      rcases hat with h0 | h0
      · cases h0
      · exact .inr (Nat.le_of_eq h0.symm)) (by rw [List.length_drop]; have := h.len; omega)
  have hc := hp.trans h.own
  have hl := h.lot.stays (W' := w4.setCell ⟨p, 2, none⟩ (.slice (some ⟨g, 0, none⟩) (L.drop k).length cap)) (fun j hj => (Below.heap_setCell _ _ _ _ (fun e => h.ne (by rw [hj]; exact congrArg some e))).trans (hg.block j (h.lot.lt j hj) (fun e => by cases e)))
  exact ⟨(cell_of hc).trans rfl, by simp [World.frozen?, hc], a, f', rfl, ⟨_, h1⟩, h2, (hl.sc rfl).take k⟩

theorem Lot.form2 {W : World} {e : TypeId} {size n c : Nat} {a : Option Addr} {xs : List Value} (h : Lot W e size (.slice a n c) n xs) : a = none ∧ n = 0 ∧ c = 0 ∨ ∃ g, a = some ⟨g, 0, none⟩ := by
  rcases h.2 with ⟨hv, h0⟩ | ⟨g, cap, cur, hv, _⟩
  · simp only [Value.slice.injEq] at hv
    exact .inl ⟨hv.1, h0, hv.2.2⟩
  · simp only [Value.slice.injEq] at hv
    exact .inr ⟨g, hv.1⟩

set_option maxHeartbeats 1000000 in
theorem take_any (B p most : Nat) (ov : Bool) (L : List ChD) (n : Int) (f : Nat → Prop) (W : World) (h : Boxp W B p most ov L f) (hno : ov = true → L ≠ []) :
    Calls Try.prog 12 #[.pointer (some ⟨p, 0, none⟩), .int .i64 n] W (TakenR B p most ov L (takeN n L.length) f W) := by
  have HL := Lib.hid (len_any B p most ov L f W h)
  have HO := Lib.hid (over_any B p most ov L f W h)
  obtain ⟨ev, h⟩ := h
  have HB := Lib.hid h
  obtain ⟨a, c, rfl⟩ := h.form
  obtain ⟨_, c1, c2, f1, f2⟩ := h.cells
  have h64 := h.most64
  have hlen := h.len
  obtain ⟨hr1, hr2, hr3⟩ := h.lot.room
  have hmn : min (max n 0) (L.length : Int) = ((takeN n L.length : Nat) : Int) := by unfold takeN; omega
  have hkm := takeN_le n L.length
  obtain ⟨k, hk⟩ : ∃ k, takeN n L.length = k := ⟨_, rfl⟩
  obtain ⟨m, hm⟩ : ∃ m, L.length = m := ⟨_, rfl⟩
  rw [hk] at hmn hkm ⊢
  rw [hm] at hmn hkm c2 hlen hr1
  have HM := Lib.hid hm
  have HMn := Lib.hid hmn
  clear h hk
  rw [hm] at HL
  clear hm
  have hgo : m = 0 ∧ ov = false ∨ 0 < m := by
    by_cases h0 : m = 0
    · left
      refine ⟨h0, ?_⟩
      cases ov
      · rfl
      · have : L = [] := List.eq_nil_of_length_eq_zero (by rw [HM.out]; exact h0)
        exact absurd this (hno rfl)
    · exact .inr (by omega)
  clear hno
  have z1 : (0 : Int) ≤ (k : Int) := by omega
  have z2 : (k : Int) ≤ (m : Int) := by omega
  have z3 : (m : Int) ≤ (c : Int) := by omega
  have z4 : (k : Int) ≤ (c : Int) := by omega
  obtain ⟨i0, gi, gz0, gz1, gz2⟩ := info_parts info_change
  have HF := Lib.hid (fun W4 j g cap (hj : j = (L.drop k).length) => take_some (w4 := W4) (g := g) (cap := cap) HB.out hj)
  have HZ := Lib.hid (fun (e : m = k) => take_zero HB.out (HM.out.trans e))
  have HX := Lib.hid HB.out.lot.form2
  rw [HM.out] at HF HX
  clear hr3
  rcases HX.out with ⟨rfl, rfl, rfl⟩ | ⟨g, rfl⟩
  · obtain rfl : k = 0 := by omega
    have hm0 : min (max n 0) (0 : Int) = 0 := by omega
    have hZ := Lib.hid (HZ.out rfl)
    have hov : ov = false := by
      rcases hgo with ⟨_, h⟩ | h
      · exact h
      · omega
    subst hov
    clear hgo HX HZ HF hmn HMn HB
    go_enter Try.func12, Try.ntmps12
    go_wp2_with fail
    refine HL.out.mono ?_
    rintro en x1 ⟨rfl, rfl⟩
    go_wp2_with fail
    refine HO.out.mono ?_
    rintro en x1 ⟨rfl, rfl⟩
    go_wp2_with (at_builtin; refine wpList_append_zero rfl _ _ 26 rfl 31 i0 Try.underlying26 gi none none 0 0 _ rfl rfl (Nat.le_refl _) (fun _ => rfl) (Nat.zero_le _) ?_)
    go_ret2
    exact hZ.out
  · rcases hgo with ⟨h0, rfl⟩ | hp
    · have hz : ((m : Int) == 0) = true := by rw [beq_iff_eq]; omega
      clear h0
      go_enter Try.func12, Try.ntmps12
      go_wp2_with fail
      refine HL.out.mono ?_
      rintro en x1 ⟨rfl, rfl⟩
      go_wp2_with fail
      refine HO.out.mono ?_
      rintro en x1 ⟨rfl, rfl⟩
      by_cases hk : m = k
      · have hZ := Lib.hid (HZ.out hk)
        have hs : m - k = 0 := by omega
        clear hk HZ HF HX HM HMn
        by_cases hc : c = k
        · go_wp2_with (at_builtin; refine wpList_append_zero rfl _ _ 26 rfl 31 i0 Try.underlying26 gi none _ 0 0 _ rfl rfl (Nat.le_refl _) (fun _ => rfl) (Nat.zero_le _) ?_)
          go_ret2
          exact hZ.out
        · go_wp2_with (at_builtin; refine wpList_append_zero rfl _ _ 26 rfl 31 i0 Try.underlying26 gi none _ 0 0 _ rfl rfl (Nat.le_refl _) (fun _ => rfl) (Nat.zero_le _) ?_)
          go_ret2
          exact hZ.out
      · have hs : ¬ m - k = 0 := by omega
        have hc : ¬ c = k := by omega
        have hdl := Lib.hid (show (flatC (L.drop k)).length = (m - k) * 3 from by rw [flatC_length, List.length_drop, HM.out])
        have hj := Lib.hid (show m - k = (L.drop k).length from by rw [List.length_drop, HM.out])
        have hS := Lib.hid (show ∀ j u, (flatC (L.drop k))[j]? = some u → W.cell? ((⟨g, k * 3, none⟩ : Addr).add j) = some u from by
            have := ((HB.out.lot.sc rfl).drop k).news
            rwa [Nat.zero_add] at this)
        have hmx : 0 + (m - k) ≤ maxLen := by unfold maxLen; omega
        have hmb : (0 + (m - k)) * 40 ≤ 140737488355328 := by omega
        have hpos : 0 < m - k := by omega
        clear hk HZ HX HM HMn HB
        go_wp2_with (at_builtin; (refine wpList_append_lot _ rfl _ _ 26 rfl 31 i0 _ 3 40 Try.underlying26 gi gz0 gz1 gz2 rfl (.slice none 0 0) 0 [] rfl (Lot.nil _ _ _) ⟨g, k * 3, none⟩ (m - k) _ (flatC (L.drop k)) rfl hdl.out hS.out (flatC_one _) hpos hmx hmb _ rfl ?_; intro g4 cap w4 hL4 hg4 hat4; obtain ⟨m0, m1, hM⟩ := HF.out w4 _ g4 cap hj.out hL4 hg4 hat4; have HM := Lib.hid hM; clear hL4 hg4 hat4 hM))
        go_ret2
        exact HM.out
    · have hz : ((m : Int) == 0) = false := by rw [beq_eq_false_iff_ne]; omega
      go_enter Try.func12, Try.ntmps12
      go_wp2_with fail
      refine HL.out.mono ?_
      rintro en x1 ⟨rfl, rfl⟩
      by_cases hk : m = k
      · have hZ := Lib.hid (HZ.out hk)
        have hs : m - k = 0 := by omega
        clear hk HZ HF HX HM HMn
        by_cases hc : c = k
        · go_wp2_with (at_builtin; refine wpList_append_zero rfl _ _ 26 rfl 31 i0 Try.underlying26 gi none _ 0 0 _ rfl rfl (Nat.le_refl _) (fun _ => rfl) (Nat.zero_le _) ?_)
          go_ret2
          exact hZ.out
        · go_wp2_with (at_builtin; refine wpList_append_zero rfl _ _ 26 rfl 31 i0 Try.underlying26 gi none _ 0 0 _ rfl rfl (Nat.le_refl _) (fun _ => rfl) (Nat.zero_le _) ?_)
          go_ret2
          exact hZ.out
      · have hs : ¬ m - k = 0 := by omega
        have hc : ¬ c = k := by omega
        have hdl := Lib.hid (show (flatC (L.drop k)).length = (m - k) * 3 from by rw [flatC_length, List.length_drop, HM.out])
        have hj := Lib.hid (show m - k = (L.drop k).length from by rw [List.length_drop, HM.out])
        have hS := Lib.hid (show ∀ j u, (flatC (L.drop k))[j]? = some u → W.cell? ((⟨g, k * 3, none⟩ : Addr).add j) = some u from by
            have := ((HB.out.lot.sc rfl).drop k).news
            rwa [Nat.zero_add] at this)
        have hmx : 0 + (m - k) ≤ maxLen := by unfold maxLen; omega
        have hmb : (0 + (m - k)) * 40 ≤ 140737488355328 := by omega
        have hpos : 0 < m - k := by omega
        clear hk HZ HX HM HMn HB
        go_wp2_with (at_builtin; (refine wpList_append_lot _ rfl _ _ 26 rfl 31 i0 _ 3 40 Try.underlying26 gi gz0 gz1 gz2 rfl (.slice none 0 0) 0 [] rfl (Lot.nil _ _ _) ⟨g, k * 3, none⟩ (m - k) _ (flatC (L.drop k)) rfl hdl.out hS.out (flatC_one _) hpos hmx hmb _ rfl ?_; intro g4 cap w4 hL4 hg4 hat4; obtain ⟨m0, m1, hM⟩ := HF.out w4 _ g4 cap hj.out hL4 hg4 hat4; have HM := Lib.hid hM; clear hL4 hg4 hat4 hM))
        go_ret2
        exact HM.out

end Go.Proofs.Ytofkllokmecfgaa
