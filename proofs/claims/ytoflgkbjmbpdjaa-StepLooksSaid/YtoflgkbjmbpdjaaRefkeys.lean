/-
  The reference's Insert, Writes, Keys, Texts; the law's own helpers.
-/
import Derived.Test.YtoflgkbjmbpdjaaRefsame
namespace Go.Proofs.Ytoflgkbjmbpdjaa
open Go Go.RowKit

/-- At p, a slice's address, lie the keys L. -/
def Sk (W : World) (p : Option Addr) (L : List ByteArray) : Prop := ∀ j (h : j < L.length), ∃ b o, p = some ⟨b, o, none⟩ ∧ W.cell? ⟨b, o + j, none⟩ = some (.string L[j])
theorem Sk.grow {W W' : World} {p : Option Addr} {L : List ByteArray} (h : Sk W p L) (hb : Below W.heap.size W W') : Sk W' p L := fun j hj => by
  obtain ⟨b, o, rfl, c1⟩ := h j hj
  exact ⟨b, o, rfl, (hb.cell (p := ⟨b, _, none⟩) (cell_lt c1)).trans c1⟩
theorem Sk.nil (W : World) (p : Option Addr) : Sk W p [] := fun _ h => absurd h (Nat.not_lt_zero _)
theorem Sk.of_row {W : World} {B g cap : Nat} {L : List ByteArray} (h : W.ownsRow B 9 1 (.slice (some ⟨g, 0, none⟩) L.length cap) L.length (L.map Value.string)) : Sk W (some ⟨g, 0, none⟩) L := fun j hj => by
  refine ⟨g, 0, rfl, ?_⟩
  have := h.cells (g := g) rfl j (.string L[j]) (by simp [List.getElem?_eq_getElem hj])
  rwa [Addr.add_lit] at this

/-! ### the reference's Insert, round by round -/
def insStep (key : ByteArray) (s : List ByteArray × Bool) (x : ByteArray) : List ByteArray × Bool :=
  let s' := if !s.2 && !lt x key then (s.1 ++ [key], true) else s
  if x = key then s' else (s'.1 ++ [x], s'.2)
def insF (key : ByteArray) (L : List ByteArray) : List ByteArray × Bool := L.foldl (insStep key) ([], false)
theorem insF_snoc (key : ByteArray) (L : List ByteArray) (x : ByteArray) : insF key (L ++ [x]) = insStep key (insF key L) x := by simp [insF]
def pr (L : List ByteArray) : Pairs := L.map fun k => (k, ⟨#[]⟩)
theorem keysOf_pr : ∀ L : List ByteArray, keysOf (pr L) = L
  | [] => rfl
  | a :: r => congrArg (a :: ·) (keysOf_pr r)
theorem insF_gen (key : ByteArray) : ∀ (L : List ByteArray) (s : Pairs × Bool), L.foldl (insStep key) (keysOf s.1, s.2) = (keysOf ((pr L).foldl (putStep key ⟨#[]⟩) s).1, ((pr L).foldl (putStep key ⟨#[]⟩) s).2)
  | [], _ => rfl
  | x :: L, s => by
    have e : insStep key (keysOf s.1, s.2) x = (keysOf (putStep key ⟨#[]⟩ s (x, ⟨#[]⟩)).1, (putStep key ⟨#[]⟩ s (x, ⟨#[]⟩)).2) := by
      obtain ⟨D, d⟩ := s
      unfold insStep putStep
      cases d <;> cases lt x key <;> by_cases h : x = key <;> simp [h, keysOf]
    rw [List.foldl_cons, e, insF_gen key L]; rfl
theorem insF_eq (key : ByteArray) (L : List ByteArray) : insF key L = (keysOf (putFold key ⟨#[]⟩ (pr L)).1, (putFold key ⟨#[]⟩ (pr L)).2) := insF_gen key L ([], false)
theorem insF_len (key : ByteArray) (L : List ByteArray) : (insF key L).1.length ≤ 2 * L.length := by
  rw [insF_eq]
  have := putFold_len key ⟨#[]⟩ (pr L)
  simpa [keysOf, pr] using this
theorem ins_end {key : ByteArray} {L : List ByteArray} (hR : RiseK L) : (if (insF key L).2 then (insF key L).1 else (insF key L).1 ++ [key]) = onceD (L ++ [key]) := by
  have hRi : Rise (pr L) := List.pairwise_map.2 hR
  have h1 := putFold_eq key ⟨#[]⟩ hRi
  have h2 : (if (insF key L).2 then (insF key L).1 else (insF key L).1 ++ [key]) = keysOf (putD (pr L) key ⟨#[]⟩) := by
    rw [← h1, insF_eq]
    unfold putEnd
    cases (putFold key ⟨#[]⟩ (pr L)).2 <;> simp [keysOf]
  rw [h2]
  refine onceD_eq (riseK_keysOf (hRi.put _ _)) fun k => ?_
  unfold keysOf
  rw [List.mem_map, mem_putD_key, List.mem_append, List.mem_singleton]
  constructor
  · rintro (h | ⟨p, hp, rfl⟩)
    · exact .inr h
    · obtain ⟨x, hx, rfl⟩ := List.mem_map.1 hp
      exact .inl hx
  · rintro (h | h)
    · exact .inr ⟨(k, ⟨#[]⟩), List.mem_map.2 ⟨k, h, rfl⟩, rfl⟩
    · exact .inl h

/-- What the loops that collect know of the slice that they grow. -/
def GrowsK (B : Nat) (w0 : World) (L : List ByteArray) (o : Value) (W : World) : Prop :=
  ∃ g cap, o = .slice (some ⟨g, 0, none⟩) L.length cap ∧ W.ownsRow B 9 1 (.slice (some ⟨g, 0, none⟩) L.length cap) L.length (L.map Value.string) ∧ Below B w0 W
theorem GrowsK.mk0 {w : World} : GrowsK w.heap.size w [] (.slice (some ⟨w.heap.size, 0, none⟩) 0 0) (w.alloc (.cells #[] 9)) :=
  ⟨w.heap.size, 0, rfl, World.ownsRow_made w #[] 0 (Nat.le_refl _) (by simp [maxLen]) rfl, (Below.refl _ w).alloc (Nat.le_refl _) _⟩
theorem GrowsK.done {B : Nat} {w W : World} {L O : List ByteArray} {o : Value} (h : GrowsK B w O o W) (e : O = L) : Keyed L B w (.returned o) W := by
  subst e
  obtain ⟨g, cap, rfl, hr, hb⟩ := h
  exact ⟨g, cap, rfl, hr, hb⟩
theorem GrowsK.of {B m : Nat} {w0 W : World} {O O' : List ByteArray} {g cap : Nat} (hm : Hid (O.length = m)) (e : O = O') (hr : W.ownsRow B 9 1 (.slice (some ⟨g, 0, none⟩) m cap) m (O.map Value.string)) (hb : Below B w0 W) : GrowsK B w0 O' (.slice (some ⟨g, 0, none⟩) m cap) W := by
  have hm' := hm.out
  subst hm' e
  exact ⟨g, cap, rfl, hr, hb⟩
theorem grown_str {B m : Nat} {w0 W w1 : World} {O : List ByteArray} {g cap : Nat} {v' : Value} {a : ByteArray} {tmp : Obj} (hm : Hid (O.length = m)) (hB : B ≤ W.heap.size) (hr : W.ownsRow B 9 1 (.slice (some ⟨g, 0, none⟩) m cap) m (O.map Value.string)) (hb : Below B w0 W)
    (hown' : w1.ownsRow B 9 1 v' (m + 1) (O.map Value.string ++ [.string a])) (hgrow : (W.alloc tmp).grownBy w1 (Value.ownBlock (.slice (some ⟨g, 0, none⟩) m cap))) :
    ∃ g' cap', v' = .slice (some ⟨g', 0, none⟩) (m + 1) cap' ∧ w1.ownsRow B 9 1 (.slice (some ⟨g', 0, none⟩) (m + 1) cap') (m + 1) ((O ++ [a]).map Value.string) ∧ Below B w0 w1 ∧ Hid ((O ++ [a]).length = m + 1) := by
  have hm' := hm.out
  subst hm'
  obtain ⟨g', cap', rfl⟩ := ownsRow_succ hown'
  have hg := (hr.lt g rfl).1
  have h1 : Below B W w1 := ((Below.refl B W).alloc hB tmp).grown hgrow (by simp; omega) (fun k e => by
    have : g = k := by simpa [Value.ownBlock] using e
    omega)
  refine ⟨g', cap', rfl, ?_, hb.trans h1, by show (O ++ [a]).length = _; simp⟩
  rw [List.map_append]; exact hown'

/-- How much has come of an insert. -/
def UptoK (n B : Nat) (w : World) (F : Nat → List ByteArray × Bool) (o d i : Value) (W : World) : Prop := ∃ k : Nat, k ≤ n ∧ i = .int .i64 k ∧ d = .bool (F k).2 ∧ GrowsK B w (F k).1 o W
theorem UptoK.out {n B : Nat} {w : World} {F : Nat → List ByteArray × Bool} {o d i : Value} {W : World} (h : UptoK n B w F o d i W) : ∃ (k g cap m : Nat) (O : List ByteArray) (dn : Bool), F k = (O, dn) ∧ k ≤ n ∧ i = .int .i64 k ∧ d = .bool dn ∧ o = .slice (some ⟨g, 0, none⟩) m cap ∧ Hid (O.length = m) ∧
    W.ownsRow B 9 1 (.slice (some ⟨g, 0, none⟩) m cap) m (O.map Value.string) ∧ Below B w W := by
  obtain ⟨k, hk, hi, hd, g, cap, ho, hr, hb⟩ := h
  exact ⟨k, g, cap, (F k).1.length, (F k).1, (F k).2, rfl, hk, hi, hd, ho, rfl, hr, hb⟩
theorem UptoK.mk {n B : Nat} {w : World} {F : Nat → List ByteArray × Bool} {o d i : Value} {W : World} {k : Nat} {O : List ByteArray} {dn : Bool} (hF : F k = (O, dn)) (hk : k ≤ n) (hi : i = .int .i64 k) (hd : d = .bool dn) (hG : GrowsK B w O o W) : UptoK n B w F o d i W :=
  ⟨k, hk, hi, by rw [hF]; exact hd, by rw [hF]; exact hG⟩
theorem insEnd_of {key : ByteArray} {L : List ByteArray} {n : Nat} {O : List ByteArray} {dn : Bool} (hn : L.length = n) (hF : insF key (L.take n) = (O, dn)) (hR : RiseK L) : (if dn then O else O ++ [key]) = onceD (L ++ [key]) := by
  rw [List.take_of_length_le (by omega)] at hF
  have := ins_end (key := key) hR
  rw [hF] at this
  exact this
theorem ne_bytes {a b : ByteArray} (h : a ≠ b) : (a.toList == b.toList) = false := by
  rw [beq_eq_false_iff_ne]; exact fun e => h (ba_ext e)

set_option maxHeartbeats 4000000 in
set_option maxRecDepth 100000 in
theorem refinsert_any (p : Option Addr) (n c : Nat) (L : List ByteArray) (x : ByteArray) (w : World) (h : Sk w p L) (hnn : L.length = n) (hR : RiseK L) (hn : n ≤ 1000) :
    Calls Try.prog 26 #[.slice p n c, .string x] w (Keyed (onceD (L ++ [x])) w.heap.size w) := by
  obtain ⟨i0, hi, hz0, hz1, hz2⟩ := info_parts info_string
  have H := Lib.hid (fun W (hb : Below w.heap.size w W) => h.grow hb)
  have HRise := Lib.hid hR
  have HN := Lib.hid hnn
  clear h hnn hR
  have H0 := Lib.hid (GrowsK.mk0 (w := w))
  obtain ⟨B, hB⟩ : ∃ B, w.heap.size = B := ⟨_, rfl⟩
  have HB := Lib.hid hB
  rw [hB] at H
  go_enter Try.func26, Try.ntmps26
  go_wp2
  go_loopw [5, 6, 7] (UptoK n B w (fun k => insF x (L.take k))) (fun _ _ i _ => n - (intOf i).toNat)
  case atStart => exact ⟨0, Nat.zero_le _, rfl, rfl, by rw [← HB.out]; exact H0.out⟩
  case round =>
    obtain ⟨k, g', cap, m, O, dn, hF, hk, rfl, rfl, rfl, hm, hrow, hbel⟩ := hrel.out
    have hF : insF x (L.take k) = (O, dn) := hF
    have hBw := HB.out
    have hwr : B ≤ wr.heap.size := by have := hbel.size; omega
    clear hBw
    have hm20 : m ≤ 2000 := by
      have h1 := insF_len x (L.take k)
      rw [hF, List.length_take] at h1
      have h2 := hm.out
      simp only at h1
      omega
    by_cases hlt : k < n
    · have hltL : k < L.length := by rw [HN.out]; exact hlt
      have hs : insF x (L.take (k + 1)) = insStep x (O, dn) L[k] := by rw [List.take_succ_eq_append_getElem hltL, insF_snoc, hF]
      obtain ⟨b, o, rfl, c1⟩ := H.out wr hbel k hltL
      obtain ⟨a, hq⟩ : ∃ q, L[k] = q := ⟨_, rfl⟩
      have HCELL := Lib.hid (show ∀ W, Below B w W → W.cell? ⟨b, o + k, none⟩ = some (.string a) from fun W hW => by
        obtain ⟨b2, o2, e, c2⟩ := H.out W hW k hltL
        obtain ⟨rfl, rfl⟩ : b = b2 ∧ o = o2 := by simpa using e
        rw [← hq]; exact c2)
      rw [hq] at hs c1
      have HBEL := Lib.hid hbel
      have HROW := Lib.hid hrow
      have hltz : (k : Int) < (n : Int) := by omega
      have h0z : (0 : Int) ≤ (k : Int) := by omega
      clear hq hltL hF hbel
      cases dn with
      | true =>
        by_cases hax : a = x
        · subst hax
          have HS := Lib.hid (show insF a (L.take (k + 1)) = (O, true) by rw [hs]; simp [insStep])
          clear hs hrow
          go_wp2
          go_roundw
          case rel => exact UptoK.mk HS.out (by omega) (by go_num) rfl (GrowsK.of hm rfl HROW.out HBEL.out)
          case measure => simp [intOf]; omega
        · have hl' := ne_bytes hax
          have HS := Lib.hid (show insF x (L.take (k + 1)) = (O ++ [a], true) by rw [hs]; simp [insStep, hax])
          clear hs hax
          go_wp2_with (at_builtin; refine wpList_append_own_at _ rfl _ _ 35 rfl B 9 i0 (.string ⟨#[]⟩) 1 16 Try.underlying35 hi hz0 hz1 hz2 rfl (by decide) (.slice (some ⟨g', 0, none⟩) m cap) m (O.map Value.string) rfl (hrow.alloc _) ⟨wr.heap.size, 0, none⟩ 1 1 [.string a] rfl rfl (str_news _ _ _) (str_one _) (by simp only [maxLen]; omega) (by omega) (by simp; omega) ?_; intro v' w1 hown' hgrow _ hat; obtain ⟨g2, cap2, rfl, hrow2, hbel2, hm2⟩ := grown_str hm hwr hrow HBEL.out hown' hgrow; clear hown' hgrow hat)
          go_roundw
          case rel => exact UptoK.mk HS.out (by omega) (by go_num) rfl (GrowsK.of hm2 rfl hrow2 hbel2)
          case measure => simp [intOf]; omega
      | false =>
        cases hl : lt a x with
        | true =>
          have hl1 : Op.bytesLess a.toList x.toList = true := hl
          have hax := lt_ne hl
          have hl' := ne_bytes hax
          have HS := Lib.hid (show insF x (L.take (k + 1)) = (O ++ [a], false) by rw [hs]; simp [insStep, hax, hl])
          clear hs hax hl
          go_wp2_with (at_builtin; refine wpList_append_own_at _ rfl _ _ 35 rfl B 9 i0 (.string ⟨#[]⟩) 1 16 Try.underlying35 hi hz0 hz1 hz2 rfl (by decide) (.slice (some ⟨g', 0, none⟩) m cap) m (O.map Value.string) rfl (hrow.alloc _) ⟨wr.heap.size, 0, none⟩ 1 1 [.string a] rfl rfl (str_news _ _ _) (str_one _) (by simp only [maxLen]; omega) (by omega) (by simp; omega) ?_; intro v' w1 hown' hgrow _ hat; obtain ⟨g2, cap2, rfl, hrow2, hbel2, hm2⟩ := grown_str hm hwr hrow HBEL.out hown' hgrow; clear hown' hgrow hat)
          go_roundw
          case rel => exact UptoK.mk HS.out (by omega) (by go_num) rfl (GrowsK.of hm2 rfl hrow2 hbel2)
          case measure => simp [intOf]; omega
        | false =>
          have hl1 : Op.bytesLess a.toList x.toList = false := hl
          by_cases hax : a = x
          · subst hax
            have HS := Lib.hid (show insF a (L.take (k + 1)) = (O ++ [a], true) by rw [hs]; simp [insStep, hl])
            clear hs hl
            go_wp2_with (at_builtin; refine wpList_append_own_at _ rfl _ _ 35 rfl B 9 i0 (.string ⟨#[]⟩) 1 16 Try.underlying35 hi hz0 hz1 hz2 rfl (by decide) (.slice (some ⟨g', 0, none⟩) m cap) m (O.map Value.string) rfl (hrow.alloc _) ⟨wr.heap.size, 0, none⟩ 1 1 [.string a] rfl rfl (str_news _ _ _) (str_one _) (by simp only [maxLen]; omega) (by omega) (by simp; omega) ?_; intro v' w1 hown' hgrow _ hat; obtain ⟨g2, cap2, rfl, hrow2, hbel2, hm2⟩ := grown_str hm hwr hrow HBEL.out hown' hgrow; have e1 := HCELL.out w1 hbel2; clear hown' hgrow hat)
            go_roundw
            case rel => exact UptoK.mk HS.out (by omega) (by go_num) rfl (GrowsK.of hm2 rfl hrow2 hbel2)
            case measure => simp [intOf]; omega
          · have hl' := ne_bytes hax
            have HS := Lib.hid (show insF x (L.take (k + 1)) = (O ++ [x] ++ [a], true) by rw [hs]; simp [insStep, hax, hl])
            clear hs hax hl
            go_wp2_with (first
              | (at_builtin; refine wpList_append_own_at _ rfl _ _ 35 rfl B 9 i0 (.string ⟨#[]⟩) 1 16 Try.underlying35 hi hz0 hz1 hz2 rfl (by decide) (.slice (some ⟨g', 0, none⟩) m cap) m (O.map Value.string) rfl (hrow.alloc _) ⟨wr.heap.size, 0, none⟩ 1 1 [.string x] rfl rfl (str_news _ _ _) (str_one _) (by simp only [maxLen]; omega) (by omega) (by simp; omega) ?_; intro v' w1 hown' hgrow _ hat; obtain ⟨g2, cap2, rfl, hrow2, hbel2, hm2⟩ := grown_str hm hwr hrow HBEL.out hown' hgrow; have e1 := HCELL.out w1 hbel2; have hw1 : B ≤ w1.heap.size := (by have h1 := hbel2.size; have h2 := HB.out; omega); have HBEL2 := Lib.hid hbel2; clear hown' hgrow hat hbel2)
              | (at_builtin; refine wpList_append_own_at _ rfl _ _ 35 rfl B 9 i0 (.string ⟨#[]⟩) 1 16 Try.underlying35 hi hz0 hz1 hz2 rfl (by decide) (.slice (some ⟨g2, 0, none⟩) (m + 1) cap2) (m + 1) ((O ++ [x]).map Value.string) rfl (hrow2.alloc _) ⟨w1.heap.size, 0, none⟩ 1 1 [.string a] rfl rfl (str_news _ _ _) (str_one _) (by simp only [maxLen]; omega) (by omega) (by simp; omega) ?_; intro v' w3 hown' hgrow _ hat; obtain ⟨g3, cap3, rfl, hrow3, hbel3, hm3⟩ := grown_str hm2 hw1 hrow2 HBEL2.out hown' hgrow; clear hown' hgrow hat))
            go_roundw
            case rel => exact UptoK.mk HS.out (by omega) (by go_num) rfl (GrowsK.of hm3 rfl hrow3 hbel3)
            case measure => simp [intOf]; omega
    · obtain rfl : k = n := by omega
      have hE := insEnd_of HN.out hF HRise.out
      have HROW := Lib.hid hrow
      have HBEL := Lib.hid hbel
      clear hF
      cases dn with
      | true =>
        have HE := Lib.hid (show Keyed (onceD (L ++ [x])) B w (.returned (.slice (some ⟨g', 0, none⟩) m cap)) wr from GrowsK.done (GrowsK.of hm rfl hrow hbel) (by rw [← hE]; rfl))
        clear hE hrow hbel
        go_wp2
        go_ret
        rw [HB.out]
        exact HE.out
      | false =>
        have HE := Lib.hid (show onceD (L ++ [x]) = O ++ [x] by rw [← hE]; rfl)
        clear hE hbel
        go_wp2_with (at_builtin; refine wpList_append_own_at _ rfl _ _ 35 rfl B 9 i0 (.string ⟨#[]⟩) 1 16 Try.underlying35 hi hz0 hz1 hz2 rfl (by decide) (.slice (some ⟨g', 0, none⟩) m cap) m (O.map Value.string) rfl (hrow.alloc _) ⟨wr.heap.size, 0, none⟩ 1 1 [.string x] rfl rfl (str_news _ _ _) (str_one _) (by simp only [maxLen]; omega) (by omega) (by simp; omega) ?_; intro v' w1 hown' hgrow _ hat; obtain ⟨g2, cap2, rfl, hrow2, hbel2, hm2⟩ := grown_str hm hwr hrow HBEL.out hown' hgrow; clear hown' hgrow hat)
        go_ret
        rw [HB.out]
        exact GrowsK.done (GrowsK.of hm2 rfl hrow2 hbel2) HE.out.symm

end Go.Proofs.Ytoflgkbjmbpdjaa
