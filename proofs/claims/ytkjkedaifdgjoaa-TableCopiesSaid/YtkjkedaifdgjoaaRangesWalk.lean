/-
  The statement on tours: the walk.
-/
import Derived.Test.YtkjkedaifdgjoaaAwake6
import Derived.StillTailTactics
namespace Go.Proofs.Ytkjkedaifdgjoaa
open Go Go.RowKit

/-- Something that is done, as it stands in the argument. -/
structure OpD where
  kind : Int
  key : ByteArray
  val : ByteArray

/-- The argument: a slice whose elements are these; each text is no longer than a text may be. -/
structure Args (w : World) (pa : Option Addr) (l : List OpD) : Prop where
  at' : ∀ i (h : i < l.length), ∃ b o, pa = some ⟨b, o, none⟩ ∧ b < w.heap.size ∧ w.cell? ⟨b, o + i * 3, none⟩ = some (.int .i64 l[i].kind) ∧ w.cell? ⟨b, o + i * 3 + 1, none⟩ = some (.string l[i].key) ∧ w.cell? ⟨b, o + i * 3 + 2, none⟩ = some (.string l[i].val)
  short : ∀ i (h : i < l.length), l[i].key.size ≤ 281474976710656
  kinds : ∀ i (h : i < l.length), -9223372036854775808 ≤ l[i].kind ∧ l[i].kind ≤ 9223372036854775807

/-- What puts make. -/
def puts (l : List OpD) : Pairs := l.foldl (fun D o => putD D o.key o.val) []
theorem puts_snoc (l : List OpD) (k : Nat) (h : k < l.length) : puts (l.take (k + 1)) = putD (puts (l.take k)) l[k].key l[k].val := by
  unfold puts
  rw [List.take_succ_eq_append_getElem h, List.foldl_append]; rfl
theorem puts_rise (l : List OpD) : Rise (puts l) := by
  unfold puts
  suffices h : ∀ (l : List OpD) (D : Pairs), Rise D → Rise (l.foldl (fun D o => putD D o.key o.val) D) from h l [] Rise.nil
  intro l
  induction l with
  | nil => intro D h; exact h
  | cons o l ih => intro D h; exact ih _ (h.put _ _)
theorem puts_length (l : List OpD) : (puts l).length ≤ l.length := by
  unfold puts
  suffices h : ∀ (l : List OpD) (D : Pairs), (l.foldl (fun D o => putD D o.key o.val) D).length ≤ D.length + l.length from by simpa using h l []
  intro l
  induction l with
  | nil => intro D; simp
  | cons o l ih => intro D; have h1 := ih (putD D o.key o.val); have h2 := length_putD D o.key o.val; simp only [List.foldl_cons, List.length_cons]; omega

/-- Between two rounds: the table, and the reference's row, have the same pairs. -/
def Both (B n : Nat) (w : World) (p : Nat) (Dk : Nat → Pairs) (m i : Value) (W : World) : Prop :=
  ∃ (k g cap : Nat) (f : Nat → Prop), k ≤ n ∧ i = .int .i64 k ∧ m = .slice (some ⟨g, 0, none⟩) (Dk k).length cap ∧ Held B w W p (Dk k) f ∧ Lies W g (Dk k) ∧ B ≤ g ∧ g < W.heap.size ∧ ¬ f g

theorem Both.out {B n : Nat} {w : World} {p : Nat} {Dk : Nat → Pairs} {m i : Value} {W : World} (h : Both B n w p Dk m i W) :
    ∃ (k g cap d : Nat) (D : Pairs) (f : Nat → Prop), Dk k = D ∧ k ≤ n ∧ i = .int .i64 k ∧ Hid (D.length = d) ∧ m = .slice (some ⟨g, 0, none⟩) d cap ∧ Hid (Held B w W p D f ∧ Lies W g D ∧ B ≤ g ∧ g < W.heap.size ∧ ¬ f g) := by
  obtain ⟨k, g, cap, f, hk, hi, hm, h1, h2, h3, h4, h5⟩ := h
  exact ⟨k, g, cap, _, _, f, rfl, hk, hi, rfl, hm, h1, h2, h3, h4, h5⟩

theorem Lies.step {W W' : World} {g : Nat} {L : Pairs} {f f' : Nat → Prop} (h : Lies W g L) (hs : Step f f' W W') (hg : g < W.heap.size) (hn : ¬ f g) : Lies W' g L := h.stays (hs.block g hg hn)

theorem held_drew {B : Nat} {w W : World} {p : Nat} {D : Pairs} {f : Nat → Prop} (h : Held B w W p D f) : Held B w W.drew p D f := h.grow ⟨rfl, rfl, rfl, Nat.le_refl _, fun _ _ => rfl⟩

set_option maxRecDepth 100000 in
set_option maxHeartbeats 4000000 in
theorem ranges_any (pa : Option Addr) (c : Nat) (l : List OpD) (x : ByteArray) (most : Nat) (w : World) (ha : Args w pa l) (hmost : most ≤ 255) (hll : l.length ≤ 9223372036854775807) :
    Calls Try.prog 5 #[.slice pa l.length c, .string x, .int .u8 most] w (Yes w) := by
  obtain ⟨n, hn⟩ : ∃ n, l.length = n := ⟨_, rfl⟩
  have HN := Lib.hid hn
  have HA := Lib.hid ha
  rw [hn] at hll ⊢
  clear hn ha
  by_cases hlong : 100 < n
  · go_enter Try.func5, Try.ntmps5
    go_wp2_with fail
    refine (awake_any _).mono ?_
    rintro e w' ⟨rfl, hb⟩
    have HB := Lib.hid hb
    clear hb
    go_wp2_with fail
    go_ret
    exact ⟨rfl, HB.out⟩
  · have hmix : Try.prog.follows .mixedOrders = true := by kernel_rfl
    go_enter Try.func5, Try.ntmps5
    go_wp2_with fail
    refine (new_any w).mono ?_
    rintro e w0 ⟨rfl, hw0⟩
    have H0 := Lib.hid (Held.new w)
    rw [← hw0] at H0
    clear hw0
    obtain ⟨p, hp⟩ : ∃ p, w.heap.size = p := ⟨_, rfl⟩
    have HP := Lib.hid hp
    rw [hp] at H0 ⊢
    clear hp
    go_wp2_with fail
    go_loopw [8, 9] (Both p n w p (fun k => puts (l.take k))) (fun _ i _ => n - (intOf i).toNat)
    case atStart =>
      have h0 := H0.out
      have h1 := h0.grow ((Below.refl _ w0).alloc (Nat.le_refl _) (.cells #[] 42))
      exact ⟨0, w0.heap.size, 0, _, Nat.zero_le _, rfl, rfl, h1, fun j hj => absurd hj (Nat.not_lt_zero _), h0.room, by simp, fun h => absurd (h0.tab.lt _ h) (Nat.lt_irrefl _)⟩
    case round =>
      obtain ⟨k, g, cap, d, D, f, hD, hk, rfl, hd, rfl, hh⟩ := hrel.out
      replace hD : puts (l.take k) = D := hD
      have hR : Hid (Rise D) := by rw [← hD]; exact puts_rise _
      have hdl : D.length ≤ 100 := by rw [← hD]; exact Nat.le_trans (puts_length _) (by rw [List.length_take]; omega)
      have HDL := Lib.hid hdl
      have hd100 : d ≤ 100 := by have := hd.out; omega
      have HD := Lib.hid hD
      clear hD hdl hrel
      by_cases hlt : k < n
      · have hltL : k < l.length := by rw [HN.out]; exact hlt
        obtain ⟨b, o, rfl, hbw, hc0, hc1, hc2⟩ := HA.out.at' k hltL
        have hsh := HA.out.short k hltL
        have HS := Lib.hid (puts_snoc l k hltL)
        obtain ⟨q, hq⟩ : ∃ q, l[k] = q := ⟨_, rfl⟩
        rw [hq] at hc1 hc2 hsh HS
        clear hq hltL hc0
        have HBW := HP.out
        have hcell : Hid (∀ W, Below p w W → W.cell? ⟨b, o + k * 3 + 1, none⟩ = some (.string q.key) ∧ W.cell? ⟨b, o + k * 3 + 2, none⟩ = some (.string q.val)) := fun W hW =>
          ⟨(hW.cell (p := ⟨b, o + k * 3 + 1, none⟩) (by show b < p; omega)).trans hc1, (hW.cell (p := ⟨b, o + k * 3 + 2, none⟩) (by show b < p; omega)).trans hc2⟩
        obtain ⟨e1, e2⟩ := hcell.out wr hh.out.1.below
        have hi0 : (0 : Int) ≤ (k : Int) := by omega
        have hi1 : (k : Int) < (n : Int) := by omega
        clear hc1 hc2 HBW
        go_wp2_with fail
        go_still_tail 11, hmix
        change wpList _ _ _ _ _ wr.drew
        have hh1 := held_drew hh.out.1
        go_wp2_with fail
        refine (put_any p D f q.key q.val wr.drew hh1.tab hR.out (by have := HDL.out; omega) hsh).mono ?_
        rintro e w1 ⟨f1, rfl, ht1, hs1⟩
        have H1 := Lib.hid (hh1.turned ht1 hs1)
        have L1 := Lib.hid (show Lies w1 g D ∧ g < w1.heap.size from ⟨hh.out.2.1.step (W := wr.drew) hs1 hh.out.2.2.2.1 hh.out.2.2.2.2, Nat.lt_of_lt_of_le hh.out.2.2.2.1 hs1.size⟩)
        obtain ⟨d1, d2⟩ := hcell.out w1 H1.out.below
        clear ht1 hs1 hh1
        go_wp2_with fail
        go_still_tail 11, hmix
        change wpList _ _ _ _ _ w1.drew
        have hdd := hd.out
        subst hdd
        go_wp2_with fail
        refine (refput_any g cap D q.key q.val w1.drew L1.out.1 L1.out.2 hR.out (by have := HDL.out; omega)).mono ?_
        rintro e w2 ⟨g2, cap2, rfl, hr2, hb2⟩
        have H2 := Lib.hid ((held_drew H1.out).grow hb2)
        have L2 := Lib.hid (Collected.lies hr2)
        have N2 := Lib.hid (show ¬ f1 g2 from fun hf => absurd (H1.out.tab.lt _ hf) (Nat.not_lt.2 L2.out.2.1))
        clear hr2 hb2
        have HS2 := Lib.hid (show puts (l.take (k + 1)) = putD D q.key q.val by rw [HS.out, HD.out])
        go_wp2_with fail
        go_roundw
        case rel =>
          refine ⟨k + 1, g2, cap2, f1, by omega, by go_num, ?_, ?_⟩
          · show _ = Value.slice _ (puts (l.take (k + 1))).length _
            rw [HS2.out]
          · show Held p w _ p (puts (l.take (k + 1))) f1 ∧ Lies _ g2 (puts (l.take (k + 1))) ∧ _
            rw [HS2.out]
            exact ⟨H2.out, L2.out.1, Nat.le_trans H1.out.room L2.out.2.1, L2.out.2.2, N2.out⟩
        case measure => simp [intOf]; omega
      · obtain rfl : k = n := by omega
        have hdd := hd.out
        subst hdd
        go_wp2_with fail
        refine (reffrom_any g cap D x wr hh.out.2.1 hh.out.2.2.2.1 (by have := HDL.out; omega)).mono ?_
        rintro e w3 ⟨g3, cap3, rfl, hr3, hb3⟩
        have H3 := Lib.hid (hh.out.1.grow hb3)
        have L3 := Lib.hid (Collected.lies hr3)
        have hcap3 : (fromD D x).length ≤ cap3 := by
          rcases hr3.2 with ⟨h0, _⟩ | ⟨g', cap', cur, hv, _, _, hnc, _⟩
          · cases h0
          · obtain ⟨_, rfl⟩ : g3 = g' ∧ cap3 = cap' := by simpa using hv
            exact hnc
        clear hr3 hb3
        obtain ⟨T, hT⟩ : ∃ T, fromD D x = T := ⟨_, rfl⟩
        have hRT : Rise T := by rw [← hT]; exact hR.out.from x
        have hTl : T.length ≤ 100 := by rw [← hT]; exact Nat.le_trans (length_fromD _ _) HDL.out
        rw [hT] at L3 ⊢
        have HT := Lib.hid hT
        obtain ⟨tl, htl⟩ : ∃ tl, T.length = tl := ⟨_, rfl⟩
        rw [hT, htl] at hcap3
        rw [htl] at hTl ⊢
        have HTL := Lib.hid htl
        have HRT := Lib.hid hRT
        clear hT htl hRT
        go_wp2_with fail
        refine (lawfrom_any p D f x most w3 H3.out.tab hR.out (by have := HDL.out; omega) (by omega)).mono ?_
        rintro e w4 ⟨g4, cap4, rfl, hr4, hb4⟩
        have H4 := Lib.hid (H3.out.grow hb4)
        have L4 := Lib.hid (Collected.lies hr4)
        have L34 := Lib.hid (L3.out.1.stays (hb4.block g3 L3.out.2.2))
        clear hr4 hb4
        rw [HT.out] at L4 ⊢
        obtain ⟨G, hG⟩ : ∃ G, T.take most = G := ⟨_, rfl⟩
        have hRG : Rise G := by rw [← hG]; exact HRT.out.sublist (List.take_sublist _ _)
        have LG := Lib.hid (L34.out.take most)
        have hGl : G.length = min most T.length := by rw [← hG, List.length_take]
        rw [hG] at L4 LG ⊢
        obtain ⟨gl, hgl⟩ : ∃ gl, G.length = gl := ⟨_, rfl⟩
        rw [hgl, HTL.out] at hGl
        have HGL := Lib.hid hgl
        have HMIN := Lib.hid hGl
        have hgl100 : gl ≤ 100 := by omega
        have HRG := Lib.hid hRG
        rw [hgl]
        have L4' := Lib.hid L4.out.1
        clear hG hRG hgl hGl L34
        go_wp2_with fail
        go_loopw [12] (fun i wr => ∃ j q : Nat, j ≤ gl ∧ i = .int .i64 ((j + 1 : Nat) : Int) ∧ wr = w4.drewN q) (fun i _ => gl + 1 - (intOf i).toNat)
        case atStart => exact ⟨0, 0, Nat.zero_le _, rfl, rfl⟩
        case round =>
          obtain ⟨j, q, hj, rfl, rfl⟩ := hrel
          by_cases hjl : j + 1 < gl
          · have h1 : j < G.length := by rw [HGL.out]; omega
            have h2 : j + 1 < G.length := by rw [HGL.out]; omega
            have a1 := (L4'.out j h1).1
            have a2 := (L4'.out (j + 1) h2).1
            have hlt' : lt G[j].1 G[j + 1].1 = true := List.pairwise_iff_getElem.1 HRG.out j (j + 1) h1 h2 (by omega)
            obtain ⟨ka, hka⟩ : ∃ ka, G[j].1 = ka := ⟨_, rfl⟩
            obtain ⟨kb, hkb⟩ : ∃ kb, G[j + 1].1 = kb := ⟨_, rfl⟩
            rw [hka] at a1 hlt'
            rw [hkb] at a2 hlt'
            have hbl : Op.bytesLess ka.toList kb.toList = true := hlt'
            clear hka hkb h1 h2 hlt'
            have hi0 : (0 : Int) ≤ (j : Int) := by omega
            have hi1 : (j : Int) < (gl : Int) := by omega
            have hi2 : (j : Int) + 1 < (gl : Int) := by omega
            go_wp2_with fail
            go_quiet (fail)
            go_wp2
            go_roundw
            case rel => exact ⟨j + 1, _, by omega, by go_num, rfl⟩
            case measure => simp [intOf]; omega
          · have HSame : Hid (Calls Try.prog 16 #[.slice (some ⟨g4, 0, none⟩) gl cap4, .slice (some ⟨g3, 0, none⟩) gl cap3] (w4.drewN q) fun e w' => e = .returned (.bool true) ∧ ∃ q', w' = (w4.drewN q).drewN q') := by
              have := same_yes g4 cap4 g3 cap3 G (w4.drewN q) (L4'.out.stays rfl) (LG.out.stays rfl) (by have := HGL.out; omega)
              rw [HGL.out] at this
              exact this
            have hmin := HMIN.out
            clear HMIN HGL L4' LG HRG
            have hmin1 : min (tl : Int) (most : Int) = (gl : Int) := by omega
            have hmin2 : (0 : Int) ≤ (gl : Int) := by omega
            have hmin3 : (gl : Int) ≤ (cap3 : Int) := by omega
            have hmin4 : gl ≤ cap3 := by omega
            clear hmin
            go_wp2_with fail
            refine HSame.out.mono ?_
            rintro e w' ⟨rfl, q', rfl⟩
            go_wp2_with fail
            refine (awake_any _).mono ?_
            rintro e w6 ⟨rfl, hb6⟩
            have HE := Lib.hid (show Below w.heap.size w w6 from by
              have h4 := H4.out.below
              rw [← HP.out] at h4
              refine h4.trans ((Below.mono (B := w4.heap.size) ⟨hb6.os, hb6.tape, hb6.output, hb6.size, hb6.block⟩ ?_))
              exact h4.size)
            clear hb6
            go_wp2_with fail
            go_ret
            exact ⟨rfl, HE.out⟩

end Go.Proofs.Ytkjkedaifdgjoaa
