/-
  A version that is made alone has its epoch, its next one, and its change: the walk.
-/
import Derived.Test.YtnfepjolbhnhbaaVaw
import Derived.Test.YtnfepjolbhnhbaaHblks
namespace Go.Proofs.Ytnfepjolbhnhbaa
open Go Go.RowKit
attribute [local go_sem ↓] Go.wp_at_zero Go.wp_at_succ

/-- So many blocks of one cell each. -/
def baseD (k : Nat) : HpD := ⟨List.replicate k (blkV [0] ⟨#[]⟩), false, 0⟩
theorem baseD_len (k : Nat) : (baseD k).L.length = k := by simp [baseD]
theorem baseD_add (k : Nat) : (baseD k).add ⟨List.replicate 1 0, ⟨#[]⟩, false⟩ = baseD (k + 1) := by
  show (⟨List.replicate k (blkV [0] ⟨#[]⟩) ++ [blkV [0] ⟨#[]⟩], false, 0⟩ : HpD) = ⟨List.replicate (k + 1) (blkV [0] ⟨#[]⟩), false, 0⟩
  rw [List.replicate_succ']
theorem baseD_few (k n : Nat) (h : k + n ≤ 900000) : FewD (baseD k) n := by
  refine ⟨by show 0 + n ≤ _; omega, by rw [baseD_len]; exact h, fun b hb => ?_⟩
  rw [List.eq_of_mem_replicate hb]
  refine ⟨fun w hw => ?_, Nat.zero_le _⟩
  obtain rfl := List.mem_singleton.1 (show w ∈ [(0 : Int)] from hw)
  omega
theorem rowN_whole (i : Nat) (L : List BlkD) (h : ∀ b ∈ L, b.gone = false) : (rowN i L).length = L.length := by
  induction L generalizing i with
  | nil => rfl
  | cons b t ih =>
    rw [rowN, if_neg (by rw [h b (by simp)]; decide)]
    simp [ih (i + 1) (fun c hc => h c (by simp [hc]))]
/-- Behind the loop, and within it. -/
def Laid (W1 : World) (B p k : Nat) (X : World) : Prop := (∃ fh, Hp X B p (baseD k) fh) ∧ Below B W1 X

/-- The two boxes, and what lies behind them. -/
structure Boxes (W : World) (ep nx : Int) (key : ByteArray) (has : Bool) (val : ByteArray) (X : World) : Prop where
  low : Below W.heap.size W X
  b0 : X.heap[W.heap.size]? = some (.cells #[.int .u64 ep, .int .u64 nx] 23 (0, 0))
  b1 : X.heap[W.heap.size + 1]? = some (chO key has val)
theorem Boxes.start (W : World) (ep nx : Int) (key : ByteArray) (has : Bool) (val : ByteArray) : Boxes W ep nx key has val ((W.alloc (.cells #[.int .u64 ep, .int .u64 nx] 23)).alloc (chO key has val)) := by
  have b1 := below_alloc W (.cells #[.int .u64 ep, .int .u64 nx] 23)
  have b2 := below_alloc (W.alloc (.cells #[.int .u64 ep, .int .u64 nx] 23)) (chO key has val)
  have n1 := World.alloc_heap_new W (.cells #[.int .u64 ep, .int .u64 nx] 23)
  have n2 := World.alloc_heap_new (W.alloc (.cells #[.int .u64 ep, .int .u64 nx] 23)) (chO key has val)
  rw [World.size_alloc] at n2
  exact ⟨b1.trans (b2.mono (by simp)), (b2.block _ (heap_at_lt n1)).trans n1, n2⟩
section
variable {W X Y : World} {ep nx : Int} {key val : ByteArray} {has : Bool}
theorem Boxes.below (h : Boxes W ep nx key has val X) {B : Nat} (hB : W.heap.size + 2 ≤ B) (hb : Below B X Y) : Boxes W ep nx key has val Y :=
  ⟨h.low.trans (hb.mono (by omega)), (hb.block _ (by omega)).trans h.b0, (hb.block _ (by omega)).trans h.b1⟩
theorem Boxes.many (h : Boxes W ep nx key has val X) : W.heap.size + 2 ≤ X.heap.size := heap_at_lt h.b1
theorem Boxes.cells (h : Boxes W ep nx key has val X) : X.cell? ⟨W.heap.size, 0, none⟩ = some (.int .u64 ep) ∧ X.cell? ⟨W.heap.size, 1, none⟩ = some (.int .u64 nx) ∧ X.cell? ⟨W.heap.size + 1, 0, none⟩ = some (.string key) ∧ X.cell? ⟨W.heap.size + 1, 1, none⟩ = some (.bool has) ∧ X.cell? ⟨W.heap.size + 1, 2, none⟩ = some (.string val) :=
  ⟨(cell_of h.b0).trans rfl, (cell_of h.b0).trans rfl, (cell_of h.b1).trans rfl, (cell_of h.b1).trans rfl, (cell_of h.b1).trans rfl⟩
end
/-- The heap that was laid for it, beside the boxes. -/
def LaidX (W : World) (ep nx : Int) (key : ByteArray) (has : Bool) (val : ByteArray) (B p k : Nat) (X : World) : Prop := Boxes W ep nx key has val X ∧ ∃ fh, Hp X B p (baseD k) fh

theorem plm_blocks {σ : Type} {M : Mach σ} {W : World} {B p r n : Nat} {S : PmS σ} {f : Nat → Prop} (h : PlM M W B p r S n f) (hs : S.D.L.length ≤ 50000) {l : Nat} (hl : (rowN 0 S.D.L).length = l) :
    Calls Try.prog 17 #[.pointer (some ⟨p, 0, none⟩)] W fun e W' => ∃ q c, e = .returned (.slice q l c) ∧ Below W.heap.size W W' := by
  obtain ⟨fh, fr, h1, _⟩ := h
  refine (blocks_any W h1 hs).mono fun e W' he => ?_
  obtain ⟨q, n', c, rfl, hlot, hb⟩ := he
  have := hlot.1
  refine ⟨q, c, ?_, hb⟩
  congr 2
  simp at this
  omega
/-- The heap with the version. -/
def madeX (a : Nat) (ep nx : Int) (has : Bool) (t : ByteArray) : HpD := (baseD a).add (blkV [ep, nx, if has then 1 else 0] t)
theorem made_live (a : Nat) (ep nx : Int) (has : Bool) (t : ByteArray) : liveAt (madeX a ep nx has t).L (a + 1) = some (blkV [ep, nx, if has then 1 else 0] t) := by
  have := live_last (baseD a) [ep, nx, if has then 1 else 0] t
  rw [baseD_len] at this; exact this
theorem made_spot (a : Nat) (ep nx : Int) (has : Bool) (t : ByteArray) (i : Int) (h0 : 0 ≤ i) (h3 : i < 3) : spot (madeX a ep nx has t).L (a + 1) i = 0 := by
  unfold spot; rw [made_live]; simp only; rw [if_neg]; show ¬ (i < 0 ∨ ((3 : Nat) : Int) ≤ i); omega
theorem made_word (a : Nat) (ep nx : Int) (has : Bool) (t : ByteArray) (i : Int) : wordAt (madeX a ep nx has t).L (a + 1) i = [ep, nx, if has then 1 else 0].getD i.toNat 0 := by
  unfold wordAt; rw [made_live]; rfl
theorem made_text (a : Nat) (ep nx : Int) (has : Bool) (t : ByteArray) : textAt (madeX a ep nx has t).L (a + 1) = t ∧ there (madeX a ep nx has t).L (a + 1) = 0 := by
  unfold textAt there; rw [made_live]; exact ⟨rfl, rfl⟩
theorem made_rows (a : Nat) (ep nx : Int) (has : Bool) (t : ByteArray) : (rowN 0 (madeX a ep nx has t).L).length = a + 1 ∧ (madeX a ep nx has t).L.length = a + 1 := by
  have hl : (madeX a ep nx has t).L.length = a + 1 := by show (List.replicate a _ ++ [_]).length = _; simp
  refine ⟨?_, hl⟩
  rw [rowN_whole, hl]
  intro b hb
  rcases List.mem_append.1 (show b ∈ List.replicate a (blkV [0] ⟨#[]⟩) ++ [blkV [ep, nx, if has then 1 else 0] t] from hb) with h | h
  · rw [List.eq_of_mem_replicate h]; rfl
  · rw [List.mem_singleton.1 h]; rfl

set_option maxRecDepth 100000 in
set_option maxHeartbeats 8000000 in
theorem makes_walk (a : Nat) (ha : a ≤ 255) (ep nx : Int) (he : 0 ≤ ep ∧ ep < 18446744073709551616) (hn : 0 ≤ nx ∧ nx < 18446744073709551616) (key : ByteArray) (has : Bool) (val : ByteArray) (hv : val.size ≤ 281474976710656) (W : World) :
    Calls Try.prog 4 #[.int .u8 a, .agg #[.int .u64 ep, .int .u64 nx], .agg #[.string key, .bool has, .string val]] W (Says true W) := by
  have X0 := Lib.hid (Boxes.start W ep nx key has val)
  have hlow := X0.out.low
  obtain ⟨x0, x1, x2, x3, x4⟩ := X0.out.cells
  by_cases h1000 : val.size ≤ 1000
  · have hz : (val.size : Int) ≤ 1000 := by omega
    have ha0 : (0 : Int) ≤ (a : Int) := by omega
    have ha1 : (a : Int) ≤ 255 := by omega
    go_enter Try.func4, Try.ntmps4
    go_wp2_with fail
    refine (new_any _).mono ?_
    rintro en w1 ⟨p, f1, rfl, h1, hb1⟩
    have hB : W.heap.size + 2 ≤ ((W.alloc (.cells #[.int .u64 ep, .int .u64 nx] 23)).alloc (chO key has val)).heap.size := X0.out.many
    have HX1 := Lib.hid (X0.out.below hB hb1)
    obtain ⟨B, hBB⟩ : ∃ B, ((W.alloc (.cells #[.int .u64 ep, .int .u64 nx] 23)).alloc (chO key has val)).heap.size = B := ⟨_, rfl⟩
    rw [hBB] at h1 hB
    have HL := Lib.hid (show LaidX W ep nx key has val B p 0 w1 from ⟨HX1.out, f1, h1⟩)
    have HBig := Lib.hid hB
    clear h1 hb1 hB hBB HX1 hlow x0 x1 x2 x3 x4 X0 h1000
    go_wp2_with fail
    go_loopw [8] (fun s8 wr => ∃ k : Nat, s8 = .int .i64 k ∧ k ≤ a ∧ Hid (LaidX W ep nx key has val B p k wr)) (fun s8 _ => a - (intOf s8).toNat)
    case atStart => exact ⟨0, rfl, Nat.zero_le _, HL⟩
    case round =>
      clear HL
      obtain ⟨k, rfl, hka, HL⟩ := hrel
      have hk0 : (0 : Int) ≤ (k : Int) := by omega
      by_cases hk : k < a
      · have hkz : (k : Int) < (a : Int) := by omega
        obtain ⟨hX, fh, hp⟩ := HL.out
        have HM := Lib.hid (make_good _ hp (by rw [baseD_len]; omega) 1 (by omega) ⟨#[]⟩ (by decide))
        rw [baseD_add] at HM
        have HX := Lib.hid hX
        have HBs := Lib.hid hp.base
        have HSz := Lib.hid hp.size
        clear hX hp HL
        go_wp2_with fail
        refine HM.out.mono ?_
        rintro en w2 ⟨f2, rfl, h2, s2⟩
        have HL2 := Lib.hid (show LaidX W ep nx key has val B p (k + 1) w2 from ⟨HX.out.below HBig.out (s2.below HSz.out HBs.out), f2, h2⟩)
        clear h2 s2
        go_wp2_with fail
        go_roundw
        case rel => exact ⟨k + 1, by go_num, by omega, HL2⟩
        case measure => simp [intOf]; omega
      · obtain rfl : k = a := by omega
        clear hk hka
        obtain ⟨hX, fh, hp⟩ := HL.out
        have HX := Lib.hid hX
        have HP := Lib.hid hp
        obtain ⟨x0, x1, x2, x3, x4⟩ := hX.cells
        clear hX hp HL
        go_wp2_with fail
        refine (newv_any wr ep nx key has val hv).mono ?_
        rintro en w2 ⟨r, rfl, hr, ho, hb2⟩
        obtain ⟨t, ht⟩ : ∃ t, (if has then val else ⟨#[]⟩ : ByteArray) = t := ⟨_, rfl⟩
        have ht1 : t.size ≤ 1000 := by
          rw [← ht]
          split
          · omega
          · exact Nat.zero_le _
        have P2 := Lib.hid (show PlM VerM w2 B p r ⟨baseD k, ⟨ep, nx, has, t, 1, 0⟩⟩ 200 _ from plm_ver HP.out (baseD_few k 200 (by omega)) (by rw [← ht]; exact newV_fits he hn hv) hr (by rw [← ht]; exact ho) hb2)
        have X2 := Lib.hid (HX.out.below HBig.out (hb2.mono HP.out.size))
        have HTt := Lib.hid (And.intro ht ht1)
        obtain ⟨lv, hlv⟩ : ∃ lv : Int, (if has then 1 else 0) = lv := ⟨_, rfl⟩
        have HLv := Lib.hid hlv
        clear hlv
        clear hr ho hb2 HP HX x0 x1 x2 x3 x4 ht ht1 he hn hv
        go_wp2_with fail
        refine (ver_run P2.out (Nat.le_trans HTt.out.2 (by omega)) 100 (by omega) (by omega) (by omega)).mono ?_
        rintro en w3 ⟨f3, rfl, h3, s3⟩
        rw [baseD_len] at h3
        have P3 := Lib.hid (show PlM VerM w3 B p r ⟨madeX k ep nx has t, ⟨ep, nx, has, t, 5, k + 1⟩⟩ 100 f3 from h3)
        have X3 := Lib.hid (X2.out.below HBig.out (s3.below P2.out.size P2.out.base))
        obtain ⟨ac, hac⟩ : ∃ z : Int, ((actsV nx has : Nat) : Int) = z := ⟨_, rfl⟩
        rw [hac]
        clear h3 s3 P2 X2 hac
        go_wp2_with fail
        refine (plm_result P3.out rfl).mono ?_
        rintro en w4 ⟨rfl, rfl⟩
        go_wp2_with fail
        have HQ := Lib.hid (fun i (h0 : 0 ≤ i) (h3 : i < 3) X g (hX : PlM VerM X B p r ⟨madeX k ep nx has t, ⟨ep, nx, has, t, 5, k + 1⟩⟩ 100 g) => (by
          have := plm_load hX (k + 1) (by omega) i (made_spot k ep nx has t i h0 h3)
          rw [made_word] at this; exact this : Calls Try.prog 14 #[.pointer (some ⟨p, 0, none⟩), .int .u64 ((k : Int) + 1), .int .i64 i] X (PmR VerM B p r ⟨madeX k ep nx has t, ⟨ep, nx, has, t, 5, k + 1⟩⟩ 100 (TwoV ([ep, nx, if has then 1 else 0].getD i.toNat 0) 0) g X)))
        refine (show Calls _ _ _ _ (PmR VerM B p r ⟨madeX k ep nx has t, ⟨ep, nx, has, t, 5, k + 1⟩⟩ 100 (TwoV ep 0) f3 w4) from HQ.out 0 (by omega) (by omega) _ _ P3.out).mono ?_
        rintro en w5 ⟨f5, rfl, h5, s5⟩
        have P5 := Lib.hid h5
        have X5 := Lib.hid (X3.out.below HBig.out (s5.below P3.out.size P3.out.base))
        clear h5 s5 P3 X3
        go_wp2_with fail
        refine (show Calls _ _ _ _ (PmR VerM B p r ⟨madeX k ep nx has t, ⟨ep, nx, has, t, 5, k + 1⟩⟩ 100 (TwoV nx 0) f5 w5) from HQ.out 1 (by omega) (by omega) _ _ P5.out).mono ?_
        rintro en w6 ⟨f6, rfl, h6, s6⟩
        have P6 := Lib.hid h6
        have X6 := Lib.hid (X5.out.below HBig.out (s6.below P5.out.size P5.out.base))
        clear h6 s6 P5 X5
        go_wp2_with fail
        refine (show Calls _ _ _ _ (PmR VerM B p r ⟨madeX k ep nx has t, ⟨ep, nx, has, t, 5, k + 1⟩⟩ 100 (TwoV lv 0) f6 w6) from (by have := HQ.out 2 (by omega) (by omega) _ _ P6.out; have e : [ep, nx, if has then 1 else 0].getD (2 : Int).toNat 0 = lv := HLv.out; rw [e] at this; exact this)).mono ?_
        rintro en w7 ⟨f7, rfl, h7, s7⟩
        have P7 := Lib.hid h7
        have X7 := Lib.hid (X6.out.below HBig.out (s7.below P6.out.size P6.out.base))
        clear h7 s7 P6 X6
        go_wp2_with fail
        refine (show Calls _ _ #[.pointer (some ⟨p, 0, none⟩), .int .u64 ((k : Int) + 1)] _ (PmR VerM B p r ⟨madeX k ep nx has t, ⟨ep, nx, has, t, 5, k + 1⟩⟩ 100 (.tuple #[.string t, .int .i64 0]) f7 w7) from (by
          have := plm_words P7.out (k + 1) (by omega) (made_text k ep nx has t).2
          rw [(made_text k ep nx has t).1] at this; exact this)).mono ?_
        rintro en w8 ⟨f8, rfl, h8, s8⟩
        have P8 := Lib.hid h8
        have X8 := Lib.hid (X7.out.below HBig.out (s8.below P7.out.size P7.out.base))
        have HFs := Lib.hid (show Calls Try.prog 16 #[.pointer (some ⟨p, 0, none⟩)] w8 (fun e W' => e = .returned (.int .i64 0) ∧ w8 = W') from plm_faults h8)
        have HBl := Lib.hid (plm_blocks h8 (by rw [(made_rows k ep nx has t).2]; omega) (made_rows k ep nx has t).1)
        clear h8 s8 P7 X7 HQ P8
        obtain ⟨x0, x1, x2, x3, x4⟩ := X8.out.cells
        have HLow := Lib.hid X8.out
        clear X8
        cases has with
        | true =>
          have htt : t = val := HTt.out.1.symm
          clear HTt
          have hlv : lv = 1 := HLv.out.symm
          clear HLv
          subst htt hlv
          go_wp2_with fail
          refine HFs.out.mono ?_
          rintro en w9 ⟨rfl, rfl⟩
          go_wp2_with fail
          refine HBl.out.mono ?_
          rintro en w9 ⟨q, c, rfl, hb9⟩
          have X9 := Lib.hid (HLow.out.below (Nat.le_refl _) (hb9.mono HLow.out.many))
          clear hb9
          go_wp2_with fail
          refine (awake_any _).mono ?_
          rintro en w10 ⟨rfl, hb10⟩
          have X10 := Lib.hid (X9.out.low.trans (hb10.mono X9.out.low.size))
          clear hb10
          go_wp2_with fail
          go_ret
          exact Says.mk rfl X10.out
        | false =>
          have htt : t = ⟨#[]⟩ := HTt.out.1.symm
          clear HTt
          have hlv : lv = 0 := HLv.out.symm
          clear HLv
          subst htt hlv
          go_wp2_with fail
          refine HFs.out.mono ?_
          rintro en w9 ⟨rfl, rfl⟩
          go_wp2_with fail
          refine HBl.out.mono ?_
          rintro en w9 ⟨q, c, rfl, hb9⟩
          have X9 := Lib.hid (HLow.out.below (Nat.le_refl _) (hb9.mono HLow.out.many))
          clear hb9
          go_wp2_with fail
          refine (awake_any _).mono ?_
          rintro en w10 ⟨rfl, hb10⟩
          have X10 := Lib.hid (X9.out.low.trans (hb10.mono X9.out.low.size))
          clear hb10
          go_wp2_with fail
          go_ret
          exact Says.mk rfl X10.out
  · have hz : ¬ (val.size : Int) ≤ 1000 := by omega
    go_enter Try.func4, Try.ntmps4
    go_wp2_with fail
    refine (awake_any _).mono ?_
    rintro en w1 ⟨rfl, hb1⟩
    have B1 := Lib.hid (X0.out.low.trans (hb1.mono X0.out.low.size))
    clear hb1
    go_wp2_with fail
    go_ret
    exact Says.mk rfl B1.out

end Go.Proofs.Ytnfepjolbhnhbaa
