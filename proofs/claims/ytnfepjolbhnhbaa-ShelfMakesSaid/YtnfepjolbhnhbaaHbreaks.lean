/-
  Hbreak, Hbreak2, Hpdqm, in one text.
-/
import Derived.Test.YtnfepjolbhnhbaaHpivot
import Derived.Laws.Bits64b
import Derived.Laws.Closers25b
/-! A row of words whose pattern is broken up. -/
namespace Go.Proofs.Ytnfepjolbhnhbaa
open Go Go.RowKit Go.Sort
attribute [local go_sem ↓] Go.wp_at_zero Go.wp_at_succ

def tabAt (ba : ByteArray) (k : Nat) : Bool :=
  let l := (ba.data[k]?.getD 0).toNat
  decide (l ≤ 8) && ((decide (k < 8) || decide (4 ≤ l)) && (decide (k = 0) || decide (2 ^ l ≤ 2 * k)))
theorem tab_ok {ba : ByteArray} (ht : (List.range 256).all (tabAt ba) = true) {k : Nat} (hk : k < 256) (h : k < ba.size) : (ba[k]).toNat ≤ 8 ∧ (8 ≤ k → 4 ≤ (ba[k]).toNat) ∧ (1 ≤ k → 2 ^ (ba[k]).toNat ≤ 2 * k) := by
  have h1 := List.all_eq_true.1 ht k (List.mem_range.2 hk)
  have e : ba.data[k]?.getD 0 = ba[k] := by
    rw [Array.getElem?_eq_getElem h]; rfl
  unfold tabAt at h1
  rw [e] at h1
  simp only [Bool.and_eq_true, Bool.or_eq_true, decide_eq_true_eq] at h1
  exact ⟨h1.1, fun h8 => h1.2.1.elim (fun h => by omega) id, fun h8 => h1.2.2.elim (fun h => by omega) id⟩

/-- How many bits; of less than 65536. -/
def LenE (x : Nat) (W : World) (e : Ending) (W' : World) : Prop := ∃ l : Nat, e = .returned (.int .i64 l) ∧ l ≤ 16 ∧ (8 ≤ x → 4 ≤ l ∧ 2 ^ l ≤ 2 * x) ∧ W = W'

set_option maxRecDepth 100000 in
theorem len64_is (x : Nat) (hx : x < 65536) (W : World) : Calls Try.prog 63 #[.int .u64 (x : Int)] W (LenE x W) := by
  rcases Nat.lt_or_ge x 256 with hlt | hge
  · obtain ⟨z, hz⟩ : ∃ z, (x : Int) = z := ⟨_, rfl⟩
    have h0 : 0 ≤ z := by omega
    have h1 : z ≤ 255 := by omega
    have HX := Lib.hid (show z.toNat = x from by omega)
    have HXs := Lib.hid hlt
    have HKey := Lib.hid (fun (ba : ByteArray) (h : z.toNat < ba.size) (ht : (List.range 256).all (tabAt ba) = true) => (show LenE x W (.returned (.int .i64 (wrap64 (wrap64 ((ba[z.toNat]'h).toNat : Int))))) W from by
      have hT := tab_ok (k := z.toNat) ht (by rw [HX.out]; exact HXs.out) h
      obtain ⟨y, hy⟩ : ∃ y, (ba[z.toNat]'h).toNat = y := ⟨_, rfl⟩
      have h8 : y ≤ 8 := by rw [← hy]; exact hT.1
      have h9 : 8 ≤ x → 4 ≤ y ∧ 2 ^ y ≤ 2 * x := fun h => by
        have q1 := hT.2.1 (by rw [HX.out]; exact h)
        have q2 := hT.2.2 (by rw [HX.out]; omega)
        rw [hy] at q1 q2
        rw [HX.out] at q2
        exact ⟨q1, q2⟩
      refine ⟨y, ?_, by omega, h9, rfl⟩
      rw [hy, IntWalk.wrap64_in (y : Int) (by omega), IntWalk.wrap64_in (y : Int) (by omega)]))
    rw [hz]
    clear hz hx hlt
    go_enter Try.func63, Try.ntmps63
    go_wp2_with fail
    go_ret
    exact HKey.out _ _ (by kernel_rfl)
  · obtain ⟨z, hz⟩ : ∃ z, (x : Int) = z := ⟨_, rfl⟩
    obtain ⟨y0, hy0⟩ : ∃ y, z / 256 = y := ⟨_, rfl⟩
    have h0 : 256 ≤ z := by omega
    have h1 : z ≤ 65535 := by omega
    have h2 : 1 ≤ y0 := by omega
    have h3 : y0 ≤ 255 := by omega
    have h4 : 0 ≤ y0 := by omega
    have HX := Lib.hid (show 1 ≤ y0.toNat ∧ y0.toNat < 256 ∧ y0.toNat * 256 ≤ x ∧ 256 ≤ x from by omega)
    have HKey := Lib.hid (fun (ba : ByteArray) (h : y0.toNat < ba.size) (ht : (List.range 256).all (tabAt ba) = true) => (show LenE x W (.returned (.int .i64 (wrap64 (8 + wrap64 ((ba[y0.toNat]'h).toNat : Int))))) W from by
      have hT := tab_ok (k := y0.toNat) ht HX.out.2.1 h
      obtain ⟨y, hy⟩ : ∃ y, (ba[y0.toNat]'h).toNat = y := ⟨_, rfl⟩
      have h8 : y ≤ 8 := by rw [← hy]; exact hT.1
      have h9 : 2 ^ (8 + y) ≤ 2 * x := by
        have q2 := hT.2.2 HX.out.1
        rw [hy] at q2
        rw [Nat.pow_add]
        have := HX.out.2.2.1
        have e8 : 2 ^ 8 = 256 := rfl
        rw [e8]
        omega
      refine ⟨8 + y, ?_, by omega, fun _ => ⟨by omega, h9⟩, rfl⟩
      rw [hy, IntWalk.wrap64_in (y : Int) (by omega), IntWalk.wrap64_in (8 + (y : Int)) (by omega)]
      congr 2))
    rw [hz]
    clear hz hx hge
    go_enter Try.func63, Try.ntmps63
    go_wp2_with fail
    go_ret
    exact HKey.out _ _ (by kernel_rfl)
theorem len_is (x : Nat) (hx : x < 65536) (W : World) : Calls Try.prog 43 #[.int .u64 (x : Int)] W (LenE x W) := by
  have H := Lib.hid (len64_is x hx W)
  clear hx
  obtain ⟨z, hz⟩ : ∃ z, (x : Int) = z := ⟨_, rfl⟩
  rw [hz] at H ⊢
  clear hz
  go_enter Try.func43, Try.ntmps43
  go_wp2_with fail
  refine H.out.mono ?_
  rintro e w' ⟨L, rfl, g1, g2, rfl⟩
  have G := Lib.hid (And.intro g1 g2)
  clear g1 g2
  go_wp2_with fail
  go_ret
  exact ⟨L, rfl, G.out.1, G.out.2, rfl⟩

/-- A power of two that is greater, and no more than twice as great. -/
def PowE (x : Nat) (W : World) (e : Ending) (W' : World) : Prop := ∃ m : Nat, e = .returned (.int .u64 (m : Int)) ∧ 1 ≤ m ∧ m ≤ 65536 ∧ m ≤ 2 * x ∧ W = W'
set_option maxRecDepth 100000 in
theorem pow_is (x : Nat) (hx : x < 65536) (h8 : 8 ≤ x) (W : World) : Calls Try.prog 66 #[.int .i64 (x : Int)] W (PowE x W) := by
  have H := Lib.hid (len_is x hx W)
  have H8 := Lib.hid h8
  have hx0 : (0 : Int) ≤ (x : Int) := by omega
  have hx1 : (x : Int) ≤ 65535 := by omega
  clear hx h8
  go_enter Try.func66, Try.ntmps66
  go_wp2_with fail
  refine H.out.mono ?_
  rintro e w' ⟨L, rfl, g1, g2, rfl⟩
  have HE := Lib.hid (show PowE x W (.returned (.int .u64 (IntKind.u64.wrap (2 ^ L)))) W from by
    have g3 := (g2 H8.out).2
    obtain ⟨p, hp⟩ : ∃ p, 2 ^ L = p := ⟨_, rfl⟩
    have hp1 : 1 ≤ p := by rw [← hp]; exact Nat.one_le_two_pow
    have hp2 : p ≤ 65536 := by rw [← hp]; exact Nat.pow_le_pow_right (by omega) g1
    have e : (2 : Int) ^ L = (p : Int) := by rw [← hp]; simp
    rw [hp] at g3
    rw [e]
    exact ⟨p, by rw [IntKind.wrap_u64]; congr 2; omega, hp1, hp2, g3, rfl⟩)
  have g3 := (g2 H8.out).1
  clear g2
  go_wp2_with fail
  go_ret
  exact HE.out

theorem set_off {W : World} {q o k : Nat} {v : Value} (h : k ≠ q) : (W.setCell ⟨q, o, none⟩ v).heap[k]? = W.heap[k]? := by
  show (W.heap.modify q _)[k]? = _
  rw [Array.getElem?_modify, if_neg (Ne.symm h)]

/-- The row, and a number in a block that the call made. -/
structure Sd (W : World) (q off C bs : Nat) (d : Array Int) (Y : World) : Prop where
  put : Put W q off C d Y
  new : W.heap.size ≤ bs
  ne : bs ≠ q
  box : ∃ z : Int, Y.heap[bs]? = some (.cells #[.int .u64 z] 120 (0, 0))
section
variable {W Y Z : World} {q off C bs : Nat} {d d' : Array Int}
theorem Sd.below (h : Sd W q off C bs d Y) (hb : Below Y.heap.size Y Z) : Sd W q off C bs d Z :=
  ⟨h.put.below hb, h.new, h.ne, by obtain ⟨z, hz⟩ := h.box; exact ⟨z, (hb.block bs (heap_at_lt hz)).trans hz⟩⟩
theorem Sd.drew (h : Sd W q off C bs d Y) (n : Nat) : Sd W q off C bs d (Y.drewN n) := h.below (below_draws Y n)
theorem Sd.set (h : Sd W q off C bs d Y) (z : Int) : Sd W q off C bs d (Y.setCell ⟨bs, 0, none⟩ (.int .u64 z)) := by
  obtain ⟨y, hy⟩ := h.box
  obtain ⟨cs, h1, h2, h3⟩ := h.put.row
  refine ⟨⟨h.put.os, h.put.tape, h.put.output, by simpa [World.setCell] using h.put.size, fun k hk hq => ?_, cs, ?_, h2, h3⟩, h.new, h.ne, z, ?_⟩
  · rw [← h.put.other k hk hq]
    show (Y.heap.modify bs _)[k]? = _
    rw [Array.getElem?_modify, if_neg (by have := h.new; omega)]
  · rw [← h1]
    show (Y.heap.modify bs _)[q]? = _
    rw [Array.getElem?_modify, if_neg h.ne]
  · exact heap_setAt hy
theorem Sd.start (h : Put W q off C d Y) (hq : q < Y.heap.size) (z : Int) : Sd W q off C Y.heap.size d (Y.alloc (.cells #[.int .u64 z] 120)) :=
  ⟨h.below (below_alloc Y _), h.size, by omega, z, World.alloc_heap_new Y _⟩
theorem Sd.cell (h : Sd W q off C bs d Y) : ∃ z : Int, Y.cell? ⟨bs, 0, none⟩ = some (.int .u64 z) ∧ Y.frozen? ⟨bs, 0, none⟩ = false := by
  obtain ⟨z, hz⟩ := h.box
  exact ⟨z, (cell_of hz).trans rfl, by simp [World.frozen?, hz]⟩
theorem Sd.swap (h : Sd W q off C bs d Y) {i j : Nat} (hi : i < d.size) (hj : j < d.size) :
    Sd W q off C bs (swp d i j) ((Y.setCell ⟨q, off + i, none⟩ (.int .u64 d[j]!)).setCell ⟨q, off + j, none⟩ (.int .u64 d[i]!)) := by
  refine ⟨h.put.swap hi hj, h.new, h.ne, ?_⟩
  obtain ⟨z, hz⟩ := h.box
  exact ⟨z, by rw [set_off h.ne, set_off h.ne]; exact hz⟩
end

/-- A number that comes next. -/
def NextE (W : World) (q off C bs : Nat) (d : Array Int) (e : Ending) (Y : World) : Prop := ∃ r : Nat, e = .returned (.int .u64 (r : Int)) ∧ r < 18446744073709551616 ∧ Sd W q off C bs d Y

set_option maxRecDepth 100000 in
set_option maxHeartbeats 2000000 in
theorem next_is (W X : World) {q off C bs : Nat} {d : Array Int} (h : Sd W q off C bs d X) : Calls Try.prog 67 #[.pointer (some ⟨bs, 0, none⟩)] X (NextE W q off C bs d) := by
  have H0 := Lib.hid h
  obtain ⟨z, hcz, hfz⟩ := h.cell
  clear h
  go_enter Try.func67, Try.ntmps67
  go_wp2_with fail
  go_region
  all_goals go_wp2_with fail
  have H1 := Lib.hid ((H0.out.set (bits .xor .u64 z (IntKind.u64.wrap (z * 8192)))).drew 1)
  have H1' : Hid (Sd W q off C bs d (X.setCell ⟨bs, 0, none⟩ (.int .u64 (bits .xor .u64 z (IntKind.u64.wrap (z * 8192))))).drew) := H1
  clear H1 hcz hfz H0
  generalize (X.setCell ⟨bs, 0, none⟩ (.int .u64 (bits .xor .u64 z (IntKind.u64.wrap (z * 8192))))).drew = w1 at H1' ⊢
  obtain ⟨z1, hcz, hfz⟩ := H1'.out.cell
  go_region
  all_goals go_wp2_with fail
  have H2 : Hid (Sd W q off C bs d (w1.setCell ⟨bs, 0, none⟩ (.int .u64 (bits .xor .u64 z1 (z1 / 128)))).drew) := (H1'.out.set (bits .xor .u64 z1 (z1 / 128))).drew 1
  clear hcz hfz H1'
  generalize (w1.setCell ⟨bs, 0, none⟩ (.int .u64 (bits .xor .u64 z1 (z1 / 128)))).drew = w2 at H2 ⊢
  obtain ⟨z2, hcz, hfz⟩ := H2.out.cell
  go_region
  all_goals go_wp2_with fail
  go_ret
  have g1 := (bits_within .xor .u64 z2 (IntKind.u64.wrap (z2 * 131072))).1
  have g2 := (bits_within .xor .u64 z2 (IntKind.u64.wrap (z2 * 131072))).2
  have k1 : IntKind.u64.min = 0 := by decide
  have k2 : IntKind.u64.max = 18446744073709551615 := by decide
  refine ⟨(bits .xor .u64 z2 (IntKind.u64.wrap (z2 * 131072))).toNat, ?_, by omega, (H2.out.set (bits .xor .u64 z2 (IntKind.u64.wrap (z2 * 131072)))).drew 1⟩
  rw [Int.toNat_of_nonneg (by omega)]
  rfl
end Go.Proofs.Ytnfepjolbhnhbaa

/-! A row of words whose pattern is broken up: three swaps. -/
namespace Go.Proofs.Ytnfepjolbhnhbaa
open Go Go.RowKit Go.Sort
attribute [local go_sem ↓] Go.wp_at_zero Go.wp_at_succ

def BreakE (W : World) (q off C a b : Nat) (d : Array Int) (e : Ending) (Y : World) : Prop := e = .returned (.tuple #[]) ∧ ∃ u, PermIn a b d u ∧ Put W q off C u Y

set_option maxRecDepth 100000 in
set_option maxHeartbeats 8000000 in
theorem break_any (W : World) {q off C : Nat} {d : Array Int} {n : Nat} (cap a b : Nat) (hP : Put W q off C d W) (hn : d.size = n) (hab : a + 12 < b) (hb : b ≤ n) (hsz : n < 65536) :
    Calls Try.prog 55 #[.slice (some ⟨q, off, none⟩) n cap, .int .i64 a, .int .i64 b] W (BreakE W q off C a b d) := by
  have HN := Lib.hid hn
  obtain ⟨l, hl⟩ : ∃ l, b - a = l := ⟨_, rfl⟩
  obtain ⟨m, hm⟩ : ∃ m, l / 4 = m := ⟨_, rfl⟩
  obtain ⟨i0, hi0⟩ : ∃ i0, a + m * 2 - 1 = i0 := ⟨_, rfl⟩
  obtain ⟨i1, hi1⟩ : ∃ i1, a + m * 2 + 1 = i1 := ⟨_, rfl⟩
  have z0 : (b : Int) - (a : Int) = (l : Int) := by omega
  have z1 : (l : Int).tdiv 4 = (m : Int) := by rw [Int.tdiv_eq_ediv_of_nonneg (by omega)]; omega
  have z2 : (a : Int) + (m : Int) * 2 - 1 = (i0 : Int) := by omega
  have z3 : (a : Int) + (m : Int) * 2 + 1 = (i1 : Int) := by omega
  have l8 : (8 : Int) ≤ (l : Int) := by omega
  have ln : (l : Int) ≤ (n : Int) := by omega
  have lm : (m : Int) ≤ (n : Int) := by omega
  have hz : (n : Int) < 65536 := by omega
  have HI := Lib.hid (show a ≤ i0 ∧ i0 ≤ i1 ∧ i1 < b ∧ a + l = b ∧ 8 ≤ l ∧ l < 65536 from by omega)
  have HS := Lib.hid (Sd.start hP hP.lt (l : Int))
  clear hl hm hi0 hi1 hab hP hn
  go_enter Try.func55, Try.ntmps55
  go_wp2_with fail
  refine (pow_is l HI.out.2.2.2.2.2 HI.out.2.2.2.2.1 _).mono ?_
  rintro en w1 ⟨M, rfl, M1, M2, M3, rfl⟩
  obtain ⟨N, hN⟩ : ∃ N, M - 1 = N := ⟨_, rfl⟩
  have z4 : (M : Int) - 1 = (N : Int) := by omega
  have z5 : (1 : Int) ≤ (M : Int) := by omega
  have z6 : (M : Int) ≤ 65536 := by omega
  have HM := Lib.hid (show N < 2 * l from by omega)
  clear hN M1 M2 M3
  go_wp2_with fail
  go_loopw [9] (fun s9 wr => ∃ (i : Nat) (u : Array Int), s9 = .int .i64 i ∧ a ≤ i ∧ i ≤ i1 + 1 ∧ Hid (u.size = n) ∧ Hid (PermIn a b d u) ∧ Hid (Sd W q off C W.heap.size u wr)) (fun s9 _ => i1 + 1 - (intOf s9).toNat)
  case atStart => exact ⟨i0, d, rfl, HI.out.1, by have := HI.out.2.1; omega, HN, Lib.hid (permIn_refl d a b), HS⟩
  case round =>
    clear HS
    obtain ⟨i, u, rfl, hai, hi1, HU, HPm, H1⟩ := hrel
    by_cases hi : i ≤ i1
    · have hiz : (i : Int) ≤ (i1 : Int) := by omega
      have hib : i < b := by have := HI.out.2.2.1; omega
      go_wp2_with fail
      refine (next_is W _ H1.out).mono ?_
      rintro en w2 ⟨r, rfl, hr, h2⟩
      have H2 := Lib.hid h2
      obtain ⟨o, ho⟩ : ∃ o, r &&& N = o := ⟨_, rfl⟩
      have ho2 : o < 2 * l := by have := HM.out; have := Nat.and_le_right (n := r) (m := N); omega
      have hand : bits .and .u64 (r : Int) (N : Int) = (o : Int) := by rw [← ho]; exact bits_and_u64_nat r N hr (by omega)
      have hoz : (o : Int) ≤ 1000000 := by omega
      have HO := Lib.hid ho2
      clear h2 ho H1 ho2 hr
      go_upto_if 43 with fail
      go_cut [10] (fun s10 wx => w2 = wx ∧ ∃ o2 : Nat, s10 = .int .i64 o2 ∧ o2 < l)
      case first => as_aux_lemma =>
        clear hz z6
        by_cases hol : l ≤ o
        · have holz : (l : Int) ≤ (o : Int) := by omega
          go_wp2_with fail
          go_meet
          case rel => exact ⟨rfl, o - l, by congr 1; omega, by have := HO.out; omega⟩
        · have holz : ¬ (l : Int) ≤ (o : Int) := by omega
          go_wp2_with fail
          go_meet
          case rel => exact ⟨rfl, o, rfl, by omega⟩
      case rest => as_aux_lemma =>
        clear hand hoz HO
        obtain ⟨rfl, o, rfl, hol⟩ := hcut
        have hob : a + o < b := by have := HI.out.2.2.2.1; omega
        obtain ⟨G, hG⟩ : ∃ G : Nat → Int, ∀ t, G t = u[t]! := ⟨fun t => u[t]!, fun _ => rfl⟩
        have hcw : ∀ t, t < n → w2.cell? ⟨q, off + t, none⟩ = some (.int .u64 (G t)) := fun t ht => by rw [hG]; exact H2.out.put.cell (by rw [HU.out]; exact ht)
        have hfw : ∀ t, t < n → w2.frozen? ⟨q, off + t, none⟩ = false := fun t _ => H2.out.put.frozen _
        have HSw := Lib.hid (show Sd W q off C W.heap.size (swp u i (a + o)) (((w2.setCell ⟨q, off + i, none⟩ (.int .u64 u[a + o]!)).setCell ⟨q, off + (a + o), none⟩ (.int .u64 u[i]!)).drew) from (H2.out.swap (by rw [HU.out]; omega) (by rw [HU.out]; omega)).drew 1)
        rw [← hG, ← hG] at HSw
        have HU2 := Lib.hid (show (swp u i (a + o)).size = n from by rw [size_swp]; exact HU.out)
        have HPm2 := Lib.hid (permIn_trans _ _ _ _ _ HPm.out (swp_permIn u a b i (a + o) hai hib (by omega) hob (by rw [HU.out]; exact hb)))
        clear hG H2 HPm HU
        by_cases hne : i = a + o
        · have hnez : (a : Int) + (o : Int) = (i : Int) := by omega
          rw [← hne] at HSw HU2 HPm2
          clear hob hne
          go_upto_region 10 with fail
          go_region
          all_goals go_wp2_with fail
          go_roundw
          case rel => exact ⟨i + 1, _, by go_num, by omega, by omega, HU2, HPm2, HSw⟩
          case measure => simp [intOf]; omega
        · have hnez : (a : Int) + (o : Int) ≠ (i : Int) := by omega
          go_upto_region 10 with fail
          go_region
          all_goals go_wp2_with fail
          go_roundw
          case rel => exact ⟨i + 1, _, by go_num, by omega, by omega, HU2, HPm2, HSw⟩
          case measure => simp [intOf]; omega
    · have hiz : ¬ (i : Int) ≤ (i1 : Int) := by omega
      go_wp2_with fail
      go_end0
      exact ⟨rfl, u, HPm.out, H1.out.put⟩
end Go.Proofs.Ytnfepjolbhnhbaa

/-! What the sort of words keeps: plain mathematics. -/
namespace Go.Proofs.Ytnfepjolbhnhbaa
open Go Go.RowKit Go.Sort

theorem lt_no {x y : Int} : ltInt x y = false ↔ y ≤ x := by unfold ltInt; simp
theorem lt_yes {x y : Int} : ltInt x y = true ↔ x < y := by unfold ltInt; simp

/-- In order but for what lies in [x, y). -/
def Out (a b x y : Nat) (u : Array Int) : Prop := ∀ i j, a ≤ i → i < j → j < b → (i < x ∨ y ≤ j) → u[i]! ≤ u[j]!
/-- What lies ahead of the part is not greater. -/
def Floor (a b : Nat) (u : Array Int) : Prop := a = 0 ∨ ∀ i, a ≤ i → i < b → u[a - 1]! ≤ u[i]!
def Ord (a b : Nat) (u : Array Int) : Prop := ∀ i j, a ≤ i → i < j → j < b → u[i]! ≤ u[j]!
section
variable {a b x y m : Nat} {d u u' u2 : Array Int}
theorem Ord.of (h : SortedIn ltInt a b u) : Ord a b u := fun i j h1 h2 h3 => lt_no.1 (h i j h1 h2 h3)
theorem Floor.sort (h : Floor a b u) : Go.Sort.Below ltInt a b u := h.elim .inl (fun h => .inr (fun i h1 h2 => lt_no.2 (h i h1 h2)))
theorem Out.whole (a b : Nat) (u : Array Int) : Out a b a b u := fun i j h1 _ h3 h4 => by omega
theorem Out.perm (h : Out a b x y u) (hax : a ≤ x) (hyb : y ≤ b) (hy : y ≤ u.size) (p : PermIn x y u u') : Out a b x y u' := by
  intro i j hi hij hj ho
  rcases Nat.lt_or_ge i x with hix | hix
  · rw [p.2.1 i (.inl hix)]
    by_cases hjy : x ≤ j ∧ j < y
    · exact permIn_all u u' x y (fun v => u[i]! ≤ v) hy p (fun t h1 h2 => h i t hi (by omega) (by omega) (.inl hix)) j hjy.1 hjy.2
    · rw [p.2.1 j (by omega)]
      exact h i j hi hij hj ho
  · have hjy : y ≤ j := by omega
    rw [p.2.1 j (.inr hjy)]
    by_cases hiy : i < y
    · exact permIn_all u u' x y (fun v => v ≤ u[j]!) hy p (fun t h1 h2 => h t j (by omega) (by omega) hj (.inr hjy)) i hix hiy
    · rw [p.2.1 i (.inr (by omega))]
      exact h i j hi hij hj ho
theorem Out.close (h : Out a b x y u) (ho : Ord x y u) : Ord a b u := fun i j h1 h2 h3 => by
  by_cases hc : i < x ∨ y ≤ j
  · exact h i j h1 h2 h3 hc
  · exact ho i j (by omega) h2 (by omega)
theorem Floor.perm (h : Floor a b u) (hb : b ≤ u.size) (p : PermIn a b u u') : Floor a b u' := by
  rcases h with h | h
  · exact .inl h
  · by_cases h0 : a = 0
    · exact .inl h0
    · refine .inr (fun i h1 h2 => ?_)
      rw [p.2.1 (a - 1) (.inl (by omega))]
      exact permIn_all u u' a b (fun v => u[a - 1]! ≤ v) hb p h i h1 h2
theorem Floor.inner (h : Floor a b u) (ho : Out a b x y u) (hax : a ≤ x) (hyb : y ≤ b) : Floor x y u := by
  rcases Nat.lt_or_ge a x with hx | hx
  · exact .inr (fun i h1 h2 => ho (x - 1) i (by omega) (by omega) (by omega) (.inl (by omega)))
  · obtain rfl : a = x := by omega
    exact h.elim .inl (fun h => .inr (fun i h1 h2 => h i h1 (by omega)))
theorem PartR.ltm (h : PartR a b m d u) {t : Nat} (h1 : a ≤ t) (h2 : t < m) : u[t]! < u[m]! := lt_yes.1 (h.2.2.2.1 t h1 h2)
theorem PartR.gem (h : PartR a b m d u) {t : Nat} (h1 : m < t) (h2 : t < b) : u[m]! ≤ u[t]! := lt_no.1 (h.2.2.2.2 t h1 h2)
/-- The first part has been put into order. -/
theorem Out.first (h : Out a b x y u) (hax : a ≤ x) (hyb : y ≤ b) (hy : y ≤ u.size) (p : PartR x y m d u) (q : PermIn x m u u2) (s : Ord x m u2) : Out a b (m + 1) y u2 := by
  have hx := p.1
  have hm := p.2.1
  have h2 : Out a b x y u2 := h.perm hax hyb hy (permIn_mono _ _ _ _ _ _ (Nat.le_refl x) (by omega) hy q)
  have em : u2[m]! = u[m]! := q.2.1 m (.inr (Nat.le_refl m))
  intro i j hi hij hj ho
  by_cases hc : i < x ∨ y ≤ j
  · exact h2 i j hi hij hj hc
  · have hl : i < m → u2[i]! < u[m]! := fun him => permIn_all u u2 x m (fun v => v < u[m]!) (by omega) q (fun t h1 h2 => p.ltm h1 h2) i (by omega) him
    have hg : m < j → u[m]! ≤ u2[j]! := fun hmj => by rw [q.2.1 j (.inr (by omega))]; exact p.gem hmj (by omega)
    rcases Nat.lt_trichotomy j m with h3 | h3 | h3
    · exact s i j (by omega) hij h3
    · subst h3; rw [em]; have := hl hij; omega
    · rcases Nat.lt_or_ge i m with h4 | h4
      · have := hl h4; have := hg h3; omega
      · obtain rfl : i = m := by omega
        rw [em]; exact hg h3
/-- The second part has been put into order. -/
theorem Out.second (h : Out a b x y u) (hax : a ≤ x) (hyb : y ≤ b) (hy : y ≤ u.size) (p : PartR x y m d u) (q : PermIn (m + 1) y u u2) (s : Ord (m + 1) y u2) : Out a b x m u2 := by
  have hx := p.1
  have hm := p.2.1
  have h2 : Out a b x y u2 := h.perm hax hyb hy (permIn_mono _ _ _ _ _ _ (by omega) (Nat.le_refl y) hy q)
  have em : u2[m]! = u[m]! := q.2.1 m (.inl (by omega))
  intro i j hi hij hj ho
  by_cases hc : i < x ∨ y ≤ j
  · exact h2 i j hi hij hj hc
  · have hl : i < m → u2[i]! < u[m]! := fun him => by rw [q.2.1 i (.inl (by omega))]; exact p.ltm (by omega) him
    have hg : m < j → u[m]! ≤ u2[j]! := fun hmj => permIn_all u u2 (m + 1) y (fun v => u[m]! ≤ v) hy q (fun t h1 h2 => p.gem (by omega) h2) j (by omega) (by omega)
    rcases Nat.lt_trichotomy i m with h3 | h3 | h3
    · rcases Nat.lt_trichotomy j m with h4 | h4 | h4
      · omega
      · subst h4; rw [em]; have := hl h3; omega
      · have := hl h3; have := hg h4; omega
    · subst h3; rw [em]; exact hg hij
    · exact s i j (by omega) hij (by omega)
theorem PartR.floor1 (p : PartR x y m d u) (h : Floor x y u) : Floor x m u := h.elim .inl (fun h => .inr (fun i h1 h2 => h i h1 (by have := p.2.1; omega)))
theorem PartR.floor2 (p : PartR x y m d u) : Floor (m + 1) y u := .inr (fun i h1 h2 => by rw [Nat.add_sub_cancel]; exact p.gem (by omega) h2)

theorem perm_whole (hb : b ≤ d.size) (h : PermIn a b d u) : u.toList.Perm d.toList := by
  have h2 := (permIn_mono d u a b 0 d.size (Nat.zero_le _) hb (Nat.le_refl _) h).2.2
  have e1 : u.extract 0 d.size = u := by rw [← h.1]; simp
  have e2 : d.extract 0 d.size = d := by simp
  rw [e1, e2] at h2
  exact h2
theorem dist_ne (h : u.toList.Nodup) {i j : Nat} (hi : i < u.size) (hj : j < u.size) (hij : i ≠ j) : u[i]! ≠ u[j]! := by
  rw [getElem!_pos u i hi, getElem!_pos u j hj]
  have hp := List.pairwise_iff_getElem.1 h
  rcases Nat.lt_or_gt_of_ne hij with h1 | h1
  · have := hp i j (by simpa using hi) (by simpa using hj) h1
    simpa using this
  · have := hp j i (by simpa using hj) (by simpa using hi) h1
    exact fun e => this (by simpa using e.symm)
end
end Go.Proofs.Ytnfepjolbhnhbaa
