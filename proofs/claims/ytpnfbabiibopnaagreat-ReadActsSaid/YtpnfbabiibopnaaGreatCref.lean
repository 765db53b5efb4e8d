/-
  The reference's config: whether it may be, all cells, where a thing stands.
-/
import Derived.Test.YtpnfbabiibopnaaGreatQ07
import Derived.Test.YtpnfbabiibopnaaGreatQ01
import Derived.OwnWalk
import Derived.Maps.AppendAt
namespace Go.Proofs.YtpnfbabiibopnaaGreat
open Go Go.RowKit

def nameP (i : Nat) : ByteArray := ([⟨#[101, 112, 111, 99, 104]⟩, ⟨#[113, 117, 101, 117, 101]⟩, ⟨#[100, 114, 97, 105, 110, 101, 100]⟩, ⟨#[112, 105, 110]⟩, ⟨#[114, 105, 110, 103]⟩, ⟨#[107, 101, 121]⟩, ⟨#[104, 101, 97, 100]⟩] : List ByteArray).getD i ⟨#[]⟩
def spotN (a p n : Int) : Nat := if n < 3 then n.toNat else if n < 3 + p then 3 else if n < 3 + p + a then 4 else 5 + ((n - (3 + p + a)) % 2).toNat
def spotI (a p n : Int) : Int := if n < 3 then 0 else if n < 3 + p then n - 3 else if n < 3 + p + a then n - (3 + p) else (n - (3 + p + a)) / 2

/-! ### which thing stands where -/
section
variable {a p n : Int}
theorem spotN_3 (h1 : 3 ≤ n) (h2 : n < 3 + p) : spotN a p n = 3 := by unfold spotN; rw [if_neg (by omega), if_pos h2]
theorem spotI_3 (h1 : 3 ≤ n) (h2 : n < 3 + p) : spotI a p n = n - 3 := by unfold spotI; rw [if_neg (by omega), if_pos h2]
theorem spotN_4 (h1 : 3 ≤ n ∧ 3 + p ≤ n) (h2 : n < 3 + p + a) : spotN a p n = 4 := by unfold spotN; rw [if_neg (by omega), if_neg (by omega), if_pos h2]
theorem spotI_4 (h1 : 3 ≤ n ∧ 3 + p ≤ n) (h2 : n < 3 + p + a) : spotI a p n = n - (3 + p) := by unfold spotI; rw [if_neg (by omega), if_neg (by omega), if_pos h2]
theorem spotN_5 (h1 : 3 ≤ n ∧ 3 + p ≤ n) (h2 : 3 + p + a ≤ n) (h3 : (n - (3 + p + a)) % 2 = 0) : spotN a p n = 5 := by unfold spotN; rw [if_neg (by omega), if_neg (by omega), if_neg (by omega), h3]; rfl
theorem spotN_6 (h1 : 3 ≤ n ∧ 3 + p ≤ n) (h2 : 3 + p + a ≤ n) (h3 : (n - (3 + p + a)) % 2 = 1) : spotN a p n = 6 := by unfold spotN; rw [if_neg (by omega), if_neg (by omega), if_neg (by omega), h3]; rfl
theorem spotI_5 (h1 : 3 ≤ n ∧ 3 + p ≤ n) (h2 : 3 + p + a ≤ n) : spotI a p n = (n - (3 + p + a)) / 2 := by unfold spotI; rw [if_neg (by omega), if_neg (by omega), if_neg (by omega)]
end

/-! ### may it be? -/
set_option maxRecDepth 100000 in
set_option maxHeartbeats 2000000 in
theorem rright_any (a p s q v x : Int) (W : World) : Calls Tryz.prog 6 #[cfV a p s q v x] W (Says (rightC a p s q v) W) := by
  have X0 := Lib.hid (BoxC.start W a p s q v x)
  obtain ⟨c0, c1, c2, c3, c4, c5⟩ := X0.out.six
  by_cases h0 : 1 ≤ a
  rotate_left
  · rw [show rightC a p s q v = false from decide_eq_false (fun h => h0 (by omega))]
    go_enter Tryz.func6, Tryz.ntmps6
    go_wp2_with fail
    go_ret
    exact ⟨rfl, X0.out.lo⟩
  by_cases h1 : a ≤ 32
  rotate_left
  · rw [show rightC a p s q v = false from decide_eq_false (fun h => h1 (by omega))]
    go_enter Tryz.func6, Tryz.ntmps6
    go_wp2_with fail
    go_ret
    exact ⟨rfl, X0.out.lo⟩
  by_cases h2 : 1 ≤ p
  rotate_left
  · rw [show rightC a p s q v = false from decide_eq_false (fun h => h2 (by omega))]
    go_enter Tryz.func6, Tryz.ntmps6
    go_wp2_with fail
    go_ret
    exact ⟨rfl, X0.out.lo⟩
  by_cases h3 : p ≤ 8
  rotate_left
  · rw [show rightC a p s q v = false from decide_eq_false (fun h => h3 (by omega))]
    go_enter Tryz.func6, Tryz.ntmps6
    go_wp2_with fail
    go_ret
    exact ⟨rfl, X0.out.lo⟩
  by_cases h4 : 1 ≤ s
  rotate_left
  · rw [show rightC a p s q v = false from decide_eq_false (fun h => h4 (by omega))]
    go_enter Tryz.func6, Tryz.ntmps6
    go_wp2_with fail
    go_ret
    exact ⟨rfl, X0.out.lo⟩
  by_cases h5 : s ≤ 64
  rotate_left
  · rw [show rightC a p s q v = false from decide_eq_false (fun h => h5 (by omega))]
    go_enter Tryz.func6, Tryz.ntmps6
    go_wp2_with fail
    go_ret
    exact ⟨rfl, X0.out.lo⟩
  by_cases h6 : 0 ≤ q
  rotate_left
  · rw [show rightC a p s q v = false from decide_eq_false (fun h => h6 (by omega))]
    go_enter Tryz.func6, Tryz.ntmps6
    go_wp2_with fail
    go_ret
    exact ⟨rfl, X0.out.lo⟩
  by_cases h7 : q ≤ 64
  rotate_left
  · rw [show rightC a p s q v = false from decide_eq_false (fun h => h7 (by omega))]
    go_enter Tryz.func6, Tryz.ntmps6
    go_wp2_with fail
    go_ret
    exact ⟨rfl, X0.out.lo⟩
  by_cases h8 : 0 ≤ v
  rotate_left
  · rw [show rightC a p s q v = false from decide_eq_false (fun h => h8 (by omega))]
    go_enter Tryz.func6, Tryz.ntmps6
    go_wp2_with fail
    go_ret
    exact ⟨rfl, X0.out.lo⟩
  by_cases h9 : v ≤ 8
  rotate_left
  · rw [show rightC a p s q v = false from decide_eq_false (fun h => h9 (by omega))]
    go_enter Tryz.func6, Tryz.ntmps6
    go_wp2_with fail
    go_ret
    exact ⟨rfl, X0.out.lo⟩
  rw [show rightC a p s q v = true from decide_eq_true ⟨⟨h0, h1⟩, ⟨h2, h3⟩, ⟨h4, h5⟩, ⟨h6, h7⟩, h8, h9⟩]
  go_enter Tryz.func6, Tryz.ntmps6
  go_wp2_with fail
  go_ret
  exact ⟨rfl, X0.out.lo⟩

/-! ### all cells -/
theorem info_cell : (Tryz.prog.info? 155).map (fun i => (i.zero, i.size, i.bytes)) = some (some (.agg #[.string ⟨#[]⟩, .int .i64 0]), 2, 24) := by kernel_rfl
/-- The first n cells: what stands in each. -/
def cellsL (a p : Int) (n : Nat) : List Value := (List.range n).flatMap fun (k : Nat) => [Value.string (nameP (spotN a p k)), .int .i64 (spotI a p k)]
theorem cellsL_one (a p : Int) (n : Nat) {nm : ByteArray} {i : Int} (hn : nameP (spotN a p n) = nm) (hi : spotI a p n = i) : cellsL a p n ++ [.string nm, .int .i64 i] = cellsL a p (n + 1) := by
  subst hn hi
  unfold cellsL
  rw [List.range_succ, List.flatMap_append]
  rfl
theorem cellsL_len (a p : Int) : ∀ n, (cellsL a p n).length = n * 2
  | 0 => rfl
  | n + 1 => by rw [← cellsL_one a p n rfl rfl, List.length_append, cellsL_len a p n]; simp; omega
theorem cellsL_at (a p : Int) : ∀ {n j : Nat}, j < n → (cellsL a p n)[j * 2]? = some (.string (nameP (spotN a p j))) ∧ (cellsL a p n)[j * 2 + 1]? = some (.int .i64 (spotI a p j))
  | 0, j, h => absurd h (Nat.not_lt_zero _)
  | n + 1, j, h => by
    rw [← cellsL_one a p n rfl rfl]
    by_cases hj : j < n
    · rw [List.getElem?_append_left (by rw [cellsL_len]; omega), List.getElem?_append_left (by rw [cellsL_len]; omega)]
      exact cellsL_at a p hj
    · obtain rfl : j = n := by omega
      rw [List.getElem?_append_right (by rw [cellsL_len]; omega), List.getElem?_append_right (by rw [cellsL_len]; omega), cellsL_len, show j * 2 - j * 2 = 0 by omega, show j * 2 + 1 - j * 2 = 1 by omega]
      exact ⟨rfl, rfl⟩
/-- The first n cells lie, in a row of their own; the config lies in its box. -/
structure CeI (W : World) (a p s q v x : Int) (lq n cap : Nat) (X : World) : Prop where
  bx : BoxC W a p s q v x X
  lot : Lot X 155 2 (.slice (some ⟨lq, 0, none⟩) n cap) n (cellsL a p n)
  ll : W.heap.size < lq
section
variable {W X Y : World} {a p s q v x : Int} {lq n cap : Nat}
theorem CeI.below (h : CeI W a p s q v x lq n cap X) (hb : Below X.heap.size X Y) : CeI W a p s q v x lq n cap Y := ⟨h.bx.below hb, h.lot.below hb, h.ll⟩
theorem CeI.grow {m lq' cap' : Nat} {news : List Value} (h : CeI W a p s q v x lq n cap X) (hL : Lot Y 155 2 (.slice (some ⟨lq', 0, none⟩) (n + m) cap') (n + m) (cellsL a p n ++ news)) (hg : X.grownBy Y (Value.slice (some ⟨lq, 0, none⟩) n cap).ownBlock) (hat : (Value.slice (some ⟨lq, 0, none⟩) n cap).ownBlock = some lq' ∨ lq' = X.heap.size) (hn : cellsL a p n ++ news = cellsL a p (n + m)) :
    CeI W a p s q v x lq' (n + m) cap' Y := by
  have hbs := heap_lt h.bx.b
  refine ⟨⟨h.bx.lo.grown hg h.bx.lo.size (fun j hj => ?_), (hg.block _ hbs (fun e => ?_)).trans h.bx.b⟩, hn ▸ hL, ?_⟩
  · obtain rfl : lq = j := by simpa [Value.ownBlock] using hj
    exact Nat.le_of_lt h.ll
  · have : W.heap.size = lq := by simpa [Value.ownBlock] using e
    have := h.ll; omega
  · rcases hat with h0 | h0
    · obtain rfl : lq = lq' := by simpa [Value.ownBlock] using h0
      exact h.ll
    · rw [h0]; exact hbs
theorem CeI.start (h : BoxC W a p s q v x X) (hL : cellsL a p 3 = [.string ⟨#[101, 112, 111, 99, 104]⟩, .int .i64 0, .string ⟨#[113, 117, 101, 117, 101]⟩, .int .i64 0, .string ⟨#[100, 114, 97, 105, 110, 101, 100]⟩, .int .i64 0]) :
    CeI W a p s q v x X.heap.size 3 3 (X.alloc (.cells #[.string ⟨#[101, 112, 111, 99, 104]⟩, .int .i64 0, .string ⟨#[113, 117, 101, 117, 101]⟩, .int .i64 0, .string ⟨#[100, 114, 97, 105, 110, 101, 100]⟩, .int .i64 0] 155)) :=
  ⟨h.below (below_alloc X _), ⟨by rw [hL]; rfl, .inr ⟨_, 3, _, rfl, heap_alloc_new X _, Nat.le_refl _, by unfold maxLen; omega, by simp, by rw [hL]; rfl⟩⟩, heap_lt h.b⟩
end
theorem cellsL_three (a p : Int) : cellsL a p 3 = [.string ⟨#[101, 112, 111, 99, 104]⟩, .int .i64 0, .string ⟨#[113, 117, 101, 117, 101]⟩, .int .i64 0, .string ⟨#[100, 114, 97, 105, 110, 101, 100]⟩, .int .i64 0] := by
  rw [← cellsL_one a p 2 (nm := ⟨#[100, 114, 97, 105, 110, 101, 100]⟩) (i := 0) rfl rfl, ← cellsL_one a p 1 (nm := ⟨#[113, 117, 101, 117, 101]⟩) (i := 0) rfl rfl, ← cellsL_one a p 0 (nm := ⟨#[101, 112, 111, 99, 104]⟩) (i := 0) rfl rfl]
  rfl
/-- What Cells tells: the first n. -/
def CellsD (a p : Int) (n : Nat) (W : World) (e : Ending) (W' : World) : Prop := ∃ u, e = .returned u ∧ Lot W' 155 2 u n (cellsL a p n) ∧ Below W.heap.size W W'

theorem cell_news (w : World) (nm : ByteArray) (i : Int) (t : TypeId) : ∀ j u, [Value.string nm, .int .i64 i][j]? = some u → (w.alloc (.cells #[.string nm, .int .i64 i] t)).cell? ((⟨w.heap.size, 0, none⟩ : Addr).add j) = some u :=
  World.news_of_block (cs := #[.string nm, .int .i64 i]) (heap_alloc_new w _)
theorem cell_news2 (w : World) (nm nm' : ByteArray) (i i' : Int) (t : TypeId) : ∀ j u, [Value.string nm, .int .i64 i, .string nm', .int .i64 i'][j]? = some u → (w.alloc (.cells #[.string nm, .int .i64 i, .string nm', .int .i64 i'] t)).cell? ((⟨w.heap.size, 0, none⟩ : Addr).add j) = some u :=
  World.news_of_block (cs := #[.string nm, .int .i64 i, .string nm', .int .i64 i']) (heap_alloc_new w _)

theorem rcells_bad (a p s q v x : Int) (W : World) (hr : rightC a p s q v = false) : Calls Tryz.prog 80 #[cfV a p s q v x] W (CellsD a p 0 W) := by
  have HR := Lib.hid (fun X : World => rright_any a p s q v x X)
  rw [hr] at HR
  have X0 := Lib.hid (BoxC.start W a p s q v x)
  obtain ⟨c0, c1, c2, c3, c4, c5⟩ := X0.out.six
  clear hr
  go_enter Tryz.func80, Tryz.ntmps80
  go_wp2_with fail
  refine (HR.out _).mono ?_
  rintro e w1 ⟨rfl, hb⟩
  have X1 := Lib.hid (X0.out.below hb)
  clear hb c0 c1 c2 c3 c4 c5
  go_wp2_with fail
  go_ret
  exact ⟨_, rfl, Lot.nil _ _ _, X1.out.lo⟩

set_option maxRecDepth 100000 in
set_option maxHeartbeats 4000000 in
theorem rcells_good (a p s : Nat) (q v x : Int) (W : World) (hr : rightC a p s q v = true) : Calls Tryz.prog 80 #[cfV a p s q v x] W (CellsD a p (3 + p + a + 2 * s) W) := by
  have HR := Lib.hid (fun X : World => rright_any a p s q v x X)
  rw [hr] at HR
  obtain ⟨⟨a1, a32⟩, ⟨p1, p8⟩, s1, s64⟩ := rightC_bd hr
  have X0 := Lib.hid (BoxC.start W a p s q v x)
  obtain ⟨c0, c1, c2, c3, c4, c5⟩ := X0.out.six
  clear hr
  go_enter Tryz.func80, Tryz.ntmps80
  go_wp2_with fail
  refine (HR.out _).mono ?_
  rintro e w1 ⟨rfl, hb⟩
  have X1 := Lib.hid (X0.out.below hb)
  clear hb c0 c1 c2 c3 c4 c5
  obtain ⟨c0, c1, c2, c3, c4, c5⟩ := X1.out.six
  go_wp2_with fail
  clear c0 c1 c2 c3 c4 c5
  have A0 := Lib.hid (CeI.start X1.out (cellsL_three a p))
  generalize (w1.alloc (.cells #[.string ⟨#[101, 112, 111, 99, 104]⟩, .int .i64 0, .string ⟨#[113, 117, 101, 117, 101]⟩, .int .i64 0, .string ⟨#[100, 114, 97, 105, 110, 101, 100]⟩, .int .i64 0] 155)) = w3 at A0 ⊢
  generalize w1.heap.size = g at A0 ⊢
  obtain ⟨i0, gi, gz0, gz1, gz2⟩ := info_parts info_cell
  go_loopw [3, 4] (fun lv i wr => ∃ (k lq cap : Nat), lv = .slice (some ⟨lq, 0, none⟩) (3 + k) cap ∧ i = .int .i64 k ∧ k ≤ p ∧ Hid (CeI W a p s q v x lq (3 + k) cap wr)) (fun _ i _ => p - (intOf i).toNat)
  case atStart => exact ⟨0, _, _, rfl, rfl, Nat.zero_le _, A0⟩
  case round =>
    clear A0
    obtain ⟨k, lq, cap, rfl, rfl, hkn, HA⟩ := hrel
    have hk0 : (0 : Int) ≤ (k : Int) := by omega
    obtain ⟨c0, c1, c2, c3, c4, c5⟩ := HA.out.bx.six
    by_cases hlt : k < p
    · have hk1 : (k : Int) < (p : Int) := by omega
      have hE1 : 3 + k + 1 ≤ maxLen := by unfold maxLen; omega
      have hE2 : (3 + k + 1) * 24 ≤ 140737488355328 := by omega
      have hEN : cellsL a p (3 + k) ++ [.string ⟨#[112, 105, 110]⟩, .int .i64 (k : Int)] = cellsL a p (3 + k + 1) := cellsL_one a p (3 + k) (by rw [show spotN a p ((3 + k : Nat) : Int) = 3 from spotN_3 (by omega) (by omega)]; rfl) (by first | exact (spotI_3 (by omega) (by omega)).trans (by omega))
      have A2 := Lib.hid (HA.out.below (below_alloc wr (.cells #[.string ⟨#[112, 105, 110]⟩, .int .i64 (k : Int)] 155)))
      go_wp2_with (at_builtin; refine wpList_append_lot _ rfl _ _ 152 rfl 155 i0 _ 2 24 Tryz.underlying152 gi gz0 gz1 gz2 rfl (.slice (some ⟨lq, 0, none⟩) (3 + k) cap) (3 + k) _ rfl A2.out.lot ⟨wr.heap.size, 0, none⟩ 1 1 [.string ⟨#[112, 105, 110]⟩, .int .i64 (k : Int)] rfl rfl (cell_news _ _ _ _) (by simp [Value.oneCell']) (by omega) hE1 hE2 _ rfl ?_; intro g4 cap4 w4 hL4 hg4 hat4; have A4 := Lib.hid (A2.out.grow hL4 hg4 hat4 hEN); clear hL4 hg4 hat4)
      go_roundw
      case rel => exact ⟨k + 1, g4, cap4, rfl, by go_num, by omega, A4⟩
      case measure => simp [intOf]; omega
    · obtain rfl : p = k := by omega
      clear hlt hkn
      have A0 := HA
      clear HA
      go_wp2_with fail
      clear c0 c1 c2 c3 c4 c5
      go_loopw [3, 5] (fun lv i wr => ∃ (k lq cap : Nat), lv = .slice (some ⟨lq, 0, none⟩) (3 + p + k) cap ∧ i = .int .i64 k ∧ k ≤ a ∧ Hid (CeI W a p s q v x lq (3 + p + k) cap wr)) (fun _ i _ => a - (intOf i).toNat)
      case atStart => exact ⟨0, _, _, rfl, rfl, Nat.zero_le _, A0⟩
      case round =>
        clear A0
        obtain ⟨k, lq, cap, rfl, rfl, hkn, HA⟩ := hrel
        have hk0 : (0 : Int) ≤ (k : Int) := by omega
        obtain ⟨c0, c1, c2, c3, c4, c5⟩ := HA.out.bx.six
        by_cases hlt : k < a
        · have hk1 : (k : Int) < (a : Int) := by omega
          have hE1 : 3 + p + k + 1 ≤ maxLen := by unfold maxLen; omega
          have hE2 : (3 + p + k + 1) * 24 ≤ 140737488355328 := by omega
          have hEN : cellsL a p (3 + p + k) ++ [.string ⟨#[114, 105, 110, 103]⟩, .int .i64 (k : Int)] = cellsL a p (3 + p + k + 1) := cellsL_one a p (3 + p + k) (by rw [show spotN a p ((3 + p + k : Nat) : Int) = 4 from spotN_4 (by omega) (by omega)]; rfl) (by first | exact (spotI_4 (by omega) (by omega)).trans (by omega))
          have A2 := Lib.hid (HA.out.below (below_alloc wr (.cells #[.string ⟨#[114, 105, 110, 103]⟩, .int .i64 (k : Int)] 155)))
          go_wp2_with (at_builtin; refine wpList_append_lot _ rfl _ _ 152 rfl 155 i0 _ 2 24 Tryz.underlying152 gi gz0 gz1 gz2 rfl (.slice (some ⟨lq, 0, none⟩) (3 + p + k) cap) (3 + p + k) _ rfl A2.out.lot ⟨wr.heap.size, 0, none⟩ 1 1 [.string ⟨#[114, 105, 110, 103]⟩, .int .i64 (k : Int)] rfl rfl (cell_news _ _ _ _) (by simp [Value.oneCell']) (by omega) hE1 hE2 _ rfl ?_; intro g4 cap4 w4 hL4 hg4 hat4; have A4 := Lib.hid (A2.out.grow hL4 hg4 hat4 hEN); clear hL4 hg4 hat4)
          go_roundw
          case rel => exact ⟨k + 1, g4, cap4, rfl, by go_num, by omega, A4⟩
          case measure => simp [intOf]; omega
        · obtain rfl : a = k := by omega
          clear hlt hkn
          have A0 := HA
          clear HA
          go_wp2_with fail
          clear c0 c1 c2 c3 c4 c5
          go_loopw [3, 6] (fun lv i wr => ∃ (k lq cap : Nat), lv = .slice (some ⟨lq, 0, none⟩) (3 + p + a + 2 * k) cap ∧ i = .int .i64 k ∧ k ≤ s ∧ Hid (CeI W a p s q v x lq (3 + p + a + 2 * k) cap wr)) (fun _ i _ => s - (intOf i).toNat)
          case atStart => exact ⟨0, _, _, rfl, rfl, Nat.zero_le _, A0⟩
          case round =>
            clear A0
            obtain ⟨k, lq, cap, rfl, rfl, hkn, HA⟩ := hrel
            have hk0 : (0 : Int) ≤ (k : Int) := by omega
            obtain ⟨c0, c1, c2, c3, c4, c5⟩ := HA.out.bx.six
            by_cases hlt : k < s
            · have hk1 : (k : Int) < (s : Int) := by omega
              have hE1 : 3 + p + a + 2 * k + 2 ≤ maxLen := by unfold maxLen; omega
              have hE2 : (3 + p + a + 2 * k + 2) * 24 ≤ 140737488355328 := by omega
              have hEN : cellsL a p (3 + p + a + 2 * k) ++ [.string ⟨#[107, 101, 121]⟩, .int .i64 (k : Int), .string ⟨#[104, 101, 97, 100]⟩, .int .i64 (k : Int)] = cellsL a p (3 + p + a + 2 * k + 2) := by
                rw [← cellsL_one a p (3 + p + a + 2 * k + 1) (nm := ⟨#[104, 101, 97, 100]⟩) (i := k) (by rw [show spotN a p ((3 + p + a + 2 * k + 1 : Nat) : Int) = 6 from spotN_6 (by omega) (by omega) (by omega)]; rfl) ((spotI_5 (by omega) (by omega)).trans (by omega)), ← cellsL_one a p (3 + p + a + 2 * k) (nm := ⟨#[107, 101, 121]⟩) (i := k) (by rw [show spotN a p ((3 + p + a + 2 * k : Nat) : Int) = 5 from spotN_5 (by omega) (by omega) (by omega)]; rfl) ((spotI_5 (by omega) (by omega)).trans (by omega)), List.append_assoc]
                rfl
              have A2 := Lib.hid (HA.out.below (below_alloc wr (.cells #[.string ⟨#[107, 101, 121]⟩, .int .i64 (k : Int), .string ⟨#[104, 101, 97, 100]⟩, .int .i64 (k : Int)] 155)))
              go_wp2_with (at_builtin; refine wpList_append_lot _ rfl _ _ 152 rfl 155 i0 _ 2 24 Tryz.underlying152 gi gz0 gz1 gz2 rfl (.slice (some ⟨lq, 0, none⟩) (3 + p + a + 2 * k) cap) (3 + p + a + 2 * k) _ rfl A2.out.lot ⟨wr.heap.size, 0, none⟩ 2 2 [.string ⟨#[107, 101, 121]⟩, .int .i64 (k : Int), .string ⟨#[104, 101, 97, 100]⟩, .int .i64 (k : Int)] rfl rfl (cell_news2 _ _ _ _ _ _) (by simp [Value.oneCell']) (by omega) hE1 hE2 _ rfl ?_; intro g4 cap4 w4 hL4 hg4 hat4; have A4 := Lib.hid (A2.out.grow hL4 hg4 hat4 hEN); clear hL4 hg4 hat4)
              go_roundw
              case rel => exact ⟨k + 1, g4, cap4, rfl, by go_num, by omega, A4⟩
              case measure => simp [intOf]; omega
            · obtain rfl : s = k := by omega
              clear hlt hkn
              go_wp2_with fail
              go_ret
              exact ⟨_, rfl, HA.out.lot, HA.out.bx.lo⟩

/-! ### the names are unlike -/
theorem names_unlike : ∀ u, u < 7 → ∀ c, c < 7 → ((nameP u).data.toList == (nameP c).data.toList) = decide (u = c) := by decide +kernel
theorem name_eq {u c : Nat} (hu : u < 7) (hc : c < 7) : ((nameP u).toList == (nameP c).toList) = decide (u = c) := by
  rw [ByteArray.toList_eq, ByteArray.toList_eq]
  exact names_unlike u hu c hc
theorem spotN_lt {a p n : Int} (h : 0 ≤ n) : spotN a p n < 7 := by
  unfold spotN
  split
  · omega
  · split
    · omega
    · split
      · omega
      · omega

/-- Does the thing c, of the number i, stand in the cell j? -/
def hitW (a p : Int) (c : Nat) (i : Int) (j : Nat) : Prop := spotN a p j = c ∧ spotI a p j = i
/-- r is the first of the first n cells in which it stands; -1: it stands in none. -/
def FirstW (a p : Int) (n c : Nat) (i r : Int) : Prop := (r = -1 ∧ ∀ j, j < n → ¬ hitW a p c i j) ∨ ∃ k : Nat, k < n ∧ r = k ∧ hitW a p c i k ∧ ∀ j, j < k → ¬ hitW a p c i j

theorem lot_two {X : World} {u : Value} {a p : Int} {n j : Nat} (h : Lot X 155 2 u n (cellsL a p n)) (hj : j < n) :
    ∃ g cap, u = .slice (some ⟨g, 0, none⟩) n cap ∧ X.cell? ⟨g, j * 2, none⟩ = some (.string (nameP (spotN a p j))) ∧ X.cell? ⟨g, j * 2 + 1, none⟩ = some (.int .i64 (spotI a p j)) := by
  obtain ⟨g, cap, rfl, hc⟩ := h.cells (by omega)
  exact ⟨g, cap, rfl, hc _ _ (cellsL_at a p hj).1, hc _ _ (cellsL_at a p hj).2⟩

set_option maxRecDepth 100000 in
set_option maxHeartbeats 4000000 in
theorem at_any (a p s q v x i r : Int) (n c : Nat) (W : World) (hn : n ≤ 171) (hc : c < 7) (HC : Hid (∀ X : World, Calls Tryz.prog 80 #[cfV a p s q v x] X (CellsD a p n X))) (hF : FirstW a p n c i r) :
    Calls Tryz.prog 58 #[cfV a p s q v x, .string (nameP c), .int .i64 i] W (Tells r W) := by
  have HF := Lib.hid hF
  have X0 := Lib.hid (BoxC.start W a p s q v x)
  obtain ⟨c0, c1, c2, c3, c4, c5⟩ := X0.out.six
  have HN := Lib.hid (fun (j : Nat) => name_eq (spotN_lt (a := a) (p := p) (n := (j : Int)) (by omega)) hc)
  clear hF
  obtain ⟨nm, hnm⟩ : ∃ nm, nameP c = nm := ⟨_, rfl⟩
  rw [hnm] at HN ⊢
  clear hnm
  go_enter Tryz.func58, Tryz.ntmps58
  go_wp2_with fail
  refine (HC.out _).mono ?_
  rintro e w1 ⟨u, rfl, hL, hb⟩
  have X1 := Lib.hid (X0.out.below hb)
  have HL := Lib.hid hL
  clear hb hL c0 c1 c2 c3 c4 c5
  obtain ⟨ua, uc, rfl⟩ := HL.out.form
  go_wp2_with fail
  go_loopw [8] (fun l wr => ∃ k : Nat, l = .int .i64 k ∧ k ≤ n ∧ wr = w1 ∧ Hid (∀ j, j < k → ¬ hitW a p c i j)) (fun l _ => n - (intOf l).toNat)
  case atStart => exact ⟨0, rfl, Nat.zero_le _, rfl, Lib.hid (fun j hj => absurd hj (Nat.not_lt_zero _))⟩
  case round =>
    obtain ⟨k, rfl, hkn, rfl, HP⟩ := hrel
    have hk0 : (0 : Int) ≤ (k : Int) := by omega
    have hn1 : (n : Int) ≤ 171 := by omega
    by_cases hlt : k < n
    · have hk1 : (k : Int) < (n : Int) := by omega
      obtain ⟨g, cap, hu, d0, d1⟩ := lot_two HL.out hlt
      cases hu
      have hnk := HN.out k
      by_cases h1 : spotN a p k = c
      · rw [decide_eq_true h1] at hnk
        by_cases h2 : spotI a p k = i
        · have hr : r = k := by
            rcases HF.out with ⟨_, h⟩ | ⟨k', hk', rfl, h, h'⟩
            · exact absurd ⟨h1, h2⟩ (h k hlt)
            · rcases Nat.lt_trichotomy k k' with hx | rfl | hx
              · exact absurd ⟨h1, h2⟩ (h' k hx)
              · rfl
              · exact absurd h (HP.out k' hx)
          rw [h2] at d1
          subst hr
          clear h1 h2
          generalize nameP (spotN a p k) = nk at d0 hnk
          go_wp2_with fail
          go_ret
          exact ⟨rfl, X1.out.lo⟩
        · have HP2 := Lib.hid (show ∀ j, j < k + 1 → ¬ hitW a p c i j from fun j hj => by
            by_cases hjk : j < k
            · exact HP.out j hjk
            · obtain rfl : j = k := by omega
              exact fun h => h2 h.2)
          clear h1
          generalize nameP (spotN a p k) = nk at d0 hnk
          generalize spotI a p k = ik at d1 h2
          go_wp2_with fail
          go_roundw
          case rel => exact ⟨k + 1, by go_num, by omega, trivial, HP2⟩
          case measure => simp [intOf]; omega
      · have HP2 := Lib.hid (show ∀ j, j < k + 1 → ¬ hitW a p c i j from fun j hj => by
          by_cases hjk : j < k
          · exact HP.out j hjk
          · obtain rfl : j = k := by omega
            exact fun h => h1 h.1)
        rw [decide_eq_false h1] at hnk
        clear h1
        generalize nameP (spotN a p k) = nk at d0 hnk
        go_wp2_with fail
        go_roundw
        case rel => exact ⟨k + 1, by go_num, by omega, trivial, HP2⟩
        case measure => simp [intOf]; omega
    · obtain rfl : n = k := by omega
      have hr : r = -1 := by
        rcases HF.out with ⟨h, _⟩ | ⟨k', hk', _, h, _⟩
        · exact h
        · exact absurd h (HP.out k' hk')
      subst hr
      go_wp2_with fail
      go_ret
      exact ⟨rfl, X1.out.lo⟩

/-! ### where each thing stands -/
section
variable {a p s q v : Int}
theorem first_pin (i : Int) {n : Nat} (hr : rightC a p s q v = true) (hn : (n : Int) = 3 + p + a + 2 * s) : FirstW a p n 3 i (pinW a p s q v i) := by
  obtain ⟨ha, hp, hs⟩ := rightC_bd hr
  unfold pinW
  by_cases hi : 0 ≤ i ∧ i ≤ p - 1
  · rw [if_pos ⟨hr, hi⟩]
    refine .inr ⟨(3 + i).toNat, by omega, by omega, ⟨?_, ?_⟩, fun j hj h => ?_⟩
    · exact spotN_3 (by omega) (by omega)
    · exact (spotI_3 (by omega) (by omega)).trans (by omega)
    · obtain ⟨h1, h2⟩ := h
      by_cases hj3 : (j : Int) < 3
      · unfold spotN at h1; rw [if_pos hj3] at h1; omega
      · rw [spotI_3 (by omega) (by omega)] at h2; omega
  · rw [if_neg (fun h => hi h.2)]
    refine .inl ⟨rfl, fun j hj h => ?_⟩
    obtain ⟨h1, h2⟩ := h
    by_cases h3 : (j : Int) < 3
    · unfold spotN at h1; rw [if_pos h3] at h1; omega
    · by_cases h4 : (j : Int) < 3 + p
      · rw [spotI_3 (by omega) h4] at h2; omega
      · by_cases h5 : (j : Int) < 3 + p + a
        · rw [spotN_4 (by omega) h5] at h1; omega
        · unfold spotN at h1; rw [if_neg h3, if_neg h4, if_neg h5] at h1; omega
theorem first_ring (i : Int) {n : Nat} (hr : rightC a p s q v = true) (h0 : 0 ≤ i) (hn : (n : Int) = 3 + p + a + 2 * s) : FirstW a p n 4 (i % a) (ringW a p s q v i) := by
  obtain ⟨ha, hp, hs⟩ := rightC_bd hr
  have m0 := Int.emod_nonneg i (show a ≠ 0 by omega)
  have m1 := Int.emod_lt_of_pos i (show 0 < a by omega)
  rw [show ringW a p s q v i = 3 + p + i % a from if_pos ⟨hr, h0⟩]
  generalize i % a = k at m0 m1 ⊢
  refine .inr ⟨(3 + p + k).toNat, by omega, by omega, ⟨?_, ?_⟩, fun j hj h => ?_⟩
  · exact spotN_4 (by omega) (by omega)
  · exact (spotI_4 (by omega) (by omega)).trans (by omega)
  · obtain ⟨h1, h2⟩ := h
    by_cases h3 : (j : Int) < 3
    · unfold spotN at h1; rw [if_pos h3] at h1; omega
    · by_cases h4 : (j : Int) < 3 + p
      · rw [spotN_3 (by omega) h4] at h1; omega
      · rw [spotI_4 (by omega) (by omega)] at h2; omega
theorem first_key (i : Int) {n : Nat} (hr : rightC a p s q v = true) (hn : (n : Int) = 3 + p + a + 2 * s) : FirstW a p n 5 i (keyW a p s q v i) := by
  obtain ⟨ha, hp, hs⟩ := rightC_bd hr
  unfold keyW
  by_cases hi : 0 ≤ i ∧ i ≤ s - 1
  · rw [if_pos ⟨hr, hi⟩]
    refine .inr ⟨(3 + p + a + 2 * i).toNat, by omega, by omega, ⟨?_, ?_⟩, fun j hj h => ?_⟩
    · exact spotN_5 (by omega) (by omega) (by omega)
    · exact (spotI_5 (by omega) (by omega)).trans (by omega)
    · obtain ⟨h1, h2⟩ := h
      by_cases h3 : (j : Int) < 3
      · unfold spotN at h1; rw [if_pos h3] at h1; omega
      · by_cases h4 : (j : Int) < 3 + p
        · rw [spotN_3 (by omega) h4] at h1; omega
        · by_cases h5 : (j : Int) < 3 + p + a
          · rw [spotN_4 (by omega) h5] at h1; omega
          · rw [spotI_5 (by omega) (by omega)] at h2; omega
  · rw [if_neg (fun h => hi h.2)]
    refine .inl ⟨rfl, fun j hj h => ?_⟩
    obtain ⟨h1, h2⟩ := h
    by_cases h3 : (j : Int) < 3
    · unfold spotN at h1; rw [if_pos h3] at h1; omega
    · by_cases h4 : (j : Int) < 3 + p
      · rw [spotN_3 (by omega) h4] at h1; omega
      · by_cases h5 : (j : Int) < 3 + p + a
        · rw [spotN_4 (by omega) h5] at h1; omega
        · rw [spotI_5 (by omega) (by omega)] at h2; omega
theorem first_head (i : Int) {n : Nat} (hr : rightC a p s q v = true) (hn : (n : Int) = 3 + p + a + 2 * s) : FirstW a p n 6 i (headW a p s q v i) := by
  obtain ⟨ha, hp, hs⟩ := rightC_bd hr
  unfold headW
  have key : ∀ j : Nat, 3 + p + a ≤ (j : Int) → spotN a p j = 6 → ((j : Int) - (3 + p + a)) % 2 = 1 := fun j hj h1 => by
    unfold spotN at h1; rw [if_neg (by omega), if_neg (by omega), if_neg (by omega)] at h1; omega
  by_cases hi : 0 ≤ i ∧ i ≤ s - 1
  · rw [if_pos ⟨hr, hi⟩]
    refine .inr ⟨(3 + p + a + 2 * i + 1).toNat, by omega, by omega, ⟨?_, ?_⟩, fun j hj h => ?_⟩
    · exact spotN_6 (by omega) (by omega) (by omega)
    · exact (spotI_5 (by omega) (by omega)).trans (by omega)
    · obtain ⟨h1, h2⟩ := h
      by_cases h3 : (j : Int) < 3
      · unfold spotN at h1; rw [if_pos h3] at h1; omega
      · by_cases h4 : (j : Int) < 3 + p
        · rw [spotN_3 (by omega) h4] at h1; omega
        · by_cases h5 : (j : Int) < 3 + p + a
          · rw [spotN_4 (by omega) h5] at h1; omega
          · have := key j (by omega) h1
            rw [spotI_5 (by omega) (by omega)] at h2; omega
  · rw [if_neg (fun h => hi h.2)]
    refine .inl ⟨rfl, fun j hj h => ?_⟩
    obtain ⟨h1, h2⟩ := h
    by_cases h3 : (j : Int) < 3
    · unfold spotN at h1; rw [if_pos h3] at h1; omega
    · by_cases h4 : (j : Int) < 3 + p
      · rw [spotN_3 (by omega) h4] at h1; omega
      · by_cases h5 : (j : Int) < 3 + p + a
        · rw [spotN_4 (by omega) h5] at h1; omega
        · rw [spotI_5 (by omega) (by omega)] at h2; omega
end

/-! ### Where, at every config -/

/-! ### the reference's ring -/

/-! ### where a thing of a config that may be stands -/
theorem rat_key (a p s q v x i : Int) (W : World) (hr : rightC a p s q v = true) : Calls Tryz.prog 58 #[cfV a p s q v x, .string ⟨#[107, 101, 121]⟩, .int .i64 i] W (Tells (keyW a p s q v i) W) := by
  obtain ⟨⟨a1, a32⟩, ⟨p1, p8⟩, s1, s64⟩ := rightC_bd hr
  obtain ⟨na, rfl⟩ : ∃ n : Nat, a = n := ⟨a.toNat, by omega⟩
  obtain ⟨np, rfl⟩ : ∃ n : Nat, p = n := ⟨p.toNat, by omega⟩
  obtain ⟨ns, rfl⟩ : ∃ n : Nat, s = n := ⟨s.toNat, by omega⟩
  exact at_any na np ns q v x i _ (3 + np + na + 2 * ns) 5 W (by omega) (by omega) (Lib.hid (fun X => rcells_good na np ns q v x X hr)) (first_key i hr (by omega))
theorem rat_head (a p s q v x i : Int) (W : World) (hr : rightC a p s q v = true) : Calls Tryz.prog 58 #[cfV a p s q v x, .string ⟨#[104, 101, 97, 100]⟩, .int .i64 i] W (Tells (headW a p s q v i) W) := by
  obtain ⟨⟨a1, a32⟩, ⟨p1, p8⟩, s1, s64⟩ := rightC_bd hr
  obtain ⟨na, rfl⟩ : ∃ n : Nat, a = n := ⟨a.toNat, by omega⟩
  obtain ⟨np, rfl⟩ : ∃ n : Nat, p = n := ⟨p.toNat, by omega⟩
  obtain ⟨ns, rfl⟩ : ∃ n : Nat, s = n := ⟨s.toNat, by omega⟩
  exact at_any na np ns q v x i _ (3 + np + na + 2 * ns) 6 W (by omega) (by omega) (Lib.hid (fun X => rcells_good na np ns q v x X hr)) (first_head i hr (by omega))
theorem rat_pin (a p s q v x i : Int) (W : World) (hr : rightC a p s q v = true) : Calls Tryz.prog 58 #[cfV a p s q v x, .string ⟨#[112, 105, 110]⟩, .int .i64 i] W (Tells (pinW a p s q v i) W) := by
  obtain ⟨⟨a1, a32⟩, ⟨p1, p8⟩, s1, s64⟩ := rightC_bd hr
  obtain ⟨na, rfl⟩ : ∃ n : Nat, a = n := ⟨a.toNat, by omega⟩
  obtain ⟨np, rfl⟩ : ∃ n : Nat, p = n := ⟨p.toNat, by omega⟩
  obtain ⟨ns, rfl⟩ : ∃ n : Nat, s = n := ⟨s.toNat, by omega⟩
  exact at_any na np ns q v x i _ (3 + np + na + 2 * ns) 3 W (by omega) (by omega) (Lib.hid (fun X => rcells_good na np ns q v x X hr)) (first_pin i hr (by omega))

end Go.Proofs.YtpnfbabiibopnaaGreat
