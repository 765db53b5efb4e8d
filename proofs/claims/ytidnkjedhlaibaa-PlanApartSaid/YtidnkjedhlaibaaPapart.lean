/-
  The walk through PlanApart: the row of all things' cells is 0, 1, 2 and so on.
-/
import Derived.Test.YtidnkjedhlaibaaPawake
import Derived.Test.YtidnkjedhlaibaaLot
import Derived.OwnWalk
import Derived.Maps.AppendAt
import Derived.RangeFuncRecord
namespace Go.Proofs.Ytidnkjedhlaibaa
open Go Go.RowKit

def zeros300 : Array Value := Array.replicate 300 (.int .i64 0)
theorem zeros_get (j : Nat) (h : j < 300) : zeros300[j]? = some (.int .i64 0) := by
  unfold zeros300
  rw [Array.getElem?_replicate, if_pos h]
theorem make300 (w : World) : (Instr.makeSlice 28 (.int .i64 300) (.int .i64 300)).run Try.prog w = .ok (.slice (some ⟨w.heap.size, 0, none⟩) 300 300) (w.alloc (.cells zeros300 3)) := by kernel_rfl
theorem info_int : (Try.prog.info? 3).map (fun i => (i.zero, i.size, i.bytes)) = some (some (.int .i64 0), 1, 8) := by kernel_rfl
theorem heap_setAt {W : World} {p o : Nat} {u : Value} {cs : Array Value} {t : TypeId} {fr : Nat × Nat} (h : W.heap[p]? = some (.cells cs t fr)) : (W.setCell ⟨p, o, none⟩ u).heap[p]? = some (.cells (cs.setIfInBounds o u) t fr) := by
  obtain ⟨hlt, hk⟩ := Array.getElem?_eq_some_iff.1 h
  show (W.heap.modify p _)[p]? = _
  rw [Array.getElem?_eq_getElem (by rw [Array.size_modify]; exact hlt), Array.getElem_modify_self, hk]
  rfl

/-- The numbers below n. -/
def rowI (n : Nat) : List Value := (List.range n).map fun (k : Nat) => Value.int .i64 (k : Int)
theorem rowI_one (n : Nat) : rowI n ++ [.int .i64 ((n : Nat) : Int)] = rowI (n + 1) := by
  unfold rowI
  rw [List.range_succ, List.map_append]
  rfl
theorem rowI_two (n : Nat) : rowI n ++ [.int .i64 ((n : Nat) : Int), .int .i64 ((n + 1 : Nat) : Int)] = rowI (n + 2) := by
  rw [← rowI_one, ← rowI_one, List.append_assoc]
  rfl
theorem rowI_at {n j : Nat} (h : j < n) : (rowI n)[j]? = some (.int .i64 (j : Int)) := by
  unfold rowI
  rw [List.getElem?_map, List.getElem?_range h]
  rfl

theorem two_news (w : World) (y z : Int) : ∀ j u, [Value.int .i64 y, .int .i64 z][j]? = some u → (w.alloc (.cells #[.int .i64 y, .int .i64 z] 3)).cell? ((⟨w.heap.size, 0, none⟩ : Addr).add j) = some u :=
  World.news_of_block (cs := #[.int .i64 y, .int .i64 z]) (heap_alloc_new w _)
/-- Ones for what was seen, zeros for the others. -/
def SeenAt (X : World) (g k : Nat) : Prop := ∃ cs, X.heap[g]? = some (.cells cs 3 (0, 0)) ∧ cs.size = 300 ∧ ∀ j, j < 300 → cs[j]? = some (.int .i64 (if j < k then 1 else 0))
/-- The config in its box, the row of what was seen, the row of the things' cells. -/
structure ApI (W : World) (a p s q v x : Int) (g k lq n cap : Nat) (X : World) : Prop where
  bx : BoxC W a p s q v x X
  seen : SeenAt X g k
  gl : W.heap.size < g
  lot : Lot X 3 1 (.slice (some ⟨lq, 0, none⟩) n cap) n (rowI n)
  ll : W.heap.size < lq
  ne : lq ≠ g
section
variable {W X Y : World} {a p s q v x : Int} {g k lq n cap : Nat}
theorem ApI.below (h : ApI W a p s q v x g k lq n cap X) (hb : Below X.heap.size X Y) : ApI W a p s q v x g k lq n cap Y := by
  obtain ⟨cs, h1, h2, h3⟩ := h.seen
  exact ⟨h.bx.below hb, ⟨cs, (hb.block g (heap_lt h1)).trans h1, h2, h3⟩, h.gl, h.lot.below hb, h.ll, h.ne⟩
theorem ApI.grow {m lq' cap' : Nat} {news : List Value} (h : ApI W a p s q v x g k lq n cap X) (hL : Lot Y 3 1 (.slice (some ⟨lq', 0, none⟩) (n + m) cap') (n + m) (rowI n ++ news)) (hg : X.grownBy Y (Value.slice (some ⟨lq, 0, none⟩) n cap).ownBlock) (hat : (Value.slice (some ⟨lq, 0, none⟩) n cap).ownBlock = some lq' ∨ lq' = X.heap.size) (hn : rowI n ++ news = rowI (n + m)) :
    ApI W a p s q v x g k lq' (n + m) cap' Y := by
  obtain ⟨cs, h1, h2, h3⟩ := h.seen
  have hbs := heap_lt h.bx.b
  have hgs := heap_lt h1
  refine ⟨⟨h.bx.lo.grown hg h.bx.lo.size (fun j hj => ?_), (hg.block _ hbs (fun e => ?_)).trans h.bx.b⟩, ⟨cs, (hg.block g hgs (fun e => ?_)).trans h1, h2, h3⟩, h.gl, hn ▸ hL, ?_, ?_⟩
  · obtain rfl : lq = j := by simpa [Value.ownBlock] using hj
    exact Nat.le_of_lt h.ll
  · have : W.heap.size = lq := by simpa [Value.ownBlock] using e
    have := h.ll; omega
  · have : g = lq := by simpa [Value.ownBlock] using e
    exact h.ne this.symm
  · rcases hat with h0 | h0
    · obtain rfl : lq = lq' := by simpa [Value.ownBlock] using h0
      exact h.ll
    · rw [h0]; exact hbs
  · rcases hat with h0 | h0
    · obtain rfl : lq = lq' := by simpa [Value.ownBlock] using h0
      exact h.ne
    · rw [h0]; omega
theorem ApI.see (h : ApI W a p s q v x g k lq n cap X) (hk : k < 300) : ApI W a p s q v x g (k + 1) lq n cap (X.setCell ⟨g, k, none⟩ (.int .i64 1)) := by
  obtain ⟨cs, h1, h2, h3⟩ := h.seen
  have hgl := h.gl
  refine ⟨⟨h.bx.lo.setCell (p := ⟨g, k, none⟩) (by show W.heap.size ≤ g; omega) _, (Below.heap_setCell _ _ _ _ (by show W.heap.size ≠ g; omega)).trans h.bx.b⟩, ⟨_, heap_setAt h1, by simpa using h2, fun j hj => ?_⟩, h.gl, h.lot.stays (fun j hj => Below.heap_setCell _ _ _ _ ?_), h.ll, h.ne⟩
  · rw [Array.getElem?_setIfInBounds]
    by_cases hjk : k = j
    · subst hjk
      rw [if_pos rfl, if_pos (by omega), if_pos (by omega)]
    · rw [if_neg hjk, h3 j hj]
      congr 2
      by_cases hlt : j < k
      · rw [if_pos hlt, if_pos (by omega)]
      · rw [if_neg hlt, if_neg (by omega)]
  · obtain rfl : lq = j := by simpa [Value.ownBlock] using hj
    exact h.ne
theorem ApI.at' (h : ApI W a p s q v x g k lq n cap X) {j : Nat} (hj : j < n) : X.cell? ⟨lq, j, none⟩ = some (.int .i64 (j : Int)) := by
  obtain ⟨g', c', e, hc⟩ := h.lot.cells (by omega)
  have e' : g' = lq := by cases e; rfl
  subst e'
  exact hc j _ (rowI_at hj)
theorem ApI.seen_at (h : ApI W a p s q v x g k lq n cap X) {j : Nat} (hj : j < 300) : X.cell? ⟨g, j, none⟩ = some (.int .i64 (if j < k then 1 else 0)) ∧ X.frozen? ⟨g, j, none⟩ = false := by
  obtain ⟨cs, h1, h2, h3⟩ := h.seen
  exact ⟨(cell_of h1).trans (h3 j hj), by simp [World.frozen?, h1]⟩
end

theorem ApI.start {W X : World} {a p s q v x : Int} (h : BoxC W a p s q v x X) :
    ApI W a p s q v x X.heap.size 0 (X.heap.size + 1) 3 3 ((X.alloc (.cells zeros300 3)).alloc (.cells #[.int .i64 0, .int .i64 1, .int .i64 2] 3)) := by
  have hs := heap_lt h.b
  have h1 := heap_alloc_new X (.cells zeros300 3)
  have h2 := heap_alloc_new (X.alloc (.cells zeros300 3)) (.cells #[.int .i64 0, .int .i64 1, .int .i64 2] 3)
  have hb := below_alloc (X.alloc (.cells zeros300 3)) (.cells #[.int .i64 0, .int .i64 1, .int .i64 2] 3)
  have hz : (X.alloc (.cells zeros300 3)).heap.size = X.heap.size + 1 := by simp
  rw [hz] at h2
  refine ⟨(h.below (below_alloc X _)).below hb, ⟨zeros300, (hb.block _ (by omega)).trans h1, by simp [zeros300], fun j hj => ?_⟩, hs, ⟨rfl, .inr ⟨_, 3, _, rfl, h2, Nat.le_refl _, by unfold maxLen; omega, by simp, rfl⟩⟩, by omega, by omega⟩
  rw [zeros_get j hj, if_neg (by omega)]

set_option maxRecDepth 100000 in
set_option maxHeartbeats 4000000 in
theorem apart_bad (a p s q v x : Int) (W : World) (hr : rightC a p s q v = false) : Calls Try.prog 3 #[cfV a p s q v x] W (Says true W) := by
  have HR := Lib.hid (fun X : World => right_any a p s q v x X)
  have HS := Lib.hid (fun X : World => size_any a p s q v x X)
  rw [hr] at HR
  rw [show sizeW a p s q v = 0 from if_neg (by rw [hr]; decide)] at HS
  have X0 := Lib.hid (BoxC.start W a p s q v x)
  obtain ⟨c0, c1, c2, c3, c4, c5⟩ := X0.out.six
  clear hr
  go_enter Try.func3, Try.ntmps3
  go_wp2_with fail
  refine (HR.out _).mono ?_
  rintro e w1 ⟨rfl, hb⟩
  have X1 := Lib.hid (X0.out.below hb)
  clear hb c0 c1 c2 c3 c4 c5
  obtain ⟨c0, c1, c2, c3, c4, c5⟩ := X1.out.six
  go_wp2_with fail
  refine (HS.out _).mono ?_
  rintro e w2 ⟨rfl, hb⟩
  have X2 := Lib.hid (X1.out.below hb)
  clear hb c0 c1 c2 c3 c4 c5
  go_wp2_with fail
  refine (awake_any _).mono ?_
  rintro e w3 ⟨rfl, hb⟩
  have X3 := Lib.hid (X2.out.below hb)
  clear hb
  go_wp2_with fail
  go_ret
  exact ⟨rfl, X3.out.lo⟩

set_option maxRecDepth 100000 in
set_option maxHeartbeats 8000000 in
theorem apart_good (a p s : Nat) (q v x : Int) (W : World) (hr : rightC a p s q v = true) : Calls Try.prog 3 #[cfV a p s q v x] W (Says true W) := by
  have HR := Lib.hid (fun X : World => right_any a p s q v x X)
  have HS := Lib.hid (fun X : World => size_any a p s q v x X)
  rw [hr] at HR
  obtain ⟨⟨a1, a32⟩, ⟨p1, p8⟩, s1, s64⟩ := rightC_bd hr
  rw [show sizeW a p s q v = 3 + (p : Int) + (a : Int) + 2 * (s : Int) from if_pos hr] at HS
  have HP := Lib.hid (fun (k : Nat) (hk : k < p) (X : World) => by
    have h := pin_any a p s q v x k X
    rwa [show pinW a p s q v k = 3 + (k : Int) from if_pos ⟨hr, by omega, by omega⟩] at h)
  have HN := Lib.hid (fun (k : Nat) (hk : k < a) (X : World) => by
    have h := ring_any a p s q v x k X
    rwa [show ringW a p s q v k = 3 + (p : Int) + (k : Int) from (if_pos ⟨hr, by omega⟩).trans (by rw [Int.emod_eq_of_lt (by omega) (by omega)])] at h)
  have HK := Lib.hid (fun (k : Nat) (hk : k < s) (X : World) => by
    have h := key_any a p s q v x k X
    rwa [show keyW a p s q v k = 3 + (p : Int) + (a : Int) + 2 * (k : Int) from if_pos ⟨hr, by omega, by omega⟩] at h)
  have HH := Lib.hid (fun (k : Nat) (hk : k < s) (X : World) => by
    have h := head_any a p s q v x k X
    rwa [show headW a p s q v k = 3 + (p : Int) + (a : Int) + 2 * (k : Int) + 1 from if_pos ⟨hr, by omega, by omega⟩] at h)
  have hmk := make300
  have X0 := Lib.hid (BoxC.start W a p s q v x)
  obtain ⟨c0, c1, c2, c3, c4, c5⟩ := X0.out.six
  clear hr
  go_enter Try.func3, Try.ntmps3
  go_wp2_with fail
  refine (HR.out _).mono ?_
  rintro e w1 ⟨rfl, hb⟩
  have X1 := Lib.hid (X0.out.below hb)
  clear hb c0 c1 c2 c3 c4 c5
  obtain ⟨c0, c1, c2, c3, c4, c5⟩ := X1.out.six
  go_wp2_with fail
  refine (HS.out _).mono ?_
  rintro e w2 ⟨rfl, hb⟩
  have X2 := Lib.hid (X1.out.below hb)
  clear hb c0 c1 c2 c3 c4 c5
  go_wp2_with fail
  have A0 := Lib.hid (ApI.start X2.out)
  generalize hw3 : (w2.alloc (.cells zeros300 3)).alloc (.cells #[.int .i64 0, .int .i64 1, .int .i64 2] 3) = w3 at A0 ⊢
  clear hw3
  generalize w2.heap.size = g at A0 ⊢
  obtain ⟨i0, gi, gz0, gz1, gz2⟩ := info_parts info_int
  go_loopw [5, 6] (fun lv i wr => ∃ (k lq cap : Nat), lv = .slice (some ⟨lq, 0, none⟩) (3 + k) cap ∧ i = .int .i64 k ∧ k ≤ p ∧ Hid (ApI W a p s q v x g 0 lq (3 + k) cap wr)) (fun _ i _ => p - (intOf i).toNat)
  case atStart => exact ⟨0, g + 1, 3, rfl, rfl, Nat.zero_le _, A0⟩
  case round =>
    clear A0
    obtain ⟨k, lq, cap, rfl, rfl, hkn, HA⟩ := hrel
    have hk0 : (0 : Int) ≤ (k : Int) := by omega
    obtain ⟨c0, c1, c2, c3, c4, c5⟩ := HA.out.bx.six
    by_cases hlt : k < p
    · have hk1 : (k : Int) < (p : Int) := by omega
      have hk8 : (k : Int) < 8 := by omega
      have hE1 : 3 + k + 1 ≤ maxLen := by unfold maxLen; omega
      have hE2 : (3 + k + 1) * 8 ≤ 140737488355328 := by omega
      have hEN : rowI (3 + k) ++ [.int .i64 (3 + (k : Int))] = rowI (3 + k + 1) := by rw [← rowI_one]; simp
      go_wp2_with fail
      refine (HP.out k hlt _).mono ?_
      rintro e x1 ⟨rfl, hb⟩
      have A1 := Lib.hid (HA.out.below hb)
      clear hb c0 c1 c2 c3 c4 c5
      have A2 := Lib.hid (A1.out.below (below_alloc x1 (.cells #[.int .i64 (3 + (k : Int))] 3)))
      go_wp2_with (at_builtin; refine wpList_append_lot _ rfl _ _ 28 rfl 3 i0 _ 1 8 Try.underlying28 gi gz0 gz1 gz2 rfl (.slice (some ⟨lq, 0, none⟩) (3 + k) cap) (3 + k) _ rfl A2.out.lot ⟨x1.heap.size, 0, none⟩ 1 1 [.int .i64 (3 + (k : Int))] rfl rfl (cell_one_new _ _ _) (by simp [Value.oneCell']) (by omega) hE1 hE2 _ rfl ?_; intro g4 cap4 w4 hL4 hg4 hat4; have A4 := Lib.hid (A2.out.grow hL4 hg4 hat4 hEN); clear hL4 hg4 hat4)
      go_roundw
      case rel =>
        exact ⟨k + 1, g4, cap4, rfl, by go_num, by omega, A4⟩
      case measure => simp [intOf]; omega
    · obtain rfl : p = k := by omega
      clear hlt hkn
      have E0 := HA
      clear HA
      go_wp2_with fail
      clear c0 c1 c2 c3 c4 c5
      go_loopw [5, 7] (fun lv i wr => ∃ (k lq cap : Nat), lv = .slice (some ⟨lq, 0, none⟩) (3 + p + k) cap ∧ i = .int .i64 k ∧ k ≤ a ∧ Hid (ApI W a p s q v x g 0 lq (3 + p + k) cap wr)) (fun _ i _ => a - (intOf i).toNat)
      case atStart => exact ⟨0, _, _, rfl, rfl, Nat.zero_le _, E0⟩
      case round =>
        clear E0
        obtain ⟨k, lq, cap, rfl, rfl, hkn, HA⟩ := hrel
        have hk0 : (0 : Int) ≤ (k : Int) := by omega
        obtain ⟨c0, c1, c2, c3, c4, c5⟩ := HA.out.bx.six
        by_cases hlt : k < a
        · have hk1 : (k : Int) < (a : Int) := by omega
          have hk8 : (k : Int) < 32 := by omega
          have hE1 : 3 + p + k + 1 ≤ maxLen := by unfold maxLen; omega
          have hE2 : (3 + p + k + 1) * 8 ≤ 140737488355328 := by omega
          have hEN : rowI (3 + p + k) ++ [.int .i64 (3 + (p : Int) + (k : Int))] = rowI (3 + p + k + 1) := by rw [← rowI_one]; simp
          go_wp2_with fail
          refine (HN.out k hlt _).mono ?_
          rintro e x1 ⟨rfl, hb⟩
          have A1 := Lib.hid (HA.out.below hb)
          clear hb c0 c1 c2 c3 c4 c5
          have A2 := Lib.hid (A1.out.below (below_alloc x1 (.cells #[.int .i64 (3 + (p : Int) + (k : Int))] 3)))
          go_wp2_with (at_builtin; refine wpList_append_lot _ rfl _ _ 28 rfl 3 i0 _ 1 8 Try.underlying28 gi gz0 gz1 gz2 rfl (.slice (some ⟨lq, 0, none⟩) (3 + p + k) cap) (3 + p + k) _ rfl A2.out.lot ⟨x1.heap.size, 0, none⟩ 1 1 [.int .i64 (3 + (p : Int) + (k : Int))] rfl rfl (cell_one_new _ _ _) (by simp [Value.oneCell']) (by omega) hE1 hE2 _ rfl ?_; intro g4 cap4 w4 hL4 hg4 hat4; have A4 := Lib.hid (A2.out.grow hL4 hg4 hat4 hEN); clear hL4 hg4 hat4)
          go_roundw
          case rel => exact ⟨k + 1, g4, cap4, rfl, by go_num, by omega, A4⟩
          case measure => simp [intOf]; omega
        · obtain rfl : a = k := by omega
          clear hlt hkn
          have E0 := HA
          clear HA
          go_wp2_with fail
          clear c0 c1 c2 c3 c4 c5
          go_loopw [5, 8] (fun lv i wr => ∃ (k lq cap : Nat), lv = .slice (some ⟨lq, 0, none⟩) (3 + p + a + 2 * k) cap ∧ i = .int .i64 k ∧ k ≤ s ∧ Hid (ApI W a p s q v x g 0 lq (3 + p + a + 2 * k) cap wr)) (fun _ i _ => s - (intOf i).toNat)
          case atStart => exact ⟨0, _, _, rfl, rfl, Nat.zero_le _, E0⟩
          case round =>
            clear E0
            obtain ⟨k, lq, cap, rfl, rfl, hkn, HA⟩ := hrel
            have hk0 : (0 : Int) ≤ (k : Int) := by omega
            obtain ⟨c0, c1, c2, c3, c4, c5⟩ := HA.out.bx.six
            by_cases hlt : k < s
            · have hk1 : (k : Int) < (s : Int) := by omega
              have hk8 : (k : Int) < 64 := by omega
              have hE1 : 3 + p + a + 2 * k + 2 ≤ maxLen := by unfold maxLen; omega
              have hE2 : (3 + p + a + 2 * k + 2) * 8 ≤ 140737488355328 := by omega
              have hEN : rowI (3 + p + a + 2 * k) ++ [.int .i64 (3 + (p : Int) + (a : Int) + 2 * (k : Int)), .int .i64 (3 + (p : Int) + (a : Int) + 2 * (k : Int) + 1)] = rowI (3 + p + a + 2 * k + 2) := by rw [← rowI_two]; simp
              go_wp2_with fail
              clear c0 c1 c2 c3 c4 c5
              go_region_held3 (fun w' => w'.cell? ⟨W.heap.size, 0, none⟩ = some (.int .i64 a) ∧ w'.cell? ⟨W.heap.size, 1, none⟩ = some (.int .i64 p) ∧ w'.cell? ⟨W.heap.size, 2, none⟩ = some (.int .i64 s) ∧ w'.cell? ⟨W.heap.size, 3, none⟩ = some (.int .i64 q) ∧ w'.cell? ⟨W.heap.size, 4, none⟩ = some (.int .i64 v) ∧ w'.cell? ⟨W.heap.size, 5, none⟩ = some (.int .u64 x))
                (first
                  | exact A4.out.bx.six
                  | exact (A2.out.below (below_alloc _ _)).bx.six
                  | exact A2.out.bx.six
                  | exact A1.out.bx.six
                  | exact (HA.out.below (below_drew _)).bx.six
                  | exact HA.out.bx.six)
                (first
                  | (go_at_call 9; refine (HK.out k hlt _).mono ?_; rintro e x1 ⟨rfl, hb⟩; have A1 := Lib.hid ((HA.out.below (below_drew _)).below hb); clear hb)
                  | (go_at_call 10; refine (HH.out k hlt _).mono ?_; rintro e x2 ⟨rfl, hb⟩; have A2 := Lib.hid (A1.out.below hb); clear hb)
                  | (refine step_append_lot _ (by rfl) _ _ 28 (by rfl) 3 i0 _ 1 8 Try.underlying28 gi gz0 gz1 gz2 rfl (.slice (some ⟨lq, 0, none⟩) (3 + p + a + 2 * k) cap) (3 + p + a + 2 * k) _ (by rfl) (A2.out.below (below_alloc x2 (.cells #[.int .i64 (3 + (p : Int) + (a : Int) + 2 * (k : Int)), .int .i64 (3 + (p : Int) + (a : Int) + 2 * (k : Int) + 1)] 3))).lot ⟨x2.heap.size, 0, none⟩ 2 2 [.int .i64 (3 + (p : Int) + (a : Int) + 2 * (k : Int)), .int .i64 (3 + (p : Int) + (a : Int) + 2 * (k : Int) + 1)] (by rfl) (by rfl) (two_news x2 _ _) (by simp [Value.oneCell']) (by omega) hE1 hE2 _ rfl ?_; intro g4 cap4 w4 hL4 hg4 hat4; have A4 := Lib.hid ((A2.out.below (below_alloc x2 (.cells #[.int .i64 (3 + (p : Int) + (a : Int) + 2 * (k : Int)), .int .i64 (3 + (p : Int) + (a : Int) + 2 * (k : Int) + 1)] 3))).grow hL4 hg4 hat4 hEN); clear hL4 hg4 hat4))
              all_goals
                go_wp2_with fail
                go_roundw
                case rel => exact ⟨k + 1, g4, cap4, rfl, by go_num, by omega, A4⟩
                case measure => simp [intOf]; omega
            · obtain rfl : s = k := by omega
              clear hlt hkn
              have E0 := HA
              clear HA
              go_wp2_with fail
              clear c0 c1 c2 c3 c4 c5
              obtain ⟨n, hn⟩ : ∃ n, 3 + p + a + 2 * s = n := ⟨_, rfl⟩
              have hni : 3 + (p : Int) + (a : Int) + 2 * (s : Int) = (n : Int) := by omega
              rw [hn] at E0 ⊢
              rw [hni]
              have n0 : (0 : Int) ≤ (n : Int) := by omega
              have n1 : (n : Int) ≤ 171 := by omega
              clear hn hni HP HN HK HH HR HS
              go_loopw [9] (fun i wr => ∃ k : Nat, i = .int .i64 k ∧ k ≤ n ∧ Hid (ApI W a p s q v x g k lq n cap wr)) (fun i _ => n - (intOf i).toNat)
              case atStart => exact ⟨0, rfl, Nat.zero_le _, E0⟩
              case round =>
                clear E0
                obtain ⟨k, rfl, hkn, HA⟩ := hrel
                have hk0 : (0 : Int) ≤ (k : Int) := by omega
                by_cases hlt : k < n
                · have hk1 : (k : Int) < (n : Int) := by omega
                  have hk2 : (k : Int) < 300 := by omega
                  have d0 := HA.out.at' hlt
                  obtain ⟨d1, d2⟩ := HA.out.seen_at (j := k) (by omega)
                  rw [if_neg (Nat.lt_irrefl k)] at d1
                  have A2 := Lib.hid (HA.out.see (by omega))
                  have d3 := A2.out.at' hlt
                  obtain ⟨d4, d5⟩ := A2.out.seen_at (j := k) (by omega)
                  rw [if_pos (Nat.lt_succ_self k)] at d4
                  clear d5
                  go_wp2_with fail
                  go_roundw
                  case rel => exact ⟨k + 1, by go_num, by omega, A2⟩
                  case measure => simp [intOf]; omega
                · obtain rfl : n = k := by omega
                  clear hlt hkn
                  have n2 : (n : Int) ≤ 256 := by omega
                  go_wp2_with fail
                  refine (awake_any _).mono ?_
                  rintro e y1 ⟨rfl, hb⟩
                  have A2 := Lib.hid (HA.out.below hb)
                  clear hb
                  go_wp2_with fail
                  go_ret
                  exact ⟨rfl, A2.out.bx.lo⟩

/-- PlanApart, at every config. -/
theorem apart_walk (a p s q v x : Int) (W : World) : Calls Try.prog 3 #[cfV a p s q v x] W (Says true W) := by
  cases hr : rightC a p s q v with
  | false => exact apart_bad a p s q v x W hr
  | true =>
    obtain ⟨ha, hp, hs⟩ := rightC_bd hr
    obtain ⟨a', rfl⟩ := Int.eq_ofNat_of_zero_le (show 0 ≤ a by omega)
    obtain ⟨p', rfl⟩ := Int.eq_ofNat_of_zero_le (show 0 ≤ p by omega)
    obtain ⟨s', rfl⟩ := Int.eq_ofNat_of_zero_le (show 0 ≤ s by omega)
    exact apart_good a' p' s' q v x W hr
end Go.Proofs.Ytidnkjedhlaibaa
