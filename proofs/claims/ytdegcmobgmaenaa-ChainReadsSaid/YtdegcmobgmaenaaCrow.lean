/-
  Two rows of words that grow beside a heap; what is pushed, told plainly.
-/
import Derived.Test.YtdegcmobgmaenaaCrnd
import Derived.Test.YtdegcmobgmaenaaArgs24
import Derived.Maps.AppendAt
import Derived.Maps.OwnIn
namespace Go.Proofs.Ytdegcmobgmaenaa
open Go Go.RowKit

/-! ### what is pushed -/
/-- The epoch behind n steps. -/
def epE (U : Nat → Nat) : Nat → Nat
  | 0 => 0
  | n + 1 => epE U n + U n % 5 + 1
theorem epE_le (U : Nat → Nat) : ∀ n, epE U n ≤ 5 * n
  | 0 => Nat.le_refl _
  | n + 1 => by have := epE_le U n; unfold epE; omega
/-- The versions. -/
def verC (U : Nat → Nat) (C : Nat → ChgD) : Nat → VsnD := fun j => ⟨((epE U (j + 1) : Nat) : Int), (C j).has, putT (C j).has (C j).val, 2 + j⟩

/-! ### rows of words -/
def rowU (F : Nat → Nat) (n : Nat) : List Value := (List.range n).map fun k => Value.int .u64 ((F k : Nat) : Int)
theorem rowU_one (F : Nat → Nat) (n : Nat) : rowU F n ++ [.int .u64 ((F n : Nat) : Int)] = rowU F (n + 1) := by
  unfold rowU
  rw [List.range_succ, List.map_append]
  rfl
theorem rowU_at {F : Nat → Nat} {n j : Nat} (h : j < n) : (rowU F n)[j]? = some (.int .u64 ((F j : Nat) : Int)) := by
  unfold rowU
  rw [List.getElem?_map, List.getElem?_range h]
  rfl
abbrev wslice (g n cap : Nat) : Value := .slice (some ⟨g, 0, none⟩) n cap
/-- The config's box, a heap, and two rows beside it. -/
structure RdI (W : World) (a p s q v x : Int) (B hp : Nat) (D : HpD) (F1 F2 : Nat → Nat) (g1 n1 c1 g2 n2 c2 : Nat) (X : World) : Prop where
  rnd : ∃ o1 o2, Rnd W a p s q v x B hp D [(g1, o1), (g2, o2)] X
  l1 : Lot X 22 1 (wslice g1 n1 c1) n1 (rowU F1 n1)
  l2 : Lot X 22 1 (wslice g2 n2 c2) n2 (rowU F2 n2)
  ne : g1 ≠ g2
section
variable {W X Y : World} {a p s q v x : Int} {B hp : Nat} {D D' : HpD} {F1 F2 : Nat → Nat} {g1 n1 c1 g2 n2 c2 : Nat}
theorem Lot.at_same {n g cap : Nat} {xs : List Value} {o : Obj} (h : Lot X 22 1 (wslice g n cap) n xs) (h1 : X.heap[g]? = some o) (h2 : Y.heap[g]? = some o) : Lot Y 22 1 (wslice g n cap) n xs := h.stays (fun j hj => by
  obtain rfl : g = j := by simpa [Value.ownBlock] using hj
  rw [h1, h2])
theorem RdI.next (h : RdI W a p s q v x B hp D F1 F2 g1 n1 c1 g2 n2 c2 X) {o1 o2 : Obj} {ks : List (Nat × Obj)} (hR : Rnd W a p s q v x B hp D [(g1, o1), (g2, o2)] X) (hR' : Rnd W a p s q v x B hp D' ks Y) (h1 : (g1, o1) ∈ ks) (h2 : (g2, o2) ∈ ks) : RdI W a p s q v x B hp D' F1 F2 g1 n1 c1 g2 n2 c2 Y :=
  ⟨⟨o1, o2, hR'.few (fun u hu => by
    rcases List.mem_cons.1 hu with rfl | hu
    · exact h1
    · obtain rfl := List.mem_singleton.1 hu; exact h2)⟩, h.l1.at_same (hR.kept (List.mem_cons_self ..)) (hR'.kept h1), h.l2.at_same (hR.kept (List.mem_cons_of_mem _ (List.mem_singleton.2 rfl))) (hR'.kept h2), h.ne⟩
theorem RdI.below (h : RdI W a p s q v x B hp D F1 F2 g1 n1 c1 g2 n2 c2 X) (hb : Below X.heap.size X Y) : RdI W a p s q v x B hp D F1 F2 g1 n1 c1 g2 n2 c2 Y := by
  obtain ⟨o1, o2, hR⟩ := h.rnd
  exact h.next hR (hR.below hb) (List.mem_cons_self ..) (List.mem_cons_of_mem _ (List.mem_singleton.2 rfl))
theorem RdI.lo (h : RdI W a p s q v x B hp D F1 F2 g1 n1 c1 g2 n2 c2 X) : Below W.heap.size W X := by obtain ⟨_, _, hR⟩ := h.rnd; exact hR.lo
theorem RdI.six (h : RdI W a p s q v x B hp D F1 F2 g1 n1 c1 g2 n2 c2 X) : SixC W.heap.size a p s q v x X := by obtain ⟨_, _, hR⟩ := h.rnd; exact hR.six
theorem RdI.at1 (h : RdI W a p s q v x B hp D F1 F2 g1 n1 c1 g2 n2 c2 X) {j : Nat} (hj : j < n1) : X.cell? ⟨g1, j, none⟩ = some (.int .u64 ((F1 j : Nat) : Int)) := by
  obtain ⟨g', c', e, hc⟩ := h.l1.cells (by omega)
  have e' : g' = g1 := by cases e; rfl
  subst e'
  exact hc j _ (rowU_at hj)
theorem RdI.at2 (h : RdI W a p s q v x B hp D F1 F2 g1 n1 c1 g2 n2 c2 X) {j : Nat} (hj : j < n2) : X.cell? ⟨g2, j, none⟩ = some (.int .u64 ((F2 j : Nat) : Int)) := by
  obtain ⟨g', c', e, hc⟩ := h.l2.cells (by omega)
  have e' : g' = g2 := by cases e; rfl
  subst e'
  exact hc j _ (rowU_at hj)
/-- A row grows, in its block or in a new one. -/
theorem Rnd.grown {ks : List (Nat × Obj)} {g g' : Nat} {o o' : Obj} (h : Rnd W a p s q v x B hp D ((g, o) :: ks) X) (hks : ∀ u ∈ ks, u.1 ≠ g) (hg : X.grownBy Y (some g)) (hat : g = g' ∨ g' = X.heap.size) (ho : Y.heap[g']? = some o') :
    Rnd W a p s q v x B hp D ((g', o') :: ks) Y := by
  obtain ⟨f, h1, h2⟩ := h.hh
  obtain ⟨k1, k2, k3⟩ := h2 _ (List.mem_cons_self ..)
  simp only at k1 k2 k3
  have hsz := heap_at_lt h.cf
  refine ⟨(hg.block _ hsz (fun e => by have := Option.some.inj e; omega)).trans h.cf, h.lo.grown hg h.lo.size (fun j hj => by cases hj; omega), h.hB, f, h1.stays (fun j hj => hg.block j (h1.lt j hj) (fun e => k3 (by rw [← Option.some.inj e]; exact hj))), fun u hu => ?_⟩
  rcases List.mem_cons.1 hu with rfl | hu
  · refine ⟨ho, ?_, ?_⟩
    · show W.heap.size < g'
      rcases hat with rfl | rfl <;> omega
    · rcases hat with rfl | rfl
      · exact k3
      · exact fun hf => by have := h1.lt _ hf; simp only at this; omega
  · obtain ⟨m1, m2⟩ := h2 u (List.mem_cons_of_mem _ hu)
    exact ⟨(hg.block _ (heap_at_lt m1) (fun e => hks u hu (Option.some.inj e))).trans m1, m2⟩
theorem Lot.block {n g cap : Nat} {xs : List Value} (h : Lot X 22 1 (wslice g n cap) n xs) : ∃ o, X.heap[g]? = some o := by
  rcases h.2 with ⟨h0, _⟩ | ⟨g', cap', cur, e, hg, _⟩
  · cases h0
  · cases e; exact ⟨_, hg⟩
theorem RdI.grow1 (h : RdI W a p s q v x B hp D F1 F2 g1 n1 c1 g2 n2 c2 X) {g' c' : Nat} (hL : Lot Y 22 1 (wslice g' (n1 + 1) c') (n1 + 1) (rowU F1 n1 ++ [.int .u64 ((F1 n1 : Nat) : Int)])) (hg : X.grownBy Y (wslice g1 n1 c1).ownBlock) (hat : (wslice g1 n1 c1).ownBlock = some g' ∨ g' = X.heap.size) :
    RdI W a p s q v x B hp D F1 F2 g' (n1 + 1) c' g2 n2 c2 Y := by
  obtain ⟨o1, o2, hR⟩ := h.rnd
  have hne := h.ne
  have h2 := hR.kept (List.mem_cons_of_mem _ (List.mem_singleton.2 rfl))
  have hat' : g1 = g' ∨ g' = X.heap.size := hat.imp (fun e => by simpa [Value.ownBlock] using e) id
  obtain ⟨o', ho⟩ := hL.block
  refine ⟨⟨o', o2, hR.grown (fun u hu => by obtain rfl := List.mem_singleton.1 hu; exact Ne.symm hne) hg hat' ho⟩, by rw [← rowU_one]; exact hL, h.l2.at_same h2 ((hg.block _ (heap_at_lt h2) (fun e => hne (by simpa [Value.ownBlock] using e.symm))).trans h2), ?_⟩
  rcases hat' with rfl | rfl
  · exact hne
  · have := heap_at_lt h2; omega
theorem RdI.swap (h : RdI W a p s q v x B hp D F1 F2 g1 n1 c1 g2 n2 c2 X) : RdI W a p s q v x B hp D F2 F1 g2 n2 c2 g1 n1 c1 X := by
  obtain ⟨o1, o2, hR⟩ := h.rnd
  refine ⟨⟨o2, o1, hR.few (fun u hu => ?_)⟩, h.l2, h.l1, Ne.symm h.ne⟩
  rcases List.mem_cons.1 hu with rfl | hu
  · exact List.mem_cons_of_mem _ (List.mem_singleton.2 rfl)
  · obtain rfl := List.mem_singleton.1 hu; exact List.mem_cons_self ..
theorem RdI.grow2 (h : RdI W a p s q v x B hp D F1 F2 g1 n1 c1 g2 n2 c2 X) {g' c' : Nat} (hL : Lot Y 22 1 (wslice g' (n2 + 1) c') (n2 + 1) (rowU F2 n2 ++ [.int .u64 ((F2 n2 : Nat) : Int)])) (hg : X.grownBy Y (wslice g2 n2 c2).ownBlock) (hat : (wslice g2 n2 c2).ownBlock = some g' ∨ g' = X.heap.size) :
    RdI W a p s q v x B hp D F1 F2 g1 n1 c1 g' (n2 + 1) c' Y := (h.swap.grow1 hL hg hat).swap
theorem Lot.empty (X : World) : Lot (X.alloc (.cells #[] 22 (0, 0))) 22 1 (wslice X.heap.size 0 0) 0 (rowU F1 0) :=
  ⟨rfl, .inr ⟨X.heap.size, 0, #[], rfl, World.alloc_heap_new X _, Nat.le_refl _, Nat.zero_le _, Nat.zero_le _, rfl⟩⟩
theorem RdI.start (h : Rnd W a p s q v x B hp D [] X) (F1 F2 : Nat → Nat) : RdI W a p s q v x B hp D F1 F2 X.heap.size 0 0 (X.heap.size + 1) 0 0 ((X.alloc (.cells #[] 22 (0, 0))).alloc (.cells #[] 22 (0, 0))) := by
  have h2 := (h.add (.cells #[] 22 (0, 0))).add (.cells #[] 22 (0, 0))
  rw [World.size_alloc] at h2
  have hl2 := Lot.empty (F1 := F2) (X.alloc (.cells #[] 22 (0, 0)))
  rw [World.size_alloc] at hl2
  refine ⟨⟨.cells #[] 22 (0, 0), .cells #[] 22 (0, 0), h2.few (fun u hu => ?_)⟩, (Lot.empty X).below (below_alloc _ _), hl2, by omega⟩
  rcases List.mem_cons.1 hu with rfl | hu
  · exact List.mem_cons_of_mem _ (List.mem_singleton.2 rfl)
  · obtain rfl := List.mem_singleton.1 hu; exact List.mem_cons_self ..

/-! ### a box beside them, that is written to -/
structure WntI (W : World) (a p s q v x : Int) (B hp : Nat) (D : HpD) (F1 F2 : Nat → Nat) (g1 n1 c1 g2 n2 c2 g : Nat) (o : Obj) (X : World) : Prop where
  rd : RdI W a p s q v x B hp D F1 F2 g1 n1 c1 g2 n2 c2 X
  rnd : ∃ o1 o2, Rnd W a p s q v x B hp D [(g, o), (g1, o1), (g2, o2)] X
  ne1 : g1 ≠ g
  ne2 : g2 ≠ g
section
variable {g : Nat} {o : Obj}
theorem WntI.start (h : RdI W a p s q v x B hp D F1 F2 g1 n1 c1 g2 n2 c2 X) (o : Obj) : WntI W a p s q v x B hp D F1 F2 g1 n1 c1 g2 n2 c2 X.heap.size o (X.alloc o) := by
  obtain ⟨o1, o2, hR⟩ := h.rnd
  have h1 := heap_at_lt (hR.kept (List.mem_cons_self ..))
  have h2 := heap_at_lt (hR.kept (List.mem_cons_of_mem _ (List.mem_singleton.2 rfl)))
  exact ⟨h.below (below_alloc _ _), ⟨o1, o2, hR.add o⟩, by omega, by omega⟩
theorem WntI.want (h : WntI W a p s q v x B hp D F1 F2 g1 n1 c1 g2 n2 c2 g o X) : X.heap[g]? = some o := by obtain ⟨_, _, hR⟩ := h.rnd; exact hR.kept (List.mem_cons_self ..)
theorem WntI.below (h : WntI W a p s q v x B hp D F1 F2 g1 n1 c1 g2 n2 c2 g o X) (hb : Below X.heap.size X Y) : WntI W a p s q v x B hp D F1 F2 g1 n1 c1 g2 n2 c2 g o Y := by
  obtain ⟨o1, o2, hR⟩ := h.rnd
  exact ⟨h.rd.below hb, ⟨o1, o2, hR.below hb⟩, h.ne1, h.ne2⟩
theorem WntI.write {cs : Array Value} {t : TypeId} (h : WntI W a p s q v x B hp D F1 F2 g1 n1 c1 g2 n2 c2 g (.cells cs t (0, 0)) X) (i : Nat) (u : Value) : WntI W a p s q v x B hp D F1 F2 g1 n1 c1 g2 n2 c2 g (.cells (cs.setIfInBounds i u) t (0, 0)) (X.setCell ⟨g, i, none⟩ u) := by
  obtain ⟨o1, o2, hR⟩ := h.rnd
  have hw := hR.write (fun w hw => by
    rcases List.mem_cons.1 hw with rfl | hw
    · exact h.ne1
    · obtain rfl := List.mem_singleton.1 hw; exact h.ne2) i u
  exact ⟨h.rd.next (hR.few (fun u hu => List.mem_cons_of_mem _ hu)) hw (List.mem_cons_of_mem _ (List.mem_cons_self ..)) (List.mem_cons_of_mem _ (List.mem_cons_of_mem _ (List.mem_singleton.2 rfl))), ⟨o1, o2, hw⟩, h.ne1, h.ne2⟩
end
end

/-! ### what the inner loop has found among the first i -/
def pasI (V : Nat → VsnD) (at_ : Int) (N i : Nat) : Nat := match lastAt V at_ i with | none => N | some j => N - 1 - j
theorem pasI_end (V : Nat → VsnD) (at_ : Int) (N : Nat) : pasI V at_ N N = passN V at_ N := rfl
def wantO (V : Nat → VsnD) (at_ : Int) (i : Nat) : Obj := valO (seenC V at_ i).1 (seenC V at_ i).2.1 ((seenC V at_ i).2.2 : Nat)
theorem lastAt_hit {V : Nat → VsnD} {at_ : Int} {i : Nat} (h : (V i).ep ≤ at_) : lastAt V at_ (i + 1) = some i := by
  show (if (V i).ep ≤ at_ then some i else lastAt V at_ i) = _
  rw [if_pos h]
theorem lastAt_miss {V : Nat → VsnD} {at_ : Int} {i : Nat} (h : ¬ (V i).ep ≤ at_) : lastAt V at_ (i + 1) = lastAt V at_ i := by
  show (if (V i).ep ≤ at_ then some i else lastAt V at_ i) = _
  rw [if_neg h]
theorem want_miss {V : Nat → VsnD} {at_ : Int} {N i : Nat} (h : ¬ (V i).ep ≤ at_) : pasI V at_ N (i + 1) = pasI V at_ N i ∧ wantO V at_ (i + 1) = wantO V at_ i := by
  unfold pasI wantO seenC
  rw [lastAt_miss h]
  exact ⟨rfl, rfl⟩
theorem want_hit {V : Nat → VsnD} {at_ : Int} {N i : Nat} (h : (V i).ep ≤ at_) : pasI V at_ N (i + 1) = N - 1 - i ∧ wantO V at_ (i + 1) = valO (V i).has (if (V i).has then (V i).text else ⟨#[]⟩) ((V i).block : Nat) := by
  unfold pasI wantO seenC
  rw [lastAt_hit h]
  exact ⟨rfl, rfl⟩

end Go.Proofs.Ytdegcmobgmaenaa
