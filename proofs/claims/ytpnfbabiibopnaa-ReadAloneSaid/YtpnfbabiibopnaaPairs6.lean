/-
  Rows of pairs as they lie in memory; the reference's Get, From, Delete.
-/
import Derived.Test.YtpnfbabiibopnaaRise
import Derived.Test.YtpnfbabiibopnaaRdaw
import Derived.LoopN
namespace Go.Proofs.Ytpnfbabiibopnaa
open Go Go.RowKit

/-- The cells of a row of pairs. -/
def flat (L : Pairs) : List Value := L.flatMap fun p => [.string p.1, .string p.2]
theorem flat_snoc (L : Pairs) (a b : ByteArray) : flat (L ++ [(a, b)]) = flat L ++ [.string a, .string b] := by simp [flat]
theorem flat_length (L : Pairs) : (flat L).length = L.length * 2 := by
  unfold flat
  induction L with
  | nil => rfl
  | cons p r ih => simp only [List.flatMap_cons, List.length_append, ih, List.length_cons, List.length_nil]; omega
theorem flat_at : ∀ (L : Pairs) (j : Nat) (h : j < L.length), (flat L)[j * 2]? = some (.string L[j].1) ∧ (flat L)[j * 2 + 1]? = some (.string L[j].2)
  | p :: r, 0, _ => by simp [flat]
  | p :: r, j + 1, h => by
    have ih := flat_at r j (by simpa using h)
    have e : flat (p :: r) = .string p.1 :: .string p.2 :: flat r := by simp [flat]
    rw [e, show (j + 1) * 2 = j * 2 + 1 + 1 by omega]
    simpa using ih

/-- At block g lie the pairs L. -/
def Lies (W : World) (g : Nat) (L : Pairs) : Prop := ∀ j (h : j < L.length), W.cell? ⟨g, j * 2, none⟩ = some (.string L[j].1) ∧ W.cell? ⟨g, j * 2 + 1, none⟩ = some (.string L[j].2)

theorem Lies.of_row {W : World} {base g cap : Nat} {L : Pairs} (h : W.ownsRow base 83 2 (.slice (some ⟨g, 0, none⟩) L.length cap) L.length (flat L)) : Lies W g L := by
  intro j hj
  have h1 := flat_at L j hj
  have a1 := h.cells (g := g) rfl (j * 2) _ h1.1
  have a2 := h.cells (g := g) rfl (j * 2 + 1) _ h1.2
  rw [Addr.add_lit, Nat.zero_add] at a1 a2
  exact ⟨a1, a2⟩
theorem Lies.stays {W W' : World} {g : Nat} {L : Pairs} (h : Lies W g L) (hb : W'.heap[g]? = W.heap[g]?) : Lies W' g L := fun j hj =>
  ⟨(World.cell?_of_block (w := W) (a := ⟨g, j * 2, none⟩) hb).trans (h j hj).1, (World.cell?_of_block (w := W) (a := ⟨g, j * 2 + 1, none⟩) hb).trans (h j hj).2⟩
theorem Lies.take {W : World} {g : Nat} {L : Pairs} (h : Lies W g L) (m : Nat) : Lies W g (L.take m) := fun j hj => by
  have hj' : j < L.length := by rw [List.length_take] at hj; omega
  have := h j hj'
  simpa using this

theorem info_pair : (Try.prog.info? 83).map (fun i => (i.zero, i.size, i.bytes)) = some (some (.agg #[.string ⟨#[]⟩, .string ⟨#[]⟩]), 2, 32) := by kernel_rfl

/-- What collects: a slice of its own with just the pairs L; what lay lies as it lay. -/
def Collected (L : Pairs) (w : World) (e : Ending) (W' : World) : Prop :=
  ∃ g cap, e = .returned (.slice (some ⟨g, 0, none⟩) L.length cap) ∧ W'.ownsRow w.heap.size 83 2 (.slice (some ⟨g, 0, none⟩) L.length cap) L.length (flat L) ∧ Below w.heap.size w W'

theorem Collected.lies {L : Pairs} {w W' : World} {g cap : Nat} (hr : W'.ownsRow w.heap.size 83 2 (.slice (some ⟨g, 0, none⟩) L.length cap) L.length (flat L)) : Lies W' g L ∧ w.heap.size ≤ g ∧ g < W'.heap.size := by
  have := hr.lt g rfl
  exact ⟨Lies.of_row hr, this.1, this.2⟩

/-- What the loops that collect know of the slice that they grow. -/
def Grows (B : Nat) (w0 : World) (L : Pairs) (o : Value) (W : World) : Prop :=
  ∃ g cap, o = .slice (some ⟨g, 0, none⟩) L.length cap ∧ W.ownsRow B 83 2 (.slice (some ⟨g, 0, none⟩) L.length cap) L.length (flat L) ∧ Below B w0 W

theorem pair_news (w : World) (a b : ByteArray) (t : TypeId) : ∀ j u, [Value.string a, .string b][j]? = some u → (w.alloc (.cells #[.string a, .string b] t)).cell? ((⟨w.heap.size, 0, none⟩ : Addr).add j) = some u :=
  World.news_of_block (cs := #[.string a, .string b]) (heap_alloc_new w _)
theorem pair_one (a b : ByteArray) : ∀ u ∈ [Value.string a, .string b], u.oneCell' = true := by
  intro u hu
  simp only [List.mem_cons, List.not_mem_nil, or_false] at hu
  rcases hu with rfl | rfl <;> rfl

/-- Behind the append of one pair. -/
theorem Grows.next {B : Nat} {w0 W w1 : World} {L : Pairs} {g cap : Nat} {v' : Value} {a b : ByteArray} {tmp : Obj} (hB : B ≤ W.heap.size) (hr : W.ownsRow B 83 2 (.slice (some ⟨g, 0, none⟩) L.length cap) L.length (flat L)) (hb : Below B w0 W)
    (hown' : w1.ownsRow B 83 2 v' (L.length + 1) (flat L ++ [.string a, .string b])) (hgrow : (W.alloc tmp).grownBy w1 (Value.ownBlock (.slice (some ⟨g, 0, none⟩) L.length cap))) : Grows B w0 (L ++ [(a, b)]) v' w1 ∧ Below B W w1 := by
  obtain ⟨g', cap', rfl⟩ := ownsRow_succ hown'
  have hg := (hr.lt g rfl).1
  have h1 : Below B W w1 := ((Below.refl B W).alloc hB tmp).grown hgrow (by simp; omega) (fun k e => by
    have : g = k := by simpa [Value.ownBlock] using e
    omega)
  refine ⟨⟨g', cap', by simp, ?_, hb.trans h1⟩, h1⟩
  rw [flat_snoc, List.length_append]
  exact hown'

/-! ### Get -/
theorem getD_first : ∀ (L : Pairs) (x : ByteArray) (k : Nat) (h : k < L.length), (∀ t (ht : t < L.length), t < k → L[t].1 ≠ x) → L[k].1 = x → getD L x = some L[k].2
  | p :: r, x, 0, _, _, e => by unfold getD; rw [if_pos (by simpa using e)]; rfl
  | p :: r, x, k + 1, h, hn, e => by
    unfold getD
    rw [if_neg (by have := hn 0 (by simp) (by omega); simpa using this), getD_first r x k (by simpa using h) (fun t ht hk => by have := hn (t + 1) (by simpa using ht) (by omega); simpa using this) (by simpa using e)]
    simp
theorem ne_bytes {a b : ByteArray} (h : a ≠ b) : (a.toList == b.toList) = false := by
  rw [beq_eq_false_iff_ne]; exact fun e => h (ba_ext e)

/-- None of the first k pairs has the key. -/
def NoneYet (L : Pairs) (x : ByteArray) (k : Nat) : Prop := ∀ t (ht : t < L.length), t < k → L[t].1 ≠ x
theorem NoneYet.next {L : Pairs} {x : ByteArray} {k : Nat} (h : NoneYet L x k) (hk : k < L.length) (hne : L[k].1 ≠ x) : NoneYet L x (k + 1) := fun t ht hlt => by
  by_cases e : t = k
  · subst e; exact hne
  · exact h t ht (by omega)

/-- What the reference's Get answers. -/
def RefGot (L : Pairs) (x : ByteArray) (w : World) (e : Ending) (w' : World) : Prop := e = .returned (.tuple #[.string ((getD L x).getD ⟨#[]⟩), .bool (hasD L x)]) ∧ w = w'

set_option maxHeartbeats 1000000 in
theorem refget_any (g c : Nat) (L : Pairs) (x : ByteArray) (w : World) (h : Lies w g L) (hn : L.length ≤ 10000) :
    Calls Try.prog 15 #[.slice (some ⟨g, 0, none⟩) L.length c, .string x] w (RefGot L x w) := by
  have H := Lib.hid h
  obtain ⟨n, hnn⟩ : ∃ n, L.length = n := ⟨_, rfl⟩
  rw [hnn] at hn ⊢
  have HN := Lib.hid hnn
  clear h hnn
  go_enter Try.func15, Try.ntmps15
  go_wp2
  go_loop [6] (fun i => ∃ k : Nat, k ≤ n ∧ i = .int .i64 k ∧ NoneYet L x k) (fun i => n - (intOf i).toNat)
  case atStart => exact ⟨0, Nat.zero_le _, rfl, fun t ht h0 => absurd h0 (Nat.not_lt_zero _)⟩
  case round =>
    obtain ⟨k, hk, rfl, hnone⟩ := hrel
    have HNo := Lib.hid hnone
    clear hnone
    by_cases hlt : k < n
    · have hltL : k < L.length := by rw [HN.out]; exact hlt
      obtain ⟨c1, c2⟩ := H.out k hltL
      by_cases he : L[k].1 = x
      · have hg := getD_first L x k hltL HNo.out he
        have HE := Lib.hid (show RefGot L x w (.returned (.tuple #[.string L[k].2, .bool true])) w from ⟨by unfold hasD; rw [hg]; rfl, rfl⟩)
        obtain ⟨u, hu⟩ : ∃ u, L[k].2 = u := ⟨_, rfl⟩
        rw [hu] at c2 HE
        rw [he] at c1
        clear hu he hg hltL
        go_wp2
        go_ret2
        exact HE.out
      · have hne := ne_bytes he
        have HX := Lib.hid (HNo.out.next hltL he)
        obtain ⟨u, hu⟩ : ∃ u, L[k].1 = u := ⟨_, rfl⟩
        rw [hu] at c1 hne
        clear hu he hltL c2
        go_wp2
        go_round
        case rel => exact ⟨k + 1, by omega, by go_num, HX.out⟩
        case measure => simp [intOf]; omega
    · have HE := Lib.hid (show RefGot L x w (.returned (.tuple #[.string ⟨#[]⟩, .bool false])) w from by
        have hg : getD L x = none := getD_ne L x (fun q hq => by
          obtain ⟨t, ht, rfl⟩ := List.getElem_of_mem hq
          exact HNo.out t ht (by have := HN.out; omega))
        exact ⟨by unfold hasD; rw [hg]; rfl, rfl⟩)
      go_wp2
      go_ret2
      exact HE.out

end Go.Proofs.Ytpnfbabiibopnaa
