/-
  What HeapKeeps knows of its heap between two rounds.
-/
import Derived.Test.YteggbkhlmehpmaaHlaw
namespace Go.Proofs.Yteggbkhlmehpmaa
open Go Go.RowKit

/-- The text of a block. -/
def txt (T : List ByteArray) (j : Nat) : ByteArray := match T[j]? with | some t => if t.size ≤ 50 then t else ⟨#[]⟩ | none => ⟨#[]⟩
theorem txt_hit {T : List ByteArray} {j : Nat} (h : j < T.length) (hs : T[j].size ≤ 50) : txt T j = T[j] := by unfold txt; rw [List.getElem?_eq_getElem h]; simp [hs]
theorem txt_long {T : List ByteArray} {j : Nat} (h : j < T.length) (hs : ¬ T[j].size ≤ 50) : txt T j = ⟨#[]⟩ := by unfold txt; rw [List.getElem?_eq_getElem h]; simp [hs]
theorem txt_none {T : List ByteArray} {j : Nat} (h : ¬ j < T.length) : txt T j = ⟨#[]⟩ := by unfold txt; rw [List.getElem?_eq_none (by omega)]
theorem txt_size (T : List ByteArray) (j : Nat) : (txt T j).size ≤ 50 := by
  unfold txt
  split
  · split
    · assumption
    · exact Nat.zero_le _
  · exact Nat.zero_le _

/-- The first so many blocks stand as they were made, but for their words. -/
structure KeepD (S : List Nat) (T : List ByteArray) (n : Nat) (D : HpD) : Prop where
  len : D.L.length = n
  faults : D.faults = 0
  live : ∀ j, j < n → ∃ ws, liveAt D.L (j + 1) = some ⟨ws, txt T j, false⟩ ∧ ws.length = S.getD j 0
theorem KeepD.start (S : List Nat) (T : List ByteArray) : KeepD S T 0 emptyD := ⟨rfl, rfl, fun _ hj => absurd hj (Nat.not_lt_zero _)⟩
section
variable {S : List Nat} {T : List ByteArray} {n : Nat} {D : HpD}
theorem KeepD.add {s : Nat} {t : ByteArray} (h : KeepD S T n D) (hs : S.getD n 0 = s) (ht : txt T n = t) : KeepD S T (n + 1) (D.add ⟨List.replicate s 0, t, false⟩) := by
  refine ⟨by simp [HpD.add, h.len], h.faults, fun j hj => ?_⟩
  show ∃ ws, liveAt (D.L ++ [_]) (j + 1) = _ ∧ _
  rw [liveAt_snoc, h.len]
  by_cases hjn : j = n
  · subst hjn
    rw [if_pos rfl]
    exact ⟨List.replicate s 0, by rw [ht]; rfl, by rw [hs]; simp⟩
  · rw [if_neg (by omega)]
    exact h.live j (by omega)
theorem word_live {k i : Nat} {b : BlkD} {u : Int} (hb : liveAt D.L k = some b) (k' : Nat) : liveAt (D.word k (i : Int) u).L k' = if k' = k then some ⟨b.ws.set i u, b.text, false⟩ else liveAt D.L k' := by
  obtain ⟨h1, h2, _, _⟩ := liveAt_some hb
  rw [word_hit hb]
  show liveAt (D.L.set (k - 1) _) k' = _
  rw [liveAt_set _ _ _ _ h1 h2]; rfl
theorem KeepD.spot (h : KeepD S T n D) {j i : Nat} (hj : j < n) (hi : i < S.getD j 0) : spot D.L (j + 1) (i : Int) = 0 := by
  obtain ⟨ws, h1, h2⟩ := h.live j hj
  exact spot_hit h1 (by rw [h2]; exact hi)
theorem KeepD.word (h : KeepD S T n D) {j i : Nat} (u : Int) (hj : j < n) : KeepD S T n (D.word (j + 1) (i : Int) u) := by
  obtain ⟨ws, h1, h2⟩ := h.live j hj
  have hl := word_live (i := i) (u := u) h1
  refine ⟨by rw [word_hit h1]; simp [HpD.at, h.len], by rw [word_hit h1]; exact h.faults, fun j' hj' => ?_⟩
  rw [hl]
  by_cases hjj : j' = j
  · subst hjj
    rw [if_pos rfl]
    exact ⟨ws.set i u, rfl, by simpa using h2⟩
  · rw [if_neg (by omega)]
    exact h.live j' hj'
/-- What was stored is there. -/
theorem KeepD.stored (h : KeepD S T n D) {j i : Nat} (u : Int) (hj : j < n) (hi : i < S.getD j 0) : wordAt (D.word (j + 1) (i : Int) u).L (j + 1) (i : Int) = u := by
  obtain ⟨ws, h1, h2⟩ := h.live j hj
  have hl := word_live (i := i) (u := u) h1 (j + 1)
  rw [if_pos rfl] at hl
  rw [wordAt_hit hl (by show i < (ws.set i u).length; rw [List.length_set, h2]; exact hi)]
  simp
/-- Another block's word is no matter. -/
theorem KeepD.other (h : KeepD S T n D) {j j' i i' : Nat} (u : Int) (hj' : j' < n) (hne : j ≠ j') : wordAt (D.word (j' + 1) (i' : Int) u).L (j + 1) (i : Int) = wordAt D.L (j + 1) (i : Int) := by
  obtain ⟨ws, h1, h2⟩ := h.live j' hj'
  have hl := word_live (i := i') (u := u) h1 (j + 1)
  rw [if_neg (by omega)] at hl
  unfold wordAt
  rw [hl]
theorem KeepD.text (h : KeepD S T n D) {j : Nat} (hj : j < n) : textAt D.L (j + 1) = txt T j ∧ there D.L (j + 1) = 0 := by
  obtain ⟨ws, h1, h2⟩ := h.live j hj
  exact ⟨textAt_hit h1, there_hit h1⟩
theorem KeepD.size (h : KeepD S T n D) {j : Nat} (hj : j < n) : sizeAt D.L (j + 1) = S.getD j 0 := by
  obtain ⟨ws, h1, h2⟩ := h.live j hj
  unfold sizeAt; rw [h1]; exact h2

/-- The first so many were dropped, and asked for again. -/
structure GoneD (n k : Nat) (D : HpD) : Prop where
  len : D.L.length = n
  faults : D.faults = k
  gone : ∀ j, j < k → liveAt D.L (j + 1) = none
  live : ∀ j, k ≤ j → j < n → ∃ b, liveAt D.L (j + 1) = some b
theorem KeepD.toGone (h : KeepD S T n D) : GoneD n 0 D := ⟨h.len, h.faults, fun _ hj => absurd hj (Nat.not_lt_zero _), fun j _ hj => by obtain ⟨ws, h1, _⟩ := h.live j hj; exact ⟨_, h1⟩⟩
theorem lose_live {k : Nat} {b : BlkD} (hb : liveAt D.L k = some b) (k' : Nat) : liveAt (D.lose k).L k' = if k' = k then none else liveAt D.L k' := by
  obtain ⟨h1, h2, _, _⟩ := liveAt_some hb
  rw [lose_hit hb]
  show liveAt (D.L.set (k - 1) _) k' = _
  rw [liveAt_set _ _ _ _ h1 h2]; rfl
theorem GoneD.drop {k : Nat} (h : GoneD n k D) (hk : k < n) : there D.L (k + 1) = 0 ∧ dropD D (k + 1) = D.lose (k + 1) ∧ there (D.lose (k + 1)).L (k + 1) = 17 ∧ dropD (D.lose (k + 1)) (k + 1) = (D.lose (k + 1)).fault ∧ (D.lose (k + 1)).faults = k ∧ GoneD n (k + 1) (D.lose (k + 1)).fault := by
  obtain ⟨b, hb⟩ := h.live k (Nat.le_refl _) hk
  have hl := lose_live hb
  have ht := there_hit hb
  have hlen : (D.lose (k + 1)).L.length = n := by rw [lose_hit hb]; simp [HpD.at, h.len]
  have hf : (D.lose (k + 1)).faults = k := by rw [lose_hit hb]; exact h.faults
  have h17 : there (D.lose (k + 1)).L (k + 1) = 17 := by
    have := hl (k + 1)
    rw [if_pos rfl] at this
    rw [there_lost this, lost_then]
    rw [hlen]; omega
  refine ⟨ht, by unfold dropD; rw [if_pos ht], h17, by unfold dropD; rw [if_neg (by rw [h17]; decide)], hf, hlen, ?_, fun j hj => ?_, fun j hj hjn => ?_⟩
  · show (D.lose (k + 1)).faults + 1 = k + 1
    rw [hf]
  · show liveAt (D.lose (k + 1)).L (j + 1) = none
    rw [hl]
    by_cases hjk : j = k
    · rw [if_pos (by omega)]
    · rw [if_neg (by omega)]; exact h.gone j (by omega)
  · show ∃ b, liveAt (D.lose (k + 1)).L (j + 1) = some b
    rw [hl, if_neg (by omega)]
    exact h.live j (by omega) hjn
theorem GoneD.none (h : GoneD n n D) : NoneThere D.L := fun k => by
  cases k with
  | zero => unfold liveAt; rw [if_pos rfl]
  | succ j =>
    by_cases hj : j < n
    · exact h.gone j hj
    · exact liveAt_big (by rw [h.len]; omega)
end

/-- The numbers of the blocks. -/
def nums (n : Nat) : List Value := (List.range n).map fun (j : Nat) => Value.int .u64 ((j : Int) + 1)
theorem nums_succ (n : Nat) : nums (n + 1) = nums n ++ [.int .u64 ((n : Int) + 1)] := by unfold nums; rw [List.range_succ, List.map_append]; rfl
/-- A heap, and beside it the row of its blocks' numbers. -/
structure KpI (B : Nat) (W : World) (p n g cap : Nat) (f : Nat → Prop) (D : HpD) (X : World) : Prop where
  hp : Hp X B p D f
  row : Lot X 28 1 (.slice (some ⟨g, 0, none⟩) n cap) n (nums n)
  rB : B ≤ g
  rf : ¬ f g
  low : Below B W X
section
variable {B p n g cap : Nat} {W X Y : World} {f f' : Nat → Prop} {D D' : HpD}
theorem KpI.below (h : KpI B W p n g cap f D X) (hb : Below X.heap.size X Y) : KpI B W p n g cap f D Y :=
  ⟨h.hp.below hb, h.row.below hb, h.rB, h.rf, h.low.trans (hb.mono h.hp.size)⟩
theorem KpI.turn (h : KpI B W p n g cap f D X) (hp : Hp Y B p D' f') (hs : Step f f' X Y) : KpI B W p n g cap f' D' Y := by
  have hg := h.row.lt g rfl
  refine ⟨hp, h.row.stays (fun k hk => ?_), h.rB, hs.off hg h.rf, h.low.trans (hs.below h.hp.size h.hp.base)⟩
  obtain rfl : g = k := by simpa [Value.ownBlock] using hk
  exact hs.block _ hg h.rf
theorem KpI.cell (h : KpI B W p n g cap f D X) {j : Nat} (hj : j < n) : X.cell? ⟨g, j, none⟩ = some (.int .u64 ((j : Int) + 1)) := by
  obtain ⟨g', c', hv, hat⟩ := h.row.cells (by omega)
  simp only [Value.slice.injEq, Option.some.injEq, Addr.mk.injEq] at hv
  obtain ⟨⟨rfl, _⟩, _⟩ := hv
  exact hat j _ (by unfold nums; rw [List.getElem?_map, List.getElem?_range hj]; rfl)
theorem KpI.grow {w4 : World} {o : Obj} {g4 cap4 : Nat} (h : KpI B W p n g cap f D X) (hL : Lot w4 28 1 (.slice (some ⟨g4, 0, none⟩) (n + 1) cap4) (n + 1) (nums n ++ [.int .u64 ((n : Int) + 1)])) (hg : (X.alloc o).grownBy w4 (some g)) (hat : some g = some g4 ∨ g4 = (X.alloc o).heap.size) :
    KpI B W p (n + 1) g4 cap4 f D w4 := by
  have h1 := h.below (below_alloc X o)
  have hsz := h1.hp.size
  refine ⟨h1.hp.stays (fun k hk => hg.block k (h1.hp.lt k hk) (fun e => h1.rf (by cases e; exact hk))), by rw [nums_succ]; exact hL, ?_, fun hf => ?_, h1.low.grown hg hsz (fun k e => by cases e; exact h.rB)⟩
  · rcases hat with e | e
    · cases e; exact h.rB
    · rw [e]; exact hsz
  · rcases hat with e | e
    · cases e; exact h.rf hf
    · have := h1.hp.lt _ hf; omega
theorem KpI.start {w1 : World} {p : Nat} {f : Nat → Prop} (h : Hp w1 W.heap.size p emptyD f) (hb : Below W.heap.size W w1) : KpI W.heap.size W p 0 w1.heap.size 0 f emptyD (w1.alloc (.cells #[] 28)) :=
  ⟨h.below (below_alloc _ _), ⟨by simp [nums], .inr ⟨w1.heap.size, 0, #[], rfl, World.alloc_heap_new w1 _, Nat.le_refl _, Nat.zero_le _, by simp, by simp [nums]⟩⟩, hb.size, fun hf => absurd (h.lt _ hf) (Nat.lt_irrefl _), hb.alloc hb.size _⟩
end

section
variable {B p n : Nat} {X : World} {f : Nat → Prop} {D : HpD} {S : List Nat} {T : List ByteArray}
theorem kstore (h : Hp X B p D f) (hk : KeepD S T n D) {j i : Nat} (hj : j < n) (hi : i < S.getD j 0) (hn : n ≤ 1000) (u : Int) :
    Calls Try.prog 19 #[.pointer (some ⟨p, 0, none⟩), .int .u64 ((j : Int) + 1), .int .i64 (i : Int), .int .u64 u] X (HpR B p f X (.int .i64 0) (D.word (j + 1) (i : Int) u)) := by
  have h1 := store_any X h (by rw [hk.faults]; omega) (j + 1) (by omega) (i : Int) u
  unfold storeD at h1
  rw [if_pos (hk.spot hj hi), hk.spot hj hi] at h1
  exact h1
theorem kbump (h : Hp X B p D f) (hk : KeepD S T n D) {j : Nat} (hj : j < n) (hi : 0 < S.getD j 0) (hn : n ≤ 1000) (u : Int) :
    Calls Try.prog 20 #[.pointer (some ⟨p, 0, none⟩), .int .u64 ((j : Int) + 1), .int .i64 0, .int .u64 u] X (fun e W' => ∃ v, HpR B p f X v (D.word (j + 1) ((0 : Nat) : Int) (IntKind.u64.wrap (wordAt D.L (j + 1) 0 + u))) e W') := by
  have h1 := bump_any X h (by rw [hk.faults]; omega) (j + 1) (by omega) 0 u
  unfold bumpD at h1
  have hs : spot D.L (j + 1) 0 = 0 := hk.spot (i := 0) hj hi
  rw [if_pos hs] at h1
  exact h1.mono fun e W' h2 => ⟨_, h2⟩
theorem kload (h : Hp X B p D f) (hk : KeepD S T n D) {j i : Nat} (hj : j < n) (hi : i < S.getD j 0) (hn : n ≤ 1000) {u : Int} (hu : wordAt D.L (j + 1) (i : Int) = u) :
    Calls Try.prog 21 #[.pointer (some ⟨p, 0, none⟩), .int .u64 ((j : Int) + 1), .int .i64 (i : Int)] X (HpR B p f X (TwoV u 0) D) := by
  have h1 := load_any X h (by rw [hk.faults]; omega) (j + 1) (by omega) (i : Int)
  unfold loadV loadD at h1
  rw [if_pos (hk.spot hj hi), if_pos (hk.spot hj hi), hk.spot hj hi, hu] at h1
  exact h1
theorem kwords (h : Hp X B p D f) (hk : KeepD S T n D) {j : Nat} (hj : j < n) (hn : n ≤ 1000) {t : ByteArray} (ht : txt T j = t) :
    Calls Try.prog 22 #[.pointer (some ⟨p, 0, none⟩), .int .u64 ((j : Int) + 1)] X (HpR B p f X (.tuple #[.string t, .int .i64 0]) D) := by
  have h1 := words_any X h (by rw [hk.faults]; omega) (j + 1) (by omega)
  unfold wordsD at h1
  rw [(hk.text hj).2, (hk.text hj).1, if_pos rfl, ht] at h1
  exact h1
theorem kdrop (h : Hp X B p D f) {k : Nat} (hk : GoneD n k D) (hkn : k < n) (hn : n ≤ 1000) :
    Calls Try.prog 23 #[.pointer (some ⟨p, 0, none⟩), .int .u64 ((k : Int) + 1)] X (HpR B p f X (.int .i64 0) (D.lose (k + 1))) := by
  have h1 := drop_any X h (by rw [hk.faults]; omega) (k + 1) (by omega)
  obtain ⟨e1, e2, _⟩ := hk.drop hkn
  rw [e1, e2] at h1
  exact h1
theorem kdrop2 {k : Nat} (h : Hp X B p (D.lose (k + 1)) f) (hk : GoneD n k D) (hkn : k < n) (hn : n ≤ 1000) :
    Calls Try.prog 23 #[.pointer (some ⟨p, 0, none⟩), .int .u64 ((k : Int) + 1)] X (HpR B p f X (.int .i64 17) (D.lose (k + 1)).fault) := by
  obtain ⟨_, _, e3, e4, e5, _⟩ := hk.drop hkn
  have h1 := drop_any X h (by rw [e5]; omega) (k + 1) (by omega)
  rw [e3, e4] at h1
  exact h1
end

end Go.Proofs.Yteggbkhlmehpmaa
