/-
  A heap's Make.
-/
import Derived.Test.YtgigjbngocfkbaaHops4
namespace Go.Proofs.Ytgigjbngocfkbaa
open Go Go.RowKit
attribute [local go_sem ↓] Go.wp_at_zero Go.wp_at_succ

theorem info_u64 : (Try.prog.info? 22).map (fun i => (i.zero, i.size, i.bytes)) = some (some (.int .u64 0), 1, 8) := by kernel_rfl

section
variable {W X Y Z : World} {B p : Nat} {D : HpD} {f : Nat → Prop} {mb : Option Nat} {g cp : Nat → Nat}

/-- A map is made where there is none yet. -/
theorem HpAt.setMap (h : HpAt W B p D f none g cp) :
    ∃ f', HpAt ((W.alloc (.map #[] 0)).setCell ⟨p, 0, none⟩ (.map (some W.heap.size))) B p D f' (some W.heap.size) g cp ∧ Step f f' W ((W.alloc (.map #[] 0)).setCell ⟨p, 0, none⟩ (.map (some W.heap.size))) := by
  have hL : D.L = [] := by
    rcases h.map with ⟨_, h0⟩ | ⟨m, h1, _⟩
    · exact h0
    · cases h1
  have hno : ∀ k b, liveAt D.L k ≠ some b := fun k b e => by rw [hL, liveAt_nil] at e; cases e
  have hp := h.plt
  have h2 := h.below (below_alloc W (.map #[] 0))
  have hM : Mapped ((W.alloc (.map #[] 0)).setCell ⟨p, 0, none⟩ (.map (some W.heap.size))) W.heap.size 0 (fun _ => none) :=
    (Mapped.made W).stays (Below.heap_setCell _ _ _ _ (by show W.heap.size ≠ p; omega))
  refine ⟨fun k => k = p ∨ some W.heap.size = some k ∨ ∃ j b, liveAt D.L j = some b ∧ g j = k,
    ⟨(heap_setAt h2.own).trans rfl, .inr ⟨_, rfl, ?_⟩, fun k b hb => absurd hb (hno k b), fun k k' b b' hb => absurd hb (hno k b), rfl, fun k hk => ?_, h.many, fun k b hb => absurd hb (hno k b)⟩,
    rfl, rfl, rfl, by simp [World.setCell], fun k hk hn => ?_, fun k hk => ?_⟩
  · refine (hM.mono (Nat.zero_le _)).same (fun k _ => ?_)
    rw [phi_none (by rw [hL]; exact liveAt_nil k)]
  · rcases hk with hk | hk | ⟨j, b, hj, _⟩
    · rw [hk]; exact h.base p h.self
    · cases hk; exact h.size
    · exact absurd hj (hno j b)
  · rw [Below.heap_setCell _ _ _ _ (fun e => hn (by rw [e]; exact h.self))]
    exact (below_alloc W _).block k hk
  · rcases hk with hk | hk | ⟨j, b, hj, _⟩
    · rw [hk]; exact .inl h.self
    · cases hk; exact .inr (Nat.le_refl _)
    · exact absurd hj (hno j b)

/-- A block is made: the count is raised, its cells are made, and it is put into the map. -/
theorem HpAt.make {m n c : Nat} {s : ByteArray} {u : Value} (h : HpAt W B p D f (some m) g cp) (hm : D.L.length < 1000000) (hn : n ≤ 256) (hs : s.size ≤ 281474976710656) (hu : u = .int .u64 ((D.L.length + 1 : Nat) : Int))
    (hX : Below W.heap.size (W.setCell ⟨p, 1, none⟩ u) X) (hlot : Lot X 22 1 (.slice (some ⟨c, 0, none⟩) n n) n ((List.replicate n (0 : Int)).map uval)) (hc : W.heap.size ≤ c) (ψ : Nat → Option Value)
    (hZ : Mapped Z m (D.L.length + 1) ψ) (hψ : ψ = fun k => if k = D.L.length + 1 then some (.agg #[.slice (some ⟨c, 0, none⟩) n n, .string s]) else phi g cp D.L k) (hg : X.grownBy Z (some m)) :
    HpR B p f W (.int .u64 ((D.L.length + 1 : Nat) : Int)) (D.add ⟨List.replicate n 0, s, false⟩) (.returned (.int .u64 ((D.L.length + 1 : Nat) : Int))) Z ∧ Z.cell? ⟨p, 0, none⟩ = some (.map (some m)) ∧ Z.cell? ⟨p, 1, none⟩ = some u := by
  subst hu hψ
  have hlt := h.lt
  have hcell : ∀ k, f k → k ≠ p → X.heap[k]? = W.heap[k]? := fun k hk hkp => (hX.block k (hlt k hk)).trans (Below.heap_setCell _ _ _ _ hkp)
  have hne : ∀ k, f k → some k ≠ some m → Z.heap[k]? = X.heap[k]? := fun k hk hkm => hg.block k (by have h1 := hX.size; have h2 := hlt k hk; rw [World.size_setCell] at h1; omega) hkm
  have hpm : some p ≠ some m := fun e => h.mp e.symm
  have hpZ : Z.heap[p]? = some (.cells #[.map (some m), .int .u64 ((D.L.length + 1 : Nat) : Int), .bool D.locked, .int .i64 D.faults] 99 (0, 0)) := by
    rw [hne p h.self hpm, hX.block p h.plt, heap_setAt h.own]; rfl
  have hlive : ∀ j, liveAt (D.add ⟨List.replicate n 0, s, false⟩).L j = if j = D.L.length + 1 then some ⟨List.replicate n 0, s, false⟩ else liveAt D.L j := fun j => by
    show liveAt (D.L ++ [_]) j = _
    rw [liveAt_snoc]; rfl
  have hcl : c < Z.heap.size := by
    obtain ⟨cur, h1⟩ := hlot.tag (k := c) rfl
    have := heap_at_lt h1
    have := hg.size; omega
  have hcm : c ≠ m := fun e => by
    obtain ⟨cur, h1⟩ := hlot.tag (k := c) rfl
    have := hlt m (h.fm rfl); omega
  refine ⟨⟨fun k => k = p ∨ some m = some k ∨ ∃ j b, liveAt (D.add ⟨List.replicate n 0, s, false⟩).L j = some b ∧ (fun j => if j = D.L.length + 1 then c else g j) j = k, rfl,
    ⟨some m, fun j => if j = D.L.length + 1 then c else g j, fun j => if j = D.L.length + 1 then n else cp j, ?_, .inr ⟨m, rfl, ?_⟩, fun k b hb => ?_, fun k k' b b' hb hb' he => ?_, rfl, fun k hk => ?_, ⟨?_, h.many.2⟩, fun k b hb => ?_⟩, ?_⟩, ?_, ?_⟩
  · have : (D.add ⟨List.replicate n 0, s, false⟩).L.length = D.L.length + 1 := by simp [HpD.add]
    rw [this]; exact hpZ
  · have : (D.add ⟨List.replicate n 0, s, false⟩).L.length = D.L.length + 1 := by simp [HpD.add]
    rw [this]
    refine hZ.same (fun k _ => ?_)
    unfold phi
    rw [hlive]
    by_cases hk : k = D.L.length + 1
    · subst hk; rw [if_pos rfl, if_pos rfl]; simp
    · rw [if_neg hk, if_neg hk]
      cases hb : liveAt D.L k with
      | none => rfl
      | some b => simp [hk]
  · rw [hlive] at hb
    by_cases hk : k = D.L.length + 1
    · subst hk
      rw [if_pos rfl] at hb
      cases hb
      rw [if_pos rfl, if_pos rfl]
      have := hlot.kept hg (.inr (by show some c ≠ some m; exact fun e => hcm (Option.some.inj e)))
      simpa using this
    · rw [if_neg hk] at hb
      rw [if_neg hk, if_neg hk]
      refine (h.lie k b hb).stays (fun q hq => ?_)
      obtain rfl : g k = q := by simpa [Value.ownBlock] using hq
      rw [hne _ (h.fg hb) (fun e => h.gm hb e.symm), hcell _ (h.fg hb) (h.gp hb)]
  · rw [hlive] at hb hb'
    by_cases hk : k = D.L.length + 1
    · by_cases hk' : k' = D.L.length + 1
      · rw [hk, hk']
      · rw [if_neg hk'] at hb'
        have he' : c = g k' := by simpa [hk, hk'] using he
        have := hlt _ (h.fg hb'); omega
    · rw [if_neg hk] at hb
      by_cases hk' : k' = D.L.length + 1
      · have he' : g k = c := by simpa [hk, hk'] using he
        have := hlt _ (h.fg hb); omega
      · rw [if_neg hk'] at hb'
        have he' : g k = g k' := by simpa [hk, hk'] using he
        exact h.apart _ _ _ _ hb hb' he'
  · rcases hk with hk | hk | ⟨j, b, hj, hk⟩
    · rw [hk]; exact h.base p h.self
    · cases hk; exact h.base m (h.fm rfl)
    · rw [hlive] at hj
      by_cases hjk : j = D.L.length + 1
      · have hk' : c = k := by simpa [hjk] using hk
        have := h.size; omega
      · rw [if_neg hjk] at hj
        have hk' : g j = k := by simpa [hjk] using hk
        rw [← hk']; exact h.base _ (h.fg hj)
  · show (D.L ++ [_]).length ≤ _; simp; omega
  · rw [hlive] at hb
    by_cases hk : k = D.L.length + 1
    · rw [if_pos hk] at hb; cases hb; exact ⟨by simpa using hn, hs⟩
    · rw [if_neg hk] at hb; exact h.fits k b hb
  · refine ⟨hg.os.trans hX.os, hg.tape.trans hX.tape, hg.output.trans hX.output, by have h1 := hX.size; have h2 := hg.size; rw [World.size_setCell] at h1; omega, fun k hk hn => ?_, fun k hk => ?_⟩
    · have hkp : k ≠ p := fun e => hn (by rw [e]; exact h.self)
      have hkm : some k ≠ some m := fun e => hn (by cases e; exact h.fm rfl)
      rw [hg.block k (by have h1 := hX.size; rw [World.size_setCell] at h1; omega) hkm, hX.block k hk, Below.heap_setCell _ _ _ _ hkp]
    · rcases hk with hk | hk | ⟨j, b, hj, hk⟩
      · rw [hk]; exact .inl h.self
      · cases hk; exact .inl (h.fm rfl)
      · rw [hlive] at hj
        by_cases hjk : j = D.L.length + 1
        · have hk' : c = k := by simpa [hjk] using hk
          right; omega
        · rw [if_neg hjk] at hj
          have hk' : g j = k := by simpa [hjk] using hk
          left; rw [← hk']; exact h.fg hj
  · exact (cell_of hpZ).trans rfl
  · exact (cell_of hpZ).trans rfl
end

/-- What makeSlice lays. -/
theorem lot_made (V : World) (n : Nat) (hn : n ≤ 256) : Lot (V.alloc (.cells (madeCells #[.int .u64 0] n) 22)) 22 1 (.slice (some ⟨V.heap.size, 0, none⟩) n n) n ((List.replicate n (0 : Int)).map uval) := by
  refine ⟨by simp, .inr ⟨V.heap.size, n, _, rfl, World.alloc_heap_new V _, Nat.le_refl _, by unfold maxLen; omega, by simp [size_madeCells], ?_⟩⟩
  rw [toList_madeCells_one, Nat.mul_one, List.take_of_length_le (by simp)]
  simp [uval]

/-- A map's put, at a step of a region that draws its order. -/
theorem step_put {w : World} {ops : Array Oper} {o : Oper} {a : Act} {K : Act → World → Prop} {Q : Exit → Act → World → Prop} {E : Prop} (hgd : o.guard = none) (m x v : Operand) (hop : o.op = Op.mapUpdate 97 m x v)
    (b n k : Nat) (z : Int) (hz : (k : Int) = z) (φ : Nat → Option Value) (val : Value) (hm : a.eval m = .map (some b)) (hx : a.eval x = .int .u64 z) (hv : a.eval v = val) (hM : Mapped w b n φ) (hn : n < maxLen) (hk : k < 18446744073709551616)
    (h : ∀ w', Mapped w' b (n + 1) (fun j => if j = k then some val else φ j) → w.grownBy w' (some b) → K (a.put o.dst undef) w') :
    if Region.wanted o (yielded ops a.tmps) = true then Oper.wp Try.prog o a w K Q else E := by
  have hw : Region.wanted o (yielded ops a.tmps) = true := by simp [Region.wanted, hgd]
  rw [if_pos hw]
  subst hz
  obtain ⟨w', hr, h1, h2⟩ := hM.put hn k hk val
  unfold Oper.wp
  simp [execOp, hop, hm, hx, hv, hr, Result.andThen]
  exact h w' h1 h2

end Go.Proofs.Ytgigjbngocfkbaa
