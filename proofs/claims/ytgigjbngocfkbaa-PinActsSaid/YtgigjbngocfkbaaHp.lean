/-
  A heap: what it has, told plainly; and as it lies in memory. What a change of it leaves.
-/
import Derived.Test.YtgigjbngocfkbaaHmap
namespace Go.Proofs.Ytgigjbngocfkbaa
open Go Go.RowKit

/-- A block that was made: its words, its text, whether it was dropped. -/
structure BlkD where
  ws : List Int
  text : ByteArray
  gone : Bool
/-- A heap: all blocks that were made, in their order; whether the lock is taken; how many faults there were. -/
structure HpD where
  L : List BlkD
  locked : Bool
  faults : Nat
/-- The block of a number, if it is there. -/
def liveAt (L : List BlkD) (k : Nat) : Option BlkD := if k = 0 then none else match L[k - 1]? with | some b => if b.gone then none else some b | none => none
/-- What is told of a number whose block is not there. -/
def lostAt (L : List BlkD) (k : Nat) : Int := if k = 0 ∨ L.length < k then 16 else 17
def emptyD : HpD := ⟨[], false, 0⟩
def HpD.fault (D : HpD) : HpD := ⟨D.L, D.locked, D.faults + 1⟩
def HpD.lock (D : HpD) (b : Bool) : HpD := ⟨D.L, b, D.faults⟩
def HpD.add (D : HpD) (x : BlkD) : HpD := ⟨D.L ++ [x], D.locked, D.faults⟩
def HpD.at (D : HpD) (k : Nat) (x : BlkD) : HpD := ⟨D.L.set (k - 1) x, D.locked, D.faults⟩

theorem liveAt_nil (k : Nat) : liveAt [] k = none := by unfold liveAt; split <;> simp
theorem liveAt_some {L : List BlkD} {k : Nat} {b : BlkD} (h : liveAt L k = some b) : 1 ≤ k ∧ k ≤ L.length ∧ L[k - 1]? = some b ∧ b.gone = false := by
  unfold liveAt at h
  split at h
  · cases h
  · rename_i h0
    split at h
    · rename_i x hx
      split at h
      · cases h
      · rename_i hg
        cases h
        have := (List.getElem?_eq_some_iff.1 hx).1
        exact ⟨by omega, by omega, hx, by simpa using hg⟩
    · cases h
theorem liveAt_mk {L : List BlkD} {k : Nat} {b : BlkD} (h1 : 1 ≤ k) (h2 : L[k - 1]? = some b) (h3 : b.gone = false) : liveAt L k = some b := by
  unfold liveAt; rw [if_neg (by omega), h2]; simp [h3]
theorem liveAt_big {L : List BlkD} {k : Nat} (h : L.length < k) : liveAt L k = none := by
  cases hl : liveAt L k with
  | none => rfl
  | some b => have := (liveAt_some hl).2.1; omega
theorem liveAt_snoc (L : List BlkD) (x : BlkD) (k : Nat) : liveAt (L ++ [x]) k = if k = L.length + 1 then (if x.gone then none else some x) else liveAt L k := by
  unfold liveAt
  by_cases h0 : k = 0
  · simp [h0]
  · rw [if_neg h0, if_neg h0]
    by_cases hk : k = L.length + 1
    · subst hk; simp
    · rw [if_neg hk]
      rcases Nat.lt_or_ge (k - 1) L.length with hl | hl
      · rw [List.getElem?_append_left hl]
      · rw [List.getElem?_eq_none (by simp; omega), List.getElem?_eq_none hl]
theorem liveAt_set (L : List BlkD) (b k : Nat) (x : BlkD) (h1 : 1 ≤ b) (h2 : b ≤ L.length) : liveAt (L.set (b - 1) x) k = if k = b then (if x.gone then none else some x) else liveAt L k := by
  unfold liveAt
  by_cases h0 : k = 0
  · subst h0; rw [if_pos rfl, if_neg (by omega), if_pos rfl]
  · rw [if_neg h0, if_neg h0]
    by_cases hk : k = b
    · subst hk; rw [if_pos rfl, List.getElem?_set_self (by omega)]
    · rw [if_neg hk, List.getElem?_set_ne (by omega)]

def uval (a : Int) : Value := .int .u64 a
/-- What stands in the map at a number. -/
def phi (g cp : Nat → Nat) (L : List BlkD) (k : Nat) : Option Value := (liveAt L k).map fun b => .agg #[.slice (some ⟨g k, 0, none⟩) b.ws.length (cp k), .string b.text]

/-- At p lies the heap D. What it writes to are f's blocks, none of them ahead of B. -/
structure HpAt (W : World) (B p : Nat) (D : HpD) (f : Nat → Prop) (mb : Option Nat) (g cp : Nat → Nat) : Prop where
  own : W.heap[p]? = some (.cells #[.map mb, .int .u64 D.L.length, .bool D.locked, .int .i64 D.faults] 99 (0, 0))
  map : (mb = none ∧ D.L = []) ∨ ∃ m, mb = some m ∧ Mapped W m D.L.length (phi g cp D.L)
  lie : ∀ k b, liveAt D.L k = some b → Lot W 22 1 (.slice (some ⟨g k, 0, none⟩) b.ws.length (cp k)) b.ws.length (b.ws.map uval)
  apart : ∀ k k' b b', liveAt D.L k = some b → liveAt D.L k' = some b' → g k = g k' → k = k'
  foot : f = fun k => k = p ∨ mb = some k ∨ ∃ j b, liveAt D.L j = some b ∧ g j = k
  base : ∀ k, f k → B ≤ k
  many : D.L.length ≤ 1000000 ∧ D.faults ≤ 1000000
  fits : ∀ k b, liveAt D.L k = some b → b.ws.length ≤ 256 ∧ b.text.size ≤ 281474976710656
def Hp (W : World) (B p : Nat) (D : HpD) (f : Nat → Prop) : Prop := ∃ mb g cp, HpAt W B p D f mb g cp

section
variable {W W' : World} {B p : Nat} {D : HpD} {f : Nat → Prop} {mb : Option Nat} {g cp : Nat → Nat}
theorem HpAt.self (h : HpAt W B p D f mb g cp) : f p := by rw [h.foot]; exact .inl rfl
theorem HpAt.fm (h : HpAt W B p D f mb g cp) {m : Nat} (hm : mb = some m) : f m := by rw [h.foot]; exact .inr (.inl hm)
theorem HpAt.fg (h : HpAt W B p D f mb g cp) {k : Nat} {b : BlkD} (hb : liveAt D.L k = some b) : f (g k) := by rw [h.foot]; exact .inr (.inr ⟨k, b, hb, rfl⟩)
theorem HpAt.gtag (h : HpAt W B p D f mb g cp) {k : Nat} {b : BlkD} (hb : liveAt D.L k = some b) : ∃ cur, W.heap[g k]? = some (.cells cur 22 (0, 0)) := (h.lie k b hb).tag rfl
theorem HpAt.mapped (h : HpAt W B p D f mb g cp) {m : Nat} (hm : mb = some m) : Mapped W m D.L.length (phi g cp D.L) := by
  rcases h.map with ⟨h0, _⟩ | ⟨m', h1, h2⟩
  · rw [h0] at hm; cases hm
  · rw [h1] at hm; cases hm; exact h2
theorem HpAt.lt (h : HpAt W B p D f mb g cp) : ∀ k, f k → k < W.heap.size := by
  intro k hk
  rw [h.foot] at hk
  rcases hk with rfl | hk | ⟨j, b, hj, rfl⟩
  · exact heap_at_lt h.own
  · exact (h.mapped hk).lt
  · obtain ⟨cur, hc⟩ := h.gtag hj; exact heap_at_lt hc
theorem HpAt.plt (h : HpAt W B p D f mb g cp) : p < W.heap.size := heap_at_lt h.own
theorem HpAt.mp (h : HpAt W B p D f mb g cp) : mb ≠ some p := fun e => by
  obtain ⟨es, cl, h1⟩ := (h.mapped e).tag
  rw [h.own] at h1; cases h1
theorem HpAt.gp (h : HpAt W B p D f mb g cp) {k : Nat} {b : BlkD} (hb : liveAt D.L k = some b) : g k ≠ p := fun e => by
  obtain ⟨cur, h1⟩ := h.gtag hb
  rw [e, h.own] at h1
  have := Option.some.inj h1
  have := (Obj.cells.inj this).2.1
  exact absurd this (by decide)
theorem HpAt.gm (h : HpAt W B p D f mb g cp) {k : Nat} {b : BlkD} (hb : liveAt D.L k = some b) : mb ≠ some (g k) := fun e => by
  obtain ⟨es, cl, h1⟩ := (h.mapped e).tag
  obtain ⟨cur, h2⟩ := h.gtag hb
  rw [h1] at h2; cases h2
theorem HpAt.stays (h : HpAt W B p D f mb g cp) (hs : ∀ k, f k → W'.heap[k]? = W.heap[k]?) : HpAt W' B p D f mb g cp := by
  refine ⟨(hs p h.self).trans h.own, ?_, fun k b hb => (h.lie k b hb).stays (fun j hj => ?_), h.apart, h.foot, h.base, h.many, h.fits⟩
  · rcases h.map with h0 | ⟨m, h1, h2⟩
    · exact .inl h0
    · exact .inr ⟨m, h1, h2.stays (hs m (h.fm h1))⟩
  · obtain rfl : g k = j := by simpa [Value.ownBlock] using hj
    exact hs _ (h.fg hb)
theorem HpAt.below (h : HpAt W B p D f mb g cp) (hb : Below W.heap.size W W') : HpAt W' B p D f mb g cp := h.stays (fun k hk => hb.block k (h.lt k hk))
theorem HpAt.size (h : HpAt W B p D f mb g cp) : B ≤ W.heap.size := Nat.le_trans (h.base p h.self) (Nat.le_of_lt (heap_at_lt h.own))
theorem HpAt.cells (h : HpAt W B p D f mb g cp) : W.cell? ⟨p, 0, none⟩ = some (.map mb) ∧ W.cell? ⟨p, 1, none⟩ = some (.int .u64 D.L.length) ∧ W.cell? ⟨p, 2, none⟩ = some (.bool D.locked) ∧ W.cell? ⟨p, 3, none⟩ = some (.int .i64 D.faults) ∧
    W.frozen? ⟨p, 0, none⟩ = false ∧ W.frozen? ⟨p, 1, none⟩ = false ∧ W.frozen? ⟨p, 2, none⟩ = false ∧ W.frozen? ⟨p, 3, none⟩ = false :=
  ⟨(cell_of h.own).trans rfl, (cell_of h.own).trans rfl, (cell_of h.own).trans rfl, (cell_of h.own).trans rfl, by simp [World.frozen?, h.own], by simp [World.frozen?, h.own], by simp [World.frozen?, h.own], by simp [World.frozen?, h.own]⟩

/-- A cell of the heap's own record is stored. -/
theorem HpAt.rec_ (h : HpAt W B p D f mb g cp) (o : Nat) (u : Value) (lk : Bool) (fl : Nat) (hu : (#[.map mb, .int .u64 D.L.length, .bool D.locked, .int .i64 D.faults] : Array Value).setIfInBounds o u = #[.map mb, .int .u64 D.L.length, .bool lk, .int .i64 fl]) (hf : fl ≤ 1000000) :
    HpAt (W.setCell ⟨p, o, none⟩ u) B p ⟨D.L, lk, fl⟩ f mb g cp ∧ Step f f W (W.setCell ⟨p, o, none⟩ u) := by
  refine ⟨⟨(heap_setAt h.own).trans (by rw [hu]), ?_, fun k b hb => (h.lie k b hb).stays (fun j hj => ?_), h.apart, h.foot, h.base, ⟨h.many.1, hf⟩, h.fits⟩, Step.setCell u h.self⟩
  · rcases h.map with h0 | ⟨m, h1, h2⟩
    · exact .inl h0
    · exact .inr ⟨m, h1, h2.stays (Below.heap_setCell _ _ _ _ (fun e => h.mp (by rw [h1, e])))⟩
  · obtain rfl : g k = j := by simpa [Value.ownBlock] using hj
    exact Below.heap_setCell _ _ _ _ (h.gp hb)
theorem HpAt.setFaults (h : HpAt W B p D f mb g cp) (hf : D.faults < 1000000) : HpAt (W.setCell ⟨p, 3, none⟩ (.int .i64 ((D.faults + 1 : Nat) : Int))) B p D.fault f mb g cp ∧ Step f f W (W.setCell ⟨p, 3, none⟩ (.int .i64 ((D.faults + 1 : Nat) : Int))) :=
  h.rec_ 3 _ D.locked (D.faults + 1) rfl hf
theorem HpAt.setLock (h : HpAt W B p D f mb g cp) (b : Bool) : HpAt (W.setCell ⟨p, 2, none⟩ (.bool b)) B p (D.lock b) f mb g cp ∧ Step f f W (W.setCell ⟨p, 2, none⟩ (.bool b)) :=
  h.rec_ 2 _ b D.faults rfl h.many.2

/-- A cell of a block is stored. -/
theorem HpAt.setWord (h : HpAt W B p D f mb g cp) {k : Nat} {b : BlkD} (hb : liveAt D.L k = some b) (i : Nat) (hi : i < b.ws.length) (u : Int) :
    W.cell? ⟨g k, i, none⟩ = some (uval b.ws[i]) ∧ W.frozen? ⟨g k, i, none⟩ = false ∧
    HpAt (W.setCell ⟨g k, i, none⟩ (uval u)) B p (D.at k ⟨b.ws.set i u, b.text, false⟩) f mb g cp ∧ Step f f W (W.setCell ⟨g k, i, none⟩ (uval u)) := by
  obtain ⟨h1, h2, h3, h4⟩ := liveAt_some hb
  have hl := h.lie k b hb
  obtain ⟨cur, hc⟩ := h.gtag hb
  have hcell : W.cell? ⟨g k, i, none⟩ = some (uval b.ws[i]) := by
    obtain ⟨g', cap', hv, hat⟩ := hl.cells (by omega)
    have := hat i (uval b.ws[i]) (by simp [hi])
    simp only [Value.slice.injEq, Option.some.injEq, Addr.mk.injEq] at hv
    rw [hv.1.1]; exact this
  have hlive : ∀ j, liveAt (D.at k ⟨b.ws.set i u, b.text, false⟩).L j = if j = k then some ⟨b.ws.set i u, b.text, false⟩ else liveAt D.L j := fun j => by
    show liveAt (D.L.set (k - 1) _) j = _
    rw [liveAt_set _ _ _ _ h1 h2]; rfl
  have hphi : ∀ j, phi g cp (D.at k ⟨b.ws.set i u, b.text, false⟩).L j = phi g cp D.L j := fun j => by
    unfold phi
    rw [hlive]
    by_cases hj : j = k
    · subst hj; rw [if_pos rfl, hb]; simp
    · rw [if_neg hj]
  have hlen : (D.at k ⟨b.ws.set i u, b.text, false⟩).L.length = D.L.length := by simp [HpD.at]
  refine ⟨hcell, by simp [World.frozen?, hc], ⟨?_, ?_, fun j b' hj => ?_, fun j j' b1 b2 hj hj' => ?_, ?_, h.base, ⟨by rw [hlen]; exact h.many.1, h.many.2⟩, fun j b' hj => ?_⟩, Step.setCell _ (h.fg hb)⟩
  · rw [hlen, Below.heap_setCell _ _ _ _ (Ne.symm (h.gp hb))]; exact h.own
  · rcases h.map with ⟨_, h0⟩ | ⟨m, m1, m2⟩
    · rw [h0, liveAt_nil] at hb; cases hb
    · refine .inr ⟨m, m1, ?_⟩
      rw [hlen]
      exact (m2.stays (Below.heap_setCell _ _ _ _ (fun e => h.gm hb (by rw [m1]; exact congrArg some e)))).same (fun j _ => hphi j)
  · rw [hlive] at hj
    by_cases hjk : j = k
    · subst hjk
      rw [if_pos rfl] at hj
      cases hj
      rcases hl.2 with ⟨hv, _⟩ | ⟨g', cap', cur', hv, hg, q1, q2, q3, q4⟩
      · cases hv
      · simp only [Value.slice.injEq, Option.some.injEq, Addr.mk.injEq, true_and, and_true] at hv
        obtain ⟨rfl, rfl⟩ := hv
        refine ⟨by simp, .inr ⟨g j, cp j, _, by simp, heap_setAt hg, by simpa using q1, q2, by simpa using q3, ?_⟩⟩
        simp only [Array.toList_setIfInBounds, List.length_set, List.map_set]
        rw [List.take_set, q4]
    · rw [if_neg hjk] at hj
      refine (h.lie j b' hj).stays (fun q hq => ?_)
      obtain rfl : g j = q := by simpa [Value.ownBlock] using hq
      exact Below.heap_setCell _ _ _ _ (fun e => hjk (h.apart _ _ _ _ hj hb e))
  · rw [hlive] at hj hj'
    have e1 : ∃ c, liveAt D.L j = some c := by
      by_cases hjk : j = k
      · exact ⟨b, by rw [hjk]; exact hb⟩
      · rw [if_neg hjk] at hj; exact ⟨_, hj⟩
    have e2 : ∃ c, liveAt D.L j' = some c := by
      by_cases hjk : j' = k
      · exact ⟨b, by rw [hjk]; exact hb⟩
      · rw [if_neg hjk] at hj'; exact ⟨_, hj'⟩
    obtain ⟨c1, e1⟩ := e1
    obtain ⟨c2, e2⟩ := e2
    exact h.apart _ _ _ _ e1 e2
  · rw [h.foot]
    funext q
    apply propext
    constructor
    · rintro (hq | hq | ⟨j, b', hj, hq⟩)
      · exact .inl hq
      · exact .inr (.inl hq)
      · refine .inr (.inr ?_)
        by_cases hjk : j = k
        · exact ⟨j, _, (hlive j).trans (if_pos hjk), hq⟩
        · exact ⟨j, b', (hlive j).trans ((if_neg hjk).trans hj), hq⟩
    · rintro (hq | hq | ⟨j, b', hj, hq⟩)
      · exact .inl hq
      · exact .inr (.inl hq)
      · refine .inr (.inr ?_)
        rw [hlive] at hj
        by_cases hjk : j = k
        · exact ⟨j, b, by rw [hjk]; exact hb, hq⟩
        · rw [if_neg hjk] at hj; exact ⟨j, b', hj, hq⟩
  · rw [hlive] at hj
    by_cases hjk : j = k
    · rw [if_pos hjk] at hj; cases hj; have := h.fits k b hb; simpa using this
    · rw [if_neg hjk] at hj; exact h.fits j b' hj

/-- A block is taken out of the map. -/
theorem HpAt.gone (h : HpAt W B p D f mb g cp) {k m : Nat} {b : BlkD} (hb : liveAt D.L k = some b) (hm : mb = some m) {ψ : Nat → Option Value} (hM : Mapped W' m D.L.length ψ) (hg : W.grownBy W' (some m)) (hψ : ∀ j, j < 18446744073709551616 → ψ j = if j = k then none else phi g cp D.L j) :
    ∃ f', HpAt W' B p (D.at k ⟨b.ws, b.text, true⟩) f' mb g cp ∧ Step f f' W W' := by
  subst hm
  obtain ⟨h1, h2, h3, h4⟩ := liveAt_some hb
  have hlive : ∀ j, liveAt (D.at k ⟨b.ws, b.text, true⟩).L j = if j = k then none else liveAt D.L j := fun j => by
    show liveAt (D.L.set (k - 1) _) j = _
    rw [liveAt_set _ _ _ _ h1 h2]; rfl
  have hsub : ∀ j c, liveAt (D.at k ⟨b.ws, b.text, true⟩).L j = some c → j ≠ k ∧ liveAt D.L j = some c := fun j c hj => by
    rw [hlive] at hj
    by_cases hjk : j = k
    · rw [if_pos hjk] at hj; cases hj
    · rw [if_neg hjk] at hj; exact ⟨hjk, hj⟩
  have hphi : ∀ j, j < 18446744073709551616 → phi g cp (D.at k ⟨b.ws, b.text, true⟩).L j = ψ j := fun j hj => by
    rw [hψ j hj]
    unfold phi
    rw [hlive]
    by_cases hjk : j = k
    · rw [if_pos hjk, if_pos hjk]; rfl
    · rw [if_neg hjk, if_neg hjk]
  have hlen : (D.at k ⟨b.ws, b.text, true⟩).L.length = D.L.length := by simp [HpD.at]
  refine ⟨fun q => q = p ∨ some m = some q ∨ ∃ j c, liveAt (D.at k ⟨b.ws, b.text, true⟩).L j = some c ∧ g j = q,
    ⟨?_, .inr ⟨m, rfl, by rw [hlen]; exact hM.same hphi⟩, fun j c hj => ?_, fun j j' c c' hj hj' => h.apart _ _ _ _ (hsub _ _ hj).2 (hsub _ _ hj').2, rfl, fun q hq => ?_, ⟨by rw [hlen]; exact h.many.1, h.many.2⟩, fun j c hj => h.fits _ _ (hsub _ _ hj).2⟩,
    hg.os, hg.tape, hg.output, hg.size, fun q hq hn => hg.block q hq (fun e => hn (by cases e; exact h.fm rfl)), fun q hq => .inl ?_⟩
  · rw [hlen, hg.block p (heap_at_lt h.own) (fun e => h.mp e.symm)]; exact h.own
  · refine (h.lie j c (hsub _ _ hj).2).stays (fun q hq => ?_)
    obtain rfl : g j = q := by simpa [Value.ownBlock] using hq
    exact hg.block _ (h.lt _ (h.fg (hsub _ _ hj).2)) (fun e => h.gm (hsub _ _ hj).2 e.symm)
  · refine h.base q ?_
    rw [h.foot]
    rcases hq with hq | hq | ⟨j, c, hj, hq⟩
    · exact .inl hq
    · exact .inr (.inl hq)
    · exact .inr (.inr ⟨j, c, (hsub _ _ hj).2, hq⟩)
  · rw [h.foot]
    rcases hq with hq | hq | ⟨j, c, hj, hq⟩
    · exact .inl hq
    · exact .inr (.inl hq)
    · exact .inr (.inr ⟨j, c, (hsub _ _ hj).2, hq⟩)
end

/-- What a call of a heap leaves. -/
def HpR (B p : Nat) (f : Nat → Prop) (W : World) (v : Value) (D' : HpD) (e : Ending) (W' : World) : Prop := ∃ f', e = .returned v ∧ Hp W' B p D' f' ∧ Step f f' W W'

theorem Hp.below {W W' : World} {B p : Nat} {D : HpD} {f : Nat → Prop} (h : Hp W B p D f) (hb : Below W.heap.size W W') : Hp W' B p D f := by
  obtain ⟨mb, g, cp, h⟩ := h; exact ⟨mb, g, cp, h.below hb⟩
theorem Hp.stays {W W' : World} {B p : Nat} {D : HpD} {f : Nat → Prop} (h : Hp W B p D f) (hs : ∀ k, f k → W'.heap[k]? = W.heap[k]?) : Hp W' B p D f := by
  obtain ⟨mb, g, cp, h⟩ := h; exact ⟨mb, g, cp, h.stays hs⟩
theorem Hp.lt {W : World} {B p : Nat} {D : HpD} {f : Nat → Prop} (h : Hp W B p D f) : ∀ k, f k → k < W.heap.size := by
  obtain ⟨mb, g, cp, h⟩ := h; exact h.lt
theorem Hp.base {W : World} {B p : Nat} {D : HpD} {f : Nat → Prop} (h : Hp W B p D f) : ∀ k, k < B → ¬ f k := by
  obtain ⟨mb, g, cp, h⟩ := h; intro k hk hf; have := h.base k hf; omega
theorem Hp.size {W : World} {B p : Nat} {D : HpD} {f : Nat → Prop} (h : Hp W B p D f) : B ≤ W.heap.size := by
  obtain ⟨mb, g, cp, h⟩ := h; exact h.size

end Go.Proofs.Ytgigjbngocfkbaa
