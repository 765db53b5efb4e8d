/-
  Hp, Hfind, Hops, Hops2, in one text.
-/
import Derived.Test.YtpnfbabiibopnaaQ01
/-! A heap: what it has, told plainly; and as it lies in memory. What a change of it leaves. -/
namespace Go.Proofs.Ytpnfbabiibopnaa
open Go Go.RowKit

/-- A block that was made: its words, its text, whether it was dropped. -/
structure BlkD where
  ws : List Int
  text : ByteArray
  gone : Bool
/-- A heap: all blocks that were made, in their order; whether the lock is taken; how many faults there were. -/
structure HpD where
  L : List BlkD
  locked : Bool
  faults : Nat
/-- The block of a number, if it is there. -/
def liveAt (L : List BlkD) (k : Nat) : Option BlkD := if k = 0 then none else match L[k - 1]? with | some b => if b.gone then none else some b | none => none
/-- What is told of a number whose block is not there. -/
def lostAt (L : List BlkD) (k : Nat) : Int := if k = 0 ∨ L.length < k then 16 else 17
def emptyD : HpD := ⟨[], false, 0⟩
def HpD.fault (D : HpD) : HpD := ⟨D.L, D.locked, D.faults + 1⟩
def HpD.lock (D : HpD) (b : Bool) : HpD := ⟨D.L, b, D.faults⟩
def HpD.add (D : HpD) (x : BlkD) : HpD := ⟨D.L ++ [x], D.locked, D.faults⟩
def HpD.at (D : HpD) (k : Nat) (x : BlkD) : HpD := ⟨D.L.set (k - 1) x, D.locked, D.faults⟩

theorem liveAt_nil (k : Nat) : liveAt [] k = none := by unfold liveAt; split <;> simp
theorem liveAt_some {L : List BlkD} {k : Nat} {b : BlkD} (h : liveAt L k = some b) : 1 ≤ k ∧ k ≤ L.length ∧ L[k - 1]? = some b ∧ b.gone = false := by
  unfold liveAt at h
  split at h
  · cases h
  · rename_i h0
    split at h
    · rename_i x hx
      split at h
      · cases h
      · rename_i hg
        cases h
        have := (List.getElem?_eq_some_iff.1 hx).1
        exact ⟨by omega, by omega, hx, by simpa using hg⟩
    · cases h
theorem liveAt_mk {L : List BlkD} {k : Nat} {b : BlkD} (h1 : 1 ≤ k) (h2 : L[k - 1]? = some b) (h3 : b.gone = false) : liveAt L k = some b := by
  unfold liveAt; rw [if_neg (by omega), h2]; simp [h3]
theorem liveAt_big {L : List BlkD} {k : Nat} (h : L.length < k) : liveAt L k = none := by
  cases hl : liveAt L k with
  | none => rfl
  | some b => have := (liveAt_some hl).2.1; omega
theorem liveAt_snoc (L : List BlkD) (x : BlkD) (k : Nat) : liveAt (L ++ [x]) k = if k = L.length + 1 then (if x.gone then none else some x) else liveAt L k := by
  unfold liveAt
  by_cases h0 : k = 0
  · simp [h0]
  · rw [if_neg h0, if_neg h0]
    by_cases hk : k = L.length + 1
    · subst hk; simp
    · rw [if_neg hk]
      rcases Nat.lt_or_ge (k - 1) L.length with hl | hl
      · rw [List.getElem?_append_left hl]
      · rw [List.getElem?_eq_none (by simp; omega), List.getElem?_eq_none hl]
theorem liveAt_set (L : List BlkD) (b k : Nat) (x : BlkD) (h1 : 1 ≤ b) (h2 : b ≤ L.length) : liveAt (L.set (b - 1) x) k = if k = b then (if x.gone then none else some x) else liveAt L k := by
  unfold liveAt
  by_cases h0 : k = 0
  · subst h0; rw [if_pos rfl, if_neg (by omega), if_pos rfl]
  · rw [if_neg h0, if_neg h0]
    by_cases hk : k = b
    · subst hk; rw [if_pos rfl, List.getElem?_set_self (by omega)]
    · rw [if_neg hk, List.getElem?_set_ne (by omega)]

def uval (a : Int) : Value := .int .u64 a
/-- What stands in the map at a number. -/
def phi (g cp : Nat → Nat) (L : List BlkD) (k : Nat) : Option Value := (liveAt L k).map fun b => .agg #[.slice (some ⟨g k, 0, none⟩) b.ws.length (cp k), .string b.text]

/-- At p lies the heap D. What it writes to are f's blocks, none of them ahead of B. -/
structure HpAt (W : World) (B p : Nat) (D : HpD) (f : Nat → Prop) (mb : Option Nat) (g cp : Nat → Nat) : Prop where
  own : W.heap[p]? = some (.cells #[.map mb, .int .u64 D.L.length, .bool D.locked, .int .i64 D.faults] 101 (0, 0))
  map : (mb = none ∧ D.L = []) ∨ ∃ m, mb = some m ∧ Mapped W m D.L.length (phi g cp D.L)
  lie : ∀ k b, liveAt D.L k = some b → Lot W 22 1 (.slice (some ⟨g k, 0, none⟩) b.ws.length (cp k)) b.ws.length (b.ws.map uval)
  apart : ∀ k k' b b', liveAt D.L k = some b → liveAt D.L k' = some b' → g k = g k' → k = k'
  foot : f = fun k => k = p ∨ mb = some k ∨ ∃ j b, liveAt D.L j = some b ∧ g j = k
  base : ∀ k, f k → B ≤ k
  many : D.L.length ≤ 1000000 ∧ D.faults ≤ 1000000
  fits : ∀ k b, liveAt D.L k = some b → b.ws.length ≤ 256 ∧ b.text.size ≤ 281474976710656
def Hp (W : World) (B p : Nat) (D : HpD) (f : Nat → Prop) : Prop := ∃ mb g cp, HpAt W B p D f mb g cp

section
variable {W W' : World} {B p : Nat} {D : HpD} {f : Nat → Prop} {mb : Option Nat} {g cp : Nat → Nat}
theorem HpAt.self (h : HpAt W B p D f mb g cp) : f p := by rw [h.foot]; exact .inl rfl
theorem HpAt.fm (h : HpAt W B p D f mb g cp) {m : Nat} (hm : mb = some m) : f m := by rw [h.foot]; exact .inr (.inl hm)
theorem HpAt.fg (h : HpAt W B p D f mb g cp) {k : Nat} {b : BlkD} (hb : liveAt D.L k = some b) : f (g k) := by rw [h.foot]; exact .inr (.inr ⟨k, b, hb, rfl⟩)
theorem HpAt.gtag (h : HpAt W B p D f mb g cp) {k : Nat} {b : BlkD} (hb : liveAt D.L k = some b) : ∃ cur, W.heap[g k]? = some (.cells cur 22 (0, 0)) := (h.lie k b hb).tag rfl
theorem HpAt.mapped (h : HpAt W B p D f mb g cp) {m : Nat} (hm : mb = some m) : Mapped W m D.L.length (phi g cp D.L) := by
  rcases h.map with ⟨h0, _⟩ | ⟨m', h1, h2⟩
  · rw [h0] at hm; cases hm
  · rw [h1] at hm; cases hm; exact h2
theorem HpAt.lt (h : HpAt W B p D f mb g cp) : ∀ k, f k → k < W.heap.size := by
  intro k hk
  rw [h.foot] at hk
  rcases hk with rfl | hk | ⟨j, b, hj, rfl⟩
  · exact heap_at_lt h.own
  · exact (h.mapped hk).lt
  · obtain ⟨cur, hc⟩ := h.gtag hj; exact heap_at_lt hc
theorem HpAt.plt (h : HpAt W B p D f mb g cp) : p < W.heap.size := heap_at_lt h.own
theorem HpAt.mp (h : HpAt W B p D f mb g cp) : mb ≠ some p := fun e => by
  obtain ⟨es, cl, h1⟩ := (h.mapped e).tag
  rw [h.own] at h1; cases h1
theorem HpAt.gp (h : HpAt W B p D f mb g cp) {k : Nat} {b : BlkD} (hb : liveAt D.L k = some b) : g k ≠ p := fun e => by
  obtain ⟨cur, h1⟩ := h.gtag hb
  rw [e, h.own] at h1
  have := Option.some.inj h1
  have := (Obj.cells.inj this).2.1
  exact absurd this (by decide)
theorem HpAt.gm (h : HpAt W B p D f mb g cp) {k : Nat} {b : BlkD} (hb : liveAt D.L k = some b) : mb ≠ some (g k) := fun e => by
  obtain ⟨es, cl, h1⟩ := (h.mapped e).tag
  obtain ⟨cur, h2⟩ := h.gtag hb
  rw [h1] at h2; cases h2
theorem HpAt.stays (h : HpAt W B p D f mb g cp) (hs : ∀ k, f k → W'.heap[k]? = W.heap[k]?) : HpAt W' B p D f mb g cp := by
  refine ⟨(hs p h.self).trans h.own, ?_, fun k b hb => (h.lie k b hb).stays (fun j hj => ?_), h.apart, h.foot, h.base, h.many, h.fits⟩
  · rcases h.map with h0 | ⟨m, h1, h2⟩
    · exact .inl h0
    · exact .inr ⟨m, h1, h2.stays (hs m (h.fm h1))⟩
  · obtain rfl : g k = j := by simpa [Value.ownBlock] using hj
    exact hs _ (h.fg hb)
theorem HpAt.below (h : HpAt W B p D f mb g cp) (hb : Below W.heap.size W W') : HpAt W' B p D f mb g cp := h.stays (fun k hk => hb.block k (h.lt k hk))
theorem HpAt.size (h : HpAt W B p D f mb g cp) : B ≤ W.heap.size := Nat.le_trans (h.base p h.self) (Nat.le_of_lt (heap_at_lt h.own))
theorem HpAt.cells (h : HpAt W B p D f mb g cp) : W.cell? ⟨p, 0, none⟩ = some (.map mb) ∧ W.cell? ⟨p, 1, none⟩ = some (.int .u64 D.L.length) ∧ W.cell? ⟨p, 2, none⟩ = some (.bool D.locked) ∧ W.cell? ⟨p, 3, none⟩ = some (.int .i64 D.faults) ∧
    W.frozen? ⟨p, 0, none⟩ = false ∧ W.frozen? ⟨p, 1, none⟩ = false ∧ W.frozen? ⟨p, 2, none⟩ = false ∧ W.frozen? ⟨p, 3, none⟩ = false :=
  ⟨(cell_of h.own).trans rfl, (cell_of h.own).trans rfl, (cell_of h.own).trans rfl, (cell_of h.own).trans rfl, by simp [World.frozen?, h.own], by simp [World.frozen?, h.own], by simp [World.frozen?, h.own], by simp [World.frozen?, h.own]⟩

/-- A cell of the heap's own record is stored. -/
theorem HpAt.rec_ (h : HpAt W B p D f mb g cp) (o : Nat) (u : Value) (lk : Bool) (fl : Nat) (hu : (#[.map mb, .int .u64 D.L.length, .bool D.locked, .int .i64 D.faults] : Array Value).setIfInBounds o u = #[.map mb, .int .u64 D.L.length, .bool lk, .int .i64 fl]) (hf : fl ≤ 1000000) :
    HpAt (W.setCell ⟨p, o, none⟩ u) B p ⟨D.L, lk, fl⟩ f mb g cp ∧ Step f f W (W.setCell ⟨p, o, none⟩ u) := by
  refine ⟨⟨(heap_setAt h.own).trans (by rw [hu]), ?_, fun k b hb => (h.lie k b hb).stays (fun j hj => ?_), h.apart, h.foot, h.base, ⟨h.many.1, hf⟩, h.fits⟩, Step.setCell u h.self⟩
  · rcases h.map with h0 | ⟨m, h1, h2⟩
    · exact .inl h0
    · exact .inr ⟨m, h1, h2.stays (Below.heap_setCell _ _ _ _ (fun e => h.mp (by rw [h1, e])))⟩
  · obtain rfl : g k = j := by simpa [Value.ownBlock] using hj
    exact Below.heap_setCell _ _ _ _ (h.gp hb)
theorem HpAt.setFaults (h : HpAt W B p D f mb g cp) (hf : D.faults < 1000000) : HpAt (W.setCell ⟨p, 3, none⟩ (.int .i64 ((D.faults + 1 : Nat) : Int))) B p D.fault f mb g cp ∧ Step f f W (W.setCell ⟨p, 3, none⟩ (.int .i64 ((D.faults + 1 : Nat) : Int))) :=
  h.rec_ 3 _ D.locked (D.faults + 1) rfl hf
theorem HpAt.setLock (h : HpAt W B p D f mb g cp) (b : Bool) : HpAt (W.setCell ⟨p, 2, none⟩ (.bool b)) B p (D.lock b) f mb g cp ∧ Step f f W (W.setCell ⟨p, 2, none⟩ (.bool b)) :=
  h.rec_ 2 _ b D.faults rfl h.many.2

/-- A cell of a block is stored. -/
theorem HpAt.setWord (h : HpAt W B p D f mb g cp) {k : Nat} {b : BlkD} (hb : liveAt D.L k = some b) (i : Nat) (hi : i < b.ws.length) (u : Int) :
    W.cell? ⟨g k, i, none⟩ = some (uval b.ws[i]) ∧ W.frozen? ⟨g k, i, none⟩ = false ∧
    HpAt (W.setCell ⟨g k, i, none⟩ (uval u)) B p (D.at k ⟨b.ws.set i u, b.text, false⟩) f mb g cp ∧ Step f f W (W.setCell ⟨g k, i, none⟩ (uval u)) := by
  obtain ⟨h1, h2, h3, h4⟩ := liveAt_some hb
  have hl := h.lie k b hb
  obtain ⟨cur, hc⟩ := h.gtag hb
  have hcell : W.cell? ⟨g k, i, none⟩ = some (uval b.ws[i]) := by
    obtain ⟨g', cap', hv, hat⟩ := hl.cells (by omega)
    have := hat i (uval b.ws[i]) (by simp [hi])
    simp only [Value.slice.injEq, Option.some.injEq, Addr.mk.injEq] at hv
    rw [hv.1.1]; exact this
  have hlive : ∀ j, liveAt (D.at k ⟨b.ws.set i u, b.text, false⟩).L j = if j = k then some ⟨b.ws.set i u, b.text, false⟩ else liveAt D.L j := fun j => by
    show liveAt (D.L.set (k - 1) _) j = _
    rw [liveAt_set _ _ _ _ h1 h2]; rfl
  have hphi : ∀ j, phi g cp (D.at k ⟨b.ws.set i u, b.text, false⟩).L j = phi g cp D.L j := fun j => by
    unfold phi
    rw [hlive]
    by_cases hj : j = k
    · subst hj; rw [if_pos rfl, hb]; simp
    · rw [if_neg hj]
  have hlen : (D.at k ⟨b.ws.set i u, b.text, false⟩).L.length = D.L.length := by simp [HpD.at]
  refine ⟨hcell, by simp [World.frozen?, hc], ⟨?_, ?_, fun j b' hj => ?_, fun j j' b1 b2 hj hj' => ?_, ?_, h.base, ⟨by rw [hlen]; exact h.many.1, h.many.2⟩, fun j b' hj => ?_⟩, Step.setCell _ (h.fg hb)⟩
  · rw [hlen, Below.heap_setCell _ _ _ _ (Ne.symm (h.gp hb))]; exact h.own
  · rcases h.map with ⟨_, h0⟩ | ⟨m, m1, m2⟩
    · rw [h0, liveAt_nil] at hb; cases hb
    · refine .inr ⟨m, m1, ?_⟩
      rw [hlen]
      exact (m2.stays (Below.heap_setCell _ _ _ _ (fun e => h.gm hb (by rw [m1]; exact congrArg some e)))).same (fun j _ => hphi j)
  · rw [hlive] at hj
    by_cases hjk : j = k
    · subst hjk
      rw [if_pos rfl] at hj
      cases hj
      rcases hl.2 with ⟨hv, _⟩ | ⟨g', cap', cur', hv, hg, q1, q2, q3, q4⟩
      · cases hv
      · simp only [Value.slice.injEq, Option.some.injEq, Addr.mk.injEq, true_and, and_true] at hv
        obtain ⟨rfl, rfl⟩ := hv
        refine ⟨by simp, .inr ⟨g j, cp j, _, by simp, heap_setAt hg, by simpa using q1, q2, by simpa using q3, ?_⟩⟩
        simp only [Array.toList_setIfInBounds, List.length_set, List.map_set]
        rw [List.take_set, q4]
    · rw [if_neg hjk] at hj
      refine (h.lie j b' hj).stays (fun q hq => ?_)
      obtain rfl : g j = q := by simpa [Value.ownBlock] using hq
      exact Below.heap_setCell _ _ _ _ (fun e => hjk (h.apart _ _ _ _ hj hb e))
  · rw [hlive] at hj hj'
    have e1 : ∃ c, liveAt D.L j = some c := by
      by_cases hjk : j = k
      · exact ⟨b, by rw [hjk]; exact hb⟩
      · rw [if_neg hjk] at hj; exact ⟨_, hj⟩
    have e2 : ∃ c, liveAt D.L j' = some c := by
      by_cases hjk : j' = k
      · exact ⟨b, by rw [hjk]; exact hb⟩
      · rw [if_neg hjk] at hj'; exact ⟨_, hj'⟩
    obtain ⟨c1, e1⟩ := e1
    obtain ⟨c2, e2⟩ := e2
    exact h.apart _ _ _ _ e1 e2
  · rw [h.foot]
    funext q
    apply propext
    constructor
    · rintro (hq | hq | ⟨j, b', hj, hq⟩)
      · exact .inl hq
      · exact .inr (.inl hq)
      · refine .inr (.inr ?_)
        by_cases hjk : j = k
        · exact ⟨j, _, (hlive j).trans (if_pos hjk), hq⟩
        · exact ⟨j, b', (hlive j).trans ((if_neg hjk).trans hj), hq⟩
    · rintro (hq | hq | ⟨j, b', hj, hq⟩)
      · exact .inl hq
      · exact .inr (.inl hq)
      · refine .inr (.inr ?_)
        rw [hlive] at hj
        by_cases hjk : j = k
        · exact ⟨j, b, by rw [hjk]; exact hb, hq⟩
        · rw [if_neg hjk] at hj; exact ⟨j, b', hj, hq⟩
  · rw [hlive] at hj
    by_cases hjk : j = k
    · rw [if_pos hjk] at hj; cases hj; have := h.fits k b hb; simpa using this
    · rw [if_neg hjk] at hj; exact h.fits j b' hj

/-- A block is taken out of the map. -/
theorem HpAt.gone (h : HpAt W B p D f mb g cp) {k m : Nat} {b : BlkD} (hb : liveAt D.L k = some b) (hm : mb = some m) {ψ : Nat → Option Value} (hM : Mapped W' m D.L.length ψ) (hg : W.grownBy W' (some m)) (hψ : ∀ j, j < 18446744073709551616 → ψ j = if j = k then none else phi g cp D.L j) :
    ∃ f', HpAt W' B p (D.at k ⟨b.ws, b.text, true⟩) f' mb g cp ∧ Step f f' W W' := by
  subst hm
  obtain ⟨h1, h2, h3, h4⟩ := liveAt_some hb
  have hlive : ∀ j, liveAt (D.at k ⟨b.ws, b.text, true⟩).L j = if j = k then none else liveAt D.L j := fun j => by
    show liveAt (D.L.set (k - 1) _) j = _
    rw [liveAt_set _ _ _ _ h1 h2]; rfl
  have hsub : ∀ j c, liveAt (D.at k ⟨b.ws, b.text, true⟩).L j = some c → j ≠ k ∧ liveAt D.L j = some c := fun j c hj => by
    rw [hlive] at hj
    by_cases hjk : j = k
    · rw [if_pos hjk] at hj; cases hj
    · rw [if_neg hjk] at hj; exact ⟨hjk, hj⟩
  have hphi : ∀ j, j < 18446744073709551616 → phi g cp (D.at k ⟨b.ws, b.text, true⟩).L j = ψ j := fun j hj => by
    rw [hψ j hj]
    unfold phi
    rw [hlive]
    by_cases hjk : j = k
    · rw [if_pos hjk, if_pos hjk]; rfl
    · rw [if_neg hjk, if_neg hjk]
  have hlen : (D.at k ⟨b.ws, b.text, true⟩).L.length = D.L.length := by simp [HpD.at]
  refine ⟨fun q => q = p ∨ some m = some q ∨ ∃ j c, liveAt (D.at k ⟨b.ws, b.text, true⟩).L j = some c ∧ g j = q,
    ⟨?_, .inr ⟨m, rfl, by rw [hlen]; exact hM.same hphi⟩, fun j c hj => ?_, fun j j' c c' hj hj' => h.apart _ _ _ _ (hsub _ _ hj).2 (hsub _ _ hj').2, rfl, fun q hq => ?_, ⟨by rw [hlen]; exact h.many.1, h.many.2⟩, fun j c hj => h.fits _ _ (hsub _ _ hj).2⟩,
    hg.os, hg.tape, hg.output, hg.size, fun q hq hn => hg.block q hq (fun e => hn (by cases e; exact h.fm rfl)), fun q hq => .inl ?_⟩
  · rw [hlen, hg.block p (heap_at_lt h.own) (fun e => h.mp e.symm)]; exact h.own
  · refine (h.lie j c (hsub _ _ hj).2).stays (fun q hq => ?_)
    obtain rfl : g j = q := by simpa [Value.ownBlock] using hq
    exact hg.block _ (h.lt _ (h.fg (hsub _ _ hj).2)) (fun e => h.gm (hsub _ _ hj).2 e.symm)
  · refine h.base q ?_
    rw [h.foot]
    rcases hq with hq | hq | ⟨j, c, hj, hq⟩
    · exact .inl hq
    · exact .inr (.inl hq)
    · exact .inr (.inr ⟨j, c, (hsub _ _ hj).2, hq⟩)
  · rw [h.foot]
    rcases hq with hq | hq | ⟨j, c, hj, hq⟩
    · exact .inl hq
    · exact .inr (.inl hq)
    · exact .inr (.inr ⟨j, c, (hsub _ _ hj).2, hq⟩)
end

/-- What a call of a heap leaves. -/
def HpR (B p : Nat) (f : Nat → Prop) (W : World) (v : Value) (D' : HpD) (e : Ending) (W' : World) : Prop := ∃ f', e = .returned v ∧ Hp W' B p D' f' ∧ Step f f' W W'

theorem Hp.below {W W' : World} {B p : Nat} {D : HpD} {f : Nat → Prop} (h : Hp W B p D f) (hb : Below W.heap.size W W') : Hp W' B p D f := by
  obtain ⟨mb, g, cp, h⟩ := h; exact ⟨mb, g, cp, h.below hb⟩
theorem Hp.stays {W W' : World} {B p : Nat} {D : HpD} {f : Nat → Prop} (h : Hp W B p D f) (hs : ∀ k, f k → W'.heap[k]? = W.heap[k]?) : Hp W' B p D f := by
  obtain ⟨mb, g, cp, h⟩ := h; exact ⟨mb, g, cp, h.stays hs⟩
theorem Hp.lt {W : World} {B p : Nat} {D : HpD} {f : Nat → Prop} (h : Hp W B p D f) : ∀ k, f k → k < W.heap.size := by
  obtain ⟨mb, g, cp, h⟩ := h; exact h.lt
theorem Hp.base {W : World} {B p : Nat} {D : HpD} {f : Nat → Prop} (h : Hp W B p D f) : ∀ k, k < B → ¬ f k := by
  obtain ⟨mb, g, cp, h⟩ := h; intro k hk hf; have := h.base k hf; omega
theorem Hp.size {W : World} {B p : Nat} {D : HpD} {f : Nat → Prop} (h : Hp W B p D f) : B ≤ W.heap.size := by
  obtain ⟨mb, g, cp, h⟩ := h; exact h.size

end Go.Proofs.Ytpnfbabiibopnaa

/-! A heap's find and cell. -/
namespace Go.Proofs.Ytpnfbabiibopnaa
open Go Go.RowKit
attribute [local go_sem ↓] Go.wp_at_zero Go.wp_at_succ

section
variable {W Y Z : World} {B p : Nat} {D : HpD} {f : Nat → Prop} {mb : Option Nat} {g cp : Nat → Nat}
/-- A fault is counted among other things that only make memory. -/
theorem fault_fin (h : HpAt W B p D f mb g cp) (hf : D.faults < 1000000) (hY : Below W.heap.size W Y) (hZ : Below W.heap.size (Y.setCell ⟨p, 3, none⟩ (.int .i64 ((D.faults + 1 : Nat) : Int))) Z) :
    HpAt Z B p D.fault f mb g cp ∧ Step f f W Z := by
  obtain ⟨h1, h2⟩ := (h.below hY).setFaults hf
  have h3 := h.lt
  refine ⟨h1.stays (fun k hk => hZ.block k (h3 k hk)), ?_⟩
  have s1 := (Step.of_below (f := f) hY).trans h2
  exact ⟨hZ.os.trans s1.os, hZ.tape.trans s1.tape, hZ.output.trans s1.output, by have := hZ.size; have := hY.size; simp [World.setCell] at *; omega, fun k hk hn => (hZ.block k hk).trans (s1.block k hk hn), fun k hk => .inl hk⟩
theorem phi_some {L : List BlkD} {k : Nat} {b : BlkD} (hb : liveAt L k = some b) : phi g cp L k = some (.agg #[.slice (some ⟨g k, 0, none⟩) b.ws.length (cp k), .string b.text]) := by unfold phi; rw [hb]; rfl
theorem phi_none {L : List BlkD} {k : Nat} (hb : liveAt L k = none) : phi g cp L k = none := by unfold phi; rw [hb]; rfl

/-- What find looks up. -/
theorem HpAt.look (h : HpAt W B p D f mb g cp) (k : Nat) (hk : k < 18446744073709551616) (hb : Below W.heap.size W Y) :
    (Instr.lookup 99 (.map mb) (.int .u64 (k : Int)) true).run Try.prog Y = .ok (.tuple #[(phi g cp D.L k).getD zeroB, .bool (phi g cp D.L k).isSome]) Y := by
  rcases (h.below hb).map with ⟨h0, h1⟩ | ⟨m, h1, h2⟩
  · rw [h0, phi_none (by rw [h1]; exact liveAt_nil k)]
    exact look_none k hk
  · rw [h1]; exact h2.look k hk
end

set_option maxHeartbeats 1000000 in
theorem find_hit {B p : Nat} {D : HpD} {f : Nat → Prop} {mb : Option Nat} {g cp : Nat → Nat} (W : World) (h : HpAt W B p D f mb g cp) (k : Nat) (hk : k < 18446744073709551616) (b : BlkD) (hb : liveAt D.L k = some b) :
    Calls Try.prog 57 #[.pointer (some ⟨p, 0, none⟩), .int .u64 (k : Int)] W fun e W' => e = .returned (.tuple #[.agg #[.slice (some ⟨g k, 0, none⟩) b.ws.length (cp k), .string b.text], .int .i64 0]) ∧ Below W.heap.size W W' := by
  have hl := h.look k hk (below_alloc W (.cells #[.slice none 0 0, .string ⟨#[]⟩] 119))
  rw [phi_some hb] at hl
  obtain ⟨c0, _⟩ := h.cells
  obtain ⟨n, hn⟩ : ∃ n, b.ws.length = n := ⟨_, rfl⟩
  obtain ⟨s, hs⟩ : ∃ s, b.text = s := ⟨_, rfl⟩
  obtain ⟨q, hq⟩ : ∃ q, g k = q := ⟨_, rfl⟩
  obtain ⟨c, hc⟩ : ∃ c, cp k = c := ⟨_, rfl⟩
  rw [hn, hs, hq, hc] at hl ⊢
  simp only [Option.getD_some, Option.isSome_some] at hl
  have hp := h.plt
  clear hn hs hq hc h hb hk
  go_enter Try.func57, Try.ntmps57
  go_wp2_with fail
  refine bodyPost_ret (v := .tuple #[.agg #[.slice (some ⟨q, 0, none⟩) n c, .string s], .int .i64 0]) (by rw [results_cell_tmp (by rfl)]; go_simp) rfl ⟨rfl, ?_⟩
  exact (below_alloc W _).alloc (by simp) _

theorem two_allocs {n : Nat} {Y : World} (hn : n ≤ Y.heap.size) (o1 o2 : Obj) : Below n Y ((Y.alloc o1).alloc o2) := ((Below.refl _ _).alloc hn _).alloc (by simp; omega) _

theorem lost_first {L : List BlkD} {k : Nat} (h : k = 0 ∨ L.length < k) : lostAt L k = 16 := by unfold lostAt; rw [if_pos h]
theorem lost_then {L : List BlkD} {k : Nat} (h : ¬ (k = 0 ∨ L.length < k)) : lostAt L k = 17 := by unfold lostAt; rw [if_neg h]

/-- What find leaves where the block is not there. -/
def LostR (B p : Nat) (D : HpD) (f : Nat → Prop) (mb : Option Nat) (g cp : Nat → Nat) (k : Nat) (W : World) (e : Ending) (W' : World) : Prop :=
  e = .returned (.tuple #[zeroB, .int .i64 (lostAt D.L k)]) ∧ HpAt W' B p D.fault f mb g cp ∧ Step f f W W'

set_option maxRecDepth 100000 in
set_option maxHeartbeats 1000000 in
theorem find_miss {B p : Nat} {D : HpD} {f : Nat → Prop} {mb : Option Nat} {g cp : Nat → Nat} (W : World) (h : HpAt W B p D f mb g cp) (hf : D.faults < 1000000) (k : Nat) (hk : k < 18446744073709551616) (hb : liveAt D.L k = none) :
    Calls Try.prog 57 #[.pointer (some ⟨p, 0, none⟩), .int .u64 (k : Int)] W (LostR B p D f mb g cp k W) := by
  have hl := h.look k hk (below_alloc W (.cells #[.slice none 0 0, .string ⟨#[]⟩] 119))
  rw [phi_none hb] at hl
  simp only [Option.getD_none, Option.isSome_none] at hl
  obtain ⟨c0, c1, _, c3, _, _, _, f3⟩ := h.cells
  have HF := Lib.hid (fun Y Z hY hZ => fault_fin (Y := Y) (Z := Z) h hf hY hZ)
  obtain ⟨n, hn⟩ : ∃ n, D.L.length = n := ⟨_, rfl⟩
  obtain ⟨fl, hfl⟩ : ∃ fl, D.faults = fl := ⟨_, rfl⟩
  rw [hfl] at c3 HF hf
  rw [hn] at c1
  have hp := h.plt
  have hm := h.many.1
  rw [hn] at hm
  have HL0 := Lib.hid (fun e => lost_first (L := D.L) (k := k) e)
  have HL1 := Lib.hid (fun e => lost_then (L := D.L) (k := k) e)
  rw [hn] at HL0 HL1
  have hf0 : (0 : Int) ≤ (fl : Int) := by omega
  have hf1 : (fl : Int) ≤ 1000000 := by omega
  clear hn hfl h hb hk hf hm
  have hq : k = 0 ∨ (k ≠ 0 ∧ n < k) ∨ (k ≠ 0 ∧ k ≤ n) := by omega
  have HD := Lib.hid (show LostR B p D f mb g cp k W = LostR B p D f mb g cp k W from rfl)
  obtain ⟨z, hz⟩ : ∃ z, (k : Int) = z := ⟨_, rfl⟩
  rw [hz] at hl ⊢
  have fin : ∀ e Z, e = .returned (.tuple #[zeroB, .int .i64 (lostAt D.L k)]) → (∃ Y, Below W.heap.size W Y ∧ Below W.heap.size (Y.setCell ⟨p, 3, none⟩ (.int .i64 ((fl + 1 : Nat) : Int))) Z) → LostR B p D f mb g cp k W e Z := by
    rintro e Z rfl ⟨Y, h1, h2⟩
    exact ⟨rfl, HF.out Y Z h1 h2⟩
  have FIN := Lib.hid fin
  clear fin HF
  rcases hq with h0 | ⟨h0, hlt⟩ | ⟨h0, hle⟩
  · have h1 := Lib.hid (HL0.out (.inl h0))
    have hz1 : (z == 0) = true := by rw [beq_iff_eq]; omega
    clear HL0 HL1 h0 hz
    go_enter Try.func57, Try.ntmps57
    go_wp2_with fail
    refine bodyPost_ret (v := .tuple #[zeroB, .int .i64 16]) (by rw [results_cell_tmp (by rfl)]; go_simp) rfl ?_
    exact FIN.out _ _ (by rw [h1.out]) ⟨W, Below.refl _ _, by rw [Int.natCast_add]; exact two_allocs (by simp [World.setCell]) _ _⟩
  · have h1 := Lib.hid (HL0.out (.inr hlt))
    have hz1 : (z == 0) = false := by rw [beq_eq_false_iff_ne]; omega
    have hz2 : (n : Int) < z := by omega
    clear HL0 HL1 h0 hz hlt
    go_enter Try.func57, Try.ntmps57
    go_wp2_with fail
    refine bodyPost_ret (v := .tuple #[zeroB, .int .i64 16]) (by rw [results_cell_tmp (by rfl)]; go_simp) rfl ?_
    exact FIN.out _ _ (by rw [h1.out]) ⟨W, Below.refl _ _, by rw [Int.natCast_add]; exact two_allocs (by simp [World.setCell]) _ _⟩
  · have h1 := Lib.hid (HL1.out (fun e => by omega))
    have hz1 : (z == 0) = false := by rw [beq_eq_false_iff_ne]; omega
    have hz2 : z ≤ (n : Int) := by omega
    clear HL0 HL1 h0 hz hle
    go_enter Try.func57, Try.ntmps57
    go_wp2_with fail
    refine bodyPost_ret (v := .tuple #[zeroB, .int .i64 17]) (by rw [results_cell_tmp (by rfl)]; go_simp) rfl ?_
    exact FIN.out _ _ (by rw [h1.out]) ⟨W, Below.refl _ _, by rw [Int.natCast_add]; exact two_allocs (by simp [World.setCell]) _ _⟩

/-- What cell leaves where there is no such cell. -/
def NoneR (B p : Nat) (D : HpD) (f : Nat → Prop) (mb : Option Nat) (g cp : Nat → Nat) (c : Int) (W : World) (e : Ending) (W' : World) : Prop :=
  e = .returned (.tuple #[.pointer none, .int .i64 c]) ∧ HpAt W' B p D.fault f mb g cp ∧ Step f f W W'

set_option maxRecDepth 100000 in
set_option maxHeartbeats 1000000 in
theorem cell_hit {B p : Nat} {D : HpD} {f : Nat → Prop} {mb : Option Nat} {g cp : Nat → Nat} (W : World) (h : HpAt W B p D f mb g cp) (k : Nat) (hk : k < 18446744073709551616) (b : BlkD) (hb : liveAt D.L k = some b) (i : Nat) (hi : i < b.ws.length) :
    Calls Try.prog 32 #[.pointer (some ⟨p, 0, none⟩), .int .u64 (k : Int), .int .i64 (i : Int)] W fun e W' => e = .returned (.tuple #[.pointer (some ⟨g k, i, none⟩), .int .i64 0]) ∧ Below W.heap.size W W' := by
  have HC := Lib.hid (find_hit W h k hk b hb)
  have hfit := (h.fits k b hb).1
  obtain ⟨n, hn⟩ : ∃ n, b.ws.length = n := ⟨_, rfl⟩
  obtain ⟨s, hs⟩ : ∃ s, b.text = s := ⟨_, rfl⟩
  obtain ⟨q, hq⟩ : ∃ q, g k = q := ⟨_, rfl⟩
  obtain ⟨c, hc⟩ : ∃ c, cp k = c := ⟨_, rfl⟩
  obtain ⟨z, hz⟩ : ∃ z, (k : Int) = z := ⟨_, rfl⟩
  rw [hn, hs, hq, hc] at HC
  rw [hq]
  rw [hz] at HC ⊢
  rw [hn] at hi hfit
  clear hn hs hq hc hz h hb hk
  go_enter Try.func32, Try.ntmps32
  go_wp2_with fail
  refine HC.out.mono ?_
  rintro en w1 ⟨rfl, hb1⟩
  have HB := Lib.hid hb1
  clear hb1
  go_wp2_with fail
  go_ret2
  exact ⟨rfl, HB.out.alloc HB.out.size _⟩

set_option maxRecDepth 100000 in
set_option maxHeartbeats 1000000 in
theorem cell_lost {B p : Nat} {D : HpD} {f : Nat → Prop} {mb : Option Nat} {g cp : Nat → Nat} (W : World) (h : HpAt W B p D f mb g cp) (hf : D.faults < 1000000) (k : Nat) (hk : k < 18446744073709551616) (hb : liveAt D.L k = none) (i : Int) :
    Calls Try.prog 32 #[.pointer (some ⟨p, 0, none⟩), .int .u64 (k : Int), .int .i64 i] W (NoneR B p D f mb g cp (lostAt D.L k) W) := by
  have HC := Lib.hid (find_miss W h hf k hk hb)
  have hcode : ((lostAt D.L k) == 0) = false := by unfold lostAt; split <;> rfl
  obtain ⟨z, hz⟩ : ∃ z, (k : Int) = z := ⟨_, rfl⟩
  rw [hz] at HC ⊢
  unfold LostR at HC
  obtain ⟨c, hc⟩ : ∃ c, lostAt D.L k = c := ⟨_, rfl⟩
  rw [hc] at HC hcode ⊢
  clear hz h hb hk hc hf
  go_enter Try.func32, Try.ntmps32
  go_wp2_with fail
  refine HC.out.mono ?_
  rintro en w1 ⟨rfl, h1, s1⟩
  have H1 := Lib.hid h1
  have S1 := Lib.hid s1
  clear h1 s1
  go_wp2_with fail
  go_ret2
  exact ⟨rfl, H1.out.below (below_alloc _ _), S1.out.trans (Step.of_below (below_alloc _ _))⟩

set_option maxRecDepth 100000 in
set_option maxHeartbeats 1000000 in
theorem cell_off {B p : Nat} {D : HpD} {f : Nat → Prop} {mb : Option Nat} {g cp : Nat → Nat} (W : World) (h : HpAt W B p D f mb g cp) (hf : D.faults < 1000000) (k : Nat) (hk : k < 18446744073709551616) (b : BlkD) (hb : liveAt D.L k = some b) (i : Int) (hi : i < 0 ∨ (b.ws.length : Int) ≤ i) :
    Calls Try.prog 32 #[.pointer (some ⟨p, 0, none⟩), .int .u64 (k : Int), .int .i64 i] W (NoneR B p D f mb g cp 18 W) := by
  have HC := Lib.hid (find_hit W h k hk b hb)
  have HF := Lib.hid (fun Y Z hY hZ => fault_fin (Y := Y) (Z := Z) h hf hY hZ)
  have HCE := Lib.hid (fun Y (hY : Below W.heap.size W Y) => (h.below hY).cells)
  have hfit := (h.fits k b hb).1
  obtain ⟨n, hn⟩ : ∃ n, b.ws.length = n := ⟨_, rfl⟩
  obtain ⟨fl, hfl⟩ : ∃ fl, D.faults = fl := ⟨_, rfl⟩
  rw [hfl] at HF HCE hf
  obtain ⟨z, hz⟩ : ∃ z, (k : Int) = z := ⟨_, rfl⟩
  rw [hn] at HC
  rw [hz] at HC ⊢
  rw [hn] at hi hfit
  have hf0 : (0 : Int) ≤ (fl : Int) := by omega
  have hf1 : (fl : Int) ≤ 1000000 := by omega
  have HPW := Lib.hid h.plt
  clear hn hz h hb hk hf hfl
  have hor : i < 0 ∨ (0 ≤ i ∧ (n : Int) ≤ i) := by omega
  clear hi
  rcases hor with hi | ⟨hi0, hi⟩
  all_goals
    go_enter Try.func32, Try.ntmps32
    go_wp2_with fail
    refine HC.out.mono ?_
    rintro en w1 ⟨rfl, hb1⟩
    have HB := Lib.hid hb1
    obtain ⟨_, _, _, c3, _, _, _, f3⟩ := HCE.out _ hb1
    clear hb1
    have hp : p < w1.heap.size := by have := HB.out.size; have := HPW.out; omega
    go_wp2_with fail
    go_ret2
    exact ⟨rfl, HF.out w1 _ HB.out (by rw [Int.natCast_add]; exact (Below.refl _ _).alloc (by rw [World.size_setCell]; exact HB.out.size) _)⟩

end Go.Proofs.Ytpnfbabiibopnaa

/-! A heap's Load, Store, Swap, Bump, Words. -/
namespace Go.Proofs.Ytpnfbabiibopnaa
open Go Go.RowKit
attribute [local go_sem ↓] Go.wp_at_zero Go.wp_at_succ

/-- What is wrong with a cell; 0, if nothing is. -/
def spot (L : List BlkD) (k : Nat) (i : Int) : Int := match liveAt L k with | none => lostAt L k | some b => if i < 0 ∨ (b.ws.length : Int) ≤ i then 18 else 0
/-- What is wrong with a block; 0, if nothing is. -/
def there (L : List BlkD) (k : Nat) : Int := match liveAt L k with | none => lostAt L k | some _ => 0
def wordAt (L : List BlkD) (k : Nat) (i : Int) : Int := match liveAt L k with | none => 0 | some b => b.ws.getD i.toNat 0
def textAt (L : List BlkD) (k : Nat) : ByteArray := match liveAt L k with | none => ⟨#[]⟩ | some b => b.text
def sizeAt (L : List BlkD) (k : Nat) : Nat := match liveAt L k with | none => 0 | some b => b.ws.length
def HpD.word (D : HpD) (k : Nat) (i u : Int) : HpD := match liveAt D.L k with | none => D | some b => D.at k ⟨b.ws.set i.toNat u, b.text, false⟩
def HpD.lose (D : HpD) (k : Nat) : HpD := match liveAt D.L k with | none => D | some b => D.at k ⟨b.ws, b.text, true⟩

theorem lost_nz (L : List BlkD) (k : Nat) : lostAt L k = 16 ∨ lostAt L k = 17 := by unfold lostAt; split <;> simp
theorem spot_zero {L : List BlkD} {k : Nat} {i : Int} (h : spot L k i = 0) : ∃ b j, liveAt L k = some b ∧ i = ((j : Nat) : Int) ∧ j < b.ws.length := by
  unfold spot at h
  split at h
  · rcases lost_nz L k with e | e <;> rw [e] at h <;> cases h
  · rename_i b hb
    split at h
    · cases h
    · exact ⟨b, i.toNat, hb, by omega, by omega⟩
theorem spot_lost {L : List BlkD} {k : Nat} {i : Int} (h : liveAt L k = none) : spot L k i = lostAt L k := by unfold spot; rw [h]
theorem spot_off {L : List BlkD} {k : Nat} {i : Int} {b : BlkD} (h : liveAt L k = some b) (hi : i < 0 ∨ (b.ws.length : Int) ≤ i) : spot L k i = 18 := by unfold spot; rw [h]; simp only; rw [if_pos hi]
theorem spot_some {L : List BlkD} {k : Nat} {i : Int} {b : BlkD} (h : liveAt L k = some b) : spot L k i = if i < 0 ∨ (b.ws.length : Int) ≤ i then 18 else 0 := by unfold spot; rw [h]
theorem spot_hit {L : List BlkD} {k j : Nat} {b : BlkD} (h : liveAt L k = some b) (hj : j < b.ws.length) : spot L k (j : Int) = 0 := by rw [spot_some h, if_neg (by omega)]
theorem wordAt_hit {L : List BlkD} {k j : Nat} {b : BlkD} (h : liveAt L k = some b) (hj : j < b.ws.length) : wordAt L k (j : Int) = b.ws[j] := by unfold wordAt; rw [h]; simp [hj]
theorem word_hit {D : HpD} {k j : Nat} {u : Int} {b : BlkD} (h : liveAt D.L k = some b) : D.word k (j : Int) u = D.at k ⟨b.ws.set j u, b.text, false⟩ := by unfold HpD.word; rw [h]; simp
theorem there_hit {L : List BlkD} {k : Nat} {b : BlkD} (h : liveAt L k = some b) : there L k = 0 := by unfold there; rw [h]
theorem there_lost {L : List BlkD} {k : Nat} (h : liveAt L k = none) : there L k = lostAt L k := by unfold there; rw [h]
theorem textAt_hit {L : List BlkD} {k : Nat} {b : BlkD} (h : liveAt L k = some b) : textAt L k = b.text := by unfold textAt; rw [h]
theorem textAt_lost {L : List BlkD} {k : Nat} (h : liveAt L k = none) : textAt L k = ⟨#[]⟩ := by unfold textAt; rw [h]

/-- The answers of the calls, and the heap behind them. -/
def loadV (D : HpD) (k : Nat) (i : Int) : Int := if spot D.L k i = 0 then wordAt D.L k i else 0
def loadD (D : HpD) (k : Nat) (i : Int) : HpD := if spot D.L k i = 0 then D else D.fault
def storeD (D : HpD) (k : Nat) (i u : Int) : HpD := if spot D.L k i = 0 then D.word k i u else D.fault
def swapD (D : HpD) (k : Nat) (i o u : Int) : HpD := if spot D.L k i = 0 then (if wordAt D.L k i = o then D.word k i u else D) else D.fault
def bumpD (D : HpD) (k : Nat) (i u : Int) : HpD := if spot D.L k i = 0 then D.word k i (IntKind.u64.wrap (wordAt D.L k i + u)) else D.fault
def wordsD (D : HpD) (k : Nat) : HpD := if there D.L k = 0 then D else D.fault
def dropD (D : HpD) (k : Nat) : HpD := if there D.L k = 0 then D.lose k else D.fault

abbrev TwoV (w c : Int) : Value := .tuple #[.int .u64 w, .int .i64 c]

section
variable {B p : Nat} {D : HpD} {f : Nat → Prop} {mb : Option Nat} {g cp : Nat → Nat}
theorem cell_none (W : World) (h : HpAt W B p D f mb g cp) (hf : D.faults < 1000000) (k : Nat) (hk : k < 18446744073709551616) (i : Int) (hs : spot D.L k i ≠ 0) :
    Calls Try.prog 32 #[.pointer (some ⟨p, 0, none⟩), .int .u64 (k : Int), .int .i64 i] W (NoneR B p D f mb g cp (spot D.L k i) W) := by
  cases hb : liveAt D.L k with
  | none => rw [spot_lost hb]; exact cell_lost W h hf k hk hb i
  | some b =>
    by_cases hi : i < 0 ∨ (b.ws.length : Int) ≤ i
    · rw [spot_off hb hi]; exact cell_off W h hf k hk b hb i hi
    · rw [spot_some hb, if_neg hi] at hs; exact absurd rfl hs

/-- What the calls of a cell share. -/
theorem spot_bool {L : List BlkD} {k : Nat} {i : Int} (hs : spot L k i ≠ 0) : ((spot L k i) == 0) = false := by rw [beq_eq_false_iff_ne]; exact hs

set_option maxRecDepth 100000 in
set_option maxHeartbeats 1000000 in
theorem load_any (W : World) (h : Hp W B p D f) (hf : D.faults < 1000000) (k : Nat) (hk : k < 18446744073709551616) (i : Int) :
    Calls Try.prog 16 #[.pointer (some ⟨p, 0, none⟩), .int .u64 (k : Int), .int .i64 i] W (HpR B p f W (TwoV (loadV D k i) (spot D.L k i)) (loadD D k i)) := by
  obtain ⟨mb, g, cp, h⟩ := h
  obtain ⟨z, hz⟩ : ∃ z, (k : Int) = z := ⟨_, rfl⟩
  by_cases hs : spot D.L k i = 0
  · obtain ⟨b, j, hb, rfl, hj⟩ := spot_zero hs
    have HC := Lib.hid (cell_hit W h k hk b hb j hj)
    have HW := Lib.hid (fun Y hY => ((h.below (W' := Y) hY).setWord hb j hj 0).1)
    have HH := Lib.hid h
    unfold loadV loadD
    rw [if_pos hs, if_pos hs, wordAt_hit hb hj, spot_hit hb hj]
    obtain ⟨u, hu⟩ : ∃ u, b.ws[j] = u := ⟨_, rfl⟩
    obtain ⟨q, hq⟩ : ∃ q, g k = q := ⟨_, rfl⟩
    unfold uval at HW
    rw [hu, hq] at HW
    rw [hq] at HC
    rw [hz] at HC ⊢
    rw [hu]
    clear hu hq hz hs hb hj hk hf h
    go_enter Try.func16, Try.ntmps16
    go_wp2_with fail
    refine HC.out.mono ?_
    rintro en w1 ⟨rfl, hb1⟩
    have HB := Lib.hid hb1
    have hc := HW.out _ hb1
    clear hb1
    go_wp2_with fail
    go_ret2
    exact ⟨f, rfl, ⟨mb, g, cp, HH.out.below HB.out⟩, Step.of_below HB.out⟩
  · have HC := Lib.hid (cell_none W h hf k hk i hs)
    have hcode := spot_bool hs
    unfold loadV loadD
    rw [if_neg hs, if_neg hs]
    obtain ⟨c, hc⟩ : ∃ c, spot D.L k i = c := ⟨_, rfl⟩
    rw [hc] at HC hcode ⊢
    rw [hz] at HC ⊢
    unfold NoneR at HC
    clear hz hc hs h hk hf
    go_enter Try.func16, Try.ntmps16
    go_wp2_with fail
    refine HC.out.mono ?_
    rintro en w1 ⟨rfl, h1, s1⟩
    have H1 := Lib.hid h1
    have S1 := Lib.hid s1
    clear h1 s1
    go_wp2_with fail
    go_ret2
    exact ⟨f, rfl, ⟨mb, g, cp, H1.out⟩, S1.out⟩
end

end Go.Proofs.Ytpnfbabiibopnaa

/-! A heap's Store, Swap, Bump. -/
namespace Go.Proofs.Ytpnfbabiibopnaa
open Go Go.RowKit
attribute [local go_sem ↓] Go.wp_at_zero Go.wp_at_succ

section
variable {B p : Nat} {D : HpD} {f : Nat → Prop}

set_option maxRecDepth 100000 in
set_option maxHeartbeats 1000000 in
theorem store_any (W : World) (h : Hp W B p D f) (hf : D.faults < 1000000) (k : Nat) (hk : k < 18446744073709551616) (i u : Int) :
    Calls Try.prog 11 #[.pointer (some ⟨p, 0, none⟩), .int .u64 (k : Int), .int .i64 i, .int .u64 u] W (HpR B p f W (.int .i64 (spot D.L k i)) (storeD D k i u)) := by
  obtain ⟨mb, g, cp, h⟩ := h
  obtain ⟨z, hz⟩ : ∃ z, (k : Int) = z := ⟨_, rfl⟩
  by_cases hs : spot D.L k i = 0
  · obtain ⟨b, j, hb, rfl, hj⟩ := spot_zero hs
    have HC := Lib.hid (cell_hit W h k hk b hb j hj)
    have HW := Lib.hid (fun Y hY x => (h.below (W' := Y) hY).setWord hb j hj x)
    have HH := Lib.hid h
    unfold storeD
    rw [if_pos hs, word_hit hb, spot_hit hb hj]
    obtain ⟨q, hq⟩ : ∃ q, g k = q := ⟨_, rfl⟩
    have HX := Lib.hid (fun Y hY => HW.out Y hY u)
    unfold uval at HX
    rw [hq] at HX HC
    rw [hz] at HC ⊢
    clear hq hz hs hb hk hf h HW HH
    go_enter Try.func11, Try.ntmps11
    go_wp2_with fail
    refine HC.out.mono ?_
    rintro en w1 ⟨rfl, hb1⟩
    have HB := Lib.hid hb1
    obtain ⟨c1, c2, c3, c4⟩ := HX.out _ hb1
    have H3 := Lib.hid c3
    have H4 := Lib.hid c4
    clear hb1 c3 c4 HX
    go_wp2_with fail
    go_ret
    exact ⟨f, rfl, ⟨mb, g, cp, H3.out⟩, (Step.of_below HB.out).trans H4.out⟩

  · have HC := Lib.hid (cell_none W h hf k hk i hs)
    have hcode := spot_bool hs
    unfold storeD
    rw [if_neg hs]
    obtain ⟨c, hc⟩ : ∃ c, spot D.L k i = c := ⟨_, rfl⟩
    rw [hc] at HC hcode ⊢
    rw [hz] at HC ⊢
    unfold NoneR at HC
    clear hz hc hs h hk hf
    go_enter Try.func11, Try.ntmps11
    go_wp2_with fail
    refine HC.out.mono ?_
    rintro en w1 ⟨rfl, h1, s1⟩
    have H1 := Lib.hid h1
    have S1 := Lib.hid s1
    clear h1 s1
    go_wp2_with fail
    go_ret
    exact ⟨f, rfl, ⟨mb, g, cp, H1.out⟩, S1.out⟩

set_option maxRecDepth 100000 in
set_option maxHeartbeats 1000000 in
theorem swap_any (W : World) (h : Hp W B p D f) (hf : D.faults < 1000000) (k : Nat) (hk : k < 18446744073709551616) (i o u : Int) :
    Calls Try.prog 44 #[.pointer (some ⟨p, 0, none⟩), .int .u64 (k : Int), .int .i64 i, .int .u64 o, .int .u64 u] W (HpR B p f W (TwoV (loadV D k i) (spot D.L k i)) (swapD D k i o u)) := by
  obtain ⟨mb, g, cp, h⟩ := h
  obtain ⟨z, hz⟩ : ∃ z, (k : Int) = z := ⟨_, rfl⟩
  by_cases hs : spot D.L k i = 0
  · obtain ⟨b, j, hb, rfl, hj⟩ := spot_zero hs
    have HC := Lib.hid (cell_hit W h k hk b hb j hj)
    have HW := Lib.hid (fun Y hY x => (h.below (W' := Y) hY).setWord hb j hj x)
    have HH := Lib.hid h
    unfold swapD loadV
    rw [if_pos hs, if_pos hs, word_hit hb, wordAt_hit hb hj, spot_hit hb hj]
    obtain ⟨q, hq⟩ : ∃ q, g k = q := ⟨_, rfl⟩
    obtain ⟨x, hx⟩ : ∃ x, b.ws[j] = x := ⟨_, rfl⟩
    have HX := Lib.hid (fun Y hY => HW.out Y hY u)
    unfold uval at HX
    rw [hq, hx] at HX
    rw [hq] at HC
    rw [hz] at HC ⊢
    rw [hx]
    clear hq hz hs hb hk hf h HW hx hj
    by_cases hxo : x = o
    · rw [if_pos hxo]
      have hxb : (x == o) = true := by rw [beq_iff_eq]; exact hxo
      clear hxo HH
      go_enter Try.func44, Try.ntmps44
      go_wp2_with fail
      refine HC.out.mono ?_
      rintro en w1 ⟨rfl, hb1⟩
      have HB := Lib.hid hb1
      obtain ⟨c1, c2, c3, c4⟩ := HX.out _ hb1
      have H3 := Lib.hid c3
      have H4 := Lib.hid c4
      clear hb1 c3 c4 HX
      go_wp2_with fail
      go_ret2
      exact ⟨f, rfl, ⟨mb, g, cp, H3.out⟩, (Step.of_below HB.out).trans H4.out⟩
    · rw [if_neg hxo]
      have hxb : (x == o) = false := by rw [beq_eq_false_iff_ne]; exact hxo
      clear hxo
      go_enter Try.func44, Try.ntmps44
      go_wp2_with fail
      refine HC.out.mono ?_
      rintro en w1 ⟨rfl, hb1⟩
      have HB := Lib.hid hb1
      obtain ⟨c1, c2, _, _⟩ := HX.out _ hb1
      clear hb1 HX
      go_wp2_with fail
      go_ret2
      exact ⟨f, rfl, ⟨mb, g, cp, HH.out.below HB.out⟩, Step.of_below HB.out⟩

  · have HC := Lib.hid (cell_none W h hf k hk i hs)
    have hcode := spot_bool hs
    unfold swapD loadV
    rw [if_neg hs, if_neg hs]
    obtain ⟨c, hc⟩ : ∃ c, spot D.L k i = c := ⟨_, rfl⟩
    rw [hc] at HC hcode ⊢
    rw [hz] at HC ⊢
    unfold NoneR at HC
    clear hz hc hs h hk hf
    go_enter Try.func44, Try.ntmps44
    go_wp2_with fail
    refine HC.out.mono ?_
    rintro en w1 ⟨rfl, h1, s1⟩
    have H1 := Lib.hid h1
    have S1 := Lib.hid s1
    clear h1 s1
    go_wp2_with fail
    go_ret2
    exact ⟨f, rfl, ⟨mb, g, cp, H1.out⟩, S1.out⟩

set_option maxRecDepth 100000 in
set_option maxHeartbeats 1000000 in
theorem bump_any (W : World) (h : Hp W B p D f) (hf : D.faults < 1000000) (k : Nat) (hk : k < 18446744073709551616) (i u : Int) :
    Calls Try.prog 45 #[.pointer (some ⟨p, 0, none⟩), .int .u64 (k : Int), .int .i64 i, .int .u64 u] W (HpR B p f W (TwoV (loadV D k i) (spot D.L k i)) (bumpD D k i u)) := by
  obtain ⟨mb, g, cp, h⟩ := h
  obtain ⟨z, hz⟩ : ∃ z, (k : Int) = z := ⟨_, rfl⟩
  by_cases hs : spot D.L k i = 0
  · obtain ⟨b, j, hb, rfl, hj⟩ := spot_zero hs
    have HC := Lib.hid (cell_hit W h k hk b hb j hj)
    have HW := Lib.hid (fun Y hY x => (h.below (W' := Y) hY).setWord hb j hj x)
    have HH := Lib.hid h
    unfold bumpD loadV
    rw [if_pos hs, if_pos hs, word_hit hb, wordAt_hit hb hj, spot_hit hb hj]
    obtain ⟨q, hq⟩ : ∃ q, g k = q := ⟨_, rfl⟩
    obtain ⟨x, hx⟩ : ∃ x, b.ws[j] = x := ⟨_, rfl⟩
    obtain ⟨y, hy⟩ : ∃ y, IntKind.u64.wrap (x + u) = y := ⟨_, rfl⟩
    have HX := Lib.hid (fun Y hY => HW.out Y hY y)
    unfold uval at HX
    rw [hq, hx] at HX
    rw [hq] at HC
    rw [hz] at HC ⊢
    rw [hx, hy]
    clear hq hz hs hb hk hf h HW HH hx hj
    go_enter Try.func45, Try.ntmps45
    go_wp2_with fail
    refine HC.out.mono ?_
    rintro en w1 ⟨rfl, hb1⟩
    have HB := Lib.hid hb1
    obtain ⟨c1, c2, c3, c4⟩ := HX.out _ hb1
    have H3 := Lib.hid c3
    have H4 := Lib.hid c4
    clear hb1 c3 c4 HX
    go_wp2_with fail
    go_ret2
    exact ⟨f, rfl, ⟨mb, g, cp, H3.out⟩, (Step.of_below HB.out).trans H4.out⟩

  · have HC := Lib.hid (cell_none W h hf k hk i hs)
    have hcode := spot_bool hs
    unfold bumpD loadV
    rw [if_neg hs, if_neg hs]
    obtain ⟨c, hc⟩ : ∃ c, spot D.L k i = c := ⟨_, rfl⟩
    rw [hc] at HC hcode ⊢
    rw [hz] at HC ⊢
    unfold NoneR at HC
    clear hz hc hs h hk hf
    go_enter Try.func45, Try.ntmps45
    go_wp2_with fail
    refine HC.out.mono ?_
    rintro en w1 ⟨rfl, h1, s1⟩
    have H1 := Lib.hid h1
    have S1 := Lib.hid s1
    clear h1 s1
    go_wp2_with fail
    go_ret2
    exact ⟨f, rfl, ⟨mb, g, cp, H1.out⟩, S1.out⟩
end

end Go.Proofs.Ytpnfbabiibopnaa
