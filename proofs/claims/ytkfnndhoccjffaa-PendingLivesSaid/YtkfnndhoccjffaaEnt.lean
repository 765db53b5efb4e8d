/-
  Entries as they lie in memory: their names, and their lists of guards and steps; lists of an entry's own.
-/
import Derived.Test.YtkfnndhoccjffaaSets
namespace Go.Proofs.Ytkfnndhoccjffaa
open Go Go.RowKit

theorem flat_at {α : Type} (f : α → List Value) (k : Nat) (hk : ∀ a, (f a).length = k) (h0 : 0 < k) : ∀ (L : List α) (j : Nat), (L.flatMap f)[j]? = (L[j / k]?).bind (fun a => (f a)[j % k]?)
  | [], j => by simp
  | a :: L, j => by
    rw [List.flatMap_cons]
    by_cases hj : j < k
    · rw [List.getElem?_append_left (by rw [hk]; exact hj), Nat.div_eq_of_lt hj, Nat.mod_eq_of_lt hj]; simp
    · obtain ⟨i, rfl⟩ : ∃ i, j = i + k := ⟨j - k, by omega⟩
      rw [List.getElem?_append_right (by rw [hk]; omega), hk, Nat.add_sub_cancel, flat_at f k hk h0 L i, Nat.add_div_right i h0, Nat.add_mod_right]
      simp
theorem flat_len {α : Type} (f : α → List Value) (k : Nat) (hk : ∀ a, (f a).length = k) : ∀ L : List α, (L.flatMap f).length = L.length * k
  | [] => by simp
  | a :: L => by rw [List.flatMap_cons, List.length_append, hk, flat_len f k hk L, List.length_cons, Nat.add_mul]; omega
theorem flat_at' {α : Type} (f : α → List Value) (k : Nat) (hk : ∀ a, (f a).length = k) (L : List α) {i r : Nat} (hi : i < L.length) (hr : r < k) : (L.flatMap f)[i * k + r]? = (f L[i])[r]? := by
  rw [flat_at f k hk (by omega) L]
  have h1 : (i * k + r) / k = i := by rw [Nat.add_comm, Nat.add_mul_div_right _ _ (by omega), Nat.div_eq_of_lt hr]; omega
  have h2 : (i * k + r) % k = r := by rw [Nat.add_comm, Nat.add_mul_mod_self_right, Nat.mod_eq_of_lt hr]
  rw [h1, h2, List.getElem?_eq_getElem hi]; rfl

def flatG (G : List GD) : List Value := G.flatMap GD.cells
def flatS (S : List SD) : List Value := S.flatMap SD.cells
def flatI (L : List IdD) : List Value := L.flatMap IdD.cells
theorem flatG_len (G : List GD) : (flatG G).length = G.length * 3 := flat_len _ 3 (fun _ => rfl) G
theorem flatS_len (S : List SD) : (flatS S).length = S.length * 5 := flat_len _ 5 (fun _ => rfl) S
theorem flatI_len (L : List IdD) : (flatI L).length = L.length * 2 := flat_len _ 2 (fun _ => rfl) L
theorem flatI_snoc (L : List IdD) (a : IdD) : flatI (L ++ [a]) = flatI L ++ [.int .i64 a.o, .int .i64 a.s] := by simp [flatI, IdD.cells]

/-- The cells that a slice of things is told to have are those that lie there. -/
theorem Sg.flat {W : World} {p : Option Addr} {G : List GD} (h : Sg W p G) : ∀ j u, (flatG G)[j]? = some u → ∃ ad, p = some ad ∧ W.cell? (ad.add j) = some u := by
  intro j u hj
  have hjl : j < G.length * 3 := by rw [← flatG_len]; exact (List.getElem?_eq_some_iff.1 hj).1
  have hi : j / 3 < G.length := by omega
  obtain ⟨b, o, rfl, c1, c2, c3⟩ := h (j / 3) hi
  refine ⟨_, rfl, ?_⟩
  rw [Addr.add_lit]
  rw [show flatG G = G.flatMap GD.cells from rfl, flat_at _ 3 (fun _ => rfl) (by omega), List.getElem?_eq_getElem hi] at hj
  simp only [Option.bind_some, GD.cells] at hj
  have hm : j = j / 3 * 3 + j % 3 := by omega
  have hr : j % 3 < 3 := Nat.mod_lt _ (by omega)
  rcases (show j % 3 = 0 ∨ j % 3 = 1 ∨ j % 3 = 2 by omega) with e | e | e <;> rw [e] at hj hm <;> simp at hj <;> subst hj
  · rw [show o + j = o + j / 3 * 3 by omega]; exact c1
  · rw [show o + j = o + j / 3 * 3 + 1 by omega]; exact c2
  · rw [show o + j = o + j / 3 * 3 + 2 by omega]; exact c3
theorem Ss.flat {W : World} {p : Option Addr} {S : List SD} (h : Ss W p S) : ∀ j u, (flatS S)[j]? = some u → ∃ ad, p = some ad ∧ W.cell? (ad.add j) = some u := by
  intro j u hj
  have hjl : j < S.length * 5 := by rw [← flatS_len]; exact (List.getElem?_eq_some_iff.1 hj).1
  have hi : j / 5 < S.length := by omega
  obtain ⟨b, o, rfl, c1, c2, c3, c4, c5⟩ := h (j / 5) hi
  refine ⟨_, rfl, ?_⟩
  rw [Addr.add_lit]
  rw [show flatS S = S.flatMap SD.cells from rfl, flat_at _ 5 (fun _ => rfl) (by omega), List.getElem?_eq_getElem hi] at hj
  simp only [Option.bind_some, SD.cells] at hj
  have hm : j = j / 5 * 5 + j % 5 := by omega
  have hr : j % 5 < 5 := Nat.mod_lt _ (by omega)
  rcases (show j % 5 = 0 ∨ j % 5 = 1 ∨ j % 5 = 2 ∨ j % 5 = 3 ∨ j % 5 = 4 by omega) with e | e | e | e | e <;> rw [e] at hj hm <;> simp at hj <;> subst hj
  · rw [show o + j = o + j / 5 * 5 by omega]; exact c1
  · rw [show o + j = o + j / 5 * 5 + 1 by omega]; exact c2
  · rw [show o + j = o + j / 5 * 5 + 2 by omega]; exact c3
  · rw [show o + j = o + j / 5 * 5 + 3 by omega]; exact c4
  · rw [show o + j = o + j / 5 * 5 + 4 by omega]; exact c5

theorem Lot.at {W : World} {e : TypeId} {size n : Nat} {p : Option Addr} {c : Nat} {xs : List Value} (h : Lot W e size (.slice p n c) n xs) (hn : 0 < n) : ∃ g, p = some ⟨g, 0, none⟩ ∧ ∀ j u, xs[j]? = some u → W.cell? ⟨g, j, none⟩ = some u := by
  obtain ⟨g, cap, hv, hc⟩ := h.cells hn
  simp only [Value.slice.injEq] at hv
  exact ⟨g, hv.1, hc⟩
theorem Lot.sg {W : World} {p : Option Addr} {n c : Nat} {G : List GD} (h : Lot W 57 3 (.slice p n c) n (flatG G)) (hn : G.length = n) : Sg W p G := by
  intro j hj
  obtain ⟨g, rfl, hc⟩ := h.at (by omega)
  have f := fun r (hr : r < 3) => flat_at' GD.cells 3 (fun _ => rfl) G hj hr
  refine ⟨g, 0, rfl, hc _ _ ?_, hc _ _ ?_, hc _ _ ?_⟩
  · have := f 0 (by omega); simpa [flatG, GD.cells] using this
  · have := f 1 (by omega); simpa [flatG, GD.cells] using this
  · have := f 2 (by omega); simpa [flatG, GD.cells] using this
theorem Lot.ss {W : World} {p : Option Addr} {n c : Nat} {S : List SD} (h : Lot W 59 5 (.slice p n c) n (flatS S)) (hn : S.length = n) : Ss W p S := by
  intro j hj
  obtain ⟨g, rfl, hc⟩ := h.at (by omega)
  have f := fun r (hr : r < 5) => flat_at' SD.cells 5 (fun _ => rfl) S hj hr
  refine ⟨g, 0, rfl, hc _ _ ?_, hc _ _ ?_, hc _ _ ?_, hc _ _ ?_, hc _ _ ?_⟩
  · have := f 0 (by omega); simpa [flatS, SD.cells] using this
  · have := f 1 (by omega); simpa [flatS, SD.cells] using this
  · have := f 2 (by omega); simpa [flatS, SD.cells] using this
  · have := f 3 (by omega); simpa [flatS, SD.cells] using this
  · have := f 4 (by omega); simpa [flatS, SD.cells] using this
theorem Lot.si {W : World} {p : Option Addr} {n c : Nat} {L : List IdD} (h : Lot W 34 2 (.slice p n c) n (flatI L)) (hn : L.length = n) : Si W p L := by
  intro j hj
  obtain ⟨g, rfl, hc⟩ := h.at (by omega)
  have f := fun r (hr : r < 2) => flat_at' IdD.cells 2 (fun _ => rfl) L hj hr
  refine ⟨g, 0, rfl, hc _ _ ?_, hc _ _ ?_⟩
  · have := f 0 (by omega); simpa [flatI, IdD.cells] using this
  · have := f 1 (by omega); simpa [flatI, IdD.cells] using this

/-! ### entries -/
/-- An entry by its values. -/
structure ED where
  id : IdD
  g : List GD
  s : List SD
/-- An entry's cells: its name, and where its lists lie. -/
structure EV where
  id : IdD
  pg : Option Addr
  ng : Nat
  cg : Nat
  ps : Option Addr
  ns : Nat
  cs : Nat
def EV.cells (v : EV) : List Value := [.int .i64 v.id.o, .int .i64 v.id.s, .slice v.pg v.ng v.cg, .slice v.ps v.ns v.cs]
abbrev EV.val (v : EV) : Value := .agg #[.int .i64 v.id.o, .int .i64 v.id.s, .slice v.pg v.ng v.cg, .slice v.ps v.ns v.cs]

/-- It is a value of the language, and its lists are short. -/
structure ED.fits (e : ED) : Prop where
  id : e.id.fits
  g : ∀ x ∈ e.g, x.fits
  s : ∀ x ∈ e.s, x.fits
  ng : e.g.length ≤ 10
  ns : e.s.length ≤ 10

/-- v is e, by what lies there. -/
structure Ent (W : World) (v : EV) (e : ED) : Prop where
  id : v.id = e.id
  g : Sg W v.pg e.g
  s : Ss W v.ps e.s
  ng : e.g.length = v.ng
  ns : e.s.length = v.ns
theorem Ent.grow {W W' : World} {v : EV} {e : ED} (h : Ent W v e) (hb : Below W.heap.size W W') : Ent W' v e := ⟨h.id, h.g.grow hb, h.s.grow hb, h.ng, h.ns⟩

/-- v is e, and its lists lie in blocks for such lists alone, none ahead of B. -/
structure EntO (W : World) (B : Nat) (v : EV) (e : ED) : Prop where
  id : v.id = e.id
  g : Lot W 57 3 (.slice v.pg v.ng v.cg) v.ng (flatG e.g)
  s : Lot W 59 5 (.slice v.ps v.ns v.cs) v.ns (flatS e.s)
  ng : e.g.length = v.ng
  ns : e.s.length = v.ns
  bg : ∀ k, (Value.slice v.pg v.ng v.cg).ownBlock = some k → B ≤ k
  bs : ∀ k, (Value.slice v.ps v.ns v.cs).ownBlock = some k → B ≤ k
theorem EntO.ent {W : World} {B : Nat} {v : EV} {e : ED} (h : EntO W B v e) : Ent W v e := ⟨h.id, h.g.sg h.ng, h.s.ss h.ns, h.ng, h.ns⟩
/-- No list of guards, and none of steps, lies in block k. -/
def Other (W : World) (k : Nat) : Prop := ∀ cs t, W.heap[k]? = some (.cells cs t (0, 0)) → t ≠ 57 ∧ t ≠ 59
theorem EntO.kept {W W' : World} {B : Nat} {v : EV} {e : ED} {row : Option Nat} (h : EntO W B v e) (hg : W.grownBy W' row) (hr : ∀ k, row = some k → Other W k) : EntO W' B v e := by
  refine ⟨h.id, h.g.kept hg ?_, h.s.kept hg ?_, h.ng, h.ns, h.bg, h.bs⟩
  · cases hv : (Value.slice v.pg v.ng v.cg).ownBlock with
    | none => exact .inl rfl
    | some k =>
      right; intro e1
      obtain ⟨cur, hc⟩ := h.g.tag hv
      exact (hr k e1.symm _ _ hc).1 rfl
  · cases hv : (Value.slice v.ps v.ns v.cs).ownBlock with
    | none => exact .inl rfl
    | some k =>
      right; intro e1
      obtain ⟨cur, hc⟩ := h.s.tag hv
      exact (hr k e1.symm _ _ hc).2 rfl
theorem EntO.below {W W' : World} {B : Nat} {v : EV} {e : ED} (h : EntO W B v e) (hb : Below W.heap.size W W') : EntO W' B v e := ⟨h.id, h.g.below hb, h.s.below hb, h.ng, h.ns, h.bg, h.bs⟩
theorem EntO.mono {W : World} {B B' : Nat} {v : EV} {e : ED} (h : EntO W B v e) (hB : B' ≤ B) : EntO W B' v e := ⟨h.id, h.g, h.s, h.ng, h.ns, fun k hk => Nat.le_trans hB (h.bg k hk), fun k hk => Nat.le_trans hB (h.bs k hk)⟩

def flatE (R : List EV) : List Value := R.flatMap EV.cells
theorem flatE_len (R : List EV) : (flatE R).length = R.length * 4 := flat_len _ 4 (fun _ => rfl) R
theorem flatE_snoc (R : List EV) (v : EV) : flatE (R ++ [v]) = flatE R ++ [.int .i64 v.id.o, .int .i64 v.id.s, .slice v.pg v.ng v.cg, .slice v.ps v.ns v.cs] := by simp [flatE, EV.cells]

/-- At p, a slice's address, lie entries whose cells are R's. -/
def Se (W : World) (p : Option Addr) (R : List EV) : Prop :=
  ∀ j (h : j < R.length), ∃ b o, p = some ⟨b, o, none⟩ ∧ W.cell? ⟨b, o + j * 4, none⟩ = some (.int .i64 R[j].id.o) ∧ W.cell? ⟨b, o + j * 4 + 1, none⟩ = some (.int .i64 R[j].id.s) ∧ W.cell? ⟨b, o + j * 4 + 2, none⟩ = some (.slice R[j].pg R[j].ng R[j].cg) ∧ W.cell? ⟨b, o + j * 4 + 3, none⟩ = some (.slice R[j].ps R[j].ns R[j].cs)
theorem Se.nil (W : World) (p : Option Addr) : Se W p [] := fun _ h => absurd h (Nat.not_lt_zero _)
theorem Se.grow {W W' : World} {p : Option Addr} {R : List EV} (h : Se W p R) (hb : Below W.heap.size W W') : Se W' p R := fun j hj => by
  obtain ⟨b, o, rfl, c1, c2, c3, c4⟩ := h j hj
  exact ⟨b, o, rfl, (hb.cell (p := ⟨b, _, none⟩) (cell_lt c1)).trans c1, (hb.cell (p := ⟨b, _, none⟩) (cell_lt c2)).trans c2, (hb.cell (p := ⟨b, _, none⟩) (cell_lt c3)).trans c3, (hb.cell (p := ⟨b, _, none⟩) (cell_lt c4)).trans c4⟩
theorem Lot.se {W : World} {p : Option Addr} {n c : Nat} {R : List EV} (h : Lot W 40 4 (.slice p n c) n (flatE R)) (hn : R.length = n) : Se W p R := by
  intro j hj
  obtain ⟨g, rfl, hc⟩ := h.at (by omega)
  have f := fun r (hr : r < 4) => flat_at' EV.cells 4 (fun _ => rfl) R hj hr
  refine ⟨g, 0, rfl, hc _ _ ?_, hc _ _ ?_, hc _ _ ?_, hc _ _ ?_⟩
  · have := f 0 (by omega); simpa [flatE, EV.cells] using this
  · have := f 1 (by omega); simpa [flatE, EV.cells] using this
  · have := f 2 (by omega); simpa [flatE, EV.cells] using this
  · have := f 3 (by omega); simpa [flatE, EV.cells] using this

/-- Each of R is the entry of E at its place. -/
def Each (Q : EV → ED → Prop) (R : List EV) (E : List ED) : Prop := R.length = E.length ∧ ∀ j (h : j < R.length) (h' : j < E.length), Q R[j] E[j]
theorem Each.nil (Q : EV → ED → Prop) : Each Q [] [] := ⟨rfl, fun _ h => absurd h (Nat.not_lt_zero _)⟩
theorem Each.imp {Q Q' : EV → ED → Prop} {R : List EV} {E : List ED} (h : Each Q R E) (hq : ∀ v e, v ∈ R → e ∈ E → Q v e → Q' v e) : Each Q' R E := ⟨h.1, fun j a b => hq _ _ (List.getElem_mem a) (List.getElem_mem b) (h.2 j a b)⟩
theorem Each.snoc {Q : EV → ED → Prop} {R : List EV} {E : List ED} {v : EV} {e : ED} (h : Each Q R E) (hq : Q v e) : Each Q (R ++ [v]) (E ++ [e]) := by
  refine ⟨by simp [h.1], fun j a b => ?_⟩
  by_cases hj : j < R.length
  · rw [List.getElem_append_left hj, List.getElem_append_left (by rw [← h.1]; exact hj)]; exact h.2 j hj _
  · have hl := h.1
    have : j = R.length := by simp at a; omega
    subst this
    rw [List.getElem_append_right (Nat.le_refl _), List.getElem_append_right (by omega)]
    simpa using hq

/-! ### append onto nil of a slice that may be empty -/
section
variable {P : Program} (w : World)
theorem run_append_fresh (t ty e : TypeId) (i : TypeInfo) (z : Value) (size bytes : Nat) (ht : P.underlying t = some (.slice e)) (hi : P.info? e = some i) (hz : i.zero = some z)
    (hsize : i.size = size) (hby : i.bytes = bytes) (hzs : z.cells.size = size)
    (p : Option Addr) (m c : Nat) (news : List Value) (hl : news.length = m * size) (h0 : 0 < size) (hnews : ∀ j u, news[j]? = some u → ∃ ad, p = some ad ∧ w.cell? (ad.add j) = some u) (h1 : ∀ u ∈ news, u.oneCell' = true)
    (h63 : m ≤ maxLen) (hbytes : m * bytes ≤ 140737488355328) :
    ∃ a cap w', (Builtin.append_ #[t, t] ty #[.slice none 0 0, .slice p m c]).run P w = .ok (.slice a m cap) w' ∧ Lot w' e size (.slice a m cap) m news ∧ Below w.heap.size w w' ∧ (∀ k, (Value.slice a m cap).ownBlock = some k → w.heap.size ≤ k) ∧ m ≤ cap ∧ cap ≤ maxLen := by
  by_cases hm : m = 0
  · subst hm
    have hn : news = [] := List.eq_nil_of_length_eq_zero (by simpa using hl)
    subst hn
    refine ⟨none, 0, w, ?_, Lot.nil _ _ _, Below.refl _ _, fun k hk => (by cases hk), Nat.le_refl _, Nat.zero_le _⟩
    cases p <;> simp [Builtin.append_, run_underlying ht, sizeOf, typeInfo, hi, Builtin.lenOf, Builtin.firstCells, loadCells, loadCellsFrom]
  · have hpos : 0 < news.length := by rw [hl]; exact Nat.mul_pos (by omega) h0
    obtain ⟨ad, rfl, _⟩ := hnews 0 _ (List.getElem?_eq_getElem hpos)
    obtain ⟨g, cap, w', hr, hL, hg, hat⟩ := run_append_lot (P := P) w t ty e i z size bytes ht hi hz hsize hby hzs (.slice none 0 0) 0 [] (Lot.nil _ _ _) ad m c news hl (fun j u hu => by obtain ⟨ad', e1, h⟩ := hnews j u hu; cases e1; exact h) h1 (by omega) (by omega) (by simpa using hbytes)
    rw [Nat.zero_add, List.nil_append] at hL
    rw [Nat.zero_add] at hr
    have hcap : m ≤ cap ∧ cap ≤ maxLen := by
      rcases hL.2 with ⟨h, _⟩ | ⟨g', cap', cur, hv, _, h1, h2, _⟩
      · cases h
      · simp only [Value.slice.injEq] at hv; obtain ⟨_, _, rfl⟩ := hv; exact ⟨h1, h2⟩
    refine ⟨_, _, w', hr, hL, (Below.refl _ w).grown hg (Nat.le_refl _) (fun k e => by cases e), fun k hk => ?_, hcap⟩
    obtain rfl : g = k := by simpa [Value.ownBlock] using hk
    rcases hat with h | h
    · cases h
    · omega

theorem step_append_fresh {ops : Array Oper} {o : Oper} {a : Act} {K : Act → World → Prop} {Q : Exit → Act → World → Prop} {E : Prop} (hgd : o.guard = none) (s x : Operand) (t : TypeId)
    (ho : o.op = .call { callee := .builtin .append, args := #[s, x], argTypes := #[t, t] })
    (e : TypeId) (i : TypeInfo) (z : Value) (size bytes : Nat) (ht : P.underlying t = some (.slice e)) (hi : P.info? e = some i) (hz : i.zero = some z)
    (hsize : i.size = size) (hby : i.bytes = bytes) (hzs : z.cells.size = size) (hs : a.eval s = .slice none 0 0)
    (p : Option Addr) (m c : Nat) (news : List Value) (hx : a.eval x = .slice p m c) (hl : news.length = m * size) (h0 : 0 < size) (hnews : ∀ j u, news[j]? = some u → ∃ ad, p = some ad ∧ w.cell? (ad.add j) = some u) (h1 : ∀ u ∈ news, u.oneCell' = true)
    (h63 : m ≤ maxLen) (hbytes : m * bytes ≤ 140737488355328)
    (h : ∀ q cap w', Lot w' e size (.slice q m cap) m news → Below w.heap.size w w' → (∀ k, (Value.slice q m cap).ownBlock = some k → w.heap.size ≤ k) → m ≤ cap ∧ cap ≤ maxLen → K (a.put o.dst (.slice q m cap)) w') :
    if Region.wanted o (yielded ops a.tmps) = true then Oper.wp P o a w K Q else E := by
  have hw : Region.wanted o (yielded ops a.tmps) = true := by simp [Region.wanted, hgd]
  rw [if_pos hw]
  obtain ⟨q, cap, w', hr, h2, h3, h4, h5⟩ := run_append_fresh (P := P) w t o.type e i z size bytes ht hi hz hsize hby hzs p m c news hl h0 hnews h1 h63 hbytes
  unfold Oper.wp execOp
  simp only [ho, resolve, invoke, builtin, Sem.run_bind, Sem.run_pure, Result.andThen_ok, List.map_toArray, List.map_cons, List.map_nil, hs, hx, hr]
  exact h q cap w' h2 h3 h4 h5
end

theorem oneG {G : List GD} : ∀ u ∈ flatG G, u.oneCell' = true := by
  intro u hu
  obtain ⟨x, _, hx⟩ := List.mem_flatMap.1 hu
  simp only [GD.cells, List.mem_cons, List.not_mem_nil, or_false] at hx
  rcases hx with rfl | rfl | rfl <;> rfl
theorem oneS {S : List SD} : ∀ u ∈ flatS S, u.oneCell' = true := by
  intro u hu
  obtain ⟨x, _, hx⟩ := List.mem_flatMap.1 hu
  simp only [SD.cells, List.mem_cons, List.not_mem_nil, or_false] at hx
  rcases hx with rfl | rfl | rfl | rfl | rfl <;> rfl

theorem info_guard : (Try.prog.info? 57).map (fun i => (i.zero, i.size, i.bytes)) = some (some (.agg #[.int .i64 0, .string ⟨#[]⟩, .string ⟨#[]⟩]), 3, 40) := by kernel_rfl
theorem info_step : (Try.prog.info? 59).map (fun i => (i.zero, i.size, i.bytes)) = some (some (.agg #[.int .i64 0, .string ⟨#[]⟩, .string ⟨#[]⟩, .string ⟨#[]⟩, .int .i64 0]), 5, 64) := by kernel_rfl
theorem info_entry : (Try.prog.info? 40).map (fun i => (i.zero, i.size, i.bytes)) = some (some (.agg #[.int .i64 0, .int .i64 0, .slice none 0 0, .slice none 0 0]), 4, 64) := by kernel_rfl
theorem info_id : (Try.prog.info? 34).map (fun i => (i.zero, i.size, i.bytes)) = some (some (.agg #[.int .i64 0, .int .i64 0]), 2, 16) := by kernel_rfl

end Go.Proofs.Ytkfnndhoccjffaa
