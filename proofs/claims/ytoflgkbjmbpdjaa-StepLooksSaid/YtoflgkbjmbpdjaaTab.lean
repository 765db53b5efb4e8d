/-
  A table as it lies in memory: a block of two slices, each with a row of its own; and what the library's search, insert and delete make of such a row.
-/
import Derived.Test.YtoflgkbjmbpdjaaIter
import Derived.Test.YtoflgkbjmbpdjaaRise
import Derived.Test.YtoflgkbjmbpdjaaShelf
import Derived.OwnWalk
import Derived.Maps.AppendAt
import Derived.Lib.Hide
import Derived.RangeFuncBox
namespace Go.Proofs.Ytoflgkbjmbpdjaa
open Go Go.RowKit

/-! ### one block turned -/

/-- Of W's blocks g alone may have turned, and of that the cells alone. -/
structure SameBut (g : Nat) (W W' : World) : Prop where
  os : W'.os = W.os
  tape : W'.tape = W.tape
  output : W'.output = W.output
  size : W'.heap.size = W.heap.size
  block : ∀ k, k ≠ g → W'.heap[k]? = W.heap[k]?
  row : ∀ c e fr, W.heap[g]? = some (.cells c e fr) → ∃ c', W'.heap[g]? = some (.cells c' e fr) ∧ c'.size = c.size

theorem SameBut.refl (g : Nat) (W : World) : SameBut g W W := ⟨rfl, rfl, rfl, rfl, fun _ _ => rfl, fun c _ _ h => ⟨c, h, rfl⟩⟩
theorem SameBut.trans {g : Nat} {A B C : World} (p : SameBut g A B) (q : SameBut g B C) : SameBut g A C :=
  ⟨q.os.trans p.os, q.tape.trans p.tape, q.output.trans p.output, q.size.trans p.size, fun k hk => (q.block k hk).trans (p.block k hk), fun c e fr h => by
    obtain ⟨c1, h1, e1⟩ := p.row c e fr h
    obtain ⟨c2, h2, e2⟩ := q.row c1 e fr h1
    exact ⟨c2, h2, e2.trans e1⟩⟩
theorem SameBut.drew {g : Nat} {A B : World} (p : SameBut g A B) : SameBut g A B.drew := ⟨p.os, p.tape, p.output, p.size, p.block, p.row⟩
theorem SameBut.setCell {g : Nat} {A B : World} (p : SameBut g A B) (o : Nat) (u : Value) : SameBut g A (B.setCell ⟨g, o, none⟩ u) := by
  refine p.trans ⟨rfl, rfl, rfl, by simp [World.setCell], fun k hk => Below.heap_setCell _ _ _ k hk, fun c e fr h => ?_⟩
  obtain ⟨hlt, hk⟩ := Array.getElem?_eq_some_iff.1 h
  refine ⟨c.setIfInBounds o u, ?_, by simp⟩
  show (B.heap.modify g _)[g]? = _
  rw [Array.getElem?_eq_getElem (by rw [Array.size_modify]; exact hlt), Array.getElem_modify_self, hk]
  rfl
theorem SameBut.setCells {g : Nat} {A : World} : ∀ (vs : List Value) (o : Nat) {B : World}, SameBut g A B → SameBut g A (B.setCells g o vs)
  | [], _, _, p => p
  | v :: r, o, _, p => SameBut.setCells r (o + 1) (p.setCell o v)
theorem SameBut.grown {g : Nat} {A B : World} (p : SameBut g A B) : A.grownBy B (some g) := ⟨p.os, p.tape, p.output, Nat.le_of_eq p.size.symm, fun k _ hk => p.block k (fun e => hk (by rw [e]))⟩

/-- A row of one-cell elements by its cells. -/
theorem ownsRow_cells {W : World} {base g n cap : Nat} {e : TypeId} {c : Array Value} {xs : List Value} (hb : base ≤ g) (h : W.heap[g]? = some (.cells c e (0, 0))) (hs : c.size = cap) (hn : n ≤ cap) (hm : cap ≤ maxLen) (hl : xs.length = n)
    (hc : ∀ j, j < n → W.cell? ⟨g, j, none⟩ = xs[j]?) : W.ownsRow base e 1 (.slice (some ⟨g, 0, none⟩) n cap) n xs := by
  refine ⟨by omega, .inr ⟨g, cap, c, rfl, hb, h, hn, hm, by omega, ?_⟩⟩
  apply List.ext_getElem?
  intro j
  rw [List.getElem?_take, Nat.mul_one]
  by_cases hj : j < n
  · have := hc j hj
    rw [show W.cell? ⟨g, j, none⟩ = c[j]? by simp [World.cell?, h]] at this
    rw [if_pos hj, Array.getElem?_toList, this]
  · rw [if_neg hj, List.getElem?_eq_none (by omega)]

theorem SameBut.owns {A B : World} {base g n cap : Nat} {e : TypeId} {c : Array Value} {xs : List Value} (p : SameBut g A B) (hb : base ≤ g) (h : A.heap[g]? = some (.cells c e (0, 0))) (hs : c.size = cap) (hn : n ≤ cap) (hm : cap ≤ maxLen) (hl : xs.length = n)
    (hc : ∀ j, j < n → B.cell? ⟨g, j, none⟩ = xs[j]?) : B.ownsRow base e 1 (.slice (some ⟨g, 0, none⟩) n cap) n xs := by
  obtain ⟨c', h', e'⟩ := p.row _ _ _ h
  exact ownsRow_cells hb h' (e'.trans hs) hn hm hl hc

theorem getElem?_ins (xs : List Value) (x : Value) (i j : Nat) (hi : i ≤ xs.length) : (xs.take i ++ x :: xs.drop i)[j]? = if j < i then xs[j]? else if j = i then some x else xs[j - 1]? := by
  have hl : (xs.take i).length = i := by rw [List.length_take]; omega
  by_cases h : j < i
  · rw [if_pos h, List.getElem?_append_left (by omega), List.getElem?_take, if_pos h]
  · rw [if_neg h, List.getElem?_append_right (by omega), hl]
    by_cases e : j = i
    · subst e; simp
    · rw [if_neg e]
      obtain ⟨m, rfl⟩ : ∃ m, j = i + 1 + m := ⟨j - i - 1, by omega⟩
      rw [show i + 1 + m - i = m + 1 by omega, List.getElem?_cons_succ, List.getElem?_drop]
      congr 1; omega

/-! ### the library's functions on such a row -/

theorem lt_one {P : Nat → Prop} {x : Value} (h : P 0) : ∀ t, t < [x].length → P t := by
  intro t ht
  have : t = 0 := by simpa using ht
  subst this; exact h

theorem strs_one (l : List ByteArray) : ∀ v ∈ l.map Value.string, v.oneCell' = true := by
  intro v hv; obtain ⟨b, _, rfl⟩ := List.mem_map.1 hv; rfl

/-- What insert leaves: a row with one more, in the old one's block or in a new one. -/
def Inserted (W : World) (v : Value) (n : Nat) (xs : List Value) (e : Ending) (W' : World) : Prop :=
  ∃ g cap, e = .returned (.slice (some ⟨g, 0, none⟩) (n + 1) cap) ∧ W'.ownsRow 0 9 1 (.slice (some ⟨g, 0, none⟩) (n + 1) cap) (n + 1) xs ∧ W.grownBy W' v.ownBlock ∧ (v.ownBlock = some g ∨ W.heap.size ≤ g)

theorem insert_any (W : World) (v : Value) (n i vb : Nat) (xs : List ByteArray) (x : ByteArray) (h : W.ownsRow 0 9 1 v n (xs.map Value.string)) (hi : i ≤ n) (hn : n ≤ 10000)
    (hx : W.heap[vb]? = some (.cells #[.string x] 9 (0, 0))) (hvb : v.ownBlock ≠ some vb) :
    Calls Try.prog 37 #[v, .int .i64 i, .slice (some ⟨vb, 0, none⟩) 1 1] W (Inserted W v n (xs.map Value.string |>.take i |>.append (.string x :: (xs.map Value.string).drop i))) := by
  have hl : (xs.map Value.string).length = n := by have := h.1; omega
  have hvs : ∀ j u, [Value.string x][j]? = some u → W.cell? ⟨vb, 0 + j, none⟩ = some u := by
    intro j u hu
    have : j = 0 := by have := (List.getElem?_eq_some_iff.1 hu).1; simpa using this
    subst this
    simp [World.cell?, hx]; simpa using hu
  have h1v : ∀ u ∈ [Value.string x], u.oneCell' = true := by intro u hu; rw [List.mem_singleton.1 hu]; rfl
  have h1c := strs_one xs
  have hlen : ((xs.map Value.string).take i ++ (.string x :: (xs.map Value.string).drop i)).length = n + 1 := by
    rw [List.length_append, List.length_cons, List.length_take, List.length_drop, hl]; omega
  show Calls _ _ _ _ (Inserted W v n ((xs.map Value.string).take i ++ (.string x :: (xs.map Value.string).drop i)))
  obtain ⟨ys, hys⟩ : ∃ ys, xs.map Value.string = ys := ⟨_, rfl⟩
  rw [hys] at hl h1c hlen h ⊢
  have hins := fun j => getElem?_ins ys (.string x) i j (by omega)
  rcases h.2 with ⟨rfl, rfl⟩ | ⟨g, cap, cur, rfl, hbg, hg, hnc, hcm, hcs, htake⟩
  · obtain rfl : i = 0 := by omega
    have hy0 : ys = [] := List.eq_nil_of_length_eq_zero hl
    subst hy0
    refine (Go.Proofs.Any2.slices_Insert_string_end_grow laysInsert none 0 0 vb 0 1 1 [] [.string x] W (by omega) (by omega) (by omega) (by omega) rfl rfl (fun _ => rfl) (fun a ha => by cases ha) hvs h1v).mono ?_
    rintro e W' ⟨rfl, rfl⟩
    have hgc : 0 + 1 ≤ grownCap W (0 + 1) 0 (laysInsert_ren.t 9) := grownCap_ge _ _ _ _
    have hgm : grownCap W (0 + 1) 0 (laysInsert_ren.t 9) ≤ maxLen := grownCap_le_maxLen _ _ _ _ (by decide)
    obtain ⟨G, hG⟩ : ∃ G, grownCap W (0 + 1) 0 (laysInsert_ren.t 9) = G := ⟨_, rfl⟩
    rw [hG] at hgc hgm ⊢
    refine ⟨W.heap.size, G, rfl, ?_, ⟨rfl, rfl, rfl, by simp, fun k hk _ => heap_alloc_old W.drew _ k hk⟩, .inr (Nat.le_refl _)⟩
    refine ownsRow_cells (Nat.zero_le _) (heap_alloc_new W.drew _) ?_ hgc hgm rfl (fun j hj => ?_)
    · simp [size_zeroCells, Value.cells]; omega
    · have : j = 0 := by omega
      subst this
      rw [World.cell?_alloc_at (w := W.drew) _ _ W.heap.size 0 rfl, Array.getElem?_append_left (by simp)]; simp
  · have hcell : ∀ j u, ys[j]? = some u → W.cell? ⟨g, 0 + j, none⟩ = some u := by
      intro j u hu
      have := h.cells (g := g) rfl j u hu
      rwa [Addr.add_lit] at this
    have hcurs : cur.size = cap := by omega
    have hsome : ∀ j, j < cap → (W.cell? ⟨g, 0 + j, none⟩).isSome = true := by
      intro j hj
      rw [show W.cell? ⟨g, 0 + j, none⟩ = cur[j]? by simp [World.cell?, hg], Array.getElem?_eq_getElem (by omega)]; rfl
    have hfz : ∀ j, W.frozen? ⟨g, j, none⟩ = false := by intro j; simp [World.frozen?, hg]
    have hvg : vb ≠ g := fun e => hvb (by rw [e]; rfl)
    have hcm' : cap ≤ 9223372036854775807 := by unfold maxLen at hcm; omega
    by_cases hroom : n + 1 ≤ cap
    · by_cases hin : i = n
      · subst hin
        refine (Go.Proofs.Any2.slices_Insert_string_end_room laysInsert g 0 i cap vb 0 1 1 [.string x] W (by omega) hroom hcm' rfl (fun j hj => by rw [Nat.add_assoc]; exact hsome _ (by omega)) (fun j _ => hfz _) hvs h1v).mono ?_
        rintro e W' ⟨rfl, rfl⟩
        have hS : SameBut g W (W.setCells g (0 + i) [.string x]) := (SameBut.refl g W).setCells _ _
        refine ⟨g, cap, rfl, hS.owns (Nat.zero_le _) hg hcurs hroom hcm hlen (fun j hj => ?_), hS.grown, .inl rfl⟩
        rw [hins]
        by_cases hji : j < i
        · rw [if_pos hji, World.cell?_setCells_out _ _ _ _ _ (fun _ _ => .inl (by show j < _; omega)), List.getElem?_eq_getElem (by omega)]
          have := hcell j _ (List.getElem?_eq_getElem (by omega))
          rwa [Nat.zero_add] at this
        · obtain rfl : j = i := by omega
          rw [if_neg (by omega), if_pos rfl]
          have := World.cell?_setCells_in g [.string x] (0 + j) W (lt_one (hsome _ (by omega))) 0 (by simp)
          simpa using this
      · refine (Go.Proofs.Any2.slices_Insert_string_shift laysInsert g 0 n cap i vb 0 1 1 ys [.string x] W (by omega) (by omega) hroom hcm' hvg hl rfl hcell (fun j hj => hsome j (by omega)) (fun j _ => hfz _) hvs h1c h1v 9 9 1 cap ?_ ?_ (by omega) ?_ ?_).mono ?_
        · simp [World.shape?, hx]
        · simp [World.shape?, hg, hcurs]
        · simp [World.frozen?, hx]
        · simp [World.frozen?, hx]
        rintro e W' ⟨rfl, rfl⟩
        have hS1 : SameBut g W (W.drew.setCells g (0 + (i + 1)) (ys.drop i)) := (SameBut.refl g W).drew.setCells _ _
        have hS : SameBut g W ((W.drew.setCells g (0 + (i + 1)) (ys.drop i)).setCells g (0 + i) [.string x]) := hS1.setCells _ _
        have hdl : (ys.drop i).length = n - i := by rw [List.length_drop, hl]
        have hsome1 : ∀ j, j < cap → ((W.drew.setCells g (0 + (i + 1)) (ys.drop i)).cell? ⟨g, 0 + j, none⟩).isSome = true := fun j hj =>
          isSome_setCells _ _ _ _ (fun t ht => by rw [Nat.add_assoc]; exact hsome _ (by omega)) _ (hsome _ hj)
        refine ⟨g, cap, rfl, hS.owns (Nat.zero_le _) hg hcurs hroom hcm hlen (fun j hj => ?_), hS.grown, .inl rfl⟩
        rw [hins]
        by_cases hji : j < i
        · rw [if_pos hji, World.cell?_setCells_out _ _ _ _ _ (fun _ _ => .inl (by show j < _; omega)), World.cell?_setCells_out _ _ _ _ _ (fun _ _ => .inl (by show j < _; omega)), List.getElem?_eq_getElem (by omega)]
          have := hcell j _ (List.getElem?_eq_getElem (by omega))
          rwa [Nat.zero_add] at this
        · rw [if_neg hji]
          by_cases hje : j = i
          · subst hje
            rw [if_pos rfl]
            have := World.cell?_setCells_in g [.string x] (0 + j) _ (lt_one (hsome1 _ (by omega))) 0 (by simp)
            simpa using this
          · rw [if_neg hje, World.cell?_setCells_out _ _ _ _ _ (fun _ _ => .inr (by show _ ≤ j; simp; omega))]
            obtain ⟨t, rfl⟩ : ∃ t, j = i + 1 + t := ⟨j - i - 1, by omega⟩
            have := World.cell?_setCells_in g (ys.drop i) (0 + (i + 1)) W.drew (fun t ht => by rw [Nat.add_assoc]; exact hsome _ (by omega)) t (by omega)
            rw [Nat.zero_add] at this
            rw [Nat.zero_add, this, ← List.getElem?_eq_getElem, List.getElem?_drop]
            congr 1; omega
    · have hgc : n + 1 ≤ grownCap W (n + 1) cap 9 := grownCap_ge _ _ _ _
      have hgm : grownCap W (n + 1) cap 9 ≤ maxLen := grownCap_le_maxLen _ _ _ _ (by unfold maxLen; omega)
      by_cases hin : i = n
      · subst hin
        refine (Go.Proofs.Any2.slices_Insert_string_end_grow laysInsert (some ⟨g, 0, none⟩) i cap vb 0 1 1 ys [.string x] W (by omega) hnc (by omega) (by omega) hl rfl (fun a => by cases a) (fun a ha j u hu => by cases ha; rw [Addr.add_lit]; exact hcell j u hu) hvs h1v).mono ?_
        rintro e W' ⟨rfl, rfl⟩
        have hGr : grownCap W (i + 1) cap (laysInsert_ren.t 9) = grownCap W (i + 1) cap 9 := rfl
        rw [hGr]
        refine ⟨W.heap.size, _, rfl, ?_, ⟨rfl, rfl, rfl, by simp, fun k hk _ => heap_alloc_old W.drew _ k hk⟩, .inr (Nat.le_refl _)⟩
        refine ownsRow_cells (Nat.zero_le _) (heap_alloc_new W.drew _) ?_ hgc hgm hlen (fun j hj => ?_)
        · simp [size_zeroCells, Value.cells, hl]; omega
        · rw [World.cell?_alloc_at (w := W.drew) _ _ W.heap.size j rfl, List.take_of_length_le (by omega), List.drop_of_length_le (by omega), Array.getElem?_append_left (by simp; omega)]
          simp
      · refine (Go.Proofs.Any2.slices_Insert_string_grow laysInsert g 0 n cap i vb 0 1 1 ys [.string x] W (by omega) (by omega) hnc (by omega) (by omega) hl rfl hcell hvs h1c h1v).mono ?_
        rintro e W' ⟨rfl, rfl⟩
        obtain ⟨G, hG⟩ : ∃ G, grownCap W (n + 1) cap 9 = G := ⟨_, rfl⟩
        have hGr : grownCap W (n + 1) cap (laysInsert_ren.t 9) = G := hG
        rw [hG] at hgc hgm
        simp only [hGr]
        obtain ⟨ROW, hROW⟩ : ∃ ROW : Array Value, (ys.take i).toArray ++ Builtin.zeroCells (Value.string ⟨#[]⟩).cells (n + 1 - i) ++ Builtin.zeroCells (Value.string ⟨#[]⟩).cells (G - (n + 1)) = ROW := ⟨_, rfl⟩
        have hRs : ROW.size = G := by
          rw [← hROW]; simp [size_zeroCells, Value.cells, hl]; omega
        have hR1 : ∀ j, j < i → ROW[j]? = ys[j]? := fun j hj => by
          rw [← hROW, Array.getElem?_append_left (by simp [size_zeroCells, Value.cells, hl]; omega), Array.getElem?_append_left (by simp [hl]; omega)]
          simp [hj]
        rw [hROW]
        have hA : (W.alloc (.cells ROW (laysInsert_ren.t 9))).heap[W.heap.size]? = some (.cells ROW 9 (0, 0)) := heap_alloc_new W _
        obtain ⟨A, hAe⟩ : ∃ A, W.alloc (.cells ROW (laysInsert_ren.t 9)) = A := ⟨_, rfl⟩
        have hAs : A.heap.size = W.heap.size + 1 := by rw [← hAe]; simp
        have hAb : ∀ k, k < W.heap.size → A.heap[k]? = W.heap[k]? := fun k hk => by rw [← hAe]; exact heap_alloc_old W _ k hk
        have hAo : A.os = W.os ∧ A.tape = W.tape ∧ A.output = W.output := by rw [← hAe]; exact ⟨rfl, rfl, rfl⟩
        rw [hAe] at hA ⊢
        clear hAe
        have hS1 : SameBut W.heap.size A ((A.drew.setCells W.heap.size i [.string x]).drew) := ((SameBut.refl _ A).drew.setCells _ _).drew
        have hS : SameBut W.heap.size A (((A.drew.setCells W.heap.size i [.string x]).drew).setCells W.heap.size (i + 1) (ys.drop i)) := hS1.setCells _ _
        have hdl : (ys.drop i).length = n - i := by rw [List.length_drop, hl]
        have hsA : ∀ j, j < G → (A.cell? ⟨W.heap.size, j, none⟩).isSome = true := fun j hj => by
          rw [show A.cell? ⟨W.heap.size, j, none⟩ = ROW[j]? by simp [World.cell?, hA], Array.getElem?_eq_getElem (by omega)]; rfl
        have hsB : ∀ j, j < G → (((A.drew.setCells W.heap.size i [.string x]).drew).cell? ⟨W.heap.size, j, none⟩).isSome = true := fun j hj =>
          isSome_setCells W.heap.size [.string x] i A.drew (lt_one (hsA _ (by omega))) _ (hsA j hj)
        refine ⟨W.heap.size, G, rfl, hS.owns (Nat.zero_le _) hA hRs hgc hgm hlen (fun j hj => ?_), ⟨hS.os.trans hAo.1, hS.tape.trans hAo.2.1, hS.output.trans hAo.2.2, by rw [hS.size]; omega, fun k hk _ => (hS.block k (by omega)).trans (hAb k hk)⟩, .inr (Nat.le_refl _)⟩
        rw [hins]
        by_cases hji : j < i
        · rw [if_pos hji, World.cell?_setCells_out _ _ _ _ _ (fun _ _ => .inl (by show j < _; omega))]
          show (A.drew.setCells W.heap.size i [.string x]).cell? _ = _
          rw [World.cell?_setCells_out _ _ _ _ _ (fun _ _ => .inl hji), show A.drew.cell? ⟨W.heap.size, j, none⟩ = ROW[j]? from (show A.cell? ⟨W.heap.size, j, none⟩ = ROW[j]? by simp [World.cell?, hA]), hR1 j hji]
        · rw [if_neg hji]
          by_cases hje : j = i
          · subst hje
            rw [if_pos rfl, World.cell?_setCells_out _ _ _ _ _ (fun _ _ => .inl (by show j < _; omega))]
            show (A.drew.setCells W.heap.size j [.string x]).cell? _ = _
            have := World.cell?_setCells_in W.heap.size [.string x] j A.drew (lt_one (hsA _ (by omega))) 0 (by simp)
            simpa using this
          · rw [if_neg hje]
            obtain ⟨t, rfl⟩ : ∃ t, j = i + 1 + t := ⟨j - i - 1, by omega⟩
            have := World.cell?_setCells_in W.heap.size (ys.drop i) (i + 1) ((A.drew.setCells W.heap.size i [.string x]).drew) (fun t ht => hsB _ (by omega)) t (by omega)
            rw [this, ← List.getElem?_eq_getElem, List.getElem?_drop]
            congr 1; omega

end Go.Proofs.Ytoflgkbjmbpdjaa
