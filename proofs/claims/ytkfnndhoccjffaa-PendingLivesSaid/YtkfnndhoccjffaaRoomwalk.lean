/-
  The statement PendingRoom's own function.
-/
import Derived.Test.YtkfnndhoccjffaaAwake14
namespace Go.Proofs.Ytkfnndhoccjffaa
open Go Go.RowKit
attribute [local go_sem ↓] Go.wp_at_zero Go.wp_at_succ

theorem len_is (B p most n : Nat) (E : List ED) (f : Nat → Prop) (W : World) (h : Rowp W B p most n E f) (c : Nat) (hc : E.length = c) :
    Calls Try.prog 15 #[.pointer (some ⟨p, 0, none⟩)] W fun e W' => e = .returned (.int .i64 c) ∧ W = W' := by
  subst hc; exact len_any B p most n E f W h
theorem room_is (B p most n : Nat) (E : List ED) (f : Nat → Prop) (W : World) (h : Rowp W B p most n E f) (c : Int) (hc : (most : Int) - E.length = c) :
    Calls Try.prog 16 #[.pointer (some ⟨p, 0, none⟩)] W fun e W' => e = .returned (.int .i64 c) ∧ Below W.heap.size W W' := by
  subst hc; exact room_any B p most n E f W h

def bares (m : Nat) : List ED := (List.range m).map (fun (j : Nat) => bareE ⟨0, (j : Int) + 1⟩)
def idsL (d : Nat) : List IdD := (List.range d).map (fun (j : Nat) => ⟨0, (j : Int) + 1⟩)
theorem bares_len (m : Nat) : (bares m).length = m := by simp [bares]
theorem idsL_len (m : Nat) : (idsL m).length = m := by simp [idsL]
theorem bares_succ (m : Nat) : bares (m + 1) = bares m ++ [bareE ⟨0, (m : Int) + 1⟩] := by simp [bares, List.range_succ]
theorem idsL_succ (m : Nat) : idsL (m + 1) = idsL m ++ [⟨0, (m : Int) + 1⟩] := by simp [idsL, List.range_succ]
theorem idsD_bares (m : Nat) : idsD (bares m) = idsL m := by simp [idsD, bares, idsL, bareE]
theorem mem_idsL {d : Nat} {a : IdD} : a ∈ idsL d ↔ a.o = 0 ∧ 1 ≤ a.s ∧ a.s ≤ d := by
  obtain ⟨o, s⟩ := a
  simp only [idsL, List.mem_map, List.mem_range, IdD.mk.injEq]
  constructor
  · rintro ⟨j, hj, rfl, rfl⟩; omega
  · rintro ⟨rfl, h1, h2⟩; exact ⟨(s - 1).toNat, by omega, rfl, by omega⟩

theorem room_ok (rm k : Nat) : okD rm (bares (min k rm)) (bareE ⟨0, (k : Int) + 1⟩) = decide (k + 1 ≤ rm) := by
  unfold okD
  rw [bares_len, idsD_bares, show (bareE ⟨0, (k : Int) + 1⟩).id = ⟨0, (k : Int) + 1⟩ from rfl]
  have hm : ¬ (⟨0, (k : Int) + 1⟩ : IdD) ∈ idsL (min k rm) := by rw [mem_idsL]; simp only; omega
  rw [decide_eq_false hm]
  by_cases h : k + 1 ≤ rm
  · rw [decide_eq_true h, decide_eq_true (by omega)]; rfl
  · rw [decide_eq_false h, decide_eq_false (by omega)]; rfl
theorem room_add (rm k : Nat) : addD rm (bares (min k rm)) (bareE ⟨0, (k : Int) + 1⟩) = bares (min (k + 1) rm) := by
  unfold addD
  rw [room_ok]
  by_cases h : k + 1 ≤ rm
  · rw [decide_eq_true h, if_pos rfl, show min k rm = k by omega, show min (k + 1) rm = k + 1 by omega, bares_succ]
  · rw [decide_eq_false h, show min k rm = rm by omega, show min (k + 1) rm = rm by omega]; rfl

theorem less_bares (d : Nat) : ∀ m : Nat, (withoutD (bares m) (idsL d)).length = m - min d m
  | 0 => by simp [bares, withoutD]
  | m + 1 => by
    have ih := less_bares d m
    rw [bares_succ]
    unfold withoutD at ih ⊢
    rw [List.filter_append, List.length_append, ih]
    by_cases h : (m : Int) + 1 ≤ d
    · have hm : (bareE ⟨0, (m : Int) + 1⟩).id ∈ idsL d := mem_idsL.2 ⟨rfl, by show (1 : Int) ≤ (m : Int) + 1; omega, h⟩
      simp only [List.filter_cons, List.filter_nil, decide_eq_true hm, Bool.not_true, Bool.false_eq_true, if_false, List.length_nil]
      omega
    · have hm : ¬ (bareE ⟨0, (m : Int) + 1⟩).id ∈ idsL d := fun hm => h (mem_idsL.1 hm).2.2
      simp only [List.filter_cons, List.filter_nil, decide_eq_false hm, Bool.not_false, if_true, List.length_cons, List.length_nil]
      omega

/-- What the last adds of PendingRoom have made. -/
def More (rm c k : Nat) (E : List ED) : Prop := E.length = min (c + k) rm ∧ ∀ e ∈ E, e.id.o = 0 ∨ e.id.s < k
theorem More.next {rm c k : Nat} {E : List ED} (h : More rm c k E) : More rm c (k + 1) (addD rm E (bareE ⟨1, k⟩)) := by
  obtain ⟨h1, h2⟩ := h
  have hm : ¬ (bareE ⟨1, (k : Int)⟩).id ∈ idsD E := by
    intro hm
    obtain ⟨e, he, hi⟩ := List.mem_map.1 hm
    have hi' : e.id = ⟨1, (k : Int)⟩ := hi
    rcases h2 e he with h | h
    · rw [hi'] at h; simp at h
    · rw [hi'] at h; simp at h
  have h3 : ∀ e ∈ E, e.id.o = 0 ∨ e.id.s < ((k + 1 : Nat) : Int) := fun e he => (h2 e he).imp id (fun h => by omega)
  unfold addD okD
  rw [decide_eq_false hm]
  by_cases hl : E.length < rm
  · rw [decide_eq_true hl]
    refine ⟨by simp; omega, fun e he => ?_⟩
    rcases List.mem_append.1 he with h | h
    · exact h3 e h
    · rw [List.mem_singleton.1 h]; right; show (k : Int) < _; omega
  · rw [decide_eq_false hl]
    exact ⟨by simp; omega, h3⟩

theorem info_id_news (W : World) (a : IdD) : ∀ j u, [Value.int .i64 a.o, Value.int .i64 a.s][j]? = some u → (W.alloc (.cells #[.int .i64 a.o, .int .i64 a.s] 34)).cell? ((⟨W.heap.size, 0, none⟩ : Addr).add j) = some u :=
  World.news_of_block (cs := #[.int .i64 a.o, .int .i64 a.s]) (World.alloc_heap_new W _)

/-- Names are appended beside a row. -/
theorem Rowp.beside {W W' : World} {B p most n : Nat} {E : List ED} {f : Nat → Prop} {v : Value} {size k : Nat} {xs : List Value} (h : Rowp W B p most n E f) (hL : Lot W 34 size v k xs) (hg : W.grownBy W' v.ownBlock) : Rowp W' B p most n E f := by
  obtain ⟨R, ev, b, h⟩ := h
  refine ⟨R, ev, b, h.apart (g := fun j => v.ownBlock = some j) (g' := fun _ => False) ⟨hg.os, hg.tape, hg.output, hg.size, fun j hj hn => hg.block j hj (fun e => hn e.symm), fun _ h => h.elim⟩ (fun j hfj hj => ?_) (fun j hj cs t hc => ?_)⟩
  · obtain ⟨cur, hc⟩ := hL.tag hj
    rw [h.foot] at hfj
    rcases hfj with rfl | hfj | rfl
    · rw [h.own] at hc; cases hc
    · obtain ⟨cur', hc'⟩ := h.lot.tag hfj
      rw [hc'] at hc; cases hc
    · obtain ⟨es, c, hc'⟩ := h.names.tag
      rw [hc'] at hc; cases hc
  · obtain ⟨cur, hc'⟩ := hL.tag hj
    rw [hc'] at hc; cases hc; exact ⟨by decide, by decide⟩
theorem Lot.none' (W : World) (e : TypeId) (size : Nat) : Lot (W.alloc (.cells #[] e)) e size (.slice (some ⟨W.heap.size, 0, none⟩) 0 0) 0 [] :=
  ⟨by simp, .inr ⟨W.heap.size, 0, #[], rfl, World.alloc_heap_new W _, Nat.le_refl _, Nat.zero_le _, by simp, by simp⟩⟩

/-- Between two rounds: the row, and that nothing that lay at first has turned. -/
def RoomI (B p rm n : Nat) (W : World) (Q : List ED → Prop) (X : World) : Prop := ∃ E f, Rowp X B p rm n E f ∧ Q E ∧ Below B W X
theorem Rowp.base {W : World} {B p most n : Nat} {E : List ED} {f : Nat → Prop} (h : Rowp W B p most n E f) : ∀ k, k < B → ¬ f k := by
  obtain ⟨R, ev, b, h⟩ := h
  intro k hk hf; have := h.base k hf; omega
theorem Rowp.size {W : World} {B p most n : Nat} {E : List ED} {f : Nat → Prop} (h : Rowp W B p most n E f) : B ≤ W.heap.size := by
  obtain ⟨R, ev, b, h⟩ := h
  exact Nat.le_trans h.bp (Nat.le_of_lt h.plt)
theorem RoomI.below {B p rm n : Nat} {W X Y : World} {Q : List ED → Prop} (h : RoomI B p rm n W Q X) (hb : Below X.heap.size X Y) : RoomI B p rm n W Q Y := by
  obtain ⟨E, f, h1, h2, h3⟩ := h; exact ⟨E, f, h1.below hb, h2, h3.trans (hb.mono h1.size)⟩
theorem RoomI.step {B p rm n n' : Nat} {W X Y : World} {Q' : List ED → Prop} {E E' : List ED} {f f' : Nat → Prop} (h1 : Rowp X B p rm n E f) (h3 : Below B W X) (h : Rowp Y B p rm n' E' f') (hs : Step f f' X Y) (hq : Q' E') : RoomI B p rm n' W Q' Y :=
  ⟨E', f', h, hq, h3.trans (hs.below h1.size h1.base)⟩

/-- A row, and beside it the first names. -/
structure IdsI (B p rm n : Nat) (W : World) (Q : List ED → Prop) (L : List IdD) (lv : Value) (X : World) : Prop where
  row : RoomI B p rm n W Q X
  lot : Lot X 34 2 lv L.length (flatI L)
  base : ∀ j, lv.ownBlock = some j → B ≤ j
theorem RoomI.size {B p rm n : Nat} {W X : World} {Q : List ED → Prop} (h : RoomI B p rm n W Q X) : B ≤ X.heap.size := by
  obtain ⟨E, f, h1, _⟩ := h; exact h1.size
theorem IdsI.start {B p rm n : Nat} {W X : World} {Q : List ED → Prop} (h : RoomI B p rm n W Q X) : IdsI B p rm n W Q [] (.slice (some ⟨X.heap.size, 0, none⟩) 0 0) (X.alloc (.cells #[] 34)) :=
  ⟨h.below (below_alloc X _), Lot.none' X _ 2, fun j hj => by
    obtain rfl : X.heap.size = j := by simpa [Value.ownBlock] using hj
    exact h.size⟩
theorem IdsI.below {B p rm n : Nat} {W X Y : World} {Q : List ED → Prop} {L : List IdD} {lv : Value} (h : IdsI B p rm n W Q L lv X) (hb : Below X.heap.size X Y) : IdsI B p rm n W Q L lv Y := ⟨h.row.below hb, h.lot.below hb, h.base⟩
theorem IdsI.next {B p rm n : Nat} {W X w' : World} {Q : List ED → Prop} {L : List IdD} {lv : Value} {o : Obj} {a : IdD} {g cap m : Nat} (h : IdsI B p rm n W Q L lv X) (hm : L.length = m)
    (hL : Lot w' 34 2 (.slice (some ⟨g, 0, none⟩) (m + 1) cap) (m + 1) (flatI L ++ [.int .i64 a.o, .int .i64 a.s])) (hg : (X.alloc o).grownBy w' lv.ownBlock) (hat : lv.ownBlock = some g ∨ g = (X.alloc o).heap.size) :
    IdsI B p rm n W Q (L ++ [a]) (.slice (some ⟨g, 0, none⟩) (m + 1) cap) w' := by
  subst hm
  have h2 := h.below (below_alloc X o)
  obtain ⟨E, f, h3, h4, h5⟩ := h2.row
  refine ⟨⟨E, f, h3.beside h2.lot hg, h4, h5.grown hg h3.size (fun k e => h2.base k e)⟩, by rw [flatI_snoc, List.length_append]; exact hL, fun j hj => ?_⟩
  obtain rfl : g = j := by simpa [Value.ownBlock] using hj
  rcases hat with h0 | h0
  · exact h2.base _ h0
  · rw [h0]; exact h3.size
theorem IdsI.turn {B p rm n n' : Nat} {W X Y : World} {Q' : List ED → Prop} {L : List IdD} {lv : Value} {E E' : List ED} {f f' : Nat → Prop} (h1 : Rowp X B p rm n E f) (h3 : Below B W X) (hL : Lot X 34 2 lv L.length (flatI L)) (hB : ∀ j, lv.ownBlock = some j → B ≤ j)
    (h : Rowp Y B p rm n' E' f') (hs : Step f f' X Y) (hq : Q' E') : IdsI B p rm n' W Q' L lv Y := by
  refine ⟨RoomI.step h1 h3 h hs hq, hL.stays (fun k hk => hs.block k (hL.lt k hk) (fun hfk => ?_)), hB⟩
  obtain ⟨cur, hc⟩ := hL.tag hk
  obtain ⟨R, ev, b, h1⟩ := h1
  rw [h1.foot] at hfk
  rcases hfk with rfl | hfk | rfl
  · rw [h1.own] at hc; cases hc
  · obtain ⟨cur', hc'⟩ := h1.lot.tag hfk
    rw [hc'] at hc; cases hc
  · obtain ⟨es, c, hc'⟩ := h1.names.tag
    rw [hc'] at hc; cases hc

theorem small_ids (d : Nat) (hd : d ≤ 1000) : ∀ a ∈ idsL d, a.fits := fun a ha => by
  obtain ⟨h1, h2, h3⟩ := mem_idsL.1 ha
  exact ⟨by omega, by omega⟩

end Go.Proofs.Ytkfnndhoccjffaa
