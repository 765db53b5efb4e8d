/-
  What an act is as a text: its words, and what lies in the middle of the making.
-/
import Derived.Test.YtlgjolajnddpbaaDoorRquote
import Derived.Test.YtlgjolajnddpbaaDoorAct
import Derived.Test.YtlgjolajnddpbaaDoorLot
import Derived.Deep.RegionHeld3
namespace Go.Proofs.YtlgjolajnddpbaaDoor
open Go Go.Shelf Go.RowKit

/-- The words of an act that may be. -/
def partsA (x : ActD) : List ByteArray :=
  nameA x.kind.toNat :: (if x.kind = 1 ∨ x.kind = 10 then [digN x.block, digN x.cell.toNat] else if x.kind = 2 ∨ x.kind = 4 then [digN x.block, digN x.cell.toNat, digN x.new.toNat]
    else if x.kind = 3 then [digN x.block, digN x.cell.toNat, digN x.old.toNat, digN x.new.toNat] else if x.kind = 5 then [digN x.cell.toNat, quoteB x.text]
    else if x.kind = 6 ∨ x.kind = 7 then [digN x.block] else [])
def lineB (l : List ByteArray) : ByteArray := ⟨(Lib.join (l.map (·.data.toList)) (⟨#[32]⟩ : ByteArray).data.toList).toArray⟩
/-- An act's text. -/
def textA (x : ActD) : ByteArray := if rightA x then lineB (partsA x) else ⟨#[]⟩

theorem str_info : (Tryd.prog.info? 9).map (fun i => (i.zero, i.size, i.bytes)) = some (some (.string ⟨#[]⟩), 1, 16) := by kernel_rfl
theorem drew_below' {B : Nat} {a w : World} (h : Below B a w) : Below B a w.drew := ⟨h.os, h.tape, h.output, h.size, h.block⟩
theorem below_to {a w w' : World} {B : Nat} (h : Below B a w) (k : Below w.heap.size w w') (hB : B ≤ w.heap.size) : Below B a w' := h.trans (k.mono hB)

theorem join_small (M : Nat) : ∀ (l : List ByteArray), (∀ p ∈ l, p.size ≤ M) → (Lib.join (l.map (·.data.toList)) (⟨#[32]⟩ : ByteArray).data.toList).length ≤ l.length * (M + 1)
  | [], _ => by simp [Lib.join_nil]
  | a :: t, h => by
    have ha : a.data.toList.length ≤ M := by rw [Array.length_toList]; exact h a (by simp)
    have ht : ∀ (r : List ByteArray), (∀ p ∈ r, p.size ≤ M) → (Lib.joinTail (⟨#[32]⟩ : ByteArray).data.toList (r.map (·.data.toList))).length ≤ r.length * (M + 1) := by
      intro r
      induction r with
      | nil => intro _; simp [Lib.joinTail]
      | cons b u ih =>
        intro hr
        have h1 := ih (fun p hp => hr p (by simp [hp]))
        have h2 : b.data.toList.length ≤ M := by rw [Array.length_toList]; exact hr b (by simp)
        have e : Lib.joinTail (⟨#[32]⟩ : ByteArray).data.toList ((b :: u).map (·.data.toList)) = ((⟨#[32]⟩ : ByteArray).data.toList ++ b.data.toList) ++ Lib.joinTail (⟨#[32]⟩ : ByteArray).data.toList (u.map (·.data.toList)) := by simp [Lib.joinTail]
        have e1 : ((⟨#[32]⟩ : ByteArray).data.toList).length = 1 := rfl
        have e2 : (b :: u).length = u.length + 1 := rfl
        rw [e, List.length_append, List.length_append, e1, e2, Nat.succ_mul]
        omega
    rw [List.map_cons, Lib.join_cons, List.length_append, List.length_cons, Nat.succ_mul]
    have := ht t (fun p hp => h p (by simp [hp]))
    omega
theorem name_size (i : Nat) : (nameA i).size ≤ 6 := by
  by_cases h : i < 11
  · have : i = 0 ∨ i = 1 ∨ i = 2 ∨ i = 3 ∨ i = 4 ∨ i = 5 ∨ i = 6 ∨ i = 7 ∨ i = 8 ∨ i = 9 ∨ i = 10 := by omega
    rcases this with rfl | rfl | rfl | rfl | rfl | rfl | rfl | rfl | rfl | rfl | rfl <;> decide
  · unfold nameA
    rw [List.getD_eq_getElem?_getD, List.getElem?_eq_none (by simp; omega)]
    decide
theorem quoteB_size (s : ByteArray) (h : s.size ≤ 4096) : (quoteB s).size ≤ 12289 := by
  have e : (quoteB s).size = (quoteL s.data.toList).length := by simp [quoteB, ByteArray.size]
  rw [e]
  have h1 : s.data.toList.length ≤ 4096 := by rw [Array.length_toList]; exact h
  have h2 := quote_len s.data.toList
  unfold quoteL
  split
  · simp
  · omega

theorem lot_one (W : World) (s : ByteArray) : Lot (W.alloc (.cells #[.string s] 9)) 9 1 (.slice (some ⟨W.heap.size, 0, none⟩) 1 1) 1 [.string s] :=
  ⟨rfl, .inr ⟨W.heap.size, 1, #[.string s], rfl, World.alloc_heap_new W _, Nat.le_refl _, by decide, by simp, by simp⟩⟩

theorem join_lot (W : World) (g cap n : Nat) (l : List ByteArray) (hn : l.length = n) (h0 : 0 < n) (h4 : n ≤ 1000) (h : Lot W 9 1 (.slice (some ⟨g, 0, none⟩) n cap) n (l.map .string)) (hlen : (Lib.join (l.map (·.data.toList)) (⟨#[32]⟩ : ByteArray).data.toList).length ≤ 140737488355328) :
    Calls Tryd.prog 51 #[.slice (some ⟨g, 0, none⟩) n cap, .string ⟨#[32]⟩] W fun e W' => e = .returned (.string (lineB l)) ∧ Below W.heap.size W W' := by
  subst hn
  obtain ⟨g', cap', e, hc⟩ := h.cells h0
  cases e
  have hg : g < W.heap.size := h.lt g rfl
  have hcap : l.length ≤ cap := by
    rcases h.2 with ⟨e, _⟩ | ⟨g1, cap1, cur, e, _, h1, _⟩
    · cases e
    · cases e; exact h1
  refine (Any.strings_Join lays156 Extra156 g 0 cap l ⟨#[32]⟩ W (fun j x hx => ?_) hg (by omega) hcap hlen)
  rw [Nat.zero_add]
  exact hc j (.string x) (by rw [List.getElem?_map, hx]; rfl)
/-- What lies in the middle of Text: what was asked, all that lay. -/
structure Mid (W : World) (k b cn on nn : Nat) (t : ByteArray) (X : World) : Prop where
  lo : Below W.heap.size W X
  bx : X.heap[W.heap.size]? = some (.cells #[.int .i64 (k : Int), .int .u64 (b : Int), .int .i64 (cn : Int), .int .u64 (on : Int), .int .u64 (nn : Int), .string t] 34 (0, 0))
theorem Mid.below {W X Y : World} {k b cn on nn : Nat} {t : ByteArray} (h : Mid W k b cn on nn t X) (hb : Below X.heap.size X Y) : Mid W k b cn on nn t Y :=
  ⟨h.lo.trans (hb.mono h.lo.size), (hb.block _ (heap_at_lt h.bx)).trans h.bx⟩
theorem Mid.cells {W X : World} {k b cn on nn : Nat} {t : ByteArray} (h : Mid W k b cn on nn t X) : X.cell? ⟨W.heap.size, 0, none⟩ = some (.int .i64 (k : Int)) ∧ X.cell? ⟨W.heap.size, 1, none⟩ = some (.int .u64 (b : Int)) ∧ X.cell? ⟨W.heap.size, 2, none⟩ = some (.int .i64 (cn : Int)) ∧ X.cell? ⟨W.heap.size, 3, none⟩ = some (.int .u64 (on : Int)) ∧ X.cell? ⟨W.heap.size, 4, none⟩ = some (.int .u64 (nn : Int)) ∧ X.cell? ⟨W.heap.size, 5, none⟩ = some (.string t) :=
  ⟨(cell_of h.bx).trans rfl, (cell_of h.bx).trans rfl, (cell_of h.bx).trans rfl, (cell_of h.bx).trans rfl, (cell_of h.bx).trans rfl, (cell_of h.bx).trans rfl⟩
theorem Mid.start (W : World) (k b cn on nn : Nat) (t : ByteArray) : Mid W k b cn on nn t (W.alloc (.cells #[.int .i64 (k : Int), .int .u64 (b : Int), .int .i64 (cn : Int), .int .u64 (on : Int), .int .u64 (nn : Int), .string t] 34)) :=
  ⟨below_alloc W _, World.alloc_heap_new W _⟩
theorem Mid.row {W X : World} {k b cn on nn : Nat} {t : ByteArray} (h : Mid W k b cn on nn t X) : W.heap.size < X.heap.size := heap_at_lt h.bx

theorem Mid.grown {W X Y : World} {k b cn on nn r : Nat} {t : ByteArray} (h : Mid W k b cn on nn t X) (hg : X.grownBy Y (some r)) (hr : W.heap.size < r) : Mid W k b cn on nn t Y :=
  ⟨h.lo.grown hg h.lo.size (fun j hj => by cases hj; omega), (hg.block _ h.row (fun e => by cases e; omega)).trans h.bx⟩

end Go.Proofs.YtlgjolajnddpbaaDoor
