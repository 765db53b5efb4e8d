/-
  A row of acts as it lies; a routine that does them: what it tells, and what it takes.
-/
import Derived.Test.YtpbkfmdbpihhpaaActready
import Derived.Test.YtpbkfmdbpihhpaaHeldo
namespace Go.Proofs.Ytpbkfmdbpihhpaa
open Go Go.RowKit
attribute [local go_sem ↓] Go.wp_at_zero Go.wp_at_succ

theorem results_cell2 {fn : Func} {p q : Tmp} {ty : TypeId} (h : fn.results = #[.cell p ty, .tmp q]) (tmps : Array Value) (P : Program) (w : World) :
    (results fn tmps).run P w = ((asAddr (tmps.getD p undef)).run P w).andThen fun a w₁ => ((loadVar ty a).run P w₁).andThen fun v w₂ => .ok (.tuple #[v, tmps.getD q undef]) w₂ := by
  simp [results, h]
theorem results_cell3 {fn : Func} {p q r : Tmp} {ty : TypeId} (h : fn.results = #[.cell p ty, .tmp q, .tmp r]) (tmps : Array Value) (P : Program) (w : World) :
    (results fn tmps).run P w = ((asAddr (tmps.getD p undef)).run P w).andThen fun a w₁ => ((loadVar ty a).run P w₁).andThen fun v w₂ => .ok (.tuple #[v, tmps.getD q undef, tmps.getD r undef]) w₂ := by
  simp [results, h]

/-- What the reference's New leaves. -/
def NewF (cl : Nat) (W : World) (e : Ending) (W' : World) : Prop := e = .returned (.agg #[.int .i64 cl, .slice none 0 0, .bool false]) ∧ Below W.heap.size W W'
/-- At p, a slice's address, these acts lie. -/
def Sa (W : World) (p : Option Addr) (L : List ActD) : Prop :=
  ∀ j (h : j < L.length), ∃ b o, p = some ⟨b, o, none⟩ ∧ W.cell? ⟨b, o + j * 6, none⟩ = some (.int .i64 L[j].kind) ∧ W.cell? ⟨b, o + j * 6 + 1, none⟩ = some (.int .u64 (L[j].block : Int)) ∧ W.cell? ⟨b, o + j * 6 + 2, none⟩ = some (.int .i64 L[j].cell) ∧ W.cell? ⟨b, o + j * 6 + 3, none⟩ = some (.int .u64 L[j].old) ∧ W.cell? ⟨b, o + j * 6 + 4, none⟩ = some (.int .u64 L[j].new) ∧ W.cell? ⟨b, o + j * 6 + 5, none⟩ = some (.string L[j].text)
theorem Sa.nil (W : World) (p : Option Addr) : Sa W p [] := fun _ h => absurd h (Nat.not_lt_zero _)
theorem Sa.grow {W W' : World} {p : Option Addr} {L : List ActD} (h : Sa W p L) (hb : Below W.heap.size W W') : Sa W' p L := fun j hj => by
  obtain ⟨b, o, rfl, c1, c2, c3, c4, c5, c6⟩ := h j hj
  exact ⟨b, o, rfl, (hb.cell (p := ⟨b, _, none⟩) (cell_lt c1)).trans c1, (hb.cell (p := ⟨b, _, none⟩) (cell_lt c2)).trans c2, (hb.cell (p := ⟨b, _, none⟩) (cell_lt c3)).trans c3, (hb.cell (p := ⟨b, _, none⟩) (cell_lt c4)).trans c4, (hb.cell (p := ⟨b, _, none⟩) (cell_lt c5)).trans c5, (hb.cell (p := ⟨b, _, none⟩) (cell_lt c6)).trans c6⟩

/-- Answers, as their cells stand. -/
def flatG (G : List (Int × ByteArray)) : List Value := G.flatMap fun g => [.int .u64 g.1, .string g.2]
theorem flatG_snoc (G : List (Int × ByteArray)) (w : Int) (t : ByteArray) : flatG (G ++ [(w, t)]) = flatG G ++ [.int .u64 w, .string t] := by simp [flatG]
theorem flatG_len (G : List (Int × ByteArray)) : (flatG G).length = G.length * 2 := by
  induction G with
  | nil => rfl
  | cons a t ih =>
    have : flatG (a :: t) = [.int .u64 a.1, .string a.2] ++ flatG t := rfl
    rw [this, List.length_append, ih, List.length_cons]
    simp only [List.length_cons, List.length_nil]
    omega

/-- At r lies a routine: its acts' slice, at which it stands, what it was answered. -/
structure RowAt (W : World) (B r : Nat) (lv : Value) (k : Nat) (G : List (Int × ByteArray)) (fr : Nat → Prop) (gv : Value) : Prop where
  own : W.heap[r]? = some (.cells #[lv, .int .i64 (k : Int), gv] 30 (0, 0))
  lot : Lot W 42 2 gv G.length (flatG G)
  foot : fr = fun j => j = r ∨ gv.ownBlock = some j
  base : ∀ j, fr j → B ≤ j
def Row (W : World) (B r : Nat) (lv : Value) (k : Nat) (G : List (Int × ByteArray)) (fr : Nat → Prop) : Prop := ∃ gv, RowAt W B r lv k G fr gv
section
variable {W W' : World} {B r : Nat} {lv gv : Value} {k : Nat} {G : List (Int × ByteArray)} {fr : Nat → Prop}
theorem RowAt.self (h : RowAt W B r lv k G fr gv) : fr r := by rw [h.foot]; exact .inl rfl
theorem RowAt.lt (h : RowAt W B r lv k G fr gv) : ∀ j, fr j → j < W.heap.size := by
  intro j hj
  rw [h.foot] at hj
  rcases hj with rfl | hj
  · exact heap_at_lt h.own
  · exact h.lot.lt _ hj
theorem RowAt.stays (h : RowAt W B r lv k G fr gv) (hs : ∀ j, fr j → W'.heap[j]? = W.heap[j]?) : RowAt W' B r lv k G fr gv :=
  ⟨(hs r h.self).trans h.own, h.lot.stays (fun j hj => hs j (by rw [h.foot]; exact .inr hj)), h.foot, h.base⟩
theorem RowAt.below (h : RowAt W B r lv k G fr gv) (hb : Below W.heap.size W W') : RowAt W' B r lv k G fr gv := h.stays (fun j hj => hb.block j (h.lt j hj))
theorem RowAt.apart (h : RowAt W B r lv k G fr gv) : gv.ownBlock ≠ some r := fun e => by
  obtain ⟨cur, hc⟩ := h.lot.tag e
  rw [h.own] at hc
  have := (Obj.cells.inj (Option.some.inj hc)).2.1
  exact absurd this (by decide)
theorem RowAt.cells (h : RowAt W B r lv k G fr gv) : W.cell? ⟨r, 0, none⟩ = some lv ∧ W.cell? ⟨r, 1, none⟩ = some (.int .i64 (k : Int)) ∧ W.cell? ⟨r, 2, none⟩ = some gv ∧ W.frozen? ⟨r, 0, none⟩ = false ∧ W.frozen? ⟨r, 1, none⟩ = false ∧ W.frozen? ⟨r, 2, none⟩ = false :=
  ⟨(cell_of h.own).trans rfl, (cell_of h.own).trans rfl, (cell_of h.own).trans rfl, by simp [World.frozen?, h.own], by simp [World.frozen?, h.own], by simp [World.frozen?, h.own]⟩
theorem Row.stays (h : Row W B r lv k G fr) (hs : ∀ j, fr j → W'.heap[j]? = W.heap[j]?) : Row W' B r lv k G fr := by obtain ⟨gv, h⟩ := h; exact ⟨gv, h.stays hs⟩
theorem Row.lt (h : Row W B r lv k G fr) : ∀ j, fr j → j < W.heap.size := by obtain ⟨gv, h⟩ := h; exact h.lt
theorem Row.below (h : Row W B r lv k G fr) (hb : Below W.heap.size W W') : Row W' B r lv k G fr := h.stays (fun j hj => hb.block j (h.lt j hj))
end

/-- What Act tells: an act, and whether there is one. -/
abbrev zeroV : Value := actV 0 0 0 0 0 ⟨#[]⟩
abbrev actOf (x : ActD) : Value := actV x.kind x.block x.cell x.old x.new x.text

set_option maxRecDepth 100000 in
set_option maxHeartbeats 2000000 in
theorem rowact_some {W : World} {B r k c : Nat} {la : Option Addr} {L : List ActD} {G : List (Int × ByteArray)} {fr : Nat → Prop} (h : Row W B r (.slice la L.length c) k G fr) (hS : Sa W la L) (hk : k < L.length) (hn : L.length ≤ maxLen) :
    Calls Try.prog 52 #[.pointer (some ⟨r, 0, none⟩)] W fun e W' => e = .returned (.tuple #[actOf L[k], .bool true]) ∧ Below W.heap.size W W' := by
  obtain ⟨gv, h⟩ := h
  obtain ⟨c0, c1, c2, -, -, -⟩ := h.cells
  obtain ⟨b, o, rfl, d0, d1, d2, d3, d4, d5⟩ := hS k hk
  obtain ⟨x, hx⟩ : ∃ x, L[k] = x := ⟨_, rfl⟩
  rw [hx] at d0 d1 d2 d3 d4 d5 ⊢
  obtain ⟨n, hn'⟩ : ∃ n, L.length = n := ⟨_, rfl⟩
  rw [hn'] at c0 hk hn
  have hk0 : (0 : Int) ≤ (k : Int) := by omega
  have hk1 : (k : Int) < (n : Int) := by omega
  have hn1 : (n : Int) ≤ 9223372036854775807 := by simp [maxLen] at hn; omega
  have hge : decide ((n : Int) ≤ (k : Int)) = false := decide_eq_false (by omega)
  have hmix : Try.prog.follows .mixedOrders = true := by kernel_rfl
  have HC := Lib.hid (fun (X : World) (hX : Below W.heap.size W X) => (show X.cell? ⟨r, 0, none⟩ = some (.slice (some ⟨b, o, none⟩) n c) ∧ X.cell? ⟨r, 1, none⟩ = some (.int .i64 (k : Int)) ∧ X.cell? ⟨b, o + k * 6, none⟩ = some (.int .i64 x.kind) ∧ X.cell? ⟨b, o + k * 6 + 1, none⟩ = some (.int .u64 (x.block : Int)) ∧ X.cell? ⟨b, o + k * 6 + 2, none⟩ = some (.int .i64 x.cell) ∧
      X.cell? ⟨b, o + k * 6 + 3, none⟩ = some (.int .u64 x.old) ∧ X.cell? ⟨b, o + k * 6 + 4, none⟩ = some (.int .u64 x.new) ∧ X.cell? ⟨b, o + k * 6 + 5, none⟩ = some (.string x.text) from
    ⟨(hX.cell (p := ⟨r, _, none⟩) (cell_lt c0)).trans c0, (hX.cell (p := ⟨r, _, none⟩) (cell_lt c1)).trans c1, (hX.cell (p := ⟨b, _, none⟩) (cell_lt d0)).trans d0, (hX.cell (p := ⟨b, _, none⟩) (cell_lt d1)).trans d1, (hX.cell (p := ⟨b, _, none⟩) (cell_lt d2)).trans d2, (hX.cell (p := ⟨b, _, none⟩) (cell_lt d3)).trans d3, (hX.cell (p := ⟨b, _, none⟩) (cell_lt d4)).trans d4, (hX.cell (p := ⟨b, _, none⟩) (cell_lt d5)).trans d5⟩))
  have HL := Lib.hid (And.intro (cell_lt c0) (cell_lt d0))
  clear h hS hx hn' hn hk c0 c1 c2 d0 d1 d2 d3 d4 d5
  go_enter Try.func52, Try.ntmps52
  go_wp2_with fail
  have HB := Lib.hid (below_alloc W (.cells #[.int .i64 0, .int .u64 0, .int .i64 0, .int .u64 0, .int .u64 0, .string ⟨#[]⟩] 40))
  have HN := Lib.hid (World.alloc_heap_new W (.cells #[.int .i64 0, .int .u64 0, .int .i64 0, .int .u64 0, .int .u64 0, .string ⟨#[]⟩] 40))
  generalize W.alloc (.cells #[.int .i64 0, .int .u64 0, .int .i64 0, .int .u64 0, .int .u64 0, .string ⟨#[]⟩] 40) = X1 at HB HN ⊢
  obtain ⟨c0, c1, d0, d1, d2, d3, d4, d5⟩ := HC.out _ HB.out
  go_quiet (fail)
  rename_i nq
  have HB2 := Lib.hid (HB.out.trans ((below_draws X1 nq).mono HB.out.size))
  have HN2 := Lib.hid (show (X1.drewN nq).heap[W.heap.size]? = _ from HN.out)
  generalize X1.drewN nq = X2 at HB2 HN2 ⊢
  clear c0 c1 d0 d1 d2 d3 d4 d5
  obtain ⟨c0, c1, d0, d1, d2, d3, d4, d5⟩ := HC.out _ HB2.out
  go_wp2_with fail
  go_still_tail 10, hmix
  change wpList _ _ _ _ _ X2.drew
  have HB3 := Lib.hid (HB2.out.trans ((below_drew X2).mono HB2.out.size))
  have h3 : X2.drew.heap[W.heap.size]? = _ := HN2.out
  generalize X2.drew = X3 at HB3 h3 ⊢
  clear c0 c1 d0 d1 d2 d3 d4 d5
  have m0 := (cell_of (i := 0) h3).trans rfl
  have m1 := (cell_of (i := 1) h3).trans rfl
  have m2 := (cell_of (i := 2) h3).trans rfl
  have m3 := (cell_of (i := 3) h3).trans rfl
  have m4 := (cell_of (i := 4) h3).trans rfl
  have m5 := (cell_of (i := 5) h3).trans rfl
  have z0 : X3.frozen? ⟨W.heap.size, 0, none⟩ = false := by simp [World.frozen?, h3]
  have z1 : X3.frozen? ⟨W.heap.size, 1, none⟩ = false := by simp [World.frozen?, h3]
  have z2 : X3.frozen? ⟨W.heap.size, 2, none⟩ = false := by simp [World.frozen?, h3]
  have z3 : X3.frozen? ⟨W.heap.size, 3, none⟩ = false := by simp [World.frozen?, h3]
  have z4 : X3.frozen? ⟨W.heap.size, 4, none⟩ = false := by simp [World.frozen?, h3]
  have z5 : X3.frozen? ⟨W.heap.size, 5, none⟩ = false := by simp [World.frozen?, h3]
  go_wp2_with fail
  refine bodyPost_ret (v := .tuple #[actOf x, .bool true]) (by rw [results_cell2 (by rfl)]; go_simp) rfl ⟨rfl, ?_⟩
  exact ((((((HB3.out.setCell (Nat.le_refl _) _).setCell (Nat.le_refl _) _).setCell (Nat.le_refl _) _).setCell (Nat.le_refl _) _).setCell (Nat.le_refl _) _).setCell (Nat.le_refl _) _)

set_option maxRecDepth 100000 in
set_option maxHeartbeats 2000000 in
theorem rowact_none {W : World} {B r k c : Nat} {la : Option Addr} {n : Nat} {G : List (Int × ByteArray)} {fr : Nat → Prop} (h : Row W B r (.slice la n c) k G fr) (hk : n ≤ k) :
    Calls Try.prog 52 #[.pointer (some ⟨r, 0, none⟩)] W fun e W' => e = .returned (.tuple #[zeroV, .bool false]) ∧ Below W.heap.size W W' := by
  obtain ⟨gv, h⟩ := h
  obtain ⟨c0, c1, c2, -, -, -⟩ := h.cells
  have hk0 : (0 : Int) ≤ (k : Int) := by omega
  have hk1 : (n : Int) ≤ (k : Int) := by omega
  have hge : decide ((n : Int) ≤ (k : Int)) = true := decide_eq_true (by omega)
  have HC := Lib.hid (fun (X : World) (hX : Below W.heap.size W X) => (show X.cell? ⟨r, 0, none⟩ = some (.slice la n c) ∧ X.cell? ⟨r, 1, none⟩ = some (.int .i64 (k : Int)) from
    ⟨(hX.cell (p := ⟨r, _, none⟩) (cell_lt c0)).trans c0, (hX.cell (p := ⟨r, _, none⟩) (cell_lt c1)).trans c1⟩))
  clear h c0 c1 c2 hk
  go_enter Try.func52, Try.ntmps52
  go_wp2_with fail
  have HB := Lib.hid (below_alloc W (.cells #[.int .i64 0, .int .u64 0, .int .i64 0, .int .u64 0, .int .u64 0, .string ⟨#[]⟩] 40))
  have HN := Lib.hid (World.alloc_heap_new W (.cells #[.int .i64 0, .int .u64 0, .int .i64 0, .int .u64 0, .int .u64 0, .string ⟨#[]⟩] 40))
  generalize W.alloc (.cells #[.int .i64 0, .int .u64 0, .int .i64 0, .int .u64 0, .int .u64 0, .string ⟨#[]⟩] 40) = X1 at HB HN ⊢
  obtain ⟨c0, c1⟩ := HC.out _ HB.out
  go_quiet (fail)
  rename_i nq
  have HB3 := Lib.hid (HB.out.trans ((below_draws X1 nq).mono HB.out.size))
  have h3 : (X1.drewN nq).heap[W.heap.size]? = _ := HN.out
  generalize X1.drewN nq = X3 at HB3 h3 ⊢
  clear c0 c1
  have m0 := (cell_of (i := 0) h3).trans rfl
  have m1 := (cell_of (i := 1) h3).trans rfl
  have m2 := (cell_of (i := 2) h3).trans rfl
  have m3 := (cell_of (i := 3) h3).trans rfl
  have m4 := (cell_of (i := 4) h3).trans rfl
  have m5 := (cell_of (i := 5) h3).trans rfl
  have z0 : X3.frozen? ⟨W.heap.size, 0, none⟩ = false := by simp [World.frozen?, h3]
  have z1 : X3.frozen? ⟨W.heap.size, 1, none⟩ = false := by simp [World.frozen?, h3]
  have z2 : X3.frozen? ⟨W.heap.size, 2, none⟩ = false := by simp [World.frozen?, h3]
  have z3 : X3.frozen? ⟨W.heap.size, 3, none⟩ = false := by simp [World.frozen?, h3]
  have z4 : X3.frozen? ⟨W.heap.size, 4, none⟩ = false := by simp [World.frozen?, h3]
  have z5 : X3.frozen? ⟨W.heap.size, 5, none⟩ = false := by simp [World.frozen?, h3]
  go_wp2_with fail
  refine bodyPost_ret (v := .tuple #[zeroV, .bool false]) (by rw [results_cell2 (by rfl)]; go_simp) rfl ⟨rfl, ?_⟩
  exact ((((((HB3.out.setCell (Nat.le_refl _) _).setCell (Nat.le_refl _) _).setCell (Nat.le_refl _) _).setCell (Nat.le_refl _) _).setCell (Nat.le_refl _) _).setCell (Nat.le_refl _) _)

/-! ### Take -/
theorem info_got : (Try.prog.info? 42).map (fun i => (i.zero, i.size, i.bytes)) = some (some (.agg #[.int .u64 0, .string ⟨#[]⟩]), 2, 24) := by kernel_rfl
theorem got_news (w : World) (a : Int) (b : ByteArray) (t : TypeId) : ∀ j u, [Value.int .u64 a, .string b][j]? = some u → (w.alloc (.cells #[.int .u64 a, .string b] t)).cell? ((⟨w.heap.size, 0, none⟩ : Addr).add j) = some u :=
  World.news_of_block (cs := #[.int .u64 a, .string b]) (World.alloc_heap_new w _)
theorem got_one (a : Int) (b : ByteArray) : ∀ u ∈ [Value.int .u64 a, .string b], u.oneCell' = true := by
  intro u hu
  simp only [List.mem_cons, List.not_mem_nil, or_false] at hu
  rcases hu with rfl | rfl <;> rfl
def TakeR (B r : Nat) (lv : Value) (k : Nat) (G : List (Int × ByteArray)) (fr : Nat → Prop) (W : World) (e : Ending) (W' : World) : Prop := ∃ fr', e = .returned (.tuple #[]) ∧ Row W' B r lv k G fr' ∧ Step fr fr' W W'

/-- The new answer was appended. -/
theorem take_fin {W Y w' : World} {o : Obj} {B r k : Nat} {lv gv : Value} {G : List (Int × ByteArray)} {fr : Nat → Prop} {x : Int} {t : ByteArray} {g cap : Nat} (h : RowAt Y B r lv k G fr gv) (hB : B ≤ Y.heap.size) (hs : Step fr fr W Y)
    (hL : Lot w' 42 2 (.slice (some ⟨g, 0, none⟩) (G.length + 1) cap) (G.length + 1) (flatG G ++ [.int .u64 x, .string t])) (hg : (Y.alloc o).grownBy w' gv.ownBlock) (hat : gv.ownBlock = some g ∨ g = (Y.alloc o).heap.size) :
    w'.cell? ⟨r, 1, none⟩ = some (.int .i64 (k : Int)) ∧ w'.cell? ⟨r, 2, none⟩ = some gv ∧ w'.frozen? ⟨r, 1, none⟩ = false ∧ w'.frozen? ⟨r, 2, none⟩ = false ∧
    ∃ fr', Row ((w'.setCell ⟨r, 2, none⟩ (.slice (some ⟨g, 0, none⟩) (G.length + 1) cap)).setCell ⟨r, 1, none⟩ (.int .i64 ((k : Int) + 1))) B r lv (k + 1) (G ++ [(x, t)]) fr' ∧ Step fr fr' W ((w'.setCell ⟨r, 2, none⟩ (.slice (some ⟨g, 0, none⟩) (G.length + 1) cap)).setCell ⟨r, 1, none⟩ (.int .i64 ((k : Int) + 1))) := by
  have h2 := h.below (below_alloc Y o)
  have hr : w'.heap[r]? = some (.cells #[lv, .int .i64 (k : Int), gv] 30 (0, 0)) := (hg.block r (heap_at_lt h2.own) (Ne.symm h2.apart)).trans h2.own
  have hne : g ≠ r := by
    rcases hat with h0 | h0
    · intro e; exact h2.apart (by rw [h0, e])
    · have := heap_at_lt h2.own; omega
  have hk : ∀ j (u u' : Value), j ≠ r → ((w'.setCell ⟨r, 2, none⟩ u).setCell ⟨r, 1, none⟩ u').heap[j]? = w'.heap[j]? := fun j u u' hj => by
    rw [Below.heap_setCell _ _ _ _ (fun e => hj e), Below.heap_setCell _ _ _ _ (fun e => hj e)]
  refine ⟨(cell_of hr).trans rfl, (cell_of hr).trans rfl, by simp [World.frozen?, hr], by simp [World.frozen?, hr], fun j => j = r ∨ some g = some j, ⟨.slice (some ⟨g, 0, none⟩) (G.length + 1) cap, ?_, ?_, rfl, ?_⟩, ?_⟩
  · exact (heap_setAt (heap_setAt hr)).trans rfl
  · rw [flatG_snoc, List.length_append]
    refine Lot.stays hL (fun j hj => hk j _ _ ?_)
    obtain rfl : g = j := by simpa [Value.ownBlock] using hj
    exact hne
  · intro j hj
    rcases hj with rfl | hj
    · exact h.base _ h.self
    · cases hj
      rcases hat with h0 | h0
      · exact h.base _ (by rw [h.foot]; exact .inr h0)
      · rw [h0]; simp; omega
  · have hsa : Step fr fr W (Y.alloc o) := hs.trans (Step.of_below (below_alloc Y o))
    refine ⟨hg.os.trans hsa.os, hg.tape.trans hsa.tape, hg.output.trans hsa.output, ?_, fun j hj hn => ?_, fun j hj => ?_⟩
    · have h1 := hsa.size; have h3 := hg.size; simp only [World.setCell]; simpa using Nat.le_trans h1 h3
    · have hjr : j ≠ r := fun e => hn (by rw [e]; exact h.self)
      rw [hk j _ _ hjr, hg.block j (Nat.lt_of_lt_of_le hj hsa.size) (fun e => hn (by rw [h.foot]; exact .inr e.symm)), hsa.block j hj hn]
    · rcases hj with rfl | hj
      · exact .inl h.self
      · cases hj
        rcases hat with h0 | h0
        · exact .inl (by rw [h.foot]; exact .inr h0)
        · exact .inr (by have := hsa.size; omega)

set_option maxRecDepth 100000 in
set_option maxHeartbeats 2000000 in
theorem take_any {W : World} {B r k : Nat} {lv : Value} {G : List (Int × ByteArray)} {fr : Nat → Prop} (h : Row W B r lv k G fr) (hB : B ≤ W.heap.size) (hk : k ≤ 1000000) (hG : G.length ≤ 1000000) (x : Int) (t : ByteArray) :
    Calls Try.prog 53 #[.pointer (some ⟨r, 0, none⟩), gotV x t] W (TakeR B r lv (k + 1) (G ++ [(x, t)]) fr W) := by
  obtain ⟨gv, h⟩ := h
  have HRow := Lib.hid h
  have hb1 := below_alloc W (.cells #[.int .u64 x, .string t] 42)
  have k1 := World.alloc_heap_new W (.cells #[.int .u64 x, .string t] 42)
  have hk0 : (0 : Int) ≤ (k : Int) := by omega
  have hk1 : (k : Int) ≤ 1000000 := by omega
  have HZ := Lib.hid (fun (X : World) (hX : Below (W.alloc (.cells #[.int .u64 x, .string t] 42)).heap.size (W.alloc (.cells #[.int .u64 x, .string t] 42)) X) => (show X.cell? ⟨W.heap.size, 0, none⟩ = some (.int .u64 x) ∧ X.cell? ⟨W.heap.size, 1, none⟩ = some (.string t) ∧ X.cell? ⟨r, 2, none⟩ = some gv ∧ Below W.heap.size W X from by
    have e1 := (hX.block W.heap.size (heap_at_lt k1)).trans k1
    have hb := hb1.trans (hX.mono hb1.size)
    exact ⟨(cell_of e1).trans rfl, (cell_of e1).trans rfl, (h.below hb).cells.2.2.1, hb⟩))
  have HE := Lib.hid (And.intro hB (And.intro hk hG))
  clear h hb1 k1 hB hk hG
  go_enter Try.func53, Try.ntmps53
  go_wp2_with fail
  have A0 := Lib.hid (below_drew (W.alloc (.cells #[.int .u64 x, .string t] 42)))
  obtain ⟨i0, gi, gz0, gz1, gz2⟩ := info_parts info_got
  have hmix : Try.prog.follows .mixedOrders = true := by kernel_rfl
  refine wp_region_heldU 8 [0, 1, 2, 3, 4, 5] [6, 7] (fun _ _ _ d _ h => by cases d <;> exact h) hmix (by kernel_rfl)
    (fun w' => w'.cell? ⟨W.heap.size, 0, none⟩ = some (.int .u64 x) ∧ w'.cell? ⟨W.heap.size, 1, none⟩ = some (.string t) ∧ w'.cell? ⟨r, 2, none⟩ = some gv) ⟨(HZ.out _ A0.out).1, (HZ.out _ A0.out).2.1, (HZ.out _ A0.out).2.2.1⟩ ?_
  simp only [List.drop_succ_cons, List.drop_zero]
  obtain ⟨Y0, hY0⟩ : ∃ X, World.drew (W.alloc (.cells #[.int .u64 x, .string t] 42)) = X := ⟨_, rfl⟩
  rw [hY0] at A0 ⊢
  clear hY0
  refine heldU_step (.pointer (some ⟨r, 0, none⟩)) rfl rfl (by rintro X ⟨s1, s2, s3⟩; go_simp) (fun K' hK' => ?_)
  go_simp
  refine hK' _ ?_
  clear hK' K'
  refine heldU_step (.pointer (some ⟨r, 0, none⟩)) rfl rfl (by rintro X ⟨s1, s2, s3⟩; go_simp) (fun K' hK' => ?_)
  go_simp
  refine hK' _ ?_
  clear hK' K'
  refine heldU_step (.pointer (some ⟨r, 0, none⟩)) rfl rfl (by rintro X ⟨s1, s2, s3⟩; go_simp) (fun K' hK' => ?_)
  go_simp
  refine hK' _ ?_
  clear hK' K'
  refine heldU_step (.pointer (some ⟨r, 2, none⟩)) rfl rfl (by rintro X ⟨s1, s2, s3⟩; go_simp) (fun K' hK' => ?_)
  go_simp
  refine hK' _ ?_
  clear hK' K'
  refine heldU_step gv rfl rfl (by rintro X ⟨s1, s2, s3⟩; go_simp) (fun K' hK' => ?_)
  go_simp
  refine hK' _ ?_
  clear hK' K'
  refine heldU_step (gotV x t) rfl rfl (by rintro X ⟨s1, s2, s3⟩; go_simp) (fun K' hK' => ?_)
  go_simp
  refine hK' _ ?_
  clear hK' K'
  refine midU_step rfl rfl (fun K' hK' => ?_)
  go_simp
  have X1 := Lib.hid (A0.out.trans ((below_alloc Y0 (.cells #[.int .u64 x, .string t] 42)).mono A0.out.size))
  refine hK' _ _ ⟨⟨(HZ.out _ X1.out).1, (HZ.out _ X1.out).2.1, (HZ.out _ X1.out).2.2.1⟩, ?_⟩
  clear hK' K'
  refine midU_step rfl rfl (fun K' hK' => ?_)
  refine wp_append_lot _ _ _ 28 (by rfl) 42 i0 _ 2 24 Try.underlying28 gi gz0 gz1 gz2 rfl gv G.length (flatG G) (by rfl) (HRow.out.below (HZ.out _ X1.out).2.2.2).lot ⟨Y0.heap.size, 0, none⟩ 1 1 [.int .u64 x, .string t] (by rfl) (by rfl) (got_news Y0 x t 42) (got_one x t) (by omega) (by have := HE.out; simp only [maxLen]; omega) (by have := HE.out; omega) _ rfl ?_
  intro g cap w4 hL hg hat
  have hlow := (HZ.out _ A0.out).2.2.2
  obtain ⟨m1, m2, q1, q2, hM⟩ := take_fin (HRow.out.below hlow) (Nat.le_trans HE.out.1 hlow.size) (Step.of_below hlow) hL hg hat
  have HM := Lib.hid hM
  have HS4 := Lib.hid (show w4.cell? ⟨W.heap.size, 0, none⟩ = some (.int .u64 x) ∧ w4.cell? ⟨W.heap.size, 1, none⟩ = some (.string t) ∧ w4.cell? ⟨r, 2, none⟩ = some gv from by
    obtain ⟨s0, s1, -, -⟩ := HZ.out _ X1.out
    have hne2 : some W.heap.size ≠ gv.ownBlock := fun e => by have := HRow.out.lot.lt _ e.symm; omega
    exact ⟨hg.cell s0 hne2, hg.cell s1 hne2, m2⟩)
  clear hL hg hat hM
  go_simp
  refine hK' _ _ ⟨HS4.out, ?_⟩
  clear hK' K' HS4
  change wpList _ _ _ _ _ _
  go_wp2_with fail
  go_end0
  obtain ⟨fr', hR, hS⟩ := HM.out
  exact ⟨fr', rfl, hR, hS⟩

end Go.Proofs.Ytpbkfmdbpihhpaa
