/-
  The reference's tape, by which it is said what a routine does next: what it answers an act, and where it stands then.
-/
import Derived.Test.YtgigjbngocfkbaaMach
import Derived.Deep.QuietTactic
import Derived.BigQuiet
namespace Go.Proofs.Ytgigjbngocfkbaa
open Go Go.RowKit
attribute [local go_sem ↓] Go.wp_at_zero Go.wp_at_succ

/-- Where a tape stands. -/
structure TapD where
  k : Nat
  over : Bool
  act : ActD
def tape0 : TapD := ⟨0, false, noAct⟩
/-- An act's answer on a tape, and the tape behind it. -/
def doW' (G : List (Int × ByteArray)) (T : TapD) : Int := if T.over then 0 else (match G[T.k]? with | some g => g.1 | none => 0)
def doT' (G : List (Int × ByteArray)) (T : TapD) : ByteArray := if T.over then ⟨#[]⟩ else (match G[T.k]? with | some g => g.2 | none => ⟨#[]⟩)
def onT (G : List (Int × ByteArray)) (T : TapD) (x : ActD) : TapD := if T.over then T else if T.k = G.length then ⟨T.k, true, x⟩ else ⟨T.k + 1, T.over, T.act⟩

/-- At p, a slice's address, these answers lie. -/
def Sgt (W : World) (p : Option Addr) (G : List (Int × ByteArray)) : Prop :=
  ∀ j (h : j < G.length), ∃ b o, p = some ⟨b, o, none⟩ ∧ W.cell? ⟨b, o + j * 2, none⟩ = some (.int .u64 G[j].1) ∧ W.cell? ⟨b, o + j * 2 + 1, none⟩ = some (.string G[j].2)
theorem Sgt.nil (W : World) (p : Option Addr) : Sgt W p [] := fun _ h => absurd h (Nat.not_lt_zero _)
theorem Sgt.grow {W W' : World} {p : Option Addr} {G : List (Int × ByteArray)} (h : Sgt W p G) (hb : Below W.heap.size W W') : Sgt W' p G := fun j hj => by
  obtain ⟨b, o, rfl, c1, c2⟩ := h j hj
  exact ⟨b, o, rfl, (hb.cell (p := ⟨b, _, none⟩) (cell_lt c1)).trans c1, (hb.cell (p := ⟨b, _, none⟩) (cell_lt c2)).trans c2⟩
theorem Sgt.take {W : World} {p : Option Addr} {G : List (Int × ByteArray)} (h : Sgt W p G) (n : Nat) : Sgt W p (G.take n) := fun j hj => by
  have hj' : j < G.length := by have := List.length_take_le' n G; omega
  obtain ⟨b, o, e, c1, c2⟩ := h j hj'
  refine ⟨b, o, e, ?_, ?_⟩
  · rw [List.getElem_take]; exact c1
  · rw [List.getElem_take]; exact c2
/-- What is read lies below B, so what is made above is of no matter. -/
def SgB (B : Nat) (W : World) (p : Option Addr) (G : List (Int × ByteArray)) : Prop := Sgt W p G ∧ ∀ a, p = some a → a.block < B

abbrev tapO (ga : Option Addr) (n c : Nat) (T : TapD) : Obj := .cells #[.slice ga n c, .int .i64 (T.k : Int), .bool T.over, .int .i64 T.act.kind, .int .u64 (T.act.block : Int), .int .i64 T.act.cell, .int .u64 T.act.old, .int .u64 T.act.new, .string T.act.text] 40 (0, 0)
structure TapAt (W : World) (b : Nat) (ga : Option Addr) (c : Nat) (G : List (Int × ByteArray)) (T : TapD) : Prop where
  own : W.heap[b]? = some (tapO ga G.length c T)
  row : Sgt W ga G
  off : ∀ a, ga = some a → a.block ≠ b
  k : T.k ≤ G.length
  many : G.length ≤ 1000000
section
variable {W X Y : World} {b c : Nat} {ga : Option Addr} {G : List (Int × ByteArray)} {T : TapD}
theorem TapAt.below (h : TapAt W b ga c G T) (hb : Below W.heap.size W X) : TapAt X b ga c G T := ⟨(hb.block b (heap_at_lt h.own)).trans h.own, h.row.grow hb, h.off, h.k, h.many⟩
theorem TapAt.nine (h : TapAt W b ga c G T) : (W.cell? ⟨b, 0, none⟩ = some (.slice ga G.length c) ∧ W.cell? ⟨b, 1, none⟩ = some (.int .i64 (T.k : Int)) ∧ W.cell? ⟨b, 2, none⟩ = some (.bool T.over) ∧ W.cell? ⟨b, 3, none⟩ = some (.int .i64 T.act.kind) ∧ W.cell? ⟨b, 4, none⟩ = some (.int .u64 (T.act.block : Int)) ∧ W.cell? ⟨b, 5, none⟩ = some (.int .i64 T.act.cell) ∧ W.cell? ⟨b, 6, none⟩ = some (.int .u64 T.act.old) ∧ W.cell? ⟨b, 7, none⟩ = some (.int .u64 T.act.new) ∧ W.cell? ⟨b, 8, none⟩ = some (.string T.act.text)) ∧
    (W.frozen? ⟨b, 0, none⟩ = false ∧ W.frozen? ⟨b, 1, none⟩ = false ∧ W.frozen? ⟨b, 2, none⟩ = false ∧ W.frozen? ⟨b, 3, none⟩ = false ∧ W.frozen? ⟨b, 4, none⟩ = false ∧ W.frozen? ⟨b, 5, none⟩ = false ∧ W.frozen? ⟨b, 6, none⟩ = false ∧ W.frozen? ⟨b, 7, none⟩ = false ∧ W.frozen? ⟨b, 8, none⟩ = false) := by
  refine ⟨⟨(cell_of h.own).trans rfl, (cell_of h.own).trans rfl, (cell_of h.own).trans rfl, (cell_of h.own).trans rfl, (cell_of h.own).trans rfl, (cell_of h.own).trans rfl, (cell_of h.own).trans rfl, (cell_of h.own).trans rfl, (cell_of h.own).trans rfl⟩, ?_⟩
  have := h.own
  simp [World.frozen?, this]
theorem Sgt.apart (h : Sgt W ga G) (hk : ∀ a, ga = some a → Y.heap[a.block]? = W.heap[a.block]?) : Sgt Y ga G := fun j hj => by
  obtain ⟨d, o, rfl, c1, c2⟩ := h j hj
  have hc : ∀ i, Y.cell? ⟨d, i, none⟩ = W.cell? ⟨d, i, none⟩ := fun i => World.cell?_of_block (a := ⟨d, i, none⟩) (hk ⟨d, o, none⟩ rfl)
  exact ⟨d, o, rfl, (hc _).trans c1, (hc _).trans c2⟩
end
/-- What an act on a tape leaves. -/
def TapR (b : Nat) (ga : Option Addr) (c : Nat) (G : List (Int × ByteArray)) (T' : TapD) (v : Value) (W : World) (e : Ending) (W' : World) : Prop := e = .returned v ∧ TapAt W' b ga c G T' ∧ Step (fun k => k = b) (fun k => k = b) W W'
abbrev gotZ : Obj := .cells #[.int .u64 0, .string ⟨#[]⟩] 45 (0, 0)

theorem load_got {X : World} {n : Nat} {w : Int} {t : ByteArray} (h : X.heap[n]? = some (gotO w t)) : (loadVar 45 ⟨n, 0, none⟩).run Try.prog X = .ok (gotV w t) X := by
  have m0 := (cell_of (i := 0) h).trans rfl
  have m1 := (cell_of (i := 1) h).trans rfl
  go_simp
theorem do_end {W X : World} {b c n : Nat} {ga : Option Addr} {G : List (Int × ByteArray)} {T' : TapD} {w : Int} {t : ByteArray} {Z : Array Value} (hg : X.heap[n]? = some (gotO w t)) (hp : Z.getD 4 undef = .pointer (some ⟨n, 0, none⟩)) (hT : TapAt X b ga c G T') (hs : Step (fun k => k = b) (fun k => k = b) W X) :
    bodyPost Try.prog Try.f47 (TapR b ga c G T' (gotV w t) W) .ret { tmps := Z, defers := [] } X :=
  bodyPost_ret (v := gotV w t) (by rw [results_cell1 (by rfl), hp]; simp only [asAddr, Sem.run_pure, Result.andThen_ok, load_got hg]) rfl ⟨rfl, hT, hs⟩
/-- The tape is at its end now. -/
theorem TapAt.end_ {X : World} {b c : Nat} {ga : Option Addr} {G : List (Int × ByteArray)} {T : TapD} (h : TapAt X b ga c G T) (x : ActD) :
    TapAt (((((((X.setCell ⟨b, 2, none⟩ (.bool true)).setCell ⟨b, 3, none⟩ (.int .i64 x.kind)).setCell ⟨b, 4, none⟩ (.int .u64 (x.block : Int))).setCell ⟨b, 5, none⟩ (.int .i64 x.cell)).setCell ⟨b, 6, none⟩ (.int .u64 x.old)).setCell ⟨b, 7, none⟩ (.int .u64 x.new)).setCell ⟨b, 8, none⟩ (.string x.text)) b ga c G ⟨T.k, true, x⟩ ∧
    (∀ k, k ≠ b → (((((((X.setCell ⟨b, 2, none⟩ (.bool true)).setCell ⟨b, 3, none⟩ (.int .i64 x.kind)).setCell ⟨b, 4, none⟩ (.int .u64 (x.block : Int))).setCell ⟨b, 5, none⟩ (.int .i64 x.cell)).setCell ⟨b, 6, none⟩ (.int .u64 x.old)).setCell ⟨b, 7, none⟩ (.int .u64 x.new)).setCell ⟨b, 8, none⟩ (.string x.text)).heap[k]? = X.heap[k]?) ∧
    Step (fun k => k = b) (fun k => k = b) X (((((((X.setCell ⟨b, 2, none⟩ (.bool true)).setCell ⟨b, 3, none⟩ (.int .i64 x.kind)).setCell ⟨b, 4, none⟩ (.int .u64 (x.block : Int))).setCell ⟨b, 5, none⟩ (.int .i64 x.cell)).setCell ⟨b, 6, none⟩ (.int .u64 x.old)).setCell ⟨b, 7, none⟩ (.int .u64 x.new)).setCell ⟨b, 8, none⟩ (.string x.text)) := by
  have ho : ∀ k, k ≠ b → (((((((X.setCell ⟨b, 2, none⟩ (.bool true)).setCell ⟨b, 3, none⟩ (.int .i64 x.kind)).setCell ⟨b, 4, none⟩ (.int .u64 (x.block : Int))).setCell ⟨b, 5, none⟩ (.int .i64 x.cell)).setCell ⟨b, 6, none⟩ (.int .u64 x.old)).setCell ⟨b, 7, none⟩ (.int .u64 x.new)).setCell ⟨b, 8, none⟩ (.string x.text)).heap[k]? = X.heap[k]? := fun k hk => by
    rw [Below.heap_setCell _ _ _ _ hk, Below.heap_setCell _ _ _ _ hk, Below.heap_setCell _ _ _ _ hk, Below.heap_setCell _ _ _ _ hk, Below.heap_setCell _ _ _ _ hk, Below.heap_setCell _ _ _ _ hk, Below.heap_setCell _ _ _ _ hk]
  have e0 := heap_setAt (o := 2) (u := .bool true) h.own
  have e1 := heap_setAt (o := 3) (u := .int .i64 x.kind) e0
  have e2 := heap_setAt (o := 4) (u := .int .u64 (x.block : Int)) e1
  have e3 := heap_setAt (o := 5) (u := .int .i64 x.cell) e2
  have e4 := heap_setAt (o := 6) (u := .int .u64 x.old) e3
  have e5 := heap_setAt (o := 7) (u := .int .u64 x.new) e4
  have e6 := heap_setAt (o := 8) (u := .string x.text) e5
  simp only [List.setIfInBounds_toArray, List.set_cons_zero, List.set_cons_succ] at e6
  exact ⟨⟨e6, h.row.apart (fun a ha => ho _ (h.off a ha)), h.off, h.k, h.many⟩, ho, ((((((Step.setCell (f := fun k => k = b) _ rfl).trans (Step.setCell _ rfl)).trans (Step.setCell _ rfl)).trans (Step.setCell _ rfl)).trans (Step.setCell _ rfl)).trans (Step.setCell _ rfl)).trans (Step.setCell _ rfl)⟩
/-- The tape goes on by one. -/
theorem TapAt.more {X : World} {b c : Nat} {ga : Option Addr} {G : List (Int × ByteArray)} {T : TapD} (h : TapAt X b ga c G T) (hk : T.k < G.length) :
    TapAt (X.setCell ⟨b, 1, none⟩ (.int .i64 ((T.k : Int) + 1))) b ga c G ⟨T.k + 1, T.over, T.act⟩ ∧ (∀ k, k ≠ b → (X.setCell ⟨b, 1, none⟩ (.int .i64 ((T.k : Int) + 1))).heap[k]? = X.heap[k]?) ∧ Step (fun k => k = b) (fun k => k = b) X (X.setCell ⟨b, 1, none⟩ (.int .i64 ((T.k : Int) + 1))) := by
  have ho : ∀ k, k ≠ b → (X.setCell ⟨b, 1, none⟩ (.int .i64 ((T.k : Int) + 1))).heap[k]? = X.heap[k]? := fun k hk => Below.heap_setCell _ _ _ _ hk
  exact ⟨⟨(heap_setAt h.own).trans rfl, h.row.apart (fun a ha => ho _ (h.off a ha)), h.off, hk, h.many⟩, ho, Step.setCell _ rfl⟩

theorem do_fin {W Y : World} {b c n : Nat} {ga : Option Addr} {G : List (Int × ByteArray)} {T' : TapD} {w : Int} {t : ByteArray} {Z : Array Value} (hg : Y.heap[n]? = some gotZ) (hn : n ≠ b) (hn2 : W.heap.size ≤ n) (hp : Z.getD 4 undef = .pointer (some ⟨n, 0, none⟩)) (ha : ∀ a, ga = some a → a.block < W.heap.size) (hT : TapAt Y b ga c G T') (hs : Step (fun k => k = b) (fun k => k = b) W Y) :
    bodyPost Try.prog Try.f47 (TapR b ga c G T' (gotV w t) W) .ret { tmps := Z, defers := [] } ((Y.setCell ⟨n, 0, none⟩ (.int .u64 w)).setCell ⟨n, 1, none⟩ (.string t)) := by
  have hk : ∀ k, k ≠ n → ((Y.setCell ⟨n, 0, none⟩ (.int .u64 w)).setCell ⟨n, 1, none⟩ (.string t)).heap[k]? = Y.heap[k]? := fun k hk => by
    rw [Below.heap_setCell _ _ _ _ hk, Below.heap_setCell _ _ _ _ hk]
  have h2 : ((Y.setCell ⟨n, 0, none⟩ (.int .u64 w)).setCell ⟨n, 1, none⟩ (.string t)).heap[n]? = some (gotO w t) := heap_setAt (heap_setAt hg)
  refine do_end h2 hp ⟨(hk b (Ne.symm hn)).trans hT.own, hT.row.apart (fun a h => hk _ (by have := ha a h; omega)), hT.off, hT.k, hT.many⟩ ?_
  refine ⟨hs.os, hs.tape, hs.output, by simpa [World.setCell] using hs.size, fun k h1 h2 => (hk k (by omega)).trans (hs.block k h1 h2), fun k h => .inl h⟩

set_option maxRecDepth 100000 in
set_option maxHeartbeats 4000000 in
theorem tape_do (W : World) {b c : Nat} {ga : Option Addr} {G : List (Int × ByteArray)} {T : TapD} (h : TapAt W b ga c G T) (hga : ∀ a, ga = some a → a.block < W.heap.size) (x : ActD) :
    Calls Try.prog 47 #[.pointer (some ⟨b, 0, none⟩), actOf x] W (TapR b ga c G (onT G T x) (gotV (doW' G T) (doT' G T)) W) := by
  have HB := Lib.hid (show Below W.heap.size W ((W.alloc (actO x)).alloc gotZ) from (below_alloc W _).trans ((below_alloc _ _).mono (by simp)))
  have H2 := Lib.hid (h.below HB.out)
  have HA := Lib.hid (show ((W.alloc (actO x)).alloc gotZ).heap[W.heap.size]? = some (actO x) from ((below_alloc (W.alloc (actO x)) gotZ).block _ (by simp)).trans (World.alloc_heap_new W _))
  have HG := Lib.hid (show ((W.alloc (actO x)).alloc gotZ).heap[W.heap.size + 1]? = some gotZ from by have := World.alloc_heap_new (W.alloc (actO x)) gotZ; rwa [World.size_alloc] at this)
  have hlt := heap_at_lt h.own
  have HGa := Lib.hid hga
  clear hga
  obtain ⟨⟨m0, m1, m2, m3, m4, m5, m6, m7, m8⟩, z0, z1, z2, z3, z4, z5, z6, z7, z8⟩ := H2.out.nine
  obtain ⟨a0, a1, a2, a3, a4, a5⟩ := six_at HA.out
  obtain ⟨g0, g1⟩ := two_at HG.out
  cases ho : T.over with
  | true =>
    rw [ho] at m2
    have e1 : onT G T x = T := by unfold onT; rw [ho]; rfl
    have e2 : doW' G T = 0 := by unfold doW'; rw [ho]; rfl
    have e3 : doT' G T = ⟨#[]⟩ := by unfold doT'; rw [ho]; rfl
    rw [e1, e2, e3]
    clear h ho e1 e2 e3 hlt
    go_enter Try.func47, Try.ntmps47
    go_wp2_with fail
    exact do_end HG.out rfl H2.out (Step.of_below HB.out)
  | false =>
    rw [ho] at m2
    obtain ⟨n, hn⟩ : ∃ n, G.length = n := ⟨_, rfl⟩
    have hnk := h.k
    have hmany := h.many
    have e2 : doW' G T = (match G[T.k]? with | some g => g.1 | none => 0) := by unfold doW'; rw [ho]; rfl
    have e3 : doT' G T = (match G[T.k]? with | some g => g.2 | none => ⟨#[]⟩) := by unfold doT'; rw [ho]; rfl
    by_cases hk : T.k = G.length
    · have e1 : onT G T x = ⟨T.k, true, x⟩ := by unfold onT; rw [ho, if_neg (by decide), if_pos hk]
      have e0 : G[T.k]? = none := List.getElem?_eq_none (by omega)
      rw [e0] at e2 e3
      rw [e1, e2, e3]
      rw [hn] at m0 hk
      rw [hk] at m1
      have HK := Lib.hid hk
      clear h ho e1 e2 e3 e0 hk hnk hmany
      go_enter Try.func47, Try.ntmps47
      go_wp2_with fail
      go_quiet (fail)
      rename_i nq
      have HB2 := Lib.hid (HB.out.trans ((below_draws ((W.alloc (actO x)).alloc gotZ) nq).mono HB.out.size))
      have H3 := Lib.hid (H2.out.below (below_draws ((W.alloc (actO x)).alloc gotZ) nq))
      have HA3 := Lib.hid (show (((W.alloc (actO x)).alloc gotZ).drewN nq).heap[W.heap.size]? = some (actO x) from HA.out)
      have HG3 := Lib.hid (show (((W.alloc (actO x)).alloc gotZ).drewN nq).heap[W.heap.size + 1]? = some gotZ from HG.out)
      generalize ((W.alloc (actO x)).alloc gotZ).drewN nq = X2 at HB2 H3 HA3 HG3 ⊢
      clear m0 m1 m2 m3 m4 m5 m6 m7 m8 z0 z1 z2 z3 z4 z5 z6 z7 z8 a0 a1 a2 a3 a4 a5 g0 g1
      obtain ⟨⟨m0, m1, m2, m3, m4, m5, m6, m7, m8⟩, z0, z1, z2, z3, z4, z5, z6, z7, z8⟩ := H3.out.nine
      obtain ⟨a0, a1, a2, a3, a4, a5⟩ := six_at HA3.out
      obtain ⟨g0, g1⟩ := two_at HG3.out
      have y0 : X2.frozen? ⟨W.heap.size + 1, 0, none⟩ = false := by have := HG3.out; simp [World.frozen?, this]
      have y1 : X2.frozen? ⟨W.heap.size + 1, 1, none⟩ = false := by have := HG3.out; simp [World.frozen?, this]
      have hne : W.heap.size ≠ b := by omega
      have hne1 : W.heap.size + 1 ≠ b := by omega
      have HE := Lib.hid (H3.out.end_ x)
      have HHn := Lib.hid hne1
      go_wp2_with fail
      exact do_fin ((HE.out.2.1 _ HHn.out).trans HG3.out) HHn.out (by omega) rfl HGa.out HE.out.1 ((Step.of_below HB2.out).trans HE.out.2.2)
    · have hkl : T.k < G.length := by omega
      obtain ⟨w, hw⟩ : ∃ w, (G[T.k]'hkl).1 = w := ⟨_, rfl⟩
      obtain ⟨t, ht⟩ : ∃ t, (G[T.k]'hkl).2 = t := ⟨_, rfl⟩
      have e1 : onT G T x = ⟨T.k + 1, T.over, T.act⟩ := by unfold onT; rw [ho, if_neg (by decide), if_neg hk]
      have e0 : G[T.k]? = some G[T.k] := List.getElem?_eq_getElem hkl
      rw [e0] at e2 e3
      simp only [hw] at e2
      simp only [ht] at e3
      rw [e1, e2, e3]
      have HM := Lib.hid (fun (X : World) (hX : TapAt X b ga c G T) => hX.more hkl)
      obtain ⟨d, o, hga, d0, d1⟩ := H2.out.row T.k hkl
      rw [hw] at d0
      rw [ht] at d1
      have hdb := h.off _ hga
      have HD := Lib.hid (fun (X : World) (hX : ∀ k, k ≠ b → X.heap[k]? = ((W.alloc (actO x)).alloc gotZ).heap[k]?) => (show X.cell? ⟨d, o + T.k * 2, none⟩ = some (.int .u64 w) ∧ X.cell? ⟨d, o + T.k * 2 + 1, none⟩ = some (.string t) from
        ⟨(World.cell?_of_block (a := ⟨d, _, none⟩) (hX d hdb)).trans d0, (World.cell?_of_block (a := ⟨d, _, none⟩) (hX d hdb)).trans d1⟩))
      have HNn := Lib.hid hn
      rw [hn] at m0 hk hkl hnk hmany
      rw [hga] at m0
      obtain ⟨k, hkk⟩ : ∃ k, T.k = k := ⟨_, rfl⟩
      have HMk := HM
      rw [hkk] at HMk HD m1 hk hkl hnk
      have hkn : ((k : Int) == (n : Int)) = false := by simp; omega
      have hk0 : (0 : Int) ≤ (k : Int) := by omega
      have hk1 : (k : Int) < (n : Int) := by omega
      have hn1 : (n : Int) ≤ 1000000 := by omega
      have hwr : IntKind.i64.wrap (k : Int) = (k : Int) := IntWalk.i64_in _ (by omega)
      have hmix : Try.prog.follows .mixedOrders = true := by kernel_rfl
      clear h ho e1 e2 e3 e0 hk hnk hmany d0 d1 hw ht HM hkl hn
      go_enter Try.func47, Try.ntmps47
      go_wp2_with fail
      go_quiet (fail)
      rename_i nq
      have HB2 := Lib.hid (HB.out.trans ((below_draws ((W.alloc (actO x)).alloc gotZ) nq).mono HB.out.size))
      have H3 := Lib.hid (H2.out.below (below_draws ((W.alloc (actO x)).alloc gotZ) nq))
      have HG3 := Lib.hid (show (((W.alloc (actO x)).alloc gotZ).drewN nq).heap[W.heap.size + 1]? = some gotZ from HG.out)
      have HS3 := Lib.hid (show ∀ k : Nat, (((W.alloc (actO x)).alloc gotZ).drewN nq).heap[k]? = ((W.alloc (actO x)).alloc gotZ).heap[k]? from fun _ => rfl)
      generalize ((W.alloc (actO x)).alloc gotZ).drewN nq = X2 at HB2 H3 HG3 HS3 ⊢
      clear m0 m1 m2 m3 m4 m5 m6 m7 m8 z0 z1 z2 z3 z4 z5 z6 z7 z8 a0 a1 a2 a3 a4 a5 g0 g1
      have HN1 := Lib.hid (HMk.out X2 H3.out)
      have m1 : X2.cell? ⟨b, 1, none⟩ = some (.int .i64 (k : Int)) := by have := H3.out.nine.1.2.1; rw [hkk] at this; exact this
      have m0 : X2.cell? ⟨b, 0, none⟩ = some (.slice (some ⟨d, o, none⟩) n c) := by have := H3.out.nine.1.1; rw [hga, HNn.out] at this; exact this
      have z1 := H3.out.nine.2.2.1
      have z0 := H3.out.nine.2.1
      have HHn := Lib.hid (show W.heap.size + 1 ≠ b from by omega)
      have HKK := Lib.hid hkk
      have n1 := HN1.out.1.nine.1.2.1
      have n0 : (X2.setCell ⟨b, 1, none⟩ (.int .i64 ((k : Int) + 1))).cell? ⟨b, 0, none⟩ = some (.slice (some ⟨d, o, none⟩) n c) := by have := HN1.out.1.nine.1.1; rw [hga, HNn.out] at this; exact this
      have n1 : (X2.setCell ⟨b, 1, none⟩ (.int .i64 ((k : Int) + 1))).cell? ⟨b, 1, none⟩ = some (.int .i64 ((k : Int) + 1)) := HN1.out.1.nine.1.2.1
      obtain ⟨d0, d1⟩ := HD.out (X2.setCell ⟨b, 1, none⟩ (.int .i64 ((k : Int) + 1))) (fun j hj => (HN1.out.2.1 j hj).trans (HS3.out j))
      have HG4 := Lib.hid ((HN1.out.2.1 _ HHn.out).trans HG3.out)
      clear hkk hga
      go_wp2_with fail
      generalize X2.setCell ⟨b, 1, none⟩ (.int .i64 ((k : Int) + 1)) = X3 at HN1 n0 n1 d0 d1 HG4 ⊢
      clear m0 m1 z0 z1
      go_still_tail 11, hmix
      change wpList _ _ _ _ _ X3.drew
      have HG5 := Lib.hid (show X3.drew.heap[W.heap.size + 1]? = some gotZ from HG4.out)
      have HT5 := Lib.hid (HN1.out.1.below (below_drew X3))
      have HS5 := Lib.hid (((Step.of_below HB2.out).trans HN1.out.2.2).trans (Step.of_below (below_drew X3)))
      clear n0 n1 d0 d1
      generalize X3.drew = X4 at HG5 HT5 HS5 ⊢
      obtain ⟨g0, g1⟩ := two_at HG5.out
      have y0 : X4.frozen? ⟨W.heap.size + 1, 0, none⟩ = false := by have := HG5.out; simp [World.frozen?, this]
      have y1 : X4.frozen? ⟨W.heap.size + 1, 1, none⟩ = false := by have := HG5.out; simp [World.frozen?, this]
      go_wp2_with fail
      rw [HKK.out]
      exact do_fin HG5.out HHn.out (by omega) rfl HGa.out HT5.out HS5.out

end Go.Proofs.Ytgigjbngocfkbaa
