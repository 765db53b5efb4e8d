/-
  pending's kept: an entry with lists and texts of its own.
-/
import Derived.Test.YtkfnndhoccjffaaClone14
namespace Go.Proofs.Ytkfnndhoccjffaa
open Go Go.RowKit
attribute [local go_sem ↓] Go.wp_at_zero Go.wp_at_succ

theorem Lot.froz {W : World} {e : TypeId} {size n c : Nat} {g : Nat} {xs : List Value} (h : Lot W e size (.slice (some ⟨g, 0, none⟩) n c) n xs) (j : Nat) : W.frozen? ⟨g, j, none⟩ = false := by
  obtain ⟨cur, hc⟩ := h.tag (k := g) rfl
  simp [World.frozen?, hc]

theorem EntO.gcell {W : World} {B : Nat} {v : EV} {e : ED} (h : EntO W B v e) {i : Nat} (hi : i < e.g.length) : ∃ b o, v.pg = some ⟨b, o, none⟩ ∧ W.cell? ⟨b, o + i * 3, none⟩ = some (.int .i64 e.g[i].kind) ∧ W.cell? ⟨b, o + i * 3 + 1, none⟩ = some (.string e.g[i].key) ∧ W.cell? ⟨b, o + i * 3 + 2, none⟩ = some (.string e.g[i].val) ∧
    W.frozen? ⟨b, o + i * 3, none⟩ = false ∧ W.frozen? ⟨b, o + i * 3 + 1, none⟩ = false ∧ W.frozen? ⟨b, o + i * 3 + 2, none⟩ = false := by
  obtain ⟨g, hp, _⟩ := h.g.at (by have := h.ng; omega)
  obtain ⟨b, o, hb, c1, c2, c3⟩ := h.ent.g i hi
  rw [hp] at hb
  cases hb
  have hL := h.g
  rw [hp] at hL
  exact ⟨g, 0, hp, c1, c2, c3, hL.froz _, hL.froz _, hL.froz _⟩
theorem EntO.scell {W : World} {B : Nat} {v : EV} {e : ED} (h : EntO W B v e) {i : Nat} (hi : i < e.s.length) : ∃ b o, v.ps = some ⟨b, o, none⟩ ∧ W.cell? ⟨b, o + i * 5, none⟩ = some (.int .i64 e.s[i].kind) ∧ W.cell? ⟨b, o + i * 5 + 1, none⟩ = some (.string e.s[i].key) ∧ W.cell? ⟨b, o + i * 5 + 2, none⟩ = some (.string e.s[i].val) ∧ W.cell? ⟨b, o + i * 5 + 3, none⟩ = some (.string e.s[i].old) ∧ W.cell? ⟨b, o + i * 5 + 4, none⟩ = some (.int .i64 e.s[i].n) ∧
    W.frozen? ⟨b, o + i * 5, none⟩ = false ∧ W.frozen? ⟨b, o + i * 5 + 1, none⟩ = false ∧ W.frozen? ⟨b, o + i * 5 + 2, none⟩ = false ∧ W.frozen? ⟨b, o + i * 5 + 3, none⟩ = false ∧ W.frozen? ⟨b, o + i * 5 + 4, none⟩ = false := by
  obtain ⟨g, hp, _⟩ := h.s.at (by have := h.ns; omega)
  obtain ⟨b, o, hb, c1, c2, c3, c4, c5⟩ := h.ent.s i hi
  rw [hp] at hb
  cases hb
  have hL := h.s
  rw [hp] at hL
  exact ⟨g, 0, hp, c1, c2, c3, c4, c5, hL.froz _, hL.froz _, hL.froz _, hL.froz _, hL.froz _⟩

/-- What is known between two rounds of kept. -/
structure KI (W : World) (B : Nat) (v : EV) (e : ED) (X : World) : Prop where
  box : X.heap[B]? = some (.cells #[.int .i64 v.id.o, .int .i64 v.id.s, .slice v.pg v.ng v.cg, .slice v.ps v.ns v.cs] 40 (0, 0))
  res : X.heap[B + 1]? = some (.cells #[.int .i64 0, .int .i64 0, .slice none 0 0, .slice none 0 0] 40 (0, 0))
  ent : EntO X (B + 2) v e
  low : Below B W X
theorem KI.below {W : World} {B : Nat} {v : EV} {e : ED} {X Y : World} (h : KI W B v e X) (hb : Below X.heap.size X Y) : KI W B v e Y := by
  have l1 := (Array.getElem?_eq_some_iff.1 h.box).1
  have l2 := (Array.getElem?_eq_some_iff.1 h.res).1
  exact ⟨(hb.block _ l1).trans h.box, (hb.block _ l2).trans h.res, h.ent.below hb, h.low.trans (hb.mono (by omega))⟩
theorem KI.size {W : World} {B : Nat} {v : EV} {e : ED} {X : World} (h : KI W B v e X) : B + 2 ≤ X.heap.size := by
  have := (Array.getElem?_eq_some_iff.1 h.res).1; omega

theorem heap_setAt {W : World} {p o : Nat} {u : Value} {cs : Array Value} {t : TypeId} {fr : Nat × Nat} (h : W.heap[p]? = some (.cells cs t fr)) : (W.setCell ⟨p, o, none⟩ u).heap[p]? = some (.cells (cs.setIfInBounds o u) t fr) := by
  obtain ⟨hlt, hk⟩ := Array.getElem?_eq_some_iff.1 h
  show (W.heap.modify p _)[p]? = _
  rw [Array.getElem?_eq_getElem (by rw [Array.size_modify]; exact hlt), Array.getElem_modify_self, hk]
  rfl
theorem heap_set4 {W : World} {p : Nat} {a b c d a' b' c' d' : Value} {t : TypeId} {fr : Nat × Nat} (h : W.heap[p]? = some (.cells #[a, b, c, d] t fr)) :
    ((((W.setCell ⟨p, 0, none⟩ a').setCell ⟨p, 1, none⟩ b').setCell ⟨p, 2, none⟩ c').setCell ⟨p, 3, none⟩ d').heap[p]? = some (.cells #[a', b', c', d'] t fr) :=
  (heap_setAt (heap_setAt (heap_setAt (heap_setAt h)))).trans rfl

theorem KI.start {W W2 w3 : World} {B : Nat} {v v' : EV} {e : ED} (hE : EntO w3 W2.heap.size v' e) (hz : W2.heap.size = B + 2) (hB : Below B W w3)
    (m1 : w3.heap[B]? = some (.cells #[.int .i64 v.id.o, .int .i64 v.id.s, .slice v.pg v.ng v.cg, .slice v.ps v.ns v.cs] 40 (0, 0)))
    (m2 : w3.heap[B + 1]? = some (.cells #[.int .i64 0, .int .i64 0, .slice none 0 0, .slice none 0 0] 40 (0, 0))) :
    KI W B v' e ((((w3.setCell ⟨B, 0, none⟩ (.int .i64 v'.id.o)).setCell ⟨B, 1, none⟩ (.int .i64 v'.id.s)).setCell ⟨B, 2, none⟩ (.slice v'.pg v'.ng v'.cg)).setCell ⟨B, 3, none⟩ (.slice v'.ps v'.ns v'.cs)) := by
  have keep : ∀ k, k ≠ B → ((((w3.setCell ⟨B, 0, none⟩ (.int .i64 v'.id.o)).setCell ⟨B, 1, none⟩ (.int .i64 v'.id.s)).setCell ⟨B, 2, none⟩ (.slice v'.pg v'.ng v'.cg)).setCell ⟨B, 3, none⟩ (.slice v'.ps v'.ns v'.cs)).heap[k]? = w3.heap[k]? := fun k hk => by
    iterate 4 rw [Below.heap_setCell _ _ _ _ hk]
  have hEE := hE
  refine ⟨heap_set4 m1, (keep _ (by omega)).trans m2, ⟨hEE.id, hEE.g.stays (fun k hk => keep k ?_), hEE.s.stays (fun k hk => keep k ?_), hEE.ng, hEE.ns, fun k hk => ?_, fun k hk => ?_⟩, (((hB.setCell (Nat.le_refl _) _).setCell (Nat.le_refl _) _).setCell (Nat.le_refl _) _).setCell (Nat.le_refl _) _⟩
  · have := hEE.bg k hk; omega
  · have := hEE.bs k hk; omega
  · have := hEE.bg k hk; omega
  · have := hEE.bs k hk; omega

theorem KI.box_at {W : World} {B : Nat} {v : EV} {e : ED} {X : World} (h : KI W B v e X) : X.cell? ⟨B, 0, none⟩ = some (.int .i64 v.id.o) ∧ X.cell? ⟨B, 1, none⟩ = some (.int .i64 v.id.s) ∧ X.cell? ⟨B, 2, none⟩ = some (.slice v.pg v.ng v.cg) ∧ X.cell? ⟨B, 3, none⟩ = some (.slice v.ps v.ns v.cs) :=
  ⟨(cell_of h.box).trans rfl, (cell_of h.box).trans rfl, (cell_of h.box).trans rfl, (cell_of h.box).trans rfl⟩

set_option maxHeartbeats 4000000 in
theorem kept_any (v : EV) (e : ED) (W : World) (h : Ent W v e) (he : e.fits) : Calls Try.prog 22 #[v.val] W (CopiedE e W) := by
  have hb1 := below_alloc W (.cells #[.int .i64 v.id.o, .int .i64 v.id.s, .slice v.pg v.ng v.cg, .slice v.ps v.ns v.cs] 40)
  have hb2 := hb1.alloc (by simp) (.cells #[.int .i64 0, .int .i64 0, .slice none 0 0, .slice none 0 0] 40)
  have hz : ((W.alloc (.cells #[.int .i64 v.id.o, .int .i64 v.id.s, .slice v.pg v.ng v.cg, .slice v.ps v.ns v.cs] 40)).alloc (.cells #[.int .i64 0, .int .i64 0, .slice none 0 0, .slice none 0 0] 40)).heap.size = W.heap.size + 2 := by simp
  have k1 : ((W.alloc (.cells #[.int .i64 v.id.o, .int .i64 v.id.s, .slice v.pg v.ng v.cg, .slice v.ps v.ns v.cs] 40)).alloc (.cells #[.int .i64 0, .int .i64 0, .slice none 0 0, .slice none 0 0] 40)).heap[W.heap.size]? = some (.cells #[.int .i64 v.id.o, .int .i64 v.id.s, .slice v.pg v.ng v.cg, .slice v.ps v.ns v.cs] 40 (0, 0)) :=
    (Below.heap_alloc _ _ _ (by simp)).trans (World.alloc_heap_new W _)
  have k2 : ((W.alloc (.cells #[.int .i64 v.id.o, .int .i64 v.id.s, .slice v.pg v.ng v.cg, .slice v.ps v.ns v.cs] 40)).alloc (.cells #[.int .i64 0, .int .i64 0, .slice none 0 0, .slice none 0 0] 40)).heap[W.heap.size + 1]? = some (.cells #[.int .i64 0, .int .i64 0, .slice none 0 0, .slice none 0 0] 40 (0, 0)) := by
    have h1 := World.alloc_heap_new (W.alloc (.cells #[.int .i64 v.id.o, .int .i64 v.id.s, .slice v.pg v.ng v.cg, .slice v.ps v.ns v.cs] 40)) (.cells #[.int .i64 0, .int .i64 0, .slice none 0 0, .slice none 0 0] 40)
    rwa [World.size_alloc] at h1
  obtain ⟨W2, hW2⟩ : ∃ W2, ((W.alloc (.cells #[.int .i64 v.id.o, .int .i64 v.id.s, .slice v.pg v.ng v.cg, .slice v.ps v.ns v.cs] 40)).alloc (.cells #[.int .i64 0, .int .i64 0, .slice none 0 0, .slice none 0 0] 40)) = W2 := ⟨_, rfl⟩
  rw [hW2] at hb2 hz k1 k2
  have HC := Lib.hid (copied_any v e W2 (h.grow hb2) (by have := h.ng; have := he.ng; omega) (by have := h.ns; have := he.ns; omega))
  have c0 : W2.cell? ⟨W.heap.size, 0, none⟩ = some (.int .i64 v.id.o) := (cell_of k1).trans rfl
  have c1 : W2.cell? ⟨W.heap.size, 1, none⟩ = some (.int .i64 v.id.s) := (cell_of k1).trans rfl
  have c2 : W2.cell? ⟨W.heap.size, 2, none⟩ = some (.slice v.pg v.ng v.cg) := (cell_of k1).trans rfl
  have c3 : W2.cell? ⟨W.heap.size, 3, none⟩ = some (.slice v.ps v.ns v.cs) := (cell_of k1).trans rfl
  have HFit := Lib.hid he
  have K1 := Lib.hid k1
  have K2 := Lib.hid k2
  have HB := Lib.hid hb2
  obtain ⟨⟨o, i⟩, pg, ng, cg, ps, ns, cs⟩ := v
  simp only at c0 c1 c2 c3 hW2 HC K1
  clear h he hb1 hb2 k1 k2
  go_enter Try.func22, Try.ntmps22
  go_wp2_with fail
  refine HC.out.mono ?_
  rintro en w3 ⟨⟨⟨o', i'⟩, q1, n1, d1, q2, n2, d2⟩, rfl, hE, hbl⟩
  have m1 := (hbl.block W.heap.size (by omega)).trans K1.out
  have m2 := (hbl.block (W.heap.size + 1) (by omega)).trans K2.out
  have f0 : w3.cell? ⟨W.heap.size, 0, none⟩ = some (.int .i64 o) := (cell_of m1).trans rfl
  have f1 : w3.cell? ⟨W.heap.size, 1, none⟩ = some (.int .i64 i) := (cell_of m1).trans rfl
  have f2 : w3.cell? ⟨W.heap.size, 2, none⟩ = some (.slice pg ng cg) := (cell_of m1).trans rfl
  have f3 : w3.cell? ⟨W.heap.size, 3, none⟩ = some (.slice ps ns cs) := (cell_of m1).trans rfl
  have z0 : w3.frozen? ⟨W.heap.size, 0, none⟩ = false := by simp [World.frozen?, m1]
  have z1 : w3.frozen? ⟨W.heap.size, 1, none⟩ = false := by simp [World.frozen?, m1]
  have z2 : w3.frozen? ⟨W.heap.size, 2, none⟩ = false := by simp [World.frozen?, m1]
  have z3 : w3.frozen? ⟨W.heap.size, 3, none⟩ = false := by simp [World.frozen?, m1]
  clear c0 c1 c2 c3 hW2
  obtain ⟨V, hV⟩ : ∃ V : EV, V = ⟨⟨o', i'⟩, q1, n1, d1, q2, n2, d2⟩ := ⟨_, rfl⟩
  have HK0 := Lib.hid (show KI W W.heap.size V e ((((w3.setCell ⟨W.heap.size, 0, none⟩ (.int .i64 o')).setCell ⟨W.heap.size, 1, none⟩ (.int .i64 i')).setCell ⟨W.heap.size, 2, none⟩ (.slice q1 n1 d1)).setCell ⟨W.heap.size, 3, none⟩ (.slice q2 n2 d2)) from by
    subst hV; exact KI.start (v := ⟨⟨o, i⟩, pg, ng, cg, ps, ns, cs⟩) hE hz (HB.out.trans (hbl.mono HB.out.size)) m1 m2)
  have ln1 : e.g.length = n1 := hE.ng
  have ln2 : e.s.length = n2 := hE.ns
  have HBX := Lib.hid (fun (X : World) (h : KI W W.heap.size V e X) => (show X.cell? ⟨W.heap.size, 0, none⟩ = some (.int .i64 o') ∧ X.cell? ⟨W.heap.size, 1, none⟩ = some (.int .i64 i') ∧ X.cell? ⟨W.heap.size, 2, none⟩ = some (.slice q1 n1 d1) ∧ X.cell? ⟨W.heap.size, 3, none⟩ = some (.slice q2 n2 d2) from by have := h.box_at; rw [hV] at this; exact this))
  have HGC := Lib.hid (fun (X : World) (h : KI W W.heap.size V e X) k (hk : k < e.g.length) => (show _ from by have := h.ent.gcell hk; rw [hV] at this; exact this : ∃ b o, q1 = some ⟨b, o, none⟩ ∧ X.cell? ⟨b, o + k * 3, none⟩ = some (.int .i64 e.g[k].kind) ∧ X.cell? ⟨b, o + k * 3 + 1, none⟩ = some (.string e.g[k].key) ∧ X.cell? ⟨b, o + k * 3 + 2, none⟩ = some (.string e.g[k].val) ∧
    X.frozen? ⟨b, o + k * 3, none⟩ = false ∧ X.frozen? ⟨b, o + k * 3 + 1, none⟩ = false ∧ X.frozen? ⟨b, o + k * 3 + 2, none⟩ = false))
  have HSC := Lib.hid (fun (X : World) (h : KI W W.heap.size V e X) k (hk : k < e.s.length) => (show _ from by have := h.ent.scell hk; rw [hV] at this; exact this : ∃ b o, q2 = some ⟨b, o, none⟩ ∧ X.cell? ⟨b, o + k * 5, none⟩ = some (.int .i64 e.s[k].kind) ∧ X.cell? ⟨b, o + k * 5 + 1, none⟩ = some (.string e.s[k].key) ∧ X.cell? ⟨b, o + k * 5 + 2, none⟩ = some (.string e.s[k].val) ∧ X.cell? ⟨b, o + k * 5 + 3, none⟩ = some (.string e.s[k].old) ∧ X.cell? ⟨b, o + k * 5 + 4, none⟩ = some (.int .i64 e.s[k].n) ∧
    X.frozen? ⟨b, o + k * 5, none⟩ = false ∧ X.frozen? ⟨b, o + k * 5 + 1, none⟩ = false ∧ X.frozen? ⟨b, o + k * 5 + 2, none⟩ = false ∧ X.frozen? ⟨b, o + k * 5 + 3, none⟩ = false ∧ X.frozen? ⟨b, o + k * 5 + 4, none⟩ = false))
  have hl1 : n1 ≤ 10 := by rw [← ln1]; exact HFit.out.ng
  have hl2 : n2 ≤ 10 := by rw [← ln2]; exact HFit.out.ns
  have HL1 := Lib.hid ln1
  have HL2 := Lib.hid ln2
  clear hE hbl m1 m2 ln1 ln2 HC K1 K2 HB hz
  go_wp2_with fail
  clear f0 f1 f2 f3 z0 z1 z2 z3
  go_loopw [13] (fun s wr => ∃ k : Nat, s = .int .i64 k ∧ k ≤ n1 ∧ Hid (KI W W.heap.size V e wr)) (fun s _ => n1 - (intOf s).toNat)
  case atStart => exact ⟨0, rfl, Nat.zero_le _, HK0⟩
  case round =>
    clear HK0
    obtain ⟨k, rfl, hkn, hK⟩ := hrel
    by_cases hlt : k < n1
    · have hkG : k < e.g.length := by rw [HL1.out]; exact hlt
      have HX := Lib.hid (fun (X : World) (h : KI W W.heap.size V e X) => HGC.out X h k hkG)
      have hfg := HFit.out.g _ (List.getElem_mem hkG)
      obtain ⟨⟨gk, gs, gv⟩, hg⟩ : ∃ g, e.g[k] = g := ⟨_, rfl⟩
      rw [hg] at HX hfg
      simp only at HX
      obtain ⟨b, off, rfl, c1, c2, c3, _, _, _⟩ := HX.out _ hK.out
      have HY := Lib.hid (fun (X : World) (h : KI W W.heap.size V e X) => (show X.cell? ⟨b, off + k * 3, none⟩ = some (.int .i64 gk) ∧ X.cell? ⟨b, off + k * 3 + 1, none⟩ = some (.string gs) ∧ X.cell? ⟨b, off + k * 3 + 2, none⟩ = some (.string gv) ∧ X.frozen? ⟨b, off + k * 3, none⟩ = false ∧ X.frozen? ⟨b, off + k * 3 + 1, none⟩ = false ∧ X.frozen? ⟨b, off + k * 3 + 2, none⟩ = false from by
        obtain ⟨b', o', e', r⟩ := HX.out X h
        cases e'
        exact r))
      have hs1 : gs.size ≤ 281474976710656 := hfg.2.2.1
      have hs2 : gv.size ≤ 281474976710656 := hfg.2.2.2
      clear hg hfg HX
      have hltz : (k : Int) < (n1 : Int) := by omega
      have h0 : (0 : Int) ≤ (k : Int) := by omega
      go_wp2_with fail
      have HV := Lib.hid (show ∀ X, Below (wr.alloc (.cells #[.int .i64 gk, .string gs, .string gv] 57)).heap.size (wr.alloc (.cells #[.int .i64 gk, .string gs, .string gv] 57)) X →
          X.cell? ⟨wr.heap.size, 0, none⟩ = some (.int .i64 gk) ∧ X.cell? ⟨wr.heap.size, 1, none⟩ = some (.string gs) ∧ X.cell? ⟨wr.heap.size, 2, none⟩ = some (.string gv) ∧ X.frozen? ⟨wr.heap.size, 1, none⟩ = false ∧ X.frozen? ⟨wr.heap.size, 2, none⟩ = false from fun X hX => by
        have e1 := (hX.block wr.heap.size (by simp)).trans (World.alloc_heap_new wr _)
        exact ⟨(cell_of e1).trans rfl, (cell_of e1).trans rfl, (cell_of e1).trans rfl, by simp [World.frozen?, e1], by simp [World.frozen?, e1]⟩)
      have HKX := Lib.hid (fun X (hX : Below (wr.alloc (.cells #[.int .i64 gk, .string gs, .string gv] 57)).heap.size (wr.alloc (.cells #[.int .i64 gk, .string gs, .string gv] 57)) X) => (hK.out.below (below_alloc wr _)).below hX)
      have A1 := Lib.hid (below_drew (wr.alloc (.cells #[.int .i64 gk, .string gs, .string gv] 57)))
      clear c1 c2 c3
      obtain ⟨W5, hW5⟩ : ∃ W5, (wr.alloc (.cells #[.int .i64 gk, .string gs, .string gv] 57)) = W5 := ⟨_, rfl⟩
      rw [hW5] at HV HKX A1 ⊢
      clear hW5
      obtain ⟨a0, a1, a2, a3, a4⟩ := HV.out _ (Below.refl _ _)
      go_region_held3 (fun w' => w'.cell? ⟨wr.heap.size, 1, none⟩ = some (.string gs) ∧ w'.cell? ⟨wr.heap.size, 2, none⟩ = some (.string gv) ∧ w'.frozen? ⟨wr.heap.size, 1, none⟩ = false ∧ w'.frozen? ⟨wr.heap.size, 2, none⟩ = false)
        (first
          | exact (HV.out _ X2.out).2
          | (rw [setCell_same (HV.out _ X2.out).2.1]; exact (HV.out _ X2.out).2)
          | (rw [setCell_same (HV.out _ X2.out).2.1, setCell_same (HV.out _ X2.out).2.2.1]; exact (HV.out _ X2.out).2)
          | exact (HV.out _ X1.out).2
          | exact (HV.out _ A1.out).2
          | exact (HV.out _ (Below.refl _ _)).2)
        (first
          | (go_at_call 28; refine (clone_any gv _ hs2).mono ?_; rintro en x2 ⟨rfl, hb⟩; have X2 := Lib.hid (X1.out.trans (hb.mono X1.out.size)); clear hb)
          | (go_at_call 28; refine (clone_any gs _ hs1).mono ?_; rintro en x1 ⟨rfl, hb⟩; have X1 := Lib.hid (A1.out.trans hb); clear hb))
      obtain ⟨d0, d1', d2', d3', d4'⟩ := HV.out _ X2.out
      rw [setCell_same d1', setCell_same d2']
      have HK2 := Lib.hid (HKX.out _ X2.out)
      obtain ⟨c1, c2, c3, y1, y2, y3⟩ := HY.out _ HK2.out
      obtain ⟨_, _, p2, _⟩ := HBX.out _ HK2.out
      go_wp2_with fail
      rw [setCell_same c1, setCell_same c2, setCell_same c3]
      go_roundw
      case rel => exact ⟨k + 1, by go_num, by omega, HK2⟩
      case measure => simp [intOf]; omega
    · obtain rfl : n1 = k := by omega
      obtain ⟨_, _, _, p3⟩ := HBX.out _ hK.out
      go_wp2_with fail
      clear p3
      go_loopw [37] (fun s wr => ∃ k : Nat, s = .int .i64 k ∧ k ≤ n2 ∧ Hid (KI W W.heap.size V e wr)) (fun s _ => n2 - (intOf s).toNat)
      case atStart => exact ⟨0, rfl, Nat.zero_le _, hK⟩
      case round =>
        clear hK hlt hkn
        obtain ⟨k, rfl, hkn, hK⟩ := hrel
        by_cases hlt : k < n2
        · have hkG : k < e.s.length := by rw [HL2.out]; exact hlt
          have HX := Lib.hid (fun (X : World) (h : KI W W.heap.size V e X) => HSC.out X h k hkG)
          have hfg := HFit.out.s _ (List.getElem_mem hkG)
          obtain ⟨⟨gk, gs, gv, go, gn⟩, hg⟩ : ∃ g, e.s[k] = g := ⟨_, rfl⟩
          rw [hg] at HX hfg
          simp only at HX
          obtain ⟨b, off, rfl, c1, c2, c3, c4, c5, _, _, _, _, _⟩ := HX.out _ hK.out
          have HY := Lib.hid (fun (X : World) (h : KI W W.heap.size V e X) => (show X.cell? ⟨b, off + k * 5, none⟩ = some (.int .i64 gk) ∧ X.cell? ⟨b, off + k * 5 + 1, none⟩ = some (.string gs) ∧ X.cell? ⟨b, off + k * 5 + 2, none⟩ = some (.string gv) ∧ X.cell? ⟨b, off + k * 5 + 3, none⟩ = some (.string go) ∧ X.cell? ⟨b, off + k * 5 + 4, none⟩ = some (.int .i64 gn) ∧
            X.frozen? ⟨b, off + k * 5, none⟩ = false ∧ X.frozen? ⟨b, off + k * 5 + 1, none⟩ = false ∧ X.frozen? ⟨b, off + k * 5 + 2, none⟩ = false ∧ X.frozen? ⟨b, off + k * 5 + 3, none⟩ = false ∧ X.frozen? ⟨b, off + k * 5 + 4, none⟩ = false from by
            obtain ⟨b', o', e', r⟩ := HX.out X h
            cases e'
            exact r))
          have hs1 : gs.size ≤ 281474976710656 := hfg.2.2.1
          have hs2 : gv.size ≤ 281474976710656 := hfg.2.2.2.1
          have hs3 : go.size ≤ 281474976710656 := hfg.2.2.2.2.1
          clear hg hfg HX
          have hltz : (k : Int) < (n2 : Int) := by omega
          have h0 : (0 : Int) ≤ (k : Int) := by omega
          go_wp2_with fail
          have HV := Lib.hid (show ∀ X, Below (wr.alloc (.cells #[.int .i64 gk, .string gs, .string gv, .string go, .int .i64 gn] 59)).heap.size (wr.alloc (.cells #[.int .i64 gk, .string gs, .string gv, .string go, .int .i64 gn] 59)) X →
              X.cell? ⟨wr.heap.size, 0, none⟩ = some (.int .i64 gk) ∧ X.cell? ⟨wr.heap.size, 4, none⟩ = some (.int .i64 gn) ∧ X.cell? ⟨wr.heap.size, 1, none⟩ = some (.string gs) ∧ X.cell? ⟨wr.heap.size, 2, none⟩ = some (.string gv) ∧ X.cell? ⟨wr.heap.size, 3, none⟩ = some (.string go) ∧ X.frozen? ⟨wr.heap.size, 1, none⟩ = false ∧ X.frozen? ⟨wr.heap.size, 2, none⟩ = false ∧ X.frozen? ⟨wr.heap.size, 3, none⟩ = false from fun X hX => by
            have e1 := (hX.block wr.heap.size (by simp)).trans (World.alloc_heap_new wr _)
            exact ⟨(cell_of e1).trans rfl, (cell_of e1).trans rfl, (cell_of e1).trans rfl, (cell_of e1).trans rfl, (cell_of e1).trans rfl, by simp [World.frozen?, e1], by simp [World.frozen?, e1], by simp [World.frozen?, e1]⟩)
          have HKX := Lib.hid (fun X (hX : Below (wr.alloc (.cells #[.int .i64 gk, .string gs, .string gv, .string go, .int .i64 gn] 59)).heap.size (wr.alloc (.cells #[.int .i64 gk, .string gs, .string gv, .string go, .int .i64 gn] 59)) X) => (hK.out.below (below_alloc wr _)).below hX)
          have A1 := Lib.hid (below_drew (wr.alloc (.cells #[.int .i64 gk, .string gs, .string gv, .string go, .int .i64 gn] 59)))
          clear c1 c2 c3 c4 c5
          obtain ⟨W5, hW5⟩ : ∃ W5, (wr.alloc (.cells #[.int .i64 gk, .string gs, .string gv, .string go, .int .i64 gn] 59)) = W5 := ⟨_, rfl⟩
          rw [hW5] at HV HKX A1 ⊢
          clear hW5
          obtain ⟨a0, a00, a1, a2, a3, a4, a5, a6⟩ := HV.out _ (Below.refl _ _)
          go_region_held3 (fun w' => w'.cell? ⟨wr.heap.size, 1, none⟩ = some (.string gs) ∧ w'.cell? ⟨wr.heap.size, 2, none⟩ = some (.string gv) ∧ w'.cell? ⟨wr.heap.size, 3, none⟩ = some (.string go) ∧ w'.frozen? ⟨wr.heap.size, 1, none⟩ = false ∧ w'.frozen? ⟨wr.heap.size, 2, none⟩ = false ∧ w'.frozen? ⟨wr.heap.size, 3, none⟩ = false)
            (first
              | exact (HV.out _ X3.out).2.2
              | (rw [setCell_same (HV.out _ X3.out).2.2.1]; exact (HV.out _ X3.out).2.2)
              | (rw [setCell_same (HV.out _ X3.out).2.2.1, setCell_same (HV.out _ X3.out).2.2.2.1]; exact (HV.out _ X3.out).2.2)
              | (rw [setCell_same (HV.out _ X3.out).2.2.1, setCell_same (HV.out _ X3.out).2.2.2.1, setCell_same (HV.out _ X3.out).2.2.2.2.1]; exact (HV.out _ X3.out).2.2)
              | exact (HV.out _ X2.out).2.2
              | exact (HV.out _ X1.out).2.2
              | exact (HV.out _ A1.out).2.2
              | exact (HV.out _ (Below.refl _ _)).2.2)
            (first
              | (go_at_call 28; refine (clone_any go _ hs3).mono ?_; rintro en x3 ⟨rfl, hb⟩; have X3 := Lib.hid (X2.out.trans (hb.mono X2.out.size)); clear hb)
              | (go_at_call 28; refine (clone_any gv _ hs2).mono ?_; rintro en x2 ⟨rfl, hb⟩; have X2 := Lib.hid (X1.out.trans (hb.mono X1.out.size)); clear hb)
              | (go_at_call 28; refine (clone_any gs _ hs1).mono ?_; rintro en x1 ⟨rfl, hb⟩; have X1 := Lib.hid (A1.out.trans hb); clear hb))
          obtain ⟨d0, d00, d1', d2', d3', d4', d5', d6'⟩ := HV.out _ X3.out
          rw [setCell_same d1', setCell_same d2', setCell_same d3']
          have HK2 := Lib.hid (HKX.out _ X3.out)
          obtain ⟨c1, c2, c3, c4, c5, y1, y2, y3, y4, y5⟩ := HY.out _ HK2.out
          obtain ⟨_, _, _, p3⟩ := HBX.out _ HK2.out
          go_wp2_with fail
          rw [setCell_same c1, setCell_same c2, setCell_same c3, setCell_same c4, setCell_same c5]
          go_roundw
          case rel => exact ⟨k + 1, by go_num, by omega, HK2⟩
          case measure => simp [intOf]; omega
        · obtain rfl : k = n2 := by omega
          obtain ⟨p0, p1, p2, p3⟩ := HBX.out _ hK.out
          have hr := hK.out.res
          have r0 : wr.cell? ⟨W.heap.size + 1, 0, none⟩ = some (.int .i64 0) := (cell_of hr).trans rfl
          have r1 : wr.cell? ⟨W.heap.size + 1, 1, none⟩ = some (.int .i64 0) := (cell_of hr).trans rfl
          have r2 : wr.cell? ⟨W.heap.size + 1, 2, none⟩ = some (.slice none 0 0) := (cell_of hr).trans rfl
          have r3 : wr.cell? ⟨W.heap.size + 1, 3, none⟩ = some (.slice none 0 0) := (cell_of hr).trans rfl
          have z0 : wr.frozen? ⟨W.heap.size + 1, 0, none⟩ = false := by simp [World.frozen?, hr]
          have z1 : wr.frozen? ⟨W.heap.size + 1, 1, none⟩ = false := by simp [World.frozen?, hr]
          have z2 : wr.frozen? ⟨W.heap.size + 1, 2, none⟩ = false := by simp [World.frozen?, hr]
          have z3 : wr.frozen? ⟨W.heap.size + 1, 3, none⟩ = false := by simp [World.frozen?, hr]
          have HFin := Lib.hid (show CopiedE e W (.returned (.agg #[.int .i64 o', .int .i64 i', .slice q1 n1 d1, .slice q2 k d2])) ((((wr.setCell ⟨W.heap.size + 1, 0, none⟩ (.int .i64 o')).setCell ⟨W.heap.size + 1, 1, none⟩ (.int .i64 i')).setCell ⟨W.heap.size + 1, 2, none⟩ (.slice q1 n1 d1)).setCell ⟨W.heap.size + 1, 3, none⟩ (.slice q2 k d2)) from by
            have hE := hK.out.ent
            have keep : ∀ j, W.heap.size + 2 ≤ j → ((((wr.setCell ⟨W.heap.size + 1, 0, none⟩ (.int .i64 o')).setCell ⟨W.heap.size + 1, 1, none⟩ (.int .i64 i')).setCell ⟨W.heap.size + 1, 2, none⟩ (.slice q1 n1 d1)).setCell ⟨W.heap.size + 1, 3, none⟩ (.slice q2 k d2)).heap[j]? = wr.heap[j]? := fun j hj => by
              iterate 4 rw [Below.heap_setCell _ _ _ _ (by dsimp only; omega)]
            refine ⟨V, by rw [hV], ⟨hE.id, hE.g.stays (fun j hj => keep j (hE.bg j hj)), hE.s.stays (fun j hj => keep j (hE.bs j hj)), hE.ng, hE.ns, fun j hj => by have := hE.bg j hj; omega, fun j hj => by have := hE.bs j hj; omega⟩, (((hK.out.low.setCell (by dsimp only; omega) _).setCell (by dsimp only; omega) _).setCell (by dsimp only; omega) _).setCell (by dsimp only; omega) _⟩)
          clear hr hK
          go_wp2_with fail
          refine bodyPost_ret (v := .agg #[.int .i64 o', .int .i64 i', .slice q1 n1 d1, .slice q2 k d2]) (by rw [results_one (by rfl)]; go_simp) rfl ?_
          exact HFin.out

end Go.Proofs.Ytkfnndhoccjffaa
