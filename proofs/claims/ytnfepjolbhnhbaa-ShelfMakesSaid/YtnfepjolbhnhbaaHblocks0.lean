/-
  A heap's Blocks, where there is none.
-/
import Derived.Test.YtnfepjolbhnhbaaHsort0
namespace Go.Proofs.Ytnfepjolbhnhbaa
open Go Go.RowKit Go.Shelf
attribute [local go_sem ↓] Go.wp_at_zero Go.wp_at_succ

theorem keysfn_any (W : World) (mb : Option Nat) : Calls Try.prog 28 #[.map mb] W fun e W' =>
    e = .returned (.func (.func 37) #[] #[.pointer (some ⟨W.heap.size, 0, none⟩)]) ∧ W' = W.alloc (.cells #[.map mb] 64) := by
  go_enter Try.func28, Try.ntmps28
  go_wp2
  go_ret
  exact ⟨rfl, rfl⟩

/-- What Collect leaves: the keys, in some order. -/
def CollR (W : World) (S : List Int → Prop) (N : Nat) (e : Ending) (W' : World) : Prop := ∃ v ss, e = .returned v ∧ S ss ∧ ss.length ≤ N ∧ RowU W v ss W'
theorem collect_map (W : World) (Bm b nn : Nat) (D : MapV) (hm : W.cell? ⟨Bm, 0, none⟩ = some (.map (some b))) (hown : W.ownsMap Try.prog 22 anyElem b nn D) (hN : Maps.size D ≤ 1000000) :
    Calls Try.prog 35 #[.func (.func 37) #[] #[.pointer (some ⟨Bm, 0, none⟩)]] W (CollR W (AllKeys D) (Maps.size D)) :=
  callsIn_wide.1 (collect_in Fence.wide 4 (fun _ => trivial) rfl (by omega) Bm (Maps.size D) (AllKeys D) W (fun X hX => keys_stops Fence.wide 2 (fun _ => trivial) rfl (by omega) Bm b nn D X ((hX.cell (p := ⟨Bm, 0, none⟩) (cell_lt hm)).trans hm) (by
    have hbl := hown.lt
    obtain ⟨es, clock, hb, Ft, hs, hD⟩ := hown
    exact ⟨es, clock, (hX.block b hbl).trans hb, Ft, hs, hD⟩)) hN)
theorem collect_nil (W : World) (Bm : Nat) (hm : W.cell? ⟨Bm, 0, none⟩ = some (.map none)) :
    Calls Try.prog 35 #[.func (.func 37) #[] #[.pointer (some ⟨Bm, 0, none⟩)]] W (CollR W (fun ss => ss = []) 0) :=
  callsIn_wide.1 (collect_in Fence.wide 4 (fun _ => trivial) rfl (by omega) Bm 0 (fun ss => ss = []) W (fun X hX => keys_stops_nil Fence.wide 2 (fun _ => trivial) rfl Bm X ((hX.cell (p := ⟨Bm, 0, none⟩) (cell_lt hm)).trans hm)) (by omega))

/-- Nothing is put into order. -/
theorem sorted_none (W : World) (Bm : Nat) (S : List Int → Prop) (N : Nat) (hS : ∀ ss, S ss → ss = []) (h : Calls Try.prog 35 #[.func (.func 37) #[] #[.pointer (some ⟨Bm, 0, none⟩)]] W (CollR W S N)) :
    Calls Try.prog 27 #[.func (.func 37) #[] #[.pointer (some ⟨Bm, 0, none⟩)]] W fun e W' => e = .returned (.slice none 0 0) ∧ Below W.heap.size W W' := by
  have H := Lib.hid h
  have HS := Lib.hid hS
  clear h hS
  go_enter Try.func27, Try.ntmps27
  go_wp2_with fail
  refine H.out.mono ?_
  rintro e w1 ⟨v, ss, rfl, h1, _, h2, h3, h4⟩
  obtain rfl := HS.out ss h1
  obtain rfl := h3.2 rfl
  have HB := Lib.hid h4
  clear h1 h2 h3 h4
  go_wp2_with fail
  refine (sort_none _ _ _).mono ?_
  rintro e w2 ⟨rfl, rfl⟩
  go_wp2_with fail
  go_ret
  exact ⟨rfl, HB.out⟩

theorem key_range {W : World} {m n : Nat} {D : MapV} (h : W.ownsMap Try.prog 22 anyElem m n D) {x : Int} (hx : Maps.has D (.int .u64 x) = true) : 0 ≤ x ∧ x ≤ 18446744073709551615 := by
  obtain ⟨es, clock, hb, F, hs, rfl⟩ := h
  obtain ⟨q, hq, hk⟩ := List.any_eq_true.1 hx
  have hq1 := Go.WideAt.sameKey_eq hk
  obtain ⟨v, hv⟩ := Maps.fit_keys F q (mem_sorted.1 hq)
  obtain ⟨x', _, e1, hw⟩ := Maps.keyOf_int_inv Try.underlying22 hv
  rw [hq1] at e1
  obtain rfl : x = x' := (Lit.int.inj e1).2
  simp [Lit.wf, IntKind.min, IntKind.max, IntKind.signed, IntKind.bits] at hw
  omega

/-- No block is there. -/
def NoneThere (L : List BlkD) : Prop := ∀ k, liveAt L k = none
theorem NoneThere.nil : NoneThere [] := liveAt_nil

theorem sorted_heap_none {W W1 : World} {B p : Nat} {D : HpD} {f : Nat → Prop} {mb : Option Nat} {g cp : Nat → Nat} (h : HpAt W B p D f mb g cp) (hno : NoneThere D.L) (hb : Below W.heap.size W W1) (Bm : Nat) (hm : W1.cell? ⟨Bm, 0, none⟩ = some (.map mb)) :
    Calls Try.prog 27 #[.func (.func 37) #[] #[.pointer (some ⟨Bm, 0, none⟩)]] W1 fun e W' => e = .returned (.slice none 0 0) ∧ Below W1.heap.size W1 W' := by
  have h1 := h.below hb
  rcases h1.map with ⟨h0, _⟩ | ⟨m, h0, D', hM, hat⟩
  · rw [h0] at hm
    exact sorted_none W1 Bm _ 0 (fun _ h => h) (collect_nil W1 Bm hm)
  · rw [h0] at hm
    refine sorted_none W1 Bm (AllKeys D') _ (fun ss hs => ?_) (collect_map W1 Bm m D.L.length D' hm hM (Nat.le_trans hM.size_le h.many.1))
    rcases hss : ss with _ | ⟨x, r⟩
    · rfl
    · exfalso
      have hx : Maps.has D' (.int .u64 x) = true := (hs.2 x).1 (by rw [hss]; simp)
      obtain ⟨hx0, hx1⟩ := key_range hM hx
      have hhas := has_of hat (show x.toNat < 18446744073709551616 by omega)
      rw [phi_none (hno _), Int.toNat_of_nonneg hx0, hx] at hhas
      cases hhas

set_option maxRecDepth 100000 in
theorem blocks_none (W : World) {B p : Nat} {D : HpD} {f : Nat → Prop} (h : Hp W B p D f) (hno : NoneThere D.L) : Calls Try.prog 17 #[.pointer (some ⟨p, 0, none⟩)] W fun e W' => e = .returned (.slice none 0 0) ∧ Below W.heap.size W W' := by
  obtain ⟨mb, g, cp, h⟩ := h
  obtain ⟨c0, _⟩ := h.cells
  have hb := below_alloc W (.cells #[.map mb] 64)
  have HS := Lib.hid (sorted_heap_none h hno hb W.heap.size ((cell_of (World.alloc_heap_new W _)).trans rfl))
  have HB := Lib.hid hb
  clear h hno hb
  go_enter Try.func17, Try.ntmps17
  go_wp2_with fail
  refine (keysfn_any _ _).mono ?_
  rintro e w1 ⟨rfl, rfl⟩
  go_wp2_with fail
  refine HS.out.mono ?_
  rintro e w2 ⟨rfl, hb2⟩
  have HB2 := Lib.hid (HB.out.trans (hb2.mono HB.out.size))
  clear hb2
  go_wp2_with fail
  go_ret
  exact ⟨rfl, HB2.out⟩

end Go.Proofs.Ytnfepjolbhnhbaa
