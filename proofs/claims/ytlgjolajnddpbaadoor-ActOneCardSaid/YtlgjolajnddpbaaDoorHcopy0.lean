/-
  A heap's Copy, of a heap that has no map yet; the chapter's example.
-/
import Derived.Test.YtlgjolajnddpbaaDoorHblocks0
namespace Go.Proofs.YtlgjolajnddpbaaDoor
open Go Go.RowKit Go.Shelf
attribute [local go_sem ↓] Go.wp_at_zero Go.wp_at_succ

/-- What Copy leaves. -/
def CopyR (D : HpD) (W : World) (e : Ending) (W' : World) : Prop := ∃ q f', e = .returned (.pointer (some ⟨q, 0, none⟩)) ∧ Hp W' W.heap.size q D f' ∧ Below W.heap.size W W'

theorem run_makeMap_hint (c : Int) (w : World) : (Instr.makeMap 56 (some (.int .i64 c))).run Tryd.prog w = .ok (.map (some w.heap.size)) (w.alloc (.map #[] 0)) := by
  simp [Instr.makeMap, run_underlying Tryd.underlying56, asInt, asIntOf, Result.andThen]

/-- A heap of no blocks, by its record. -/
theorem HpAt.mk0 {W : World} {B q m : Nat} {D : HpD} (hL : D.L = []) (hf : D.faults ≤ 1000000) (hq : W.heap[q]? = some (.cells #[.map (some m), .int .u64 0, .bool D.locked, .int .i64 D.faults] 58 (0, 0))) (hM : Mapped W m 0 (fun _ => none)) (hBq : B ≤ q) (hBm : B ≤ m) :
    Hp W B q D (fun k => k = q ∨ some m = some k ∨ ∃ j b, liveAt D.L j = some b ∧ (0 : Nat) = k) := by
  have hno : ∀ k b, liveAt D.L k ≠ some b := fun k b e => by rw [hL, liveAt_nil] at e; cases e
  refine ⟨some m, fun _ => 0, fun _ => 0, ?_, .inr ⟨m, rfl, ?_⟩, fun k b hb => absurd hb (hno k b), fun k k' b b' hb => absurd hb (hno k b), rfl, fun k hk => ?_, ⟨by rw [hL]; exact Nat.zero_le _, hf⟩, fun k b hb => absurd hb (hno k b)⟩
  · rw [hL]; exact hq
  · rw [hL]; exact hM.same (fun k _ => phi_none (liveAt_nil k))
  · rcases hk with hk | hk | ⟨j, b, hj, _⟩
    · rw [hk]; exact hBq
    · cases hk; exact hBm
    · exact absurd hj (hno j b)

set_option maxRecDepth 100000 in
set_option maxHeartbeats 1000000 in
theorem copy_none {W : World} {B p : Nat} {D : HpD} {f : Nat → Prop} {g cp : Nat → Nat} (h : HpAt W B p D f none g cp) :
    Calls Tryd.prog 26 #[.pointer (some ⟨p, 0, none⟩)] W (CopyR D W) := by
  have hL : D.L = [] := by
    rcases h.map with ⟨_, h0⟩ | ⟨m, h1, _⟩
    · exact h0
    · cases h1
  obtain ⟨c0, c1, c2, c3, _⟩ := h.cells
  have hfl := h.many.2
  have hp := h.plt
  have HFin := Lib.hid (fun X m (hq : X.heap[W.heap.size]? = some (.cells #[.map (some m), .int .u64 0, .bool D.locked, .int .i64 D.faults] 58 (0, 0))) hM hBm => HpAt.mk0 (W := X) (B := W.heap.size) (m := m) hL hfl hq hM (Nat.le_refl _) hBm)
  rw [hL] at c1
  simp only [List.length_nil, Int.natCast_zero] at c1
  obtain ⟨l, hl⟩ : ∃ l, D.locked = l := ⟨_, rfl⟩
  obtain ⟨fl, hfl'⟩ : ∃ fl, (D.faults : Int) = fl := ⟨_, rfl⟩
  rw [hl] at c2 HFin
  rw [hfl'] at c3 HFin
  have hln := fun ty => Maps.len_nil (P := Tryd.prog) (w := W.alloc (.cells #[.map none, .int .u64 0, .bool l, .int .i64 fl] 58)) Tryd.underlying56 ty
  have hmk := run_makeMap_hint
  clear h hL hl hfl hfl'
  obtain ⟨R, hR⟩ : ∃ R : Obj, R = .cells #[.map (some (W.heap.size + 1)), .int .u64 0, .bool l, .int .i64 fl] 58 := ⟨_, rfl⟩
  have hrg := run_range_nilMap (P := Tryd.prog) ((W.alloc R).alloc (.map #[] 0)) 56 32 77 Tryd.underlying56
  have hnx : ∀ ty, (Instr.next (.pointer (some ⟨((W.alloc R).alloc (.map #[] 0)).heap.size, 0, none⟩)) false ty).run Tryd.prog (((W.alloc R).alloc (.map #[] 0)).alloc (.mapIter none 0 #[] 0)) = _ := fun ty => run_next_nilMap _ ty 0 0 #[]
  have e1 : ((W.alloc R).alloc (.map #[] 0)).heap.size = W.heap.size + 1 + 1 := by simp
  rw [e1] at hrg hnx
  have HB := Lib.hid (show Below W.heap.size W (((W.alloc R).alloc (.map #[] 0)).alloc (.mapIter none 0 #[] 0)) from ((below_alloc W R).alloc (by simp) _).alloc (by simp; omega) _)
  have HP := Lib.hid (HFin.out (((W.alloc R).alloc (.map #[] 0)).alloc (.mapIter none 0 #[] 0)) (W.heap.size + 1) (by
      rw [Below.heap_alloc _ _ _ (by simp; omega), Below.heap_alloc _ _ _ (by simp), World.alloc_heap_new, hR])
    (by
      have := (Mapped.made (W.alloc R)).stays (W' := ((W.alloc R).alloc (.map #[] 0)).alloc (.mapIter none 0 #[] 0)) (Below.heap_alloc _ _ _ (by simp))
      simpa using this) (by omega))
  subst hR
  clear e1
  go_enter Tryd.func26, Tryd.ntmps26
  go_wp2_with fail
  refine wp_loop_rounds 1 ?_
  rw [rounds_succ]
  go_wp2_with fail
  go_ret
  exact ⟨W.heap.size, _, rfl, HP.out, HB.out⟩

end Go.Proofs.YtlgjolajnddpbaaDoor
