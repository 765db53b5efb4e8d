/-
  The reference's Pin on a tape: where the routine within another one stands, it stands.
-/
import Derived.Test.YtpnfbabiibopnaaGreatQ12
import Derived.Test.YtpnfbabiibopnaaGreatQ13
import Derived.Test.YtpnfbabiibopnaaGreatCref
import Derived.StillTailTactics
namespace Go.Proofs.YtpnfbabiibopnaaGreat
open Go Go.RowKit
attribute [local go_sem ↓] Go.wp_at_zero Go.wp_at_succ

abbrev rpnO (n e : Int) (b : Bool) : Obj := .cells #[.int .i64 n, .int .u64 e, .bool b] 75 (0, 0)
theorem load_rpn {X : World} {m : Nat} {n e : Int} {b : Bool} (h : X.heap[m]? = some (rpnO n e b)) : (loadVar 75 ⟨m, 0, none⟩).run Tryz.prog X = .ok (pndV n e b) X := by
  obtain ⟨m0, m1, m2⟩ := pnd_at h
  go_simp
structure PrefI (W : World) (a p s q v x : Int) (b : Nat) (ga : Option Addr) (c : Nat) (G : List (Int × ByteArray)) (T : TapD) (X : World) : Prop where
  tp : TapAt X b ga c G T
  cf : X.heap[W.heap.size]? = some (.cells (cfC a p s q v x) 24 (0, 0))
  re : X.heap[W.heap.size + 1]? = some (rpnO 0 0 false)
  st : Step (fun k => k = b) (fun k => k = b) W X
  lt : b < W.heap.size
section
variable {W X Y : World} {a p s q v x : Int} {b c : Nat} {ga : Option Addr} {G : List (Int × ByteArray)} {T T' : TapD}
theorem PrefI.below (h : PrefI W a p s q v x b ga c G T X) (hb : Below X.heap.size X Y) : PrefI W a p s q v x b ga c G T Y :=
  ⟨h.tp.below hb, (hb.block _ (heap_at_lt h.cf)).trans h.cf, (hb.block _ (heap_at_lt h.re)).trans h.re, h.st.trans (Step.of_below hb), h.lt⟩
theorem PrefI.next (h : PrefI W a p s q v x b ga c G T X) (ht : TapAt Y b ga c G T') (hs : Step (fun k => k = b) (fun k => k = b) X Y) : PrefI W a p s q v x b ga c G T' Y :=
  ⟨ht, (hs.block _ (heap_at_lt h.cf) (by have := h.lt; omega)).trans h.cf, (hs.block _ (heap_at_lt h.re) (by have := h.lt; omega)).trans h.re, h.st.trans hs, h.lt⟩
theorem PrefI.six (h : PrefI W a p s q v x b ga c G T X) : SixC W.heap.size a p s q v x X :=
  ⟨(cell_of h.cf).trans rfl, (cell_of h.cf).trans rfl, (cell_of h.cf).trans rfl, (cell_of h.cf).trans rfl, (cell_of h.cf).trans rfl, (cell_of h.cf).trans rfl⟩
/-- What a reference's Pin comes to. -/
def PinR {σ : Type} {M : Mach σ} {ι : Nat → PinD → σ} {I : PinD → Prop} (em : Emb PinM M ι I) (a p s q v x th : Int) (G : List (Int × ByteArray)) (R0 : σ) (T : TapD) (R : Int × Int × Bool) : Prop :=
  Ovr M G R0 T ∨ (Foi em G R0 T (takenP a p s q v x) ∧ R = (0, 0, true)) ∨ (∃ (e : Int) (i : Nat), (i : Int) < p ∧ Foi em G R0 T (gotP a p s q v x th e i) ∧ R = (wayP th p i, e, false))
def PrefR {σ : Type} {M : Mach σ} {ι : Nat → PinD → σ} {I : PinD → Prop} (em : Emb PinM M ι I) (R0 : σ) (a p s q v x th : Int) (b : Nat) (ga : Option Addr) (c : Nat) (G : List (Int × ByteArray)) (W : World) (e : Ending) (W' : World) : Prop :=
  ∃ (T : TapD) (n ep : Int) (tk : Bool), e = .returned (pndV n ep tk) ∧ TapAt W' b ga c G T ∧ Step (fun k => k = b) (fun k => k = b) W W' ∧ PinR em a p s q v x th G R0 T (n, ep, tk)
theorem pref_fin {σ : Type} {M : Mach σ} {ι : Nat → PinD → σ} {I : PinD → Prop} {em : Emb PinM M ι I} {R0 : σ} {th : Int} (h : PrefI W a p s q v x b ga c G T X) (hga : ∀ a, ga = some a → a.block < W.heap.size) {n ep : Int} {tk : Bool} (hR : PinR em a p s q v x th G R0 T (n, ep, tk)) {Z : Array Value} (hp : Z.getD 6 undef = .pointer (some ⟨W.heap.size + 1, 0, none⟩)) :
    bodyPost Tryz.prog Tryz.f26 (PrefR em R0 a p s q v x th b ga c G W) .ret { tmps := Z, defers := [] } (((X.setCell ⟨W.heap.size + 1, 0, none⟩ (.int .i64 n)).setCell ⟨W.heap.size + 1, 1, none⟩ (.int .u64 ep)).setCell ⟨W.heap.size + 1, 2, none⟩ (.bool tk)) := by
  have hk : ∀ j, j ≠ W.heap.size + 1 → (((X.setCell ⟨W.heap.size + 1, 0, none⟩ (.int .i64 n)).setCell ⟨W.heap.size + 1, 1, none⟩ (.int .u64 ep)).setCell ⟨W.heap.size + 1, 2, none⟩ (.bool tk)).heap[j]? = X.heap[j]? := fun j hj => by
    rw [Below.heap_setCell _ _ _ _ hj, Below.heap_setCell _ _ _ _ hj, Below.heap_setCell _ _ _ _ hj]
  have h2 : (((X.setCell ⟨W.heap.size + 1, 0, none⟩ (.int .i64 n)).setCell ⟨W.heap.size + 1, 1, none⟩ (.int .u64 ep)).setCell ⟨W.heap.size + 1, 2, none⟩ (.bool tk)).heap[W.heap.size + 1]? = some (rpnO n ep tk) := heap_setAt (heap_setAt (heap_setAt h.re))
  refine bodyPost_ret (v := pndV n ep tk) (by rw [results_cell1 (by rfl), hp]; simp only [asAddr, Sem.run_pure, Result.andThen_ok, load_rpn h2]) rfl ⟨T, n, ep, tk, rfl, ⟨(hk b (by have := h.lt; omega)).trans h.tp.own, h.tp.row.apart (fun a ha => hk _ (by have := hga a ha; omega)), h.tp.off, h.tp.k, h.tp.many⟩, ?_, hR⟩
  exact ⟨h.st.os, h.st.tape, h.st.output, by simpa [World.setCell] using h.st.size, fun j h1 h2 => (hk j (by omega)).trans (h.st.block j h1 h2), fun j hj => .inl hj⟩
end
/-- At the head of the first loop: the i-th pin is tried, or all were. -/
def HeadP {σ : Type} {M : Mach σ} {ι : Nat → PinD → σ} {I : PinD → Prop} (em : Emb PinM M ι I) (R0 : σ) (a p s q v x th : Int) (G : List (Int × ByteArray)) (i : Nat) (e : Int) (T : TapD) : Prop :=
  Ovr M G R0 T ∨ Foi em G R0 T (if (i : Int) < p then tryP a p s q v x th e i else takenP a p s q v x)
/-- At the head of the second: the i-th pin is had. -/
def HadP {σ : Type} {M : Mach σ} {ι : Nat → PinD → σ} {I : PinD → Prop} (em : Emb PinM M ι I) (R0 : σ) (a p s q v x th : Int) (G : List (Int × ByteArray)) (i : Nat) (e : Int) (T : TapD) : Prop :=
  Ovr M G R0 T ∨ Foi em G R0 T ((tryP a p s q v x th e i).to 3)
section
variable {σ : Type} {M : Mach σ} {ι : Nat → PinD → σ} {I : PinD → Prop} {em : Emb PinM M ι I} {R0 : σ} {a p s q v x th e : Int} {G : List (Int × ByteArray)} {i : Nat} {T : TapD}
theorem head_swap (h : Foi em G R0 T (tryP a p s q v x th e i)) (hr : rightC a p s q v = true) (hi : (i : Int) < p) (hG : ∀ g ∈ G, (0 ≤ g.1 ∧ g.1 < 18446744073709551616)) {cc : Nat} (hc : (3 + wayP th p i).toNat = cc) :
    (doW' G T = 0 ∧ HadP em R0 a p s q v x th G i e (onT G T (swapE (cc : Int) e))) ∨ (∃ w, doW' G T = w ∧ w ≠ 0 ∧ HeadP em R0 a p s q v x th G (i + 1) e (onT G T (swapE (cc : Int) e))) := by
  have hx : PinM.next (tryP a p s q v x th e i) = some (swapE (cc : Int) e) := by
    show some (swapE (tryP a p s q v x th e i).cell e) = _
    rw [tryP_cell hr, hc]
  rcases h.next hx hG with ⟨h1, h2, _⟩ | ⟨w, t, h1, h2, h3, _, h4, _⟩
  · exact .inl ⟨h2, .inl h1⟩
  · rw [PinM_take, takeP_2 rfl] at h4
    by_cases hw : w = 0
    · rw [if_pos hw] at h4
      exact .inl ⟨h1.trans hw, .inr h4⟩
    · rw [if_neg hw] at h4
      refine .inr ⟨w, h1, hw, .inr ?_⟩
      have e1 : (tryP a p s q v x th e i).miss = if ((i + 1 : Nat) : Int) < p then tryP a p s q v x th e (i + 1) else takenP a p s q v x := by
        unfold PinD.miss
        show (if (i : Int) + 1 = p then (⟨a, p, s, q, v, x, 5, (i : Int) + 1, 0, 0, true⟩ : PinD) else ⟨a, p, s, q, v, x, 2, (i : Int) + 1, (wayP th p i + 1) % p, e, false⟩) = _
        by_cases hm : (i : Int) + 1 = p
        · rw [if_pos hm, if_neg (by omega), hm]; rfl
        · rw [if_neg hm, if_pos (by omega), wayP_succ]; rfl
      rw [e1] at h4
      exact h4
theorem had_load (h : Foi em G R0 T ((tryP a p s q v x th e i).to 3)) (hi : (i : Int) < p) (hG : ∀ g ∈ G, (0 ≤ g.1 ∧ g.1 < 18446744073709551616)) :
    Ovr M G R0 (onT G T loadE) ∨
    (doW' G T = e ∧ (onT G T loadE).over = false ∧ PinR em a p s q v x th G R0 (onT G T loadE) (wayP th p i, e, false)) ∨
    (∃ w, doW' G T = w ∧ w ≠ e ∧ (onT G T loadE).over = false ∧ (onT G T loadE).k = T.k + 1 ∧ Foi em G R0 (onT G T loadE) ((tryP a p s q v x th w i).to 4)) := by
  have hx : PinM.next ((tryP a p s q v x th e i).to 3) = some loadE := rfl
  rcases h.next hx hG with ⟨h1, h2, _⟩ | ⟨w, t, h1, h2, h3, _, h4, h5⟩
  · exact .inl h1
  · rw [PinM_take, takeP_3 rfl] at h4
    by_cases hw : w = e
    · have h4' : Foi em G R0 (onT G T loadE) (gotP a p s q v x th e i) := by
        rw [show (if w = ((tryP a p s q v x th e i).to 3).ep then ((tryP a p s q v x th e i).to 3).to 5 else ((tryP a p s q v x th e i).to 3).at 4 w) = gotP a p s q v x th e i from if_pos hw] at h4
        exact h4
      exact .inr (.inl ⟨h1.trans hw, h4'.on, (.inr (.inr ⟨e, i, hi, h4', rfl⟩))⟩)
    · have h4' : Foi em G R0 (onT G T loadE) ((tryP a p s q v x th w i).to 4) := by
        rw [show (if w = ((tryP a p s q v x th e i).to 3).ep then ((tryP a p s q v x th e i).to 3).to 5 else ((tryP a p s q v x th e i).to 3).at 4 w) = (tryP a p s q v x th w i).to 4 from if_neg hw] at h4
        exact h4
      exact .inr (.inr ⟨w, h1, hw, h4'.on, h5, h4'⟩)
theorem had_store (h : Foi em G R0 T ((tryP a p s q v x th e i).to 4)) (hr : rightC a p s q v = true) (hG : ∀ g ∈ G, (0 ≤ g.1 ∧ g.1 < 18446744073709551616)) {cc : Nat} (hc : (3 + wayP th p i).toNat = cc) :
    HadP em R0 a p s q v x th G i e (onT G T (storeE (cc : Int) e)) ∧ T.k ≤ (onT G T (storeE (cc : Int) e)).k := by
  have hx : PinM.next ((tryP a p s q v x th e i).to 4) = some (storeE (cc : Int) e) := by
    show some (storeE (tryP a p s q v x th e i).cell e) = _
    rw [tryP_cell hr, hc]
  rcases h.next hx hG with ⟨h1, h2, _⟩ | ⟨w, t, h1, h2, h3, _, h4, h5⟩
  · exact ⟨.inl h1, by rw [h1.k]; exact h.k⟩
  · rw [PinM_take, takeP_4 rfl] at h4
    exact ⟨.inr h4, by omega⟩
theorem new_load (hp : 1 ≤ p) (h : Foi em G R0 T (newP a p s q v x th)) (hG : ∀ g ∈ G, (0 ≤ g.1 ∧ g.1 < 18446744073709551616)) :
    0 ≤ doW' G T ∧ doW' G T < 18446744073709551616 ∧ HeadP em R0 a p s q v x th G 0 (doW' G T) (onT G T loadE) := by
  rcases h.next (x := loadE) rfl hG with ⟨h1, h2, _⟩ | ⟨w, t, h1, h2, h3, _, h4, _⟩
  · rw [h2]; exact ⟨by omega, by omega, .inl h1⟩
  · rw [h1]
    refine ⟨h3.1, h3.2, .inr ?_⟩
    rw [PinM_take, takeP_1 rfl] at h4
    rw [if_pos (by omega)]
    have e : (newP a p s q v x th).at 2 w = tryP a p s q v x th w 0 := by
      show (⟨a, p, s, q, v, x, 2, 0, th % p, w, false⟩ : PinD) = ⟨a, p, s, q, v, x, 2, 0, wayP th p 0, w, false⟩
      rw [wayP_zero th p hp]
    rw [← e]; exact h4
end

end Go.Proofs.YtpnfbabiibopnaaGreat
