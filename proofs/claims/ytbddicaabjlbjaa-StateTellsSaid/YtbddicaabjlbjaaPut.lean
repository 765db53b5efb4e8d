/-
  The table's methods that turn it: Put and Delete.
-/
import Derived.Test.YtbddicaabjlbjaaMeth
import Derived.Deep.RegionHeld3
import Derived.Deep.AppendLies
import Derived.Deep.RegionLaw
import Derived.Deep.DrawnRows
namespace Go.Proofs.Ytbddicaabjlbjaa
open Go Go.RowKit
attribute [local go_sem ↓] Go.wp_at_zero Go.wp_at_succ

/-- What lies behind a call that turns the table at p into D'. -/
def Turned (p : Nat) (D' : Pairs) (f : Nat → Prop) (v : Value) (W : World) (e : Ending) (W' : World) : Prop :=
  ∃ f', e = .returned v ∧ Tab W' p D' f' ∧ Step f f' W W'

theorem heap_setCell_0 {W : World} {p : Nat} {a b u : Value} {t : TypeId} {fr : Nat × Nat} (h : W.heap[p]? = some (.cells #[a, b] t fr)) : (W.setCell ⟨p, 0, none⟩ u).heap[p]? = some (.cells #[u, b] t fr) := by
  obtain ⟨hlt, hk⟩ := Array.getElem?_eq_some_iff.1 h
  show (W.heap.modify p _)[p]? = _
  rw [Array.getElem?_eq_getElem (by rw [Array.size_modify]; exact hlt), Array.getElem_modify_self, hk]
  rfl
theorem heap_setCell_1 {W : World} {p : Nat} {a b u : Value} {t : TypeId} {fr : Nat × Nat} (h : W.heap[p]? = some (.cells #[a, b] t fr)) : (W.setCell ⟨p, 1, none⟩ u).heap[p]? = some (.cells #[a, u] t fr) := by
  obtain ⟨hlt, hk⟩ := Array.getElem?_eq_some_iff.1 h
  show (W.heap.modify p _)[p]? = _
  rw [Array.getElem?_eq_getElem (by rw [Array.size_modify]; exact hlt), Array.getElem_modify_self, hk]
  rfl
theorem grown_setCell (W : World) (p o : Nat) (u : Value) : W.grownBy (W.setCell ⟨p, o, none⟩ u) (some p) := ((SameBut.refl p W).setCell o u).grown

/-- A row's block is not the table's own. -/
theorem row_ne {W : World} {p : Nat} {a b : Value} (h : W.heap[p]? = some (.cells #[a, b] 65 (0, 0))) {v : Value} {n : Nat} {xs : List Value} (hr : W.ownsRow 0 9 1 v n xs) : v.ownBlock ≠ some p := by
  intro e
  rcases hr.2 with ⟨rfl, _⟩ | ⟨g, cap, cur, rfl, _, hg, _⟩
  · cases e
  · obtain rfl : g = p := by simpa [Value.ownBlock] using e
    rw [h] at hg; cases hg

theorem insert_new (W : World) (v : Value) (n i : Nat) (xs : List ByteArray) (x : ByteArray) (h : W.ownsRow 0 9 1 v n (xs.map Value.string)) (hi : i ≤ n) (hn : n ≤ 10000) :
    Calls Try.prog 37 #[v, .int .i64 i, .slice (some ⟨W.heap.size, 0, none⟩) 1 1] (W.alloc (.cells #[.string x] 9)) (Inserted (W.alloc (.cells #[.string x] 9)) v n (xs.map Value.string |>.take i |>.append (.string x :: (xs.map Value.string).drop i))) :=
  insert_any (W.alloc (.cells #[.string x] 9)) v n i W.heap.size xs x (h.alloc _) hi hn (heap_alloc_new W _) (fun e => by have := (h.lt _ e).2; omega)

theorem insert_new' (W : World) (v : Value) (n i vb : Nat) (xs : List ByteArray) (x : ByteArray) (h : W.ownsRow 0 9 1 v n (xs.map Value.string)) (hi : i ≤ n) (hn : n ≤ 10000) (hvb : W.heap.size = vb) :
    Calls Try.prog 37 #[v, .int .i64 i, .slice (some ⟨vb, 0, none⟩) 1 1] (W.alloc (.cells #[.string x] 9)) (Inserted (W.alloc (.cells #[.string x] 9)) v n (xs.map Value.string |>.take i |>.append (.string x :: (xs.map Value.string).drop i))) := by
  subst hvb; exact insert_new W v n i xs x h hi hn

set_option maxHeartbeats 1000000 in
theorem put_has (p : Nat) (D : Pairs) (f : Nat → Prop) (x v : ByteArray) (W : World) (h : Tab W p D f) (hR : Rise D) (hn : D.length ≤ 10000) (hh : hasD D x = true) :
    Calls Try.prog 24 #[.pointer (some ⟨p, 0, none⟩), .string x, .string v] W (Turned p (putD D x v) f (.tuple #[]) W) := by
  obtain ⟨kv, vv, hp, hk, hv, hd, hf, hc0, hc1, _, _⟩ := h.parts
  have HF := Lib.hid (find_any p D f x W h hR hn)
  obtain ⟨hlt, hkk, hgd⟩ := hasD_at hR hh
  have HE := Lib.hid (putD_has D x v hR hh)
  unfold Found at HF
  rw [hh] at HF
  have hrow : ∃ g cap cur, vv = .slice (some ⟨g, 0, none⟩) D.length cap ∧ W.heap[g]? = some (.cells cur 9 (0, 0)) ∧ D.length ≤ cap ∧ cap ≤ maxLen ∧ cur.size = cap * 1 := by
    rcases hv.2 with ⟨rfl, h0⟩ | ⟨g, cap, cur, rfl, _, hg, h1, h2, h3, _⟩
    · omega
    · exact ⟨g, cap, cur, rfl, hg, h1, h2, h3⟩
  obtain ⟨g, cap, cur, rfl, hg, hnc, hcm, hcs⟩ := hrow
  have hcell : ∃ u, W.cell? ⟨g, rk D x, none⟩ = some (.string u) := by
    refine ⟨D[rk D x].2, ?_⟩
    have := hv.cells (g := g) rfl (rk D x) (.string D[rk D x].2) (by simp [valsOf, List.getElem?_eq_getElem hlt])
    rwa [Addr.add_lit, Nat.zero_add] at this
  obtain ⟨u, hcell⟩ := hcell
  have hfz : W.frozen? ⟨g, rk D x, none⟩ = false := by simp [World.frozen?, hg]
  have hgp : g ≠ p := fun e => row_ne hp hv (by rw [e]; rfl)
  have hkg : kv.ownBlock ≠ some g := by
    rcases hd with h0 | h0
    · rw [h0]; exact fun e => by cases e
    · exact h0
  -- the end, ahead of the walk
  have HT : Hid (∀ q, Turned p (putD D x v) f (.tuple #[]) W (.returned (.tuple #[])) ((W.drewN q).setCell ⟨g, rk D x, none⟩ (.string v))) := by
    intro q
    have hS : SameBut g W ((W.drewN q).setCell ⟨g, rk D x, none⟩ (.string v)) := (drewN_sameBut g q W).setCell _ _
    refine ⟨f, rfl, ?_, ⟨hS.os, hS.tape, hS.output, Nat.le_of_eq hS.size.symm, fun k _ hk' => hS.block k (fun e => hk' (by rw [hf, e]; exact .inr (.inr rfl))), fun k hk' => .inl hk'⟩⟩
    rw [HE.out]
    have hke : keysOf (D.set (rk D x) (x, v)) = keysOf D := by
      unfold keysOf
      rw [List.map_set]
      apply List.ext_getElem?
      intro j
      by_cases hje : j = rk D x
      · subst hje
        rw [List.getElem?_set_self (by simpa using hlt)]
        simp [List.getElem?_eq_getElem hlt, hkk]
      · rw [List.getElem?_set_ne (Ne.symm hje)]
    have hve : (valsOf (D.set (rk D x) (x, v))).map Value.string = ((valsOf D).map Value.string).set (rk D x) (.string v) := by
      unfold valsOf; simp [List.map_set]
    refine ⟨kv, .slice (some ⟨g, 0, none⟩) D.length cap, (hS.block p (Ne.symm hgp)).trans hp, ?_, ?_, hd, hf⟩
    · rw [hke, List.length_set]; exact hk.kept hS.grown (.inr hkg)
    · rw [hve, List.length_set]
      refine hS.owns (Nat.zero_le _) hg (by omega) hnc hcm (by simp [valsOf]) (fun j hj => ?_)
      by_cases hje : j = rk D x
      · subst hje
        rw [List.getElem?_set_self (by simpa [valsOf] using hlt)]
        exact World.cell?_setCell_same _ _ _ hcell
      · rw [List.getElem?_set_ne (Ne.symm hje)]
        have h1 : ((W.drewN q).setCell ⟨g, rk D x, none⟩ (.string v)).cell? ⟨g, j, none⟩ = W.cell? ⟨g, j, none⟩ := World.cell?_setCell_other _ _ _ _ (fun e => hje (congrArg Addr.off e).symm)
        rw [h1]
        have := hv.cells (g := g) rfl j (.string D[j].2) (by simp [valsOf, List.getElem?_eq_getElem hj])
        rw [Addr.add_lit, Nat.zero_add] at this
        rw [this]; simp [valsOf, List.getElem?_eq_getElem hj]
  obtain ⟨r, hr⟩ : ∃ r, rk D x = r := ⟨_, rfl⟩
  obtain ⟨n, hn'⟩ : ∃ n, D.length = n := ⟨_, rfl⟩
  rw [hr] at HF hcell hlt HT hfz
  rw [hn'] at hc1 hlt hnc
  clear hp hk hv hd hf hR hn h hc0 hh hgd hr hn' hkk HE hg hcs hgp hkg
  go_enter Try.func24, Try.ntmps24
  go_wp2_with fail
  refine HF.out.mono ?_
  rintro e w' ⟨rfl, q, rfl⟩
  go_wp2
  refine bodyPost_ret (results_none rfl _ _ _) rfl ?_
  exact HT.out q

theorem clone_any (s : ByteArray) (W : World) (hs : s.size ≤ 281474976710656) : Calls Try.prog 38 #[.string s] W fun e W' => e = .returned (.string s) ∧ Below W.heap.size W W' := by
  go_enter Try.func38, Try.ntmps38
  go_wp2_with fail
  refine (clone_in s _ hs).mono ?_
  rintro e w' ⟨rfl, hb⟩
  have HB := Lib.hid hb
  clear hb
  go_wp2
  go_ret
  exact ⟨rfl, HB.out⟩

/-- What is known of a world in the midst of a Put: the table's own block, its rows, and what has turned. -/
structure Mid (W0 W : World) (p : Nat) (kv vv : Value) (nk nv : Nat) (ks vs : List ByteArray) (f : Nat → Prop) : Prop where
  own : W.heap[p]? = some (.cells #[kv, vv] 65 (0, 0))
  krow : W.ownsRow 0 9 1 kv nk (ks.map Value.string)
  vrow : W.ownsRow 0 9 1 vv nv (vs.map Value.string)
  apart : kv.ownBlock = none ∨ kv.ownBlock ≠ vv.ownBlock
  step : Step f (fun k => k = p ∨ kv.ownBlock = some k ∨ vv.ownBlock = some k) W0 W

section
variable {W0 W : World} {p : Nat} {kv vv : Value} {nk nv : Nat} {ks vs : List ByteArray} {f : Nat → Prop}
theorem Mid.of_tab {D : Pairs} (h : Tab W p D f) : ∃ kv vv, Mid W W p kv vv D.length D.length (keysOf D) (valsOf D) f ∧ f = (fun k => k = p ∨ kv.ownBlock = some k ∨ vv.ownBlock = some k) := by
  obtain ⟨kv, vv, hp, hk, hv, hd, rfl⟩ := h
  exact ⟨kv, vv, ⟨hp, hk, hv, hd, Step.refl _ _⟩, rfl⟩
theorem Mid.to_tab {D : Pairs} (m : Mid W0 W p kv vv D.length D.length (keysOf D) (valsOf D) f) : ∃ f', Tab W p D f' ∧ Step f f' W0 W := ⟨_, ⟨kv, vv, m.own, m.krow, m.vrow, m.apart, rfl⟩, m.step⟩
theorem Mid.c0 (m : Mid W0 W p kv vv nk nv ks vs f) : W.cell? ⟨p, 0, none⟩ = some kv := by simp [World.cell?, m.own]
theorem Mid.c1 (m : Mid W0 W p kv vv nk nv ks vs f) : W.cell? ⟨p, 1, none⟩ = some vv := by simp [World.cell?, m.own]
theorem Mid.f0 (m : Mid W0 W p kv vv nk nv ks vs f) : W.frozen? ⟨p, 0, none⟩ = false := by simp [World.frozen?, m.own]
theorem Mid.f1 (m : Mid W0 W p kv vv nk nv ks vs f) : W.frozen? ⟨p, 1, none⟩ = false := by simp [World.frozen?, m.own]
theorem Mid.plt (m : Mid W0 W p kv vv nk nv ks vs f) : p < W.heap.size := (Array.getElem?_eq_some_iff.1 m.own).1
/-- Only new blocks have come. -/
theorem Mid.below {W' : World} (m : Mid W0 W p kv vv nk nv ks vs f) (hb : Below W.heap.size W W') : Mid W0 W' p kv vv nk nv ks vs f := by
  have hg : W.grownBy W' none := ⟨hb.os, hb.tape, hb.output, hb.size, fun k hk _ => hb.block k hk⟩
  refine ⟨(hb.block p m.plt).trans m.own, m.krow.kept hg (by cases kv.ownBlock <;> simp), m.vrow.kept hg (by cases vv.ownBlock <;> simp), m.apart, ?_⟩
  exact m.step.own hb.os hb.tape hb.output hb.size (fun k hk => hb.block k (Nat.lt_of_lt_of_le hk m.step.size))
theorem Mid.drewN (m : Mid W0 W p kv vv nk nv ks vs f) (q : Nat) : Mid W0 (W.drewN q) p kv vv nk nv ks vs f := m.below ⟨rfl, rfl, rfl, Nat.le_refl _, fun _ _ => rfl⟩
theorem Mid.alloc (m : Mid W0 W p kv vv nk nv ks vs f) (o : Obj) : Mid W0 (W.alloc o) p kv vv nk nv ks vs f := m.below ((Below.refl _ W).alloc (Nat.le_refl _) o)

/-- A row of the table has grown or been turned, and its slice is stored. -/
theorem Mid.key {W' : World} {g cap n' : Nat} {ks' : List ByteArray} (m : Mid W0 W p kv vv nk nv ks vs f) (hg : W.grownBy W' kv.ownBlock) (hr : W'.ownsRow 0 9 1 (.slice (some ⟨g, 0, none⟩) n' cap) n' (ks'.map Value.string))
    (hat : kv.ownBlock = some g ∨ W.heap.size ≤ g) : Mid W0 (W'.setCell ⟨p, 0, none⟩ (.slice (some ⟨g, 0, none⟩) n' cap)) p (.slice (some ⟨g, 0, none⟩) n' cap) vv n' nv ks' vs f ∧
      W'.cell? ⟨p, 0, none⟩ = some kv ∧ W'.cell? ⟨p, 1, none⟩ = some vv ∧ W'.frozen? ⟨p, 0, none⟩ = false ∧ W'.frozen? ⟨p, 1, none⟩ = false := by
  have hp' : W'.heap[p]? = some (.cells #[kv, vv] 65 (0, 0)) := (hg.block p m.plt (fun e => row_ne m.own m.krow e.symm)).trans m.own
  have hvg : vv.ownBlock ≠ some g := by
    rcases hat with h | h
    · rcases m.apart with h0 | h0
      · rw [h0] at h; cases h
      · intro e; exact h0 (h.trans e.symm)
    · intro e; have := (m.vrow.lt g e).2; omega
  have hvk : vv.ownBlock = none ∨ vv.ownBlock ≠ kv.ownBlock := by
    rcases m.apart with h | h
    · rw [h]; cases vv.ownBlock <;> simp
    · exact .inr (Ne.symm h)
  refine ⟨⟨heap_setCell_0 hp', hr.kept (grown_setCell _ _ _ _) (.inr (row_ne hp' hr)), (m.vrow.kept hg hvk).kept (grown_setCell _ _ _ _) (.inr (row_ne hp' (m.vrow.kept hg hvk))), .inr (Ne.symm hvg), ?_⟩, ?_, ?_, ?_, ?_⟩
  · refine ⟨hg.os.trans m.step.os, hg.tape.trans m.step.tape, hg.output.trans m.step.output, by simp [World.setCell]; exact Nat.le_trans m.step.size hg.size, fun k hk hn => ?_, fun k hk => ?_⟩
    · have hkp : k ≠ p := fun e => by
        rcases m.step.foot p (.inl rfl) with h | h
        · exact hn (e ▸ h)
        · omega
      have hkk : some k ≠ kv.ownBlock := fun e => by
        rcases m.step.foot k (.inr (.inl e.symm)) with h | h
        · exact hn h
        · omega
      exact (Below.heap_setCell _ _ _ k hkp).trans ((hg.block k (Nat.lt_of_lt_of_le hk m.step.size) hkk).trans (m.step.block k hk hn))
    · rcases hk with rfl | hk | hk
      · exact m.step.foot _ (.inl rfl)
      · obtain rfl : g = k := by simpa [Value.ownBlock] using hk
        rcases hat with h | h
        · exact m.step.foot _ (.inr (.inl h))
        · exact .inr (Nat.le_trans m.step.size h)
      · exact m.step.foot _ (.inr (.inr hk))
  · simp [World.cell?, hp']
  · simp [World.cell?, hp']
  · simp [World.frozen?, hp']
  · simp [World.frozen?, hp']

theorem Mid.val {W' : World} {g cap n' : Nat} {vs' : List ByteArray} (m : Mid W0 W p kv vv nk nv ks vs f) (hg : W.grownBy W' vv.ownBlock) (hr : W'.ownsRow 0 9 1 (.slice (some ⟨g, 0, none⟩) n' cap) n' (vs'.map Value.string))
    (hat : vv.ownBlock = some g ∨ W.heap.size ≤ g) : Mid W0 (W'.setCell ⟨p, 1, none⟩ (.slice (some ⟨g, 0, none⟩) n' cap)) p kv (.slice (some ⟨g, 0, none⟩) n' cap) nk n' ks vs' f ∧
      W'.cell? ⟨p, 0, none⟩ = some kv ∧ W'.cell? ⟨p, 1, none⟩ = some vv ∧ W'.frozen? ⟨p, 0, none⟩ = false ∧ W'.frozen? ⟨p, 1, none⟩ = false := by
  have hp' : W'.heap[p]? = some (.cells #[kv, vv] 65 (0, 0)) := (hg.block p m.plt (fun e => row_ne m.own m.vrow e.symm)).trans m.own
  have hkg : kv.ownBlock ≠ some g := by
    rcases hat with h | h
    · rcases m.apart with h0 | h0
      · rw [h0]; exact fun e => by cases e
      · intro e; exact h0 (e.trans h.symm)
    · intro e; have := (m.krow.lt g e).2; omega
  have hkv : kv.ownBlock = none ∨ kv.ownBlock ≠ vv.ownBlock := m.apart
  refine ⟨⟨heap_setCell_1 hp', (m.krow.kept hg hkv).kept (grown_setCell _ _ _ _) (.inr (row_ne hp' (m.krow.kept hg hkv))), hr.kept (grown_setCell _ _ _ _) (.inr (row_ne hp' hr)), .inr hkg, ?_⟩, ?_, ?_, ?_, ?_⟩
  · refine ⟨hg.os.trans m.step.os, hg.tape.trans m.step.tape, hg.output.trans m.step.output, by simp [World.setCell]; exact Nat.le_trans m.step.size hg.size, fun k hk hn => ?_, fun k hk => ?_⟩
    · have hkp : k ≠ p := fun e => by
        rcases m.step.foot p (.inl rfl) with h | h
        · exact hn (e ▸ h)
        · omega
      have hkk : some k ≠ vv.ownBlock := fun e => by
        rcases m.step.foot k (.inr (.inr e.symm)) with h | h
        · exact hn h
        · omega
      exact (Below.heap_setCell _ _ _ k hkp).trans ((hg.block k (Nat.lt_of_lt_of_le hk m.step.size) hkk).trans (m.step.block k hk hn))
    · rcases hk with rfl | hk | hk
      · exact m.step.foot _ (.inl rfl)
      · exact m.step.foot _ (.inr (.inl hk))
      · obtain rfl : g = k := by simpa [Value.ownBlock] using hk
        rcases hat with h | h
        · exact m.step.foot _ (.inr (.inr h))
        · exact .inr (Nat.le_trans m.step.size h)
  · simp [World.cell?, hp']
  · simp [World.cell?, hp']
  · simp [World.frozen?, hp']
  · simp [World.frozen?, hp']
end

theorem ins_map (xs : List ByteArray) (x : ByteArray) (i : Nat) : ((xs.map Value.string).take i).append (.string x :: (xs.map Value.string).drop i) = (xs.take i ++ x :: xs.drop i).map Value.string := by
  show (xs.map Value.string).take i ++ _ = _
  simp [List.map_take, List.map_drop]

theorem put_end {D D' : Pairs} {p : Nat} {f : Nat → Prop} {W W' : World} {x v : ByteArray} {r n : Nat} {kv vv : Value} {ks vs : List ByteArray} (hE : D' = D.take r ++ (x, v) :: D.drop r)
    (hk : keysOf D = ks) (hv : valsOf D = vs) (hn : D.length = n) (hr : r ≤ n)
    (m : Mid W W' p kv vv (n + 1) (n + 1) (ks.take r ++ x :: ks.drop r) (vs.take r ++ v :: vs.drop r) f) : Turned p D' f (.tuple #[]) W (.returned (.tuple #[])) W' := by
  subst hk hv hn
  have hk : (keysOf D).take r ++ x :: (keysOf D).drop r = keysOf (D.take r ++ (x, v) :: D.drop r) := by simp [keysOf, List.map_take, List.map_drop]
  have hv : (valsOf D).take r ++ v :: (valsOf D).drop r = valsOf (D.take r ++ (x, v) :: D.drop r) := by simp [valsOf, List.map_take, List.map_drop]
  have hl : D.length + 1 = (D.take r ++ (x, v) :: D.drop r).length := by rw [List.length_append, List.length_cons, List.length_take, List.length_drop]; omega
  rw [hk, hv, hl, ← hE] at m
  obtain ⟨f', h1, h2⟩ := m.to_tab
  exact ⟨f', rfl, h1, h2⟩

set_option maxHeartbeats 2000000 in
set_option maxRecDepth 100000 in
theorem put_new (p : Nat) (D : Pairs) (f : Nat → Prop) (x v : ByteArray) (W : World) (h : Tab W p D f) (hR : Rise D) (hn : D.length ≤ 9000) (hx : x.size ≤ 281474976710656) (hh : hasD D x = false) :
    Calls Try.prog 24 #[.pointer (some ⟨p, 0, none⟩), .string x, .string v] W (Turned p (putD D x v) f (.tuple #[]) W) := by
  have HF := Lib.hid (find_any p D f x W h hR (by omega))
  unfold Found at HF
  rw [hh] at HF
  have hr0 := rk_le D x
  have HE := Lib.hid (putD_new D x v hR hh)
  obtain ⟨kv, vv, m0, _⟩ := Mid.of_tab h
  have hc0 := m0.c0
  have hf0 := m0.f0
  have M0 := Lib.hid m0
  obtain ⟨ks, hks⟩ : ∃ ks, keysOf D = ks := ⟨_, rfl⟩
  obtain ⟨vs, hvs⟩ : ∃ vs, valsOf D = vs := ⟨_, rfl⟩
  obtain ⟨n, hn'⟩ : ∃ n, D.length = n := ⟨_, rfl⟩
  obtain ⟨r, hr⟩ : ∃ r, rk D x = r := ⟨_, rfl⟩
  rw [hr] at HF hr0 HE
  rw [hn'] at hr0 hn M0
  rw [hks, hvs] at M0
  have HK := Lib.hid hks
  have HV := Lib.hid hvs
  have HN := Lib.hid hn'
  clear m0 h hR hh hks hvs hn' hr
  go_enter Try.func24, Try.ntmps24
  go_wp2_with fail
  refine HF.out.mono ?_
  rintro e w' ⟨rfl, q, rfl⟩
  go_wp2_with fail
  go_region_law (first
      | (go_simp; go_at_call 38; refine (clone_any x _ hx).mono ?_; rintro e w1 ⟨rfl, hb⟩; have M1 := Lib.hid (((M0.out.drewN q).drewN 1).below hb); have hc1 := M1.out.c0; have hc1a : ∀ o, (w1.alloc o).cell? ⟨p, 0, none⟩ = some kv := (fun o => (M1.out.alloc o).c0); clear hb)
      | (go_simp; go_at_call 37; refine (insert_new w1 kv n r ks x M1.out.krow hr0 (by omega)).mono ?_; rintro e w2 ⟨g, cap, rfl, hrow, hgrow, hat⟩; rw [ins_map] at hrow; have M2 := Lib.hid ((M1.out.alloc _).key hgrow hrow hat); have hc2 := M2.out.2.1; have hf2 := M2.out.2.2.2.1; have hc2b := M2.out.1.c1; clear hrow hgrow hat))
  all_goals
    go_wp2_with fail
    refine (insert_new' _ vv n r _ vs v M2.out.1.vrow hr0 (by omega) (by simp)).mono ?_
    rintro e w3 ⟨g3, cap3, rfl, hrow3, hgrow3, hat3⟩
    rw [ins_map] at hrow3
    have M3 := Lib.hid ((M2.out.1.alloc _).val hgrow3 hrow3 hat3)
    have hc3 := M3.out.2.2.1
    have hf3 := M3.out.2.2.2.2
    clear hrow3 hgrow3 hat3
    go_wp2_with fail
    go_end0
    exact put_end HE.out HK.out HV.out HN.out hr0 M3.out.1

theorem put_any (p : Nat) (D : Pairs) (f : Nat → Prop) (x v : ByteArray) (W : World) (h : Tab W p D f) (hR : Rise D) (hn : D.length ≤ 9000) (hx : x.size ≤ 281474976710656) :
    Calls Try.prog 24 #[.pointer (some ⟨p, 0, none⟩), .string x, .string v] W (Turned p (putD D x v) f (.tuple #[]) W) := by
  cases hh : hasD D x with
  | true => exact put_has p D f x v W h hR (by omega) hh
  | false => exact put_new p D f x v W h hR hn hx hh

theorem put_nil (x v : ByteArray) (W : World) :
    Calls Try.prog 24 #[.pointer none, .string x, .string v] W fun e W' => e = .returned (.tuple #[]) ∧ W = W' := by
  go_enter Try.func24, Try.ntmps24
  go_wp2
  refine bodyPost_ret (results_none rfl _ _ _) rfl ?_
  exact ⟨rfl, rfl⟩

theorem del_nil (x : ByteArray) (W : World) :
    Calls Try.prog 25 #[.pointer none, .string x] W fun e W' => e = .returned (.bool false) ∧ W = W' := by
  go_enter Try.func25, Try.ntmps25
  go_wp2_with fail
  refine (find_nil x W).mono ?_
  rintro e w' ⟨rfl, rfl⟩
  go_wp2
  go_ret
  exact ⟨rfl, rfl⟩

theorem del_end {D D' : Pairs} {p : Nat} {f : Nat → Prop} {W W' : World} {r n : Nat} {kv vv : Value} {ks vs : List ByteArray} (hE : D' = D.take r ++ D.drop (r + 1)) (hk : keysOf D = ks) (hv : valsOf D = vs) (hn : D.length = n) (hr : r < n)
    (m : Mid W W' p kv vv (n - 1) (n - 1) (ks.take r ++ ks.drop (r + 1)) (vs.take r ++ vs.drop (r + 1)) f) : Turned p D' f (.bool true) W (.returned (.bool true)) W' := by
  subst hk hv hn
  have hk : (keysOf D).take r ++ (keysOf D).drop (r + 1) = keysOf (D.take r ++ D.drop (r + 1)) := by simp [keysOf, List.map_take, List.map_drop]
  have hv : (valsOf D).take r ++ (valsOf D).drop (r + 1) = valsOf (D.take r ++ D.drop (r + 1)) := by simp [valsOf, List.map_take, List.map_drop]
  have hl : D.length - 1 = (D.take r ++ D.drop (r + 1)).length := by rw [List.length_append, List.length_take, List.length_drop]; omega
  rw [hk, hv, hl, ← hE] at m
  obtain ⟨f', h1, h2⟩ := m.to_tab
  exact ⟨f', rfl, h1, h2⟩

set_option maxHeartbeats 2000000 in
set_option maxRecDepth 100000 in
theorem del_has (p : Nat) (D : Pairs) (f : Nat → Prop) (x : ByteArray) (W : World) (h : Tab W p D f) (hR : Rise D) (hn : D.length ≤ 9000) (hh : hasD D x = true) :
    Calls Try.prog 25 #[.pointer (some ⟨p, 0, none⟩), .string x] W (Turned p (delD D x) f (.bool true) W) := by
  have HF := Lib.hid (find_any p D f x W h hR (by omega))
  unfold Found at HF
  rw [hh] at HF
  obtain ⟨hlt, _, _⟩ := hasD_at hR hh
  have HE := Lib.hid (delD_has D x hR hh)
  obtain ⟨kv, vv, m0, _⟩ := Mid.of_tab h
  obtain ⟨gk, ck, rfl⟩ : ∃ g c, kv = .slice (some ⟨g, 0, none⟩) D.length c := by
    rcases m0.krow.2 with ⟨rfl, h0⟩ | ⟨g, cap, cur, rfl, _⟩
    · omega
    · exact ⟨g, cap, rfl⟩
  obtain ⟨gv, cv, rfl⟩ : ∃ g c, vv = .slice (some ⟨g, 0, none⟩) D.length c := by
    rcases m0.vrow.2 with ⟨rfl, h0⟩ | ⟨g, cap, cur, rfl, _⟩
    · omega
    · exact ⟨g, cap, rfl⟩
  have hc0 := m0.c0
  have M0 := Lib.hid m0
  obtain ⟨ks, hks⟩ : ∃ ks, keysOf D = ks := ⟨_, rfl⟩
  obtain ⟨vs, hvs⟩ : ∃ vs, valsOf D = vs := ⟨_, rfl⟩
  obtain ⟨n, hn'⟩ : ∃ n, D.length = n := ⟨_, rfl⟩
  obtain ⟨r, hr⟩ : ∃ r, rk D x = r := ⟨_, rfl⟩
  rw [hr] at HF hlt HE
  rw [hn'] at hlt hn M0 hc0
  rw [hks, hvs] at M0
  have HK := Lib.hid hks
  have HV := Lib.hid hvs
  have HN := Lib.hid hn'
  clear m0 h hR hh hks hvs hn' hr
  go_enter Try.func25, Try.ntmps25
  go_wp2_with fail
  refine HF.out.mono ?_
  rintro e w' ⟨rfl, q, rfl⟩
  go_wp2_with fail
  refine (delete_any _ gk ck n r ks (M0.out.drewN q).krow hlt).mono ?_
  rintro e w2 ⟨rfl, hrow, hgrow⟩
  have M2 := Lib.hid ((M0.out.drewN q).key (n' := n - 1) hgrow hrow (.inl rfl))
  have hc2 := M2.out.2.1
  have hf2 := M2.out.2.2.2.1
  have hc2b := M2.out.1.c1
  clear hrow hgrow
  go_wp2_with fail
  refine (delete_any _ gv cv n r vs M2.out.1.vrow hlt).mono ?_
  rintro e w3 ⟨rfl, hrow3, hgrow3⟩
  have M3 := Lib.hid (M2.out.1.val (n' := n - 1) hgrow3 hrow3 (.inl rfl))
  have hc3 := M3.out.2.2.1
  have hf3 := M3.out.2.2.2.2
  clear hrow3 hgrow3
  go_wp2_with fail
  go_ret
  exact del_end HE.out HK.out HV.out HN.out hlt M3.out.1

theorem del_not (p : Nat) (D : Pairs) (f : Nat → Prop) (x : ByteArray) (W : World) (h : Tab W p D f) (hR : Rise D) (hn : D.length ≤ 9000) (hh : hasD D x = false) :
    Calls Try.prog 25 #[.pointer (some ⟨p, 0, none⟩), .string x] W (Turned p (delD D x) f (.bool false) W) := by
  have HF := Lib.hid (find_any p D f x W h hR (by omega))
  unfold Found at HF
  rw [hh] at HF
  have HT : Hid (∀ q, Turned p (delD D x) f (.bool false) W (.returned (.bool false)) (W.drewN q)) := by
    intro q
    rw [delD_not hh]
    exact ⟨f, rfl, h.stays (Nat.le_refl _) (fun _ _ => rfl), ⟨rfl, rfl, rfl, Nat.le_refl _, fun _ _ _ => rfl, fun _ hk => .inl hk⟩⟩
  obtain ⟨r, hr⟩ : ∃ r, rk D x = r := ⟨_, rfl⟩
  rw [hr] at HF
  clear h hR hh hr
  go_enter Try.func25, Try.ntmps25
  go_wp2_with fail
  refine HF.out.mono ?_
  rintro e w' ⟨rfl, q, rfl⟩
  go_wp2
  go_ret
  exact HT.out q

theorem del_any (p : Nat) (D : Pairs) (f : Nat → Prop) (x : ByteArray) (W : World) (h : Tab W p D f) (hR : Rise D) (hn : D.length ≤ 9000) :
    Calls Try.prog 25 #[.pointer (some ⟨p, 0, none⟩), .string x] W (Turned p (delD D x) f (.bool (hasD D x)) W) := by
  cases hh : hasD D x with
  | true => exact del_has p D f x W h hR hn hh
  | false => exact del_not p D f x W h hR hn hh

end Go.Proofs.Ytbddicaabjlbjaa
