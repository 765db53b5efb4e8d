/-
  Put, at a table whose values are all true.
-/
import Derived.Test.YtoflgkbjmbpdjaaMethb
import Derived.Deep.RegionHeld3
import Derived.Deep.AppendLies
import Derived.Deep.RegionLaw
import Derived.Deep.DrawnRows
namespace Go.Proofs.Ytoflgkbjmbpdjaa
open Go Go.RowKit
attribute [local go_sem ↓] Go.wp_at_zero Go.wp_at_succ

/-- What lies behind a call that turns the table at p into D'. -/
def Turnedb (p : Nat) (D' : Pairs) (f : Nat → Prop) (v : Value) (W : World) (e : Ending) (W' : World) : Prop :=
  ∃ f', e = .returned v ∧ Tabb W' p D' f' ∧ Step f f' W W'

theorem heap_setCell_0_b {W : World} {p : Nat} {a b u : Value} {t : TypeId} {fr : Nat × Nat} (h : W.heap[p]? = some (.cells #[a, b] t fr)) : (W.setCell ⟨p, 0, none⟩ u).heap[p]? = some (.cells #[u, b] t fr) := by
  obtain ⟨hlt, hk⟩ := Array.getElem?_eq_some_iff.1 h
  show (W.heap.modify p _)[p]? = _
  rw [Array.getElem?_eq_getElem (by rw [Array.size_modify]; exact hlt), Array.getElem_modify_self, hk]
  rfl
theorem heap_setCell_1_b {W : World} {p : Nat} {a b u : Value} {t : TypeId} {fr : Nat × Nat} (h : W.heap[p]? = some (.cells #[a, b] t fr)) : (W.setCell ⟨p, 1, none⟩ u).heap[p]? = some (.cells #[a, u] t fr) := by
  obtain ⟨hlt, hk⟩ := Array.getElem?_eq_some_iff.1 h
  show (W.heap.modify p _)[p]? = _
  rw [Array.getElem?_eq_getElem (by rw [Array.size_modify]; exact hlt), Array.getElem_modify_self, hk]
  rfl
theorem grown_setCell_b (W : World) (p o : Nat) (u : Value) : W.grownBy (W.setCell ⟨p, o, none⟩ u) (some p) := ((SameBut.refl p W).setCell o u).grown

/-- A row's block is not the table's own. -/
theorem row_ne_b {W : World} {p : Nat} {a b : Value} (h : W.heap[p]? = some (.cells #[a, b] 59 (0, 0))) {v : Value} {n : Nat} {t : TypeId} {xs : List Value} (ht : 59 ≠ t) (hr : W.ownsRow 0 t 1 v n xs) : v.ownBlock ≠ some p := by
  intro e
  rcases hr.2 with ⟨rfl, _⟩ | ⟨g, cap, cur, rfl, _, hg, _⟩
  · cases e
  · obtain rfl : g = p := by simpa [Value.ownBlock] using e
    rw [h] at hg
    injection hg with hg
    injection hg with _ hg
    exact ht hg

theorem insert_new_b (W : World) (v : Value) (n i : Nat) (xs : List ByteArray) (x : ByteArray) (h : W.ownsRow 0 9 1 v n (xs.map Value.string)) (hi : i ≤ n) (hn : n ≤ 10000) :
    Calls Try.prog 37 #[v, .int .i64 i, .slice (some ⟨W.heap.size, 0, none⟩) 1 1] (W.alloc (.cells #[.string x] 9)) (Inserted (W.alloc (.cells #[.string x] 9)) v n (xs.map Value.string |>.take i |>.append (.string x :: (xs.map Value.string).drop i))) :=
  insert_any (W.alloc (.cells #[.string x] 9)) v n i W.heap.size xs x (h.alloc _) hi hn (heap_alloc_new W _) (fun e => by have := (h.lt _ e).2; omega)

set_option maxHeartbeats 1000000 in
theorem put_has_b (p : Nat) (D : Pairs) (f : Nat → Prop) (x : ByteArray) (W : World) (h : Tabb W p D f) (hR : Rise D) (hn : D.length ≤ 10000) (hh : hasD D x = true) :
    Calls Try.prog 31 #[.pointer (some ⟨p, 0, none⟩), .string x, .bool true] W (Turnedb p (putD D x ⟨#[]⟩) f (.tuple #[]) W) := by
  obtain ⟨kv, vv, hp, hk, hv, hd, hf, hc0, hc1, _, _⟩ := h.parts
  have HF := Lib.hid (find_any_b p D f x W h hR hn)
  obtain ⟨hlt, hkk, hgd⟩ := hasD_at hR hh
  have HE := Lib.hid (putD_has D x ⟨#[]⟩ hR hh)
  unfold Foundb at HF
  rw [hh] at HF
  have hrow : ∃ g cap cur, vv = .slice (some ⟨g, 0, none⟩) D.length cap ∧ W.heap[g]? = some (.cells cur 4 (0, 0)) ∧ D.length ≤ cap ∧ cap ≤ maxLen ∧ cur.size = cap * 1 := by
    rcases hv.2 with ⟨rfl, h0⟩ | ⟨g, cap, cur, rfl, _, hg, h1, h2, h3, _⟩
    · omega
    · exact ⟨g, cap, cur, rfl, hg, h1, h2, h3⟩
  obtain ⟨g, cap, cur, rfl, hg, hnc, hcm, hcs⟩ := hrow
  have hcell : W.cell? ⟨g, rk D x, none⟩ = some (.bool true) := by
    have := hv.cells (g := g) rfl (rk D x) (.bool true) (by simp [trues, hlt])
    rwa [Addr.add_lit, Nat.zero_add] at this
  have hfz : W.frozen? ⟨g, rk D x, none⟩ = false := by simp [World.frozen?, hg]
  have hgp : g ≠ p := fun e => row_ne_b hp (by decide) hv (by rw [e]; rfl)
  have hkg : kv.ownBlock ≠ some g := by
    rcases hd with h0 | h0
    · rw [h0]; exact fun e => by cases e
    · exact h0
  -- the end, ahead of the walk
  have HT : Hid (∀ q, Turnedb p (putD D x ⟨#[]⟩) f (.tuple #[]) W (.returned (.tuple #[])) ((W.drewN q).setCell ⟨g, rk D x, none⟩ (.bool true))) := by
    intro q
    have hS : SameBut g W ((W.drewN q).setCell ⟨g, rk D x, none⟩ (.bool true)) := (drewN_sameBut g q W).setCell _ _
    refine ⟨f, rfl, ?_, ⟨hS.os, hS.tape, hS.output, Nat.le_of_eq hS.size.symm, fun k _ hk' => hS.block k (fun e => hk' (by rw [hf, e]; exact .inr (.inr rfl))), fun k hk' => .inl hk'⟩⟩
    rw [HE.out]
    have hke : keysOf (D.set (rk D x) (x, ⟨#[]⟩)) = keysOf D := by
      unfold keysOf
      rw [List.map_set]
      apply List.ext_getElem?
      intro j
      by_cases hje : j = rk D x
      · subst hje
        rw [List.getElem?_set_self (by simpa using hlt)]
        simp [List.getElem?_eq_getElem hlt, hkk]
      · rw [List.getElem?_set_ne (Ne.symm hje)]
    refine ⟨kv, .slice (some ⟨g, 0, none⟩) D.length cap, (hS.block p (Ne.symm hgp)).trans hp, ?_, ?_, hd, hf⟩
    · rw [hke, List.length_set]; exact hk.kept hS.grown (.inr hkg)
    · rw [List.length_set]
      refine hS.owns (Nat.zero_le _) hg (by omega) hnc hcm (by simp [trues]) (fun j hj => ?_)
      by_cases hje : j = rk D x
      · subst hje
        rw [show (trues D.length)[rk D x]? = some (.bool true) by simp [trues, hlt]]
        exact World.cell?_setCell_same _ _ _ hcell
      · have h1 : ((W.drewN q).setCell ⟨g, rk D x, none⟩ (.bool true)).cell? ⟨g, j, none⟩ = W.cell? ⟨g, j, none⟩ := World.cell?_setCell_other _ _ _ _ (fun e => hje (congrArg Addr.off e).symm)
        rw [h1]
        have := hv.cells (g := g) rfl j (.bool true) (by simp [trues, hj])
        rw [Addr.add_lit, Nat.zero_add] at this
        rw [this]; simp [trues, hj]
  obtain ⟨r, hr⟩ : ∃ r, rk D x = r := ⟨_, rfl⟩
  obtain ⟨n, hn'⟩ : ∃ n, D.length = n := ⟨_, rfl⟩
  rw [hr] at HF hcell hlt HT hfz
  rw [hn'] at hc1 hlt hnc
  clear hp hk hv hd hf hR hn h hc0 hh hgd hr hn' hkk HE hg hcs hgp hkg
  go_enter Try.func31, Try.ntmps31
  go_wp2_with fail
  refine HF.out.mono ?_
  rintro e w' ⟨rfl, q, rfl⟩
  go_wp2
  refine bodyPost_ret (results_none rfl _ _ _) rfl ?_
  exact HT.out q

theorem clone_any_b (s : ByteArray) (W : World) (hs : s.size ≤ 281474976710656) : Calls Try.prog 38 #[.string s] W fun e W' => e = .returned (.string s) ∧ Below W.heap.size W W' := by
  go_enter Try.func38, Try.ntmps38
  go_wp2_with fail
  refine (clone_in s _ hs).mono ?_
  rintro e w' ⟨rfl, hb⟩
  have HB := Lib.hid hb
  clear hb
  go_wp2
  go_ret
  exact ⟨rfl, HB.out⟩

/-- What is known of a world in the midst of a Put: the table's own block, its rows, and what has turned. -/
structure Midb (W0 W : World) (p : Nat) (kv vv : Value) (nk nv : Nat) (ks : List ByteArray) (f : Nat → Prop) : Prop where
  own : W.heap[p]? = some (.cells #[kv, vv] 59 (0, 0))
  krow : W.ownsRow 0 9 1 kv nk (ks.map Value.string)
  vrow : W.ownsRow 0 4 1 vv nv (trues nv)
  apart : kv.ownBlock = none ∨ kv.ownBlock ≠ vv.ownBlock
  step : Step f (fun k => k = p ∨ kv.ownBlock = some k ∨ vv.ownBlock = some k) W0 W

section
variable {W0 W : World} {p : Nat} {kv vv : Value} {nk nv : Nat} {ks : List ByteArray} {f : Nat → Prop}
theorem Midb.of_tab {D : Pairs} (h : Tabb W p D f) : ∃ kv vv, Midb W W p kv vv D.length D.length (keysOf D) f ∧ f = (fun k => k = p ∨ kv.ownBlock = some k ∨ vv.ownBlock = some k) := by
  obtain ⟨kv, vv, hp, hk, hv, hd, rfl⟩ := h
  exact ⟨kv, vv, ⟨hp, hk, hv, hd, Step.refl _ _⟩, rfl⟩
theorem Midb.to_tab {D : Pairs} (m : Midb W0 W p kv vv D.length D.length (keysOf D) f) : ∃ f', Tabb W p D f' ∧ Step f f' W0 W := ⟨_, ⟨kv, vv, m.own, m.krow, m.vrow, m.apart, rfl⟩, m.step⟩
theorem Midb.c0 (m : Midb W0 W p kv vv nk nv ks f) : W.cell? ⟨p, 0, none⟩ = some kv := by simp [World.cell?, m.own]
theorem Midb.c1 (m : Midb W0 W p kv vv nk nv ks f) : W.cell? ⟨p, 1, none⟩ = some vv := by simp [World.cell?, m.own]
theorem Midb.f0 (m : Midb W0 W p kv vv nk nv ks f) : W.frozen? ⟨p, 0, none⟩ = false := by simp [World.frozen?, m.own]
theorem Midb.f1 (m : Midb W0 W p kv vv nk nv ks f) : W.frozen? ⟨p, 1, none⟩ = false := by simp [World.frozen?, m.own]
theorem Midb.plt (m : Midb W0 W p kv vv nk nv ks f) : p < W.heap.size := (Array.getElem?_eq_some_iff.1 m.own).1
/-- Only new blocks have come. -/
theorem Midb.below {W' : World} (m : Midb W0 W p kv vv nk nv ks f) (hb : Below W.heap.size W W') : Midb W0 W' p kv vv nk nv ks f := by
  have hg : W.grownBy W' none := ⟨hb.os, hb.tape, hb.output, hb.size, fun k hk _ => hb.block k hk⟩
  refine ⟨(hb.block p m.plt).trans m.own, m.krow.kept hg (by cases kv.ownBlock <;> simp), m.vrow.kept hg (by cases vv.ownBlock <;> simp), m.apart, ?_⟩
  exact m.step.own hb.os hb.tape hb.output hb.size (fun k hk => hb.block k (Nat.lt_of_lt_of_le hk m.step.size))
theorem Midb.drewN (m : Midb W0 W p kv vv nk nv ks f) (q : Nat) : Midb W0 (W.drewN q) p kv vv nk nv ks f := m.below ⟨rfl, rfl, rfl, Nat.le_refl _, fun _ _ => rfl⟩
theorem Midb.alloc (m : Midb W0 W p kv vv nk nv ks f) (o : Obj) : Midb W0 (W.alloc o) p kv vv nk nv ks f := m.below ((Below.refl _ W).alloc (Nat.le_refl _) o)

/-- A row of the table has grown or been turned, and its slice is stored. -/
theorem Midb.key {W' : World} {g cap n' : Nat} {ks' : List ByteArray} (m : Midb W0 W p kv vv nk nv ks f) (hg : W.grownBy W' kv.ownBlock) (hr : W'.ownsRow 0 9 1 (.slice (some ⟨g, 0, none⟩) n' cap) n' (ks'.map Value.string))
    (hat : kv.ownBlock = some g ∨ W.heap.size ≤ g) : Midb W0 (W'.setCell ⟨p, 0, none⟩ (.slice (some ⟨g, 0, none⟩) n' cap)) p (.slice (some ⟨g, 0, none⟩) n' cap) vv n' nv ks' f ∧
      W'.cell? ⟨p, 0, none⟩ = some kv ∧ W'.cell? ⟨p, 1, none⟩ = some vv ∧ W'.frozen? ⟨p, 0, none⟩ = false ∧ W'.frozen? ⟨p, 1, none⟩ = false := by
  have hp' : W'.heap[p]? = some (.cells #[kv, vv] 59 (0, 0)) := (hg.block p m.plt (fun e => row_ne_b m.own (by decide) m.krow e.symm)).trans m.own
  have hvg : vv.ownBlock ≠ some g := by
    rcases hat with h | h
    · rcases m.apart with h0 | h0
      · rw [h0] at h; cases h
      · intro e; exact h0 (h.trans e.symm)
    · intro e; have := (m.vrow.lt g e).2; omega
  have hvk : vv.ownBlock = none ∨ vv.ownBlock ≠ kv.ownBlock := by
    rcases m.apart with h | h
    · rw [h]; cases vv.ownBlock <;> simp
    · exact .inr (Ne.symm h)
  refine ⟨⟨heap_setCell_0_b hp', hr.kept (grown_setCell_b _ _ _ _) (.inr (row_ne_b hp' (by decide) hr)), (m.vrow.kept hg hvk).kept (grown_setCell_b _ _ _ _) (.inr (row_ne_b hp' (by decide) (m.vrow.kept hg hvk))), .inr (Ne.symm hvg), ?_⟩, ?_, ?_, ?_, ?_⟩
  · refine ⟨hg.os.trans m.step.os, hg.tape.trans m.step.tape, hg.output.trans m.step.output, by simp [World.setCell]; exact Nat.le_trans m.step.size hg.size, fun k hk hn => ?_, fun k hk => ?_⟩
    · have hkp : k ≠ p := fun e => by
        rcases m.step.foot p (.inl rfl) with h | h
        · exact hn (e ▸ h)
        · omega
      have hkk : some k ≠ kv.ownBlock := fun e => by
        rcases m.step.foot k (.inr (.inl e.symm)) with h | h
        · exact hn h
        · omega
      exact (Below.heap_setCell _ _ _ k hkp).trans ((hg.block k (Nat.lt_of_lt_of_le hk m.step.size) hkk).trans (m.step.block k hk hn))
    · rcases hk with rfl | hk | hk
      · exact m.step.foot _ (.inl rfl)
      · obtain rfl : g = k := by simpa [Value.ownBlock] using hk
        rcases hat with h | h
        · exact m.step.foot _ (.inr (.inl h))
        · exact .inr (Nat.le_trans m.step.size h)
      · exact m.step.foot _ (.inr (.inr hk))
  · simp [World.cell?, hp']
  · simp [World.cell?, hp']
  · simp [World.frozen?, hp']
  · simp [World.frozen?, hp']

theorem Midb.val {W' : World} {g cap n' : Nat} (m : Midb W0 W p kv vv nk nv ks f) (hg : W.grownBy W' vv.ownBlock) (hr : W'.ownsRow 0 4 1 (.slice (some ⟨g, 0, none⟩) n' cap) n' (trues n'))
    (hat : vv.ownBlock = some g ∨ W.heap.size ≤ g) : Midb W0 (W'.setCell ⟨p, 1, none⟩ (.slice (some ⟨g, 0, none⟩) n' cap)) p kv (.slice (some ⟨g, 0, none⟩) n' cap) nk n' ks f ∧
      W'.cell? ⟨p, 0, none⟩ = some kv ∧ W'.cell? ⟨p, 1, none⟩ = some vv ∧ W'.frozen? ⟨p, 0, none⟩ = false ∧ W'.frozen? ⟨p, 1, none⟩ = false := by
  have hp' : W'.heap[p]? = some (.cells #[kv, vv] 59 (0, 0)) := (hg.block p m.plt (fun e => row_ne_b m.own (by decide) m.vrow e.symm)).trans m.own
  have hkg : kv.ownBlock ≠ some g := by
    rcases hat with h | h
    · rcases m.apart with h0 | h0
      · rw [h0]; exact fun e => by cases e
      · intro e; exact h0 (e.trans h.symm)
    · intro e; have := (m.krow.lt g e).2; omega
  have hkv : kv.ownBlock = none ∨ kv.ownBlock ≠ vv.ownBlock := m.apart
  refine ⟨⟨heap_setCell_1_b hp', (m.krow.kept hg hkv).kept (grown_setCell_b _ _ _ _) (.inr (row_ne_b hp' (by decide) (m.krow.kept hg hkv))), hr.kept (grown_setCell_b _ _ _ _) (.inr (row_ne_b hp' (by decide) hr)), .inr hkg, ?_⟩, ?_, ?_, ?_, ?_⟩
  · refine ⟨hg.os.trans m.step.os, hg.tape.trans m.step.tape, hg.output.trans m.step.output, by simp [World.setCell]; exact Nat.le_trans m.step.size hg.size, fun k hk hn => ?_, fun k hk => ?_⟩
    · have hkp : k ≠ p := fun e => by
        rcases m.step.foot p (.inl rfl) with h | h
        · exact hn (e ▸ h)
        · omega
      have hkk : some k ≠ vv.ownBlock := fun e => by
        rcases m.step.foot k (.inr (.inr e.symm)) with h | h
        · exact hn h
        · omega
      exact (Below.heap_setCell _ _ _ k hkp).trans ((hg.block k (Nat.lt_of_lt_of_le hk m.step.size) hkk).trans (m.step.block k hk hn))
    · rcases hk with rfl | hk | hk
      · exact m.step.foot _ (.inl rfl)
      · exact m.step.foot _ (.inr (.inl hk))
      · obtain rfl : g = k := by simpa [Value.ownBlock] using hk
        rcases hat with h | h
        · exact m.step.foot _ (.inr (.inr h))
        · exact .inr (Nat.le_trans m.step.size h)
  · simp [World.cell?, hp']
  · simp [World.cell?, hp']
  · simp [World.frozen?, hp']
  · simp [World.frozen?, hp']
end

theorem ins_map_b (xs : List ByteArray) (x : ByteArray) (i : Nat) : ((xs.map Value.string).take i).append (.string x :: (xs.map Value.string).drop i) = (xs.take i ++ x :: xs.drop i).map Value.string := by
  show (xs.map Value.string).take i ++ _ = _
  simp [List.map_take, List.map_drop]

theorem put_end_b {D D' : Pairs} {p : Nat} {f : Nat → Prop} {W W' : World} {x : ByteArray} {n : Nat} {kv vv : Value} {ks : List ByteArray} (hE : D' = D ++ [(x, ⟨#[]⟩)])
    (hk : keysOf D = ks) (hn : D.length = n)
    (m : Midb W W' p kv vv (n + 1) (n + 1) (ks.take n ++ x :: ks.drop n) f) : Turnedb p D' f (.tuple #[]) W (.returned (.tuple #[])) W' := by
  subst hk hn
  have hk : (keysOf D).take D.length ++ x :: (keysOf D).drop D.length = keysOf (D ++ [(x, ⟨#[]⟩)]) := by
    have h1 : (keysOf D).length = D.length := by simp [keysOf]
    rw [← h1, List.take_length, List.drop_length]; simp [keysOf]
  have hl : D.length + 1 = (D ++ [(x, (⟨#[]⟩ : ByteArray))]).length := by simp
  rw [hk, hl, ← hE] at m
  obtain ⟨f', h1, h2⟩ := m.to_tab
  exact ⟨f', rfl, h1, h2⟩

/-- What insert leaves of a row of trues: one more. -/
def Insertedb (W : World) (v : Value) (n : Nat) (e : Ending) (W' : World) : Prop :=
  ∃ g cap, e = .returned (.slice (some ⟨g, 0, none⟩) (n + 1) cap) ∧ W'.ownsRow 0 4 1 (.slice (some ⟨g, 0, none⟩) (n + 1) cap) (n + 1) (trues (n + 1)) ∧ W.grownBy W' v.ownBlock ∧ (v.ownBlock = some g ∨ W.heap.size ≤ g)

theorem info_bool : (Try.prog.info? 4).map (fun i => (i.zero, i.size, i.bytes)) = some (some (.bool false), 1, 1) := by kernel_rfl

theorem trues_succ (n : Nat) : trues n ++ [.bool true] = trues (n + 1) := (List.replicate_succ' (n := n) (a := Value.bool true)).symm

theorem true_news (w : World) (t : TypeId) : ∀ j u, [Value.bool true][j]? = some u → (w.alloc (.cells #[.bool true] t)).cell? ((⟨w.heap.size, 0, none⟩ : Addr).add j) = some u :=
  World.news_of_block (cs := #[.bool true]) (heap_alloc_new w _)
theorem true_one : ∀ u ∈ [Value.bool true], u.oneCell' = true := by
  intro u hu; rw [List.mem_singleton.1 hu]; rfl

theorem insertb_at {v : Value} {W : World} {g n c : Nat} (h : Value.ownBlock (.slice (some ⟨g, 0, none⟩) n c) = v.ownBlock ∨ Value.ownBlock (.slice (some ⟨g, 0, none⟩) n c) = some W.heap.size) : v.ownBlock = some g ∨ W.heap.size ≤ g := by
  rcases h with h | h
  · exact .inl h.symm
  · right; have : g = W.heap.size := by simpa [Value.ownBlock] using h
    omega

set_option maxHeartbeats 1000000 in
/-- At the end of a row of trues. -/
theorem insertb_end (W : World) (v : Value) (n : Nat) (h : W.ownsRow 0 4 1 v n (trues n)) (hn : n ≤ 10000) :
    Calls Try.prog 39 #[v, .int .i64 n, .slice (some ⟨W.heap.size, 0, none⟩) 1 1] (W.alloc (.cells #[.bool true] 4)) (Insertedb (W.alloc (.cells #[.bool true] 4)) v n) := by
  obtain ⟨i0, hi, hz0, hz1, hz2⟩ := info_parts info_bool
  have HR := Lib.hid h
  have HV : ∃ p cap, v = .slice p n cap ∧ n ≤ cap ∧ cap ≤ maxLen := by
    rcases h.2 with ⟨rfl, h0⟩ | ⟨g, cap, cur, rfl, _, hg, h1, h2, h3, _⟩
    · exact ⟨none, 0, by rw [h0], by omega, Nat.zero_le _⟩
    · exact ⟨_, cap, rfl, h1, h2⟩
  obtain ⟨p, cap, rfl, hnc, hcm⟩ := HV
  have hcm' : cap ≤ 9223372036854775807 := by unfold maxLen at hcm; omega
  clear h
  rcases Nat.eq_or_lt_of_le hnc with hcn | hlt
  · subst hcn
    go_enter Try.func39, Try.ntmps39
    go_wp2_with (at_builtin; refine wpList_append_own_at _ rfl _ _ 57 rfl 0 4 i0 (.bool false) 1 1 Try.underlying57 hi hz0 hz1 hz2 rfl (by decide) (.slice p n n) n (trues n) rfl (HR.out.alloc _) ⟨W.heap.size, 0, none⟩ 1 1 [.bool true] rfl rfl (true_news _ _) true_one (by simp only [maxLen]; omega) (by omega) (by omega) ?_; intro v' w1 hown' hgrow _ hat; obtain ⟨g', cap', rfl⟩ := ownsRow_succ hown'; have HE := Lib.hid (show Insertedb (W.alloc (.cells #[.bool true] 4)) (.slice p n n) n (.returned (.slice (some ⟨g', 0, none⟩) (n + 1) cap')) w1 from ⟨g', cap', rfl, by rw [← trues_succ]; exact hown', hgrow, insertb_at hat⟩); clear hown' hgrow hat)
    go_ret
    exact HE.out
  · have hcn : ¬ cap = n := by omega
    go_enter Try.func39, Try.ntmps39
    go_wp2_with (at_builtin; refine wpList_append_own_at _ rfl _ _ 57 rfl 0 4 i0 (.bool false) 1 1 Try.underlying57 hi hz0 hz1 hz2 rfl (by decide) (.slice p n cap) n (trues n) rfl (HR.out.alloc _) ⟨W.heap.size, 0, none⟩ 1 1 [.bool true] rfl rfl (true_news _ _) true_one (by simp only [maxLen]; omega) (by omega) (by omega) ?_; intro v' w1 hown' hgrow _ hat; obtain ⟨g', cap', rfl⟩ := ownsRow_succ hown'; have HE := Lib.hid (show Insertedb (W.alloc (.cells #[.bool true] 4)) (.slice p n cap) n (.returned (.slice (some ⟨g', 0, none⟩) (n + 1) cap')) w1 from ⟨g', cap', rfl, by rw [← trues_succ]; exact hown', hgrow, insertb_at hat⟩); clear hown' hgrow hat)
    go_ret
    exact HE.out

theorem insertb_end' (W : World) (v : Value) (n vb : Nat) (h : W.ownsRow 0 4 1 v n (trues n)) (hn : n ≤ 10000) (hvb : W.heap.size = vb) :
    Calls Try.prog 39 #[v, .int .i64 n, .slice (some ⟨vb, 0, none⟩) 1 1] (W.alloc (.cells #[.bool true] 4)) (Insertedb (W.alloc (.cells #[.bool true] 4)) v n) := by
  subst hvb; exact insertb_end W v n h hn

set_option maxHeartbeats 2000000 in
set_option maxRecDepth 100000 in
theorem put_new_b (p : Nat) (D : Pairs) (f : Nat → Prop) (x : ByteArray) (W : World) (h : Tabb W p D f) (hR : Rise D) (hn : D.length ≤ 9000) (hx : x.size ≤ 281474976710656) (hh : hasD D x = false) (hend : rk D x = D.length) :
    Calls Try.prog 31 #[.pointer (some ⟨p, 0, none⟩), .string x, .bool true] W (Turnedb p (putD D x ⟨#[]⟩) f (.tuple #[]) W) := by
  have HF := Lib.hid (find_any_b p D f x W h hR (by omega))
  unfold Foundb at HF
  rw [hh] at HF
  have hr0 := rk_le D x
  have HE := Lib.hid (show putD D x ⟨#[]⟩ = D ++ [(x, ⟨#[]⟩)] by rw [putD_new D x ⟨#[]⟩ hR hh, hend, List.take_length, List.drop_length])
  obtain ⟨kv, vv, m0, _⟩ := Midb.of_tab h
  have hc0 := m0.c0
  have hf0 := m0.f0
  have M0 := Lib.hid m0
  obtain ⟨ks, hks⟩ : ∃ ks, keysOf D = ks := ⟨_, rfl⟩
  obtain ⟨n, hn'⟩ : ∃ n, D.length = n := ⟨_, rfl⟩
  rw [hend, hn'] at HF
  rw [hn'] at hn M0
  rw [hks] at M0
  have HK := Lib.hid hks
  have HN := Lib.hid hn'
  clear m0 h hR hh hks hn' hr0 hend
  go_enter Try.func31, Try.ntmps31
  go_wp2_with fail
  refine HF.out.mono ?_
  rintro e w' ⟨rfl, q, rfl⟩
  go_wp2_with fail
  go_region_law (first
      | (go_simp; go_at_call 38; refine (clone_any_b x _ hx).mono ?_; rintro e w1 ⟨rfl, hb⟩; have M1 := Lib.hid (((M0.out.drewN q).drewN 1).below hb); have hc1 := M1.out.c0; have hc1a : ∀ o, (w1.alloc o).cell? ⟨p, 0, none⟩ = some kv := (fun o => (M1.out.alloc o).c0); clear hb)
      | (go_simp; go_at_call 37; refine (insert_new_b w1 kv n n ks x M1.out.krow (Nat.le_refl _) (by omega)).mono ?_; rintro e w2 ⟨g, cap, rfl, hrow, hgrow, hat⟩; rw [ins_map_b] at hrow; have M2 := Lib.hid ((M1.out.alloc _).key hgrow hrow hat); have hc2 := M2.out.2.1; have hf2 := M2.out.2.2.2.1; have hc2b := M2.out.1.c1; clear hrow hgrow hat))
  all_goals
    go_wp2_with fail
    refine (insertb_end' _ vv n _ M2.out.1.vrow (by omega) (by simp)).mono ?_
    rintro e w3 ⟨g3, cap3, rfl, hrow3, hgrow3, hat3⟩
    have M3 := Lib.hid ((M2.out.1.alloc _).val hgrow3 hrow3 hat3)
    have hc3 := M3.out.2.2.1
    have hf3 := M3.out.2.2.2.2
    clear hrow3 hgrow3 hat3
    go_wp2_with fail
    go_end0
    exact put_end_b HE.out HK.out HN.out M3.out.1

/-- Put of a key that no key is behind. -/
theorem put_any_b (p : Nat) (D : Pairs) (f : Nat → Prop) (x : ByteArray) (W : World) (h : Tabb W p D f) (hR : Rise D) (hn : D.length ≤ 9000) (hx : x.size ≤ 281474976710656) (hlast : ∀ q ∈ D, lt x q.1 = false) :
    Calls Try.prog 31 #[.pointer (some ⟨p, 0, none⟩), .string x, .bool true] W (Turnedb p (putD D x ⟨#[]⟩) f (.tuple #[]) W) := by
  cases hh : hasD D x with
  | true => exact put_has_b p D f x W h hR (by omega) hh
  | false =>
    refine put_new_b p D f x W h hR hn hx hh ?_
    by_cases hlt : rk D x < D.length
    · exfalso
      have h1 := not_lt_of_rk D x hR (rk D x) hlt (Nat.le_refl _)
      have h2 := hlast _ (List.getElem_mem hlt)
      exact hasD_not hR hh hlt (lt_tri h1 h2)
    · have := rk_le D x; omega

end Go.Proofs.Ytoflgkbjmbpdjaa
