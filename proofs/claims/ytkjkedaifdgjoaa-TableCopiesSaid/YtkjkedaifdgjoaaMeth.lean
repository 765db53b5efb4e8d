/-
  The table's methods that only look: find, Len, Get, Key; New; and Delete.
-/
import Derived.Test.YtkjkedaifdgjoaaFns
import Derived.Tactics
import Derived.WalkKit
import Derived.WalkLawsBesides
import Derived.LoopTactic
import Derived.BigQuiet
import Derived.Deep.QuietTactic
import Derived.Outline
import Derived.WalkSpells
namespace Go.Proofs.Ytkjkedaifdgjoaa
open Go Go.RowKit

theorem Tab.parts {W : World} {p : Nat} {D : Pairs} {f : Nat → Prop} (h : Tab W p D f) : ∃ kv vv, W.heap[p]? = some (.cells #[kv, vv] 28 (0, 0)) ∧ W.ownsRow 0 9 1 kv D.length ((keysOf D).map Value.string) ∧ W.ownsRow 0 9 1 vv D.length ((valsOf D).map Value.string) ∧
    (kv.ownBlock = none ∨ kv.ownBlock ≠ vv.ownBlock) ∧ f = (fun k => k = p ∨ kv.ownBlock = some k ∨ vv.ownBlock = some k) ∧ W.cell? ⟨p, 0, none⟩ = some kv ∧ W.cell? ⟨p, 1, none⟩ = some vv ∧ W.frozen? ⟨p, 0, none⟩ = false ∧ W.frozen? ⟨p, 1, none⟩ = false := by
  obtain ⟨kv, vv, hp, hk, hv, hd, hf⟩ := h
  exact ⟨kv, vv, hp, hk, hv, hd, hf, by simp [World.cell?, hp], by simp [World.cell?, hp], by simp [World.frozen?, hp], by simp [World.frozen?, hp]⟩

theorem Tab.lt {W : World} {p : Nat} {D : Pairs} {f : Nat → Prop} (h : Tab W p D f) : ∀ k, f k → k < W.heap.size := by
  obtain ⟨kv, vv, hp, hk, hv, hd, rfl⟩ := h
  rintro k (rfl | hk' | hv')
  · exact (Array.getElem?_eq_some_iff.1 hp).1
  · exact (hk.lt k hk').2
  · exact (hv.lt k hv').2
theorem Tab.self {W : World} {p : Nat} {D : Pairs} {f : Nat → Prop} (h : Tab W p D f) : f p := by
  obtain ⟨kv, vv, hp, hk, hv, hd, rfl⟩ := h; exact .inl rfl

/-- A table hangs on its own blocks alone. -/
theorem Tab.stays {W W' : World} {p : Nat} {D : Pairs} {f : Nat → Prop} (h : Tab W p D f) (_ : W.heap.size ≤ W'.heap.size) (hb : ∀ k, f k → W'.heap[k]? = W.heap[k]?) : Tab W' p D f := by
  obtain ⟨kv, vv, hp, hk, hv, hd, rfl⟩ := h
  have keep : ∀ (v : Value) (xs : List Value), (∀ k, v.ownBlock = some k → W'.heap[k]? = W.heap[k]?) → W.ownsRow 0 9 1 v D.length xs → W'.ownsRow 0 9 1 v D.length xs := by
    rintro v xs hvb ⟨h1, h2⟩
    refine ⟨h1, ?_⟩
    rcases h2 with hn | ⟨g, cap, cur, rfl, hbg, hg, rest⟩
    · exact .inl hn
    · exact .inr ⟨g, cap, cur, rfl, hbg, (hvb g rfl).trans hg, rest⟩
  exact ⟨kv, vv, (hb p (.inl rfl)).trans hp, keep kv _ (fun k e => hb k (.inr (.inl e))) hk, keep vv _ (fun k e => hb k (.inr (.inr e))) hv, hd, rfl⟩

/-- What find answers. -/
def Found (D : Pairs) (x : ByteArray) (W : World) (e : Ending) (W' : World) : Prop := e = .returned (.tuple #[.int .i64 (rk D x : Nat), .bool (hasD D x)]) ∧ ∃ q, W' = W.drewN q

theorem find_any (p : Nat) (D : Pairs) (f : Nat → Prop) (x : ByteArray) (W : World) (h : Tab W p D f) (hR : Rise D) (hn : D.length ≤ 10000) :
    Calls Try.prog 21 #[.pointer (some ⟨p, 0, none⟩), .string x] W (Found D x W) := by
  obtain ⟨kv, vv, hp, hk, hv, hd, hf, hc0, hc1, _, _⟩ := h.parts
  have HS := Lib.hid (search_any W kv D x hk hR hn)
  clear hp hk hv hd hf hR hn h hc1
  go_enter Try.func21, Try.ntmps21
  go_wp2_with fail
  refine HS.out.mono ?_
  rintro e w' ⟨rfl, q, rfl⟩
  go_wp2
  go_ret2
  exact ⟨rfl, q, rfl⟩

theorem find_nil (x : ByteArray) (W : World) :
    Calls Try.prog 21 #[.pointer none, .string x] W fun e W' => e = .returned (.tuple #[.int .i64 0, .bool false]) ∧ W = W' := by
  go_enter Try.func21, Try.ntmps21
  go_wp2
  go_ret2
  exact ⟨rfl, rfl⟩

theorem len_any (p : Nat) (D : Pairs) (f : Nat → Prop) (W : World) (h : Tab W p D f) :
    Calls Try.prog 14 #[.pointer (some ⟨p, 0, none⟩)] W fun e W' => e = .returned (.int .i64 (D.length : Nat)) ∧ W = W' := by
  obtain ⟨kv, vv, hp, hk, hv, hd, hf, hc0, hc1, _, _⟩ := h.parts
  have hkv : ∃ b c, kv = .slice b D.length c := by
    rcases hk.2 with ⟨rfl, h0⟩ | ⟨g, cap, cur, rfl, _⟩
    · exact ⟨none, 0, by rw [h0]⟩
    · exact ⟨_, _, rfl⟩
  obtain ⟨b, c, rfl⟩ := hkv
  obtain ⟨n, hn⟩ : ∃ n, D.length = n := ⟨_, rfl⟩
  rw [hn] at hc0 ⊢
  clear hp hk hv hd hf h hc1 hn
  go_enter Try.func14, Try.ntmps14
  go_wp2
  go_ret
  exact ⟨rfl, rfl⟩

theorem len_nil (W : World) :
    Calls Try.prog 14 #[.pointer none] W fun e W' => e = .returned (.int .i64 0) ∧ W = W' := by
  go_enter Try.func14, Try.ntmps14
  go_wp2
  go_ret
  exact ⟨rfl, rfl⟩

theorem new_any (W : World) : Calls Try.prog 7 #[] W fun e W' => e = .returned (.pointer (some ⟨W.heap.size, 0, none⟩)) ∧ W' = W.alloc (.cells #[.slice none 0 0, .slice none 0 0] 28) := by
  go_enter Try.func7, Try.ntmps7
  go_wp2
  go_ret
  exact ⟨rfl, rfl⟩

theorem tab_new (W : World) : Tab (W.alloc (.cells #[.slice none 0 0, .slice none 0 0] 28)) W.heap.size [] (fun k => k = W.heap.size) :=
  ⟨.slice none 0 0, .slice none 0 0, heap_alloc_new W _, World.ownsRow_nil _ _ _ _, World.ownsRow_nil _ _ _ _, .inl rfl, by funext k; simp [Value.ownBlock]⟩

/-- What Get answers. -/
def Got (D : Pairs) (x : ByteArray) (W : World) (e : Ending) (W' : World) : Prop := e = .returned (.tuple #[.string ((getD D x).getD ⟨#[]⟩), .bool (hasD D x)]) ∧ ∃ q, W' = W.drewN q

set_option maxHeartbeats 1000000 in
theorem get_any (p : Nat) (D : Pairs) (f : Nat → Prop) (x : ByteArray) (W : World) (h : Tab W p D f) (hR : Rise D) (hn : D.length ≤ 10000) :
    Calls Try.prog 9 #[.pointer (some ⟨p, 0, none⟩), .string x] W (Got D x W) := by
  obtain ⟨kv, vv, hp, hk, hv, hd, hf, hc0, hc1, _, _⟩ := h.parts
  have HF := Lib.hid (find_any p D f x W h hR hn)
  cases hh : hasD D x with
  | false =>
    have hg : getD D x = none := by unfold hasD at hh; cases e : getD D x with
      | none => rfl
      | some v => rw [e] at hh; cases hh
    unfold Found at HF
    rw [hh] at HF
    have HH := Lib.hid hh
    have HG := Lib.hid hg
    obtain ⟨r, hr⟩ : ∃ r, rk D x = r := ⟨_, rfl⟩
    rw [hr] at HF
    clear hp hk hv hd hf hR hn h hc0 hc1 hh hg hr
    go_enter Try.func9, Try.ntmps9
    go_wp2_with fail
    refine HF.out.mono ?_
    rintro e w' ⟨rfl, q, rfl⟩
    go_wp2
    go_ret2
    exact ⟨by rw [HG.out, HH.out]; rfl, q, rfl⟩
  | true =>
    obtain ⟨hlt, hkk, hgd⟩ := hasD_at hR hh
    unfold Found at HF
    rw [hh] at HF
    have HH := Lib.hid hh
    have HG := Lib.hid hgd
    obtain ⟨g, cap, rfl, hcell⟩ : ∃ g cap, vv = .slice (some ⟨g, 0, none⟩) D.length cap ∧ W.cell? ⟨g, rk D x, none⟩ = some (.string D[rk D x].2) := by
      rcases hv.2 with ⟨rfl, h0⟩ | ⟨g, cap, cur, rfl, _⟩
      · omega
      · refine ⟨g, cap, rfl, ?_⟩
        have := hv.cells (g := g) rfl (rk D x) (.string D[rk D x].2) (by simp [valsOf, List.getElem?_eq_getElem hlt])
        rwa [Addr.add_lit, Nat.zero_add] at this
    obtain ⟨u, hu⟩ : ∃ u, D[rk D x].2 = u := ⟨_, rfl⟩
    rw [hu] at hcell HG
    obtain ⟨r, hr⟩ : ∃ r, rk D x = r := ⟨_, rfl⟩
    obtain ⟨n, hn'⟩ : ∃ n, D.length = n := ⟨_, rfl⟩
    clear hu
    rw [hr] at HF hcell hlt
    rw [hn'] at hc1 hlt
    clear hp hk hv hd hf hR hn h hc0 hh hgd hr hn' hkk
    go_enter Try.func9, Try.ntmps9
    go_wp2_with fail
    refine HF.out.mono ?_
    rintro e w' ⟨rfl, q, rfl⟩
    go_wp2
    go_ret2
    exact ⟨by rw [HG.out, HH.out]; rfl, q, rfl⟩

theorem get_nil (x : ByteArray) (W : World) :
    Calls Try.prog 9 #[.pointer none, .string x] W fun e W' => e = .returned (.tuple #[.string ⟨#[]⟩, .bool false]) ∧ W = W' := by
  go_enter Try.func9, Try.ntmps9
  go_wp2_with fail
  refine (find_nil x W).mono ?_
  rintro e w' ⟨rfl, rfl⟩
  go_wp2
  go_ret2
  exact ⟨rfl, rfl⟩

theorem key_in (p : Nat) (D : Pairs) (f : Nat → Prop) (i : Nat) (W : World) (h : Tab W p D f) (_ : D.length ≤ 10000) (hi : i < D.length) :
    Calls Try.prog 15 #[.pointer (some ⟨p, 0, none⟩), .int .i64 i] W fun e W' => e = .returned (.tuple #[.string D[i].1, .bool true]) ∧ W = W' := by
  have HL := Lib.hid (len_any p D f W h)
  obtain ⟨kv, vv, hp, hk, hv, hd, hf, hc0, hc1, _, _⟩ := h.parts
  obtain ⟨g, cap, rfl, hcell⟩ : ∃ g cap, kv = .slice (some ⟨g, 0, none⟩) D.length cap ∧ W.cell? ⟨g, i, none⟩ = some (.string D[i].1) := by
    rcases hk.2 with ⟨rfl, h0⟩ | ⟨g, cap, cur, rfl, _⟩
    · omega
    · refine ⟨g, cap, rfl, ?_⟩
      have := hk.cells (g := g) rfl i (.string D[i].1) (by simp [keysOf, List.getElem?_eq_getElem hi])
      rwa [Addr.add_lit, Nat.zero_add] at this
  obtain ⟨u, hu⟩ : ∃ u, D[i].1 = u := ⟨_, rfl⟩
  obtain ⟨n, hn'⟩ : ∃ n, D.length = n := ⟨_, rfl⟩
  rw [hu] at hcell ⊢
  clear hu
  rw [hn'] at hc0 hi HL
  clear hp hk hv hd hf h hc1 hn'
  go_enter Try.func15, Try.ntmps15
  go_wp2_with fail
  refine HL.out.mono ?_
  rintro e w' ⟨rfl, rfl⟩
  go_wp2
  go_ret2
  exact ⟨rfl, rfl⟩

theorem key_behind (p : Nat) (D : Pairs) (f : Nat → Prop) (i : Nat) (W : World) (h : Tab W p D f) (_ : D.length ≤ 10000) (hi : D.length ≤ i) :
    Calls Try.prog 15 #[.pointer (some ⟨p, 0, none⟩), .int .i64 i] W fun e W' => e = .returned (.tuple #[.string ⟨#[]⟩, .bool false]) ∧ W = W' := by
  have HL := Lib.hid (len_any p D f W h)
  obtain ⟨n, hn'⟩ : ∃ n, D.length = n := ⟨_, rfl⟩
  rw [hn'] at hi HL
  clear h hn'
  go_enter Try.func15, Try.ntmps15
  go_wp2_with fail
  refine HL.out.mono ?_
  rintro e w' ⟨rfl, rfl⟩
  go_wp2
  go_ret2
  exact ⟨rfl, rfl⟩

theorem key_ahead (p : Value) (W : World) :
    Calls Try.prog 15 #[p, .int .i64 (-1)] W fun e W' => e = .returned (.tuple #[.string ⟨#[]⟩, .bool false]) ∧ W = W' := by
  go_enter Try.func15, Try.ntmps15
  go_wp2
  go_ret2
  exact ⟨rfl, rfl⟩

end Go.Proofs.Ytkjkedaifdgjoaa
