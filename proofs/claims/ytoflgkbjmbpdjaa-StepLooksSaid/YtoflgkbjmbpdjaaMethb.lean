/-
  A table whose values are all true, as it lies in memory (a set of keys): what find, Len and New make of it.
-/
import Derived.Test.YtoflgkbjmbpdjaaFns
import Derived.Tactics
import Derived.WalkKit
import Derived.WalkLawsBesides
import Derived.LoopTactic
import Derived.BigQuiet
import Derived.Deep.QuietTactic
import Derived.Outline
import Derived.WalkSpells
namespace Go.Proofs.Ytoflgkbjmbpdjaa
open Go Go.RowKit

/-- So many values, all true. -/
def trues (n : Nat) : List Value := List.replicate n (Value.bool true)

/-- At p lies a table whose pairs are D; its blocks are f's. -/
def Tabb (W : World) (p : Nat) (D : Pairs) (f : Nat → Prop) : Prop :=
  ∃ kv vv, W.heap[p]? = some (.cells #[kv, vv] 59 (0, 0)) ∧ W.ownsRow 0 9 1 kv D.length ((keysOf D).map Value.string) ∧ W.ownsRow 0 4 1 vv D.length (trues D.length) ∧
    (kv.ownBlock = none ∨ kv.ownBlock ≠ vv.ownBlock) ∧ f = fun k => k = p ∨ kv.ownBlock = some k ∨ vv.ownBlock = some k

theorem Tabb.parts {W : World} {p : Nat} {D : Pairs} {f : Nat → Prop} (h : Tabb W p D f) : ∃ kv vv, W.heap[p]? = some (.cells #[kv, vv] 59 (0, 0)) ∧ W.ownsRow 0 9 1 kv D.length ((keysOf D).map Value.string) ∧ W.ownsRow 0 4 1 vv D.length (trues D.length) ∧
    (kv.ownBlock = none ∨ kv.ownBlock ≠ vv.ownBlock) ∧ f = (fun k => k = p ∨ kv.ownBlock = some k ∨ vv.ownBlock = some k) ∧ W.cell? ⟨p, 0, none⟩ = some kv ∧ W.cell? ⟨p, 1, none⟩ = some vv ∧ W.frozen? ⟨p, 0, none⟩ = false ∧ W.frozen? ⟨p, 1, none⟩ = false := by
  obtain ⟨kv, vv, hp, hk, hv, hd, hf⟩ := h
  exact ⟨kv, vv, hp, hk, hv, hd, hf, by simp [World.cell?, hp], by simp [World.cell?, hp], by simp [World.frozen?, hp], by simp [World.frozen?, hp]⟩

theorem Tabb.lt {W : World} {p : Nat} {D : Pairs} {f : Nat → Prop} (h : Tabb W p D f) : ∀ k, f k → k < W.heap.size := by
  obtain ⟨kv, vv, hp, hk, hv, hd, rfl⟩ := h
  rintro k (rfl | hk' | hv')
  · exact (Array.getElem?_eq_some_iff.1 hp).1
  · exact (hk.lt k hk').2
  · exact (hv.lt k hv').2
theorem Tabb.self {W : World} {p : Nat} {D : Pairs} {f : Nat → Prop} (h : Tabb W p D f) : f p := by
  obtain ⟨kv, vv, hp, hk, hv, hd, rfl⟩ := h; exact .inl rfl

/-- A table hangs on its own blocks alone. -/
theorem Tabb.stays {W W' : World} {p : Nat} {D : Pairs} {f : Nat → Prop} (h : Tabb W p D f) (_ : W.heap.size ≤ W'.heap.size) (hb : ∀ k, f k → W'.heap[k]? = W.heap[k]?) : Tabb W' p D f := by
  obtain ⟨kv, vv, hp, hk, hv, hd, rfl⟩ := h
  have keep : ∀ (e : TypeId) (v : Value) (xs : List Value), (∀ k, v.ownBlock = some k → W'.heap[k]? = W.heap[k]?) → W.ownsRow 0 e 1 v D.length xs → W'.ownsRow 0 e 1 v D.length xs := by
    rintro e v xs hvb ⟨h1, h2⟩
    refine ⟨h1, ?_⟩
    rcases h2 with hn | ⟨g, cap, cur, rfl, hbg, hg, rest⟩
    · exact .inl hn
    · exact .inr ⟨g, cap, cur, rfl, hbg, (hvb g rfl).trans hg, rest⟩
  exact ⟨kv, vv, (hb p (.inl rfl)).trans hp, keep _ kv _ (fun k e => hb k (.inr (.inl e))) hk, keep _ vv _ (fun k e => hb k (.inr (.inr e))) hv, hd, rfl⟩

/-- What find answers. -/
def Foundb (D : Pairs) (x : ByteArray) (W : World) (e : Ending) (W' : World) : Prop := e = .returned (.tuple #[.int .i64 (rk D x : Nat), .bool (hasD D x)]) ∧ ∃ q, W' = W.drewN q

theorem find_any_b (p : Nat) (D : Pairs) (f : Nat → Prop) (x : ByteArray) (W : World) (h : Tabb W p D f) (hR : Rise D) (hn : D.length ≤ 10000) :
    Calls Try.prog 36 #[.pointer (some ⟨p, 0, none⟩), .string x] W (Foundb D x W) := by
  obtain ⟨kv, vv, hp, hk, hv, hd, hf, hc0, hc1, _, _⟩ := h.parts
  have HS := Lib.hid (search_any W kv D x hk hR hn)
  clear hp hk hv hd hf hR hn h hc1
  go_enter Try.func36, Try.ntmps36
  go_wp2_with fail
  refine HS.out.mono ?_
  rintro e w' ⟨rfl, q, rfl⟩
  go_wp2
  go_ret2
  exact ⟨rfl, q, rfl⟩

theorem find_nil_b (x : ByteArray) (W : World) :
    Calls Try.prog 36 #[.pointer none, .string x] W fun e W' => e = .returned (.tuple #[.int .i64 0, .bool false]) ∧ W = W' := by
  go_enter Try.func36, Try.ntmps36
  go_wp2
  go_ret2
  exact ⟨rfl, rfl⟩

theorem len_any_b (p : Nat) (D : Pairs) (f : Nat → Prop) (W : World) (h : Tabb W p D f) :
    Calls Try.prog 32 #[.pointer (some ⟨p, 0, none⟩)] W fun e W' => e = .returned (.int .i64 (D.length : Nat)) ∧ W = W' := by
  obtain ⟨kv, vv, hp, hk, hv, hd, hf, hc0, hc1, _, _⟩ := h.parts
  have hkv : ∃ b c, kv = .slice b D.length c := by
    rcases hk.2 with ⟨rfl, h0⟩ | ⟨g, cap, cur, rfl, _⟩
    · exact ⟨none, 0, by rw [h0]⟩
    · exact ⟨_, _, rfl⟩
  obtain ⟨b, c, rfl⟩ := hkv
  obtain ⟨n, hn⟩ : ∃ n, D.length = n := ⟨_, rfl⟩
  rw [hn] at hc0 ⊢
  clear hp hk hv hd hf h hc1 hn
  go_enter Try.func32, Try.ntmps32
  go_wp2
  go_ret
  exact ⟨rfl, rfl⟩

theorem len_nil_b (W : World) :
    Calls Try.prog 32 #[.pointer none] W fun e W' => e = .returned (.int .i64 0) ∧ W = W' := by
  go_enter Try.func32, Try.ntmps32
  go_wp2
  go_ret
  exact ⟨rfl, rfl⟩

theorem new_any_b (W : World) : Calls Try.prog 30 #[] W fun e W' => e = .returned (.pointer (some ⟨W.heap.size, 0, none⟩)) ∧ W' = W.alloc (.cells #[.slice none 0 0, .slice none 0 0] 59) := by
  go_enter Try.func30, Try.ntmps30
  go_wp2
  go_ret
  exact ⟨rfl, rfl⟩

theorem tab_new_b (W : World) : Tabb (W.alloc (.cells #[.slice none 0 0, .slice none 0 0] 59)) W.heap.size [] (fun k => k = W.heap.size) :=
  ⟨.slice none 0 0, .slice none 0 0, heap_alloc_new W _, World.ownsRow_nil _ _ _ _, World.ownsRow_nil _ _ _ _, .inl rfl, by funext k; simp [Value.ownBlock]⟩

end Go.Proofs.Ytoflgkbjmbpdjaa
