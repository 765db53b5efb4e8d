/-
  Changes as they lie in memory: wherever they lie (Sc), in a block that is a slice's own (Lot); which of them are the same by the program's own comparison.
-/
import Derived.Test.YtofkllokmecfgaaProg
import Derived.Tactics
import Derived.WalkKit
import Derived.WalkLawsBesides
import Derived.LoopTactic
import Derived.BigQuiet
import Derived.Deep.QuietTactic
import Derived.Outline
import Derived.WalkSpells
import Derived.Lib.Hide
import Derived.Laws.StructEq
import Derived.Laws.ResultCell
import Derived.LoopN
import Derived.RangeFuncBox
import Derived.RangeFuncCalls
import Derived.Deep.RegionHeld3
import Derived.Deep.RegionLaw
import Derived.Deep.DrawnRows
import Derived.StillTailTactics
import Derived.Maps.OwnIn
import Derived.KernelRfl
import Derived.Test.YtofkllokmecfgaaLot
import GoSem.Op.String
namespace Go.Proofs.Ytofkllokmecfgaa
open Go Go.RowKit

/-- A change: a key, whether it has a value, that value. -/
structure ChD where
  key : ByteArray
  has : Bool
  val : ByteArray
instance : DecidableEq ChD := fun a b =>
  if h : a.key = b.key ∧ a.has = b.has ∧ a.val = b.val then isTrue (by cases a; cases b; simp_all) else isFalse (fun e => h (by subst e; exact ⟨rfl, rfl, rfl⟩))
def ChD.fits (c : ChD) : Prop := c.key.size ≤ 281474976710656 ∧ c.val.size ≤ 281474976710656
def encC (c : ChD) : List Value := [.string c.key, .bool c.has, .string c.val]
def flatC (L : List ChD) : List Value := L.flatMap encC
theorem flatC_length : ∀ L : List ChD, (flatC L).length = L.length * 3
  | [] => rfl
  | p :: r => by
    have ih := flatC_length r
    have e : flatC (p :: r) = .string p.key :: .bool p.has :: .string p.val :: flatC r := by simp [flatC, encC]
    rw [e]
    simp only [List.length_cons, ih]; omega
theorem flatC_at : ∀ (L : List ChD) (j : Nat) (h : j < L.length), (flatC L)[j * 3]? = some (.string L[j].key) ∧ (flatC L)[j * 3 + 1]? = some (.bool L[j].has) ∧ (flatC L)[j * 3 + 2]? = some (.string L[j].val)
  | p :: r, 0, _ => by simp [flatC, encC]
  | p :: r, j + 1, h => by
    have ih := flatC_at r j (by simpa using h)
    have e : flatC (p :: r) = .string p.key :: .bool p.has :: .string p.val :: flatC r := by simp [flatC, encC]
    rw [e, show (j + 1) * 3 = j * 3 + 1 + 1 + 1 by omega, show j * 3 + 1 + 1 + 1 + 1 = j * 3 + 1 + 1 + 1 + 1 by rfl]
    simpa using ih
theorem flatC_snoc (L : List ChD) (x : ChD) : flatC (L ++ [x]) = flatC L ++ [.string x.key, .bool x.has, .string x.val] := by simp [flatC, encC]
theorem flatC_append (L R : List ChD) : flatC (L ++ R) = flatC L ++ flatC R := by simp [flatC]
theorem flatC_one (L : List ChD) : ∀ u ∈ flatC L, u.oneCell' = true := by
  intro u hu
  obtain ⟨x, _, hx⟩ := List.mem_flatMap.1 hu
  simp only [encC, List.mem_cons, List.not_mem_nil, or_false] at hx
  rcases hx with rfl | rfl | rfl <;> rfl
theorem flat3 (L : List ChD) (j : Nat) (u : Value) (h : (flatC L)[j]? = some u) : ∃ (q : Nat) (hq : q < L.length), (j = q * 3 ∧ u = .string L[q].key) ∨ (j = q * 3 + 1 ∧ u = .bool L[q].has) ∨ (j = q * 3 + 2 ∧ u = .string L[q].val) := by
  have hj := (List.getElem?_eq_some_iff.1 h).1
  rw [flatC_length] at hj
  have hq : j / 3 < L.length := by omega
  obtain ⟨a1, a2, a3⟩ := flatC_at L (j / 3) hq
  have hr : j = j / 3 * 3 ∨ j = j / 3 * 3 + 1 ∨ j = j / 3 * 3 + 2 := by omega
  refine ⟨j / 3, hq, ?_⟩
  rcases hr with hr | hr | hr
  · rw [← hr, h] at a1; exact .inl ⟨hr, Option.some.inj a1⟩
  · rw [← hr, h] at a2; exact .inr (.inl ⟨hr, Option.some.inj a2⟩)
  · rw [← hr, h] at a3; exact .inr (.inr ⟨hr, Option.some.inj a3⟩)

/-- An answer; what lay lies as it lay. -/
def Says (b : Bool) (w : World) (e : Ending) (w' : World) : Prop := e = .returned (.bool b) ∧ Below w.heap.size w w'
theorem Says.mk {b c : Bool} {w w' : World} (h : c = b) (hb : Below w.heap.size w w') : Says b w (.returned (.bool c)) w' := by subst h; exact ⟨rfl, hb⟩
theorem below_alloc (w : World) (o : Obj) : Below w.heap.size w (w.alloc o) := (Below.refl _ w).alloc (Nat.le_refl _) o
theorem below_draws (w : World) (q : Nat) : Below w.heap.size w (w.drewN q) := ⟨rfl, rfl, rfl, Nat.le_refl _, fun _ _ => rfl⟩
theorem below_drew (w : World) : Below w.heap.size w w.drew := below_draws w 1
theorem cell_lt {W : World} {b o : Nat} {v : Value} (h : W.cell? ⟨b, o, none⟩ = some v) : b < W.heap.size := World.block_lt_of_cell? W ⟨b, o, none⟩ h
theorem cell_of {W : World} {b i : Nat} {cs : Array Value} {t : TypeId} (h : W.heap[b]? = some (.cells cs t (0, 0))) : W.cell? ⟨b, i, none⟩ = cs[i]? := by simp [World.cell?, h]

theorem ba_ext {a b : ByteArray} (h : a.toList = b.toList) : a = b := by
  have toL : ∀ c : ByteArray, c.toList = c.data.toList := fun c => by
    have loop : ∀ (n i : Nat) (acc : List UInt8), c.size - i = n → ByteArray.toList.loop c i acc = acc.reverse ++ c.data.toList.drop i := by
      intro n
      induction n with
      | zero =>
        intro i acc h
        unfold ByteArray.toList.loop
        have hle : c.data.toList.length ≤ i := by rw [Array.length_toList]; show c.size ≤ i; omega
        rw [if_neg (by omega), List.drop_of_length_le hle, List.append_nil]
      | succ n ih =>
        intro i acc h
        unfold ByteArray.toList.loop
        have hlt : i < c.data.toList.length := by rw [Array.length_toList]; show i < c.size; omega
        rw [if_pos (by omega), ih (i + 1) _ (by omega), List.drop_eq_getElem_cons hlt]
        simp [ByteArray.get!, Array.getElem_toList, getElem!_pos c.data i (by simpa using hlt)]
    unfold ByteArray.toList
    rw [loop _ 0 [] rfl]; rfl
  rw [toL, toL] at h
  cases a; cases b
  exact congrArg ByteArray.mk (Array.toList_inj.1 h)
theorem ne_bytes {a b : ByteArray} (h : a ≠ b) : (a.toList == b.toList) = false := by
  rw [beq_eq_false_iff_ne]; exact fun e => h (ba_ext e)

/-- At p, a slice's address, lie the changes L. -/
def Sc (W : World) (p : Option Addr) (L : List ChD) : Prop :=
  ∀ j (h : j < L.length), ∃ b o, p = some ⟨b, o, none⟩ ∧ W.cell? ⟨b, o + j * 3, none⟩ = some (.string L[j].key) ∧ W.cell? ⟨b, o + j * 3 + 1, none⟩ = some (.bool L[j].has) ∧ W.cell? ⟨b, o + j * 3 + 2, none⟩ = some (.string L[j].val)
theorem Sc.nil (W : World) (p : Option Addr) : Sc W p [] := fun _ h => absurd h (Nat.not_lt_zero _)
theorem Sc.grow {W W' : World} {p : Option Addr} {L : List ChD} (h : Sc W p L) (hb : Below W.heap.size W W') : Sc W' p L := fun j hj => by
  obtain ⟨b, o, rfl, c1, c2, c3⟩ := h j hj
  exact ⟨b, o, rfl, (hb.cell (p := ⟨b, _, none⟩) (cell_lt c1)).trans c1, (hb.cell (p := ⟨b, _, none⟩) (cell_lt c2)).trans c2, (hb.cell (p := ⟨b, _, none⟩) (cell_lt c3)).trans c3⟩
theorem Sc.news {W : World} {b o : Nat} {L : List ChD} (h : Sc W (some ⟨b, o, none⟩) L) : ∀ j u, (flatC L)[j]? = some u → W.cell? ((⟨b, o, none⟩ : Addr).add j) = some u := fun j u hu => by
  obtain ⟨q, hq, hc⟩ := flat3 L j u hu
  obtain ⟨b', o', e, c1, c2, c3⟩ := h q hq
  obtain ⟨rfl, rfl⟩ : b = b' ∧ o = o' := by simpa using e
  rw [Addr.add_lit]
  rcases hc with ⟨rfl, rfl⟩ | ⟨rfl, rfl⟩ | ⟨rfl, rfl⟩
  · exact c1
  · exact c2
  · exact c3
theorem Sc.take {W : World} {p : Option Addr} {L : List ChD} (h : Sc W p L) (k : Nat) : Sc W p (L.take k) := fun j hj => by
  have hj2 : j < L.length := by rw [List.length_take] at hj; omega
  rw [List.getElem_take]
  exact h j hj2
theorem Sc.drop {W : World} {b o : Nat} {L : List ChD} (h : Sc W (some ⟨b, o, none⟩) L) (k : Nat) : Sc W (some ⟨b, o + k * 3, none⟩) (L.drop k) := fun j hj => by
  have hj2 : k + j < L.length := by rw [List.length_drop] at hj; omega
  obtain ⟨b', o', e, c1, c2, c3⟩ := h (k + j) hj2
  obtain ⟨rfl, rfl⟩ : b = b' ∧ o = o' := by simpa using e
  rw [List.getElem_drop]
  rw [show o + (k + j) * 3 = o + k * 3 + j * 3 by omega] at c1 c2 c3
  exact ⟨b, o + k * 3, rfl, c1, c2, c3⟩
theorem Sc.addr {W : World} {p : Option Addr} {L : List ChD} (h : Sc W p L) (hn : 0 < L.length) : ∃ b o, p = some ⟨b, o, none⟩ := by
  obtain ⟨b, o, e, _⟩ := h 0 hn
  exact ⟨b, o, e⟩
theorem Lot.sc {W : World} {p : Option Addr} {n c : Nat} {L : List ChD} (h : Lot W 31 3 (.slice p n c) n (flatC L)) (hn : L.length = n) : Sc W p L := by
  intro j hj
  obtain ⟨g, cap, e, hc⟩ := h.cells (by omega)
  cases e
  obtain ⟨a1, a2, a3⟩ := flatC_at L j hj
  exact ⟨g, 0, rfl, by simpa using hc _ _ a1, by simpa using hc _ _ a2, by simpa using hc _ _ a3⟩
theorem Lot.room {W : World} {e : TypeId} {size n c : Nat} {p : Option Addr} {xs : List Value} (h : Lot W e size (.slice p n c) n xs) : n ≤ c ∧ c ≤ maxLen ∧ (p = none → c = 0) := by
  rcases h.2 with ⟨hv, h0⟩ | ⟨g, cap, cur, hv, hg, h1, h2, h3, h4⟩
  · simp only [Value.slice.injEq] at hv
    obtain ⟨rfl, rfl, rfl⟩ := hv
    exact ⟨Nat.le_refl _, Nat.zero_le _, fun _ => rfl⟩
  · simp only [Value.slice.injEq] at hv
    obtain ⟨rfl, _, rfl⟩ := hv
    exact ⟨h1, h2, fun h => by cases h⟩
theorem Lot.none' (W : World) (e : TypeId) (size : Nat) : Lot (W.alloc (.cells #[] e)) e size (.slice (some ⟨W.heap.size, 0, none⟩) 0 0) 0 [] :=
  ⟨by simp, .inr ⟨W.heap.size, 0, #[], rfl, World.alloc_heap_new W _, Nat.le_refl _, Nat.zero_le _, by simp, by simp⟩⟩

theorem info_change : (Try.prog.info? 31).map (fun i => (i.zero, i.size, i.bytes)) = some (some (.agg #[.string ⟨#[]⟩, .bool false, .string ⟨#[]⟩]), 3, 40) := by kernel_rfl
theorem change_news (w : World) (a : ByteArray) (h : Bool) (b : ByteArray) (t : TypeId) : ∀ j u, [Value.string a, .bool h, .string b][j]? = some u → (w.alloc (.cells #[.string a, .bool h, .string b] t)).cell? ((⟨w.heap.size, 0, none⟩ : Addr).add j) = some u :=
  World.news_of_block (cs := #[.string a, .bool h, .string b]) (World.alloc_heap_new w _)
theorem change_one (a : ByteArray) (h : Bool) (b : ByteArray) : ∀ u ∈ [Value.string a, .bool h, .string b], u.oneCell' = true := by
  intro u hu
  simp only [List.mem_cons, List.not_mem_nil, or_false] at hu
  rcases hu with rfl | rfl | rfl <;> rfl

theorem neq_change (x y : ChD) (w : World) : (binOp .neq 31 (.agg #[.string x.key, .bool x.has, .string x.val]) (.agg #[.string y.key, .bool y.has, .string y.val])).run Try.prog w = .ok (.bool (!decide (x = y))) w := by
  have hS : Try.prog.underlying 31 = some (.struct (Try.prog.fieldsOf 31)) := by kernel_rfl
  have hp : Try.prog.stoodInHeld 31 = false := by kernel_rfl
  have u9 := Try.underlying9
  have u4 := Try.underlying4
  rw [run_neq_struct, show (10000 : Nat) = 9999 + 1 from rfl, run_equalIn_agg w 9999 31 _ _ hS hp]
  simp only [Program.fieldsOf, Try.underlying31]
  obtain ⟨xk, xh, xv⟩ := x
  obtain ⟨yk, yh, yv⟩ := y
  have hd : decide ((⟨xk, xh, xv⟩ : ChD) = ⟨yk, yh, yv⟩) = (decide (xk = yk) && (xh == yh) && decide (xv = yv)) := by
    by_cases h1 : xk = yk <;> by_cases h2 : xh = yh <;> by_cases h3 : xv = yv <;> simp [h1, h2, h3]
  rw [hd]
  by_cases h1 : xk = yk
  · subst h1
    cases xh <;> cases yh
    · by_cases h3 : xv = yv
      · subst h3; go_simp
      · have := ne_bytes h3
        go_simp
    · go_simp
    · go_simp
    · by_cases h3 : xv = yv
      · subst h3; go_simp
      · have := ne_bytes h3
        go_simp
  · have := ne_bytes h1
    go_simp
theorem guardC (op : BinOp) (a b : Operand) (xs ys : Array Value) (w : World) : (eqGuard op 31 a b (.agg xs) (.agg ys)).run Try.prog w = .ok () w := run_eqGuard_agg w op _ a b xs ys (by kernel_rfl)

set_option maxHeartbeats 2000000 in
set_option maxRecDepth 100000 in
theorem sameC_yes (p1 p2 : Option Addr) (n c1 c2 : Nat) (L : List ChD) (w : World) (h1 : Sc w p1 L) (h2 : Sc w p2 L) (hnn : L.length = n) (hn : n ≤ 100000) :
    Calls Try.prog 13 #[.slice p1 n c1, .slice p2 n c2] w (Says true w) := by
  have H1 := Lib.hid h1
  have H2 := Lib.hid h2
  have HN := Lib.hid hnn
  clear h1 h2 hnn
  go_enter Try.func13, Try.ntmps13
  go_wp2
  go_loopw [5] (fun i wr => ∃ k q : Nat, k ≤ n ∧ i = .int .i64 k ∧ wr = w.drewN q) (fun i _ => n - (intOf i).toNat)
  case atStart => exact ⟨0, 0, Nat.zero_le _, rfl, rfl⟩
  case round =>
    obtain ⟨k, q, hk, rfl, rfl⟩ := hrel
    by_cases hlt : k < n
    · have hltL : k < L.length := by rw [HN.out]; exact hlt
      obtain ⟨b1, o1, rfl, a1, a2, a3⟩ := H1.out k hltL
      obtain ⟨b2, o2, rfl, e1, e2, e3⟩ := H2.out k hltL
      obtain ⟨⟨xk, xh, xv⟩, hx⟩ : ∃ x, L[k] = x := ⟨_, rfl⟩
      rw [hx] at a1 a2 a3 e1 e2 e3
      have hneq := neq_change ⟨xk, xh, xv⟩ ⟨xk, xh, xv⟩
      rw [decide_eq_true rfl] at hneq
      simp only [Bool.not_true] at hneq
      clear hx hltL
      go_wp2_with fail
      go_quiet (fail)
      go_wp2
      go_roundw
      case rel => exact ⟨k + 1, _, by omega, by go_num, rfl⟩
      case measure => simp [intOf]; omega
    · go_wp2
      go_ret
      exact ⟨rfl, below_draws w q⟩

theorem run_append_zero {P : Program} (w : World) (t ty e : TypeId) (i : TypeInfo) (ht : P.underlying t = some (.slice e)) (hi : P.info? e = some i) (b p : Option Addr) (n cap c : Nat) (hnc : n ≤ cap) (hb : b = none → cap = 0) (hn63 : cap ≤ maxLen) :
    (Builtin.append_ #[t, t] ty #[.slice b n cap, .slice p 0 c]).run P w = .ok (.slice b n cap) w := by
  have h1 : ¬ cap < n := by omega
  cases b with
  | none =>
    obtain rfl := hb rfl
    obtain rfl : n = 0 := by omega
    cases p <;> simp [Builtin.append_, run_underlying ht, sizeOf, typeInfo, hi, Builtin.lenOf, Builtin.firstCells, loadCells, loadCellsFrom]
  | some a =>
    cases p <;> simp [Builtin.append_, run_underlying ht, sizeOf, typeInfo, hi, Builtin.lenOf, Builtin.firstCells, loadCells, loadCellsFrom, hnc, storeCells]

theorem wpList_append_zero {P : Program} {ops : Array Oper} {rest : List Oper} {o : Oper} {a : Act} {w : World} {Q : Exit → Act → World → Prop} (hgd : o.guard = none) (s x : Operand) (t : TypeId)
    (ho : o.op = .call { callee := .builtin .append, args := #[s, x], argTypes := #[t, t] }) (e : TypeId) (i : TypeInfo) (ht : P.underlying t = some (.slice e)) (hi : P.info? e = some i) (b p : Option Addr) (n cap c : Nat)
    (hs : a.eval s = .slice b n cap) (hx : a.eval x = .slice p 0 c) (hnc : n ≤ cap) (hb : b = none → cap = 0) (hn63 : cap ≤ maxLen) (h : wpList P ops Q rest (a.put o.dst (.slice b n cap)) w) : wpList P ops Q (o :: rest) a w := by
  refine wpList_plain hgd fun K hK => ?_
  have hr := run_append_zero (P := P) w t o.type e i ht hi b p n cap c hnc hb hn63
  unfold Oper.wp execOp
  simp only [ho, resolve, invoke, builtin, Sem.run_bind, Sem.run_pure, Result.andThen_ok, List.map_toArray, List.map_cons, List.map_nil, hs, hx, hr]
  exact hK _ _ h

end Go.Proofs.Ytofkllokmecfgaa
