/-
  Operations as they lie in memory, and which of them are the same by the reference: what stage 8's texts have of them (this is laid by program out of XParts, XKeys, XLooks, XSame, XRefsame).
-/
import Derived.Test.YtkfnndhoccjffaaProg
import Derived.Tactics
import Derived.WalkKit
import Derived.WalkLawsBesides
import Derived.LoopTactic
import Derived.BigQuiet
import Derived.Deep.QuietTactic
import Derived.Outline
import Derived.WalkSpells
import Derived.Lib.Hide
import Derived.Laws.StructEq
import Derived.LoopN
import Derived.RangeFuncBox
import GoSem.Op.String
namespace Go.Proofs.Ytkfnndhoccjffaa
open Go Go.RowKit

/-- A guard by its values. -/
structure GD where
  kind : Int
  key : ByteArray
  val : ByteArray
/-- A step by its values. -/
structure SD where
  kind : Int
  key : ByteArray
  val : ByteArray
  old : ByteArray
  n : Int
/-- Its cells. -/
def GD.cells (g : GD) : List Value := [.int .i64 g.kind, .string g.key, .string g.val]
def SD.cells (s : SD) : List Value := [.int .i64 s.kind, .string s.key, .string s.val, .string s.old, .int .i64 s.n]
/-- It is a value of the language. -/
def GD.fits (g : GD) : Prop := -9223372036854775808 ≤ g.kind ∧ g.kind ≤ 9223372036854775807 ∧ g.key.size ≤ 281474976710656 ∧ g.val.size ≤ 281474976710656
def SD.fits (s : SD) : Prop := -9223372036854775808 ≤ s.kind ∧ s.kind ≤ 9223372036854775807 ∧ s.key.size ≤ 281474976710656 ∧ s.val.size ≤ 281474976710656 ∧ s.old.size ≤ 281474976710656 ∧ -9223372036854775808 ≤ s.n ∧ s.n ≤ 9223372036854775807

/-- An answer; what lay lies as it lay. -/
def Says (b : Bool) (w : World) (e : Ending) (w' : World) : Prop := e = .returned (.bool b) ∧ Below w.heap.size w w'
theorem Says.mk {b c : Bool} {w w' : World} (h : c = b) (hb : Below w.heap.size w w') : Says b w (.returned (.bool c)) w' := by subst h; exact ⟨rfl, hb⟩

theorem below_alloc (w : World) (o : Obj) : Below w.heap.size w (w.alloc o) := (Below.refl _ w).alloc (Nat.le_refl _) o
theorem below_set (w : World) (o : Obj) (i : Nat) (u : Value) : Below w.heap.size w ((w.alloc o).setCell ⟨w.heap.size, i, none⟩ u) := (below_alloc w o).setCell (Nat.le_refl _) u
theorem below_set2 (w : World) (o : Obj) (i j : Nat) (u v : Value) : Below w.heap.size w (((w.alloc o).setCell ⟨w.heap.size, i, none⟩ u).setCell ⟨w.heap.size, j, none⟩ v) := (below_set w o i u).setCell (Nat.le_refl _) v

theorem ba_ext {a b : ByteArray} (h : a.toList = b.toList) : a = b := by
  have toL : ∀ c : ByteArray, c.toList = c.data.toList := fun c => by
    have loop : ∀ (n i : Nat) (acc : List UInt8), c.size - i = n → ByteArray.toList.loop c i acc = acc.reverse ++ c.data.toList.drop i := by
      intro n
      induction n with
      | zero =>
        intro i acc h
        unfold ByteArray.toList.loop
        have hle : c.data.toList.length ≤ i := by rw [Array.length_toList]; show c.size ≤ i; omega
        rw [if_neg (by omega), List.drop_of_length_le hle, List.append_nil]
      | succ n ih =>
        intro i acc h
        unfold ByteArray.toList.loop
        have hlt : i < c.data.toList.length := by rw [Array.length_toList]; show i < c.size; omega
        rw [if_pos (by omega), ih (i + 1) _ (by omega), List.drop_eq_getElem_cons hlt]
        simp [ByteArray.get!, Array.getElem_toList, getElem!_pos c.data i (by simpa using hlt)]
    unfold ByteArray.toList
    rw [loop _ 0 [] rfl]; rfl
  rw [toL, toL] at h
  cases a; cases b
  exact congrArg ByteArray.mk (Array.toList_inj.1 h)

/-- At p, a slice's address, lie the guards G. -/
def Sg (W : World) (p : Option Addr) (G : List GD) : Prop :=
  ∀ j (h : j < G.length), ∃ b o, p = some ⟨b, o, none⟩ ∧ W.cell? ⟨b, o + j * 3, none⟩ = some (.int .i64 G[j].kind) ∧ W.cell? ⟨b, o + j * 3 + 1, none⟩ = some (.string G[j].key) ∧ W.cell? ⟨b, o + j * 3 + 2, none⟩ = some (.string G[j].val)
/-- At p, a slice's address, lie the steps S. -/
def Ss (W : World) (p : Option Addr) (S : List SD) : Prop :=
  ∀ j (h : j < S.length), ∃ b o, p = some ⟨b, o, none⟩ ∧ W.cell? ⟨b, o + j * 5, none⟩ = some (.int .i64 S[j].kind) ∧ W.cell? ⟨b, o + j * 5 + 1, none⟩ = some (.string S[j].key) ∧ W.cell? ⟨b, o + j * 5 + 2, none⟩ = some (.string S[j].val) ∧
    W.cell? ⟨b, o + j * 5 + 3, none⟩ = some (.string S[j].old) ∧ W.cell? ⟨b, o + j * 5 + 4, none⟩ = some (.int .i64 S[j].n)

theorem cell_lt {W : World} {b o : Nat} {v : Value} (h : W.cell? ⟨b, o, none⟩ = some v) : b < W.heap.size := World.block_lt_of_cell? W ⟨b, o, none⟩ h
theorem Sg.nil (W : World) (p : Option Addr) : Sg W p [] := fun _ h => absurd h (Nat.not_lt_zero _)
theorem Ss.nil (W : World) (p : Option Addr) : Ss W p [] := fun _ h => absurd h (Nat.not_lt_zero _)
theorem Sg.grow {W W' : World} {p : Option Addr} {G : List GD} (h : Sg W p G) (hb : Below W.heap.size W W') : Sg W' p G := fun j hj => by
  obtain ⟨b, o, rfl, c1, c2, c3⟩ := h j hj
  exact ⟨b, o, rfl, (hb.cell (p := ⟨b, _, none⟩) (cell_lt c1)).trans c1, (hb.cell (p := ⟨b, _, none⟩) (cell_lt c2)).trans c2, (hb.cell (p := ⟨b, _, none⟩) (cell_lt c3)).trans c3⟩
theorem Ss.grow {W W' : World} {p : Option Addr} {S : List SD} (h : Ss W p S) (hb : Below W.heap.size W W') : Ss W' p S := fun j hj => by
  obtain ⟨b, o, rfl, c1, c2, c3, c4, c5⟩ := h j hj
  exact ⟨b, o, rfl, (hb.cell (p := ⟨b, _, none⟩) (cell_lt c1)).trans c1, (hb.cell (p := ⟨b, _, none⟩) (cell_lt c2)).trans c2, (hb.cell (p := ⟨b, _, none⟩) (cell_lt c3)).trans c3, (hb.cell (p := ⟨b, _, none⟩) (cell_lt c4)).trans c4, (hb.cell (p := ⟨b, _, none⟩) (cell_lt c5)).trans c5⟩

/-- Are two things the same? -/
noncomputable def eqD {α : Type} (a b : α) : Bool := @decide (a = b) (Classical.propDecidable _)
theorem eqD_ne {α : Type} {a b : α} (h : a ≠ b) : eqD a b = false := @decide_eq_false _ (Classical.propDecidable _) h
theorem eqD_of {α : Type} {a b : α} (h : a = b) : eqD a b = true := @decide_eq_true _ (Classical.propDecidable _) h
theorem eqD_self {α : Type} (a : α) : eqD a a = true := eqD_of rfl
theorem eqD_true {α : Type} {a b : α} (h : eqD a b = true) : a = b := @of_decide_eq_true _ (Classical.propDecidable _) h
theorem eqD_false {α : Type} {a b : α} (h : eqD a b = false) : a ≠ b := @of_decide_eq_false _ (Classical.propDecidable _) h

theorem toList_inj {a b : ByteArray} : (a.toList == b.toList) = eqD a b := by
  by_cases h : a = b
  · subst h; rw [eqD_self]; simp
  · rw [eqD_ne h, beq_eq_false_iff_ne]; exact fun e => h (ba_ext e)

theorem neqG (a b : GD) (w : World) : (binOp .neq 57 (.agg #[.int .i64 a.kind, .string a.key, .string a.val]) (.agg #[.int .i64 b.kind, .string b.key, .string b.val])).run Try.prog w = .ok (.bool (!eqD a b)) w := by
  have u3 := Try.underlying3
  have u9 := Try.underlying9
  have hS : Try.prog.underlying 57 = some (.struct (Try.prog.fieldsOf 57)) := by kernel_rfl
  have hp : Try.prog.stoodInHeld 57 = false := by kernel_rfl
  have hR : eqD a b = (a.kind == b.kind && (a.key.toList == b.key.toList && a.val.toList == b.val.toList)) := by
    obtain ⟨k, s, v⟩ := a
    obtain ⟨k', s', v'⟩ := b
    simp only [toList_inj]
    by_cases h1 : k = k'
    · by_cases h2 : s = s'
      · by_cases h3 : v = v'
        · subst h1 h2 h3; simp [eqD_self]
        · rw [eqD_ne (fun e => h3 (by cases e; rfl)), eqD_ne h3]; simp
      · rw [eqD_ne (fun e => h2 (by cases e; rfl)), eqD_ne h2]; simp
    · rw [eqD_ne (fun e => h1 (by cases e; rfl))]; simp [h1]
  rw [hR, run_neq_struct, show (10000 : Nat) = 9999 + 1 from rfl, run_equalIn_agg w 9999 57 _ _ hS hp]
  simp only [Program.fieldsOf, Try.underlying57]
  have a3 := Try.isAgg3
  have z3 := Try.sizeOf3
  have a9 := Try.isAgg9
  have z9 := Try.sizeOf9
  go_simp
  by_cases h1 : a.kind = b.kind <;> by_cases h2 : a.key.toList = b.key.toList <;> by_cases h3 : a.val.toList = b.val.toList <;> simp [h1, h2, h3]

theorem neqS (a b : SD) (w : World) : (binOp .neq 59 (.agg #[.int .i64 a.kind, .string a.key, .string a.val, .string a.old, .int .i64 a.n]) (.agg #[.int .i64 b.kind, .string b.key, .string b.val, .string b.old, .int .i64 b.n])).run Try.prog w = .ok (.bool (!eqD a b)) w := by
  have u2 := Try.underlying2
  have u3 := Try.underlying3
  have u9 := Try.underlying9
  have hS : Try.prog.underlying 59 = some (.struct (Try.prog.fieldsOf 59)) := by kernel_rfl
  have hp : Try.prog.stoodInHeld 59 = false := by kernel_rfl
  have hR : eqD a b = (a.kind == b.kind && (a.key.toList == b.key.toList && (a.val.toList == b.val.toList && (a.old.toList == b.old.toList && a.n == b.n)))) := by
    obtain ⟨k, s, v, o, n⟩ := a
    obtain ⟨k', s', v', o', n'⟩ := b
    simp only [toList_inj]
    by_cases h1 : k = k'
    · by_cases h2 : s = s'
      · by_cases h3 : v = v'
        · by_cases h4 : o = o'
          · by_cases h5 : n = n'
            · subst h1 h2 h3 h4 h5; simp [eqD_self]
            · rw [eqD_ne (fun e => h5 (by cases e; rfl))]; simp [h5]
          · rw [eqD_ne (fun e => h4 (by cases e; rfl)), eqD_ne h4]; simp
        · rw [eqD_ne (fun e => h3 (by cases e; rfl)), eqD_ne h3]; simp
      · rw [eqD_ne (fun e => h2 (by cases e; rfl)), eqD_ne h2]; simp
    · rw [eqD_ne (fun e => h1 (by cases e; rfl))]; simp [h1]
  rw [hR, run_neq_struct, show (10000 : Nat) = 9999 + 1 from rfl, run_equalIn_agg w 9999 59 _ _ hS hp]
  simp only [Program.fieldsOf, Try.underlying59]
  have a2 := Try.isAgg2
  have z2 := Try.sizeOf2
  have a3 := Try.isAgg3
  have z3 := Try.sizeOf3
  have a9 := Try.isAgg9
  have z9 := Try.sizeOf9
  go_simp
  by_cases h1 : a.kind = b.kind <;> by_cases h2 : a.key.toList = b.key.toList <;> by_cases h3 : a.val.toList = b.val.toList <;> by_cases h4 : a.old.toList = b.old.toList <;> by_cases h5 : a.n = b.n <;> simp [h1, h2, h3, h4, h5]

theorem below_drewN {B : Nat} {a w : World} (h : Below B a w) (q : Nat) : Below B a (w.drewN q) := ⟨h.os, h.tape, h.output, h.size, h.block⟩
theorem below_drewN' {a w : World} (h : Below a.heap.size a w) (q : Nat) : Below a.heap.size a (w.drewN q) := below_drewN h q
theorem take_eq_all {α : Type} {A B : List α} {n : Nat} (ha : A.length = n) (hb : B.length = n) (h : A.take n = B.take n) : A = B := by
  rwa [List.take_of_length_le (by omega), List.take_of_length_le (by omega)] at h
theorem take_eq_snoc {α : Type} {A B : List α} {k : Nat} (ha : k < A.length) (hb : k < B.length) (h : A.take k = B.take k) (e : A[k] = B[k]) : A.take (k + 1) = B.take (k + 1) := by
  rw [List.take_succ_eq_append_getElem ha, List.take_succ_eq_append_getElem hb, h, e]

theorem cell_of {W : World} {b i : Nat} {cs : Array Value} {t : TypeId} (h : W.heap[b]? = some (.cells cs t (0, 0))) : W.cell? ⟨b, i, none⟩ = cs[i]? := by simp [World.cell?, h]
theorem guardG (op : BinOp) (a b : Operand) (xs ys : Array Value) (w : World) : (eqGuard op 57 a b (.agg xs) (.agg ys)).run Try.prog w = .ok () w := run_eqGuard_agg w op _ a b xs ys (by kernel_rfl)
theorem guardS (op : BinOp) (a b : Operand) (xs ys : Array Value) (w : World) : (eqGuard op 59 a b (.agg xs) (.agg ys)).run Try.prog w = .ok () w := run_eqGuard_agg w op _ a b xs ys (by kernel_rfl)

/-- The value of an operation. -/
def opV (pg ps : Option Addr) (ng ns cg cs : Nat) : Value := .agg #[.slice pg ng cg, .slice ps ns cs]
/-- Are two operations the same? -/
noncomputable def sameD (G H : List GD) (S T : List SD) : Bool := eqD G H && eqD S T

set_option maxRecDepth 100000 in
set_option maxHeartbeats 4000000 in
theorem refsame_any (pg ps ph pt : Option Addr) (ng ns nh nt cg cs ch ct : Nat) (G H : List GD) (S T : List SD) (w : World) (hG : Sg w pg G) (hS : Ss w ps S) (hH : Sg w ph H) (hT : Ss w pt T)
    (hng : G.length = ng) (hns : S.length = ns) (hnh : H.length = nh) (hnt : T.length = nt) (b1 : ng ≤ 1000) (b2 : ns ≤ 1000) (b3 : nh ≤ 1000) (b4 : nt ≤ 1000) :
    Calls Try.prog 23 #[.agg #[.slice pg ng cg, .slice ps ns cs], .agg #[.slice ph nh ch, .slice pt nt ct]] w (Says (sameD G H S T) w) := by
  have HB2 := Lib.hid (show Below w.heap.size w ((w.alloc (.cells #[.slice pg ng cg, .slice ps ns cs] 38)).alloc (.cells #[.slice ph nh ch, .slice pt nt ct] 38)) from (below_alloc w _).alloc (by simp) _)
  by_cases hg : ng = nh
  · by_cases hs : ns = nt
    · subst hg hs
      have HG := Lib.hid (fun W (h : Below w.heap.size w W) => hG.grow h)
      have HH := Lib.hid (fun W (h : Below w.heap.size w W) => hH.grow h)
      have HS := Lib.hid (fun W (h : Below w.heap.size w W) => hS.grow h)
      have HT' := Lib.hid (fun W (h : Below w.heap.size w W) => hT.grow h)
      have HNG := Lib.hid hng
      have HNH := Lib.hid hnh
      have HNS := Lib.hid hns
      have HNT := Lib.hid hnt
      clear hG hS hH hT hng hns hnh hnt
      go_enter Try.func23, Try.ntmps23
      go_wp2_with fail
      have f0 : ((w.alloc (.cells #[.slice pg ng cg, .slice ps ns cs] 38)).alloc (.cells #[.slice ph ng ch, .slice pt ns ct] 38)).heap[w.heap.size]? = some (.cells #[.slice pg ng cg, .slice ps ns cs] 38 (0, 0)) :=
        (Below.heap_alloc (w.alloc (.cells #[.slice pg ng cg, .slice ps ns cs] 38)) _ w.heap.size (by simp)).trans (World.alloc_heap_new w _)
      have f1 : ((w.alloc (.cells #[.slice pg ng cg, .slice ps ns cs] 38)).alloc (.cells #[.slice ph ng ch, .slice pt ns ct] 38)).heap[w.heap.size + 1]? = some (.cells #[.slice ph ng ch, .slice pt ns ct] 38 (0, 0)) := by
        have h1 := World.alloc_heap_new (w.alloc (.cells #[.slice pg ng cg, .slice ps ns cs] 38)) (.cells #[.slice ph ng ch, .slice pt ns ct] 38)
        rwa [World.size_alloc] at h1
      have fs : ((w.alloc (.cells #[.slice pg ng cg, .slice ps ns cs] 38)).alloc (.cells #[.slice ph ng ch, .slice pt ns ct] 38)).heap.size = w.heap.size + 2 := by simp
      obtain ⟨W2, hW2⟩ : ∃ W2, ((w.alloc (.cells #[.slice pg ng cg, .slice ps ns cs] 38)).alloc (.cells #[.slice ph ng ch, .slice pt ns ct] 38)) = W2 := ⟨_, rfl⟩
      rw [hW2] at HB2 f0 f1 fs ⊢
      have HWB := Lib.hid (fun wr (h : Below W2.heap.size W2 wr) => HB2.out.trans (h.mono HB2.out.size))
      have HC := Lib.hid (show ∀ wr, Below W2.heap.size W2 wr → wr.cell? ⟨w.heap.size, 0, none⟩ = some (.slice pg ng cg) ∧ wr.cell? ⟨w.heap.size, 1, none⟩ = some (.slice ps ns cs) ∧ wr.cell? ⟨w.heap.size + 1, 0, none⟩ = some (.slice ph ng ch) ∧ wr.cell? ⟨w.heap.size + 1, 1, none⟩ = some (.slice pt ns ct) from fun wr h => by
        have g0 := (h.block w.heap.size (by omega)).trans f0
        have g1 := (h.block (w.heap.size + 1) (by omega)).trans f1
        exact ⟨(cell_of g0).trans rfl, (cell_of g0).trans rfl, (cell_of g1).trans rfl, (cell_of g1).trans rfl⟩)
      clear hW2 f0 f1 fs HB2
      go_loopw [5] (fun s wr => ∃ k : Nat, s = .int .i64 k ∧ k ≤ ng ∧ Hid (Below W2.heap.size W2 wr) ∧ Hid (G.take k = H.take k)) (fun s _ => ng - (intOf s).toNat)
      case atStart => exact ⟨0, rfl, Nat.zero_le _, Below.refl _ _, rfl⟩
      case round =>
        obtain ⟨k, rfl, hkn, hW, hE⟩ := hrel
        obtain ⟨e0, e1, e2, e3⟩ := HC.out wr hW.out
        by_cases hlt : k < ng
        · have hkA : k < G.length := by rw [HNG.out]; exact hlt
          have hkB : k < H.length := by rw [HNH.out]; exact hlt
          obtain ⟨b, o, rfl, c1, c2, c3⟩ := HG.out wr (HWB.out wr hW.out) k hkA
          obtain ⟨b', o', rfl, d1, d2, d3⟩ := HH.out wr (HWB.out wr hW.out) k hkB
          have HT := Lib.hid (fun (e : eqD G[k] H[k] = true) => take_eq_snoc hkA hkB hE.out (eqD_true e))
          have HF := Lib.hid (fun (e : eqD G[k] H[k] = false) => (show sameD G H S T = false from by unfold sameD; rw [eqD_ne (fun h => eqD_false e (by subst h; rfl))]; rfl))
          have hq := fun w => neqG G[k] H[k] w
          have hgd := guardG
          obtain ⟨⟨a1, a2, a3⟩, ha⟩ : ∃ g, G[k] = g := ⟨_, rfl⟩
          obtain ⟨⟨b1, b2, b3⟩, hb⟩ : ∃ g, H[k] = g := ⟨_, rfl⟩
          rw [ha] at c1 c2 c3 HT HF hq
          rw [hb] at d1 d2 d3 HT HF hq
          simp only at c1 c2 c3 d1 d2 d3 hq
          obtain ⟨r, hr⟩ : ∃ r, eqD (⟨a1, a2, a3⟩ : GD) ⟨b1, b2, b3⟩ = r := ⟨_, rfl⟩
          rw [hr] at HT HF hq
          clear ha hb hr hkA hkB
          have hltz : (k : Int) < (ng : Int) := by omega
          have h0 : (0 : Int) ≤ (k : Int) := by omega
          cases r
          · have HE := Lib.hid (HF.out rfl)
            go_wp2_with fail
            go_quiet (fail)
            go_wp2
            go_ret
            exact Says.mk HE.out.symm (below_drewN (HWB.out wr hW.out) _)
          · have HE := Lib.hid (HT.out rfl)
            go_wp2_with fail
            go_quiet (fail)
            go_wp2
            go_roundw
            case rel => exact ⟨k + 1, by go_num, by omega, below_drewN' hW.out _, HE⟩
            case measure => simp [intOf]; omega
        · obtain rfl : k = ng := by omega
          have HGH := Lib.hid (take_eq_all HNG.out HNH.out hE.out)
          clear hE
          go_wp2_with fail
          go_loopw [6] (fun s wr => ∃ k : Nat, s = .int .i64 k ∧ k ≤ ns ∧ Hid (Below W2.heap.size W2 wr) ∧ Hid (S.take k = T.take k)) (fun s _ => ns - (intOf s).toNat)
          case atStart => exact ⟨0, rfl, Nat.zero_le _, hW, rfl⟩
          case round =>
            clear e0 e1 e2 e3 hlt hW
            obtain ⟨k, rfl, hkn2, hW, hE⟩ := hrel
            obtain ⟨e0, e1, e2, e3⟩ := HC.out wr hW.out
            by_cases hlt : k < ns
            · have hkA : k < S.length := by rw [HNS.out]; exact hlt
              have hkB : k < T.length := by rw [HNT.out]; exact hlt
              obtain ⟨b, o, rfl, c1, c2, c3, c4, c5⟩ := HS.out wr (HWB.out wr hW.out) k hkA
              obtain ⟨b', o', rfl, d1, d2, d3, d4, d5⟩ := HT'.out wr (HWB.out wr hW.out) k hkB
              have HT := Lib.hid (fun (e : eqD S[k] T[k] = true) => take_eq_snoc hkA hkB hE.out (eqD_true e))
              have HF := Lib.hid (fun (e : eqD S[k] T[k] = false) => (show sameD G H S T = false from by unfold sameD; rw [eqD_ne (a := S) (b := T) (fun h => eqD_false e (by subst h; rfl)), Bool.and_false]))
              have hq := fun w => neqS S[k] T[k] w
              have hgd := guardS
              obtain ⟨⟨a1, a2, a3, a4, a5⟩, ha⟩ : ∃ g, S[k] = g := ⟨_, rfl⟩
              obtain ⟨⟨b1, b2, b3, b4, b5⟩, hb⟩ : ∃ g, T[k] = g := ⟨_, rfl⟩
              rw [ha] at c1 c2 c3 c4 c5 HT HF hq
              rw [hb] at d1 d2 d3 d4 d5 HT HF hq
              simp only at c1 c2 c3 c4 c5 d1 d2 d3 d4 d5 hq
              obtain ⟨r, hr⟩ : ∃ r, eqD (⟨a1, a2, a3, a4, a5⟩ : SD) ⟨b1, b2, b3, b4, b5⟩ = r := ⟨_, rfl⟩
              rw [hr] at HT HF hq
              clear ha hb hr hkA hkB
              have hltz : (k : Int) < (ns : Int) := by omega
              have h0 : (0 : Int) ≤ (k : Int) := by omega
              cases r
              · have HE := Lib.hid (HF.out rfl)
                go_wp2_with fail
                go_quiet (fail)
                go_wp2
                go_ret
                exact Says.mk HE.out.symm (below_drewN (HWB.out wr hW.out) _)
              · have HE := Lib.hid (HT.out rfl)
                go_wp2_with fail
                go_quiet (fail)
                go_wp2
                go_roundw
                case rel => exact ⟨k + 1, by go_num, by omega, below_drewN' hW.out _, HE⟩
                case measure => simp [intOf]; omega
            · obtain rfl : k = ns := by omega
              have HE := Lib.hid (show sameD G H S T = true from by unfold sameD; rw [eqD_of HGH.out, eqD_of (take_eq_all HNS.out HNT.out hE.out)]; rfl)
              have HW := Lib.hid (HWB.out wr hW.out)
              go_wp2_with fail
              go_ret
              exact Says.mk HE.out.symm HW.out
    · have HE := Lib.hid (show sameD G H S T = false from by unfold sameD; rw [eqD_ne (a := S) (b := T) (fun h => hs (by rw [← hns, ← hnt, h])), Bool.and_false])
      have hz : ¬ (ns : Int) = (nt : Int) := by omega
      subst hg
      clear hG hS hH hT hng hns hnh hnt hs
      go_enter Try.func23, Try.ntmps23
      go_wp2_with fail
      go_ret
      exact Says.mk HE.out.symm HB2.out
  · have HE := Lib.hid (show sameD G H S T = false from by unfold sameD; rw [eqD_ne (fun h => hg (by rw [← hng, ← hnh, h]))]; rfl)
    have hz : ¬ (ng : Int) = (nh : Int) := by omega
    clear hG hS hH hT hng hns hnh hnt hg
    go_enter Try.func23, Try.ntmps23
    go_wp2_with fail
    go_ret
    exact Says.mk HE.out.symm HB2.out

end Go.Proofs.Ytkfnndhoccjffaa
