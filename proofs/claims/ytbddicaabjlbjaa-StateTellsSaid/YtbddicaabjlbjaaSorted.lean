/-
  The library's stable sort of changes by their keys, at this program.
-/
import Derived.Test.YtbddicaabjlbjaaStable
import Derived.Test.YtbddicaabjlbjaaTab
import Derived.Lib.Bytealg
import Derived.Tactics
import Derived.WalkKit
namespace Go.Proofs.Ytbddicaabjlbjaa
open Go Go.Shelf Go.RowKit Go.Lib Go.Sort

def encC (c : ChD) : List Value := [.string c.key, .bool c.has, .string c.val]
def cmpC (x y : ChD) : Int := Lib.compareBytes x.key.data.toList y.key.data.toList

theorem cmp_less : ∀ a b : List UInt8, decide (Lib.compareBytes a b < 0) = Op.bytesLess a b
  | [], [] => rfl
  | [], _ :: _ => rfl
  | _ :: _, [] => rfl
  | a :: x, b :: y => by
    unfold Lib.compareBytes Op.bytesLess
    by_cases h : a < b
    · simp [h]
    · by_cases h2 : b < a
      · have hne : ¬ a = b := fun e => by subst e; exact absurd h2 h
        simp [h, h2, hne]
      · have he : a = b := UInt8.le_antisymm (UInt8.not_lt.1 h2) (UInt8.not_lt.1 h)
        subst he
        simp only [h, if_false, decide_false, beq_self_eq_true, Bool.true_and, Bool.false_or]
        exact cmp_less x y

theorem hcf_cmp (x y : ChD) : ltOf cmpC x y = ltC x y := by
  unfold ltOf cmpC ltC lt
  rw [cmp_less, ByteArray.toList_eq, ByteArray.toList_eq]

set_option maxRecDepth 100000 in
theorem cmpstring_any (a b : ByteArray) (w : World) :
    Calls Try.prog 43 #[.string a, .string b] w fun e w' => e = .returned (.int .i64 (Lib.compareBytes a.data.toList b.data.toList)) ∧ w' = w := by
  go_enter Try.func43, Try.ntmps43
  go_wp2
  rw [run_callFunc_extern Try.func49 (by kernel_rfl) (by kernel_rfl) (by kernel_rfl) (e := Extern.BytealgCompare.compare) (by kernel_rfl), Lib.run_compareString]
  simp only [Result.andThen]
  rw [Oper.upon_value]
  go_wp2
  go_ret
  exact ⟨rfl, rfl⟩

theorem compare_any (a b : ByteArray) (w : World) :
    Calls Try.prog 35 #[.string a, .string b] w fun e w' => e = .returned (.int .i64 (Lib.compareBytes a.data.toList b.data.toList)) ∧ w' = w := by
  go_enter Try.func35, Try.ntmps35
  go_wp2_with fail
  refine (cmpstring_any a b w).mono ?_
  rintro e w' ⟨rfl, rfl⟩
  go_wp2
  go_ret
  exact ⟨rfl, rfl⟩

theorem bykey_any (x y : ChD) (w : World) :
    Calls Try.prog 22 #[.agg (encC x).toArray, .agg (encC y).toArray] w fun e w' => e = .returned (.int .i64 (cmpC x y)) ∧ ∃ o1 o2, w' = (w.alloc o1).alloc o2 := by
  obtain ⟨xk, xh, xv⟩ := x
  obtain ⟨yk, yh, yv⟩ := y
  unfold cmpC
  show Calls Try.prog 22 #[.agg #[.string xk, .bool xh, .string xv], .agg #[.string yk, .bool yh, .string yv]] w _
  go_enter Try.func22, Try.ntmps22
  go_wp2_with fail
  refine (compare_any _ _ _).mono ?_
  rintro e w' ⟨rfl, rfl⟩
  go_wp2
  go_ret
  exact ⟨rfl, _, _, rfl⟩

theorem bykey_lays (blk off size : Nat) (w : World) : CmpLays Try.prog 22 #[] encC 3 cmpC blk off size w := by
  intro m os dk _ x y
  refine (bykey_any x y _).mono ?_
  rintro e w' ⟨rfl, o1, o2, rfl⟩
  exact ⟨rfl, 0, #[o1, o2], by rw [alloc_eq_grow, alloc_eq_grow, grow_grow]; rfl⟩

theorem agg_change (w : World) : (isAgg 38).run Try.prog w = .ok true w := Try.isAgg38 w
theorem size_change (w : World) : (Go.sizeOf 38).run Try.prog w = .ok 3 w := Try.sizeOf38 w

theorem se_try (blk off : Nat) (d0 : Array ChD) (w0 : World) (hH : HoldsK encC 3 w0 blk off d0) (hblk : blk < w0.heap.size) (hsz : d0.size < 4611686018427387904) : SE Try.prog 3 encC cmpC 22 #[] blk off d0 w0 :=
  ⟨tf_try, Try.func53, Try.func48, Try.func42, Try.func34, agg_change, size_change,
    ⟨fun _ => rfl, fun x v hv => by
      simp only [encC, List.mem_cons, List.not_mem_nil, or_false] at hv
      rcases hv with rfl | rfl | rfl <;> rfl, hH, hblk⟩,
    enters_of Try.func22 (by kernel_rfl) rfl, bykey_lays _ _ _ _, hcf_cmp, hsz⟩

theorem ins_try (blk off : Nat) (d0 : Array ChD) (w0 : World) (hH : HoldsK encC 3 w0 blk off d0) (hblk : blk < w0.heap.size) (hsz : d0.size < 4611686018427387904) : InsOk Try.prog encC 3 w0 blk off 22 #[] d0 := by
  have E := se_try blk off d0 w0 hH hblk hsz
  intro X U Y cap a b sz w ha hb hl hd S
  subst ha hb hl
  have hlt : ltOf cmpC = ltC := by funext x y; exact hcf_cmp x y
  have hsz' : (X ++ (U ++ Y)).toArray.size = d0.size := by simp only [List.size_toArray]; omega
  have hC : CmpLays Try.prog 22 #[] encC 3 cmpC blk off (X ++ (U ++ Y)).toArray.size w := bykey_lays _ _ _ _
  have := AnyQ.insertionSortCmpFunc laysSort 3 agg_change size_change encC E.R.hk E.R.h1 cmpC 22 #[] blk off cap X.length (X.length + U.length) (X ++ (U ++ Y)).toArray w E.eg hC (S.holds hblk hH hsz') (S.lt hblk) (by omega)
    (by simp only [List.size_toArray, List.length_append]; omega) (by omega)
  refine Calls.mono (R := _) this ?_
  rintro e w' ⟨rfl, n, os, rfl⟩
  obtain ⟨R, hR, kR, pR⟩ := insertion_list X U Y
  rw [hlt, hR]
  exact ⟨rfl, R, kR, pR, S.on hblk n _ os (by simp only [List.size_toArray, List.length_append, pR.1])⟩

/-- The cells of a row of changes. -/
def flatC (L : List ChD) : List Value := L.flatMap encC
/-- At block g, from place o on, lie the changes L. -/
def LiesC (W : World) (g o : Nat) (L : List ChD) : Prop := ∀ j (h : j < L.length), W.cell? ⟨g, o + j * 3, none⟩ = some (.string L[j].key) ∧ W.cell? ⟨g, o + j * 3 + 1, none⟩ = some (.bool L[j].has) ∧ W.cell? ⟨g, o + j * 3 + 2, none⟩ = some (.string L[j].val)

theorem flatC_length (L : List ChD) : (flatC L).length = L.length * 3 := by
  unfold flatC
  induction L with
  | nil => rfl
  | cons p r ih => simp only [List.flatMap_cons, List.length_append, ih, List.length_cons, encC, List.length_nil]; omega
theorem flatC_at : ∀ (L : List ChD) (j : Nat) (h : j < L.length), (flatC L)[j * 3]? = some (.string L[j].key) ∧ (flatC L)[j * 3 + 1]? = some (.bool L[j].has) ∧ (flatC L)[j * 3 + 2]? = some (.string L[j].val)
  | p :: r, 0, _ => by simp [flatC, encC]
  | p :: r, j + 1, h => by
    have ih := flatC_at r j (by simpa using h)
    have e : flatC (p :: r) = .string p.key :: .bool p.has :: .string p.val :: flatC r := by simp [flatC, encC]
    rw [e, show (j + 1) * 3 = j * 3 + 1 + 1 + 1 by omega]
    simpa using ih

theorem LiesC.of_holds {W : World} {g o : Nat} {L : List ChD} (h : HoldsK encC 3 W g o L.toArray) : LiesC W g o L := by
  intro j hj
  have hc := HoldsK.cells h (fun _ => rfl) (i := j) (by simpa using hj)
  have e : L.toArray[j]! = L[j] := by rw [getElem!_pos _ _ (by simpa using hj)]; simp
  rw [e] at hc
  have c0 := hc 0 (.string L[j].key) rfl
  have c1 := hc 1 (.bool L[j].has) rfl
  have c2 := hc 2 (.string L[j].val) rfl
  rw [Addr.add_lit] at c0 c1 c2
  exact ⟨by simpa using c0, c1, c2⟩

theorem HoldsK.of_lies {W : World} {g o : Nat} {L : List ChD} (h : LiesC W g o L) (hf : ∀ j, W.frozen? ⟨g, j, none⟩ = false) : HoldsK encC 3 W g o L.toArray := by
  intro j hj
  refine ⟨?_, hf _⟩
  rw [size_flatK] at hj
  have hj' : j < L.length * 3 := by simpa using hj
  have hq : j / 3 < L.length := by omega
  obtain ⟨c0, c1, c2⟩ := h (j / 3) hq
  have e : (flatK encC 3 L.toArray)[j]! = (encC L[j / 3])[j % 3]! := by
    unfold flatK
    rw [getElem!_pos _ _ (by simpa using hj')]
    simp only [Array.getElem_map, Array.getElem_range]
    rw [getElem!_pos L.toArray _ (by simpa using hq)]
    simp
  have hm : j = j / 3 * 3 + j % 3 := by omega
  have hr : j % 3 = 0 ∨ j % 3 = 1 ∨ j % 3 = 2 := by omega
  show W.cell? ⟨g, o + j, none⟩ = some (id _)
  rw [e]
  rcases hr with hr | hr | hr
  · rw [hr]
    rw [show o + j = o + j / 3 * 3 by omega, c0]; rfl
  · rw [hr]
    rw [show o + j = o + j / 3 * 3 + 1 by omega, c1]; rfl
  · rw [hr]
    rw [show o + j = o + j / 3 * 3 + 2 by omega, c2]; rfl

/-- What the sort leaves: the changes, in another order; no other block turned. -/
structure Sorted (W : World) (g : Nat) (L R : List ChD) (W' : World) : Prop where
  kp : KP L R
  lies : LiesC W' g 0 R
  os : W'.os = W.os
  tape : W'.tape = W.tape
  output : W'.output = W.output
  size : W.heap.size ≤ W'.heap.size
  block : ∀ k, k < W.heap.size → k ≠ g → W'.heap[k]? = W.heap[k]?

theorem sorted_of {W W' : World} {g : Nat} {L R : List ChD} (hK : KP L R) (hg : g < W.heap.size) (hH : HoldsK encC 3 W g 0 L.toArray) (S : SWK encC 3 W g 0 R.toArray W') : Sorted W g L R W' := by
  have hh := S.holds hg hH (by simp only [List.size_toArray]; exact hK.1.symm)
  obtain ⟨m, os, rfl⟩ := S
  refine ⟨hK, LiesC.of_holds hh, rfl, rfl, rfl, ?_, fun k hk hne => ?_⟩
  · unfold sortWorldK
    rw [size_grow, size_putRowK]; exact Nat.le_add_right _ _
  · show ((W.heap.modify g _) ++ os)[k]? = _
    rw [Array.getElem?_append_left (by rw [Array.size_modify]; exact hk), Array.getElem?_modify, if_neg (fun e => hne e.symm)]

set_option maxRecDepth 100000 in
theorem sortstable_any (g cap n : Nat) (L : List ChD) (w : World) (hn : L.length = n) (h : LiesC w g 0 L) (hf : ∀ j, w.frozen? ⟨g, j, none⟩ = false) (hg : g < w.heap.size) (hsmall : n ≤ 1000000) :
    Calls Try.prog 21 #[.slice (some ⟨g, 0, none⟩) n cap, .func (.func 22) #[] #[]] w fun e w' => e = .returned (.tuple #[]) ∧ ∃ R, Sorted w g L R w' := by
  have hH := HoldsK.of_lies h hf
  have hs : L.toArray.size < 4611686018427387904 := by rw [List.size_toArray]; omega
  have E := se_try g 0 L.toArray w hH hg hs
  have I := ins_try g 0 L.toArray w hH hg hs
  have HS := Lib.hid (stable_list E I (enters_of Try.func41 (by kernel_rfl) rfl) L cap n w hn (by simpa using hn) hsmall (SWK.start hH))
  have HE := Lib.hid (fun R w' (hK : KP L R) (S : SWK encC 3 w g 0 R.toArray w') => sorted_of hK hg hH S)
  clear E I hs hH h hf hg hsmall hn
  go_enter Try.func21, Try.ntmps21
  go_wp2_with fail
  refine HS.out.mono ?_
  rintro e w' ⟨rfl, R, hK, S⟩
  go_wp2
  go_end0
  exact ⟨rfl, R, HE.out R _ hK S⟩

theorem ins_none (v : Value) (hv : v = .slice none 0 0) (fv : Value) (w : World) : Calls Try.prog 41 #[v, .int .i64 0, .int .i64 0, fv] w fun e w' => e = .returned (.tuple #[]) ∧ w' = w := by
  subst hv
  go_enter Try.func41, Try.ntmps41
  go_wp2
  refine wp_loop_rounds 1 ?_
  rw [rounds_succ]
  go_wp2
  go_end0
  exact ⟨rfl, rfl⟩

theorem stable_none (fv : Value) (w : World) : Calls Try.prog 34 #[.slice none 0 0, .int .i64 0, fv] w fun e w' => e = .returned (.tuple #[]) ∧ w' = w := by
  go_enter Try.func34, Try.ntmps34
  go_wp2
  refine wp_loop_rounds 1 ?_
  rw [rounds_succ]
  go_wp2_with fail
  refine (ins_none _ rfl fv w).mono ?_
  rintro e w' ⟨rfl, rfl⟩
  go_wp2
  refine wp_loop_rounds 1 ?_
  rw [rounds_succ]
  go_wp2
  go_end0
  exact ⟨rfl, rfl⟩

theorem sortstable_none (fv : Value) (w : World) : Calls Try.prog 21 #[.slice none 0 0, fv] w fun e w' => e = .returned (.tuple #[]) ∧ w' = w := by
  go_enter Try.func21, Try.ntmps21
  go_wp2_with fail
  refine (stable_none fv w).mono ?_
  rintro e w' ⟨rfl, rfl⟩
  go_wp2
  go_end0
  exact ⟨rfl, rfl⟩

end Go.Proofs.Ytbddicaabjlbjaa
