/-
  The library's Concat of two rows of changes.
-/
import Derived.Test.YtbddicaabjlbjaaDiff
import Derived.Laws.AppendOwn
import Derived.LoopN
namespace Go.Proofs.Ytbddicaabjlbjaa
open Go Go.RowKit Go.Shelf

/-- At p, a slice's address, lie the changes L. -/
def Sc (W : World) (p : Option Addr) (L : List ChD) : Prop :=
  ∀ j (h : j < L.length), ∃ b o, p = some ⟨b, o, none⟩ ∧ W.cell? ⟨b, o + j * 3, none⟩ = some (.string L[j].key) ∧ W.cell? ⟨b, o + j * 3 + 1, none⟩ = some (.bool L[j].has) ∧ W.cell? ⟨b, o + j * 3 + 2, none⟩ = some (.string L[j].val)
theorem Sc.nil (W : World) (p : Option Addr) : Sc W p [] := fun _ h => absurd h (Nat.not_lt_zero _)
theorem LiesC.sc {W : World} {g o : Nat} {L : List ChD} (h : LiesC W g o L) : Sc W (some ⟨g, o, none⟩) L := fun j hj => ⟨g, o, rfl, h j hj⟩
theorem Sc.grow {W W' : World} {p : Option Addr} {L : List ChD} (h : Sc W p L) (hb : Below W.heap.size W W') : Sc W' p L := fun j hj => by
  obtain ⟨b, o, rfl, c1, c2, c3⟩ := h j hj
  exact ⟨b, o, rfl, (hb.cell (p := ⟨b, _, none⟩) (cell_lt c1)).trans c1, (hb.cell (p := ⟨b, _, none⟩) (cell_lt c2)).trans c2, (hb.cell (p := ⟨b, _, none⟩) (cell_lt c3)).trans c3⟩
theorem LiesC.of_row {W : World} {base g cap : Nat} {L : List ChD} (h : W.ownsRow base 38 3 (.slice (some ⟨g, 0, none⟩) L.length cap) L.length (flatC L)) : LiesC W g 0 L := by
  intro j hj
  have h1 := flatC_at L j hj
  have a1 := h.cells (g := g) rfl (j * 3) _ h1.1
  have a2 := h.cells (g := g) rfl (j * 3 + 1) _ h1.2.1
  have a3 := h.cells (g := g) rfl (j * 3 + 2) _ h1.2.2
  rw [Addr.add_lit] at a1 a2 a3
  exact ⟨a1, by simpa [Nat.add_assoc] using a2, by simpa [Nat.add_assoc] using a3⟩
theorem Sc.of_row {W : World} {base : Nat} {v : Value} {L : List ChD} (h : W.ownsRow base 38 3 v L.length (flatC L)) : ∃ p cap, v = .slice p L.length cap ∧ L.length ≤ cap ∧ Sc W p L ∧ (∀ b o, p = some ⟨b, o, none⟩ → base ≤ b) := by
  rcases h.2 with ⟨rfl, h0⟩ | ⟨g, cap, cur, rfl, hb, hg, hn, _⟩
  · obtain rfl : L = [] := List.eq_nil_of_length_eq_zero h0
    exact ⟨none, 0, rfl, Nat.le_refl _, Sc.nil _ _, fun b o e => by cases e⟩
  · exact ⟨_, cap, rfl, hn, (LiesC.of_row h).sc, fun b o e => by
      obtain ⟨rfl, _⟩ : g = b ∧ 0 = o := by simpa using e
      exact hb⟩

theorem flat3 (L : List ChD) (j : Nat) (u : Value) (h : (flatC L)[j]? = some u) : ∃ (q : Nat) (hq : q < L.length), (j = q * 3 ∧ u = .string L[q].key) ∨ (j = q * 3 + 1 ∧ u = .bool L[q].has) ∨ (j = q * 3 + 2 ∧ u = .string L[q].val) := by
  have hj := (List.getElem?_eq_some_iff.1 h).1
  rw [flatC_length] at hj
  have hq : j / 3 < L.length := by omega
  obtain ⟨a1, a2, a3⟩ := flatC_at L (j / 3) hq
  have hr : j = j / 3 * 3 ∨ j = j / 3 * 3 + 1 ∨ j = j / 3 * 3 + 2 := by omega
  refine ⟨j / 3, hq, ?_⟩
  rcases hr with hr | hr | hr
  · rw [← hr, h] at a1; exact .inl ⟨hr, Option.some.inj a1⟩
  · rw [← hr, h] at a2; exact .inr (.inl ⟨hr, Option.some.inj a2⟩)
  · rw [← hr, h] at a3; exact .inr (.inr ⟨hr, Option.some.inj a3⟩)
theorem Sc.news {W : World} {b o : Nat} {L : List ChD} (h : Sc W (some ⟨b, o, none⟩) L) : ∀ j u, (flatC L)[j]? = some u → W.cell? ((⟨b, o, none⟩ : Addr).add j) = some u := fun j u hu => by
  obtain ⟨q, hq, hc⟩ := flat3 L j u hu
  obtain ⟨b', o', e, c1, c2, c3⟩ := h q hq
  obtain ⟨rfl, rfl⟩ : b = b' ∧ o = o' := by simpa using e
  rw [Addr.add_lit]
  rcases hc with ⟨rfl, rfl⟩ | ⟨rfl, rfl⟩ | ⟨rfl, rfl⟩
  · exact c1
  · exact c2
  · exact c3
theorem flatC_one (L : List ChD) : ∀ u ∈ flatC L, u.oneCell' = true := by
  intro u hu
  obtain ⟨x, _, hx⟩ := List.mem_flatMap.1 hu
  simp only [encC, List.mem_cons, List.not_mem_nil, or_false] at hx
  rcases hx with rfl | rfl | rfl <;> rfl
theorem flatC_append (L R : List ChD) : flatC (L ++ R) = flatC L ++ flatC R := by simp [flatC]

theorem grow_any (n : Nat) (w : World) (hn : 0 < n) (hbig : n ≤ 100000) :
    Calls Try.prog 33 #[.slice none 0 0, .int .i64 n] w fun e w' => ∃ cap, e = .returned (.slice (some ⟨w.heap.size, 0, none⟩) 0 cap) ∧ w'.ownsRow w.heap.size 38 3 (.slice (some ⟨w.heap.size, 0, none⟩) 0 cap) 0 [] ∧ Below w.heap.size w w' := by
  obtain ⟨i0, hi, hz0, hz1, hz2⟩ := info_parts info_change
  have hc := Go.Proofs.Any8.slices_Grow_grow laysGrow i0 _ hi hz0 (by omega) none 0 0 n [] w (Nat.le_refl _) (by omega) (by rw [hz2]; omega) (by omega) (by simp) (fun _ => rfl) (fun a e => by cases e)
  refine Calls.mono (R := _) hc ?_
  rintro e w' ⟨rfl, rfl⟩
  have hge := grownCap_ge w (0 + n) 0 38
  have hle := grownCap_le_maxLen w (0 + n) 0 38 (by unfold maxLen; omega)
  refine ⟨grownCap w (0 + n) 0 38, rfl, ?_, ((Below.refl _ w).drew).alloc (Nat.le_refl _) _⟩
  have := World.ownsRow_made (base := w.heap.size) (e := 38) (size := 3) w.drew
    (([] : List Value).toArray ++ Builtin.zeroCells (Value.agg #[.string ⟨#[]⟩, .bool false, .string ⟨#[]⟩]).cells (0 + n - 0) ++ Builtin.zeroCells (Value.agg #[.string ⟨#[]⟩, .bool false, .string ⟨#[]⟩]).cells (grownCap w (0 + n) 0 38 - (0 + n)))
    (grownCap w (0 + n) 0 38) (Nat.le_refl _) hle (by
      simp only [Array.size_append, size_zeroCells, List.size_toArray, List.length_nil]
      rw [show (Value.agg #[.string ⟨#[]⟩, .bool false, .string ⟨#[]⟩]).cells.size = 3 from rfl]
      omega)
  exact this

theorem grow_none (w : World) : Calls Try.prog 33 #[.slice none 0 0, .int .i64 0] w fun e w' => e = .returned (.slice none 0 0) ∧ w' = w := by
  have := Go.Proofs.Any8.slices_Grow_room laysGrow none 0 0 0 w (Nat.le_refl _) (by omega) (by omega) (Nat.le_refl _)
  exact this

theorem run_append_zero {P : Program} (w : World) (t ty e : TypeId) (i : TypeInfo) (ht : P.underlying t = some (.slice e)) (hi : P.info? e = some i) (b p : Option Addr) (n cap c : Nat) (hnc : n ≤ cap) (hb : b = none → cap = 0) (hn63 : cap ≤ maxLen) :
    (Builtin.append_ #[t, t] ty #[.slice b n cap, .slice p 0 c]).run P w = .ok (.slice b n cap) w := by
  have h1 : ¬ cap < n := by omega
  cases b with
  | none =>
    obtain rfl := hb rfl
    obtain rfl : n = 0 := by omega
    cases p <;> simp [Builtin.append_, run_underlying ht, sizeOf, typeInfo, hi, Builtin.lenOf, Builtin.firstCells, loadCells, loadCellsFrom]
  | some a =>
    cases p <;> simp [Builtin.append_, run_underlying ht, sizeOf, typeInfo, hi, Builtin.lenOf, Builtin.firstCells, loadCells, loadCellsFrom, hnc, storeCells]

theorem wpList_append_zero {P : Program} {ops : Array Oper} {rest : List Oper} {o : Oper} {a : Act} {w : World} {Q : Exit → Act → World → Prop} (hgd : o.guard = none) (s x : Operand) (t : TypeId)
    (ho : o.op = .call { callee := .builtin .append, args := #[s, x], argTypes := #[t, t] }) (e : TypeId) (i : TypeInfo) (ht : P.underlying t = some (.slice e)) (hi : P.info? e = some i) (b p : Option Addr) (n cap c : Nat)
    (hs : a.eval s = .slice b n cap) (hx : a.eval x = .slice p 0 c) (hnc : n ≤ cap) (hb : b = none → cap = 0) (hn63 : cap ≤ maxLen) (h : wpList P ops Q rest (a.put o.dst (.slice b n cap)) w) : wpList P ops Q (o :: rest) a w := by
  refine wpList_plain hgd fun K hK => ?_
  have hr := run_append_zero (P := P) w t o.type e i ht hi b p n cap c hnc hb hn63
  unfold Oper.wp execOp
  simp only [ho, resolve, invoke, builtin, Sem.run_bind, Sem.run_pure, Result.andThen_ok, List.map_toArray, List.map_cons, List.map_nil, hs, hx, hr]
  exact hK _ _ h

theorem row_of {W : World} {base n : Nat} {v : Value} {xs : List Value} (h : W.ownsRow base 38 3 v n xs) : ∃ b cap, v = .slice b n cap ∧ n ≤ cap ∧ (b = none → cap = 0) ∧ cap ≤ maxLen := by
  rcases h.2 with ⟨rfl, rfl⟩ | ⟨g, cap, cur, rfl, _, _, hn, hm, _⟩
  · exact ⟨none, 0, rfl, Nat.le_refl _, fun _ => rfl, Nat.zero_le _⟩
  · exact ⟨_, cap, rfl, hn, (fun e => absurd e (by simp)), hm⟩

/-- Behind one append: the row is longer; nothing that lay has turned. -/
theorem after_append {base : Nat} {w0 W W' : World} {v : Value} {n : Nat} {xs : List Value} (hb : Below base w0 W) (hr : W.ownsRow base 38 3 v n xs) (hg : W.grownBy W' v.ownBlock) (hB : base ≤ W.heap.size) : Below base w0 W' :=
  hb.trans ((Below.refl base W).grown hg hB (fun k e => (hr.lt k e).1))

set_option maxHeartbeats 2000000 in
set_option maxRecDepth 100000 in
theorem concat_any (c : Nat) (p1 p2 : Option Addr) (n1 n2 c1 c2 : Nat) (L1 L2 : List ChD) (w : World) (h0 : w.cell? ⟨c, 0, none⟩ = some (.slice p1 n1 c1)) (h1 : w.cell? ⟨c, 1, none⟩ = some (.slice p2 n2 c2))
    (hs1 : Sc w p1 L1) (hs2 : Sc w p2 L2) (hn1 : L1.length = n1) (hn2 : L2.length = n2) (hl1 : n1 ≤ 40000) (hl2 : n2 ≤ 40000) :
    Calls Try.prog 20 #[.slice (some ⟨c, 0, none⟩) 2 2] w (CollC (L1 ++ L2) w) := by
  obtain ⟨i0, hi, hz0, hz1, hz2⟩ := info_parts info_change
  have hcw := cell_lt h0
  have HG : Hid (Calls Try.prog 33 #[.slice none 0 0, .int .i64 ((n1 : Int) + (n2 : Int))] w fun e w' => ∃ v, e = .returned v ∧ w'.ownsRow w.heap.size 38 3 v 0 [] ∧ Below w.heap.size w w') := by
    rcases Nat.eq_zero_or_pos (n1 + n2) with hz | hz
    · obtain rfl : n1 = 0 := by omega
      obtain rfl : n2 = 0 := by omega
      refine (show Hid _ from (show Calls _ _ _ _ _ from (grow_none w).mono ?_))
      rintro e w' ⟨rfl, rfl⟩
      exact ⟨_, rfl, World.ownsRow_nil _ _ _ _, Below.refl _ _⟩
    · have := grow_any (n1 + n2) w hz (by omega)
      rw [show ((n1 + n2 : Nat) : Int) = (n1 : Int) + (n2 : Int) by omega] at this
      refine (show Hid _ from (show Calls _ _ _ _ _ from this.mono ?_))
      rintro e w' ⟨cap, rfl, hr, hb⟩
      exact ⟨_, rfl, hr, hb⟩
  have HS1 := Lib.hid hs1
  have HS2 := Lib.hid hs2
  have HN1 := Lib.hid hn1
  have HN2 := Lib.hid hn2
  have HD1 : n1 = 0 ∨ ∃ b o, 0 < n1 ∧ p1 = some ⟨b, o, none⟩ := by
    rcases Nat.eq_zero_or_pos n1 with hz | hz
    · exact .inl hz
    · obtain ⟨b, o, e, _⟩ := hs1 0 (by omega)
      exact .inr ⟨b, o, hz, e⟩
  have HD2 : n2 = 0 ∨ ∃ b o, 0 < n2 ∧ p2 = some ⟨b, o, none⟩ := by
    rcases Nat.eq_zero_or_pos n2 with hz | hz
    · exact .inl hz
    · obtain ⟨b, o, e, _⟩ := hs2 0 (by omega)
      exact .inr ⟨b, o, hz, e⟩
  have H0 := Lib.hid h0
  have H1 := Lib.hid h1
  clear hs1 hs2 hn1 hn2
  go_enter Try.func20, Try.ntmps20
  go_wp2
  refine wp_loop_rounds 3 ?_
  rw [rounds_succ]
  go_wp2
  rw [rounds_succ]
  go_wp2
  rw [rounds_succ]
  go_wp2_with fail
  refine HG.out.mono ?_
  rintro e w0 ⟨v0, rfl, hr0, hb0⟩
  have g0 := (hb0.cell (p := ⟨c, 0, none⟩) hcw).trans h0
  have g1 := (hb0.cell (p := ⟨c, 1, none⟩) hcw).trans h1
  have HB0 := Lib.hid hb0
  have HR0 := Lib.hid hr0
  have hsz0 := hb0.size
  clear h0 h1 hb0 hr0
  go_wp2
  refine wp_loop_rounds 3 ?_
  rw [rounds_succ]
  rcases HD1 with rfl | ⟨b1, o1, hp1, rfl⟩
  · obtain ⟨ba, ca, rfl, a1, a2, a3⟩ := row_of HR0.out
    have HL1 : Hid (L1 = []) := List.eq_nil_of_length_eq_zero HN1.out
    go_wp2_with (at_builtin; refine wpList_append_zero rfl _ _ 23 rfl 38 i0 Try.underlying23 hi ba p1 _ ca c1 rfl rfl a1 a2 a3 ?_)
    have HRv : Hid (w0.ownsRow w.heap.size 38 3 (.slice ba 0 ca) 0 (flatC L1)) := by rw [HL1.out]; exact HR0.out
    have HBv := HB0
    have hszv := hsz0
    clear HR0 HB0
    rw [rounds_succ]
    rcases HD2 with rfl | ⟨b2, o2, hp2, rfl⟩
    · have HL2 : Hid (L2 = []) := List.eq_nil_of_length_eq_zero HN2.out
      go_wp2_with (at_builtin; refine wpList_append_zero rfl _ _ 23 rfl 38 i0 Try.underlying23 hi ba p2 _ ca c2 rfl rfl a1 a2 a3 ?_)
      rw [rounds_succ]
      go_wp2
      go_ret
      refine ⟨_, rfl, ?_, HBv.out⟩
      rw [HL2.out, List.append_nil, HN1.out]; exact HRv.out
    · have HS := Lib.hid ((HS2.out.grow HBv.out).news)
      go_wp2_with (at_builtin; refine wpList_append_own_at _ rfl _ _ 23 rfl w.heap.size 38 i0 (.agg #[.string ⟨#[]⟩, .bool false, .string ⟨#[]⟩]) 3 40 Try.underlying23 hi hz0 hz1 hz2 rfl (by decide) _ _ (flatC L1) rfl HRv.out ⟨b2, o2, none⟩ n2 c2 (flatC L2) rfl (by rw [flatC_length, HN2.out]) HS.out (flatC_one _) (by simp only [maxLen]; omega) (by omega) hszv ?_; intro v2 w2 hr2 hgrow2 _ _)
      have HR2 := Lib.hid hr2
      have HB2 := Lib.hid (after_append HBv.out HRv.out hgrow2 hszv)
      clear hr2 hgrow2
      rw [rounds_succ]
      go_wp2
      go_ret
      refine ⟨_, rfl, ?_, HB2.out⟩
      rw [flatC_append, List.length_append, HN1.out, HN2.out]; exact HR2.out
  · have HS := Lib.hid ((HS1.out.grow HB0.out).news)
    go_wp2_with (at_builtin; refine wpList_append_own_at _ rfl _ _ 23 rfl w.heap.size 38 i0 (.agg #[.string ⟨#[]⟩, .bool false, .string ⟨#[]⟩]) 3 40 Try.underlying23 hi hz0 hz1 hz2 rfl (by decide) _ _ [] rfl HR0.out ⟨b1, o1, none⟩ n1 c1 (flatC L1) rfl (by rw [flatC_length, HN1.out]) HS.out (flatC_one _) (by simp only [maxLen]; omega) (by omega) hsz0 ?_; intro v1 w1 hr1 hgrow1 _ _)
    have HRv : Hid (w1.ownsRow w.heap.size 38 3 v1 n1 (flatC L1)) := by
      have := hr1
      rw [Nat.zero_add, List.nil_append] at this; exact this
    have HBv := Lib.hid (after_append HB0.out HR0.out hgrow1 hsz0)
    have gv1 := (HBv.out.cell (p := ⟨c, 1, none⟩) hcw).trans H1.out
    have hszv := HBv.out.size
    clear HS hr1 hgrow1 HR0 HB0 g0 g1
    rw [rounds_succ]
    rcases HD2 with rfl | ⟨b2, o2, hp2, rfl⟩
    · obtain ⟨bb, cp, rfl, q1, q2, q3⟩ := row_of HRv.out
      have HL2 : Hid (L2 = []) := List.eq_nil_of_length_eq_zero HN2.out
      go_wp2_with (at_builtin; refine wpList_append_zero rfl _ _ 23 rfl 38 i0 Try.underlying23 hi bb p2 _ cp c2 rfl rfl q1 q2 q3 ?_)
      rw [rounds_succ]
      go_wp2
      go_ret
      refine ⟨_, rfl, ?_, HBv.out⟩
      rw [HL2.out, List.append_nil, HN1.out]; exact HRv.out
    · have HS := Lib.hid ((HS2.out.grow HBv.out).news)
      go_wp2_with (at_builtin; refine wpList_append_own_at _ rfl _ _ 23 rfl w.heap.size 38 i0 (.agg #[.string ⟨#[]⟩, .bool false, .string ⟨#[]⟩]) 3 40 Try.underlying23 hi hz0 hz1 hz2 rfl (by decide) _ _ (flatC L1) rfl HRv.out ⟨b2, o2, none⟩ n2 c2 (flatC L2) rfl (by rw [flatC_length, HN2.out]) HS.out (flatC_one _) (by simp only [maxLen]; omega) (by omega) hszv ?_; intro v2 w2 hr2 hgrow2 _ _)
      have HR2 := Lib.hid hr2
      have HB2 := Lib.hid (after_append HBv.out HRv.out hgrow2 hszv)
      clear hr2 hgrow2
      rw [rounds_succ]
      go_wp2
      go_ret
      refine ⟨_, rfl, ?_, HB2.out⟩
      rw [flatC_append, List.length_append, HN1.out, HN2.out]; exact HR2.out

end Go.Proofs.Ytbddicaabjlbjaa
