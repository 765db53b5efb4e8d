/-
  slices.Clone of a block's cells; what a heap's Copy has laid so far.
-/
import Derived.Test.YtlgjolajnddpbaaDoorHcopy0
import Derived.Laws.AppendOwn
namespace Go.Proofs.YtlgjolajnddpbaaDoor
open Go Go.RowKit Go.Shelf
attribute [local go_sem ↓] Go.wp_at_zero Go.wp_at_succ

theorem run_append_zero {P : Program} (w : World) (t ty e : TypeId) (i : TypeInfo) (ht : P.underlying t = some (.slice e)) (hi : P.info? e = some i) (b p : Option Addr) (n cap c : Nat) (hnc : n ≤ cap) (hb : b = none → cap = 0) (hn63 : cap ≤ maxLen) :
    (Builtin.append_ #[t, t] ty #[.slice b n cap, .slice p 0 c]).run P w = .ok (.slice b n cap) w := by
  have h1 : ¬ cap < n := by omega
  cases b with
  | none =>
    obtain rfl := hb rfl
    obtain rfl : n = 0 := by omega
    cases p <;> simp [Builtin.append_, run_underlying ht, sizeOf, typeInfo, hi, Builtin.lenOf, Builtin.firstCells, loadCells, loadCellsFrom]
  | some a =>
    cases p <;> simp [Builtin.append_, run_underlying ht, sizeOf, typeInfo, hi, Builtin.lenOf, Builtin.firstCells, loadCells, loadCellsFrom, hnc, storeCells]

theorem wpList_append_zero {P : Program} {ops : Array Oper} {rest : List Oper} {o : Oper} {a : Act} {w : World} {Q : Exit → Act → World → Prop} (hgd : o.guard = none) (s x : Operand) (t : TypeId)
    (ho : o.op = .call { callee := .builtin .append, args := #[s, x], argTypes := #[t, t] }) (e : TypeId) (i : TypeInfo) (ht : P.underlying t = some (.slice e)) (hi : P.info? e = some i) (b p : Option Addr) (n cap c : Nat)
    (hs : a.eval s = .slice b n cap) (hx : a.eval x = .slice p 0 c) (hnc : n ≤ cap) (hb : b = none → cap = 0) (hn63 : cap ≤ maxLen) (h : wpList P ops Q rest (a.put o.dst (.slice b n cap)) w) : wpList P ops Q (o :: rest) a w := by
  refine wpList_plain hgd fun K hK => ?_
  have hr := run_append_zero (P := P) w t o.type e i ht hi b p n cap c hnc hb hn63
  unfold Oper.wp execOp
  simp only [ho, resolve, invoke, builtin, Sem.run_bind, Sem.run_pure, Result.andThen_ok, List.map_toArray, List.map_cons, List.map_nil, hs, hx, hr]
  exact hK _ _ h
theorem Lot.none' (W : World) (e : TypeId) (size : Nat) : Lot (W.alloc (.cells #[] e)) e size (.slice (some ⟨W.heap.size, 0, none⟩) 0 0) 0 [] :=
  ⟨by simp, .inr ⟨W.heap.size, 0, #[], rfl, World.alloc_heap_new W _, Nat.le_refl _, Nat.zero_le _, by simp, by simp⟩⟩
theorem slice_none (a : Addr) (n c : Nat) (w : World) : (binOp .eql 43 (.slice (some a) n c) (.slice none 0 0)).run Tryd.prog w = .ok (.bool false) w := by kernel_rfl
theorem uval_one (ws : List Int) : ∀ u ∈ ws.map uval, u.oneCell' = true := by
  intro u hu
  obtain ⟨x, _, rfl⟩ := List.mem_map.1 hu
  rfl

/-- What a clone of cells is. -/
def CloneR (ws : List Int) (W : World) (e : Ending) (W' : World) : Prop :=
  ∃ g2 cap, e = .returned (.slice (some ⟨g2, 0, none⟩) ws.length cap) ∧ Lot W' 32 1 (.slice (some ⟨g2, 0, none⟩) ws.length cap) ws.length (ws.map uval) ∧ W.heap.size ≤ g2 ∧ Below W.heap.size W W'

set_option maxRecDepth 100000 in
theorem sclone_any (W : World) (g c : Nat) (ws : List Int) (h : Lot W 32 1 (.slice (some ⟨g, 0, none⟩) ws.length c) ws.length (ws.map uval)) (hl : ws.length ≤ 256) :
    Calls Tryd.prog 56 #[.slice (some ⟨g, 0, none⟩) ws.length c] W (CloneR ws W) := by
  obtain ⟨i0, gi, gz0, gz1, gz2⟩ := info_parts info_u64
  have hsn := slice_none
  have hL0 := Lib.hid (Lot.none' W 32 1)
  have HLot := Lib.hid h
  obtain ⟨n, hn⟩ : ∃ n, ws.length = n := ⟨_, rfl⟩
  unfold CloneR
  rw [hn] at hl ⊢
  have HN := Lib.hid hn
  clear h hn
  have hB0 := Lib.hid (below_alloc W (.cells #[] 32))
  by_cases h0 : n = 0
  · subst h0
    have hws : ws = [] := List.eq_nil_of_length_eq_zero HN.out
    subst hws
    go_enter Tryd.func56, Tryd.ntmps56
    go_wp2_with (at_builtin; refine wpList_append_zero rfl _ _ 43 rfl 32 i0 Tryd.underlying43 gi (some ⟨W.heap.size, 0, none⟩) (some ⟨g, 0, none⟩) 0 0 c rfl rfl (Nat.le_refl _) (fun e => by cases e) (Nat.zero_le _) ?_)
    go_ret
    exact ⟨W.heap.size, 0, rfl, hL0.out, Nat.le_refl _, hB0.out⟩
  · have hnews : ∀ j u, (ws.map uval)[j]? = some u → (W.alloc (.cells #[] 32)).cell? ((⟨g, 0, none⟩ : Addr).add j) = some u := fun j u hu => by
      obtain ⟨g', c', hv, hat⟩ := (HLot.out.below hB0.out).cells (by rw [HN.out]; omega)
      simp only [Value.slice.injEq, Option.some.injEq, Addr.mk.injEq] at hv
      obtain ⟨⟨rfl, _⟩, _⟩ := hv
      have := hat j u hu
      rwa [Addr.add_lit, Nat.zero_add]
    have HNews := Lib.hid hnews
    have hlen := Lib.hid (show (ws.map uval).length = n * 1 from by rw [List.length_map, HN.out, Nat.mul_one])
    have hpos : 0 < n := by omega
    have hmx : 0 + n ≤ maxLen := by unfold maxLen; omega
    have hmb : (0 + n) * 8 ≤ 140737488355328 := by omega
    clear hnews h0
    go_enter Tryd.func56, Tryd.ntmps56
    go_wp2_with (at_builtin; refine wpList_append_lot _ rfl _ _ 43 rfl 32 i0 _ 1 8 Tryd.underlying43 gi gz0 gz1 gz2 rfl (.slice (some ⟨W.heap.size, 0, none⟩) 0 0) 0 [] rfl hL0.out ⟨g, 0, none⟩ n c (ws.map uval) rfl hlen.out HNews.out (uval_one ws) hpos hmx hmb _ rfl ?_; intro g4 cap4 w4 hL4 hg4 hat4; have HL4 := Lib.hid hL4; have HG4 := Lib.hid hg4; have HA4 := Lib.hid hat4; clear hL4 hg4 hat4)
    go_ret
    refine ⟨g4, cap4, rfl, by have := HL4.out; rwa [Nat.zero_add, List.nil_append] at this, ?_, ?_⟩
    · rcases HA4.out with h | h
      · have : W.heap.size = g4 := by simpa [Value.ownBlock] using h
        omega
      · rw [h]; simp
    · exact hB0.out.grown HG4.out hB0.out.size (fun k e => by
        have : W.heap.size = k := by simpa [Value.ownBlock] using e
        omega)

/-- Has the key come? -/
def came (left : Lit → Bool) (k : Nat) : Bool := !left (.int .u64 (k : Int))
/-- At q lies a heap that has those of D's blocks that have come. -/
structure PartAt (X : World) (B q m : Nat) (D : HpD) (left : Lit → Bool) (N : Nat) (g cp : Nat → Nat) : Prop where
  own : X.heap[q]? = some (.cells #[.map (some m), .int .u64 D.L.length, .bool D.locked, .int .i64 D.faults] 58 (0, 0))
  map : Mapped X m N (fun k => if came left k then phi g cp D.L k else none)
  lie : ∀ k b, came left k = true → liveAt D.L k = some b → Lot X 32 1 (.slice (some ⟨g k, 0, none⟩) b.ws.length (cp k)) b.ws.length (b.ws.map uval)
  apart : ∀ k k' b b', came left k = true → came left k' = true → liveAt D.L k = some b → liveAt D.L k' = some b' → g k = g k' → k = k'
  bq : B ≤ q
  bm : B ≤ m
  bg : ∀ k b, came left k = true → liveAt D.L k = some b → B ≤ g k

section
variable {X Y Z : World} {B q m N : Nat} {D : HpD} {left : Lit → Bool} {g cp : Nat → Nat}
theorem PartAt.below (h : PartAt X B q m D left N g cp) (hb : Below X.heap.size X Y) : PartAt Y B q m D left N g cp :=
  ⟨(hb.block q (heap_at_lt h.own)).trans h.own, h.map.stays (hb.block m h.map.lt), fun k b hk hl => (h.lie k b hk hl).below hb, h.apart, h.bq, h.bm, h.bg⟩
theorem PartAt.grown {r : Nat} (h : PartAt X B q m D left N g cp) (hg : X.grownBy Y (some r)) (hr : ∃ a b c d, X.heap[r]? = some (.mapIter a b c d)) : PartAt Y B q m D left N g cp := by
  obtain ⟨a, b, c, d, hr⟩ := hr
  have ne : ∀ j o, X.heap[j]? = some o → (∀ a b c d, o ≠ Obj.mapIter a b c d) → Y.heap[j]? = X.heap[j]? := fun j o hj ho => hg.block j (heap_at_lt hj) (fun e => by
    cases e; rw [hr] at hj; cases hj; exact ho _ _ _ _ rfl)
  obtain ⟨es, cl, htag⟩ := h.map.tag
  refine ⟨(ne q _ h.own (fun _ _ _ _ e => by cases e)).trans h.own, h.map.stays (ne m _ htag (fun _ _ _ _ e => by cases e)), fun k b hk hl => (h.lie k b hk hl).stays (fun j hj => ?_), h.apart, h.bq, h.bm, h.bg⟩
  obtain ⟨cur, hc⟩ := (h.lie k b hk hl).tag hj
  exact ne j _ hc (fun _ _ _ _ e => by cases e)
theorem PartAt.start (hq : X.heap[q]? = some (.cells #[.map (some m), .int .u64 D.L.length, .bool D.locked, .int .i64 D.faults] 58 (0, 0))) (hM : Mapped X m 0 (fun _ => none)) (hno : ∀ k, k < 18446744073709551616 → came left k = true → liveAt D.L k = none) (hL : D.L.length ≤ 1000000) (bq : B ≤ q) (bm : B ≤ m) :
    PartAt X B q m D left 0 g cp := by
  have hno' : ∀ k b, came left k = true → liveAt D.L k ≠ some b := fun k b hk hb => by
    have := (liveAt_some hb).2.1
    rw [hno k (by omega) hk] at hb; cases hb
  refine ⟨hq, hM.same (fun k hk => ?_), fun k b hk hl => absurd hl (hno' k b hk), fun k k' b b' hk _ hl => absurd hl (hno' k b hk), bq, bm, fun k b hk hl => absurd hl (hno' k b hk)⟩
  by_cases hc : came left k = true
  · rw [if_pos hc, phi_none (hno k hk hc)]
  · rw [if_neg hc]
/-- One more block has come. -/
theorem PartAt.more {k c cap : Nat} {b : BlkD} (h : PartAt X B q m D left N g cp) (hb : liveAt D.L k = some b) (hnk : came left k = false) (hY : Below X.heap.size X Y) (hlot : Lot Y 32 1 (.slice (some ⟨c, 0, none⟩) b.ws.length cap) b.ws.length (b.ws.map uval)) (hc : X.heap.size ≤ c)
    (hZ : Mapped Z m (N + 1) (fun j => if j = k then some (.agg #[.slice (some ⟨c, 0, none⟩) b.ws.length cap, .string b.text]) else if came left j then phi g cp D.L j else none)) (hg : Y.grownBy Z (some m)) :
    PartAt Z B q m D (fun z => left z && !z.sameKey (.int .u64 (k : Int))) (N + 1) (fun j => if j = k then c else g j) (fun j => if j = k then cap else cp j) := by
  have hcame : ∀ j, came (fun z => left z && !z.sameKey (.int .u64 (k : Int))) j = (came left j || decide (j = k)) := fun j => by
    show (!(left (.int .u64 (j : Int)) && !(Lit.int .u64 (j : Int)).sameKey (.int .u64 (k : Int)))) = (!left (.int .u64 (j : Int)) || decide (j = k))
    rw [same_u64, show decide ((j : Int) = (k : Int)) = decide (j = k) from by simp only [Int.ofNat_inj]]
    cases left (.int .u64 (j : Int)) <;> cases decide (j = k) <;> rfl
  have hold : ∀ j, came (fun z => left z && !z.sameKey (.int .u64 (k : Int))) j = true → j ≠ k → came left j = true := fun j hj hjk => by
    rw [hcame] at hj; simpa [hjk] using hj
  have hY2 := h.below hY
  obtain ⟨es, cl, htag⟩ := hY2.map.tag
  have ne : ∀ j o, Y.heap[j]? = some o → (∀ es cl, o ≠ Obj.map es cl) → Z.heap[j]? = Y.heap[j]? := fun j o hj ho => hg.block j (heap_at_lt hj) (fun e => by
    cases e; rw [htag] at hj; cases hj; exact ho _ _ rfl)
  refine ⟨(ne q _ hY2.own (fun _ _ e => by cases e)).trans hY2.own, hZ.same (fun j _ => ?_), fun j b' hj hl => ?_, fun j j' b1 b2 hj hj' h1 h2 he => ?_, h.bq, h.bm, fun j b' hj hl => ?_⟩
  · rw [hcame]
    by_cases hjk : j = k
    · subst hjk
      rw [if_pos rfl]
      unfold phi
      rw [hb]
      simp
    · rw [if_neg hjk]
      unfold phi
      simp only [hjk, decide_false, Bool.or_false]
      cases came left j
      · rfl
      · cases liveAt D.L j <;> simp
  · by_cases hjk : j = k
    · subst hjk
      rw [hb] at hl
      cases hl
      rw [if_pos rfl, if_pos rfl]
      refine hlot.stays (fun q' hq' => ?_)
      obtain ⟨cur, hcu⟩ := hlot.tag hq'
      exact ne _ _ hcu (fun _ _ e => by cases e)
    · rw [if_neg hjk, if_neg hjk]
      have hl2 := hY2.lie j b' (hold j hj hjk) hl
      refine hl2.stays (fun q' hq' => ?_)
      obtain ⟨cur, hcu⟩ := hl2.tag hq'
      exact ne _ _ hcu (fun _ _ e => by cases e)
  · have glt : ∀ i b', came left i = true → liveAt D.L i = some b' → g i < X.heap.size := fun i b' hi hl => (h.lie i b' hi hl).lt _ rfl
    by_cases hjk : j = k
    · by_cases hjk' : j' = k
      · rw [hjk, hjk']
      · have he' : c = g j' := by simpa [hjk, hjk'] using he
        have := glt j' b2 (hold j' hj' hjk') h2; omega
    · by_cases hjk' : j' = k
      · have he' : g j = c := by simpa [hjk, hjk'] using he
        have := glt j b1 (hold j hj hjk) h1; omega
      · have he' : g j = g j' := by simpa [hjk, hjk'] using he
        exact h.apart _ _ _ _ (hold j hj hjk) (hold j' hj' hjk') h1 h2 he'
  · by_cases hjk : j = k
    · have := heap_at_lt h.own
      have := h.bq
      simp only [hjk, if_true]; omega
    · simp only [hjk, if_false]; exact h.bg j b' (hold j hj hjk) hl
/-- All have come. -/
theorem PartAt.whole (h : PartAt X B q m D left N g cp) (hl : ∀ z, left z = false) (hN : N ≤ D.L.length) (hm : D.L.length ≤ 1000000 ∧ D.faults ≤ 1000000) (hf : ∀ k b, liveAt D.L k = some b → b.ws.length ≤ 256 ∧ b.text.size ≤ 281474976710656) :
    Hp X B q D (fun k => k = q ∨ some m = some k ∨ ∃ j b, liveAt D.L j = some b ∧ g j = k) := by
  have hc : ∀ k, came left k = true := fun k => by unfold came; rw [hl]; rfl
  refine ⟨some m, g, cp, h.own, .inr ⟨m, rfl, ?_⟩, fun k b hb => h.lie k b (hc k) hb, fun k k' b b' hb hb' => h.apart k k' b b' (hc k) (hc k') hb hb', rfl, fun k hk => ?_, hm, hf⟩
  · exact (h.map.mono hN).same (fun k _ => by rw [if_pos (hc k)])
  · rcases hk with hk | hk | ⟨j, b, hj, hk⟩
    · rw [hk]; exact h.bq
    · cases hk; exact h.bm
    · rw [← hk]; exact h.bg j b (hc j) hj
end

end Go.Proofs.YtlgjolajnddpbaaDoor
