/-
  drive's Alone; and the iterator of Steps over a routine, and over none.
-/
import Derived.Test.YtpbkfmdbpihhpaaSteps
namespace Go.Proofs.Ytpbkfmdbpihhpaa
open Go Go.RowKit
attribute [local go_sem] Oper.semAt_some

/-- What Steps has, of a routine: the heap and the routine behind j picks. -/
abbrev OwnR (B p r : Nat) (la : Option Addr) (c : Nat) (L : List ActD) (S : PlS) (j : Nat) (g : Nat → Prop) (W : World) : Prop := Pl W B p r la c L (stP L S j) g
abbrev roR (la : Option Addr) (k : Nat) : Prop := ∃ a, la = some a ∧ a.block = k
section
variable {B p r c : Nat} {la : Option Addr} {L : List ActD} {S : PlS}
theorem ownR_stable : StableO (OwnR B p r la c L S) (roR la) := fun _ _ _ _ h hz hs => h.stays hz (fun k hk => hs k hk)
theorem ownR_bound : BoundO (OwnR B p r la c L S) (roR la) := fun _ _ _ h k hk => by
  rcases hk with hk | ⟨a, ha, rfl⟩
  · exact h.lt k hk
  · obtain ⟨_, _, _, _, _, _, _, h5⟩ := h; exact (h5 a ha).1
theorem ownR_next (hF : FewP L S) (m j : Nat) (g : Nat → Prop) (W : World) (h : OwnR B p r la c L S j g W) (hj : j ≤ (toP L S m).length) (hm : j < m) : Calls Try.prog 12 #[.pointer (some ⟨p, 0, none⟩), rowV r] W (NextE (OwnR B p r la c L S) (toP L S m) g j W) := by
  obtain ⟨-, h2, h3, -⟩ := toP_walk L S m
  rcases Nat.lt_or_ge j (toP L S m).length with hlt | hge
  · have hs := h2 j hlt
    rw [List.getElem?_eq_getElem hlt] at hs
    refine (next_some h (hF.st j) hs).mono fun e W' he => ?_
    obtain ⟨g', rfl, hp, hst⟩ := he
    refine ⟨g', hst, .inl ⟨_, List.getElem?_eq_getElem hlt, rfl, ?_⟩⟩
    show Pl W' B p r la c L (advP L (stP L S j)) g'
    unfold advP
    rw [hs]
    exact hp
  · have hl : (toP L S m).length = j := by omega
    have hs := h3 (by omega)
    rw [hl] at hs
    refine (next_none h (hF.st j) hs).mono fun e W' he => ?_
    obtain ⟨g', rfl, hp, hst⟩ := he
    exact ⟨g', hst, .inr ⟨hl.symm, rfl, hp⟩⟩
end
/-- Of no routine. -/
abbrev OwnN (_ : Nat) (g : Nat → Prop) (_ : World) : Prop := ∀ k, ¬ g k
theorem ownN_stable : StableO OwnN (fun _ => False) := fun _ _ _ _ h _ _ => h
theorem ownN_bound : BoundO OwnN (fun _ => False) := fun _ _ _ h k hk => hk.elim (fun hg => absurd hg (h k)) False.elim
theorem ownN_next (pa : Option Addr) (j : Nat) (g : Nat → Prop) (W : World) (h : OwnN j g W) (hj : j ≤ 0) : Calls Try.prog 12 #[.pointer pa, .nilIface] W (NextE OwnN [] g j W) :=
  (next_nil W pa).mono fun e W' he => ⟨g, Step.of_below he.2, .inr ⟨by simpa using hj, he.1, h⟩⟩

/-- The count's box. -/
def CntI (b : Nat) (ys : List StepD) (f : Nat → Prop) (W : World) : Prop := f = (fun k => k = b) ∧ W.heap[b]? = some (.cells #[.int .i64 (ys.length : Int)] 3 (0, 0))
theorem CntI.stable (b : Nat) : Stable (CntI b) := by
  rintro s f W W' ⟨rfl, h⟩ _ hb
  exact ⟨rfl, (hb b rfl).trans h⟩
theorem CntI.bound (b : Nat) : Bound (CntI b) := by
  rintro s f W ⟨rfl, h⟩ k rfl
  exact heap_at_lt h
theorem wide_hW : Hid (∀ n f args w R, Calls Try.prog f args w R → CallsIn Fence.wide n Try.prog f args w R) := fun _ _ _ _ _ h => callsIn_wide.2 h

theorem alone_boxes {W W0 : World} {pa : Option Addr} {rv : Value} {m : Int} (h : (((W.alloc (.cells #[.int .i64 0] 3)).alloc (.cells #[.pointer pa] 25)).alloc (.cells #[rv] 56)).alloc (.cells #[.int .i64 m] 3) = W0) :
    Below W.heap.size W W0 ∧ W0.heap.size = W.heap.size + 1 + 1 + 1 + 1 ∧ W0.heap[W.heap.size]? = some (.cells #[.int .i64 0] 3 (0, 0)) ∧ W0.cell? ⟨W.heap.size + 1, 0, none⟩ = some (.pointer pa) ∧ W0.cell? ⟨W.heap.size + 1 + 1, 0, none⟩ = some rv ∧ W0.cell? ⟨W.heap.size + 1 + 1 + 1, 0, none⟩ = some (.int .i64 m) := by
  subst h
  have b1 := below_alloc W (.cells #[.int .i64 0] 3)
  have b2 := below_alloc (W.alloc (.cells #[.int .i64 0] 3)) (.cells #[.pointer pa] 25)
  have b3 := below_alloc ((W.alloc (.cells #[.int .i64 0] 3)).alloc (.cells #[.pointer pa] 25)) (.cells #[rv] 56)
  have b4 := below_alloc (((W.alloc (.cells #[.int .i64 0] 3)).alloc (.cells #[.pointer pa] 25)).alloc (.cells #[rv] 56)) (.cells #[.int .i64 m] 3)
  have n1 := World.alloc_heap_new W (.cells #[.int .i64 0] 3)
  have n2 := World.alloc_heap_new (W.alloc (.cells #[.int .i64 0] 3)) (.cells #[.pointer pa] 25)
  have n3 := World.alloc_heap_new ((W.alloc (.cells #[.int .i64 0] 3)).alloc (.cells #[.pointer pa] 25)) (.cells #[rv] 56)
  have n4 := World.alloc_heap_new (((W.alloc (.cells #[.int .i64 0] 3)).alloc (.cells #[.pointer pa] 25)).alloc (.cells #[rv] 56)) (.cells #[.int .i64 m] 3)
  simp only [World.size_alloc] at b2 b3 b4 n2 n3 n4
  refine ⟨b1.trans ((b2.mono (by omega)).trans ((b3.mono (by omega)).trans (b4.mono (by omega)))), by simp, ?_, ?_, ?_, (cell_of n4).trans rfl⟩
  · rw [b4.block _ (by omega), b3.block _ (by omega), b2.block _ (by omega)]; exact n1
  · exact (cell_of ((b4.block _ (by omega)).trans ((b3.block _ (by omega)).trans n2))).trans rfl
  · exact (cell_of ((b4.block _ (by omega)).trans n3)).trans rfl

theorem alone_end {Own0 : Nat → (Nat → Prop) → World → Prop} {ro g g' : Nat → Prop} {W Wd X : World} {D j : Nat} (hS : StableO Own0 ro) (hB : BoundO Own0 ro) (hst : Step g g' W Wd) (hO : Own0 j g' Wd) (hn : ¬ g' D ∧ ¬ ro D) (hK : Wd.heap[D]? = some (.deferred (some []))) (hD : W.heap.size ≤ D) (hX : Below Wd.heap.size Wd X) :
    X.heap[D]? = some (.deferred (some [])) ∧ Own0 j g' (X.putObj D (.deferred none)) ∧ Step g g' W (X.putObj D (.deferred none)) := by
  have hl := hB _ _ _ hO
  refine ⟨(hX.block D (heap_at_lt hK)).trans hK, hS _ _ _ _ hO (by simpa using hX.size) (fun k hk => (World.putObj_heap_other (fun e => by subst e; exact hk.elim hn.1 hn.2)).trans (hX.block k (hl k hk))), (hst.trans (Step.of_below hX)).putObj hD _⟩

set_option maxRecDepth 100000 in
set_option maxHeartbeats 2000000 in
theorem alone_gen (pa : Option Addr) (rv : Value) (hrv : (∃ r, rv = rowV r) ∨ rv = .nilIface) (m : Nat) (xs : List StepD) (Own0 : Nat → (Nat → Prop) → World → Prop) (ro : Nat → Prop) (hS : StableO Own0 ro) (hB : BoundO Own0 ro) (hxm : xs.length ≤ m) (hm : m ≤ 1000)
    (HN : Hid (∀ j g W, Own0 j g W → j ≤ xs.length → j < m → Calls Try.prog 12 #[.pointer pa, rv] W (NextE Own0 xs g j W))) (x : ActD) (more told : Bool)
    (HA : Hid (∀ g W, Own0 xs.length g W → Calls Try.prog 14 #[rv] W fun e W' => e = .returned (.tuple #[actOf x, .bool more, .bool told]) ∧ Below W.heap.size W W')) (W : World) (g : Nat → Prop) (hO : Own0 0 g W) :
    Calls Try.prog 11 #[.pointer pa, rv, .int .i64 (m : Int)] W fun e W' => e = .returned (.tuple #[.int .i64 (xs.length : Int), .bool (told && !more)]) ∧ ∃ g', Own0 xs.length g' W' ∧ Step g g' W W' := by
  refine callsIn_wide.1 (show CallsIn Fence.wide 4 Try.prog _ _ _ _ from ?_)
  have hW := wide_hW
  have HIt := Lib.hid (fun bm bh br => steps_iter Fence.wide 3 (fun _ => trivial) rfl wide_hW (by omega) bm bh br m pa rv xs Own0 ro hS hB hxm hm HN)
  refine callsIn_of_wp_marks Try.func11 rfl trivial ?_ rfl
  simp only [Try.ntmps11, List.size_toArray, List.length_cons, List.length_nil, Nat.reduceAdd, Nat.reduceSub, Array.replicate_succ, Array.replicate_zero, List.push_toArray, List.append_toArray, List.nil_append, List.cons_append]
  gi_wp2_with fail
  refine ⟨trivial, (hW.out _ _ _ _ _ (steps_any pa rv hrv m _)).mono ?_⟩
  rintro en w1 ⟨rfl, rfl⟩
  gi_wp2_with fail
  obtain ⟨W0, hW0⟩ : ∃ W0, (((W.alloc (.cells #[.int .i64 0] 3)).alloc (.cells #[.pointer pa] 25)).alloc (.cells #[rv] 56)).alloc (.cells #[.int .i64 (m : Int)] 3) = W0 := ⟨_, rfl⟩
  obtain ⟨hB0, hz0, hc0, hbh, hbr, hbm⟩ := alone_boxes hW0
  rw [hW0]
  have hgb := hB _ _ _ hO
  have HO0 := Lib.hid (show OwnS (W.heap.size + 1 + 1 + 1) (W.heap.size + 1) (W.heap.size + 1 + 1) m pa rv Own0 0 g W0 from
    ⟨hS _ _ _ _ hO hB0.size (fun k hk => hB0.block k (hgb k hk)), hbm, hbh, hbr, fun h => by have := hgb _ (.inl h); omega, fun h => by have := hgb _ (.inl h); omega, fun h => by have := hgb _ (.inl h); omega⟩)
  have HAp := Lib.hid (show ∀ k, (k = W.heap.size) → ¬ g k ∧ ¬ roS (W.heap.size + 1 + 1 + 1) (W.heap.size + 1) (W.heap.size + 1 + 1) ro k from fun k hk => ⟨fun h => by have := hgb _ (.inl h); omega, fun h => by
    rcases h with h | h | h | h
    · have := hgb _ (.inr h); omega
    · omega
    · omega
    · omega⟩)
  have HB0 := Lib.hid hB0
  have HZ0 := Lib.hid hz0
  have HG := Lib.hid hgb
  have HS := Lib.hid hS
  clear hW0 hO hB0 hz0 hbh hbr hbm hgb
  refine wpIn_rangeFunc_own rfl (by omega) (gf := 13) (lb := #[.pointer (some ⟨W.heap.size + 1 + 1 + 1, 0, none⟩), .pointer (some ⟨W.heap.size + 1, 0, none⟩), .pointer (some ⟨W.heap.size + 1 + 1, 0, none⟩)]) rfl trivial (enters_of Try.func13 (by kernel_rfl) rfl)
    (OwnS.stable hS) (OwnS.bound hB) (HIt.out (W.heap.size + 1 + 1 + 1) (W.heap.size + 1) (W.heap.size + 1 + 1)) (fun _ => rfl)
    (CntI W.heap.size) (fun _ _ _ _ => False) (CntI.stable _) (fun _ _ _ _ _ h _ _ => h) (CntI.bound _) (fun k => k = W.heap.size) g ⟨rfl, hc0⟩ HO0.out HAp.out
    (fun s _ a' _ => a' = { tmps := #[.pointer pa, rv, .int .i64 (m : Int), undef, undef, undef, .int .i64 0, .bool false, .pointer (some ⟨W.heap.size, 0, none⟩), undef, undef, undef, .pointer pa, rv, .int .i64 (m : Int),
      .func (.func 13) #[] #[.pointer (some ⟨W.heap.size + 1 + 1 + 1, 0, none⟩), .pointer (some ⟨W.heap.size + 1, 0, none⟩), .pointer (some ⟨W.heap.size + 1 + 1, 0, none⟩)],
      stepV 0 s, undef, undef, undef, undef, undef, undef, undef, undef, undef, undef, undef, undef, undef, undef], defers := [] })
    (fun _ _ _ _ _ h _ _ => h) ?assign ?body ?done ?stop
  case assign =>
    intro l s Wx K hK
    gi_wp2
    go_simp
    exact hK _ _ (Below.refl _ _) rfl
  case body =>
    rintro l pre s post f1 a' Wx mm hcut ⟨rfl, hcx⟩ rfl hm1 hm2 hf1
    have hl : (pre.length : Int) < 1000 := by
      have := congrArg List.length hcut
      simp at this
      omega
    have hl0 : (0 : Int) ≤ (pre.length : Int) := by omega
    have hc1 : Wx.cell? ⟨W.heap.size, 0, none⟩ = some (.int .i64 (pre.length : Int)) := (cell_of hcx).trans rfl
    have hz1 : Wx.frozen? ⟨W.heap.size, 0, none⟩ = false := by simp [World.frozen?, hcx]
    have HCx := Lib.hid hcx
    clear hcx hcut hf1 hm1 hm2
    gi_wp2_with fail
    exact ⟨_, Step.setCell _ rfl, rfl, (heap_setAt HCx.out).trans (by simp)⟩
  case done =>
    rintro D f' g' Wd hD hnf hng hnr hst happ ⟨rfl, hcx⟩ hown hK
    have hc1 : Wd.cell? ⟨W.heap.size, 0, none⟩ = some (.int .i64 (xs.length : Int)) := (cell_of hcx).trans rfl
    have HSt := Lib.hid (show Step g g' W Wd from ⟨hst.os.trans HB0.out.os, hst.tape.trans HB0.out.tape, hst.output.trans HB0.out.output, Nat.le_trans HB0.out.size hst.size,
      fun k hk hn => (hst.block k (Nat.lt_of_lt_of_le hk HB0.out.size) (fun h => h.elim (fun h => by omega) hn)).trans (HB0.out.block k hk),
      fun k hk => (hst.foot k (.inr hk)).elim (fun h => h.elim (fun h => .inr (by omega)) .inl) (fun h => .inr (by have := HZ0.out; omega))⟩)
    have HOw := Lib.hid hown.1
    have HNo := Lib.hid (show ¬ g' D ∧ ¬ ro D from ⟨hng, fun h => hnr (.inl h)⟩)
    have HK := Lib.hid hK
    have HD := Lib.hid (show W.heap.size ≤ D ∧ D < Wd.heap.size ∧ W.heap.size < Wd.heap.size from ⟨by have := HZ0.out; omega, heap_at_lt hK, heap_at_lt hcx⟩)
    clear hst hown hK hnf hng hnr happ hD
    have HCx := Lib.hid hcx
    clear hcx
    gi_wp2_with fail
    refine ⟨trivial, (hW.out _ _ _ _ _ (HA.out g' Wd HOw.out)).mono ?_⟩
    rintro en w2 ⟨rfl, hb⟩
    have hc2 : w2.cell? ⟨W.heap.size, 0, none⟩ = some (.int .i64 (xs.length : Int)) := (hb.cell (p := ⟨W.heap.size, 0, none⟩) HD.out.2.2).trans hc1
    have hc3 : (w2.alloc (.cells #[.int .i64 x.kind, .int .u64 (x.block : Int), .int .i64 x.cell, .int .u64 x.old, .int .u64 x.new, .string x.text] 40)).cell? ⟨W.heap.size, 0, none⟩ = some (.int .i64 (xs.length : Int)) := ((below_alloc w2 _).cell (p := ⟨W.heap.size, 0, none⟩) (cell_lt hc2)).trans hc2
    have HE := Lib.hid (show Below Wd.heap.size Wd (w2.alloc (.cells #[.int .i64 x.kind, .int .u64 (x.block : Int), .int .i64 x.cell, .int .u64 x.old, .int .u64 x.new, .string x.text] 40)) from hb.trans ((below_alloc w2 _).mono hb.size))
    clear hb hc1 hc2
    have HR := Lib.hid (fun X (hX : Below Wd.heap.size Wd X) => alone_end HS.out hB HSt.out HOw.out HNo.out HK.out HD.out.1 hX)
    cases told <;> cases more
    all_goals
      gi_wp2_with fail
      obtain ⟨q1, q2, q3⟩ := HR.out _ HE.out
      refine ⟨by simp, .inl ⟨_, _, rfl, run_takeDeferred q1, ?_⟩⟩
      exact ⟨_, results_tmp2 rfl _ _ _, rfl, _, q2, q3⟩
  case stop =>
    rintro D c pre f' g' Wd _ _ _ _ _ _ _ h
    exact h.elim

/-- Alone, of a routine. -/
theorem alone_any {W : World} {B p r c : Nat} {la : Option Addr} {L : List ActD} {S : PlS} {g : Nat → Prop} (h : Pl W B p r la c L S g) (hF : FewP L S) (m : Nat) (hm : m ≤ 1000) :
    Calls Try.prog 11 #[.pointer (some ⟨p, 0, none⟩), rowV r, .int .i64 (m : Int)] W fun e W' =>
      e = .returned (.tuple #[.int .i64 ((toP L S m).length : Int), .bool (decide (L.length ≤ (stP L S m).k))]) ∧ ∃ g', Pl W' B p r la c L (stP L S m) g' ∧ Step g g' W W' := by
  have e4 := (toP_walk L S m).2.2.2
  have HN := Lib.hid (fun j g W hO hj hjm => ownR_next (B := B) (p := p) (r := r) (la := la) (c := c) hF m j g W hO hj hjm)
  have hFs := hF.st m
  rw [e4] at hFs
  by_cases hk : (stP L S m).k < L.length
  · have hk' := hk
    rw [e4] at hk'
    have ha := fun (g : Nat → Prop) (W : World) (hO : OwnR B p r la c L S (toP L S m).length g W) => pl_ask hO hFs
    simp only [dif_pos hk'] at ha
    refine (alone_gen (some ⟨p, 0, none⟩) (rowV r) (.inl ⟨r, rfl⟩) m (toP L S m) _ _ ownR_stable ownR_bound (toP_len L S m) hm HN _ true true (Lib.hid ha) W g h).mono fun e W' he => ?_
    obtain ⟨rfl, g', h1, h2⟩ := he
    rw [decide_eq_false (by omega)]
    exact ⟨rfl, g', by rw [e4]; exact h1, h2⟩
  · have hk' := hk
    rw [e4] at hk'
    have ha := fun (g : Nat → Prop) (W : World) (hO : OwnR B p r la c L S (toP L S m).length g W) => pl_ask hO hFs
    simp only [dif_neg hk'] at ha
    refine (alone_gen (some ⟨p, 0, none⟩) (rowV r) (.inl ⟨r, rfl⟩) m (toP L S m) _ _ ownR_stable ownR_bound (toP_len L S m) hm HN ⟨0, 0, 0, 0, 0, ⟨#[]⟩⟩ false true (Lib.hid ha) W g h).mono fun e W' he => ?_
    obtain ⟨rfl, g', h1, h2⟩ := he
    rw [decide_eq_true (by omega)]
    exact ⟨rfl, g', by rw [e4]; exact h1, h2⟩
/-- Of none. -/
theorem alone_nil (pa : Option Addr) (m : Nat) (hm : m ≤ 1000) (W : World) : Calls Try.prog 11 #[.pointer pa, .nilIface, .int .i64 (m : Int)] W fun e W' => e = .returned (.tuple #[.int .i64 0, .bool false]) ∧ Below W.heap.size W W' := by
  refine (alone_gen pa .nilIface (.inr rfl) m [] OwnN (fun _ => False) ownN_stable ownN_bound (Nat.zero_le _) hm (Lib.hid fun j g W hO hj _ => ownN_next pa j g W hO (by simpa using hj)) ⟨0, 0, 0, 0, 0, ⟨#[]⟩⟩ false false (Lib.hid fun _ X _ => ask_nil X) W (fun _ => False) (fun _ h => h)).mono fun e W' he => ?_
  obtain ⟨rfl, g', h1, h2⟩ := he
  exact ⟨rfl, h2.below (Nat.le_refl _) (fun _ _ h => h)⟩

end Go.Proofs.Ytpbkfmdbpihhpaa
