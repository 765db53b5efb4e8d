/-
  state.Diff, for rows whose keys rise.
-/
import Derived.Test.YtbddicaabjlbjaaBothiter
import Derived.Test.YtbddicaabjlbjaaIterbox
import Derived.RangeFuncBox
import Derived.Maps.OwnIn
import Derived.WalkSpells
import Derived.Laws.StructEq
namespace Go.Proofs.Ytbddicaabjlbjaa
open Go Go.RowKit Go.Shelf
attribute [local go_sem] Oper.semAt_some

theorem info_change : (Try.prog.info? 38).map (fun i => (i.zero, i.size, i.bytes)) = some (some (.agg #[.string ⟨#[]⟩, .bool false, .string ⟨#[]⟩]), 3, 40) := by kernel_rfl

theorem flatC_snoc (L : List ChD) (x : ChD) : flatC (L ++ [x]) = flatC L ++ [.string x.key, .bool x.has, .string x.val] := by simp [flatC, encC]

theorem bytes_eq (a b : ByteArray) : (a.toList == b.toList) = decide (a = b) := by
  by_cases h : a = b
  · subst h; simp
  · rw [decide_eq_false h]; exact ne_bytes h

theorem neq_change (x y : ChD) (w : World) : (binOp .neq 38 (.agg #[.string x.key, .bool x.has, .string x.val]) (.agg #[.string y.key, .bool y.has, .string y.val])).run Try.prog w = .ok (.bool (!decide (x = y))) w := by
  have hS : Try.prog.underlying 38 = some (.struct (Try.prog.fieldsOf 38)) := by kernel_rfl
  have hp : Try.prog.stoodInHeld 38 = false := by kernel_rfl
  have u9 := Try.underlying9
  have u4 := Try.underlying4
  rw [run_neq_struct, show (10000 : Nat) = 9999 + 1 from rfl, run_equalIn_agg w 9999 38 _ _ hS hp]
  simp only [Program.fieldsOf, Try.underlying38]
  obtain ⟨xk, xh, xv⟩ := x
  obtain ⟨yk, yh, yv⟩ := y
  have hd : decide ((⟨xk, xh, xv⟩ : ChD) = ⟨yk, yh, yv⟩) = (decide (xk = yk) && (xh == yh) && decide (xv = yv)) := by
    by_cases h1 : xk = yk <;> by_cases h2 : xh = yh <;> by_cases h3 : xv = yv <;> simp [h1, h2, h3]
  rw [hd]
  by_cases h1 : xk = yk
  · subst h1
    cases xh <;> cases yh
    · by_cases h3 : xv = yv
      · subst h3; go_simp
      · have := ne_bytes h3
        go_simp
    · go_simp
    · go_simp
    · by_cases h3 : xv = yv
      · subst h3; go_simp
      · have := ne_bytes h3
        go_simp
  · have := ne_bytes h1
    go_simp

theorem wide_hW : Hid (∀ n f args w R, Calls Try.prog f args w R → CallsIn Fence.wide n Try.prog f args w R) := fun _ _ _ _ _ h => callsIn_wide.2 h

theorem change_news (w : World) (a : ByteArray) (h : Bool) (b : ByteArray) (t : TypeId) : ∀ j u, [Value.string a, .bool h, .string b][j]? = some u → (w.alloc (.cells #[.string a, .bool h, .string b] t)).cell? ((⟨w.heap.size, 0, none⟩ : Addr).add j) = some u :=
  World.news_of_block (cs := #[.string a, .bool h, .string b]) (heap_alloc_new w _)
theorem change_one (a : ByteArray) (h : Bool) (b : ByteArray) : ∀ u ∈ [Value.string a, .bool h, .string b], u.oneCell' = true := by
  intro u hu
  simp only [List.mem_cons, List.not_mem_nil, or_false] at hu
  rcases hu with rfl | rfl | rfl <;> rfl

/-- What collects changes: a slice of its own with just the changes L, nil if there is none; what lay lies as it lay. -/
def CollC (L : List ChD) (w : World) (e : Ending) (W' : World) : Prop :=
  ∃ v, e = .returned v ∧ W'.ownsRow w.heap.size 38 3 v L.length (flatC L) ∧ Below w.heap.size w W'

/-- What Diff owns between two rounds: its slice's variable; the slice's row. -/
def DiffI (B : Nat) (pre : List (ChD × ChD)) (f1 : Nat → Prop) (W : World) : Prop :=
  ∃ v, f1 = (fun k => k = B ∨ v.ownBlock = some k) ∧ Boxed W B 23 v ∧ W.ownsRow B 38 3 v (picked pre).length (flatC (picked pre))

theorem ownsRow_stays {W W' : World} {base size n : Nat} {e : TypeId} {v : Value} {xs : List Value} (h : W.ownsRow base e size v n xs) (hb : ∀ k, v.ownBlock = some k → W'.heap[k]? = W.heap[k]?) : W'.ownsRow base e size v n xs := by
  refine ⟨h.1, ?_⟩
  rcases h.2 with hn | ⟨g, cap, cur, rfl, hbg, hg, rest⟩
  · exact .inl hn
  · exact .inr ⟨g, cap, cur, rfl, hbg, (hb g rfl).trans hg, rest⟩

theorem DiffI.stable (B : Nat) : Stable (DiffI B) := by
  rintro s f1 X Y ⟨v, rfl, hv, hr⟩ hsz hbl
  exact ⟨v, rfl, (hbl B (.inl rfl)).trans hv, ownsRow_stays hr (fun k hk => hbl k (.inr hk))⟩
theorem DiffI.bound (B : Nat) : Bound (DiffI B) := by
  rintro s f1 X ⟨v, rfl, hv, hr⟩ k hk
  rcases hk with rfl | hk
  · exact hv.lt
  · exact (hr.lt k hk).2

set_option maxRecDepth 100000 in
set_option maxHeartbeats 4000000 in
theorem diff_any (pa pb : Option Addr) (na nb ca cb : Nat) (A B : Pairs) (w : World) (hna : A.length = na) (hnb : B.length = nb) (hca : na ≤ ca) (hcb : nb ≤ cb) (hSA : Sl w pa A) (hSB : Sl w pb B) (hRA : Rise A) (hRB : Rise B) (hla : na ≤ 10000) (hlb : nb ≤ 10000) :
    CallsIn Fence.wide 4 Try.prog 10 #[.slice pa na ca, .slice pb nb cb] w (CollC (diffD A B) w) := by
  have hW := wide_hW
  obtain ⟨i0, hi, hz0, hz1, hz2⟩ := info_parts info_change
  have HRa := Lib.hid (fun W' (h : Below w.heap.size w W') => show Calls Try.prog 7 #[.slice pa na ca] W' (Says A W') by rw [← hna]; exact right_any pa ca A W' (hSA.grow h) (by omega))
  have HRb := Lib.hid (fun W' (h : Below w.heap.size w W') => show Calls Try.prog 7 #[.slice pb nb cb] W' (Says B W') by rw [← hnb]; exact right_any pb cb B W' (hSB.grow h) (by omega))
  have HA := Lib.hid hRA
  have HB := Lib.hid hRB
  have HSA := Lib.hid hSA
  have HSB := Lib.hid hSB
  have HNA := Lib.hid hna
  have HNB := Lib.hid hnb
  clear hRA hRB hSA hSB hna hnb
  refine callsIn_of_wp_marks Try.func10 rfl trivial ?_ rfl
  simp only [Try.ntmps10, List.size_toArray, List.length_cons, List.length_nil, Nat.reduceAdd, Nat.reduceSub, Array.replicate_succ, Array.replicate_zero, List.push_toArray, List.append_toArray, List.nil_append, List.cons_append]
  gi_wp2_with fail
  refine ⟨trivial, (hW.out _ _ _ _ _ (HRa.out _ (Below.refl _ w))).mono ?_⟩
  rintro e w' ⟨ba, rfl, hba, q1, rfl⟩
  obtain rfl : ba = true := hba.2 HA.out
  clear hba
  have hb1 : Below w.heap.size w (w.drewN q1) := ⟨rfl, rfl, rfl, Nat.le_refl _, fun _ _ => rfl⟩
  gi_wp2_with fail
  refine ⟨trivial, (hW.out _ _ _ _ _ (HRb.out _ hb1)).mono ?_⟩
  rintro e w' ⟨bb, rfl, hbb, q2, rfl⟩
  obtain rfl : bb = true := hbb.2 HB.out
  clear hbb hb1
  gi_wp2_with fail
  refine ⟨trivial, (hW.out _ _ _ _ _ (both_any _ _ _ ⟨_, _, _, rfl⟩ ⟨_, _, _, rfl⟩)).mono ?_⟩
  rintro e w' ⟨rfl, rfl⟩
  have HW0 := Lib.hid (show Below w.heap.size w (w.drewN (q1 + q2)) from ⟨rfl, rfl, rfl, Nat.le_refl _, fun _ _ => rfl⟩)
  have hsz0 : (w.drewN (q1 + q2)).heap.size = w.heap.size := rfl
  obtain ⟨v0, hv0⟩ : ∃ v0, w.drewN (q1 + q2) = v0 := ⟨_, rfl⟩
  rw [hv0] at HW0 hsz0 ⊢
  clear hv0
  have bL := ((Boxed.new v0 23 (.slice none 0 0)).alloc (.cells #[.slice pa na ca] 22)).alloc (.cells #[.slice pb nb cb] 22)
  have bA := (Boxed.new (v0.alloc (.cells #[.slice none 0 0] 23)) 22 (.slice pa na ca)).alloc (.cells #[.slice pb nb cb] 22)
  have bB := Boxed.new ((v0.alloc (.cells #[.slice none 0 0] 23)).alloc (.cells #[.slice pa na ca] 22)) 22 (.slice pb nb cb)
  simp only [World.size_alloc] at bA bB ⊢
  have hB0 : Below w.heap.size w (((v0.alloc (.cells #[.slice none 0 0] 23)).alloc (.cells #[.slice pa na ca] 22)).alloc (.cells #[.slice pb nb cb] 22)) :=
    ((HW0.out.alloc (by omega) _).alloc (by simp; omega) _).alloc (by simp; omega) _
  have hsz : (((v0.alloc (.cells #[.slice none 0 0] 23)).alloc (.cells #[.slice pa na ca] 22)).alloc (.cells #[.slice pb nb cb] 22)).heap.size = w.heap.size + 1 + 1 + 1 := by simp [hsz0]
  rw [hsz0] at bL bA bB ⊢
  obtain ⟨W0, hW0⟩ : ∃ W0, (((v0.alloc (.cells #[.slice none 0 0] 23)).alloc (.cells #[.slice pa na ca] 22)).alloc (.cells #[.slice pb nb cb] 22)) = W0 := ⟨_, rfl⟩
  rw [hW0] at bL bA bB hB0 hsz ⊢
  clear hW0 HW0 hsz0 v0
  gi_wp2_with fail
  refine wpIn_rangeFunc_boxed rfl (by omega) (gf := 30) (lb := #[.pointer (some ⟨w.heap.size + 1, 0, none⟩), .pointer (some ⟨w.heap.size + 1 + 1, 0, none⟩)]) rfl trivial (enters_of Try.func30 (by kernel_rfl) rfl)
    (both1_iter 3 hW (by omega) (w.heap.size + 1) (w.heap.size + 1 + 1) (.slice pa na ca) (.slice pb nb cb) A B (by have := HNA.out; omega) (by have := HNB.out; omega)) (fun _ => rfl)
    (DiffI w.heap.size) (fun _ _ _ _ => False) (DiffI.stable _) (fun c s f1 A B hs hsz hbl => hs.elim) (DiffI.bound _)
    (fun k => k = w.heap.size ∨ (Value.slice none 0 0).ownBlock = some k)
    ⟨.slice none 0 0, rfl, bL, World.ownsRow_nil _ _ _ _⟩
    (fun W1 hb1 => ⟨(World.cell?_of_block (hb1.block (w.heap.size + 1) (by omega))).trans bA.cell, (World.cell?_of_block (hb1.block (w.heap.size + 1 + 1) (by omega))).trans bB.cell, ?partA, ?partB⟩)
    (fun x m a' W => ∃ p6 p7, m ≤ p6 ∧ m ≤ p7 ∧ W.heap[p6]? = some (.cells #[.string x.1.key, .bool x.1.has, .string x.1.val] 38 (0, 0)) ∧ W.heap[p7]? = some (.cells #[.string x.2.key, .bool x.2.has, .string x.2.val] 38 (0, 0)) ∧
      a' = { tmps := #[.slice pa na ca, .slice pb nb cb, undef, undef, .slice none 0 0, .pointer (some ⟨w.heap.size, 0, none⟩), .pointer (some ⟨p6, 0, none⟩), .pointer (some ⟨p7, 0, none⟩), .slice pa na ca, .bool true, .bool false, .bool false, .slice pb nb cb, .bool true, .bool false, .bool false,
        .slice pa na ca, .slice pb nb cb, .func (.func 30) #[] #[.pointer (some ⟨w.heap.size + 1, 0, none⟩), .pointer (some ⟨w.heap.size + 1 + 1, 0, none⟩)],
        .agg #[.string x.1.key, .bool x.1.has, .string x.1.val], .agg #[.string x.2.key, .bool x.2.has, .string x.2.val], undef, undef, undef, undef, undef, undef, undef, undef], defers := [] })
    ?hA ?assign ?body ?done ?stop
  case partA =>
    exact ⟨_, _, _, rfl, HNA.out, hca, fun j hj => by
      obtain ⟨b, o, e, c1, c2⟩ := HSA.out j hj
      have hlt := cell_lt c1
      have hbk := (hb1.block b (by omega)).trans (hB0.block b hlt)
      exact ⟨b, o, e, (World.cell?_of_block (a := ⟨b, _, none⟩) hbk).trans c1, (World.cell?_of_block (a := ⟨b, _, none⟩) hbk).trans c2⟩, fun b o e hne hk => by
      obtain ⟨b', o', e', c1, _⟩ := HSA.out 0 (List.length_pos_iff.2 hne)
      obtain ⟨rfl, rfl⟩ : b = b' ∧ o = o' := by rw [e] at e'; simpa using e'
      have hlt := cell_lt c1
      simp [Value.ownBlock] at hk
      omega⟩
  case partB =>
    exact ⟨_, _, _, rfl, HNB.out, hcb, fun j hj => by
      obtain ⟨b, o, e, c1, c2⟩ := HSB.out j hj
      have hlt := cell_lt c1
      have hbk := (hb1.block b (by omega)).trans (hB0.block b hlt)
      exact ⟨b, o, e, (World.cell?_of_block (a := ⟨b, _, none⟩) hbk).trans c1, (World.cell?_of_block (a := ⟨b, _, none⟩) hbk).trans c2⟩, fun b o e hne hk => by
      obtain ⟨b', o', e', c1, _⟩ := HSB.out 0 (List.length_pos_iff.2 hne)
      obtain ⟨rfl, rfl⟩ : b = b' ∧ o = o' := by rw [e] at e'; simpa using e'
      have hlt := cell_lt c1
      simp [Value.ownBlock] at hk
      omega⟩
  case hA =>
    rintro x m a' W W' ⟨p6, p7, h6, h7, g6, g7, ha⟩ _ hbl
    exact ⟨p6, p7, h6, h7, (hbl p6 h6).trans g6, (hbl p7 h7).trans g7, ha⟩
  case assign =>
    intro l2 x Wx K hK
    obtain ⟨⟨xk, xh, xv⟩, ⟨yk, yh, yv⟩⟩ := x
    simp only [encC]
    gi_wp2_with fail
    refine hK _ _ (((Below.refl _ Wx).alloc (Nat.le_refl _) _).alloc (by simp) _) ⟨Wx.heap.size, Wx.heap.size + 1, Nat.le_refl _, by omega, heap_alloc2_old _ _ _, heap_alloc2_new _ _ _, rfl⟩
  case stop =>
    rintro D c pre f' Wd hD hnD hstd hpx h hK
    exact h.elim
  case done =>
    rintro D f' Wd hD hnD hstd ⟨v, rfl, hv, hrow⟩ hK
    have hcO := hv.cell
    gi_wp2_with fail
    refine ⟨by simp, .inl ⟨_, _, rfl, run_takeDeferred hK, ?_⟩⟩
    refine ⟨_, results_tmp rfl _ _ _, _, rfl, ownsRow_putObj hrow _ hK rfl, ?_⟩
    exact hB0.trans ((hstd.below (n := w.heap.size) (by omega) (fun k hk h => by simp [Value.ownBlock] at h; omega)).trans (belowK_b (w := w) (Nat.le_refl _) Wd D _ _ (by omega) hK rfl rfl))
  case body =>
    rintro l2 pre ⟨⟨xk, xh, xv⟩, ⟨yk, yh, yv⟩⟩ post f1 a' Wx m hcut ⟨v, rfl, hv, hrow⟩ ⟨p6, p7, h6, h7, g6, g7, rfl⟩ hm hmW hf1
    have hcO := hv.cell
    have c60 : Wx.cell? ⟨p6, 0, none⟩ = some (.string xk) := by simp [World.cell?, g6]
    have c61 : Wx.cell? ⟨p6, 1, none⟩ = some (.bool xh) := by simp [World.cell?, g6]
    have c62 : Wx.cell? ⟨p6, 2, none⟩ = some (.string xv) := by simp [World.cell?, g6]
    have c70 : Wx.cell? ⟨p7, 0, none⟩ = some (.string yk) := by simp [World.cell?, g7]
    have c71 : Wx.cell? ⟨p7, 1, none⟩ = some (.bool yh) := by simp [World.cell?, g7]
    have c72 : Wx.cell? ⟨p7, 2, none⟩ = some (.string yv) := by simp [World.cell?, g7]
    have hlen : (picked pre).length ≤ 20000 := by
      have h1 := picked_length pre
      have h2 := congrArg List.length hcut
      have h3 := bothD_length A B
      have := HNA.out
      have := HNB.out
      simp only [List.length_append, List.length_cons] at h2
      omega
    have hneq := neq_change ⟨xk, xh, xv⟩ ⟨yk, yh, yv⟩
    have HP := Lib.hid (picked_snoc pre (⟨xk, xh, xv⟩, ⟨yk, yh, yv⟩))
    have HV := Lib.hid hv
    have HRow := Lib.hid hrow
    clear hcut g6 g7 hrow hv
    by_cases he : (⟨xk, xh, xv⟩ : ChD) = ⟨yk, yh, yv⟩
    · have HP2 := Lib.hid (show picked (pre ++ [((⟨xk, xh, xv⟩ : ChD), (⟨yk, yh, yv⟩ : ChD))]) = picked pre by rw [HP.out, if_pos he])
      rw [decide_eq_true he] at hneq
      simp only [Bool.not_true] at hneq
      clear he HP
      gi_wp2_with fail
      exact ⟨_, Step.refl _ _, v, rfl, HV.out, by rw [HP2.out]; exact HRow.out⟩
    · have HP2 := Lib.hid (show picked (pre ++ [((⟨xk, xh, xv⟩ : ChD), (⟨yk, yh, yv⟩ : ChD))]) = picked pre ++ [⟨yk, yh, yv⟩] by rw [HP.out, if_neg he])
      rw [decide_eq_false he] at hneq
      simp only [Bool.not_false] at hneq
      clear he HP
      have hBx : w.heap.size ≤ Wx.heap.size := by omega
      gi_wp2_with (gi_at_builtin; refine wpListIn_append_own_at _ rfl _ _ 23 rfl w.heap.size 38 i0 (.agg #[.string ⟨#[]⟩, .bool false, .string ⟨#[]⟩]) 3 40 Try.underlying23 hi hz0 hz1 hz2 rfl (by decide) v (picked pre).length (flatC (picked pre)) rfl (HRow.out.alloc _) ⟨Wx.heap.size, 0, none⟩ 1 1 [.string yk, .bool yh, .string yv] rfl rfl (change_news _ _ _ _ _) (change_one _ _ _) (by simp only [maxLen]; omega) (by omega) (by simp; omega) ?_; intro v' w1 hown' hgrow _ hat; obtain ⟨g', cap', rfl⟩ := ownsRow_succ hown'; obtain ⟨hv1, hv2, hr2, hk2, hb2⟩ := HV.out.appended (by decide) HRow.out hBx (by omega) hown' hgrow; have hc1 := hv1.cell; have hf1 := hv1.frozen)
      have hg' : v.ownBlock = some g' ∨ g' = Wx.heap.size + 1 := by
        rcases hat with h | h
        · exact .inl (by rw [← h]; rfl)
        · exact .inr (by simpa [Value.ownBlock] using h)
      refine ⟨fun k => k = w.heap.size ∨ (Value.slice (some ⟨g', 0, none⟩) ((picked pre).length + 1) cap').ownBlock = some k, ⟨hb2.os, hb2.tape, hb2.output, hb2.size, fun k hk hn => ?_, fun k hk => ?_⟩, _, rfl, hv2, ?_⟩
      · exact (Below.heap_setCell w1 _ _ k (fun e => hn (.inl e))).trans ((hgrow.block k (by simp; omega) (by intro e; exact hn (.inr e.symm))).trans (Below.heap_alloc Wx _ k hk))
      · rcases hk with hk | hk
        · exact .inl (.inl hk)
        · have : g' = k := by simpa [Value.ownBlock] using hk
          subst this
          rcases hg' with h | h
          · exact .inl (.inr h)
          · right; omega
      · rw [HP2.out, flatC_snoc, List.length_append]; exact hr2

end Go.Proofs.Ytbddicaabjlbjaa
