/-
  Copy: another table with the same pairs, in memory of its own.
-/
import Derived.Test.YtkjkedaifdgjoaaCopyRow
import Derived.Test.YtkjkedaifdgjoaaLawfrom
import Derived.Test.YtkjkedaifdgjoaaHeld
import Derived.Sort.CutIn
namespace Go.Proofs.Ytkjkedaifdgjoaa
open Go Go.RowKit Go.Shelf
attribute [local go_sem] Oper.semAt_some

/-- Where the copy's loop begins: a variable, and a table whose slices are cut off. -/
def CopyStart (w : World) (k0 v0 : Value) (s3 : Value) (wc : World) : Prop :=
  ∃ bx pc, s3 = .pointer (some ⟨bx, 0, none⟩) ∧ wc.heap[bx]? = some (.cells #[.pointer (some ⟨pc, 0, none⟩)] 24 (0, 0)) ∧ wc.heap[pc]? = some (.cells #[k0, v0] 28 (0, 0)) ∧ w.heap.size ≤ bx ∧ w.heap.size ≤ pc ∧ Below w.heap.size w wc

theorem copyStart_1 (w : World) (k0 v0 : Value) : CopyStart w k0 v0 (.pointer (some ⟨w.heap.size + 1, 0, none⟩)) ((w.alloc (.cells #[k0, v0] 28)).alloc (.cells #[.pointer (some ⟨w.heap.size, 0, none⟩)] 24)).drew := by
  refine ⟨w.heap.size + 1, w.heap.size, rfl, ?_, ?_, by omega, Nat.le_refl _, (((Below.refl _ w).alloc (Nat.le_refl _) _).alloc (by simp) _).drew⟩
  · have := heap_alloc_new (w.alloc (.cells #[k0, v0] 28)) (.cells #[.pointer (some ⟨w.heap.size, 0, none⟩)] 24)
    rwa [World.size_alloc] at this
  · exact (heap_alloc_old (w.alloc (.cells #[k0, v0] 28)) _ _ (by simp)).trans (heap_alloc_new w _)
theorem copyStart_2 (w : World) (k0 v0 : Value) : CopyStart w k0 v0 (.pointer (some ⟨w.heap.size, 0, none⟩)) ((w.alloc (.cells #[.pointer (some ⟨w.heap.size + 1, 0, none⟩)] 24)).alloc (.cells #[k0, v0] 28)).drew := by
  refine ⟨w.heap.size, w.heap.size + 1, rfl, ?_, ?_, Nat.le_refl _, by omega, (((Below.refl _ w).alloc (Nat.le_refl _) _).alloc (by simp) _).drew⟩
  · exact (heap_alloc_old (w.alloc (.cells #[.pointer (some ⟨w.heap.size + 1, 0, none⟩)] 24)) _ _ (by simp)).trans (heap_alloc_new w _)
  · have := heap_alloc_new (w.alloc (.cells #[.pointer (some ⟨w.heap.size + 1, 0, none⟩)] 24)) (.cells #[k0, v0] 28)
    rwa [World.size_alloc] at this

/-- What Copy hands back: a table of its own with the same pairs. -/
def Copied (D : Pairs) (w : World) (e : Ending) (W' : World) : Prop :=
  ∃ pc f', e = .returned (.pointer (some ⟨pc, 0, none⟩)) ∧ Tab W' pc D f' ∧ Below w.heap.size w W' ∧ ∀ k, f' k → w.heap.size ≤ k

section
variable {F : Fence} {nF : Nat} {w : World}
theorem wpIn_append_rowR {o : Oper} {a : Act} {Q : Exit → Act → World → Prop} {K : Act → World → Prop} (s x : Operand)
    (ho : o.op = .call { callee := .builtin .append, args := #[s, x], argTypes := #[26, 26] })
    (v : Value) (xs : List ByteArray) (r : Option Nat) (y : ByteArray) (vb : Nat) (hs : a.eval s = v) (hx : a.eval x = .slice (some ⟨vb, 0, none⟩) 1 1)
    (h : RowR w v xs r) (hn : xs.length ≤ 9000) (hb : w.heap[vb]? = some (.cells #[.string y] 9 (0, 0)))
    (hK : ∀ g cap w', w'.ownsRow 0 9 1 (.slice (some ⟨g, 0, none⟩) (xs.length + 1) cap) (xs.length + 1) ((xs ++ [y]).map Value.string) → w.grownBy w' r → (r = some g ∨ w.heap.size ≤ g) →
      K (a.put o.dst (.slice (some ⟨g, 0, none⟩) (xs.length + 1) cap)) w') : o.wpIn F nF Try.prog a w K Q := by
  obtain ⟨g, cap, w', hr, h2, h3, h4⟩ := append_rowR o.type w v xs r y vb h hn hb
  unfold Oper.wpIn
  refine ⟨by simp [Oper.about, ho, resolve, Target.leads, Sem.run_pure], ?_⟩
  rw [Oper.semAt_plain F _ _ (by rw [ho]; intro c hc'; cases hc')]
  simp [execOp, ho, resolve, invoke, builtin, hs, hx, hr, Result.andThen]
  exact hK g cap w' h2 h3 h4

end

set_option maxRecDepth 100000 in
set_option maxHeartbeats 4000000 in
theorem copy_in (p : Nat) (D : Pairs) (f : Nat → Prop) (w : World) (h : Tab w p D f) (hR : Rise D) (hn : D.length ≤ 9000) (hE : D = [] → w.cell? ⟨p, 0, none⟩ = some (.slice none 0 0) ∧ w.cell? ⟨p, 1, none⟩ = some (.slice none 0 0)) :
    CallsIn Fence.wide 4 Try.prog 18 #[.pointer (some ⟨p, 0, none⟩)] w (Copied D w) := by
  obtain ⟨kv, vv, hp, hk, hv, hd, hf, hc0, hc1, _, _⟩ := h.parts
  obtain ⟨ka, kn, kc, rfl⟩ : ∃ a n c, kv = .slice a n c := by
    rcases hk.2 with ⟨rfl, _⟩ | ⟨g, cap, cur, rfl, _⟩
    · exact ⟨_, _, _, rfl⟩
    · exact ⟨_, _, _, rfl⟩
  obtain ⟨va, vn, vc, rfl⟩ : ∃ a n c, vv = .slice a n c := by
    rcases hv.2 with ⟨rfl, _⟩ | ⟨g, cap, cur, rfl, _⟩
    · exact ⟨_, _, _, rfl⟩
    · exact ⟨_, _, _, rfl⟩
  have hNil : Hid (D = [] → Value.slice ka 0 0 = .slice none 0 0 ∧ Value.slice va 0 0 = .slice none 0 0) := fun hD => by
    obtain ⟨e1, e2⟩ := hE hD
    rw [hc0] at e1; rw [hc1] at e2
    simp only [Option.some.injEq, Value.slice.injEq] at e1 e2
    rw [e1.1, e2.1]; exact ⟨rfl, rfl⟩
  have hmix : Try.prog.follows .mixedOrders = true := by kernel_rfl
  have h1' : 1 ≤ 4 := by omega
  have hplt : p < w.heap.size := (Array.getElem?_eq_some_iff.1 hp).1
  have ha0 : ∀ o, (w.alloc o).cell? ⟨p, 0, none⟩ = some (.slice ka kn kc) := fun o => (World.cell?_of_block (w := w) (heap_alloc_old w o p hplt)).trans hc0
  have ha1 : ∀ o, (w.alloc o).cell? ⟨p, 1, none⟩ = some (.slice va vn vc) := fun o => (World.cell?_of_block (w := w) (heap_alloc_old w o p hplt)).trans hc1
  clear hp hk hv hd hf hE
  refine callsIn_of_wp_marks Try.func18 rfl trivial ?_ rfl
  simp only [Try.ntmps18, List.size_toArray, List.length_cons, List.length_nil, Nat.reduceAdd, Nat.reduceSub, Array.replicate_succ, Array.replicate_zero, List.push_toArray, List.append_toArray, List.nil_append, List.cons_append]
  gi_wp2_with fail
  gi_cut [3] from 8 (fun s3 wc => CopyStart w (.slice ka 0 0) (.slice va 0 0) s3 wc)
  case first =>
    rename_i Jc Kc hJc hKc
    gi_region
    all_goals (show Kc _ _; refine hKc _ _ (Met.intro (hJc _ _ ?_)); (repeat apply Exists.intro); first | exact ⟨copyStart_1 _ _ _, rfl⟩ | exact ⟨copyStart_2 _ _ _, rfl⟩)
  case rest =>
    obtain ⟨bx, pc, rfl, hbx, hpc, hbl, hpl, hB0⟩ := hcut
    have HT := Lib.hid (h.stays hB0.size (fun k hk => hB0.block k (h.lt k hk)))
    have hszc := hB0.size
    clear ha0 ha1 hc0 hc1 hplt
    have hfFrom : Fence.wide.fn 25 := trivial
    gi_wp2_with (gi_at_call 25; refine (callsIn_wide.2 (from_any (some ⟨p, 0, none⟩) _ _)).mono ?_; rintro e w' ⟨rfl, rfl⟩)
    rename_i KK hKK
    have bP := (Boxed.new wc 24 (.pointer (some ⟨p, 0, none⟩))).alloc (.cells #[.string ⟨#[]⟩] 9)
    have bS := Boxed.new (wc.alloc (.cells #[.pointer (some ⟨p, 0, none⟩)] 24)) 9 (.string ⟨#[]⟩)
    simp only [World.size_alloc] at bS
    have hB1 : Below wc.heap.size wc ((wc.alloc (.cells #[.pointer (some ⟨p, 0, none⟩)] 24)).alloc (.cells #[.string ⟨#[]⟩] 9)) := ((Below.refl _ wc).alloc (Nat.le_refl _) _).alloc (by simp) _
    have hsz : ((wc.alloc (.cells #[.pointer (some ⟨p, 0, none⟩)] 24)).alloc (.cells #[.string ⟨#[]⟩] 9)).heap.size = wc.heap.size + 1 + 1 := by simp
    obtain ⟨W0, hW0⟩ : ∃ W0, ((wc.alloc (.cells #[.pointer (some ⟨p, 0, none⟩)] 24)).alloc (.cells #[.string ⟨#[]⟩] 9)) = W0 := ⟨_, rfl⟩
    rw [hW0] at bP bS hB1 hsz ⊢
    clear hW0
    have hbxl : bx < wc.heap.size := (Array.getElem?_eq_some_iff.1 hbx).1
    have hpcl : pc < wc.heap.size := (Array.getElem?_eq_some_iff.1 hpc).1
    have hE1 : fromD D ⟨#[]⟩ = D := List.filter_eq_self.2 fun q _ => by
      have : lt q.1 ⟨#[]⟩ = false := by
        unfold lt
        rw [show (⟨#[]⟩ : ByteArray).toList = [] by rw [ByteArray.toList_eq]]
        cases q.1.toList <;> rfl
      rw [this]; rfl
    have hIt := from1_iter Fence.wide 3 (fun _ => trivial) rfl rfl wide_hW (by omega) wc.heap.size (wc.heap.size + 1) p D ⟨#[]⟩ hR hn
    rw [hE1] at hIt
    have HIt := Lib.hid hIt
    have HN := Lib.hid hn
    have HPL := Lib.hid h.lt
    clear hIt hR h hE1
    refine wpIn_rangeFunc_foot rfl h1' (gf := 30) (lb := #[.pointer (some ⟨wc.heap.size, 0, none⟩), .pointer (some ⟨wc.heap.size + 1, 0, none⟩)]) rfl trivial (enters_of Try.func30 (by kernel_rfl) rfl)
      HIt.out (fun _ => rfl)
      (CopyI bx pc (.slice ka 0 0) (.slice va 0 0)) (fun _ _ _ _ => False) (CopyI.stable _ _ _ _) (fun c s f1 A B hs _ _ => hs) (CopyI.bound _ _ _ _)
      (fun k => k = bx ∨ k = pc ∨ (none : Option Nat) = some k ∨ (none : Option Nat) = some k)
      ?start ?pre
      (fun q => { tmps := #[.pointer (some ⟨p, 0, none⟩), undef, .pointer none, .pointer (some ⟨bx, 0, none⟩), .string q.1, .string q.2, .pointer (some ⟨p, 0, none⟩), .bool false, u8, u9, u10, u11, u12, u13, u14, u15, u16, u17, u18, u19,
        .pointer (some ⟨p, 0, none⟩), .func (.func 30) #[] #[.pointer (some ⟨wc.heap.size, 0, none⟩), .pointer (some ⟨wc.heap.size + 1, 0, none⟩)],
        .string q.1, .string q.2, u24, u25, u26, u27, u28, u29, u30, u31, u32, u33, u34, u35, u36, u37, u38, u39, u40, u41, u42, u43, u44], defers := [] }) ?assign ?body ?done ?stop
    case start =>
      refine ⟨.slice ka 0 0, .slice va 0 0, none, none, ⟨(hB1.block bx hbxl).trans hbx, (hB1.block pc hpcl).trans hpc, .inr ⟨rfl, ⟨_, rfl⟩, rfl⟩, .inr ⟨rfl, ⟨_, rfl⟩, rfl⟩, .inl rfl, Step.refl _ _⟩, fun _ => ⟨rfl, rfl⟩, rfl⟩
    case pre =>
      intro W1 hb1
      have hT1 : Tab W1 p D f := (HT.out.stays hB1.size (fun k hk => hB1.block k (HT.out.lt k hk))).stays hb1.size (fun k hk => hb1.block k (Nat.lt_of_lt_of_le (HT.out.lt k hk) hB1.size))
      refine ⟨(World.cell?_of_block (hb1.block wc.heap.size (by omega))).trans bP.cell, (World.cell?_of_block (hb1.block (wc.heap.size + 1) (by omega))).trans bS.cell, (by intro hh; simp at hh; omega), f, hT1, fun k hk hh => ?_⟩
      have := HPL.out k hk
      simp at hh
      omega
    case assign =>
      intro l2 q Wx K hK
      gi_wp2
      exact hK
    case body =>
      rintro l2 pre ⟨a, b⟩ post f1 Wx hcut ⟨kv, vv, rk, rv, m, h0, rfl⟩ hle
      have hlen : pre.length < D.length := by rw [hcut]; simp
      have HM := Lib.hid m
      clear hcut h0
      refine wpIn_block (wpIn_seq ?_)
      have hkl : (keysOf pre).length = pre.length := by simp [keysOf]
      have hvl : (valsOf pre).length = pre.length := by simp [valsOf]
      have md := HM.out.drew
      refine wpIn_region_held (fun _ => trivial) 8 [0, 1, 2, 3, 4, 5] [6, 7] (fun _ _ _ _ _ h => h) hmix (by kernel_rfl)
        (fun W' => W'.cell? ⟨bx, 0, none⟩ = some (.pointer (some ⟨pc, 0, none⟩)) ∧ W'.cell? ⟨pc, 0, none⟩ = some kv) ⟨md.cb, md.c0⟩ ?_
      simp only [List.drop_succ_cons, List.drop_zero]
      obtain ⟨Wd, hWd⟩ : ∃ X, World.drew Wx = X := ⟨_, rfl⟩
      rw [hWd] at md ⊢
      clear hWd
      refine heldI_step (.pointer (some ⟨pc, 0, none⟩)) rfl rfl (by rintro W ⟨h1, h2⟩; go_simp) (fun K' hK' => ?_)
      go_simp
      refine hK' _ ?_
      clear hK' K'
      refine heldI_step (.pointer (some ⟨pc, 0, none⟩)) rfl rfl (by rintro W ⟨h1, h2⟩; go_simp) (fun K' hK' => ?_)
      go_simp
      refine hK' _ ?_
      clear hK' K'
      refine heldI_step (.pointer (some ⟨pc, 0, none⟩)) rfl rfl (by rintro W ⟨h1, h2⟩; go_simp) (fun K' hK' => ?_)
      go_simp
      refine hK' _ ?_
      clear hK' K'
      refine heldI_step (.pointer (some ⟨pc, 0, none⟩)) rfl rfl (by rintro W ⟨h1, h2⟩; go_simp) (fun K' hK' => ?_)
      go_simp
      refine hK' _ ?_
      clear hK' K'
      refine heldI_step kv rfl rfl (by rintro W ⟨h1, h2⟩; go_simp) (fun K' hK' => ?_)
      go_simp
      refine hK' _ ?_
      clear hK' K'
      refine heldI_step (.string a) rfl rfl (by rintro W ⟨h1, h2⟩; go_simp) (fun K' hK' => ?_)
      go_simp
      refine hK' _ ?_
      clear hK' K'
      refine midT_step rfl rfl (fun K' hK' => ?_)
      refine ⟨fun _ _ => trivial, ?_⟩
      go_simp
      refine hK' _ _ ⟨⟨(md.alloc _).cb, (md.alloc _).c0⟩, ?_⟩
      clear hK' K'
      have md1 := md.alloc (.cells #[.string a] 9)
      have hBx := World.alloc_heap_new Wd (.cells #[.string a] 9)
      refine midT_step rfl rfl (fun K' hK' => ?_)
      refine wpIn_append_rowR _ _ rfl kv (keysOf pre) rk a Wd.heap.size rfl rfl md1.krow (by rw [hkl]; omega) hBx ?_
      intro g cap W1 hrow hgrow hat
      obtain ⟨m1, e1, e2, e3, e4⟩ := md1.key hgrow (ks' := keysOf pre ++ [a]) (by simp) hrow hat
      go_simp
      refine hK' _ _ ⟨⟨e1, e2⟩, ?_⟩
      clear hK' K'
      rw [hkl] at m1
      change wpListIn _ _ _ _ _ _ _ _
      clear hgrow hat hrow md1 md m
      gi_wp2
      obtain ⟨Wv, hWv⟩ : ∃ X, (W1.setCell ⟨pc, 0, none⟩ (.slice (some ⟨g, 0, none⟩) (pre.length + 1) cap)) = X := ⟨_, rfl⟩
      rw [hWv] at m1 ⊢
      clear hWv e1 e2 e3 e4 hBx
      have me := m1.drew
      refine wpIn_region_held (fun _ => trivial) 8 [0, 1, 2, 3, 4, 5] [6, 7] (fun _ _ _ _ _ h => h) hmix (by kernel_rfl)
        (fun W' => W'.cell? ⟨bx, 0, none⟩ = some (.pointer (some ⟨pc, 0, none⟩)) ∧ W'.cell? ⟨pc, 1, none⟩ = some vv) ⟨me.cb, me.c1⟩ ?_
      simp only [List.drop_succ_cons, List.drop_zero]
      obtain ⟨We, hWe⟩ : ∃ X, World.drew Wv = X := ⟨_, rfl⟩
      rw [hWe] at me ⊢
      clear hWe
      refine heldI_step (.pointer (some ⟨pc, 0, none⟩)) rfl rfl (by rintro W ⟨h1, h2⟩; go_simp) (fun K' hK' => ?_)
      go_simp
      refine hK' _ ?_
      clear hK' K'
      refine heldI_step (.pointer (some ⟨pc, 0, none⟩)) rfl rfl (by rintro W ⟨h1, h2⟩; go_simp) (fun K' hK' => ?_)
      go_simp
      refine hK' _ ?_
      clear hK' K'
      refine heldI_step (.pointer (some ⟨pc, 0, none⟩)) rfl rfl (by rintro W ⟨h1, h2⟩; go_simp) (fun K' hK' => ?_)
      go_simp
      refine hK' _ ?_
      clear hK' K'
      refine heldI_step (.pointer (some ⟨pc, 1, none⟩)) rfl rfl (by rintro W ⟨h1, h2⟩; go_simp) (fun K' hK' => ?_)
      go_simp
      refine hK' _ ?_
      clear hK' K'
      refine heldI_step vv rfl rfl (by rintro W ⟨h1, h2⟩; go_simp) (fun K' hK' => ?_)
      go_simp
      refine hK' _ ?_
      clear hK' K'
      refine heldI_step (.string b) rfl rfl (by rintro W ⟨h1, h2⟩; go_simp) (fun K' hK' => ?_)
      go_simp
      refine hK' _ ?_
      clear hK' K'
      refine midT_step rfl rfl (fun K' hK' => ?_)
      refine ⟨fun _ _ => trivial, ?_⟩
      go_simp
      refine hK' _ _ ⟨⟨(me.alloc _).cb, (me.alloc _).c1⟩, ?_⟩
      clear hK' K'
      have me1 := me.alloc (.cells #[.string b] 9)
      have qhBx := World.alloc_heap_new We (.cells #[.string b] 9)
      refine midT_step rfl rfl (fun K' hK' => ?_)
      refine wpIn_append_rowR _ _ rfl vv (valsOf pre) rv b We.heap.size rfl rfl me1.vrow (by rw [hvl]; omega) qhBx ?_
      intro qg qcap W2 qhrow qhgrow qhat
      obtain ⟨m2, qe1, qe2, qe3, qe4⟩ := me1.val qhgrow (vs' := valsOf pre ++ [b]) (by simp) qhrow qhat
      go_simp
      refine hK' _ _ ⟨⟨qe1, qe3⟩, ?_⟩
      clear hK' K'
      rw [hvl] at m2
      change wpListIn _ _ _ _ _ _ _ _
      clear qhgrow qhat qhrow me1 me
      gi_wp2
      exact CopyI.next m2
    case done =>
      rintro D2 f' Wd hD hnD hstd hI hK
      have hcb : Wd.cell? ⟨bx, 0, none⟩ = some (.pointer (some ⟨pc, 0, none⟩)) := by
        obtain ⟨_, _, _, _, m, _, _⟩ := hI
        exact m.cb
      have hIp := fun o => (CopyI.stable bx pc (.slice ka 0 0) (.slice va 0 0)).putObj hI o hnD
      have hfoot : ∀ k, f' k → w.heap.size ≤ k := fun k hk => by
        rcases hstd.foot k hk with h | h
        · simp at h; omega
        · omega
      have hbel : Below w.heap.size w Wd := (hB0.trans (hB1.mono hszc)).trans (hstd.below (n := w.heap.size) (by omega) (fun k hk h => by simp at h; omega))
      have HIp := Lib.hid hIp
      have HF := Lib.hid hfoot
      clear hI hIp hfoot hstd
      refine hKK _ _ ?_
      gi_wp2
      refine ⟨by simp, .inl ⟨_, _, rfl, run_takeDeferred hK, ?_⟩⟩
      obtain ⟨f2, hT2, hf2⟩ := (HIp.out (.deferred none)).tab hNil
      refine ⟨_, results_tmp rfl _ _ _, pc, f2, rfl, hT2, hbel.trans (belowK_b (w := w) (Nat.le_refl _) Wd D2 _ _ (by omega) hK rfl rfl), fun k hk => HF.out k (hf2 k hk)⟩
    case stop =>
      rintro D2 c pre f' Wd hD hnD hstd hpx hF
      exact hF.elim

theorem copy_any (p : Nat) (D : Pairs) (f : Nat → Prop) (w : World) (h : Tab w p D f) (hR : Rise D) (hn : D.length ≤ 9000) (hE : D = [] → w.cell? ⟨p, 0, none⟩ = some (.slice none 0 0) ∧ w.cell? ⟨p, 1, none⟩ = some (.slice none 0 0)) :
    Calls Try.prog 18 #[.pointer (some ⟨p, 0, none⟩)] w (Copied D w) :=
  callsIn_wide.1 (copy_in p D f w h hR hn hE)

end Go.Proofs.Ytkjkedaifdgjoaa
