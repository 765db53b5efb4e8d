/-
  A read during which newer versions come, beside a heap: its calls.
-/
import Derived.Test.YtpnfbabiibopnaaRdaw
import Derived.Test.YtpnfbabiibopnaaRdbnd
import Derived.Test.YtpnfbabiibopnaaPnaw
namespace Go.Proofs.Ytpnfbabiibopnaa
open Go Go.RowKit

section
variable {W X Y : World} {a p s q v x th : Int} {B hp r m : Nat} {D D' : HpD} {ks : List (Nat × Obj)} {E : RdD}
theorem Rnf.mono {σ : Type} {M : Mach σ} {E : σ} (h : Rnf M W a p s q v x B hp D ks r m E X) {m' : Nat} (hm : m' ≤ m) : Rnf M W a p s q v x B hp D ks r m' E X := by
  obtain ⟨f, h1, h2⟩ := h.pl
  exact ⟨h.cf, h.lo, h.hB, f, h1.mono hm, h2⟩
/-- A routine that rests stays as it is, and may go on. -/
theorem Rnf.rests (h : Rnf RdM W a p s q v x B hp D ks r m E X) : ∃ ls : List (Nat × Obj), Rnd W a p s q v x B hp D (ls ++ ks) X ∧ ∀ Y D' m', Rnd W a p s q v x B hp D' (ls ++ ks) Y → FewD D' m' → Rnf RdM W a p s q v x B hp D' ks r m' E Y := by
  obtain ⟨f, ⟨fh, fr, h3, ⟨rp, rf, rc, hI, hfr⟩, h5, rfl, h6⟩, h2⟩ := h.pl
  have hB := h.hB
  have hof : ∀ k, footR E r rp rf rc k → ¬ fh k := fun k hk hf => h5 k hf (by rw [hfr]; exact hk)
  have hks : ∀ u ∈ ks, ¬ footR E r rp rf rc u.1 := fun u hu hf => (h2 u hu).2.2 (.inr (by rw [hfr]; exact hf))
  have hback : ∀ (Y : World) (D' : HpD) (m' : Nat) (ls : List (Nat × Obj)), Rnd W a p s q v x B hp D' (ls ++ ks) Y → FewD D' m' → (∀ k, footR E r rp rf rc k → ∃ o, (k, o) ∈ ls ∧ X.heap[k]? = some o) → Rnf RdM W a p s q v x B hp D' ks r m' E Y := fun Y D' m' ls hY hF hls => by
    obtain ⟨f', g1, g2⟩ := hY.hh
    have hI' : RdIn Y B r E rp rf rc := hI.stays (fun k hk => by
      obtain ⟨o, ho, hX⟩ := hls k hk
      rw [hX]
      exact (g2 _ (List.mem_append_left _ ho)).1)
    refine ⟨hY.cf, hY.lo, hB, _, ⟨f', footR E r rp rf rc, g1, ⟨rp, rf, rc, hI', rfl⟩, fun k hk hf => ?_, rfl, hF⟩, fun u hu => ?_⟩
    · obtain ⟨o, ho, -⟩ := hls k hf
      exact (g2 _ (List.mem_append_left _ ho)).2.2 hk
    · obtain ⟨u1, u2, u3⟩ := g2 u (List.mem_append_right _ hu)
      exact ⟨u1, u2, fun hf => hf.elim u3 (hks u hu)⟩
  have hmem : ∀ (ls : List (Nat × Obj)), (∀ u ∈ ls, X.heap[u.1]? = some u.2 ∧ footR E r rp rf rc u.1) → Rnd W a p s q v x B hp D (ls ++ ks) X := fun ls hls =>
    ⟨h.cf, h.lo, hB, fh, h3, fun u hu => by
      rcases List.mem_append.1 hu with hu | hu
      · obtain ⟨g1, g2⟩ := hls u hu
        have := (hI.lt _ g2).2
        exact ⟨g1, by omega, hof _ g2⟩
      · exact ⟨(h2 u hu).1, (h2 u hu).2.1, fun hf => (h2 u hu).2.2 (.inl hf)⟩⟩
  by_cases e3 : E.part = 3
  · obtain ⟨c, hc, hch, -⟩ := hI.ch e3
    refine ⟨[(r, rdO E rp rf rc), (rp, pnrO E.pin), (rf, fndO E.fnd), (c, chnO E.chn)], hmem _ (fun u hu => ?_), fun Y D' m' hY hF => hback Y D' m' _ hY hF (fun k hk => ?_)⟩
    · simp only [List.mem_cons, List.not_mem_nil, or_false] at hu
      rcases hu with rfl | rfl | rfl | rfl
      · exact ⟨hI.own, .inl rfl⟩
      · exact ⟨hI.pn.own, .inr (.inl rfl)⟩
      · exact ⟨hI.fn.own, .inr (.inr (.inl rfl))⟩
      · exact ⟨hch.own, .inr (.inr (.inr ⟨e3, hc⟩))⟩
    · rcases hk with rfl | rfl | rfl | ⟨_, e⟩
      · exact ⟨_, by simp, hI.own⟩
      · exact ⟨_, by simp, hI.pn.own⟩
      · exact ⟨_, by simp, hI.fn.own⟩
      · rw [hc] at e; cases e
        exact ⟨_, by simp, hch.own⟩
  · refine ⟨[(r, rdO E rp rf rc), (rp, pnrO E.pin), (rf, fndO E.fnd)], hmem _ (fun u hu => ?_), fun Y D' m' hY hF => hback Y D' m' _ hY hF (fun k hk => ?_)⟩
    · simp only [List.mem_cons, List.not_mem_nil, or_false] at hu
      rcases hu with rfl | rfl | rfl
      · exact ⟨hI.own, .inl rfl⟩
      · exact ⟨hI.pn.own, .inr (.inl rfl)⟩
      · exact ⟨hI.fn.own, .inr (.inr (.inl rfl))⟩
    · rcases hk with rfl | rfl | rfl | ⟨e, _⟩
      · exact ⟨_, by simp, hI.own⟩
      · exact ⟨_, by simp, hI.pn.own⟩
      · exact ⟨_, by simp, hI.fn.own⟩
      · exact absurd e e3
theorem rnf_ract (h : Rnf RdM W a p s q v x B hp D ks r m E X) : Calls Try.prog 19 #[.pointer (some ⟨r, 0, none⟩)] X fun e Y => e = .returned (.tuple #[actOf ((nextR E).getD noAct), .bool (nextR E).isSome]) ∧ Rnf RdM W a p s q v x B hp D ks r m E Y := by
  obtain ⟨f, ⟨fh, fr, h3, h4, h5, rfl, h6⟩, h2⟩ := h.pl
  exact (rd_act h4).mono fun e Y he => ⟨he.1, h.below he.2⟩
theorem rnf_rres (h : Rnf RdM W a p s q v x B hp D ks r m E X) : Calls Try.prog 14 #[.pointer (some ⟨r, 0, none⟩)] X fun e Y => (∃ c tk vl mk is, e = .returned (.tuple #[toldV c tk vl mk, .bool is]) ∧ (E.part = 5 → is = true ∧ c = E.code)) ∧ Rnf RdM W a p s q v x B hp D ks r m E Y := by
  obtain ⟨f, ⟨fh, fr, h3, ⟨rp, rf, rc, hI, hfr⟩, h5, rfl, h6⟩, h2⟩ := h.pl
  by_cases e5 : E.part = 5
  · exact (rres_done X hI.own e5).mono fun e Y he => ⟨⟨_, _, _, _, _, he.1, fun _ => ⟨rfl, rfl⟩⟩, h.below he.2⟩
  · exact (rres_not X (rd_at hI.own).2.1.1 (show ((E.part : Nat) : Int) ≠ 5 by omega)).mono fun e Y he => ⟨⟨_, _, _, _, _, he.1, fun h => absurd h e5⟩, h.below he.2⟩
theorem rnf_next {σ : Type} {M : Mach σ} {E : σ} {y : ActD} (h : Rnf M W a p s q v x B hp D ks r (m + 1) E X) (hn : M.next E = some y) (hr : readyA D y = true) :
    Calls Try.prog 20 #[.pointer (some ⟨hp, 0, none⟩), rowV M.tid r] X fun e Y => e = .returned (.tuple #[stepV 0 ⟨y, doW D y, doT D y⟩, .bool true]) ∧ Rnf M W a p s q v x B hp (doN D y) ks r m (M.take E (doW D y) (doT D y)) Y := by
  obtain ⟨f, h1, h2⟩ := h.pl
  refine (mnext_some h1 (stepM_ready hn hr)).mono fun e Y he => ?_
  obtain ⟨f', rfl, h3, st⟩ := he
  rw [nextM_some (M := M) (S := ⟨D, E⟩) hn] at h3
  exact ⟨rfl, (st.block _ (heap_at_lt h.cf) (h1.base _ h.hB)).trans h.cf, h.lo.trans (st.below h.lo.size (fun k hk => h1.base k (Nat.lt_trans hk h.hB))), h.hB, f', h3, kept_step h2 st⟩
theorem rnf_nomore {σ : Type} {M : Mach σ} {E : σ} (h : Rnf M W a p s q v x B hp D ks r m E X) (hn : M.next E = none) :
    Calls Try.prog 20 #[.pointer (some ⟨hp, 0, none⟩), rowV M.tid r] X fun e Y => e = .returned (.tuple #[zeroS, .bool false]) ∧ Rnf M W a p s q v x B hp D ks r m E Y := by
  obtain ⟨f, h1, h2⟩ := h.pl
  have hs : stepM M ⟨D, E⟩ = none := by
    unfold stepM
    show (match M.next E with | some x => if readyA D x then some (⟨x, doW D x, doT D x⟩ : StepD) else none | none => none) = _
    rw [hn]
  refine (mnext_none h1 hs).mono fun e Y he => ?_
  obtain ⟨f', rfl, h3, st⟩ := he
  exact ⟨rfl, (st.block _ (heap_at_lt h.cf) (h1.base _ h.hB)).trans h.cf, h.lo.trans (st.below h.lo.size (fun k hk => h1.base k (Nat.lt_trans hk h.hB))), h.hB, f', h3, kept_step h2 st⟩
end

/-! ### between two rounds -/
abbrev kA : ByteArray := ⟨#[97]⟩
def cA (p : Int) : Nat := (3 + wayP 0 p 0).toNat
def hA (a p s q v x : Int) : Int := headW a p s q v ((newF a p s q v x kA).way 0)
/-- e newer versions came, acts acts were done, m more may be. -/
def BdI (W : World) (a p s q v x : Int) (B hp r e acts m : Nat) (X : World) : Prop :=
  ∃ D G K V N R f, Rnf RdM W a p s q v x B hp D [] r m R X ∧ Bnd a p s q v x kA e D G K V N ∧ RdS a p s q v x 0 (newF a p s q v x kA) (cA p) (hA a p s q v x) e G (V ((newF a p s q v x kA).way 0)) R f ∧ acts + f ≤ 10 + 2 * e ∧ D.L.length ≤ 3 + 2 * e
/-- A version more lies there, and the epoch has not gone on yet. -/
def LdI (W : World) (a p s q v x : Int) (B hp r e acts : Nat) (X : World) : Prop :=
  ∃ D G K V N R f ls, Rnd W a p s q v x B hp D ls X ∧ (∀ Y D' m', Rnd W a p s q v x B hp D' ls Y → FewD D' m' → Rnf RdM W a p s q v x B hp D' [] r m' R Y) ∧ Laid a p s q v x D G K V N ∧ K ((newF a p s q v x kA).way 0) = some kA.toList ∧ N ((newF a p s q v x kA).way 0) = e + 2 ∧ (∀ j, j ≤ e + 1 → (V ((newF a p s q v x kA).way 0) j).ep = (j : Int)) ∧
    RdS a p s q v x 0 (newF a p s q v x kA) (cA p) (hA a p s q v x) (e + 1) G (V ((newF a p s q v x kA).way 0)) R f ∧ acts + f ≤ 10 + 2 * (e + 1) ∧ D.L.length ≤ 3 + 2 * (e + 1)
section
variable {W X Y : World} {a p s q v x : Int} {B hp r e acts m : Nat}
theorem BdI.mono (h : BdI W a p s q v x B hp r e acts m X) {m' : Nat} (hm : m' ≤ m) : BdI W a p s q v x B hp r e acts m' X := by
  obtain ⟨D, G, K, V, N, R, f, h1, h2⟩ := h
  exact ⟨D, G, K, V, N, R, f, h1.mono hm, h2⟩
theorem BdI.six (h : BdI W a p s q v x B hp r e acts m X) : SixC W.heap.size a p s q v x X := by
  obtain ⟨D, G, K, V, N, R, f, h1, h2⟩ := h
  exact h1.drop.six
theorem BdI.low (h : BdI W a p s q v x B hp r e acts m X) : Below W.heap.size W X := by
  obtain ⟨D, G, K, V, N, R, f, h1, h2⟩ := h
  exact h1.lo
theorem BdI.bd (h : BdI W a p s q v x B hp r e acts m X) : acts ≤ 10 + 2 * e := by
  obtain ⟨D, G, K, V, N, R, f, h1, h2, h3, h4, h5⟩ := h
  omega
theorem BdI.below (h : BdI W a p s q v x B hp r e acts m X) (hb : Below X.heap.size X Y) : BdI W a p s q v x B hp r e acts m Y := by
  obtain ⟨D, G, K, V, N, R, f, h1, h2⟩ := h
  exact ⟨D, G, K, V, N, R, f, h1.below hb, h2⟩
theorem bdi_act (h : BdI W a p s q v x B hp r e acts m X) : Calls Try.prog 19 #[.pointer (some ⟨r, 0, none⟩)] X fun en Y => ∃ (y : ActD) (is : Bool), en = .returned (.tuple #[actOf y, .bool is]) ∧ y.kind ≠ 8 ∧ BdI W a p s q v x B hp r e acts m Y := by
  obtain ⟨D, G, K, V, N, R, f, h1, h2, h3, h4, h5⟩ := h
  refine (rnf_ract h1).mono fun en Y he => ⟨_, _, he.1, ?_, D, G, K, V, N, R, f, he.2, h2, h3, h4, h5⟩
  rcases bnd_step h2 rfl rfl rfl h3 with ⟨p5, -⟩ | ⟨y, G', f', hy, hk, -⟩
  · rw [nextR_5 p5]; show (0 : Int) ≠ 8; decide
  · rw [RdM_next] at hy; rw [hy]; exact hk
theorem bdi_next (h : BdI W a p s q v x B hp r e acts (m + 1) X) : Calls Try.prog 20 #[.pointer (some ⟨hp, 0, none⟩), .iface 38 (.pointer (some ⟨r, 0, none⟩))] X fun en Y => ∃ (st : StepD) (is : Bool), en = .returned (.tuple #[stepV 0 st, .bool is]) ∧ BdI W a p s q v x B hp r e (acts + if is then 1 else 0) m Y := by
  obtain ⟨D, G, K, V, N, R, f, h1, h2, h3, h4, h5⟩ := h
  rcases bnd_step h2 rfl rfl rfl h3 with ⟨p5, -⟩ | ⟨y, G', f', hy, hk, hr, hB', hS', hf, hl⟩
  · refine (show Calls Try.prog 20 #[.pointer (some ⟨hp, 0, none⟩), rowV RdM.tid r] X _ from rnf_nomore h1 (show RdM.next R = none from nextR_5 p5)).mono fun en Y he => ⟨⟨noAct, 0, ⟨#[]⟩⟩, false, he.1, D, G, K, V, N, R, f, he.2.mono (Nat.le_succ _), h2, h3, by simpa using h4, h5⟩
  · refine (show Calls Try.prog 20 #[.pointer (some ⟨hp, 0, none⟩), rowV RdM.tid r] X _ from rnf_next h1 hy hr).mono fun en Y he => ⟨_, true, he.1, _, G', K, V, N, _, f', he.2, hB', hS', by simp; omega, by omega⟩
theorem bdi_res (h : BdI W a p s q v x B hp r e acts m X) : Calls Try.prog 14 #[.pointer (some ⟨r, 0, none⟩)] X fun en Y => ∃ c tk vl mk is, en = .returned (.tuple #[toldV c tk vl mk, .bool is]) ∧ BdI W a p s q v x B hp r e acts m Y := by
  obtain ⟨D, G, K, V, N, R, f, h1, h2⟩ := h
  refine (rnf_rres h1).mono fun en Y he => ?_
  obtain ⟨⟨c, tk, vl, mk, is, e1, -⟩, h3⟩ := he
  exact ⟨c, tk, vl, mk, is, e1, D, G, K, V, N, R, f, h3, h2⟩
theorem bdi_lay (h : BdI W a p s q v x B hp r e acts m X) (he : e ≤ 100) (has : Bool) {val : ByteArray} (hv : val.size ≤ 4096) :
    Calls Try.prog 8 #[.pointer (some ⟨hp, 0, none⟩), cfV a p s q v x, .int .u64 ((e : Int) + 1), .agg #[.string kA, .bool has, .string val]] X fun en Y => (en = .returned (.bool false) ∧ Below W.heap.size W Y) ∨ (en = .returned (.bool true) ∧ LdI W a p s q v x B hp r e acts Y) := by
  obtain ⟨D, G, K, V, N, R, f, h1, h2, h3, h4, h5⟩ := h
  obtain ⟨ls, hR, hback⟩ := h1.rests
  rw [List.append_nil] at hR
  refine (rnd_lay hR h2.laid (by omega) (ep := (e : Int) + 1) (by omega) (key := kA) (by decide) has hv).mono fun en Y hL => ?_
  rcases hL with ⟨rfl, hY, -⟩ | ⟨rfl, D', G', sh, bl, hY, hsh, hin, -, hL', hG', hl', hG2⟩
  · exact .inl ⟨rfl, hY.lo⟩
  have hs0 := rightC_bd h2.laid.rc
  have hst : sh = (newF a p s q v x kA).way 0 := by
    rw [hsh]
    exact (findK_first (d := newF a p s q v x kA) (show 1 ≤ s by omega) h2.kk).2.1
  subst hst
  rw [put_same h2.kk] at hL'
  have hwb := wayP_in 0 p hs0.2.1.1 0
  have hc3 : ((cA p : Nat) : Int) < 3 + p := by unfold cA; omega
  have hkw := keyW_at h2.laid.rc hin.1 hin.2
  have hhw : headW a p s q v ((newF a p s q v x kA).way 0) = 3 + p + a + 2 * (newF a p s q v x kA).way 0 + 1 := if_pos ⟨h2.laid.rc, hin.1, by omega⟩
  have hVo : ∀ j, j ≤ e → pushV V N ((newF a p s q v x kA).way 0) ⟨(e : Int) + 1, has, putT has val, bl⟩ ((newF a p s q v x kA).way 0) j = V ((newF a p s q v x kA).way 0) j := fun j hj => if_neg (by rw [h2.n]; omega)
  obtain ⟨f', hf', hS'⟩ := h3.more (G' := G') (V1 := pushV V N ((newF a p s q v x kA).way 0) ⟨(e : Int) + 1, has, putT has val, bl⟩ ((newF a p s q v x kA).way 0)) (hG' _ hc3) (hG2 h2.kk _ (by omega)) hVo
  refine .inr ⟨rfl, D', G', K, _, _, R, f', ls, hY, fun Y D' m' hY hF => hback Y D' m' (by rw [List.append_nil]; exact hY) hF, hL', h2.kk, ?_, fun j hj => ?_, hS', by omega, by omega⟩
  · show pushN N _ _ = _
    unfold pushN; rw [if_pos rfl, h2.n]
  · rcases Nat.eq_or_lt_of_le hj with ej | ej
    · subst ej
      have : pushV V N ((newF a p s q v x kA).way 0) ⟨(e : Int) + 1, has, putT has val, bl⟩ ((newF a p s q v x kA).way 0) (e + 1) = ⟨(e : Int) + 1, has, putT has val, bl⟩ := if_pos ⟨rfl, h2.n.symm⟩
      rw [this]
      show (e : Int) + 1 = ((e + 1 : Nat) : Int)
      omega
    · rw [hVo j (by omega)]; exact h2.ep j (by omega)
theorem LdI.six (h : LdI W a p s q v x B hp r e acts X) : SixC W.heap.size a p s q v x X := by
  obtain ⟨D, G, K, V, N, R, f, ls, h1, h2⟩ := h
  exact h1.six
theorem bdi_store (h : LdI W a p s q v x B hp r e acts X) (he : e ≤ 100) :
    Calls Try.prog 21 #[.pointer (some ⟨hp, 0, none⟩), actV 2 1 0 0 ((e : Int) + 1) ⟨#[]⟩] X fun en Y => en = .returned (gotV 0 ⟨#[]⟩) ∧ BdI W a p s q v x B hp r (e + 1) acts 20004 Y := by
  obtain ⟨D, G, K, V, N, R, f, ls, h1, hback, hL, hK, hN, hep, hS, hf, hl⟩ := h
  have hC := hL.ctl
  have hb := rightC_bd hL.rc
  have hz := sizeW_at hL.rc
  have hD := hC.stores (c := 0) (u := (e : Int) + 1) (by omega) (by omega)
  have e2 : doN D (actS 1 ((0 : Nat) : Int) ((e : Int) + 1)) = D.word 1 ((0 : Nat) : Int) ((e : Int) + 1) := by
    unfold doN; rw [actS_right (b := 1) (c := ((0 : Nat) : Int)) (u := (e : Int) + 1) (by omega), if_pos rfl]
    show storeD D 1 ((0 : Nat) : Int) ((e : Int) + 1) = _
    unfold storeD; rw [if_pos (hC.spot (c := 0) (by omega))]
  refine (show Calls Try.prog 21 #[.pointer (some ⟨hp, 0, none⟩), actOf (actS 1 ((0 : Nat) : Int) ((e : Int) + 1))] X _ from rnd_does h1 hC.faults (by omega) (y := actS 1 ((0 : Nat) : Int) ((e : Int) + 1)) (by have he := empty_size; unfold ActD.fits actS; simp only; omega) hD).mono fun en Y hh => ⟨hh.1, ?_⟩
  have hO : Oth D (doN D (actS 1 ((0 : Nat) : Int) ((e : Int) + 1))) := by rw [e2]; exact hC.word_oth 0 _
  have hL' := hL.touch hD.ctl (fun i hi => upd_other (by omega)) hO.2
  have hwb := wayP_in 0 p hb.2.1.1 0
  have hkw := keyW_at hL.rc (way_in (newF a p s q v x kA) (i := 0) (by show ((0 : Nat) : Int) < s; omega)).1 (show (newF a p s q v x kA).way 0 < s from (way_in (newF a p s q v x kA) (i := 0) (by show ((0 : Nat) : Int) < s; omega)).2)
  have hw0 := (way_in (newF a p s q v x kA) (i := 0) (by show ((0 : Nat) : Int) < s; omega)).1
  refine ⟨_, upd G 0 ((e : Int) + 1), K, V, N, R, f, hback Y _ 20004 hh.2 (hD.ctl.few (by omega)), ⟨hL', by rw [upd_self]; omega, hK, by rw [hN], hep, by omega⟩, ?_, hf, by rw [hD.len]; exact hl⟩
  have hcs : upd G 0 ((e : Int) + 1) (cA p) = G (cA p) := upd_other (by unfold cA; omega)
  have hks : upd G 0 ((e : Int) + 1) (keyW a p s q v ((newF a p s q v x kA).way 0)).toNat = G (keyW a p s q v ((newF a p s q v x kA).way 0)).toNat := upd_other (by omega)
  exact hS.same hcs hks
/-- Alone at the end. -/
theorem bdi_alone (h : BdI W a p s q v x B hp r e acts m X) (hm : 10000 ≤ m) (he : e ≤ 100) :
    Calls Try.prog 13 #[.pointer (some ⟨hp, 0, none⟩), .iface 38 (.pointer (some ⟨r, 0, none⟩)), .int .i64 10000] X
      fun en Y => ∃ (k : Nat) (D' : HpD) (R' : RdD) (m' : Nat), en = .returned (.tuple #[.int .i64 (k : Int), .bool true]) ∧ acts + k ≤ 10 + 2 * e ∧ R'.part = 5 ∧ R'.code = 0 ∧ D'.faults = 0 ∧ Rnf RdM W a p s q v x B hp D' [] r m' R' Y := by
  obtain ⟨D, G, K, V, N, R, f, h1, h2, h3, h4, h5⟩ := h
  obtain ⟨k, D', R', hk, r1, r2, r3, r4, r5⟩ := bnd_alone (d := newF a p s q v x kA) (c := cA p) (h := hA a p s q v x) rfl rfl rfl ⟨D, R⟩ f f 0 R D G (Nat.le_refl _) h2 h3 ⟨rfl, rfl⟩
  rw [Nat.zero_add] at r1 r2
  have hno : stepM RdM (stM RdM ⟨D, R⟩ k) = none := by
    rw [r1]
    unfold stepM
    show (match nextR R' with | some x => if readyA D' x then some (⟨x, doW D' x, doT D' x⟩ : StepD) else none | none => none) = _
    rw [nextR_5 r3]
  obtain ⟨u1, u2⟩ := mstop_stays hno (10000 - k)
  rw [show k + (10000 - k) = 10000 by omega] at u1 u2
  refine (show Calls Try.prog 13 #[.pointer (some ⟨hp, 0, none⟩), rowV RdM.tid r, .int .i64 ((10000 : Nat) : Int)] X _ from rnf_alone h1 10000 (by omega) hm).mono fun en Y he => ?_
  obtain ⟨rfl, h6⟩ := he
  rw [u2, r1] at h6 ⊢
  rw [u1, r2]
  exact ⟨k, D', R', m - 10000, by show Ending.returned (.tuple #[_, .bool (!(nextR R').isSome)]) = _; rw [nextR_5 r3]; rfl, by omega, r3, r4, r5, h6⟩
end

end Go.Proofs.Ytpnfbabiibopnaa
