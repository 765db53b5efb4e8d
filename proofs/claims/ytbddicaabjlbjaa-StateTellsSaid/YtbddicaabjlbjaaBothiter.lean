/-
  What state.both hands out: each key of two rows, rising, what it has in the one and in the other, till the caller has enough.
-/
import Derived.Test.YtbddicaabjlbjaaStates
import Derived.Test.YtbddicaabjlbjaaFromiter
import Derived.Sort.QuietIn
namespace Go.Proofs.Ytbddicaabjlbjaa
open Go Go.RowKit Go.Shelf
attribute [local go_sem] Oper.semAt_some

theorem both_next : ∀ (A B : Pairs), (A ≠ [] ∨ B ≠ []) → bothD A B = (firstD A (lowD A B), firstD B (lowD A B)) :: bothD (if (firstD A (lowD A B)).has then A.tail else A) (if (firstD B (lowD A B)).has then B.tail else B)
  | [], [], h => by simp at h
  | p :: r, [], _ => by
    show _ = (firstD (p :: r) p.1, firstD [] p.1) :: _
    rw [bothD]; simp [firstD, yes, no, lowD]
  | [], q :: s, _ => by
    show _ = (firstD [] q.1, firstD (q :: s) q.1) :: _
    rw [bothD]; simp [firstD, yes, no, lowD, bothD]
  | p :: r, q :: s, _ => by
    by_cases hl : lt p.1 q.1 = true
    · have hlow : lowD (p :: r) (q :: s) = p.1 := by simp [lowD, hl]
      have hne : ¬ q.1 = p.1 := fun e => lt_ne hl e.symm
      rw [hlow, bothD, if_pos hl]
      simp [firstD, yes, no, hne]
    · have hlow : lowD (p :: r) (q :: s) = q.1 := by simp [lowD, hl]
      rw [hlow, bothD, if_neg hl]
      by_cases he : p.1 = q.1
      · rw [if_pos he]; simp [firstD, yes, he]
      · rw [if_neg he]; simp [firstD, yes, no, he]

theorem first_one (A B : Pairs) (h : A ≠ [] ∨ B ≠ []) : (firstD A (lowD A B)).has = true ∨ (firstD B (lowD A B)).has = true := by
  match A, B, h with
  | [], [], h => simp at h
  | p :: r, [], _ => left; simp [firstD, lowD]
  | [], q :: s, _ => right; simp [firstD, lowD]
  | p :: r, q :: s, _ =>
    by_cases hl : lt p.1 q.1 = true
    · left; simp [firstD, lowD, hl]
    · right; simp [firstD, lowD, hl]
theorem first_has {A : Pairs} {k : ByteArray} (h : (firstD A k).has = true) : A ≠ [] := by
  intro e; subst e; cases h

def lenOf : Value → Nat
  | .slice _ n _ => n
  | _ => 0

/-- A part of a row that lies in W, out of the caller's reach. -/
structure Part (f : Nat → Prop) (W : World) (v : Value) (L : Pairs) : Prop where
  ex : ∃ p n c, v = .slice p n c ∧ L.length = n ∧ n ≤ c ∧ Sl W p L ∧ ∀ b o, p = some ⟨b, o, none⟩ → L ≠ [] → ¬ f b

theorem Part.sl {f fk : Nat → Prop} {W wr : World} {p : Option Addr} {L : Pairs} (h : Sl W p L) (hn : ∀ b o, p = some ⟨b, o, none⟩ → L ≠ [] → ¬ f b) (hs : Step f fk W wr) : Sl wr p L := fun j hj => by
  obtain ⟨b, o, rfl, c1, c2⟩ := h j hj
  have hb := hn b o rfl (by intro e; subst e; exact absurd hj (Nat.not_lt_zero _))
  have hbl := hs.block b (cell_lt c1) hb
  exact ⟨b, o, rfl, (World.cell?_of_block (a := ⟨b, _, none⟩) hbl).trans c1, (World.cell?_of_block (a := ⟨b, _, none⟩) hbl).trans c2⟩

theorem Part.next {f : Nat → Prop} {W : World} {b o n c : Nat} {L : Pairs} (h : Part f W (.slice (some ⟨b, o, none⟩) n c) L) (hL : L ≠ []) : Part f W (.slice (some ⟨b, o + 2, none⟩) (n - 1) (c - 1)) L.tail := by
  obtain ⟨p, n', c', he, hl, hc, hs, hf⟩ := h.ex
  obtain ⟨rfl, rfl, rfl⟩ : some ⟨b, o, none⟩ = p ∧ n = n' ∧ c = c' := by simpa using he
  match L, hL with
  | x :: L, _ =>
    refine ⟨_, _, _, rfl, ?_, by omega, hs.tail, fun b' o' he' hne => ?_⟩
    · simp at hl ⊢; omega
    · obtain ⟨rfl, rfl⟩ : b = b' ∧ o + 2 = o' := by simpa using he'
      exact hf b o rfl (by simp)

theorem Part.next0 {f : Nat → Prop} {W : World} {b o n c : Nat} {L : Pairs} (h : Part f W (.slice (some ⟨b, o, none⟩) n c) L) (hL : L ≠ []) (hc1 : c ≤ 1) : Part f W (.slice (some ⟨b, o, none⟩) (n - 1) 0) L.tail := by
  obtain ⟨p, n', c', he, hl, hc, hs, hf⟩ := h.ex
  obtain ⟨rfl, rfl, rfl⟩ : some ⟨b, o, none⟩ = p ∧ n = n' ∧ c = c' := by simpa using he
  match L, hL with
  | x :: L, _ =>
    have : L = [] := List.eq_nil_of_length_eq_zero (by simp at hl; omega)
    subst this
    exact ⟨_, _, _, rfl, by simp at hl ⊢; omega, by omega, Sl.nil _ _, fun _ _ _ hne => absurd rfl hne⟩

theorem Part.addr {f : Nat → Prop} {W : World} {v : Value} {L : Pairs} (h : Part f W v L) (hL : L ≠ []) : ∃ b o c, v = .slice (some ⟨b, o, none⟩) L.length c ∧ L.length ≤ c ∧ 0 < L.length := by
  obtain ⟨p, n, c, rfl, hl, hc, hs, hf⟩ := h.ex
  match L, hL with
  | x :: L, _ =>
    obtain ⟨b, o, rfl, _, _⟩ := hs 0 (by simp)
    exact ⟨b, o, c, by rw [hl], by omega, by simp⟩

/-- Where the iterator stands. -/
def BothAt {α : Type} (J : List (ChD × ChD) → (Nat → Prop) → World → Prop) (f : Nat → Prop) (W : World) (whole : List (ChD × ChD)) (_ : α) (va vb : Value) (wr : World) : Prop :=
  ∃ A' B' pre fk, Part f W va A' ∧ Part f W vb B' ∧ pre ++ bothD A' B' = whole ∧ J pre fk wr ∧ Step f fk W wr

theorem part_len {f : Nat → Prop} {W : World} {v : Value} {L : Pairs} (h : Part f W v L) : lenOf v = L.length := by
  obtain ⟨p, n, c, rfl, hl, hc, hs, hf⟩ := h.ex
  exact hl.symm

set_option maxRecDepth 100000 in
set_option maxHeartbeats 4000000 in
theorem both1_iter (n : Nat) (hW : Hid (∀ n f args w R, Calls Try.prog f args w R → CallsIn Fence.wide n Try.prog f args w R)) (hn : 2 ≤ n) (b1 b2 : Nat) (va vb : Value) (A B : Pairs)
    (hla : A.length ≤ 10000) (hlb : B.length ≤ 10000) :
    Iter Fence.wide n Try.prog 30 #[.pointer (some ⟨b1, 0, none⟩), .pointer (some ⟨b2, 0, none⟩)] (fun q : ChD × ChD => #[.agg (encC q.1).toArray, .agg (encC q.2).toArray]) (bothD A B)
      (fun f W => W.cell? ⟨b1, 0, none⟩ = some va ∧ W.cell? ⟨b2, 0, none⟩ = some vb ∧ Part f W va A ∧ Part f W vb B) := by
  intro l J Jx W f hJ hJx bJ hpre hY h0
  obtain ⟨hc1, hc2, hPA, hPB⟩ := hpre
  have h1n : 1 ≤ n := by omega
  have hmix : Try.prog.follows .mixedOrders = true := by kernel_rfl
  have H0 := Lib.hid (show ∃ A' B' pre fk, Part f W va A' ∧ Part f W vb B' ∧ A'.length ≤ 10000 ∧ B'.length ≤ 10000 ∧ pre ++ bothD A' B' = bothD A B ∧ J pre fk W.drew ∧ Step f fk W W.drew from
    ⟨A, B, [], f, hPA, hPB, hla, hlb, rfl, hJ _ _ _ _ h0 (Nat.le_refl _) (fun _ _ => rfl), (Step.refl _ _).drew⟩)
  have HJ := Lib.hid hJ
  have HY := Lib.hid hY
  have hva : ∃ p n c, va = .slice p n c := by obtain ⟨p, n, c, e, _⟩ := hPA.ex; exact ⟨p, n, c, e⟩
  have hvb : ∃ p n c, vb = .slice p n c := by obtain ⟨p, n, c, e, _⟩ := hPB.ex; exact ⟨p, n, c, e⟩
  obtain ⟨pa0, na0, ca0, rfl⟩ := hva
  obtain ⟨pb0, nb0, cb0, rfl⟩ := hvb
  clear hPA hPB hla hlb h0 hY hJ
  refine callsIn_of_wp Try.func30 rfl trivial ?_ rfl
  simp only [Try.ntmps30, List.size_toArray, List.length_cons, List.length_nil, Nat.reduceAdd, Nat.reduceSub, Array.replicate_succ, Array.replicate_zero, List.push_toArray, List.append_toArray, List.nil_append, List.cons_append]
  gi_wp2_with fail
  gi_quiet (fail)
  gi_wp2_with fail
  gi_loopw [4, 5] (fun va' vb' wr => ∃ A' B' pre fk, Part f W va' A' ∧ Part f W vb' B' ∧ A'.length ≤ 10000 ∧ B'.length ≤ 10000 ∧ Hid (pre ++ bothD A' B' = bothD A B) ∧ Hid (J pre fk wr) ∧ Hid (Step f fk W wr)) (fun va' vb' _ => lenOf va' + lenOf vb')
  case atStart =>
    obtain ⟨A', B', pre, fk, h1, h2, h3, h4, h5, h6, h7⟩ := H0.out
    exact ⟨A', B', pre, fk, h1, h2, h3, h4, h5, HJ.out _ _ _ _ h6 (Nat.le_refl _) (fun _ _ => rfl), h7.own rfl rfl rfl (Nat.le_refl _) (fun _ _ => rfl)⟩
  case round =>
    clear H0
    obtain ⟨A', B', pre, fk, hPA, hPB, hla, hlb, hwh, hJs, hst⟩ := hrel
    have HPA := Lib.hid hPA
    have HPB := Lib.hid hPB
    obtain ⟨pa, na, ca, rfl, hna, hca, hsA, hfA⟩ := hPA.ex
    obtain ⟨pb, nb, cb, rfl, hnb, hcb, hsB, hfB⟩ := hPB.ex
    clear hPA hPB
    by_cases hE : A' = [] ∧ B' = []
    · obtain ⟨rfl, rfl⟩ := hE
      obtain rfl : na = 0 := by simpa using hna.symm
      obtain rfl : nb = 0 := by simpa using hnb.symm
      clear hsA hsB hfA hfB hna hnb
      gi_wp2_with fail
      go_end0
      refine ⟨⟨_, rfl⟩, .inl ⟨fk, hst.out, ?_⟩⟩
      have h1 := hJs.out
      have h2 := hwh.out
      rw [bothD, List.map_nil, List.append_nil] at h2
      rw [← h2]; exact h1
    · have hne : A' ≠ [] ∨ B' ≠ [] := by
        by_cases h : A' = []
        · exact .inr (fun h2 => hE ⟨h, h2⟩)
        · exact .inl h
      clear hE
      have hSA := Part.sl hsA hfA hst.out
      have hSB := Part.sl hsB hfB hst.out
      have hna' : na ≤ 10000 := by omega
      have hnb' : nb ≤ 10000 := by omega
      have hpos : 0 < na ∨ 0 < nb := by
        rcases hne with h | h
        · left; rw [← hna]; exact List.length_pos_iff.2 h
        · right; rw [← hnb]; exact List.length_pos_iff.2 h
      have hnx := both_next A' B' hne
      have hon := first_one A' B' hne
      obtain ⟨κ, hκ⟩ : ∃ κ, lowD A' B' = κ := ⟨_, rfl⟩
      have HLow := Lib.hid (lowest_any pa pb ca cb na nb A' B' wr hSA hSB hna hnb hpos ⟨by omega, by omega⟩)
      rw [hκ] at hnx hon HLow
      obtain ⟨⟨kx, bx, vx⟩, hx⟩ : ∃ x, firstD A' κ = x := ⟨_, rfl⟩
      obtain ⟨⟨ky, by', vy⟩, hy⟩ : ∃ x, firstD B' κ = x := ⟨_, rfl⟩
      have HF1 : Hid (∀ W', Below wr.heap.size wr W' → Calls Try.prog 32 #[.slice pa na ca, .string κ] W' fun e w' => e = .returned (.agg #[.string kx, .bool bx, .string vx]) ∧ Below W'.heap.size W' w') := fun W' hb => by
        have := first_any pa ca na A' κ W' (hSA.grow hb) hna (by omega)
        rw [hx] at this; exact this
      have HF2 : Hid (∀ W', Below wr.heap.size wr W' → Calls Try.prog 32 #[.slice pb nb cb, .string κ] W' fun e w' => e = .returned (.agg #[.string ky, .bool by', .string vy]) ∧ Below W'.heap.size W' w') := fun W' hb => by
        have := first_any pb cb nb B' κ W' (hSB.grow hb) hnb (by omega)
        rw [hy] at this; exact this
      have hxA : bx = true → A' ≠ [] := fun h => first_has (k := κ) (by rw [hx]; exact h)
      have hyB : by' = true → B' ≠ [] := fun h => first_has (k := κ) (by rw [hy]; exact h)
      rw [hx, hy] at hnx hon
      have HNx := Lib.hid hnx
      have hon' : bx = true ∨ by' = true := hon
      have hposA : bx = true → 0 < na := fun h => by rw [← hna]; exact List.length_pos_iff.2 (hxA h)
      have hposB : by' = true → 0 < nb := fun h => by rw [← hnb]; exact List.length_pos_iff.2 (hyB h)
      clear hnx hon hx hy hκ hSA hSB hsA hsB hfA hfB hne
      cases bx with
      | true =>
        obtain ⟨b, o, ca', hva, hca', hpa⟩ := HPA.out.addr (hxA rfl)
        obtain ⟨rfl, hna2, rfl⟩ : pa = some ⟨b, o, none⟩ ∧ na = A'.length ∧ ca = ca' := by simpa using hva
        have hnapos : 0 < na := hposA rfl
        have hnapz : (0 : Int) < (na : Int) := by omega
        replace hxA := hxA rfl
        clear hva hna2 hca' hpa hposA hon'
        cases by' with
        | true =>
          obtain ⟨b', o', cb', hvb, hcb', hpb⟩ := HPB.out.addr (hyB rfl)
          obtain ⟨rfl, hnb2, rfl⟩ : pb = some ⟨b', o', none⟩ ∧ nb = B'.length ∧ cb = cb' := by simpa using hvb
          have hnbpos : 0 < nb := hposB rfl
          have hnbpz : (0 : Int) < (nb : Int) := by omega
          replace hyB := hyB rfl
          clear hvb hnb2 hcb' hpb hposB
          have hcut : bothD A B = pre ++ ((⟨kx, true, vx⟩ : ChD), (⟨ky, true, vy⟩ : ChD)) :: bothD A'.tail B'.tail := by rw [← hwh.out, HNx.out]; rfl
          gi_wp2_with fail
          refine ⟨trivial, (hW.out _ _ _ _ _ HLow.out).mono ?_⟩
          rintro e w' ⟨rfl, q1, rfl⟩
          have hb0 : Below wr.heap.size wr (wr.drewN q1) := ⟨rfl, rfl, rfl, Nat.le_refl _, fun _ _ => rfl⟩
          gi_wp2_with fail
          refine ⟨trivial, (hW.out _ _ _ _ _ (HF1.out _ hb0)).mono ?_⟩
          rintro e w1 ⟨rfl, hb1⟩
          have hb1' : Below wr.heap.size wr w1 := hb0.trans hb1
          gi_wp2_with fail
          refine ⟨trivial, (hW.out _ _ _ _ _ (HF2.out _ hb1')).mono ?_⟩
          rintro e w2 ⟨rfl, hb2⟩
          have hb3 : Below wr.heap.size wr ((w2.alloc (.cells #[.string kx, .bool true, .string vx] 38)).alloc (.cells #[.string ky, .bool true, .string vy] 38)) := by
            have hb2' : Below wr.heap.size wr w2 := hb1'.trans (hb2.mono hb1'.size)
            exact (hb2'.alloc hb2'.size _).alloc (by have := hb2'.size; simp; omega) _
          have hJ3 := HJ.out _ _ _ _ hJs.out hb3.size (fun k hk => hb3.block k (bJ _ _ _ hJs.out k hk))
          have HST := Lib.hid (hst.out.trans (Step.of_below (f := fk) hb3))
          obtain ⟨fn, tmps, assign, body, hy, hRd⟩ := (show YieldAt Fence.wide (n - 1) Try.prog l #[.agg #[.string kx, .bool true, .string vx], .agg #[.string ky, .bool true, .string vy]] _ _ from HY.out pre _ _ fk _ hcut hJ3)
          have HCut := Lib.hid hcut
          clear hb0 hb1 hb1' hb2 hb3 hJ3 hcut HF1 HF2 HLow HNx hwh hst hJs
          gi_wp2_with fail
          all_goals (
            refine hRd.mono ?_
            rintro e W3 (⟨rfl, f3, hs3, hJ3⟩ | ⟨rfl, f3, hs3, hJx3⟩)
            · have HJ3 := Lib.hid hJ3
              have HS3 := Lib.hid hs3
              clear hJ3 hs3
              gi_wp2_with fail
              go_roundw
              case rel => exact ⟨A'.tail, B'.tail, _, f3, (by first | exact HPA.out.next hxA | exact HPA.out.next0 hxA (by omega)), (by first | exact HPB.out.next hyB | exact HPB.out.next0 hyB (by omega)), by simp; omega, by simp; omega, by show _ = _; rw [HCut.out, List.append_assoc]; rfl, HJ3, HST.out.trans HS3.out⟩
              case measure => simp [lenOf]; omega
            · have HJ3 := Lib.hid hJx3
              have HS3 := Lib.hid hs3
              clear hJx3 hs3
              gi_wp2_with fail
              refine bodyPost_ret (results_none rfl _ _ _) rfl ?_
              refine ⟨⟨_, rfl⟩, .inr ⟨_, f3, ?_, HST.out.trans HS3.out, HJ3.out⟩⟩
              rw [HCut.out]
              exact ⟨bothD A'.tail B'.tail, by simp⟩)
        | false =>
          clear hyB hposB
          have hcut : bothD A B = pre ++ ((⟨kx, true, vx⟩ : ChD), (⟨ky, false, vy⟩ : ChD)) :: bothD A'.tail B' := by rw [← hwh.out, HNx.out]; rfl
          gi_wp2_with fail
          refine ⟨trivial, (hW.out _ _ _ _ _ HLow.out).mono ?_⟩
          rintro e w' ⟨rfl, q1, rfl⟩
          have hb0 : Below wr.heap.size wr (wr.drewN q1) := ⟨rfl, rfl, rfl, Nat.le_refl _, fun _ _ => rfl⟩
          gi_wp2_with fail
          refine ⟨trivial, (hW.out _ _ _ _ _ (HF1.out _ hb0)).mono ?_⟩
          rintro e w1 ⟨rfl, hb1⟩
          have hb1' : Below wr.heap.size wr w1 := hb0.trans hb1
          gi_wp2_with fail
          refine ⟨trivial, (hW.out _ _ _ _ _ (HF2.out _ hb1')).mono ?_⟩
          rintro e w2 ⟨rfl, hb2⟩
          have hb3 : Below wr.heap.size wr ((w2.alloc (.cells #[.string kx, .bool true, .string vx] 38)).alloc (.cells #[.string ky, .bool false, .string vy] 38)) := by
            have hb2' : Below wr.heap.size wr w2 := hb1'.trans (hb2.mono hb1'.size)
            exact (hb2'.alloc hb2'.size _).alloc (by have := hb2'.size; simp; omega) _
          have hJ3 := HJ.out _ _ _ _ hJs.out hb3.size (fun k hk => hb3.block k (bJ _ _ _ hJs.out k hk))
          have HST := Lib.hid (hst.out.trans (Step.of_below (f := fk) hb3))
          obtain ⟨fn, tmps, assign, body, hy, hRd⟩ := (show YieldAt Fence.wide (n - 1) Try.prog l #[.agg #[.string kx, .bool true, .string vx], .agg #[.string ky, .bool false, .string vy]] _ _ from HY.out pre _ _ fk _ hcut hJ3)
          have HCut := Lib.hid hcut
          clear hb0 hb1 hb1' hb2 hb3 hJ3 hcut HF1 HF2 HLow HNx hwh hst hJs
          gi_wp2_with fail
          all_goals (
            refine hRd.mono ?_
            rintro e W3 (⟨rfl, f3, hs3, hJ3⟩ | ⟨rfl, f3, hs3, hJx3⟩)
            · have HJ3 := Lib.hid hJ3
              have HS3 := Lib.hid hs3
              clear hJ3 hs3
              gi_wp2_with fail
              go_roundw
              case rel => exact ⟨A'.tail, B', _, f3, (by first | exact HPA.out.next hxA | exact HPA.out.next0 hxA (by omega)), HPB.out, by simp; omega, by exact hlb, by show _ = _; rw [HCut.out, List.append_assoc]; rfl, HJ3, HST.out.trans HS3.out⟩
              case measure => simp [lenOf]; omega
            · have HJ3 := Lib.hid hJx3
              have HS3 := Lib.hid hs3
              clear hJx3 hs3
              gi_wp2_with fail
              refine bodyPost_ret (results_none rfl _ _ _) rfl ?_
              refine ⟨⟨_, rfl⟩, .inr ⟨_, f3, ?_, HST.out.trans HS3.out, HJ3.out⟩⟩
              rw [HCut.out]
              exact ⟨bothD A'.tail B', by simp⟩)
      | false =>
        obtain rfl : by' = true := by rcases hon' with h | h; · cases h
                                      · exact h
        obtain ⟨b', o', cb', hvb, hcb', hpb⟩ := HPB.out.addr (hyB rfl)
        obtain ⟨rfl, hnb2, rfl⟩ : pb = some ⟨b', o', none⟩ ∧ nb = B'.length ∧ cb = cb' := by simpa using hvb
        have hnbpos : 0 < nb := hposB rfl
        have hnbpz : (0 : Int) < (nb : Int) := by omega
        replace hyB := hyB rfl
        clear hvb hnb2 hcb' hpb hxA hposA hposB hon'
        by_cases hz : 0 < na
        · have hnapz : (0 : Int) < (na : Int) := by omega
          have hcut : bothD A B = pre ++ ((⟨kx, false, vx⟩ : ChD), (⟨ky, true, vy⟩ : ChD)) :: bothD A' B'.tail := by rw [← hwh.out, HNx.out]; rfl
          gi_wp2_with fail
          refine ⟨trivial, (hW.out _ _ _ _ _ HLow.out).mono ?_⟩
          rintro e w' ⟨rfl, q1, rfl⟩
          have hb0 : Below wr.heap.size wr (wr.drewN q1) := ⟨rfl, rfl, rfl, Nat.le_refl _, fun _ _ => rfl⟩
          gi_wp2_with fail
          refine ⟨trivial, (hW.out _ _ _ _ _ (HF1.out _ hb0)).mono ?_⟩
          rintro e w1 ⟨rfl, hb1⟩
          have hb1' : Below wr.heap.size wr w1 := hb0.trans hb1
          gi_wp2_with fail
          refine ⟨trivial, (hW.out _ _ _ _ _ (HF2.out _ hb1')).mono ?_⟩
          rintro e w2 ⟨rfl, hb2⟩
          have hb3 : Below wr.heap.size wr ((w2.alloc (.cells #[.string kx, .bool false, .string vx] 38)).alloc (.cells #[.string ky, .bool true, .string vy] 38)) := by
            have hb2' : Below wr.heap.size wr w2 := hb1'.trans (hb2.mono hb1'.size)
            exact (hb2'.alloc hb2'.size _).alloc (by have := hb2'.size; simp; omega) _
          have hJ3 := HJ.out _ _ _ _ hJs.out hb3.size (fun k hk => hb3.block k (bJ _ _ _ hJs.out k hk))
          have HST := Lib.hid (hst.out.trans (Step.of_below (f := fk) hb3))
          obtain ⟨fn, tmps, assign, body, hy, hRd⟩ := (show YieldAt Fence.wide (n - 1) Try.prog l #[.agg #[.string kx, .bool false, .string vx], .agg #[.string ky, .bool true, .string vy]] _ _ from HY.out pre _ _ fk _ hcut hJ3)
          have HCut := Lib.hid hcut
          clear hb0 hb1 hb1' hb2 hb3 hJ3 hcut HF1 HF2 HLow HNx hwh hst hJs
          gi_wp2_with fail
          all_goals (
            refine hRd.mono ?_
            rintro e W3 (⟨rfl, f3, hs3, hJ3⟩ | ⟨rfl, f3, hs3, hJx3⟩)
            · have HJ3 := Lib.hid hJ3
              have HS3 := Lib.hid hs3
              clear hJ3 hs3
              gi_wp2_with fail
              go_roundw
              case rel => exact ⟨A', B'.tail, _, f3, HPA.out, (by first | exact HPB.out.next hyB | exact HPB.out.next0 hyB (by omega)), by exact hla, by simp; omega, by show _ = _; rw [HCut.out, List.append_assoc]; rfl, HJ3, HST.out.trans HS3.out⟩
              case measure => simp [lenOf]; omega
            · have HJ3 := Lib.hid hJx3
              have HS3 := Lib.hid hs3
              clear hJx3 hs3
              gi_wp2_with fail
              refine bodyPost_ret (results_none rfl _ _ _) rfl ?_
              refine ⟨⟨_, rfl⟩, .inr ⟨_, f3, ?_, HST.out.trans HS3.out, HJ3.out⟩⟩
              rw [HCut.out]
              exact ⟨bothD A' B'.tail, by simp⟩)
        · obtain rfl : na = 0 := by omega
          have hcut : bothD A B = pre ++ ((⟨kx, false, vx⟩ : ChD), (⟨ky, true, vy⟩ : ChD)) :: bothD A' B'.tail := by rw [← hwh.out, HNx.out]; rfl
          gi_wp2_with fail
          refine ⟨trivial, (hW.out _ _ _ _ _ HLow.out).mono ?_⟩
          rintro e w' ⟨rfl, q1, rfl⟩
          have hb0 : Below wr.heap.size wr (wr.drewN q1) := ⟨rfl, rfl, rfl, Nat.le_refl _, fun _ _ => rfl⟩
          gi_wp2_with fail
          refine ⟨trivial, (hW.out _ _ _ _ _ (HF1.out _ hb0)).mono ?_⟩
          rintro e w1 ⟨rfl, hb1⟩
          have hb1' : Below wr.heap.size wr w1 := hb0.trans hb1
          gi_wp2_with fail
          refine ⟨trivial, (hW.out _ _ _ _ _ (HF2.out _ hb1')).mono ?_⟩
          rintro e w2 ⟨rfl, hb2⟩
          have hb3 : Below wr.heap.size wr ((w2.alloc (.cells #[.string kx, .bool false, .string vx] 38)).alloc (.cells #[.string ky, .bool true, .string vy] 38)) := by
            have hb2' : Below wr.heap.size wr w2 := hb1'.trans (hb2.mono hb1'.size)
            exact (hb2'.alloc hb2'.size _).alloc (by have := hb2'.size; simp; omega) _
          have hJ3 := HJ.out _ _ _ _ hJs.out hb3.size (fun k hk => hb3.block k (bJ _ _ _ hJs.out k hk))
          have HST := Lib.hid (hst.out.trans (Step.of_below (f := fk) hb3))
          obtain ⟨fn, tmps, assign, body, hy, hRd⟩ := (show YieldAt Fence.wide (n - 1) Try.prog l #[.agg #[.string kx, .bool false, .string vx], .agg #[.string ky, .bool true, .string vy]] _ _ from HY.out pre _ _ fk _ hcut hJ3)
          have HCut := Lib.hid hcut
          clear hb0 hb1 hb1' hb2 hb3 hJ3 hcut HF1 HF2 HLow HNx hwh hst hJs
          gi_wp2_with fail
          all_goals (
            refine hRd.mono ?_
            rintro e W3 (⟨rfl, f3, hs3, hJ3⟩ | ⟨rfl, f3, hs3, hJx3⟩)
            · have HJ3 := Lib.hid hJ3
              have HS3 := Lib.hid hs3
              clear hJ3 hs3
              gi_wp2_with fail
              go_roundw
              case rel => exact ⟨A', B'.tail, _, f3, HPA.out, (by first | exact HPB.out.next hyB | exact HPB.out.next0 hyB (by omega)), by exact hla, by simp; omega, by show _ = _; rw [HCut.out, List.append_assoc]; rfl, HJ3, HST.out.trans HS3.out⟩
              case measure => simp [lenOf]; omega
            · have HJ3 := Lib.hid hJx3
              have HS3 := Lib.hid hs3
              clear hJx3 hs3
              gi_wp2_with fail
              refine bodyPost_ret (results_none rfl _ _ _) rfl ?_
              refine ⟨⟨_, rfl⟩, .inr ⟨_, f3, ?_, HST.out.trans HS3.out, HJ3.out⟩⟩
              rw [HCut.out]
              exact ⟨bothD A' B'.tail, by simp⟩)

end Go.Proofs.Ytbddicaabjlbjaa
