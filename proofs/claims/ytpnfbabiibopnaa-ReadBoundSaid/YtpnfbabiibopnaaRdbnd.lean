/-
  A read during which newer versions of its key come: how many acts are left at the most. Plain.
-/
import Derived.Test.YtpnfbabiibopnaaQ13
namespace Go.Proofs.Ytpnfbabiibopnaa
open Go Go.RowKit

section
variable {D : HpD} {b : Nat} {c : Int}
theorem look_load (hc : 0 ≤ c) (hs : spot D.L b c = 0) : doW D (loadC b c) = wordAt D.L b c ∧ doT D (loadC b c) = ⟨#[]⟩ ∧ doN D (loadC b c) = D ∧ readyA D (loadC b c) = true := by
  have hA := loadC_right (b := b) hc
  refine ⟨?_, ?_, ?_, by unfold readyA; rw [hA]; rfl⟩
  · unfold doW; rw [hA, if_pos rfl]
    show loadV D b c = _
    unfold loadV; rw [if_pos hs]
  · unfold doT; rw [hA, if_pos rfl]; rfl
  · unfold doN; rw [hA, if_pos rfl]
    show loadD D b c = _
    unfold loadD; rw [if_pos hs]
theorem look_text (ht : there D.L b = 0) : doW D (textC b) = 0 ∧ doT D (textC b) = textAt D.L b ∧ doN D (textC b) = D ∧ readyA D (textC b) = true := by
  have hA := textC_right b
  refine ⟨by unfold doW; rw [hA, if_pos rfl]; rfl, ?_, ?_, by unfold readyA; rw [hA]; rfl⟩
  · unfold doT; rw [hA, if_pos rfl]; rfl
  · unfold doN; rw [hA, if_pos rfl]
    show wordsD D b = _
    unfold wordsD; rw [if_pos ht]
end

/-- The heap, e newer versions behind the first one; the epoch is e. -/
structure Bnd (a p s q v x : Int) (key : ByteArray) (e : Nat) (D : HpD) (G : Nat → Int) (K : Shelves) (V : Int → Nat → VsnD) (N : Int → Nat) : Prop where
  laid : Laid a p s q v x D G K V N
  g0 : G 0 = (e : Int)
  kk : K ((newF a p s q v x key).way 0) = some key.toList
  n : N ((newF a p s q v x key).way 0) = e + 1
  ep : ∀ j, j ≤ e → (V ((newF a p s q v x key).way 0) j).ep = (j : Int)
  lt : (e : Int) < 1000000
structure CfgR (a p s q v x : Int) (R : RdD) : Prop where
  a : R.a = a
  p : R.p = p
  s : R.s = s
  q : R.q = q
  v : R.v = v
  x : R.x = x
  code : R.code = 0
/-- Where a read of the key stands, and how many acts are left at the most; c: the cell of its pin; h: of the shelf's head. -/
inductive RdS (a p s q v x th : Int) (d : FindR) (c : Nat) (h : Int) (e : Nat) (G : Nat → Int) (V0 : Nat → VsnD) (R : RdD) (f : Nat) : Prop
  | s1 (hR : CfgR a p s q v x R) (hp : R.part = 1) (hn : R.pin = newP a p s q v x th) (hG : G c = 0) (hf : R.fnd = lookN d 0) (e1 : f = 10)
  | s2 (hR : CfgR a p s q v x R) (hp : R.part = 1) (e0 : Nat) (he : e0 ≤ e) (hn : R.pin = tryP a p s q v x th e0 0) (hG : G c = 0) (hf : R.fnd = lookN d 0) (e1 : f = 9 + 2 * (e - e0))
  | s3 (hR : CfgR a p s q v x R) (hp : R.part = 1) (e0 : Nat) (he : e0 ≤ e) (hn : R.pin = (tryP a p s q v x th e0 0).to 3) (hf : R.fnd = lookN d 0) (e1 : f = 8 + 2 * (e - e0))
  | s4 (hR : CfgR a p s q v x R) (hp : R.part = 1) (e0 : Nat) (he : e0 ≤ e) (hn : R.pin = (tryP a p s q v x th e0 0).to 4) (hf : R.fnd = lookN d 0) (e1 : f = 9 + 2 * (e - e0))
  | s5 (hR : CfgR a p s q v x R) (hp : R.part = 2) (P : Nat) (he : P ≤ e) (hn : R.pin = gotP a p s q v x th P 0) (hf : R.fnd = lookN d 0) (e1 : f = 7 + 2 * (e - P))
  | s6 (hR : CfgR a p s q v x R) (hp : R.part = 2) (P : Nat) (he : P ≤ e) (hn : R.pin = gotP a p s q v x th P 0) (k : Nat) (hf : R.fnd = d.to ((0 : Nat) : Int) (wordsF k) 0 0) (hk : G (keyW a p s q v (d.way 0)).toNat = (k : Int)) (e1 : f = 6 + 2 * (e - P))
  | s7 (hR : CfgR a p s q v x R) (hp : R.part = 3) (P : Nat) (he : P ≤ e) (hn : R.pin = gotP a p s q v x th P 0) (hc : R.chn = newC h P) (e1 : f = 5 + 2 * (e - P))
  | s8 (hR : CfgR a p s q v x R) (hp : R.part = 3) (P j : Nat) (pa : Int) (he : P ≤ j) (hj : j ≤ e) (hn : R.pin = gotP a p s q v x th P 0) (hc : R.chn = ⟨h, P, 2, pa, false, ⟨#[]⟩, (V0 j).block⟩) (e1 : f = 4 + 2 * (j - P))
  | s9 (hR : CfgR a p s q v x R) (hp : R.part = 3) (P j : Nat) (pa : Int) (he : P < j) (hj : j ≤ e) (hn : R.pin = gotP a p s q v x th P 0) (hc : R.chn = ⟨h, P, 3, pa, false, ⟨#[]⟩, (V0 j).block⟩) (e1 : f = 3 + 2 * (j - P))
  | s10 (hR : CfgR a p s q v x R) (hp : R.part = 3) (P : Nat) (pa : Int) (hj : P ≤ e) (hn : R.pin = gotP a p s q v x th P 0) (hc : R.chn = ⟨h, P, 4, pa, false, ⟨#[]⟩, (V0 P).block⟩) (e1 : f = 3)
  | s11 (hR : CfgR a p s q v x R) (hp : R.part = 3) (P : Nat) (pa : Int) (hj : P ≤ e) (hn : R.pin = gotP a p s q v x th P 0) (hc : R.chn = ⟨h, P, 5, pa, true, ⟨#[]⟩, (V0 P).block⟩) (e1 : f = 2)
  | s12 (hR : CfgR a p s q v x R) (hp : R.part = 4) (P : Nat) (hn : R.pin = gotP a p s q v x th P 0) (e1 : f = 1)
  | s13 (hR : CfgR a p s q v x R) (hp : R.part = 5) (e1 : f = 0)

theorem pinnedR_go (R : RdD) {P : PinD} (h : P.part ≠ 5) : pinnedR R P = ⟨R.a, R.p, R.s, R.q, R.v, R.x, R.part, P, R.fnd, R.chn, R.code, R.took, R.val, wrap64 (R.mark + 1)⟩ := if_neg h
theorem pinnedR_got (R : RdD) {P : PinD} (h : P.part = 5) (ht : P.taken = false) : pinnedR R P = ⟨R.a, R.p, R.s, R.q, R.v, R.x, 2, P, R.fnd, R.chn, R.code, R.took, R.val, wrap64 (R.mark + 1)⟩ := by
  unfold pinnedR; rw [if_pos h, if_neg (by rw [ht]; decide)]
theorem foundR_go (R : RdD) {F : FindR} (h : F.k = 0) : foundR R F = ⟨R.a, R.p, R.s, R.q, R.v, R.x, R.part, R.pin, F, R.chn, R.code, R.took, R.val, R.mark⟩ := if_pos h
theorem foundR_here (R : RdD) {F : FindR} (h : F.k = 1) : foundR R F = ⟨R.a, R.p, R.s, R.q, R.v, R.x, 3, R.pin, F, newC (headW R.a R.p R.s R.q R.v F.sh) R.pin.ep, R.code, R.took, R.val, R.mark⟩ := by
  unfold foundR; rw [if_neg (by rw [h]; decide), if_pos h]
theorem chainedR_go (R : RdD) {C : ChnD} (h : C.asks ≠ 6) : chainedR R C = ⟨R.a, R.p, R.s, R.q, R.v, R.x, R.part, R.pin, R.fnd, C, R.code, R.took, R.val, R.mark⟩ := if_neg h
theorem chainedR_end (R : RdD) {C : ChnD} (h : C.asks = 6) : chainedR R C = ⟨R.a, R.p, R.s, R.q, R.v, R.x, 4, R.pin, R.fnd, C, R.code, C.has, C.text, R.mark⟩ := if_pos h
/-- The version j lies in a chain of n of which it is one. -/
theorem Down.at {D : HpD} {V : Nat → VsnD} : ∀ {n b j : Nat}, Down D V n b → j < n → ∃ nx : Nat, 2 ≤ (V j).block ∧ liveAt D.L (V j).block = some (blkV [(V j).ep, (nx : Int), wordV (V j).has] (V j).text) ∧ Down D V j nx
  | 0, _, _, _, h => absurd h (Nat.not_lt_zero _)
  | n + 1, b, j, ⟨h1, h2, h3, nx, h4, h5⟩, hj => by
    rcases Nat.eq_or_lt_of_le (Nat.le_of_lt_succ hj) with e | e
    · subst e; subst h1; exact ⟨nx, h2, h4, h5⟩
    · exact h5.at e
theorem Down.head {D : HpD} {V : Nat → VsnD} {n b : Nat} (h : Down D V (n + 1) b) : b = (V n).block ∧ 2 ≤ b := ⟨h.1, h.2.1⟩

section
variable {a p s q v x th : Int} {key : ByteArray} {e : Nat} {D : HpD} {G : Nat → Int} {K : Shelves} {V : Int → Nat → VsnD} {N : Int → Nat} {R : RdD} {f : Nat} {d : FindR} {c : Nat} {h : Int}
/-- Another act. -/
theorem bnd_step (hB : Bnd a p s q v x key e D G K V N) (hd : newF a p s q v x key = d) (hc : (3 + wayP th p 0).toNat = c) (hh : headW a p s q v (d.way 0) = h) (hS : RdS a p s q v x th d c h e G (V (d.way 0)) R f) :
    (R.part = 5 ∧ f = 0) ∨ ∃ y G' f', RdM.next R = some y ∧ y.kind ≠ 8 ∧ readyA D y = true ∧ Bnd a p s q v x key e (doN D y) G' K V N ∧ RdS a p s q v x th d c h e G' (V (d.way 0)) (RdM.take R (doW D y) (doT D y)) f' ∧ f' + 1 ≤ f ∧ (doN D y).L.length = D.L.length := by
  have hr := hB.laid.rc
  obtain ⟨⟨a1, a32⟩, ⟨p1, p8⟩, s1, s64⟩ := rightC_bd hr
  have hsz := sizeW_at hr
  obtain ⟨w0, w1⟩ := wayP_in th p p1 0
  have hcn : c < (sizeW a p s q v).toNat := by omega
  have hcp : (c : Int) < 3 + p := by omega
  have hcell : pinW a p s q v (wayP th p 0) = (c : Int) := by rw [pinW_in hr w0 w1]; omega
  have hC := hB.laid.ctl
  have hds : d.s = s := by rw [← hd]; rfl
  have hdk : d.key = key := by rw [← hd]; rfl
  have hdc : d.a = a ∧ d.p = p ∧ d.q = q ∧ d.v = v := by rw [← hd]; exact ⟨rfl, rfl, rfl, rfl⟩
  obtain ⟨da, dp, dq, dv⟩ := hdc
  obtain ⟨y0, y1⟩ := way_in d (i := 0) (by omega)
  have hkey := hB.kk
  have hN := hB.n
  have hep := hB.ep
  rw [hd] at hkey hN hep
  obtain ⟨sh, hsh⟩ : ∃ sh, d.way 0 = sh := ⟨_, rfl⟩
  have hlt := hB.lt
  have l0 := hC.loads (c := 0) (by omega)
  have l0s := hC.loads_same (c := 0) (by omega)
  rw [hB.g0] at l0
  -- a store into the pin's cell
  have hput : ∀ u : Int, (0 ≤ u ∧ u < 18446744073709551616) → ∀ y : ActD, (∃ w, DoesC (sizeW a p s q v).toNat D y w (upd G c u)) → Oth D (doN D y) → Bnd a p s q v x key e (doN D y) (upd G c u) K V N := fun u hu y hD hO => by
    obtain ⟨w, hD⟩ := hD
    exact ⟨hB.laid.touch hD.ctl (fun i hi => upd_other (by omega)) hO.2, by rw [upd_other (by omega)]; exact hB.g0, hB.kk, hB.n, hB.ep, hB.lt⟩
  cases hS with
  | s1 hR hp hn hG hf e1 =>
    refine .inr ⟨actL 1 ((0 : Nat) : Int), G, 9 + 2 * (e - e), ?_, by show (1 : Int) ≠ 8; decide, l0.ready, by rw [l0s]; exact hB, ?_, by omega, l0.len⟩
    · rw [RdM_next, nextR_1 hp, hn]; rfl
    · rw [l0.word, l0.text, RdM_take, takeR_1 hp, hn, takeP_1 rfl]
      have eT : (newP a p s q v x th).at 2 (e : Int) = tryP a p s q v x th e 0 := by
        show (⟨a, p, s, q, v, x, 2, 0, th % p, (e : Int), false⟩ : PinD) = ⟨a, p, s, q, v, x, 2, 0, wayP th p 0, (e : Int), false⟩
        rw [wayP_zero th p p1]
      rw [eT, pinnedR_go R (by show (2 : Nat) ≠ 5; decide)]
      exact .s2 ⟨hR.a, hR.p, hR.s, hR.q, hR.v, hR.x, hR.code⟩ hp e (Nat.le_refl _) rfl hG hf rfl
  | s2 hR hp e0 he hn hG hf e1 =>
    have d2 := hC.swaps hcn (upE_in (e0 : Int)) 0
    rw [if_pos hG, hG] at d2
    have e2 : doN D (actW3 1 (c : Int) 0 (upE e0)) = D.word 1 (c : Int) (upE e0) := by
      unfold doN; rw [actW3_right (b := 1) (c := (c : Int)) (o := 0) (u := upE e0) (by omega), if_pos rfl]
      show swapD D 1 c 0 (upE e0) = _
      unfold swapD; rw [if_pos (hC.spot hcn), hC.word hcn, if_pos hG]
    refine .inr ⟨actW3 1 (c : Int) 0 (upE e0), upd G c (upE e0), 8 + 2 * (e - e0), ?_, by show (3 : Int) ≠ 8; decide, d2.ready, hput _ (upE_in _) _ ⟨_, d2⟩ (by rw [e2]; exact hC.word_oth _ _), ?_, by omega, d2.len⟩
    · rw [RdM_next, nextR_1 hp, hn]
      show some (swapE (pinW a p s q v (wayP th p 0)) e0) = _
      rw [hcell]; rfl
    · rw [d2.word, d2.text, RdM_take, takeR_1 hp, hn, takeP_2 rfl, if_pos rfl, pinnedR_go R (by show (3 : Nat) ≠ 5; decide)]
      exact .s3 ⟨hR.a, hR.p, hR.s, hR.q, hR.v, hR.x, hR.code⟩ hp e0 he rfl hf rfl
  | s3 hR hp e0 he hn hf e1 =>
    rcases Nat.eq_or_lt_of_le he with ee | ee
    · subst ee
      refine .inr ⟨actL 1 ((0 : Nat) : Int), G, 7 + 2 * (e0 - e0), ?_, by show (1 : Int) ≠ 8; decide, l0.ready, by rw [l0s]; exact hB, ?_, by omega, l0.len⟩
      · rw [RdM_next, nextR_1 hp, hn]; rfl
      · rw [l0.word, l0.text, RdM_take, takeR_1 hp, hn, takeP_3 rfl, if_pos (show (e0 : Int) = ((tryP a p s q v x th e0 0).to 3).ep from rfl), pinnedR_got R (by rfl) (by rfl)]
        exact .s5 ⟨hR.a, hR.p, hR.s, hR.q, hR.v, hR.x, hR.code⟩ rfl e0 (Nat.le_refl _) rfl hf rfl
    · refine .inr ⟨actL 1 ((0 : Nat) : Int), G, 9 + 2 * (e - e), ?_, by show (1 : Int) ≠ 8; decide, l0.ready, by rw [l0s]; exact hB, ?_, by omega, l0.len⟩
      · rw [RdM_next, nextR_1 hp, hn]; rfl
      · rw [l0.word, l0.text, RdM_take, takeR_1 hp, hn, takeP_3 rfl, if_neg (show ¬ (e : Int) = ((tryP a p s q v x th e0 0).to 3).ep from fun hx => by have : (e : Int) = (e0 : Int) := hx; omega), pinnedR_go R (by show (4 : Nat) ≠ 5; decide)]
        exact .s4 ⟨hR.a, hR.p, hR.s, hR.q, hR.v, hR.x, hR.code⟩ hp e (Nat.le_refl _) rfl hf rfl
  | s4 hR hp e0 he hn hf e1 =>
    have d2 := hC.stores hcn (upE_in (e0 : Int))
    have e2 : doN D (actS 1 (c : Int) (upE e0)) = D.word 1 (c : Int) (upE e0) := by
      unfold doN; rw [actS_right (b := 1) (c := (c : Int)) (u := upE e0) (by omega), if_pos rfl]
      show storeD D 1 c (upE e0) = _
      unfold storeD; rw [if_pos (hC.spot hcn)]
    refine .inr ⟨actS 1 (c : Int) (upE e0), upd G c (upE e0), 8 + 2 * (e - e0), ?_, by show (2 : Int) ≠ 8; decide, d2.ready, hput _ (upE_in _) _ ⟨_, d2⟩ (by rw [e2]; exact hC.word_oth _ _), ?_, by omega, d2.len⟩
    · rw [RdM_next, nextR_1 hp, hn]
      show some (storeE (pinW a p s q v (wayP th p 0)) e0) = _
      rw [hcell]; rfl
    · rw [d2.word, d2.text, RdM_take, takeR_1 hp, hn, takeP_4 rfl, pinnedR_go R (by show (3 : Nat) ≠ 5; decide)]
      exact .s3 ⟨hR.a, hR.p, hR.s, hR.q, hR.v, hR.x, hR.code⟩ hp e0 he rfl hf rfl
  | s5 hR hp P he hn hf e1 =>
    have hkw := keyW_at hr y0 (by omega : d.way 0 < s)
    obtain ⟨k, k2, kg, ws, u, kl, ku⟩ := hB.laid.keys (d.way 0) y0 (by omega) _ hkey
    have hl := hC.loads (c := (keyW a p s q v (d.way 0)).toNat) (by omega)
    have hls := hC.loads_same (c := (keyW a p s q v (d.way 0)).toNat) (by omega)
    rw [kg] at hl
    have hkc : (((keyW a p s q v (d.way 0)).toNat : Nat) : Int) = keyW a p s q v (d.way 0) := by omega
    have ek : loadF d 0 = actL 1 (((keyW a p s q v (d.way 0)).toNat : Nat) : Int) := by
      rw [hkc]; unfold loadF; rw [da, dp, hds, dq, dv]; rfl
    have eN : lookN d 0 = d.to ((0 : Nat) : Int) (loadF d 0) 0 0 := by unfold lookN; rw [if_pos (by omega)]
    refine .inr ⟨actL 1 (((keyW a p s q v (d.way 0)).toNat : Nat) : Int), G, 6 + 2 * (e - P), ?_, by show (1 : Int) ≠ 8; decide, hl.ready, by rw [hls]; exact hB, ?_, by omega, hl.len⟩
    · rw [RdM_next, nextR_2 hp, hf, eN, ← ek]; rfl
    · rw [hl.word, hl.text, RdM_take, takeR_2 hp, hf, eN]
      have eT : takeF (d.to ((0 : Nat) : Int) (loadF d 0) 0 0) (k : Int) ⟨#[]⟩ = d.to ((0 : Nat) : Int) (wordsF k) 0 0 := by
        show lookY d ((k : Int)).toNat ⟨#[]⟩ ((0 : Nat) : Int).toNat (loadF d 0) = _
        unfold lookY
        rw [Int.toNat_natCast, Int.toNat_natCast, if_pos (by omega), if_neg (by show ¬ (1 : Int) = 0; decide), if_pos (by rfl), if_neg (by omega)]
      rw [eT, foundR_go R (by rfl)]
      exact .s6 ⟨hR.a, hR.p, hR.s, hR.q, hR.v, hR.x, hR.code⟩ hp P he hn k rfl kg rfl
  | s6 hR hp P he hn k hf hk e1 =>
    obtain ⟨k', k2, kg, ws, u, kl, ku⟩ := hB.laid.keys (d.way 0) y0 (by omega) _ hkey
    have hkk : k' = k := by rw [hk] at kg; omega
    subst hkk
    obtain ⟨t1, t2, t3, t4⟩ := look_text (D := D) (there_hit kl)
    rw [textAt_hit kl] at t2
    refine .inr ⟨textC k', G, 5 + 2 * (e - P), ?_, by show (6 : Int) ≠ 8; decide, t4, by rw [t3]; exact hB, ?_, by omega, by rw [t3]⟩
    · rw [RdM_next, nextR_2 hp, hf]; rfl
    · rw [t1, t2, RdM_take, takeR_2 hp, hf]
      have eT : takeF (d.to ((0 : Nat) : Int) (wordsF k') 0 0) 0 u = d.to ((0 : Nat) : Int) noAct 1 (d.way 0) := by
        show lookY d (0 : Int).toNat u ((0 : Nat) : Int).toNat (wordsF k') = _
        unfold lookY
        rw [Int.toNat_natCast, if_pos (by omega), if_neg (by show ¬ (6 : Int) = 0; decide), if_neg (by show ¬ (6 : Int) = 1; decide), if_pos (by rw [ku, hdk])]
      rw [eT, foundR_here R (by rfl)]
      refine .s7 ⟨hR.a, hR.p, hR.s, hR.q, hR.v, hR.x, hR.code⟩ rfl P he hn ?_ rfl
      show newC (headW R.a R.p R.s R.q R.v (d.way 0)) R.pin.ep = _
      rw [hR.a, hR.p, hR.s, hR.q, hR.v, hn, hh]; rfl
  | s7 hR hp P he hn hc' e1 =>
    have hhk : h = 3 + p + a + 2 * d.way 0 + 1 := by rw [← hh]; exact if_pos ⟨hr, y0, by omega⟩
    obtain ⟨b, bg, bd⟩ := hB.laid.down (d.way 0) y0 (by omega)
    rw [hh] at bg
    rw [hN] at bd
    obtain ⟨b1, b2⟩ := bd.head
    have hl := hC.loads (c := h.toNat) (by omega)
    have hls := hC.loads_same (c := h.toNat) (by omega)
    rw [bg] at hl
    have hhc : ((h.toNat : Nat) : Int) = h := by omega
    refine .inr ⟨actL 1 ((h.toNat : Nat) : Int), G, 4 + 2 * (e - P), ?_, by show (1 : Int) ≠ 8; decide, hl.ready, by rw [hls]; exact hB, ?_, by omega, hl.len⟩
    · rw [RdM_next, nextR_3 hp, hc', hhc]; rfl
    · rw [hl.word, hl.text, RdM_take, takeR_3 hp, hc']
      have eT : takeC (newC h P) (b : Int) ⟨#[]⟩ = ⟨h, (P : Int), 2, 0, false, ⟨#[]⟩, (V (d.way 0) e).block⟩ := by
        show (⟨h, (P : Int), anyC (b : Int) 2, 0, false, ⟨#[]⟩, ((b : Int)).toNat⟩ : ChnD) = _
        rw [anyC_nat, if_neg (by omega), Int.toNat_natCast, b1]
      rw [eT, chainedR_go R (by show (2 : Nat) ≠ 6; decide)]
      exact .s8 ⟨hR.a, hR.p, hR.s, hR.q, hR.v, hR.x, hR.code⟩ hp P e 0 he (Nat.le_refl _) hn rfl rfl
  | s8 hR hp P j pa he hj hn hc' e1 =>
    obtain ⟨b, bg, bd⟩ := hB.laid.down (d.way 0) y0 (by omega)
    rw [hN] at bd
    obtain ⟨nx, b2, bl, bdj⟩ := bd.at (j := j) (by omega)
    obtain ⟨t1, t2, t3, t4⟩ := look_load (D := D) (b := (V (d.way 0) j).block) (c := 0) (Int.le_refl _) (spot_live bl (by decide) (by simp))
    have hw : wordAt D.L (V (d.way 0) j).block 0 = (j : Int) := (word_live bl).trans (hep j hj)
    rw [hw] at t1
    rcases Nat.eq_or_lt_of_le he with ee | ee
    · subst ee
      refine .inr ⟨loadC (V (d.way 0) P).block 0, G, 3, ?_, by show (1 : Int) ≠ 8; decide, t4, by rw [t3]; exact hB, ?_, by omega, by rw [t3]⟩
      · rw [RdM_next, nextR_3 hp, hc']; rfl
      · rw [t1, t2, RdM_take, takeR_3 hp, hc']
        have eT : takeC ⟨h, (P : Int), 2, pa, false, ⟨#[]⟩, (V (d.way 0) P).block⟩ (P : Int) ⟨#[]⟩ = ⟨h, (P : Int), 4, pa, false, ⟨#[]⟩, (V (d.way 0) P).block⟩ := by
          show (⟨h, (P : Int), if (P : Int) < (P : Int) then 3 else 4, pa, false, ⟨#[]⟩, _⟩ : ChnD) = _
          rw [if_neg (by omega)]
        rw [eT, chainedR_go R (by show (4 : Nat) ≠ 6; decide)]
        exact .s10 ⟨hR.a, hR.p, hR.s, hR.q, hR.v, hR.x, hR.code⟩ hp P pa hj hn rfl rfl
    · refine .inr ⟨loadC (V (d.way 0) j).block 0, G, 3 + 2 * (j - P), ?_, by show (1 : Int) ≠ 8; decide, t4, by rw [t3]; exact hB, ?_, by omega, by rw [t3]⟩
      · rw [RdM_next, nextR_3 hp, hc']; rfl
      · rw [t1, t2, RdM_take, takeR_3 hp, hc']
        have eT : takeC ⟨h, (P : Int), 2, pa, false, ⟨#[]⟩, (V (d.way 0) j).block⟩ (j : Int) ⟨#[]⟩ = ⟨h, (P : Int), 3, pa, false, ⟨#[]⟩, (V (d.way 0) j).block⟩ := by
          show (⟨h, (P : Int), if (P : Int) < (j : Int) then 3 else 4, pa, false, ⟨#[]⟩, _⟩ : ChnD) = _
          rw [if_pos (by omega)]
        rw [eT, chainedR_go R (by show (3 : Nat) ≠ 6; decide)]
        exact .s9 ⟨hR.a, hR.p, hR.s, hR.q, hR.v, hR.x, hR.code⟩ hp P j pa ee hj hn rfl rfl
  | s9 hR hp P j pa he hj hn hc' e1 =>
    obtain ⟨b, bg, bd⟩ := hB.laid.down (d.way 0) y0 (by omega)
    rw [hN] at bd
    obtain ⟨nx, b2, bl, bdj⟩ := bd.at (j := j) (by omega)
    obtain ⟨i, rfl⟩ : ∃ i, j = i + 1 := ⟨j - 1, by omega⟩
    obtain ⟨n1, n2⟩ := bdj.head
    obtain ⟨t1, t2, t3, t4⟩ := look_load (D := D) (b := (V (d.way 0) (i + 1)).block) (c := 1) (by decide) (spot_live bl (by decide) (by simp))
    have hw : wordAt D.L (V (d.way 0) (i + 1)).block 1 = (nx : Int) := word_live bl
    rw [hw] at t1
    refine .inr ⟨loadC (V (d.way 0) (i + 1)).block 1, G, 4 + 2 * (i - P), ?_, by show (1 : Int) ≠ 8; decide, t4, by rw [t3]; exact hB, ?_, by omega, by rw [t3]⟩
    · rw [RdM_next, nextR_3 hp, hc']; rfl
    · rw [t1, t2, RdM_take, takeR_3 hp, hc']
      have eT : takeC ⟨h, (P : Int), 3, pa, false, ⟨#[]⟩, (V (d.way 0) (i + 1)).block⟩ (nx : Int) ⟨#[]⟩ = ⟨h, (P : Int), 2, wrap64 (pa + 1), false, ⟨#[]⟩, (V (d.way 0) i).block⟩ := by
        show (⟨h, (P : Int), anyC (nx : Int) 2, wrap64 (pa + 1), false, ⟨#[]⟩, ((nx : Int)).toNat⟩ : ChnD) = _
        rw [anyC_nat, if_neg (by omega), Int.toNat_natCast, n1]
      rw [eT, chainedR_go R (by show (2 : Nat) ≠ 6; decide)]
      exact .s8 ⟨hR.a, hR.p, hR.s, hR.q, hR.v, hR.x, hR.code⟩ hp P i (wrap64 (pa + 1)) (by omega) (by omega) hn rfl rfl
  | s10 hR hp P pa hj hn hc' e1 =>
    obtain ⟨b, bg, bd⟩ := hB.laid.down (d.way 0) y0 (by omega)
    rw [hN] at bd
    obtain ⟨nx, b2, bl, bdj⟩ := bd.at (j := P) (by omega)
    obtain ⟨t1, t2, t3, t4⟩ := look_load (D := D) (b := (V (d.way 0) P).block) (c := 2) (by decide) (spot_live bl (by decide) (by simp))
    have hw : wordAt D.L (V (d.way 0) P).block 2 = wordV (V (d.way 0) P).has := word_live bl
    rw [hw] at t1
    cases hhs : (V (d.way 0) P).has with
    | true =>
      rw [hhs] at t1
      refine .inr ⟨loadC (V (d.way 0) P).block 2, G, 2, ?_, by show (1 : Int) ≠ 8; decide, t4, by rw [t3]; exact hB, ?_, by omega, by rw [t3]⟩
      · rw [RdM_next, nextR_3 hp, hc']; rfl
      · rw [t1, t2, RdM_take, takeR_3 hp, hc']
        have eT : takeC ⟨h, (P : Int), 4, pa, false, ⟨#[]⟩, (V (d.way 0) P).block⟩ (wordV true) ⟨#[]⟩ = ⟨h, (P : Int), 5, pa, true, ⟨#[]⟩, (V (d.way 0) P).block⟩ := rfl
        rw [eT, chainedR_go R (by show (5 : Nat) ≠ 6; decide)]
        exact .s11 ⟨hR.a, hR.p, hR.s, hR.q, hR.v, hR.x, hR.code⟩ hp P pa hj hn rfl rfl
    | false =>
      rw [hhs] at t1
      refine .inr ⟨loadC (V (d.way 0) P).block 2, G, 1, ?_, by show (1 : Int) ≠ 8; decide, t4, by rw [t3]; exact hB, ?_, by omega, by rw [t3]⟩
      · rw [RdM_next, nextR_3 hp, hc']; rfl
      · rw [t1, t2, RdM_take, takeR_3 hp, hc']
        have eT : takeC ⟨h, (P : Int), 4, pa, false, ⟨#[]⟩, (V (d.way 0) P).block⟩ (wordV false) ⟨#[]⟩ = ⟨h, (P : Int), 6, pa, false, ⟨#[]⟩, (V (d.way 0) P).block⟩ := rfl
        rw [eT, chainedR_end R (by rfl)]
        exact .s12 ⟨hR.a, hR.p, hR.s, hR.q, hR.v, hR.x, hR.code⟩ rfl P hn rfl
  | s11 hR hp P pa hj hn hc' e1 =>
    obtain ⟨b, bg, bd⟩ := hB.laid.down (d.way 0) y0 (by omega)
    rw [hN] at bd
    obtain ⟨nx, b2, bl, bdj⟩ := bd.at (j := P) (by omega)
    obtain ⟨t1, t2, t3, t4⟩ := look_text (D := D) (there_hit bl)
    refine .inr ⟨textC (V (d.way 0) P).block, G, 1, ?_, by show (6 : Int) ≠ 8; decide, t4, by rw [t3]; exact hB, ?_, by omega, by rw [t3]⟩
    · rw [RdM_next, nextR_3 hp, hc']; rfl
    · rw [t1, t2, RdM_take, takeR_3 hp, hc', chainedR_end R (by rfl)]
      exact .s12 ⟨hR.a, hR.p, hR.s, hR.q, hR.v, hR.x, hR.code⟩ rfl P hn rfl
  | s12 hR hp P hn e1 =>
    have d2 := hC.stores hcn (u := 0) (by omega)
    have e2 : doN D (actS 1 (c : Int) 0) = D.word 1 (c : Int) 0 := by
      unfold doN; rw [actS_right (b := 1) (c := (c : Int)) (u := 0) (by omega), if_pos rfl]
      show storeD D 1 c 0 = _
      unfold storeD; rw [if_pos (hC.spot hcn)]
    refine .inr ⟨actS 1 (c : Int) 0, upd G c 0, 0, ?_, by show (2 : Int) ≠ 8; decide, d2.ready, hput _ (by omega) _ ⟨_, d2⟩ (by rw [e2]; exact hC.word_oth _ _), ?_, by omega, d2.len⟩
    · rw [RdM_next, nextR_4 hp]
      unfold RdD.free
      rw [hn, hR.a, hR.p, hR.s, hR.q, hR.v]
      show some (freeE (pinW a p s q v (wayP th p 0))) = _
      rw [hcell]
      unfold freeE
      rw [if_neg (by omega)]
      rfl
    · rw [RdM_take, takeR_4 hp]
      exact .s13 ⟨hR.a, hR.p, hR.s, hR.q, hR.v, hR.x, hR.code⟩ rfl rfl
  | s13 hR hp e1 => exact .inl ⟨hp, e1⟩
/-- The epoch goes on, and a version more comes; nothing else of what the read asks for. -/
theorem RdS.more {G' : Nat → Int} {V0 V1 : Nat → VsnD} (hS : RdS a p s q v x th d c h e G V0 R f) (hG : G' c = G c) (hk : G' (keyW a p s q v (d.way 0)).toNat = G (keyW a p s q v (d.way 0)).toNat) (hV : ∀ j, j ≤ e → V1 j = V0 j) :
    ∃ f', f' ≤ f + 2 ∧ RdS a p s q v x th d c h (e + 1) G' V1 R f' := by
  cases hS with
  | s1 hR hp hn hG0 hf e1 => exact ⟨f, by omega, .s1 hR hp hn (hG.trans hG0) hf e1⟩
  | s2 hR hp e0 he hn hG0 hf e1 => exact ⟨9 + 2 * (e + 1 - e0), by omega, .s2 hR hp e0 (by omega) hn (hG.trans hG0) hf rfl⟩
  | s3 hR hp e0 he hn hf e1 => exact ⟨8 + 2 * (e + 1 - e0), by omega, .s3 hR hp e0 (by omega) hn hf rfl⟩
  | s4 hR hp e0 he hn hf e1 => exact ⟨9 + 2 * (e + 1 - e0), by omega, .s4 hR hp e0 (by omega) hn hf rfl⟩
  | s5 hR hp P he hn hf e1 => exact ⟨7 + 2 * (e + 1 - P), by omega, .s5 hR hp P (by omega) hn hf rfl⟩
  | s6 hR hp P he hn k hf hk0 e1 => exact ⟨6 + 2 * (e + 1 - P), by omega, .s6 hR hp P (by omega) hn k hf (hk.trans hk0) rfl⟩
  | s7 hR hp P he hn hc e1 => exact ⟨5 + 2 * (e + 1 - P), by omega, .s7 hR hp P (by omega) hn hc rfl⟩
  | s8 hR hp P j pa he hj hn hc e1 => exact ⟨f, by omega, .s8 hR hp P j pa he (by omega) hn (by rw [hV j hj]; exact hc) e1⟩
  | s9 hR hp P j pa he hj hn hc e1 => exact ⟨f, by omega, .s9 hR hp P j pa he (by omega) hn (by rw [hV j hj]; exact hc) e1⟩
  | s10 hR hp P pa hj hn hc e1 => exact ⟨f, by omega, .s10 hR hp P pa (by omega) hn (by rw [hV P hj]; exact hc) e1⟩
  | s11 hR hp P pa hj hn hc e1 => exact ⟨f, by omega, .s11 hR hp P pa (by omega) hn (by rw [hV P hj]; exact hc) e1⟩
  | s12 hR hp P hn e1 => exact ⟨f, by omega, .s12 hR hp P hn e1⟩
  | s13 hR hp e1 => exact ⟨f, by omega, .s13 hR hp e1⟩
theorem RdS.same {G' : Nat → Int} {V0 : Nat → VsnD} (hS : RdS a p s q v x th d c h e G V0 R f) (hG : G' c = G c) (hk : G' (keyW a p s q v (d.way 0)).toNat = G (keyW a p s q v (d.way 0)).toNat) : RdS a p s q v x th d c h e G' V0 R f := by
  cases hS with
  | s1 hR hp hn hG0 hf e1 => exact .s1 hR hp hn (hG.trans hG0) hf e1
  | s2 hR hp e0 he hn hG0 hf e1 => exact .s2 hR hp e0 he hn (hG.trans hG0) hf e1
  | s3 hR hp e0 he hn hf e1 => exact .s3 hR hp e0 he hn hf e1
  | s4 hR hp e0 he hn hf e1 => exact .s4 hR hp e0 he hn hf e1
  | s5 hR hp P he hn hf e1 => exact .s5 hR hp P he hn hf e1
  | s6 hR hp P he hn k hf hk0 e1 => exact .s6 hR hp P he hn k hf (hk.trans hk0) e1
  | s7 hR hp P he hn hc e1 => exact .s7 hR hp P he hn hc e1
  | s8 hR hp P j pa he hj hn hc e1 => exact .s8 hR hp P j pa he hj hn hc e1
  | s9 hR hp P j pa he hj hn hc e1 => exact .s9 hR hp P j pa he hj hn hc e1
  | s10 hR hp P pa hj hn hc e1 => exact .s10 hR hp P pa hj hn hc e1
  | s11 hR hp P pa hj hn hc e1 => exact .s11 hR hp P pa hj hn hc e1
  | s12 hR hp P hn e1 => exact .s12 hR hp P hn e1
  | s13 hR hp e1 => exact .s13 hR hp e1
theorem RdS.code (hS : RdS a p s q v x th d c h e G (V (d.way 0)) R f) : R.code = 0 := by
  cases hS with
  | s1 hR => exact hR.code
  | s2 hR => exact hR.code
  | s3 hR => exact hR.code
  | s4 hR => exact hR.code
  | s5 hR => exact hR.code
  | s6 hR => exact hR.code
  | s7 hR => exact hR.code
  | s8 hR => exact hR.code
  | s9 hR => exact hR.code
  | s10 hR => exact hR.code
  | s11 hR => exact hR.code
  | s12 hR => exact hR.code
  | s13 hR => exact hR.code
/-- Alone from here on. -/
theorem bnd_alone (hd : newF a p s q v x key = d) (hc : (3 + wayP th p 0).toNat = c) (hh : headW a p s q v (d.way 0) = h) (S0 : PmS RdD) : ∀ (m f n0 : Nat) (R : RdD) (D : HpD) (G : Nat → Int), f ≤ m → Bnd a p s q v x key e D G K V N → RdS a p s q v x th d c h e G (V (d.way 0)) R f →
    stM RdM S0 n0 = ⟨D, R⟩ ∧ (toM RdM S0 n0).length = n0 → ∃ k D' R', k ≤ f ∧ stM RdM S0 (n0 + k) = ⟨D', R'⟩ ∧ (toM RdM S0 (n0 + k)).length = n0 + k ∧ R'.part = 5 ∧ R'.code = 0 ∧ D'.faults = 0
  | 0, f, n0, R, D, G, hf, hB, hS, h0 => by
    rcases bnd_step hB hd hc hh hS with ⟨h5, _⟩ | ⟨y, G', f', -, -, -, -, -, hlt, -⟩
    · exact ⟨0, D, R, Nat.zero_le _, h0.1, h0.2, h5, hS.code, hB.laid.ctl.faults⟩
    · omega
  | m + 1, f, n0, R, D, G, hf, hB, hS, h0 => by
    rcases bnd_step hB hd hc hh hS with ⟨h5, _⟩ | ⟨y, G', f', hy, -, hry, hB', hS', hlt, -⟩
    · exact ⟨0, D, R, Nat.zero_le _, h0.1, h0.2, h5, hS.code, hB.laid.ctl.faults⟩
    · have s1 := stM_succ h0 (advM_ready (M := RdM) hy hry)
      obtain ⟨k, D', R', hk, r1, r2, r3⟩ := bnd_alone hd hc hh S0 m f' (n0 + 1) _ _ G' (by omega) hB' hS' s1
      exact ⟨k + 1, D', R', by omega, by rw [show n0 + (k + 1) = n0 + 1 + k by omega]; exact r1, by rw [show n0 + (k + 1) = n0 + 1 + k by omega]; exact r2, r3⟩
end

end Go.Proofs.Ytpnfbabiibopnaa
