/-
  What a reference's Read comes to behind pinning. Plain.
-/
import Derived.Test.YtpnfbabiibopnaaGreatRdref
namespace Go.Proofs.YtpnfbabiibopnaaGreat
open Go Go.RowKit

section
variable {a p s q v x th : Int} {key : ByteArray} {G : List (Int × ByteArray)} {R0 : RdD} {d : FindR}
theorem read_mid (hG : ∀ g ∈ G, (0 ≤ g.1 ∧ g.1 < 18446744073709551616)) (hGl : G.length ≤ 1000) (hr : rightC a p s q v = true) (hR0 : newR a p s q v x th key = R0) (hd : newF a p s q v x key = d) :
    ∀ (T : TapD) (n ep : Int), PinR (emb_pin R0) a p s q v x th G R0 T (n, ep, false) → ∃ (kk sh : Int) (T' : TapD), refF G d s.toNat 0 T = ((kk, sh), T') ∧
      ((kk ≠ 1 ∧ FreR G R0 T' ⟨2, 1, pinW a p s q v n, 0, 0, ⟨#[]⟩⟩ false ⟨#[]⟩ (T.k : Int)) ∨ (kk = 1 ∧ ∃ R2, Foi (emb_chain R2) G R0 T' (newC (headW a p s q v sh) ep) ∧
        ∀ T'' hs tx, ChrR (emb_chain R2) G R0 T'' hs tx → FreR G R0 T'' ⟨2, 1, pinW a p s q v n, 0, 0, ⟨#[]⟩⟩ hs tx (T.k : Int))) := by
  have hbd := rightC_bd hr
  intro T n ep hP
  obtain ⟨m1, hm1⟩ : ∃ m, s.toNat = m + 1 := ⟨s.toNat - 1, by omega⟩
  rcases hP with ho | ⟨-, hbad⟩ | ⟨e, i, hi, hf, he⟩
  · refine ⟨0, 0, T, by rw [hm1]; exact find_over ho.on, .inl ⟨by decide, .inl ho⟩⟩
  · cases hbad
  · have en : n = wayP th p i := congrArg (fun z => z.1) he
    have ee : ep = e := congrArg (fun z => z.2.1) he
    subst en ee
    obtain ⟨w0, w1⟩ := wayP_in th p hbd.2.1.1 i
    have hTk : wrap64 (T.k : Int) = (T.k : Int) := IntWalk.wrap64_in _ (by have := hf.k; omega)
    obtain ⟨R2, hR2⟩ : ∃ R2, inP R0 T.k (gotP a p s q v x th ep i) = R2 := ⟨_, rfl⟩
    have eR2 : R2 = ⟨a, p, s, q, v, x, 2, gotP a p s q v x th ep i, lookN d 0, newC 0 0, 0, false, ⟨#[]⟩, (T.k : Int)⟩ := by
      rw [← hR2, ← hR0]; unfold inP
      rw [if_pos (by rfl), if_neg (show ¬ (gotP a p s q v x th ep i).taken = true from by show ¬ false = true; decide), hTk, ← hd]; rfl
    have hff := hf.fol
    rw [hR2] at hff
    have hlk : lookN d 0 = d.to ((0 : Nat) : Int) (loadF d 0) 0 0 := by unfold lookN; rw [if_pos (by rw [← hd]; show ((0 : Nat) : Int) < s; omega)]
    have i0 : inF R2 T.k (lookN d 0) = R2 := by rw [hlk]; unfold inF; rw [if_pos (by rfl), eR2, hlk]
    have hfF : Foi (emb_find R2) G R0 T (lookN d 0) := ⟨by rw [i0]; exact hff, lookN_ok _ _⟩
    have hfree : ∀ R : RdD, R.a = a → R.p = p → R.s = s → R.q = q → R.v = v → R.pin = gotP a p s q v x th ep i → R.free = ⟨2, 1, pinW a p s q v (wayP th p i), 0, 0, ⟨#[]⟩⟩ := by
      intro R h1 h2 h3 h4 h5 h6
      unfold RdD.free
      rw [h1, h2, h3, h4, h5, h6]
      show freeE (pinW a p s q v (wayP th p i)) = _
      unfold freeE
      rw [if_neg (by rw [pinW_in hr w0 w1]; omega)]
    have hres := foi_find (em := emb_find R2) hG d s.toNat 0 T (by rw [← hd]; show (s.toNat : Int) + ((0 : Nat) : Int) = s; omega) hfF
    obtain ⟨⟨⟨kk, sh⟩, T'⟩, hrf⟩ : ∃ R, refF G d s.toNat 0 T = R := ⟨_, rfl⟩
    rw [hrf] at hres
    refine ⟨kk, sh, T', hrf, ?_⟩
    rcases hres with ⟨ho, h00⟩ | ⟨E, hE, hk0, hin, hke⟩
    · have : kk = 0 := congrArg (fun z => z.1) h00
      exact .inl ⟨by rw [this]; decide, .inl ho⟩
    · have e1 : kk = E.k := congrArg (fun z => z.1) hke
      have e2 : sh = E.sh := congrArg (fun z => z.2) hke
      have hfo := hE.fol
      by_cases h1 : E.k = 1
      · refine .inr ⟨e1.trans h1, inF R2 T'.k E, ?_, ?_⟩
        · refine ⟨?_, trivial⟩
          have eI : inC (inF R2 T'.k E) T'.k (newC (headW a p s q v sh) ep) = inF R2 T'.k E := by
            have ei : inF R2 T'.k E = ⟨a, p, s, q, v, x, 3, gotP a p s q v x th ep i, E, newC (headW a p s q v sh) ep, 0, false, ⟨#[]⟩, (T.k : Int)⟩ := by
              unfold inF; rw [if_neg hk0, if_pos h1, eR2, e2]; rfl
            rw [ei]; unfold inC; rw [if_neg (by show (1 : Nat) ≠ 6; decide)]
          rw [eI]; exact hfo
        · intro T'' hs tx hc
          rcases hc with ho | ⟨C, hC, h6, h7, h8⟩
          · exact .inl ho
          · have hCf := hC.fol
            have ei : inC (inF R2 T'.k E) T''.k C = ⟨a, p, s, q, v, x, 4, gotP a p s q v x th ep i, E, C, 0, C.has, C.text, (T.k : Int)⟩ := by
              have ei : inF R2 T'.k E = ⟨a, p, s, q, v, x, 3, gotP a p s q v x th ep i, E, newC (headW a p s q v sh) ep, 0, false, ⟨#[]⟩, (T.k : Int)⟩ := by
                unfold inF; rw [if_neg hk0, if_pos h1, eR2, e2]; rfl
              rw [ei]; unfold inC; rw [if_pos h6]
            rw [ei] at hCf
            exact .inr ⟨_, hCf, rfl, rfl, h7, h8, rfl, hfree _ rfl rfl rfl rfl rfl rfl⟩
      · refine .inl ⟨by rw [e1]; exact h1, .inr ⟨inF R2 T'.k E, hfo, ?_⟩⟩
        have ei : inF R2 T'.k E = ⟨a, p, s, q, v, x, 4, gotP a p s q v x th ep i, E, newC 0 0, 0, false, ⟨#[]⟩, (T.k : Int)⟩ := by
          unfold inF; rw [if_neg hk0, if_neg h1, eR2]
        rw [ei]
        exact ⟨rfl, rfl, rfl, rfl, rfl, hfree _ rfl rfl rfl rfl rfl rfl⟩
theorem read_many : ∀ (T : TapD) (n ep : Int), PinR (emb_pin R0) a p s q v x th G R0 T (n, ep, true) → RdR G R0 T 11 false ⟨#[]⟩ 0 := by
  intro T n ep hP
  rcases hP with ho | ⟨hf, -⟩ | ⟨e, i, -, -, he⟩
  · exact .inl ho
  · have hff := hf.fol
    have e5 : inP R0 T.k (takenP a p s q v x) = ⟨R0.a, R0.p, R0.s, R0.q, R0.v, R0.x, 5, takenP a p s q v x, R0.fnd, R0.chn, 11, false, ⟨#[]⟩, 0⟩ := by
      unfold inP; rw [if_pos (by rfl), if_pos (by rfl)]
    rw [e5] at hff
    exact .inr ⟨hff.on, hff.act, _, hff.done (nextR_5 (E := ⟨R0.a, R0.p, R0.s, R0.q, R0.v, R0.x, 5, takenP a p s q v x, R0.fnd, R0.chn, 11, false, ⟨#[]⟩, 0⟩) rfl), rfl, rfl, rfl, rfl, rfl⟩
  · have : true = false := congrArg (fun z => z.2.2) he
    cases this
end

end Go.Proofs.YtpnfbabiibopnaaGreat
