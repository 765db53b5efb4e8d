/-
  The library's merging of two sorted neighbouring parts where the second is one change.
-/
import Derived.Test.YtbddicaabjlbjaaSymone
namespace Go.Proofs.Ytbddicaabjlbjaa
open Go Go.Shelf Go.RowKit Go.Lib Go.Sort
variable {P : Program} {k : Nat} {enc : ChD → List Value} {cf : ChD → ChD → Int} {g : Nat} {cb : Array Value} {blk off : Nat} {d0 : Array ChD} {w0 : World}

theorem mono_last {X U Y : List ChD} {v : ChD} (hU : KS U) {a m : Nat} (ha : X.length = a) (hm : a + U.length = m) :
    ∀ c c', a ≤ c → c ≤ c' → c' < m → ltC (X ++ (U ++ ([v] ++ Y))).toArray[m]! (X ++ (U ++ ([v] ++ Y))).toArray[c']! = false → ltC (X ++ (U ++ ([v] ++ Y))).toArray[m]! (X ++ (U ++ ([v] ++ Y))).toArray[c]! = false := fun c c' h1 h2 h3 h => by
  simp only [arr_get] at h ⊢
  exact le_le (ks_at (X := X) (U := U) (T := [v] ++ Y) hU (i := c) (j := c') (by omega) h2 (by omega)) h

theorem end_last {X U Y : List ChD} {v : ChD} (hU : KS U) {a m t : Nat} (ha : X.length = a) (hm : a + U.length = m)
    (h : Srch (fun c => ltC (X ++ (U ++ ([v] ++ Y))).toArray[m]! (X ++ (U ++ ([v] ++ Y))).toArray[c]! = false) a m t t) :
    KS (U.take (t - a) ++ ([v] ++ U.drop (t - a))) ∧ KP (U ++ [v]) (U.take (t - a) ++ ([v] ++ U.drop (t - a))) := by
  have e : X ++ (U ++ ([v] ++ Y)) = (X ++ U) ++ ([v] ++ Y) := by simp
  have hu : (X ++ (U ++ ([v] ++ Y)))[m]! = v := by rw [e, at_mid (by simp; omega) (by simp; omega), show m - (X ++ U).length = 0 by simp; omega]; rfl
  have hl := h.le
  have h0 : U.take (t - a) ++ U.drop (t - a) = U := List.take_append_drop _ _
  have := merge_last (v := v) (U1 := U.take (t - a)) (U2 := U.drop (t - a)) (by rw [h0]; exact hU)
    (fun x hx => by
      obtain ⟨i, h1, h2, h3, rfl⟩ := mem_take_at (X := X) (T := [v] ++ Y) hx
      have := h.yes i (by omega) (by omega)
      simp only [arr_get] at this
      rw [hu] at this
      exact this)
    (fun x hx => by
      obtain ⟨i, h1, h2, rfl⟩ := mem_drop_at (X := X) (T := [v] ++ Y) hx
      have := h.no i (by omega) (by omega)
      simp only [arr_get] at this
      rw [hu] at this
      exact (Bool.not_eq_false _).mp this)
  rw [← List.append_assoc (List.take (t - a) U) (List.drop (t - a) U) [v], h0] at this
  exact this

theorem swp_last {X U Y : List ChD} {v : ChD} {a s : Nat} (ha : X.length = a) (hs : s < U.length) :
    swp (X ++ (U.take (s + 1) ++ ([v] ++ (U.drop (s + 1) ++ Y)))).toArray (a + s + 1) (a + s) = (X ++ (U.take s ++ ([v] ++ (U.drop s ++ Y)))).toArray := by
  have eB : U.drop s = U[s] :: U.drop (s + 1) := List.drop_eq_getElem_cons hs
  have tB : U.take (s + 1) = U.take s ++ [U[s]] := List.take_succ_eq_append_getElem hs
  have e := swp_list' (X ++ U.take s) [] (U.drop (s + 1) ++ Y) U[s] v
  have l1 : (X ++ U.take s).length = a + s := by rw [List.length_append, List.length_take]; omega
  rw [l1, List.length_nil, Nat.add_zero] at e
  have f1 : X ++ (U.take (s + 1) ++ ([v] ++ (U.drop (s + 1) ++ Y))) = (X ++ U.take s) ++ U[s] :: ([] ++ v :: (U.drop (s + 1) ++ Y)) := by
    rw [tB]; simp only [List.append_assoc, List.cons_append, List.nil_append]
  have f2 : X ++ (U.take s ++ ([v] ++ (U.drop s ++ Y))) = (X ++ U.take s) ++ v :: ([] ++ U[s] :: (U.drop (s + 1) ++ Y)) := by
    rw [eB]; simp only [List.append_assoc, List.cons_append, List.nil_append]
  rw [f1, f2]; exact e

set_option maxHeartbeats 8000000 in
set_option maxRecDepth 1000000 in
theorem sym_last (E : SE P k enc cf g cb blk off d0 w0) (v : ChD) (X U Y : List ChD) (cap a m b sz : Nat) (w : World) (ha : X.length = a) (hm : a + U.length = m) (hb : m + 1 = b) (hU : KS U) (hU2 : 2 ≤ U.length)
    (hsz : (X ++ (U ++ ([v] ++ Y))).length = sz) (hd : d0.size = sz) (S : SWK enc k w0 blk off (X ++ (U ++ ([v] ++ Y))).toArray w) :
    Calls P 42 #[.slice (some ⟨blk, off, none⟩) sz cap, .int .i64 a, .int .i64 m, .int .i64 b, .func (.func g) #[] cb] w (Merged enc k w0 blk off X (U ++ [v]) Y) := by
  obtain ⟨mixed, t3, a3, z3, v3, t4, a4, z4, v4, tu, au, zu, vu, ts, aS, zs, vs, tf, af, zf, vf⟩ := E.T
  have FG := E.F3
  have aE := E.aE
  have zE := E.zE
  have eg := E.eg
  have HR := Lib.hid E.R
  have HC := Lib.hid E.hcmp
  have HCF := Lib.hid E.hcf
  have hz := E.hsz
  have hszb : m < sz := by rw [← hsz]; simp only [List.length_append, List.length_cons, List.length_nil]; omega
  have hb62 : sz < 4611686018427387904 := by omega
  have HMono := Lib.hid (mono_last (Y := Y) (v := v) hU ha hm)
  have HEnd := Lib.hid (fun t h => end_last (Y := Y) (v := v) (t := t) hU ha hm h)
  have HSwp := Lib.hid (fun s hs => swp_last (X := X) (U := U) (Y := Y) (v := v) (a := a) (s := s) ha hs)
  have HSize := Lib.hid (fun (s : Nat) => show (X ++ (U.take s ++ ([v] ++ (U.drop s ++ Y)))).toArray.size = sz by
    rw [← hsz]; simp only [List.size_toArray, List.length_append, List.length_take, List.length_drop, List.length_cons, List.length_nil]; omega)
  have HD := Lib.hid hd
  have hUl : U.length = m - a := by omega
  have HUl := Lib.hid hUl
  have hma : a + 2 ≤ m := by omega
  obtain ⟨dk, hdk⟩ : ∃ dk, (X ++ (U ++ ([v] ++ Y))).toArray = dk := ⟨_, rfl⟩
  have hs1 : dk.size = sz := by rw [← hdk]; exact hsz
  have hfull : X ++ (U.take U.length ++ ([v] ++ (U.drop U.length ++ Y))) = X ++ (U ++ ([v] ++ Y)) := by
    rw [List.take_of_length_le (Nat.le_refl _), List.drop_of_length_le (Nat.le_refl _)]; simp
  rw [hUl] at hfull
  have HF := Lib.hid hfull
  rw [hdk] at HMono HEnd S
  have HDK := Lib.hid hdk
  have HS1 := Lib.hid hs1
  have HS0 : Aside (SWK enc k w0 blk off dk w) := S
  have hcond : ¬ (m : Int) - (a : Int) = 1 := by omega
  have hcondB : ((m : Int) - (a : Int) == 1) = false := by rw [beq_eq_false_iff_ne]; omega
  have hcond2 : (b : Int) - (m : Int) = 1 := by omega
  have hbm : b = m + 1 := by omega
  have HBM := Lib.hid hbm
  have hb1 : b ≤ sz := by omega
  have hb2 : m < b := by omega
  clear ha hm hb hU hU2 hsz hd S hz hUl hdk hs1 hfull hbm E
  go_enter FG, Try.ntmps42
  go_wp2
  clear hcond hcondB hcond2
  go_loopg [14, 15] (m - a) (fun kx s10 s11 wr => ∃ i j : Nat, s10 = .int .i64 i ∧ s11 = .int .i64 j ∧ a ≤ i ∧ i ≤ j ∧ j ≤ m ∧ j - i ≤ kx ∧ Hid (Srch (fun c => ltC dk[m]! dk[c]! = false) a m i j) ∧ Aside (SWK enc k w0 blk off dk wr))
  case atStart => exact ⟨a, m, rfl, rfl, Nat.le_refl _, by omega, Nat.le_refl _, Nat.le_refl _, Srch.start (by omega), HS0⟩
  case round =>
    clear HS0
    obtain ⟨i, j, rfl, rfl, hmi, hij, hjb, hkx, hS, SU⟩ := hrel
    by_cases hlt : i < j
    · have hltz : (i : Int) < (j : Int) := by omega
      have ea : (((i : Int) + (j : Int)) / 2).toNat = (i + j) / 2 := by omega
      have pa : (0 : Int) ≤ ((i : Int) + (j : Int)) / 2 := by omega
      have ba : ((i : Int) + (j : Int)) / 2 < (sz : Int) := by omega
      have ra : IntKind.i64.wrap (((i : Int) + (j : Int)) / 2) = ((i : Int) + (j : Int)) / 2 := by rw [IntKind.wrap_i64]; omega
      have ec : ((m : Int)).toNat = m := by omega
      have pc : (0 : Int) ≤ (m : Int) := by omega
      have bc : (m : Int) < (sz : Int) := by omega
      have rc : IntKind.i64.wrap ((m : Int)) = (m : Int) := by rw [IntKind.wrap_i64]; omega
      obtain ⟨x, hx⟩ : ∃ x, x = dk[m]! := ⟨_, rfl⟩
      obtain ⟨y, hy⟩ : ∃ x, x = dk[(i + j) / 2]! := ⟨_, rfl⟩
      have la := SU.out.ld HR.out (by rw [HS1.out, HD.out]) P m (by rw [HS1.out]; omega)
      have lb := SU.out.ld HR.out (by rw [HS1.out, HD.out]) P ((i + j) / 2) (by rw [HS1.out]; omega)
      rw [← hx] at la
      rw [← hy] at lb
      have hc := SU.out.cmp HC.out (by rw [HS1.out, HD.out]) x y
      cases hlv : ltC x y with
      | false =>
        have hv : ¬ cf x y < 0 := by have := HCF.out x y; rw [hlv] at this; exact of_decide_eq_false this
        have hd' : decide (cf x y < 0) = false := decide_eq_false hv
        have HN := Lib.hid (show Srch (fun c => ltC dk[m]! dk[c]! = false) a m ((i + j) / 2 + 1) j from hS.out.up HMono.out (by omega) (by omega) (by rw [← hx, ← hy]; exact hlv))
        clear hx hy hlv
        go_wp2_with fail
        go_quiet_grown (first | (go_at_fn g; refine Calls.grown_of (hc _ _)))
        have SU2 : Aside (SWK enc k w0 blk off dk (grow (wr.drewN nq) osq)) := SU.out.grown nq osq
        clear la lb hc SU
        generalize grow (wr.drewN nq) osq = wu2 at SU2 ⊢
        clear nq osq
        go_wp2
        go_roundg (j - ((i + j) / 2 + 1))
        case measure => omega
        case rel => exact ⟨(i + j) / 2 + 1, j, by rw [show ((i : Int) + (j : Int)) / 2 + 1 = (((i + j) / 2 + 1 : Nat) : Int) by omega], rfl, by omega, by omega, hjb, Nat.le_refl _, HN, SU2⟩
      | true =>
        have hv : cf x y < 0 := by have := HCF.out x y; rw [hlv] at this; exact of_decide_eq_true this
        have hd' : decide (cf x y < 0) = true := decide_eq_true hv
        have HN := Lib.hid (show Srch (fun c => ltC dk[m]! dk[c]! = false) a m i ((i + j) / 2) from hS.out.down HMono.out (by omega) (by omega) (by rw [← hx, ← hy, hlv]; exact Bool.noConfusion))
        clear hx hy hlv
        go_wp2_with fail
        go_quiet_grown (first | (go_at_fn g; refine Calls.grown_of (hc _ _)))
        have SU2 : Aside (SWK enc k w0 blk off dk (grow (wr.drewN nq) osq)) := SU.out.grown nq osq
        clear la lb hc SU
        generalize grow (wr.drewN nq) osq = wu2 at SU2 ⊢
        clear nq osq
        go_wp2
        go_roundg ((i + j) / 2 - i)
        case measure => omega
        case rel => exact ⟨i, (i + j) / 2, rfl, by rw [show ((i : Int) + (j : Int)) / 2 = (((i + j) / 2 : Nat) : Int) by omega], hmi, by omega, by omega, Nat.le_refl _, HN, SU2⟩
    · obtain rfl : i = j := by omega
      have HE := Lib.hid (HEnd.out i hS.out)
      have SS : Aside (SWK enc k w0 blk off (X ++ (U.take (m - a) ++ ([v] ++ (U.drop (m - a) ++ Y)))).toArray wr) := by
        have := SU.out
        rw [← HDK.out] at this
        rw [HF.out]
        exact this
      clear hS SU HMono HEnd HDK HS1
      go_wp2
      go_loopg [17] (m - i) (fun kx s13 wr => ∃ q : Nat, s13 = .int .i64 q ∧ i ≤ q ∧ q ≤ m ∧ q - i ≤ kx ∧ Aside (SWK enc k w0 blk off (X ++ (U.take (q - a) ++ ([v] ++ (U.drop (q - a) ++ Y)))).toArray wr))
      case atStart => exact ⟨m, rfl, by omega, Nat.le_refl _, Nat.le_refl _, SS⟩
      case round =>
        clear SS
        obtain ⟨q, rfl, hsi, hqm, hkx2, S1⟩ := hrel
        by_cases hgo : i < q
        · obtain ⟨p, rfl⟩ : ∃ p, q = p + 1 := ⟨q - 1, by omega⟩
          have hgoz : (i : Int) < (p : Int) + 1 := by omega
          have hwp : IntKind.i64.wrap (p : Int) = (p : Int) := by rw [IntKind.wrap_i64]; omega
          have ec : ((p : Int) + 1).toNat = p + 1 := by omega
          have pc : (0 : Int) ≤ (p : Int) + 1 := by omega
          have bc : (p : Int) + 1 < (sz : Int) := by omega
          have bc1 : (p : Int) < (sz : Int) := by omega
          have rc : IntKind.i64.wrap ((p : Int) + 1) = (p : Int) + 1 := by rw [IntKind.wrap_i64]; omega
          have hsV : p - a < U.length := by rw [HUl.out]; omega
          have HSw := Lib.hid (HSwp.out (p - a) hsV)
          rw [show a + (p - a) = p by omega, show p - a + 1 = p + 1 - a by omega] at HSw
          have hsz' := HSize.out (p + 1 - a)
          obtain ⟨dj, hdj⟩ : ∃ dj, (X ++ (U.take (p + 1 - a) ++ ([v] ++ (U.drop (p + 1 - a) ++ Y)))).toArray = dj := ⟨_, rfl⟩
          rw [hdj] at S1 HSw hsz'
          have S2 : Aside (SWK enc k w0 blk off (swp dj (p + 1) p) ((wr.drew.setCells blk (off + (p + 1) * k) (enc dj[p]!)).setCells blk (off + p * k) (enc dj[p + 1]!))) := S1.out.swapped HR.out (p + 1) p (by omega) (by omega)
          have la := S1.out.ld1 HR.out (by rw [HD.out]; exact hsz') P p (by omega)
          have lb := S1.out.ld1 HR.out (by rw [HD.out]; exact hsz') P (p + 1) (by omega)
          have sa := S1.out.st1 HR.out (by rw [HD.out]; exact hsz') P (p + 1) (by omega) dj[p]!
          have sb := S1.out.st2 HR.out (by rw [HD.out]; exact hsz') P (p + 1) p (by omega) (by omega) dj[p]! dj[p + 1]!
          have na : (enc dj[p]!).length = k := HR.out.hk _
          have nb : (enc dj[p + 1]!).length = k := HR.out.hk _
          generalize enc dj[p]! = cI at S2 la sa sb na
          generalize enc dj[p + 1]! = cJ at S2 lb sb nb
          clear S1 hsz' hdj hsV
          go_wp2_with fail
          go_big_region_o
          clear la lb sa sb
          generalize (wr.drew.setCells blk (off + (p + 1) * k) cI).setCells blk (off + p * k) cJ = w2 at S2 ⊢
          go_wp2
          go_roundg (p - i)
          case measure => omega
          case rel => exact ⟨p, by first | rfl | go_num | (congr 1; omega), by omega, by omega, Nat.le_refl _, by rw [← HSw.out]; exact S2⟩
        · obtain rfl : q = i := by omega
          go_wp2_with fail
          (try simp only [Exit.inBlock, Exit.then]); refine bodyPost_ret (results_none rfl _ _ _) rfl ?_
          refine ⟨rfl, _, HE.out.1, HE.out.2, ?_⟩
          have := S1.out
          simpa only [List.append_assoc] using this

end Go.Proofs.Ytbddicaabjlbjaa
