/-
  The library's merging of two sorted neighbouring parts where one of both is one change.
-/
import Derived.Test.YtbddicaabjlbjaaRotate
namespace Go.Proofs.Ytbddicaabjlbjaa
open Go Go.Shelf Go.RowKit Go.Lib Go.Sort
variable {P : Program} {k : Nat} {enc : ChD → List Value} {cf : ChD → ChD → Int} {g : Nat} {cb : Array Value} {blk off : Nat} {d0 : Array ChD} {w0 : World}

/-- What a merge leaves. -/
def Merged (enc : ChD → List Value) (k : Nat) (w0 : World) (blk off : Nat) (X L Y : List ChD) (e : Ending) (w' : World) : Prop :=
  e = .returned (.tuple #[]) ∧ ∃ R, KS R ∧ KP L R ∧ SWK enc k w0 blk off (X ++ (R ++ Y)).toArray w'

theorem arr_get (L : List ChD) (i : Nat) : L.toArray[i]! = L[i]! := by simp

theorem mono_first {X V Y : List ChD} {u : ChD} (hV : KS V) {a m b : Nat} (ha : X.length = a) (hm : a + 1 = m) (hb : m + V.length = b) :
    ∀ c c', m ≤ c → c ≤ c' → c' < b → ltC (X ++ ([u] ++ (V ++ Y))).toArray[c']! (X ++ ([u] ++ (V ++ Y))).toArray[a]! = true → ltC (X ++ ([u] ++ (V ++ Y))).toArray[c]! (X ++ ([u] ++ (V ++ Y))).toArray[a]! = true := fun c c' h1 h2 h3 h => by
  simp only [arr_get] at h ⊢
  have e : X ++ ([u] ++ (V ++ Y)) = (X ++ [u]) ++ (V ++ Y) := by simp
  have := ks_at (X := X ++ [u]) (U := V) (T := Y) hV (i := c) (j := c') (by simp; omega) h2 (by simp; omega)
  rw [← e] at this
  exact le_lt this h

theorem end_first {X V Y : List ChD} {u : ChD} (hV : KS V) {a m b t : Nat} (ha : X.length = a) (hm : a + 1 = m) (hb : m + V.length = b)
    (h : Srch (fun c => ltC (X ++ ([u] ++ (V ++ Y))).toArray[c]! (X ++ ([u] ++ (V ++ Y))).toArray[a]! = true) m b t t) :
    KS (V.take (t - m) ++ ([u] ++ V.drop (t - m))) ∧ KP ([u] ++ V) (V.take (t - m) ++ ([u] ++ V.drop (t - m))) := by
  have e : X ++ ([u] ++ (V ++ Y)) = (X ++ [u]) ++ (V ++ Y) := by simp
  have hu : (X ++ ([u] ++ (V ++ Y)))[a]! = u := by rw [at_mid (by omega) (by simp; omega), ← ha, Nat.sub_self]; rfl
  have hl := h.le
  have h0 : V.take (t - m) ++ V.drop (t - m) = V := List.take_append_drop _ _
  have := merge_first (u := u) (V1 := V.take (t - m)) (V2 := V.drop (t - m)) (by rw [h0]; exact hV)
    (fun v hv => by
      obtain ⟨i, h1, h2, h3, rfl⟩ := mem_take_at (X := X ++ [u]) (T := Y) hv
      have := h.yes i (by simp at h1; omega) (by simp at h2; omega)
      simp only [arr_get] at this
      rw [hu, e] at this
      exact this)
    (fun v hv => by
      obtain ⟨i, h1, h2, rfl⟩ := mem_drop_at (X := X ++ [u]) (T := Y) hv
      have := h.no i (by simp at h1; omega) (by simp at h2; omega)
      simp only [arr_get] at this
      rw [hu, e] at this
      exact eq_false_of_ne_true this)
  rw [h0] at this
  exact this

theorem swp_first {X V Y : List ChD} {u : ChD} {a s : Nat} (ha : X.length = a) (hs : s < V.length) :
    swp (X ++ (V.take s ++ ([u] ++ (V.drop s ++ Y)))).toArray (a + s) (a + s + 1) = (X ++ (V.take (s + 1) ++ ([u] ++ (V.drop (s + 1) ++ Y)))).toArray := by
  have eB : V.drop s = V[s] :: V.drop (s + 1) := List.drop_eq_getElem_cons hs
  have tB : V.take (s + 1) = V.take s ++ [V[s]] := List.take_succ_eq_append_getElem hs
  have e := swp_list (X ++ V.take s) [] (V.drop (s + 1) ++ Y) u V[s]
  have l1 : (X ++ V.take s).length = a + s := by rw [List.length_append, List.length_take]; omega
  rw [l1, List.length_nil, Nat.add_zero] at e
  have f1 : X ++ (V.take s ++ ([u] ++ (V.drop s ++ Y))) = (X ++ V.take s) ++ u :: ([] ++ V[s] :: (V.drop (s + 1) ++ Y)) := by
    rw [eB]; simp only [List.append_assoc, List.cons_append, List.nil_append]
  have f2 : X ++ (V.take (s + 1) ++ ([u] ++ (V.drop (s + 1) ++ Y))) = (X ++ V.take s) ++ V[s] :: ([] ++ u :: (V.drop (s + 1) ++ Y)) := by
    rw [tB]; simp only [List.append_assoc, List.cons_append, List.nil_append]
  rw [f1, f2]; exact e

set_option maxHeartbeats 8000000 in
set_option maxRecDepth 1000000 in
theorem sym_first (E : SE P k enc cf g cb blk off d0 w0) (u : ChD) (X V Y : List ChD) (cap a m b sz : Nat) (w : World) (ha : X.length = a) (hm : a + 1 = m) (hb : m + V.length = b) (hV : KS V)
    (hsz : (X ++ ([u] ++ (V ++ Y))).length = sz) (hd : d0.size = sz) (S : SWK enc k w0 blk off (X ++ ([u] ++ (V ++ Y))).toArray w) :
    Calls P 42 #[.slice (some ⟨blk, off, none⟩) sz cap, .int .i64 a, .int .i64 m, .int .i64 b, .func (.func g) #[] cb] w (Merged enc k w0 blk off X ([u] ++ V) Y) := by
  obtain ⟨mixed, t3, a3, z3, v3, t4, a4, z4, v4, tu, au, zu, vu, ts, aS, zs, vs, tf, af, zf, vf⟩ := E.T
  have FG := E.F3
  have aE := E.aE
  have zE := E.zE
  have eg := E.eg
  have HR := Lib.hid E.R
  have HC := Lib.hid E.hcmp
  have HCF := Lib.hid E.hcf
  have hz := E.hsz
  have hszb : b ≤ sz := by rw [← hsz]; simp only [List.length_append, List.length_cons, List.length_nil]; omega
  have hb62 : sz < 4611686018427387904 := by omega
  have HMono := Lib.hid (mono_first (Y := Y) (u := u) hV ha hm hb)
  have HEnd := Lib.hid (fun t h => end_first (Y := Y) (u := u) (t := t) hV ha hm hb h)
  have HSwp := Lib.hid (fun s hs => swp_first (X := X) (V := V) (Y := Y) (u := u) (a := a) (s := s) ha hs)
  have HSize := Lib.hid (fun (s : Nat) => show (X ++ (V.take s ++ ([u] ++ (V.drop s ++ Y)))).toArray.size = sz by
    rw [← hsz]; simp only [List.size_toArray, List.length_append, List.length_take, List.length_drop, List.length_cons, List.length_nil]; omega)
  have HD := Lib.hid hd
  have hVl : V.length = b - m := by omega
  have HVl := Lib.hid hVl
  have hmb : m ≤ b := by omega
  have hma : a < m := by omega
  obtain ⟨dk, hdk⟩ : ∃ dk, (X ++ ([u] ++ (V ++ Y))).toArray = dk := ⟨_, rfl⟩
  have hs1 : dk.size = sz := by rw [← hdk]; exact hsz
  rw [hdk] at HMono HEnd S
  have HDK := Lib.hid hdk
  have HS1 := Lib.hid hs1
  have HS0 : Aside (SWK enc k w0 blk off dk w) := S
  have hm1 : (a : Int) + 1 = (m : Int) := by omega
  have HM1 := Lib.hid hm
  have hcond : (m : Int) - (a : Int) = 1 := by omega
  clear ha hm hb hV hsz hd S hz hVl hdk hs1 hm1 E
  go_enter FG, Try.ntmps42
  go_wp2
  clear hcond
  go_loopg [10, 11] (b - m) (fun kx s10 s11 wr => ∃ i j : Nat, s10 = .int .i64 i ∧ s11 = .int .i64 j ∧ m ≤ i ∧ i ≤ j ∧ j ≤ b ∧ j - i ≤ kx ∧ Hid (Srch (fun c => ltC dk[c]! dk[a]! = true) m b i j) ∧ Aside (SWK enc k w0 blk off dk wr))
  case atStart => exact ⟨m, b, rfl, rfl, Nat.le_refl _, hmb, Nat.le_refl _, Nat.le_refl _, Srch.start hmb, HS0⟩
  case round =>
    clear HS0
    obtain ⟨i, j, rfl, rfl, hmi, hij, hjb, hkx, hS, SU⟩ := hrel
    by_cases hlt : i < j
    · have hltz : (i : Int) < (j : Int) := by omega
      have ea : (((i : Int) + (j : Int)) / 2).toNat = (i + j) / 2 := by omega
      have pa : (0 : Int) ≤ ((i : Int) + (j : Int)) / 2 := by omega
      have ba : ((i : Int) + (j : Int)) / 2 < (sz : Int) := by omega
      have ra : IntKind.i64.wrap (((i : Int) + (j : Int)) / 2) = ((i : Int) + (j : Int)) / 2 := by rw [IntKind.wrap_i64]; omega
      have ec : ((a : Int)).toNat = a := by omega
      have pc : (0 : Int) ≤ (a : Int) := by omega
      have bc : (a : Int) < (sz : Int) := by omega
      have rc : IntKind.i64.wrap ((a : Int)) = (a : Int) := by rw [IntKind.wrap_i64]; omega
      obtain ⟨x, hx⟩ : ∃ x, x = dk[(i + j) / 2]! := ⟨_, rfl⟩
      obtain ⟨y, hy⟩ : ∃ x, x = dk[a]! := ⟨_, rfl⟩
      have la := SU.out.ld HR.out (by rw [HS1.out, HD.out]) P ((i + j) / 2) (by rw [HS1.out]; omega)
      have lb := SU.out.ld HR.out (by rw [HS1.out, HD.out]) P a (by rw [HS1.out]; omega)
      rw [← hx] at la
      rw [← hy] at lb
      have hc := SU.out.cmp HC.out (by rw [HS1.out, HD.out]) x y
      cases hlv : ltC x y with
      | true =>
        have hv : cf x y < 0 := by have := HCF.out x y; rw [hlv] at this; exact of_decide_eq_true this
        have hd' : decide (cf x y < 0) = true := decide_eq_true hv
        have HN := Lib.hid (show Srch (fun c => ltC dk[c]! dk[a]! = true) m b ((i + j) / 2 + 1) j from hS.out.up HMono.out (by omega) (by omega) (by rw [← hx, ← hy]; exact hlv))
        clear hx hy hlv
        go_wp2_with fail
        go_quiet_grown (first | (go_at_fn g; refine Calls.grown_of (hc _ _)))
        have SU2 : Aside (SWK enc k w0 blk off dk (grow (wr.drewN nq) osq)) := SU.out.grown nq osq
        clear la lb hc SU
        generalize grow (wr.drewN nq) osq = wu2 at SU2 ⊢
        clear nq osq
        go_wp2
        go_roundg (j - ((i + j) / 2 + 1))
        case measure => omega
        case rel => exact ⟨(i + j) / 2 + 1, j, by rw [show ((i : Int) + (j : Int)) / 2 + 1 = (((i + j) / 2 + 1 : Nat) : Int) by omega], rfl, by omega, by omega, hjb, Nat.le_refl _, HN, SU2⟩
      | false =>
        have hv : ¬ cf x y < 0 := by have := HCF.out x y; rw [hlv] at this; exact of_decide_eq_false this
        have hd' : decide (cf x y < 0) = false := decide_eq_false hv
        have HN := Lib.hid (show Srch (fun c => ltC dk[c]! dk[a]! = true) m b i ((i + j) / 2) from hS.out.down HMono.out (by omega) (by omega) (by rw [← hx, ← hy, hlv]; exact Bool.false_ne_true))
        clear hx hy hlv
        go_wp2_with fail
        go_quiet_grown (first | (go_at_fn g; refine Calls.grown_of (hc _ _)))
        have SU2 : Aside (SWK enc k w0 blk off dk (grow (wr.drewN nq) osq)) := SU.out.grown nq osq
        clear la lb hc SU
        generalize grow (wr.drewN nq) osq = wu2 at SU2 ⊢
        clear nq osq
        go_wp2
        go_roundg ((i + j) / 2 - i)
        case measure => omega
        case rel => exact ⟨i, (i + j) / 2, rfl, by rw [show ((i : Int) + (j : Int)) / 2 = (((i + j) / 2 : Nat) : Int) by omega], hmi, by omega, by omega, Nat.le_refl _, HN, SU2⟩
    · obtain rfl : i = j := by omega
      have HE := Lib.hid (HEnd.out i hS.out)
      have SS : Aside (SWK enc k w0 blk off (X ++ (V.take 0 ++ ([u] ++ (V.drop 0 ++ Y)))).toArray wr) := by
        have := SU.out
        rw [← HDK.out] at this
        exact this
      clear hS SU HMono HEnd HDK HS1
      go_wp2
      go_loopg [13] (i - m) (fun kx s13 wr => ∃ s : Nat, s13 = .int .i64 ((a + s : Nat) : Int) ∧ s ≤ i - m ∧ i - m - s ≤ kx ∧ Aside (SWK enc k w0 blk off (X ++ (V.take s ++ ([u] ++ (V.drop s ++ Y)))).toArray wr))
      case atStart => exact ⟨0, rfl, Nat.zero_le _, Nat.le_refl _, SS⟩
      case round =>
        clear SS
        obtain ⟨s, rfl, hsi, hkx2, S1⟩ := hrel
        have hma2 := HM1.out
        by_cases hgo : s < i - m
        · have hgoz : (a : Int) + (s : Int) < (i : Int) - 1 := by omega
          clear hma2
          have hmsz : a + s + 1 < sz := by have := HM1.out; omega
          have ea : ((a : Int) + (s : Int)).toNat = a + s := by omega
          have pa : (0 : Int) ≤ (a : Int) + (s : Int) := by omega
          have ba : (a : Int) + (s : Int) < (sz : Int) := by omega
          have ra : IntKind.i64.wrap ((a : Int) + (s : Int)) = (a : Int) + (s : Int) := by rw [IntKind.wrap_i64]; omega
          have ec : ((a : Int) + (s : Int) + 1).toNat = a + s + 1 := by omega
          have pc : (0 : Int) ≤ (a : Int) + (s : Int) + 1 := by omega
          have bc : (a : Int) + (s : Int) + 1 < (sz : Int) := by omega
          have rc : IntKind.i64.wrap ((a : Int) + (s : Int) + 1) = (a : Int) + (s : Int) + 1 := by rw [IntKind.wrap_i64]; omega
          have hsV : s < V.length := by rw [HVl.out]; omega
          have HSw := Lib.hid (HSwp.out s hsV)
          have hsz' := HSize.out s
          obtain ⟨dj, hdj⟩ : ∃ dj, (X ++ (V.take s ++ ([u] ++ (V.drop s ++ Y)))).toArray = dj := ⟨_, rfl⟩
          rw [hdj] at S1 HSw hsz'
          have S2 : Aside (SWK enc k w0 blk off (swp dj (a + s) (a + s + 1)) ((wr.drew.setCells blk (off + (a + s) * k) (enc dj[a + s + 1]!)).setCells blk (off + (a + s + 1) * k) (enc dj[a + s]!))) := S1.out.swapped HR.out (a + s) (a + s + 1) (by omega) (by omega)
          have la := S1.out.ld1 HR.out (by rw [HD.out]; exact hsz') P (a + s) (by omega)
          have lb := S1.out.ld1 HR.out (by rw [HD.out]; exact hsz') P (a + s + 1) (by omega)
          have sa := S1.out.st1 HR.out (by rw [HD.out]; exact hsz') P (a + s) (by omega) dj[a + s + 1]!
          have sb := S1.out.st2 HR.out (by rw [HD.out]; exact hsz') P (a + s) (a + s + 1) (by omega) (by omega) dj[a + s + 1]! dj[a + s]!
          have na : (enc dj[a + s]!).length = k := HR.out.hk _
          have nb : (enc dj[a + s + 1]!).length = k := HR.out.hk _
          generalize enc dj[a + s]! = cI at S2 la sb na
          generalize enc dj[a + s + 1]! = cJ at S2 lb sa sb nb
          clear S1 hsz' hdj hsV
          go_wp2_with fail
          go_big_region_o
          clear la lb sa sb
          generalize (wr.drew.setCells blk (off + (a + s) * k) cJ).setCells blk (off + (a + s + 1) * k) cI = w2 at S2 ⊢
          go_wp2
          go_roundg (i - m - (s + 1))
          case measure => omega
          case rel => exact ⟨s + 1, by go_num, by omega, Nat.le_refl _, by rw [← HSw.out]; exact S2⟩
        · have hgoz : ¬ (a : Int) + (s : Int) < (i : Int) - 1 := by omega
          obtain rfl : s = i - m := by omega
          clear hma2
          go_wp2_with fail
          (try simp only [Exit.inBlock, Exit.then]); refine bodyPost_ret (results_none rfl _ _ _) rfl ?_
          refine ⟨rfl, _, HE.out.1, HE.out.2, ?_⟩
          have := S1.out
          simpa only [List.append_assoc] using this

end Go.Proofs.Ytbddicaabjlbjaa
