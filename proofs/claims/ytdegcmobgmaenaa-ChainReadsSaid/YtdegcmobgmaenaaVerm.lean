/-
  shelf's routine as a kind of routine; alone, beside a heap: what it makes.
-/
import Derived.Test.YtdegcmobgmaenaaVer2
import Derived.Test.YtdegcmobgmaenaaMrun
namespace Go.Proofs.Ytdegcmobgmaenaa
open Go Go.RowKit

theorem ver_metA (n r : Nat) (w : World) : (method (n + 1) 58 (.pointer (some ⟨r, 0, none⟩)) "Act").run Try.prog w = .ok (68, .pointer (some ⟨r, 0, none⟩)) w := by kernel_rfl
theorem ver_metT (n r : Nat) (w : World) : (method (n + 1) 58 (.pointer (some ⟨r, 0, none⟩)) "Take").run Try.prog w = .ok (69, .pointer (some ⟨r, 0, none⟩)) w := by kernel_rfl
theorem ver_entA (args : Array Value) (w : World) : (callFunc 68 args).run Try.prog w = .ok (.enter 68 args) w := enters_of Try.func68 (by kernel_rfl) rfl args w
theorem ver_entT (args : Array Value) (w : World) : (callFunc 69 args).run Try.prog w = .ok (.enter 69 args) w := enters_of Try.func69 (by kernel_rfl) rfl args w
def VerM : Mach VerD where
  tid := 58
  fA := 68
  fT := 69
  next := nextV
  take := takeV
  At := VerAt
  metA := ver_metA
  metT := ver_metT
  entA := ver_entA
  entT := ver_entT
  stays := fun h hs => h.stays hs
  lt := fun h => h.lt
  base := fun h k hk => by rw [h.foot] at hk; subst hk; exact h.base
  self := fun h => by rw [h.foot]
  fits := fun h hx => todoV_fits h.fits hx
  act := fun h => act_is _ h
  takes := fun {W B r s f w t} h hs hg => by
    have e : ((w.toNat : Nat) : Int) = w := by have := hg.1; omega
    refine (show Calls Try.prog 69 #[.pointer (some ⟨r, 0, none⟩), gotV w t] W (TakeVE W B r (takeV s w t) f) from by
      have h1 := take_is W h hs w.toNat (by have := hg.1; omega) t
      rw [e] at h1; exact h1).mono fun e W' he => ⟨f, he.1, he.2.1, he.2.2⟩

theorem ready_ver (D : HpD) {x : ActD} (hk : x.kind = 5 ∨ x.kind = 2) : readyA D x = true := by
  unfold readyA
  split
  · rw [if_neg (by omega), if_neg (by omega)]
  · rfl
theorem adv_ver {D : HpD} {v : VerD} {x : ActD} (h : nextV v = some x) : advM VerM ⟨D, v⟩ = ⟨doN D x, takeV v (doW D x) (doT D x)⟩ ∧ stepM VerM ⟨D, v⟩ = some ⟨x, doW D x, doT D x⟩ := by
  have hr := ready_ver D (todoV_kind h)
  have hs : stepM VerM ⟨D, v⟩ = some ⟨x, doW D x, doT D x⟩ := by
    unfold stepM
    show (match nextV v with | some x => if readyA D x then some (⟨x, doW D x, doT D x⟩ : StepD) else none | none => none) = _
    rw [h]; simp [hr]
  refine ⟨?_, hs⟩
  unfold advM
  rw [hs]
  exact nextM_some (M := VerM) (S := ⟨D, v⟩) h
/-- What stands behind the first act. -/
def blkV (ws : List Int) (t : ByteArray) : BlkD := ⟨ws, t, false⟩
theorem right_make {t : ByteArray} (ht : t.size ≤ 4096) : rightA ⟨5, 0, 3, 0, 0, t⟩ = true := by
  have : ((t.size : Nat) : Int) ≤ 4096 := by omega
  simp [rightA, zeroA, restA, this]
theorem right_store (b : Nat) (c w : Int) (hc : 0 ≤ c) : rightA ⟨2, b, c, 0, w, ⟨#[]⟩⟩ = true := by
  have : (((⟨#[]⟩ : ByteArray).size : Nat) : Int) ≤ 4096 := by decide
  simp [rightA, zeroA, restA, hc, this]
theorem adv_make {D : HpD} {v : VerD} (hp : v.place = 1) (ht : v.text.size ≤ 4096) :
    advM VerM ⟨D, v⟩ = ⟨D.add (blkV [0, 0, 0] v.text), (v.of (D.L.length + 1)).to (firstV (v.of (D.L.length + 1)) 2)⟩ ∧ (stepM VerM ⟨D, v⟩).isSome = true := by
  have hn : nextV v = some ⟨5, 0, 3, 0, 0, v.text⟩ := by unfold nextV; rw [hp]; rfl
  obtain ⟨h1, h2⟩ := adv_ver (D := D) hn
  have hr := right_make ht
  have w1 : doW D ⟨5, 0, 3, 0, 0, v.text⟩ = ((D.L.length + 1 : Nat) : Int) := by unfold doW; rw [hr]; rfl
  have n1 : doN D ⟨5, 0, 3, 0, 0, v.text⟩ = D.add (blkV [0, 0, 0] v.text) := by unfold doN; rw [hr]; rfl
  rw [h2]
  refine ⟨?_, rfl⟩
  rw [h1, w1, n1]
  have : takeV v ((D.L.length + 1 : Nat) : Int) (doT D ⟨5, 0, 3, 0, 0, v.text⟩) = (v.of (D.L.length + 1)).to (firstV (v.of (D.L.length + 1)) 2) := by
    unfold takeV; rw [if_pos hp, hp, Int.toNat_natCast]
  rw [this]
theorem live_last (D : HpD) (ws : List Int) (t : ByteArray) : liveAt (D.add (blkV ws t)).L (D.L.length + 1) = some (blkV ws t) := by
  show liveAt (D.L ++ [blkV ws t]) (D.L.length + 1) = _
  rw [liveAt_snoc, if_pos rfl]; rfl
theorem word_last (D : HpD) (ws : List Int) (t : ByteArray) (c w : Int) : (D.add (blkV ws t)).word (D.L.length + 1) c w = D.add (blkV (ws.set c.toNat w) t) := by
  unfold HpD.word
  rw [live_last]
  show (⟨(D.L ++ [blkV ws t]).set (D.L.length + 1 - 1) _, D.locked, D.faults⟩ : HpD) = ⟨D.L ++ [_], D.locked, D.faults⟩
  rw [Nat.add_sub_cancel, List.set_append_right _ _ (Nat.le_refl _), Nat.sub_self]; rfl
theorem adv_store {D : HpD} {v : VerD} {t : ByteArray} {ws : List Int} {c w : Int} (hn : nextV v = some ⟨2, D.L.length + 1, c, 0, w, ⟨#[]⟩⟩) (hp : v.place ≠ 1) (hc : 0 ≤ c) (hl : c < (ws.length : Int)) :
    advM VerM ⟨D.add (blkV ws t), v⟩ = ⟨D.add (blkV (ws.set c.toNat w) t), v.to (firstV v (v.place + 1))⟩ ∧ (stepM VerM ⟨D.add (blkV ws t), v⟩).isSome = true := by
  obtain ⟨h1, h2⟩ := adv_ver (D := D.add (blkV ws t)) hn
  have hr := right_store (D.L.length + 1) c w hc
  have hs : spot (D.add (blkV ws t)).L (D.L.length + 1) c = 0 := by
    unfold spot; rw [live_last]; simp only; rw [if_neg]; show ¬ (c < 0 ∨ (ws.length : Int) ≤ c); omega
  have n1 : doN (D.add (blkV ws t)) ⟨2, D.L.length + 1, c, 0, w, ⟨#[]⟩⟩ = D.add (blkV (ws.set c.toNat w) t) := by
    unfold doN; rw [hr]
    show storeD (D.add (blkV ws t)) (D.L.length + 1) c w = _
    unfold storeD
    rw [if_pos hs, word_last]
  rw [h2]
  refine ⟨?_, rfl⟩
  rw [h1, n1]
  congr 1
  unfold takeV; rw [if_neg hp]

/-- How many acts a version takes. -/
def actsV (nx : Int) (has : Bool) : Nat := 2 + (if nx = 0 then 0 else 1) + (if has then 1 else 0)
/-- Alone: what is made. -/
theorem ver_alone (D : HpD) (ep nx : Int) (has : Bool) (t : ByteArray) (ht : t.size ≤ 4096) (m : Nat) (hm : 4 ≤ m) :
    stM VerM ⟨D, ⟨ep, nx, has, t, 1, 0⟩⟩ m = ⟨D.add (blkV [ep, nx, if has then 1 else 0] t), ⟨ep, nx, has, t, 5, D.L.length + 1⟩⟩ ∧ (toM VerM ⟨D, ⟨ep, nx, has, t, 1, 0⟩⟩ m).length = actsV nx has := by
  have hst : ∀ (b : Nat) (c w : Int), b ≠ 0 → storeV b c w = some ⟨2, b, c, 0, w, ⟨#[]⟩⟩ := fun b c w hb => by unfold storeV; rw [if_neg hb]
  have key : ∃ n, n ≤ 4 ∧ n = actsV nx has ∧ stM VerM ⟨D, ⟨ep, nx, has, t, 1, 0⟩⟩ n = ⟨D.add (blkV [ep, nx, if has then 1 else 0] t), ⟨ep, nx, has, t, 5, D.L.length + 1⟩⟩ ∧ (toM VerM ⟨D, ⟨ep, nx, has, t, 1, 0⟩⟩ n).length = n := by
    have s0 : stM VerM ⟨D, ⟨ep, nx, has, t, 1, 0⟩⟩ 0 = ⟨D, ⟨ep, nx, has, t, 1, 0⟩⟩ ∧ (toM VerM ⟨D, ⟨ep, nx, has, t, 1, 0⟩⟩ 0).length = 0 := ⟨rfl, rfl⟩
    have s1 := stM_succ s0 (adv_make (D := D) (v := ⟨ep, nx, has, t, 1, 0⟩) rfl ht)
    have hb : D.L.length + 1 ≠ 0 := by omega
    have f2 : firstV (VerD.of ⟨ep, nx, has, t, 1, 0⟩ (D.L.length + 1)) 2 = 2 := firstV_at (by omega) (by show (storeV (D.L.length + 1) 0 ep).isSome = true; rw [hst _ _ _ hb]; rfl)
    rw [f2] at s1
    have s2 := stM_succ s1 (adv_store (D := D) (v := ⟨ep, nx, has, t, 2, D.L.length + 1⟩) (t := t) (ws := [0, 0, 0]) (c := 0) (w := ep) (by show storeV (D.L.length + 1) 0 ep = _; exact hst _ _ _ hb) (by simp) (by decide) (by decide))
    by_cases hx : nx = 0
    · subst hx
      have n3 : todoV ⟨ep, 0, has, t, 2, D.L.length + 1⟩ 3 = none := rfl
      have f3 := firstV_on (v := ⟨ep, 0, has, t, 2, D.L.length + 1⟩) (a := 3) (by omega) (by omega) n3
      cases has with
      | false =>
        have n4 : todoV ⟨ep, 0, false, t, 2, D.L.length + 1⟩ 4 = none := rfl
        have f4 := firstV_on (v := ⟨ep, 0, false, t, 2, D.L.length + 1⟩) (a := 4) (by omega) (by omega) n4
        exact ⟨2, by omega, rfl, by rw [s2.1]; show (⟨_, VerD.to _ (firstV _ 3)⟩ : PmS VerD) = _; rw [f3, f4]; rfl, s2.2⟩
      | true =>
        have f4 : firstV (⟨ep, 0, true, t, 2, D.L.length + 1⟩ : VerD) 4 = 4 := firstV_at (by omega) (by show (storeV (D.L.length + 1) 2 1).isSome = true; rw [hst _ _ _ hb]; rfl)
        have s2' : stM VerM ⟨D, ⟨ep, 0, true, t, 1, 0⟩⟩ 2 = ⟨D.add (blkV [ep, 0, 0] t), ⟨ep, 0, true, t, 4, D.L.length + 1⟩⟩ ∧ (toM VerM ⟨D, ⟨ep, 0, true, t, 1, 0⟩⟩ 2).length = 2 := ⟨by rw [s2.1]; show (⟨_, VerD.to _ (firstV _ 3)⟩ : PmS VerD) = _; rw [f3, f4]; rfl, s2.2⟩
        have s3 := stM_succ s2' (adv_store (D := D) (v := ⟨ep, 0, true, t, 4, D.L.length + 1⟩) (t := t) (ws := [ep, 0, 0]) (c := 2) (w := 1) (by show storeV (D.L.length + 1) 2 1 = _; exact hst _ _ _ hb) (by simp) (by decide) (by simp))
        exact ⟨3, by omega, rfl, by rw [s3.1]; rfl, s3.2⟩
    · have f3 : firstV (⟨ep, nx, has, t, 2, D.L.length + 1⟩ : VerD) 3 = 3 := firstV_at (by omega) (by show (if nx = 0 then none else storeV (D.L.length + 1) 1 nx).isSome = true; rw [if_neg hx, hst _ _ _ hb]; rfl)
      have s2' : stM VerM ⟨D, ⟨ep, nx, has, t, 1, 0⟩⟩ 2 = ⟨D.add (blkV [ep, 0, 0] t), ⟨ep, nx, has, t, 3, D.L.length + 1⟩⟩ ∧ (toM VerM ⟨D, ⟨ep, nx, has, t, 1, 0⟩⟩ 2).length = 2 := ⟨by rw [s2.1]; show (⟨_, VerD.to _ (firstV _ 3)⟩ : PmS VerD) = _; rw [f3]; rfl, s2.2⟩
      have s3 := stM_succ s2' (adv_store (D := D) (v := ⟨ep, nx, has, t, 3, D.L.length + 1⟩) (t := t) (ws := [ep, 0, 0]) (c := 1) (w := nx) (by show (if nx = 0 then none else storeV (D.L.length + 1) 1 nx) = _; rw [if_neg hx]; exact hst _ _ _ hb) (by simp) (by decide) (by simp))
      cases has with
      | false =>
        have n4 : todoV ⟨ep, nx, false, t, 3, D.L.length + 1⟩ 4 = none := rfl
        have f4 := firstV_on (v := ⟨ep, nx, false, t, 3, D.L.length + 1⟩) (a := 4) (by omega) (by omega) n4
        exact ⟨3, by omega, by simp [actsV, hx], by rw [s3.1]; show (⟨_, VerD.to _ (firstV _ 4)⟩ : PmS VerD) = _; rw [f4]; rfl, s3.2⟩
      | true =>
        have f4 : firstV (⟨ep, nx, true, t, 3, D.L.length + 1⟩ : VerD) 4 = 4 := firstV_at (by omega) (by show (storeV (D.L.length + 1) 2 1).isSome = true; rw [hst _ _ _ hb]; rfl)
        have s3' : stM VerM ⟨D, ⟨ep, nx, true, t, 1, 0⟩⟩ 3 = ⟨D.add (blkV [ep, nx, 0] t), ⟨ep, nx, true, t, 4, D.L.length + 1⟩⟩ ∧ (toM VerM ⟨D, ⟨ep, nx, true, t, 1, 0⟩⟩ 3).length = 3 := ⟨by rw [s3.1]; show (⟨_, VerD.to _ (firstV _ 4)⟩ : PmS VerD) = _; rw [f4]; rfl, s3.2⟩
        have s4 := stM_succ s3' (adv_store (D := D) (v := ⟨ep, nx, true, t, 4, D.L.length + 1⟩) (t := t) (ws := [ep, nx, 0]) (c := 2) (w := 1) (by show storeV (D.L.length + 1) 2 1 = _; exact hst _ _ _ hb) (by simp) (by decide) (by simp))
        exact ⟨4, by omega, by simp [actsV, hx], by rw [s4.1]; rfl, s4.2⟩
  obtain ⟨n, hn4, hna, h1, h2⟩ := key
  have hno : stepM VerM (stM VerM ⟨D, ⟨ep, nx, has, t, 1, 0⟩⟩ n) = none := by rw [h1]; rfl
  obtain ⟨q1, q2⟩ := mstop_stays hno (m - n)
  rw [show n + (m - n) = m from by omega] at q1 q2
  exact ⟨by rw [q2, h1], by rw [q1, h2, hna]⟩

end Go.Proofs.Ytdegcmobgmaenaa
