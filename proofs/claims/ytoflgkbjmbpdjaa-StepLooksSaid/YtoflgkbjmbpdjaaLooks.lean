/-
  Which operations may be, and which are the same: the program and the reference.
-/
import Derived.Test.YtoflgkbjmbpdjaaKeys
import Derived.Laws.StructEq
namespace Go.Proofs.Ytoflgkbjmbpdjaa
open Go Go.RowKit

/-- Are two things the same? -/
noncomputable def eqD {α : Type} (a b : α) : Bool := @decide (a = b) (Classical.propDecidable _)
theorem eqD_ne {α : Type} {a b : α} (h : a ≠ b) : eqD a b = false := @decide_eq_false _ (Classical.propDecidable _) h
theorem eqD_of {α : Type} {a b : α} (h : a = b) : eqD a b = true := @decide_eq_true _ (Classical.propDecidable _) h
theorem eqD_self {α : Type} (a : α) : eqD a a = true := eqD_of rfl
theorem eqD_true {α : Type} {a b : α} (h : eqD a b = true) : a = b := @of_decide_eq_true _ (Classical.propDecidable _) h
theorem eqD_false {α : Type} {a b : α} (h : eqD a b = false) : a ≠ b := @of_decide_eq_false _ (Classical.propDecidable _) h

theorem toList_inj {a b : ByteArray} : (a.toList == b.toList) = eqD a b := by
  by_cases h : a = b
  · subst h; rw [eqD_self]; simp
  · rw [eqD_ne h, beq_eq_false_iff_ne]; exact fun e => h (ba_ext e)

theorem neqG (a b : GD) (w : World) : (binOp .neq 30 (.agg #[.int .i64 a.kind, .string a.key, .string a.val]) (.agg #[.int .i64 b.kind, .string b.key, .string b.val])).run Try.prog w = .ok (.bool (!eqD a b)) w := by
  have u3 := Try.underlying3
  have u9 := Try.underlying9
  have hS : Try.prog.underlying 30 = some (.struct (Try.prog.fieldsOf 30)) := by kernel_rfl
  have hp : Try.prog.stoodInHeld 30 = false := by kernel_rfl
  have hR : eqD a b = (a.kind == b.kind && (a.key.toList == b.key.toList && a.val.toList == b.val.toList)) := by
    obtain ⟨k, s, v⟩ := a
    obtain ⟨k', s', v'⟩ := b
    simp only [toList_inj]
    by_cases h1 : k = k'
    · by_cases h2 : s = s'
      · by_cases h3 : v = v'
        · subst h1 h2 h3; simp [eqD_self]
        · rw [eqD_ne (fun e => h3 (by cases e; rfl)), eqD_ne h3]; simp
      · rw [eqD_ne (fun e => h2 (by cases e; rfl)), eqD_ne h2]; simp
    · rw [eqD_ne (fun e => h1 (by cases e; rfl))]; simp [h1]
  rw [hR, run_neq_struct, show (10000 : Nat) = 9999 + 1 from rfl, run_equalIn_agg w 9999 30 _ _ hS hp]
  simp only [Program.fieldsOf, Try.underlying30]
  have a3 := Try.isAgg3
  have z3 := Try.sizeOf3
  have a9 := Try.isAgg9
  have z9 := Try.sizeOf9
  go_simp
  by_cases h1 : a.kind = b.kind <;> by_cases h2 : a.key.toList = b.key.toList <;> by_cases h3 : a.val.toList = b.val.toList <;> simp [h1, h2, h3]

theorem neqS (a b : SD) (w : World) : (binOp .neq 33 (.agg #[.int .i64 a.kind, .string a.key, .string a.val, .string a.old, .int .i64 a.n]) (.agg #[.int .i64 b.kind, .string b.key, .string b.val, .string b.old, .int .i64 b.n])).run Try.prog w = .ok (.bool (!eqD a b)) w := by
  have u2 := Try.underlying2
  have u3 := Try.underlying3
  have u9 := Try.underlying9
  have hS : Try.prog.underlying 33 = some (.struct (Try.prog.fieldsOf 33)) := by kernel_rfl
  have hp : Try.prog.stoodInHeld 33 = false := by kernel_rfl
  have hR : eqD a b = (a.kind == b.kind && (a.key.toList == b.key.toList && (a.val.toList == b.val.toList && (a.old.toList == b.old.toList && a.n == b.n)))) := by
    obtain ⟨k, s, v, o, n⟩ := a
    obtain ⟨k', s', v', o', n'⟩ := b
    simp only [toList_inj]
    by_cases h1 : k = k'
    · by_cases h2 : s = s'
      · by_cases h3 : v = v'
        · by_cases h4 : o = o'
          · by_cases h5 : n = n'
            · subst h1 h2 h3 h4 h5; simp [eqD_self]
            · rw [eqD_ne (fun e => h5 (by cases e; rfl))]; simp [h5]
          · rw [eqD_ne (fun e => h4 (by cases e; rfl)), eqD_ne h4]; simp
        · rw [eqD_ne (fun e => h3 (by cases e; rfl)), eqD_ne h3]; simp
      · rw [eqD_ne (fun e => h2 (by cases e; rfl)), eqD_ne h2]; simp
    · rw [eqD_ne (fun e => h1 (by cases e; rfl))]; simp [h1]
  rw [hR, run_neq_struct, show (10000 : Nat) = 9999 + 1 from rfl, run_equalIn_agg w 9999 33 _ _ hS hp]
  simp only [Program.fieldsOf, Try.underlying33]
  have a2 := Try.isAgg2
  have z2 := Try.sizeOf2
  have a3 := Try.isAgg3
  have z3 := Try.sizeOf3
  have a9 := Try.isAgg9
  have z9 := Try.sizeOf9
  go_simp
  by_cases h1 : a.kind = b.kind <;> by_cases h2 : a.key.toList = b.key.toList <;> by_cases h3 : a.val.toList = b.val.toList <;> by_cases h4 : a.old.toList = b.old.toList <;> by_cases h5 : a.n = b.n <;> simp [h1, h2, h3, h4, h5]

/-! ### each -/
theorem below_draws (w : World) (q : Nat) : Below w.heap.size w (w.drewN q) := ⟨rfl, rfl, rfl, Nat.le_refl _, fun _ _ => rfl⟩
theorem all_snoc {α : Type} (f : α → Bool) {L : List α} {k : Nat} (h : k < L.length) : (L.take (k + 1)).all f = ((L.take k).all f && f L[k]) := by
  rw [List.take_succ_eq_append_getElem h, List.all_append]; simp
theorem all_not {α : Type} {f : α → Bool} {L : List α} {k : Nat} (h : k < L.length) (hf : f L[k] = false) : L.all f = false := by
  rw [List.all_eq_false]
  exact ⟨L[k], List.getElem_mem h, by simp [hf]⟩

set_option maxHeartbeats 2000000 in
theorem each_g (p : Option Addr) (n c : Nat) (G : List GD) (w : World) (hG : Sg w p G) (hn : G.length = n) (hb : n ≤ 1000) (fG : ∀ g ∈ G, g.fits) :
    Calls Try.prog 22 #[.slice p n c, .func (.func 8) #[] #[]] w (Says (G.all rgD) w) := by
  have HG := Lib.hid (fun W (h : Below w.heap.size w W) => hG.grow h)
  have HN := Lib.hid hn
  have FG := Lib.hid fG
  clear hG hn fG
  go_enter Try.func22, Try.ntmps22
  go_wp2_with fail
  go_loopw [9] (fun s wr => ∃ k : Nat, s = .int .i64 k ∧ k ≤ n ∧ Hid (Below w.heap.size w wr) ∧ Hid ((G.take k).all rgD = true)) (fun s _ => n - (intOf s).toNat)
  case atStart => exact ⟨0, rfl, Nat.zero_le _, Below.refl _ _, by show (G.take 0).all rgD = true; simp⟩
  case round =>
    obtain ⟨k, rfl, hkn, hB, hA⟩ := hrel
    by_cases hlt : k < n
    · have hkG : k < G.length := by rw [HN.out]; exact hlt
      obtain ⟨b, o, rfl, c1, c2, c3⟩ := HG.out wr hB.out k hkG
      have HR := Lib.hid (fun W => rg_any G[k] W (FG.out _ (List.getElem_mem hkG)))
      have HT := Lib.hid (fun (e : rgD G[k] = true) => (show (G.take (k + 1)).all rgD = true by rw [all_snoc _ hkG, hA.out, e]; rfl))
      have HF := Lib.hid (fun (e : rgD G[k] = false) => all_not (f := rgD) hkG e)
      obtain ⟨⟨gk, gs, gv⟩, hg'⟩ : ∃ g, G[k] = g := ⟨_, rfl⟩
      rw [hg'] at c1 c2 c3 HR HT HF
      simp only at c1 c2 c3
      obtain ⟨r, hr⟩ : ∃ r, rgD ⟨gk, gs, gv⟩ = r := ⟨_, rfl⟩
      rw [hr] at HR HT HF
      clear hg' hr hkG
      have hltz : (k : Int) < (n : Int) := by omega
      have h0 : (0 : Int) ≤ (k : Int) := by omega
      go_wp2_with fail
      refine (HR.out _).mono ?_
      rintro e w3 ⟨rfl, hb3⟩
      have HB3 := Lib.hid (hB.out.trans ((below_alloc wr _).trans (hb3.mono (by simp)) |>.mono hB.out.size))
      clear hb3
      cases r
      · have HE := Lib.hid (show Says (G.all rgD) w (.returned (.bool false)) w3 from Says.mk (HF.out rfl).symm HB3.out)
        go_wp2_with fail
        go_ret
        exact HE.out
      · have HE := Lib.hid (HT.out rfl)
        go_wp2_with fail
        go_roundw
        case rel => exact ⟨k + 1, by go_num, by omega, HB3, HE⟩
        case measure => simp [intOf]; omega
    · obtain rfl : k = n := by omega
      have HE := Lib.hid (show Says (G.all rgD) w (.returned (.bool true)) wr from Says.mk (by rw [← hA.out, List.take_of_length_le (by rw [HN.out]; exact Nat.le_refl _)]) hB.out)
      go_wp2_with fail
      go_ret
      exact HE.out

set_option maxHeartbeats 2000000 in
theorem each_s (p : Option Addr) (n c : Nat) (G : List SD) (w : World) (hG : Ss w p G) (hn : G.length = n) (hb : n ≤ 1000) (fG : ∀ g ∈ G, g.fits) :
    Calls Try.prog 23 #[.slice p n c, .func (.func 10) #[] #[]] w (Says (G.all rsD) w) := by
  have HG := Lib.hid (fun W (h : Below w.heap.size w W) => hG.grow h)
  have HN := Lib.hid hn
  have FG := Lib.hid fG
  clear hG hn fG
  go_enter Try.func23, Try.ntmps23
  go_wp2_with fail
  go_loopw [9] (fun s wr => ∃ k : Nat, s = .int .i64 k ∧ k ≤ n ∧ Hid (Below w.heap.size w wr) ∧ Hid ((G.take k).all rsD = true)) (fun s _ => n - (intOf s).toNat)
  case atStart => exact ⟨0, rfl, Nat.zero_le _, Below.refl _ _, by show (G.take 0).all rsD = true; simp⟩
  case round =>
    obtain ⟨k, rfl, hkn, hB, hA⟩ := hrel
    by_cases hlt : k < n
    · have hkG : k < G.length := by rw [HN.out]; exact hlt
      obtain ⟨b, o, rfl, c1, c2, c3, c4, c5⟩ := HG.out wr hB.out k hkG
      have HR := Lib.hid (fun W => rs_any G[k] W (FG.out _ (List.getElem_mem hkG)))
      have HT := Lib.hid (fun (e : rsD G[k] = true) => (show (G.take (k + 1)).all rsD = true by rw [all_snoc _ hkG, hA.out, e]; rfl))
      have HF := Lib.hid (fun (e : rsD G[k] = false) => all_not (f := rsD) hkG e)
      obtain ⟨⟨gk, gs, gv, go, gn⟩, hg'⟩ : ∃ g, G[k] = g := ⟨_, rfl⟩
      rw [hg'] at c1 c2 c3 c4 c5 HR HT HF
      simp only at c1 c2 c3 c4 c5
      obtain ⟨r, hr⟩ : ∃ r, rsD ⟨gk, gs, gv, go, gn⟩ = r := ⟨_, rfl⟩
      rw [hr] at HR HT HF
      clear hg' hr hkG
      have hltz : (k : Int) < (n : Int) := by omega
      have h0 : (0 : Int) ≤ (k : Int) := by omega
      go_wp2_with fail
      refine (HR.out _).mono ?_
      rintro e w3 ⟨rfl, hb3⟩
      have HB3 := Lib.hid (hB.out.trans ((below_alloc wr _).trans (hb3.mono (by simp)) |>.mono hB.out.size))
      clear hb3
      cases r
      · have HE := Lib.hid (show Says (G.all rsD) w (.returned (.bool false)) w3 from Says.mk (HF.out rfl).symm HB3.out)
        go_wp2_with fail
        go_ret
        exact HE.out
      · have HE := Lib.hid (HT.out rfl)
        go_wp2_with fail
        go_roundw
        case rel => exact ⟨k + 1, by go_num, by omega, HB3, HE⟩
        case measure => simp [intOf]; omega
    · obtain rfl : k = n := by omega
      have HE := Lib.hid (show Says (G.all rsD) w (.returned (.bool true)) wr from Says.mk (by rw [← hA.out, List.take_of_length_le (by rw [HN.out]; exact Nat.le_refl _)]) hB.out)
      go_wp2_with fail
      go_ret
      exact HE.out

end Go.Proofs.Ytoflgkbjmbpdjaa
