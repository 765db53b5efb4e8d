/-
  The library's merging of two sorted neighbouring parts, of any length.
-/
import Derived.Test.YtbddicaabjlbjaaSymlast
import Derived.Deep.Cut
namespace Go.Proofs.Ytbddicaabjlbjaa
open Go Go.Shelf Go.RowKit Go.Lib Go.Sort
variable {P : Program} {k : Nat} {enc : ChD → List Value} {cf : ChD → ChD → Int} {g : Nat} {cb : Array Value} {blk off : Nat} {d0 : Array ChD} {w0 : World}

/-- Where the search begins and ends. -/
structure MidS (a m b mid lo hi : Nat) : Prop where
  a1 : a ≤ lo
  a2 : lo ≤ hi
  a3 : hi ≤ mid
  a4 : hi ≤ m
  a5 : mid + m ≤ b + lo
  a6 : hi = m ∨ hi = mid
  a7 : lo = a ∨ lo + b = mid + m

theorem mono_sym {X U V Y : List ChD} (hU : KS U) (hV : KS V) {a m b mid lo hi : Nat} (ha : X.length = a) (hm : a + U.length = m) (hb : m + V.length = b) (M : MidS a m b mid lo hi) :
    ∀ c c', lo ≤ c → c ≤ c' → c' < hi → ltC (X ++ (U ++ (V ++ Y))).toArray[mid + m - 1 - c']! (X ++ (U ++ (V ++ Y))).toArray[c']! = false → ltC (X ++ (U ++ (V ++ Y))).toArray[mid + m - 1 - c]! (X ++ (U ++ (V ++ Y))).toArray[c]! = false := fun c c' h1 h2 h3 h => by
  simp only [arr_get] at h ⊢
  have := M.a1; have := M.a3; have := M.a4; have := M.a5
  have e : X ++ (U ++ (V ++ Y)) = (X ++ U) ++ (V ++ Y) := by simp
  have k1 := ks_at (X := X) (U := U) (T := V ++ Y) hU (i := c) (j := c') (by omega) h2 (by omega)
  have k2 := ks_at (X := X ++ U) (U := V) (T := Y) hV (i := mid + m - 1 - c') (j := mid + m - 1 - c) (by simp; omega) (by omega) (by simp; omega)
  rw [← e] at k2
  exact le_le (le_le k1 h) k2

theorem end_sym {X U V Y : List ChD} (hU : KS U) (hV : KS V) {a m b mid lo hi t : Nat} (ha : X.length = a) (hm : a + U.length = m) (hb : m + V.length = b) (M : MidS a m b mid lo hi)
    (h : Srch (fun c => ltC (X ++ (U ++ (V ++ Y))).toArray[mid + m - 1 - c]! (X ++ (U ++ (V ++ Y))).toArray[c]! = false) lo hi t t) :
    (∀ x ∈ U.drop (t - a), ∀ y ∈ V.take (mid - t), lt y.key x.key = true) ∧ (∀ x ∈ U.take (t - a), ∀ y ∈ V.drop (mid - t), lt y.key x.key = false) := by
  have := M.a1; have := M.a2; have := M.a3; have := M.a4; have := M.a5
  have hl := h.le
  have e : X ++ (U ++ (V ++ Y)) = (X ++ U) ++ (V ++ Y) := by simp
  refine ⟨fun x hx y hy => ?_, fun x hx y hy => ?_⟩
  · obtain ⟨i, h1, h2, rfl⟩ := mem_drop_at (X := X) (T := V ++ Y) hx
    obtain ⟨j, j1, j2, j3, rfl⟩ := mem_take_at (X := X ++ U) (T := Y) hy
    rw [List.length_append] at j1 j2 j3
    have hlt : t < hi := by rcases M.a6 with h6 | h6 <;> omega
    have hn := h.no t (Nat.le_refl _) hlt
    simp only [arr_get] at hn
    have hn' : lt (X ++ (U ++ (V ++ Y)))[mid + m - 1 - t]!.key (X ++ (U ++ (V ++ Y)))[t]!.key = true := (Bool.not_eq_false _).mp hn
    have k1 := ks_at (X := X) (U := U) (T := V ++ Y) hU (i := t) (j := i) (by omega) (by omega) (by omega)
    have k2 := ks_at (X := X ++ U) (U := V) (T := Y) hV (i := j) (j := mid + m - 1 - t) (by simp; omega) (by omega) (by simp; omega)
    rw [← e] at k2 ⊢
    exact lt_le (le_lt k2 hn') k1
  · obtain ⟨i, h1, h2, h3, rfl⟩ := mem_take_at (X := X) (T := V ++ Y) hx
    obtain ⟨j, j1, j2, rfl⟩ := mem_drop_at (X := X ++ U) (T := Y) hy
    rw [List.length_append] at j1 j2
    have hlt : lo < t := by rcases M.a7 with h7 | h7 <;> omega
    have hn := h.yes (t - 1) (by omega) (by omega)
    simp only [arr_get] at hn
    have hn' : lt (X ++ (U ++ (V ++ Y)))[mid + m - 1 - (t - 1)]!.key (X ++ (U ++ (V ++ Y)))[t - 1]!.key = false := hn
    have k1 := ks_at (X := X) (U := U) (T := V ++ Y) hU (i := i) (j := t - 1) (by omega) (by omega) (by omega)
    have k2 := ks_at (X := X ++ U) (U := V) (T := Y) hV (i := mid + m - 1 - (t - 1)) (j := j) (by simp; omega) (by omega) (by simp; omega)
    rw [← e] at k2 ⊢
    exact le_le k1 (le_le hn' k2)

/-- Behind the rotation; behind the first half; behind both. -/
def Rot (enc : ChD → List Value) (k : Nat) (w0 : World) (blk off : Nat) (X U1 U2 V1 V2 Y : List ChD) (w : World) : Prop := SWK enc k w0 blk off (X ++ (U1 ++ (V1 ++ (U2 ++ (V2 ++ Y))))).toArray w
def Half (enc : ChD → List Value) (k : Nat) (w0 : World) (blk off : Nat) (X U1 U2 V1 V2 Y : List ChD) (w : World) : Prop := ∃ R1, KS R1 ∧ KP (U1 ++ V1) R1 ∧ SWK enc k w0 blk off (X ++ (R1 ++ (U2 ++ (V2 ++ Y)))).toArray w
def Full (enc : ChD → List Value) (k : Nat) (w0 : World) (blk off : Nat) (X L Y : List ChD) (w : World) : Prop := ∃ R, KS R ∧ KP L R ∧ SWK enc k w0 blk off (X ++ (R ++ Y)).toArray w

/-- What the rest of the merge calls, and what it leaves out. -/
structure Parts (P : Program) (enc : ChD → List Value) (k : Nat) (w0 : World) (blk off g : Nat) (cb : Array Value) (cap sz a m b mid t e : Nat) (X U1 U2 V1 V2 Y : List ChD) (w : World) : Prop where
  rot : t < m → m < e → Calls P 48 #[.slice (some ⟨blk, off, none⟩) sz cap, .int .i64 t, .int .i64 m, .int .i64 e, .func (.func g) #[] cb] w fun x w' => x = .returned (.tuple #[]) ∧ Rot enc k w0 blk off X U1 U2 V1 V2 Y w'
  rot' : ¬ (t < m ∧ m < e) → Rot enc k w0 blk off X U1 U2 V1 V2 Y w
  one : ∀ w, Rot enc k w0 blk off X U1 U2 V1 V2 Y w → a < t → t < mid → Calls P 42 #[.slice (some ⟨blk, off, none⟩) sz cap, .int .i64 a, .int .i64 t, .int .i64 mid, .func (.func g) #[] cb] w fun x w' => x = .returned (.tuple #[]) ∧ Half enc k w0 blk off X U1 U2 V1 V2 Y w'
  one' : ∀ w, Rot enc k w0 blk off X U1 U2 V1 V2 Y w → ¬ (a < t ∧ t < mid) → Half enc k w0 blk off X U1 U2 V1 V2 Y w
  two : ∀ w, Half enc k w0 blk off X U1 U2 V1 V2 Y w → mid < e → e < b → Calls P 42 #[.slice (some ⟨blk, off, none⟩) sz cap, .int .i64 mid, .int .i64 e, .int .i64 b, .func (.func g) #[] cb] w fun x w' => x = .returned (.tuple #[]) ∧ Full enc k w0 blk off X ((U1 ++ U2) ++ (V1 ++ V2)) Y w'
  two' : ∀ w, Half enc k w0 blk off X U1 U2 V1 V2 Y w → ¬ (mid < e ∧ e < b) → Full enc k w0 blk off X ((U1 ++ U2) ++ (V1 ++ V2)) Y w

/-- A merge of what is shorter than N. -/
def SymN (P : Program) (enc : ChD → List Value) (k : Nat) (w0 : World) (blk off g : Nat) (cb : Array Value) (d0 : Array ChD) (N : Nat) : Prop :=
  ∀ (X U V Y : List ChD) (cap a m b sz : Nat) (w : World), U.length + V.length ≤ N → X.length = a → a + U.length = m → m + V.length = b → 0 < U.length → 0 < V.length → KS U → KS V → (X ++ (U ++ (V ++ Y))).length = sz → d0.size = sz →
    SWK enc k w0 blk off (X ++ (U ++ (V ++ Y))).toArray w → Calls P 42 #[.slice (some ⟨blk, off, none⟩) sz cap, .int .i64 a, .int .i64 m, .int .i64 b, .func (.func g) #[] cb] w (Merged enc k w0 blk off X (U ++ V) Y)

theorem parts (E : SE P k enc cf g cb blk off d0 w0) {N : Nat} (ih : SymN P enc k w0 blk off g cb d0 N) {X U V Y : List ChD} {a m b mid lo hi t sz : Nat} (cap : Nat) {w : World} (hN : U.length + V.length ≤ N + 1) (hU : KS U) (hV : KS V) (ha : X.length = a) (hm : a + U.length = m) (hb : m + V.length = b)
    (hmid : mid = (a + b) / 2) (M : MidS a m b mid lo hi) (hsz : (X ++ (U ++ (V ++ Y))).length = sz) (hd : d0.size = sz)
    (h : Srch (fun c => ltC (X ++ (U ++ (V ++ Y))).toArray[mid + m - 1 - c]! (X ++ (U ++ (V ++ Y))).toArray[c]! = false) lo hi t t) (S : SWK enc k w0 blk off (X ++ (U ++ (V ++ Y))).toArray w) (h2 : 2 ≤ U.length + V.length) :
    Parts P enc k w0 blk off g cb cap sz a m b mid t (mid + m - t) X (U.take (t - a)) (U.drop (t - a)) (V.take (mid - t)) (V.drop (mid - t)) Y w := by
  obtain ⟨hA, hB⟩ := end_sym hU hV ha hm hb M h
  have hl := h.le
  have := M.a1; have := M.a2; have := M.a3; have := M.a4; have := M.a5
  have eU : U.take (t - a) ++ U.drop (t - a) = U := List.take_append_drop _ _
  have eV : V.take (mid - t) ++ V.drop (mid - t) = V := List.take_append_drop _ _
  have l1 : (U.take (t - a)).length = t - a := by rw [List.length_take]; omega
  have l2 : (U.drop (t - a)).length = m - t := by rw [List.length_drop]; omega
  have l3 : (V.take (mid - t)).length = mid - t := by rw [List.length_take]; omega
  have l4 : (V.drop (mid - t)).length = b - (mid + m - t) := by rw [List.length_drop]; omega
  obtain ⟨U1, h1⟩ : ∃ L, U.take (t - a) = L := ⟨_, rfl⟩
  obtain ⟨U2, h2'⟩ : ∃ L, U.drop (t - a) = L := ⟨_, rfl⟩
  obtain ⟨V1, h3⟩ : ∃ L, V.take (mid - t) = L := ⟨_, rfl⟩
  obtain ⟨V2, h4⟩ : ∃ L, V.drop (mid - t) = L := ⟨_, rfl⟩
  rw [h1] at eU l1 hB ⊢
  rw [h2'] at eU l2 hA ⊢
  rw [h3] at eV l3 hA ⊢
  rw [h4] at eV l4 hB ⊢
  clear h h1 h2' h3 h4
  subst eU eV
  have lens : (X ++ ((U1 ++ U2) ++ ((V1 ++ V2) ++ Y))).length = X.length + (U1.length + U2.length + (V1.length + V2.length + Y.length)) := by simp only [List.length_append]
  have lU : (U1 ++ U2).length = U1.length + U2.length := List.length_append
  have lV : (V1 ++ V2).length = V1.length + V2.length := List.length_append
  have eq0 : X ++ ((U1 ++ U2) ++ ((V1 ++ V2) ++ Y)) = (X ++ U1) ++ (U2 ++ (V1 ++ (V2 ++ Y))) := by simp
  have eq1 : X ++ (U1 ++ (V1 ++ (U2 ++ (V2 ++ Y)))) = (X ++ U1) ++ (V1 ++ (U2 ++ (V2 ++ Y))) := by simp
  have KU1 := hU.left
  have KU2 := hU.right
  have KV1 := hV.left
  have KV2 := hV.right
  refine ⟨fun q1 q2 => ?_, fun q => ?_, fun w1 S1 q1 q2 => ?_, fun w1 S1 q => ?_, fun w1 S1 q1 q2 => ?_, fun w1 S1 q => ?_⟩
  · rw [eq0] at S
    have := rotate_list E (X ++ U1) U2 V1 (V2 ++ Y) cap t m (mid + m - t) sz w (by rw [List.length_append]; omega) (by omega) (by omega) (by omega) (by omega) (by rw [← eq0]; exact hsz) hd S
    refine this.mono ?_
    rintro e w' ⟨rfl, S'⟩
    refine ⟨rfl, ?_⟩
    unfold Rot
    rw [eq1]; exact S'
  · unfold Rot
    have hz : U2 = [] ∨ V1 = [] := by
      rcases Nat.lt_or_ge t m with q1 | q1
      · right; exact List.eq_nil_of_length_eq_zero (by omega)
      · left; exact List.eq_nil_of_length_eq_zero (by omega)
    rcases hz with rfl | rfl <;> simpa using S
  · have hs2 : (X ++ (U1 ++ (V1 ++ (U2 ++ (V2 ++ Y))))).length = sz := by rw [← hsz, lens]; simp only [List.length_append]; omega
    have := ih X U1 V1 (U2 ++ (V2 ++ Y)) cap a t mid sz w1 (by omega) ha (by omega) (by omega) (by omega) (by omega) KU1 KV1 hs2 hd S1
    exact this
  · refine ⟨U1 ++ V1, ?_, KP.refl _, ?_⟩
    · have hz : U1 = [] ∨ V1 = [] := by
        rcases Nat.lt_or_ge a t with q1 | q1
        · right; exact List.eq_nil_of_length_eq_zero (by omega)
        · left; exact List.eq_nil_of_length_eq_zero (by omega)
      rcases hz with rfl | rfl
      · exact KV1
      · rw [List.append_nil]; exact KU1
    · unfold Rot at S1; rw [List.append_assoc]; exact S1
  · obtain ⟨R1, k1, p1, S2⟩ := S1
    have eq2 : X ++ (R1 ++ (U2 ++ (V2 ++ Y))) = (X ++ R1) ++ (U2 ++ (V2 ++ Y)) := by simp
    have lR : R1.length = U1.length + V1.length := by rw [← p1.1, List.length_append]
    rw [eq2] at S2
    have hs2 : ((X ++ R1) ++ (U2 ++ (V2 ++ Y))).length = sz := by rw [← hsz, lens]; simp only [List.length_append]; omega
    have := ih (X ++ R1) U2 V2 Y cap mid (mid + m - t) b sz w1 (by omega) (by rw [List.length_append]; omega) (by omega) (by omega) (by omega) (by omega) KU2 KV2 hs2 hd S2
    refine this.mono ?_
    rintro e w' ⟨rfl, R2, k2, p2, S3⟩
    obtain ⟨k3, p3⟩ := merge_halves hU hV hA hB k1 p1 k2 p2
    exact ⟨rfl, R1 ++ R2, k3, p3, by rw [show X ++ ((R1 ++ R2) ++ Y) = (X ++ R1) ++ (R2 ++ Y) by simp]; exact S3⟩
  · obtain ⟨R1, k1, p1, S2⟩ := S1
    have k2 : KS (U2 ++ V2) := by
      have hz : U2 = [] ∨ V2 = [] := by
        rcases Nat.lt_or_ge mid (mid + m - t) with q1 | q1
        · right; exact List.eq_nil_of_length_eq_zero (by omega)
        · left; exact List.eq_nil_of_length_eq_zero (by omega)
      rcases hz with rfl | rfl
      · exact KV2
      · rw [List.append_nil]; exact KU2
    obtain ⟨k3, p3⟩ := merge_halves hU hV hA hB k1 p1 k2 (KP.refl _)
    exact ⟨R1 ++ (U2 ++ V2), k3, p3, by rw [show X ++ ((R1 ++ (U2 ++ V2)) ++ Y) = X ++ (R1 ++ (U2 ++ (V2 ++ Y))) by simp]; exact S2⟩

end Go.Proofs.Ytbddicaabjlbjaa
