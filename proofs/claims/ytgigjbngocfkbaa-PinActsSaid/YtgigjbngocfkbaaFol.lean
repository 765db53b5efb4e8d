/-
  A routine of any kind behind a row of answers, and a tape that it is followed on: what the next act does to both. Plain.
-/
import Derived.Test.YtgigjbngocfkbaaTapes
import Derived.Test.YtgigjbngocfkbaaMrun
namespace Go.Proofs.Ytgigjbngocfkbaa
open Go Go.RowKit

section
variable {σ : Type} {M : Mach σ} {G : List (Int × ByteArray)} {E0 E : σ} {T : TapD} {x : ActD}
def feed (M : Mach σ) (E : σ) (g : Int × ByteArray) : σ := if (M.next E).isSome then M.take E g.1 g.2 else E
/-- The routine behind a row of answers. -/
def fed (M : Mach σ) (E : σ) (G : List (Int × ByteArray)) : σ := G.foldl (feed M) E
theorem fed_nil (M : Mach σ) (E : σ) : fed M E [] = E := rfl
theorem fed_cons (M : Mach σ) (E : σ) (g : Int × ByteArray) (G : List (Int × ByteArray)) : fed M E (g :: G) = fed M (feed M E g) G := rfl
theorem fed_snoc (M : Mach σ) (E : σ) (G : List (Int × ByteArray)) (g : Int × ByteArray) : fed M E (G ++ [g]) = feed M (fed M E G) g := by unfold fed; rw [List.foldl_append]; rfl
theorem fed_append (M : Mach σ) (E : σ) (G H : List (Int × ByteArray)) : fed M E (G ++ H) = fed M (fed M E G) H := by unfold fed; rw [List.foldl_append]
theorem fed_done (h : M.next E = none) : ∀ G, fed M E G = E
  | [] => rfl
  | g :: G => by
    rw [fed_cons]
    have : feed M E g = E := by unfold feed; rw [h]; rfl
    rw [this]; exact fed_done h G
theorem feed_some (h : (M.next E).isSome = true) (g : Int × ByteArray) : feed M E g = M.take E g.1 g.2 := by unfold feed; rw [if_pos h]
/-- The tape is not at its end; the routine behind what was answered is E. -/
structure Fol (M : Mach σ) (G : List (Int × ByteArray)) (E0 : σ) (T : TapD) (E : σ) : Prop where
  on : T.over = false
  act : T.act = noAct
  k : T.k ≤ G.length
  at_ : fed M E0 (G.take T.k) = E
/-- The tape is at its end, at what the routine does next. -/
structure Ovr (M : Mach σ) (G : List (Int × ByteArray)) (E0 : σ) (T : TapD) : Prop where
  on : T.over = true
  act : M.next (fed M E0 G) = some T.act
  k : T.k = G.length
theorem Fol.start (M : Mach σ) (G : List (Int × ByteArray)) (E0 : σ) : Fol M G E0 tape0 E0 := ⟨rfl, rfl, Nat.zero_le _, rfl⟩
/-- An act more. -/
theorem Fol.next (h : Fol M G E0 T E) (hx : M.next E = some x) (hG : ∀ g ∈ G, (0 ≤ g.1 ∧ g.1 < 18446744073709551616)) :
    (Ovr M G E0 (onT G T x) ∧ doW' G T = 0 ∧ doT' G T = ⟨#[]⟩) ∨ (∃ w t, doW' G T = w ∧ doT' G T = t ∧ (0 ≤ w ∧ w < 18446744073709551616) ∧ (w, t) ∈ G ∧ Fol M G E0 (onT G T x) (M.take E w t) ∧ (onT G T x).k = T.k + 1) := by
  obtain ⟨h1, h2, h3, h4⟩ := h
  rcases Nat.eq_or_lt_of_le h3 with hk | hk
  · refine .inl ⟨?_, ?_, ?_⟩
    · have e : onT G T x = ⟨T.k, true, x⟩ := by unfold onT; rw [if_neg (by rw [h1]; decide), if_pos hk]
      rw [e]
      refine ⟨rfl, ?_, hk⟩
      rw [hk, List.take_length] at h4
      rw [h4]; exact hx
    · unfold doW'; rw [if_neg (by rw [h1]; decide), List.getElem?_eq_none (by omega)]
    · unfold doT'; rw [if_neg (by rw [h1]; decide), List.getElem?_eq_none (by omega)]
  · refine .inr ⟨G[T.k].1, G[T.k].2, ?_, ?_, hG _ (List.getElem_mem hk), List.getElem_mem hk, ?_, ?_⟩
    · unfold doW'; rw [if_neg (by rw [h1]; decide), List.getElem?_eq_getElem hk]
    · unfold doT'; rw [if_neg (by rw [h1]; decide), List.getElem?_eq_getElem hk]
    · have e : onT G T x = ⟨T.k + 1, T.over, T.act⟩ := by unfold onT; rw [if_neg (by rw [h1]; decide), if_neg (by omega)]
      rw [e]
      refine ⟨h1, h2, hk, ?_⟩
      show fed M E0 (G.take (T.k + 1)) = _
      rw [List.take_succ_eq_append_getElem hk, fed_snoc, h4, feed_some (by rw [hx]; rfl)]
    · unfold onT; rw [if_neg (by rw [h1]; decide), if_neg (by omega)]
/-- Nothing more is done. -/
theorem Fol.done (h : Fol M G E0 T E) (hx : M.next E = none) : fed M E0 G = E := by
  rw [← List.take_append_drop T.k G, fed_append, h.at_, fed_done hx]
/-- A tape that is at its end stays. -/
theorem Ovr.stays (h : Ovr M G E0 T) (y : ActD) : onT G T y = T ∧ doW' G T = 0 := by
  constructor
  · unfold onT; rw [if_pos h.on]
  · unfold doW'; rw [if_pos h.on]
/-- What a reference's walk comes to: the tape is at its end at the routine's next act, or the routine is done, with this result. -/
def FolR {ρ : Type} (M : Mach σ) (G : List (Int × ByteArray)) (E0 : σ) (res : σ → Option ρ) (T : TapD) (R : ρ) : Prop :=
  Ovr M G E0 T ∨ (T.over = false ∧ T.act = noAct ∧ M.next (fed M E0 G) = none ∧ res (fed M E0 G) = some R)
theorem Fol.ends {ρ : Type} {res : σ → Option ρ} {R : ρ} (h : Fol M G E0 T E) (hx : M.next E = none) (hr : res E = some R) : FolR M G E0 res T R :=
  .inr ⟨h.on, h.act, by rw [h.done hx]; exact hx, by rw [h.done hx]; exact hr⟩
theorem FolR.over {ρ : Type} {res : σ → Option ρ} {R : ρ} (h : FolR M G E0 res T R) : T.over = (M.next (fed M E0 G)).isSome ∧ T.act = (M.next (fed M E0 G)).getD noAct := by
  rcases h with h | ⟨h1, h2, h3, _⟩
  · rw [h.act]; exact ⟨h.on, rfl⟩
  · rw [h3]; exact ⟨h1, h2⟩
end
/-- How many answers a tape in memory has told. -/
def kAt (b : Nat) (X : World) : Nat := match X.cell? ⟨b, 1, none⟩ with | some (.int _ n) => n.toNat | _ => 0
theorem TapAt.kAt {X : World} {b c : Nat} {ga : Option Addr} {G : List (Int × ByteArray)} {T : TapD} (h : TapAt X b ga c G T) : kAt b X = T.k := by
  have := h.nine.1.2.1
  unfold Go.Proofs.Ytgigjbngocfkbaa.kAt
  rw [this]
  show ((T.k : Int)).toNat = _
  omega

end Go.Proofs.Ytgigjbngocfkbaa
