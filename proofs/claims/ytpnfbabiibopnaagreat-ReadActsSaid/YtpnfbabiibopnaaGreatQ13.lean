/-
  Tapes, Fol, Foi, in one text.
-/
import Derived.Test.YtpnfbabiibopnaaGreatQ07
import Derived.Test.YtpnfbabiibopnaaGreatQ09
import Derived.Test.YtpnfbabiibopnaaGreatQ12
/-! The calls of the statements' tape. -/
namespace Go.Proofs.YtpnfbabiibopnaaGreat
open Go Go.RowKit
attribute [local go_sem ↓] Go.wp_at_zero Go.wp_at_succ

abbrev tapZ (ga : Option Addr) (k c : Nat) : Obj := .cells #[.slice ga k c, .int .i64 0, .bool false, .int .i64 0, .int .u64 0, .int .i64 0, .int .u64 0, .int .u64 0, .string ⟨#[]⟩] 48 (0, 0)

theorem run_field_word (W : World) (w : Int) (t : ByteArray) : (Instr.field 53 (gotV w t) 0).run Tryz.prog W = .ok (.int .u64 w) W := by
  kernel_rfl

theorem run_field_text (W : World) (w : Int) (t : ByteArray) : (Instr.field 53 (gotV w t) 1).run Tryz.prog W = .ok (.string t) W := by
  kernel_rfl

section
variable {W : World} {b c : Nat} {ga : Option Addr} {G : List (Int × ByteArray)} {T : TapD}

set_option maxRecDepth 100000 in
set_option maxHeartbeats 2000000 in
theorem tape_load (h : TapAt W b ga c G T) (hga : ∀ a, ga = some a → a.block < W.heap.size) (k : Nat) (i : Int) :
    Calls Tryz.prog 57 #[.pointer (some ⟨b, 0, none⟩), .int .u64 (k : Int), .int .i64 i] W (TapR b ga c G (onT G T ⟨1, k, i, 0, 0, ⟨#[]⟩⟩) (.int .u64 (doW' G T)) W) := by
  have H := Lib.hid (tape_do W h hga ⟨1, k, i, 0, 0, ⟨#[]⟩⟩)
  obtain ⟨w', hw'⟩ : ∃ w, doW' G T = w := ⟨_, rfl⟩
  obtain ⟨t', ht'⟩ : ∃ w, doT' G T = w := ⟨_, rfl⟩
  rw [hw', ht'] at H
  rw [hw']
  have hfw := fun X => run_field_word X w' t'
  clear h hga hw' ht'
  go_enter Tryz.func57, Tryz.ntmps57
  go_wp2_with fail
  refine H.out.mono ?_
  rintro en w1 ⟨rfl, h1, s1⟩
  have H1 := Lib.hid (And.intro h1 s1)
  clear h1 s1
  go_wp2_with fail
  go_ret
  exact ⟨rfl, H1.out.1, H1.out.2⟩

set_option maxRecDepth 100000 in
set_option maxHeartbeats 2000000 in
theorem tape_words (h : TapAt W b ga c G T) (hga : ∀ a, ga = some a → a.block < W.heap.size) (k : Nat) :
    Calls Tryz.prog 63 #[.pointer (some ⟨b, 0, none⟩), .int .u64 (k : Int)] W (TapR b ga c G (onT G T ⟨6, k, 0, 0, 0, ⟨#[]⟩⟩) (.string (doT' G T)) W) := by
  have H := Lib.hid (tape_do W h hga ⟨6, k, 0, 0, 0, ⟨#[]⟩⟩)
  obtain ⟨w', hw'⟩ : ∃ w, doW' G T = w := ⟨_, rfl⟩
  obtain ⟨t', ht'⟩ : ∃ w, doT' G T = w := ⟨_, rfl⟩
  rw [hw', ht'] at H
  rw [ht']
  have hfw := fun X => run_field_text X w' t'
  clear h hga hw' ht'
  go_enter Tryz.func63, Tryz.ntmps63
  go_wp2_with fail
  refine H.out.mono ?_
  rintro en w1 ⟨rfl, h1, s1⟩
  have H1 := Lib.hid (And.intro h1 s1)
  clear h1 s1
  go_wp2_with fail
  go_ret
  exact ⟨rfl, H1.out.1, H1.out.2⟩

set_option maxRecDepth 100000 in
set_option maxHeartbeats 2000000 in
theorem tape_store (h : TapAt W b ga c G T) (hga : ∀ a, ga = some a → a.block < W.heap.size) (k : Nat) (i w : Int) :
    Calls Tryz.prog 60 #[.pointer (some ⟨b, 0, none⟩), .int .u64 (k : Int), .int .i64 i, .int .u64 w] W (TapR b ga c G (onT G T ⟨2, k, i, 0, w, ⟨#[]⟩⟩) (.tuple #[]) W) := by
  have H := Lib.hid (tape_do W h hga ⟨2, k, i, 0, w, ⟨#[]⟩⟩)
  obtain ⟨w', hw'⟩ : ∃ w, doW' G T = w := ⟨_, rfl⟩
  obtain ⟨t', ht'⟩ : ∃ w, doT' G T = w := ⟨_, rfl⟩
  rw [hw', ht'] at H
  clear h hga hw' ht'
  go_enter Tryz.func60, Tryz.ntmps60
  go_wp2_with fail
  refine H.out.mono ?_
  rintro en w1 ⟨rfl, h1, s1⟩
  have H1 := Lib.hid (And.intro h1 s1)
  clear h1 s1
  go_wp2_with fail
  go_end0
  exact ⟨rfl, H1.out.1, H1.out.2⟩

set_option maxRecDepth 100000 in
set_option maxHeartbeats 2000000 in
theorem tape_swap (h : TapAt W b ga c G T) (hga : ∀ a, ga = some a → a.block < W.heap.size) (k : Nat) (i o w : Int) :
    Calls Tryz.prog 59 #[.pointer (some ⟨b, 0, none⟩), .int .u64 (k : Int), .int .i64 i, .int .u64 o, .int .u64 w] W (TapR b ga c G (onT G T ⟨3, k, i, o, w, ⟨#[]⟩⟩) (.int .u64 (doW' G T)) W) := by
  have H := Lib.hid (tape_do W h hga ⟨3, k, i, o, w, ⟨#[]⟩⟩)
  obtain ⟨w', hw'⟩ : ∃ w, doW' G T = w := ⟨_, rfl⟩
  obtain ⟨t', ht'⟩ : ∃ w, doT' G T = w := ⟨_, rfl⟩
  rw [hw', ht'] at H
  rw [hw']
  have hfw := fun X => run_field_word X w' t'
  clear h hga hw' ht'
  go_enter Tryz.func59, Tryz.ntmps59
  go_wp2_with fail
  refine H.out.mono ?_
  rintro en w1 ⟨rfl, h1, s1⟩
  have H1 := Lib.hid (And.intro h1 s1)
  clear h1 s1
  go_wp2_with fail
  go_ret
  exact ⟨rfl, H1.out.1, H1.out.2⟩

end

end Go.Proofs.YtpnfbabiibopnaaGreat

/-! A routine of any kind behind a row of answers, and a tape that it is followed on: what the next act does to both. Plain. -/
namespace Go.Proofs.YtpnfbabiibopnaaGreat
open Go Go.RowKit

section
variable {σ : Type} {M : Mach σ} {G : List (Int × ByteArray)} {E0 E : σ} {T : TapD} {x : ActD}
def feed (M : Mach σ) (E : σ) (g : Int × ByteArray) : σ := if (M.next E).isSome then M.take E g.1 g.2 else E
/-- The routine behind a row of answers. -/
def fed (M : Mach σ) (E : σ) (G : List (Int × ByteArray)) : σ := G.foldl (feed M) E
theorem fed_nil (M : Mach σ) (E : σ) : fed M E [] = E := rfl
theorem fed_cons (M : Mach σ) (E : σ) (g : Int × ByteArray) (G : List (Int × ByteArray)) : fed M E (g :: G) = fed M (feed M E g) G := rfl
theorem fed_snoc (M : Mach σ) (E : σ) (G : List (Int × ByteArray)) (g : Int × ByteArray) : fed M E (G ++ [g]) = feed M (fed M E G) g := by unfold fed; rw [List.foldl_append]; rfl
theorem fed_append (M : Mach σ) (E : σ) (G H : List (Int × ByteArray)) : fed M E (G ++ H) = fed M (fed M E G) H := by unfold fed; rw [List.foldl_append]
theorem fed_done (h : M.next E = none) : ∀ G, fed M E G = E
  | [] => rfl
  | g :: G => by
    rw [fed_cons]
    have : feed M E g = E := by unfold feed; rw [h]; rfl
    rw [this]; exact fed_done h G
theorem feed_some (h : (M.next E).isSome = true) (g : Int × ByteArray) : feed M E g = M.take E g.1 g.2 := by unfold feed; rw [if_pos h]
/-- The tape is not at its end; the routine behind what was answered is E. -/
structure Fol (M : Mach σ) (G : List (Int × ByteArray)) (E0 : σ) (T : TapD) (E : σ) : Prop where
  on : T.over = false
  act : T.act = noAct
  k : T.k ≤ G.length
  at_ : fed M E0 (G.take T.k) = E
/-- The tape is at its end, at what the routine does next. -/
structure Ovr (M : Mach σ) (G : List (Int × ByteArray)) (E0 : σ) (T : TapD) : Prop where
  on : T.over = true
  act : M.next (fed M E0 G) = some T.act
  k : T.k = G.length
theorem Fol.start (M : Mach σ) (G : List (Int × ByteArray)) (E0 : σ) : Fol M G E0 tape0 E0 := ⟨rfl, rfl, Nat.zero_le _, rfl⟩
/-- An act more. -/
theorem Fol.next (h : Fol M G E0 T E) (hx : M.next E = some x) (hG : ∀ g ∈ G, (0 ≤ g.1 ∧ g.1 < 18446744073709551616)) :
    (Ovr M G E0 (onT G T x) ∧ doW' G T = 0 ∧ doT' G T = ⟨#[]⟩) ∨ (∃ w t, doW' G T = w ∧ doT' G T = t ∧ (0 ≤ w ∧ w < 18446744073709551616) ∧ (w, t) ∈ G ∧ Fol M G E0 (onT G T x) (M.take E w t) ∧ (onT G T x).k = T.k + 1) := by
  obtain ⟨h1, h2, h3, h4⟩ := h
  rcases Nat.eq_or_lt_of_le h3 with hk | hk
  · refine .inl ⟨?_, ?_, ?_⟩
    · have e : onT G T x = ⟨T.k, true, x⟩ := by unfold onT; rw [if_neg (by rw [h1]; decide), if_pos hk]
      rw [e]
      refine ⟨rfl, ?_, hk⟩
      rw [hk, List.take_length] at h4
      rw [h4]; exact hx
    · unfold doW'; rw [if_neg (by rw [h1]; decide), List.getElem?_eq_none (by omega)]
    · unfold doT'; rw [if_neg (by rw [h1]; decide), List.getElem?_eq_none (by omega)]
  · refine .inr ⟨G[T.k].1, G[T.k].2, ?_, ?_, hG _ (List.getElem_mem hk), List.getElem_mem hk, ?_, ?_⟩
    · unfold doW'; rw [if_neg (by rw [h1]; decide), List.getElem?_eq_getElem hk]
    · unfold doT'; rw [if_neg (by rw [h1]; decide), List.getElem?_eq_getElem hk]
    · have e : onT G T x = ⟨T.k + 1, T.over, T.act⟩ := by unfold onT; rw [if_neg (by rw [h1]; decide), if_neg (by omega)]
      rw [e]
      refine ⟨h1, h2, hk, ?_⟩
      show fed M E0 (G.take (T.k + 1)) = _
      rw [List.take_succ_eq_append_getElem hk, fed_snoc, h4, feed_some (by rw [hx]; rfl)]
    · unfold onT; rw [if_neg (by rw [h1]; decide), if_neg (by omega)]
/-- Nothing more is done. -/
theorem Fol.done (h : Fol M G E0 T E) (hx : M.next E = none) : fed M E0 G = E := by
  rw [← List.take_append_drop T.k G, fed_append, h.at_, fed_done hx]
/-- A tape that is at its end stays. -/
theorem Ovr.stays (h : Ovr M G E0 T) (y : ActD) : onT G T y = T ∧ doW' G T = 0 := by
  constructor
  · unfold onT; rw [if_pos h.on]
  · unfold doW'; rw [if_pos h.on]
/-- What a reference's walk comes to: the tape is at its end at the routine's next act, or the routine is done, with this result. -/
def FolR {ρ : Type} (M : Mach σ) (G : List (Int × ByteArray)) (E0 : σ) (res : σ → Option ρ) (T : TapD) (R : ρ) : Prop :=
  Ovr M G E0 T ∨ (T.over = false ∧ T.act = noAct ∧ M.next (fed M E0 G) = none ∧ res (fed M E0 G) = some R)
theorem Fol.ends {ρ : Type} {res : σ → Option ρ} {R : ρ} (h : Fol M G E0 T E) (hx : M.next E = none) (hr : res E = some R) : FolR M G E0 res T R :=
  .inr ⟨h.on, h.act, by rw [h.done hx]; exact hx, by rw [h.done hx]; exact hr⟩
theorem FolR.over {ρ : Type} {res : σ → Option ρ} {R : ρ} (h : FolR M G E0 res T R) : T.over = (M.next (fed M E0 G)).isSome ∧ T.act = (M.next (fed M E0 G)).getD noAct := by
  rcases h with h | ⟨h1, h2, h3, _⟩
  · rw [h.act]; exact ⟨h.on, rfl⟩
  · rw [h3]; exact ⟨h1, h2⟩
end
/-- How many answers a tape in memory has told. -/
def kAt (b : Nat) (X : World) : Nat := match X.cell? ⟨b, 1, none⟩ with | some (.int _ n) => n.toNat | _ => 0
theorem TapAt.kAt {X : World} {b c : Nat} {ga : Option Addr} {G : List (Int × ByteArray)} {T : TapD} (h : TapAt X b ga c G T) : kAt b X = T.k := by
  have := h.nine.1.2.1
  unfold Go.Proofs.YtpnfbabiibopnaaGreat.kAt
  rw [this]
  show ((T.k : Int)).toNat = _
  omega

end Go.Proofs.YtpnfbabiibopnaaGreat

/-! A routine that does what another one does, followed on a tape. Plain. -/
namespace Go.Proofs.YtpnfbabiibopnaaGreat
open Go Go.RowKit

section
variable {τ σ : Type} {N : Mach τ} {M : Mach σ} {ι : Nat → τ → σ} {I : τ → Prop}
/-- The tape is not at its end; M, behind what was answered, stands where N's E does. -/
structure Foi (em : Emb N M ι I) (G : List (Int × ByteArray)) (R0 : σ) (T : TapD) (E : τ) : Prop where
  fol : Fol M G R0 T (ι T.k E)
  ok : I E
variable {em : Emb N M ι I} {G : List (Int × ByteArray)} {R0 : σ} {T : TapD} {E : τ} {x : ActD}
theorem Foi.on (h : Foi em G R0 T E) : T.over = false := h.fol.on
theorem Foi.act (h : Foi em G R0 T E) : T.act = noAct := h.fol.act
theorem Foi.k (h : Foi em G R0 T E) : T.k ≤ G.length := h.fol.k
theorem Foi.next (h : Foi em G R0 T E) (hx : N.next E = some x) (hG : ∀ g ∈ G, (0 ≤ g.1 ∧ g.1 < 18446744073709551616)) :
    (Ovr M G R0 (onT G T x) ∧ doW' G T = 0 ∧ doT' G T = ⟨#[]⟩) ∨ (∃ w t, doW' G T = w ∧ doT' G T = t ∧ (0 ≤ w ∧ w < 18446744073709551616) ∧ (w, t) ∈ G ∧ Foi em G R0 (onT G T x) (N.take E w t) ∧ (onT G T x).k = T.k + 1) := by
  have hs : (N.next E).isSome = true := by rw [hx]; rfl
  have hx' : M.next (ι T.k E) = some x := (em.next _ _ h.ok hs).trans hx
  rcases h.fol.next hx' hG with h1 | ⟨w, t, h1, h2, h3, h4, h5, h6⟩
  · exact .inl h1
  · obtain ⟨e1, e2⟩ := em.take T.k E w t h.ok hs
    rw [e1, ← h6] at h5
    exact .inr ⟨w, t, h1, h2, h3, h4, ⟨h5, e2⟩, h6⟩
end

end Go.Proofs.YtpnfbabiibopnaaGreat
