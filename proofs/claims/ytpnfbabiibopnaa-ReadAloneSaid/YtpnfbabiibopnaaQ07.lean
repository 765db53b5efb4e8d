/-
  Ctl, Emb, Num, Find, in one text.
-/
import Derived.Test.YtpnfbabiibopnaaQ06
import Derived.Tactics
import Derived.WalkKit
import Derived.WalkLawsBesides
import Derived.Laws.BitsAllLaws
import Derived.Laws.Shifts
import Derived.LoopTactic
import Derived.BigQuiet
import Derived.Deep.QuietTactic
import Derived.Outline
import Derived.Lib.Hide
import Derived.Test.YtpnfbabiibopnaaProg
import Derived.Test.YtpnfbabiibopnaaQ03
/-! A heap's first block as a function of its cells: loads, stores, swaps and bumps of it, as acts; a routine of any kind that does them. Plain. -/
namespace Go.Proofs.Ytpnfbabiibopnaa
open Go Go.RowKit

/-- The first block has n cells, with G's words. -/
structure Ctl (n : Nat) (D : HpD) (G : Nat → Int) : Prop where
  faults : D.faults = 0
  small : D.L.length ≤ 1000
  live : ∃ ws t, liveAt D.L 1 = some ⟨ws, t, false⟩ ∧ ws.length = n ∧ ∀ i, i < n → ws[i]? = some (G i)
  fine : Fine D
/-- One cell is another. -/
def upd (G : Nat → Int) (c : Nat) (u : Int) : Nat → Int := fun i => if i = c then u else G i
theorem upd_self (G : Nat → Int) (c : Nat) (u : Int) : upd G c u c = u := if_pos rfl
theorem upd_other {G : Nat → Int} {c i : Nat} {u : Int} (h : i ≠ c) : upd G c u i = G i := if_neg h
section
variable {n : Nat} {D : HpD} {G : Nat → Int}
theorem Ctl.same {G' : Nat → Int} (h : Ctl n D G) (hs : ∀ i, i < n → G' i = G i) : Ctl n D G' := by
  obtain ⟨ws, t, h1, h2, h3⟩ := h.live
  exact ⟨h.faults, h.small, ⟨ws, t, h1, h2, fun i hi => by rw [h3 i hi, hs i hi]⟩, h.fine⟩
theorem Ctl.few (h : Ctl n D G) {m : Nat} (hm : m ≤ 800000) : FewD D m := ⟨by rw [h.faults]; omega, by have := h.small; omega, h.fine⟩
theorem Ctl.start (n : Nat) : Ctl n (fieldD n) (fun _ => 0) := by
  refine ⟨rfl, by show 1 ≤ 1000; omega, ⟨List.replicate n 0, ⟨#[]⟩, rfl, by simp, fun i hi => by simp [hi]⟩, fun b hb => ?_⟩
  have hb' : b = ⟨List.replicate n 0, ⟨#[]⟩, false⟩ := by
    have : b ∈ [(⟨List.replicate n 0, ⟨#[]⟩, false⟩ : BlkD)] := hb
    simpa using this
  subst hb'
  exact ⟨fun w hw => by rw [List.eq_of_mem_replicate hw]; omega, by show (⟨#[]⟩ : ByteArray).size ≤ _; exact Nat.zero_le _⟩
theorem Ctl.spot (h : Ctl n D G) {c : Nat} (hc : c < n) : spot D.L 1 (c : Int) = 0 := by
  obtain ⟨ws, t, h1, h2, _⟩ := h.live
  exact spot_hit h1 (by show c < ws.length; omega)
theorem Ctl.word (h : Ctl n D G) {c : Nat} (hc : c < n) : wordAt D.L 1 (c : Int) = G c := by
  obtain ⟨ws, t, h1, h2, h3⟩ := h.live
  have h4 := h3 c hc
  have hl : c < ws.length := by omega
  rw [List.getElem?_eq_getElem hl] at h4
  rw [wordAt_hit h1 hl]
  exact Option.some.inj h4
theorem Ctl.in64 (h : Ctl n D G) {c : Nat} (hc : c < n) : 0 ≤ G c ∧ G c < 18446744073709551616 := by
  rw [← h.word hc]; exact h.fine.wordAt _ _
/-- A word is put. -/
theorem Ctl.put (h : Ctl n D G) {c : Nat} (hc : c < n) {u : Int} (hu : 0 ≤ u ∧ u < 18446744073709551616) : Ctl n (D.word 1 (c : Int) u) (upd G c u) ∧ (D.word 1 (c : Int) u).L.length = D.L.length := by
  have hf := h.fine.word 1 (c : Int) hu
  obtain ⟨ws, t, h1, h2, h3⟩ := h.live
  rw [word_hit h1] at hf ⊢
  simp only at hf ⊢
  have hlen := (liveAt_some h1).2.1
  have hL : (D.at 1 ⟨ws.set c u, t, false⟩).L.length = D.L.length := by simp [HpD.at]
  refine ⟨⟨h.faults, by have := h.small; omega, ⟨ws.set c u, t, ?_, by simp [h2], fun i hi => ?_⟩, hf⟩, hL⟩
  · exact liveAt_mk (Nat.le_refl _) (by show (D.L.set 0 _)[0]? = _; rw [List.getElem?_set_self (by omega)]) rfl
  · by_cases e : i = c
    · subst e; rw [upd_self, List.getElem?_set_self (by omega)]
    · rw [upd_other e, List.getElem?_set_ne (Ne.symm e)]; exact h3 i hi

/-! ### acts -/
def actL (b : Nat) (c : Int) : ActD := ⟨1, b, c, 0, 0, ⟨#[]⟩⟩
def actS (b : Nat) (c u : Int) : ActD := ⟨2, b, c, 0, u, ⟨#[]⟩⟩
def actW3 (b : Nat) (c o u : Int) : ActD := ⟨3, b, c, o, u, ⟨#[]⟩⟩
def actB (b : Nat) (c u : Int) : ActD := ⟨4, b, c, 0, u, ⟨#[]⟩⟩
theorem actL_right {b : Nat} {c : Int} (hc : 0 ≤ c) : rightA (actL b c) = true := by simp [rightA, actL, zeroA, restA, hc, show (⟨#[]⟩ : ByteArray).size = 0 from rfl]
theorem actS_right {b : Nat} {c u : Int} (hc : 0 ≤ c) : rightA (actS b c u) = true := by simp [rightA, actS, zeroA, restA, hc, show (⟨#[]⟩ : ByteArray).size = 0 from rfl]
theorem actW3_right {b : Nat} {c o u : Int} (hc : 0 ≤ c) : rightA (actW3 b c o u) = true := by simp [rightA, actW3, zeroA, restA, hc, show (⟨#[]⟩ : ByteArray).size = 0 from rfl]
theorem actB_right {b : Nat} {c u : Int} (hc : 0 ≤ c) : rightA (actB b c u) = true := by simp [rightA, actB, zeroA, restA, hc, show (⟨#[]⟩ : ByteArray).size = 0 from rfl]
/-- What an act does to the first block, and what it is answered. -/
structure DoesC (n : Nat) (D : HpD) (x : ActD) (w : Int) (G' : Nat → Int) : Prop where
  word : doW D x = w
  text : doT D x = ⟨#[]⟩
  ready : readyA D x = true
  ctl : Ctl n (doN D x) G'
  len : (doN D x).L.length = D.L.length
theorem Ctl.loads (h : Ctl n D G) {c : Nat} (hc : c < n) : DoesC n D (actL 1 c) (G c) G := by
  have hA := actL_right (b := 1) (c := (c : Int)) (by omega)
  have e : doN D (actL 1 c) = D := by
    unfold doN; rw [hA, if_pos rfl]
    show loadD D 1 c = _
    unfold loadD; rw [if_pos (h.spot hc)]
  refine ⟨?_, by unfold doT; rw [hA, if_pos rfl]; rfl, by unfold readyA; rw [hA]; rfl, by rw [e]; exact h, by rw [e]⟩
  unfold doW; rw [hA, if_pos rfl]
  show loadV D 1 c = _
  unfold loadV; rw [if_pos (h.spot hc), h.word hc]
theorem Ctl.stores (h : Ctl n D G) {c : Nat} (hc : c < n) {u : Int} (hu : 0 ≤ u ∧ u < 18446744073709551616) : DoesC n D (actS 1 c u) 0 (upd G c u) := by
  have hA := actS_right (b := 1) (c := (c : Int)) (u := u) (by omega)
  have e : doN D (actS 1 c u) = D.word 1 c u := by
    unfold doN; rw [hA, if_pos rfl]
    show storeD D 1 c u = _
    unfold storeD; rw [if_pos (h.spot hc)]
  have hp := h.put hc hu
  exact ⟨by unfold doW; rw [hA, if_pos rfl]; rfl, by unfold doT; rw [hA, if_pos rfl]; rfl, by unfold readyA; rw [hA]; rfl, by rw [e]; exact hp.1, by rw [e]; exact hp.2⟩
theorem Ctl.swaps (h : Ctl n D G) {c : Nat} (hc : c < n) {u : Int} (hu : 0 ≤ u ∧ u < 18446744073709551616) (o : Int) : DoesC n D (actW3 1 c o u) (G c) (if G c = o then upd G c u else G) := by
  have hA := actW3_right (b := 1) (c := (c : Int)) (o := o) (u := u) (by omega)
  have e : doN D (actW3 1 c o u) = if G c = o then D.word 1 c u else D := by
    unfold doN; rw [hA, if_pos rfl]
    show swapD D 1 c o u = _
    unfold swapD; rw [if_pos (h.spot hc), h.word hc]
  have hp := h.put hc hu
  refine ⟨?_, by unfold doT; rw [hA, if_pos rfl]; rfl, by unfold readyA; rw [hA]; rfl, ?_, ?_⟩
  · unfold doW; rw [hA, if_pos rfl]
    show loadV D 1 c = _
    unfold loadV; rw [if_pos (h.spot hc), h.word hc]
  · rw [e]; split
    · exact hp.1
    · exact h
  · rw [e]; split
    · exact hp.2
    · rfl
theorem Ctl.loads_same (h : Ctl n D G) {c : Nat} (hc : c < n) : doN D (actL 1 c) = D := by
  unfold doN; rw [actL_right (b := 1) (c := (c : Int)) (by omega), if_pos rfl]
  show loadD D 1 c = _
  unfold loadD; rw [if_pos (h.spot hc)]
theorem Ctl.swaps_not (h : Ctl n D G) {c : Nat} (hc : c < n) {o : Int} (u : Int) (hz : ¬ G c = o) : doN D (actW3 1 c o u) = D := by
  unfold doN; rw [actW3_right (b := 1) (c := (c : Int)) (o := o) (u := u) (by omega), if_pos rfl]
  show swapD D 1 c o u = _
  unfold swapD; rw [if_pos (h.spot hc), h.word hc, if_neg hz]
theorem Ctl.bumps (h : Ctl n D G) {c : Nat} (hc : c < n) (u : Int) : DoesC n D (actB 1 c u) (G c) (upd G c (IntKind.u64.wrap (G c + u))) := by
  have hA := actB_right (b := 1) (c := (c : Int)) (u := u) (by omega)
  have e : doN D (actB 1 c u) = D.word 1 c (IntKind.u64.wrap (G c + u)) := by
    unfold doN; rw [hA, if_pos rfl]
    show bumpD D 1 c u = _
    unfold bumpD; rw [if_pos (h.spot hc), h.word hc]
  have hp := h.put hc (u64_wrap_in (G c + u))
  refine ⟨?_, by unfold doT; rw [hA, if_pos rfl]; rfl, by unfold readyA; rw [hA]; rfl, by rw [e]; exact hp.1, by rw [e]; exact hp.2⟩
  unfold doW; rw [hA, if_pos rfl]
  show loadV D 1 c = _
  unfold loadV; rw [if_pos (h.spot hc), h.word hc]
end

/-! ### a routine that does one -/
section
variable {σ : Type} {M : Mach σ} {D : HpD} {E : σ} {n : Nat}
theorem stepM_ready {x : ActD} (hn : M.next E = some x) (hr : readyA D x = true) : stepM M ⟨D, E⟩ = some ⟨x, doW D x, doT D x⟩ := by
  unfold stepM
  show (match M.next E with | some x => if readyA D x then some (⟨x, doW D x, doT D x⟩ : StepD) else none | none => none) = _
  rw [hn]; simp [hr]
theorem advM_ready {x : ActD} (hn : M.next E = some x) (hr : readyA D x = true) : advM M ⟨D, E⟩ = ⟨doN D x, M.take E (doW D x) (doT D x)⟩ ∧ (stepM M ⟨D, E⟩).isSome = true := by
  have hs := stepM_ready hn hr
  refine ⟨?_, by rw [hs]; rfl⟩
  unfold advM
  rw [hs]
  exact nextM_some (M := M) (S := ⟨D, E⟩) hn
theorem advM_does {x : ActD} {w : Int} {G' : Nat → Int} (hn : M.next E = some x) (h : DoesC n D x w G') : advM M ⟨D, E⟩ = ⟨doN D x, M.take E w ⟨#[]⟩⟩ ∧ (stepM M ⟨D, E⟩).isSome = true := by
  have := advM_ready hn h.ready
  rw [h.word, h.text] at this
  exact this
end

end Go.Proofs.Ytpnfbabiibopnaa

/-! A routine that does what another one does, till that one is done: of any kinds. Plain. -/
namespace Go.Proofs.Ytpnfbabiibopnaa
open Go Go.RowKit

section
variable {τ σ : Type} {N : Mach τ} {M : Mach σ} {ι : Nat → τ → σ} {I : τ → Prop}
/-- Where N stands at E behind k acts, M stands at ι k E. -/
structure Emb (N : Mach τ) (M : Mach σ) (ι : Nat → τ → σ) (I : τ → Prop) : Prop where
  next : ∀ k E, I E → (N.next E).isSome = true → M.next (ι k E) = N.next E
  take : ∀ k E w t, I E → (N.next E).isSome = true → M.take (ι k E) w t = ι (k + 1) (N.take E w t) ∧ I (N.take E w t)
theorem stepM_yes {D : HpD} {E : τ} (h : (stepM N ⟨D, E⟩).isSome = true) : ∃ x, N.next E = some x ∧ readyA D x = true := by
  unfold stepM at h
  cases hn : N.next E with
  | none =>
    have e : (match N.next E with | some x => if readyA D x then some (⟨x, doW D x, doT D x⟩ : StepD) else none | none => none) = none := by rw [hn]
    have h' : ((match N.next E with | some x => if readyA D x then some (⟨x, doW D x, doT D x⟩ : StepD) else none | none => none) : Option StepD).isSome = true := h
    rw [e] at h'; cases h'
  | some x =>
    refine ⟨x, rfl, ?_⟩
    have h' : ((match N.next E with | some x => if readyA D x then some (⟨x, doW D x, doT D x⟩ : StepD) else none | none => none) : Option StepD).isSome = true := h
    rw [hn] at h'
    cases hr : readyA D x with
    | true => rfl
    | false => simp [hr] at h'
theorem toM_succ_len {S : PmS τ} {n : Nat} (h : (toM N S (n + 1)).length = n + 1) : (toM N S n).length = n ∧ (stepM N (stM N S n)).isSome = true := by
  have hl := toM_len N S n
  have e : toM N S (n + 1) = toM N S n ++ (stepM N (stM N S n)).toList := rfl
  rw [e, List.length_append] at h
  cases hs : stepM N (stM N S n) with
  | none => rw [hs] at h; simp at h; omega
  | some y => rw [hs] at h; simp at h; exact ⟨by omega, rfl⟩
theorem toM_exact {S : PmS τ} {m k : Nat} (h : (toM N S m).length = k) : (toM N S k).length = k ∧ stM N S k = stM N S m := by
  obtain ⟨h1, h2, h3, h4⟩ := toM_walk N S m
  rw [h] at h1 h2 h3 h4
  refine ⟨?_, h4.symm⟩
  obtain ⟨g1, g2, g3, g4⟩ := toM_walk N S k
  rcases Nat.lt_or_ge (toM N S k).length k with hlt | hge
  · have n1 := g3 hlt
    have n2 := h2 _ hlt
    rw [n1] at n2
    rw [List.getElem?_eq_getElem (by omega)] at n2
    cases n2
  · omega
/-- The runs of both. -/
theorem emb_runs (e : Emb N M ι I) {S0 : PmS σ} {n0 k : Nat} {D : HpD} {E : τ} (hI : I E) (h0 : stM M S0 n0 = ⟨D, ι k E⟩ ∧ (toM M S0 n0).length = n0) : ∀ n, (toM N ⟨D, E⟩ n).length = n →
    (stM M S0 (n0 + n) = ⟨(stM N ⟨D, E⟩ n).D, ι (k + n) (stM N ⟨D, E⟩ n).s⟩ ∧ (toM M S0 (n0 + n)).length = n0 + n) ∧ I (stM N ⟨D, E⟩ n).s
  | 0, _ => ⟨h0, hI⟩
  | n + 1, hn => by
    obtain ⟨hl, hs⟩ := toM_succ_len hn
    obtain ⟨ih, iI⟩ := emb_runs e hI h0 n hl
    have hst : stM N ⟨D, E⟩ (n + 1) = advM N (stM N ⟨D, E⟩ n) := rfl
    generalize hT : stM N ⟨D, E⟩ n = T at *
    obtain ⟨D', E'⟩ := T
    obtain ⟨x, hx, hr⟩ := stepM_yes hs
    have a1 := (advM_ready (M := N) hx hr).1
    have hx2 : M.next (ι (k + n) E') = some x := by rw [e.next _ _ iI (by rw [hx]; rfl)]; exact hx
    have a2 := advM_ready (M := M) (D := D') hx2 hr
    obtain ⟨t1, t2⟩ := e.take (k + n) E' (doW D' x) (doT D' x) iI (by rw [hx]; rfl)
    rw [t1] at a2
    rw [hst, a1]
    exact ⟨stM_succ ih a2, t2⟩
end

end Go.Proofs.Ytpnfbabiibopnaa

/-! stir's functions on numbers, and the document's answers to them: each pair by the same function on whole numbers. -/
namespace Go.Proofs.Ytpnfbabiibopnaa
open Go Go.RowKit

/-! ### plain numbers -/
def mulU (n c : Int) : Int := IntKind.u64.wrap (bits .xor .u64 n c * 1099511628211)
def moreU (n c : Int) : Int := bits .xor .u64 (mulU n c) (mulU n c / 536870912)
def seedU (n : Int) : Int := bits .xor .u64 n 14695981039346656037
def sumU (n : Int) (l : List UInt8) : Int := l.foldl (fun m c => moreU m (c.toNat : Int)) (seedU n)
def startOf (n m : Int) : Int := if m < 1 then 0 else n % m
def placeOf (n m i : Int) : Int := if i < 0 ∨ m ≤ i then -1 else (startOf n m + i) % m

theorem bits_u64_bd (op : BinOp) (hop : op = .xor) (a b : Int) : 0 ≤ bits op .u64 a b ∧ bits op .u64 a b ≤ 18446744073709551615 := by
  subst hop
  show 0 ≤ IntKind.u64.wrap _ ∧ IntKind.u64.wrap _ ≤ _
  rw [IntKind.wrap_u64]; omega
theorem mulU_bd (n c : Int) : 0 ≤ mulU n c ∧ mulU n c ≤ 18446744073709551615 := by
  unfold mulU; rw [IntKind.wrap_u64]; omega
theorem moreU_bd (n c : Int) : 0 ≤ moreU n c ∧ moreU n c ≤ 18446744073709551615 := bits_u64_bd _ rfl _ _
theorem seedU_bd (n : Int) : 0 ≤ seedU n ∧ seedU n ≤ 18446744073709551615 := bits_u64_bd _ rfl _ _
theorem sumU_snoc (n : Int) (l : List UInt8) (c : UInt8) : sumU n (l ++ [c]) = moreU (sumU n l) (c.toNat : Int) := by simp [sumU]
theorem sumU_bd (n : Int) (l : List UInt8) : 0 ≤ sumU n l ∧ sumU n l ≤ 18446744073709551615 := by
  unfold sumU
  suffices h : ∀ m, 0 ≤ m ∧ m ≤ 18446744073709551615 → 0 ≤ l.foldl (fun m c => moreU m (c.toNat : Int)) m ∧ l.foldl (fun m c => moreU m (c.toNat : Int)) m ≤ 18446744073709551615 from h _ (seedU_bd n)
  induction l with
  | nil => intro m h; exact h
  | cons c l ih => intro m _; exact ih _ (moreU_bd _ _)
theorem seedU_zero : seedU 0 = 14695981039346656037 := by
  unfold seedU
  have := u64_xor_nat 0 14695981039346656037 (by omega) (by omega)
  rw [Nat.zero_xor] at this
  exact this
theorem sumU_zero : sumU 0 [] = 14695981039346656037 := seedU_zero
theorem startOf_bd (n m : Int) : 0 ≤ startOf n m ∧ (1 ≤ m → startOf n m < m) ∧ (m < 1 → startOf n m = 0) := by
  unfold startOf
  split
  · exact ⟨Int.le_refl _, fun h => by omega, fun _ => rfl⟩
  · exact ⟨Int.emod_nonneg _ (by omega), fun h => Int.emod_lt_of_pos _ (by omega), fun h => by omega⟩
theorem wrapmul (n c : Int) : IntKind.u64.wrap ((mulU n c).tdiv 536870912) = mulU n c / 536870912 := by
  have := mulU_bd n c
  rw [Int.tdiv_eq_ediv_of_nonneg this.1, IntKind.wrap_u64]; omega
theorem take_snoc (s : ByteArray) (k : Nat) (h : k < s.size) : s.data.toList.take (k + 1) = s.data.toList.take k ++ [s[k]] := by
  rw [List.take_succ_eq_append_getElem (by simpa using h)]; rfl
theorem ret_int {k : IntKind} {a b : Int} (h : a = b) : Ending.returned (.int k a) = .returned (.int k b) := by rw [h]

/-! ### the walks -/
set_option maxHeartbeats 400000 in
theorem more_any (n c : Int) (w : World) (hc0 : 0 ≤ c) (hc1 : c ≤ 255) :
    Calls Try.prog 68 #[.int .u64 n, .int .u8 c] w fun e w' => e = .returned (.int .u64 (moreU n c)) ∧ w = w' := by
  go_enter Try.func68, Try.ntmps68
  go_wp2
  go_ret
  exact ⟨rfl, rfl⟩

set_option maxHeartbeats 400000 in
theorem rest64_any (n m : Int) (w : World) (h0 : 0 ≤ n) (h1 : n ≤ 18446744073709551615) (hc0 : 1 ≤ m) (hc1 : m ≤ 9223372036854775807) :
    Calls Try.prog 72 #[.int .u64 n, .int .i64 m] w fun e w' => e = .returned (.int .i64 (n % m)) ∧ w = w' := by
  have hr0 := Int.emod_nonneg n (show m ≠ 0 by omega)
  have hr1 := Int.emod_lt_of_pos n (show 0 < m by omega)
  go_enter Try.func72, Try.ntmps72
  go_wp2
  go_ret
  exact ⟨rfl, rfl⟩

set_option maxHeartbeats 400000 in
theorem srest_any (n m : Int) (w : World) (h0 : 0 ≤ n) (h1 : n ≤ 18446744073709551615) (hc0 : 1 ≤ m) (hc1 : m ≤ 9223372036854775807) :
    Calls Try.prog 70 #[.int .u64 n, .int .i64 m] w fun e w' => e = .returned (.int .i64 (n % m)) ∧ w = w' := by
  have hr0 := Int.emod_nonneg n (show m ≠ 0 by omega)
  have hr1 := Int.emod_lt_of_pos n (show 0 < m by omega)
  go_enter Try.func70, Try.ntmps70
  go_wp2
  go_ret
  exact ⟨rfl, rfl⟩

set_option maxHeartbeats 400000 in
theorem start_any (n m : Int) (w : World) (h0 : 0 ≤ n) (h1 : n ≤ 18446744073709551615) (hc1 : m ≤ 9223372036854775807) :
    Calls Try.prog 71 #[.int .u64 n, .int .i64 m] w fun e w' => e = .returned (.int .i64 (startOf n m)) ∧ w = w' := by
  by_cases hm : m < 1
  · go_enter Try.func71, Try.ntmps71
    go_wp2_with fail
    go_ret
    exact ⟨ret_int (by unfold startOf; rw [if_pos hm]), rfl⟩
  · go_enter Try.func71, Try.ntmps71
    go_wp2_with (go_at_call 72; refine (rest64_any _ _ _ (by omega) (by omega) (by omega) (by omega)).mono ?_; rintro e w' ⟨rfl, rfl⟩)
    go_ret
    exact ⟨ret_int (by unfold startOf; rw [if_neg (by omega)]), rfl⟩

set_option maxHeartbeats 400000 in
theorem place_any (n m i : Int) (w : World) (h0 : 0 ≤ n) (h1 : n ≤ 18446744073709551615) (hc1 : m ≤ 9223372036854775807) (hi1 : i ≤ 9223372036854775807) :
    Calls Try.prog 69 #[.int .u64 n, .int .i64 m, .int .i64 i] w fun e w' => e = .returned (.int .i64 (placeOf n m i)) ∧ w = w' := by
  by_cases hi : i < 0
  · go_enter Try.func69, Try.ntmps69
    go_wp2_with fail
    go_ret
    exact ⟨ret_int (by unfold placeOf; rw [if_pos (.inl hi)]), rfl⟩
  · by_cases him : m ≤ i
    · go_enter Try.func69, Try.ntmps69
      go_wp2_with fail
      go_ret
      exact ⟨ret_int (by unfold placeOf; rw [if_pos (.inr him)]), rfl⟩
    · have hs0 := (startOf_bd n m).1
      have hs1 := (startOf_bd n m).2.1 (by omega)
      go_enter Try.func69, Try.ntmps69
      go_wp2_with (first | (go_at_call 71; refine (start_any _ _ _ (by omega) (by omega) (by omega)).mono ?_; rintro e w' ⟨rfl, rfl⟩) | (go_at_call 70; refine (srest_any _ _ _ (by omega) (by omega) (by omega) (by omega)).mono ?_; rintro e w' ⟨rfl, rfl⟩))
      go_ret
      exact ⟨ret_int (by unfold placeOf; rw [if_neg (by omega)]), rfl⟩

set_option maxHeartbeats 1000000 in
theorem sum_any (n : Int) (s : ByteArray) (w : World) (hs : s.size ≤ 9223372036854775807) :
    Calls Try.prog 52 #[.int .u64 n, .string s] w fun e w' => e = .returned (.int .u64 (sumU n s.data.toList)) ∧ w = w' := by
  go_enter Try.func52, Try.ntmps52
  go_wp2
  go_loop [5, 6, 11] (fun m _ c => ∃ k : Nat, k ≤ s.size ∧ c = .int .i64 k ∧ m = .int .u64 (sumU n (s.data.toList.take k))) (fun _ _ c => s.size - (intOf c).toNat)
  case atStart => exact ⟨0, Nat.zero_le _, rfl, rfl⟩
  case round =>
    obtain ⟨k, hk, rfl, rfl⟩ := hrel
    have hd0 := (sumU_bd n (s.data.toList.take k)).1
    have hd1 := (sumU_bd n (s.data.toList.take k)).2
    by_cases hlt : k < s.size
    · have hb := UInt8.toNat_lt s[k]
      have HS : Hid (sumU n (s.data.toList.take (k + 1)) = moreU (sumU n (s.data.toList.take k)) (s[k].toNat : Int)) := by rw [take_snoc s k hlt, sumU_snoc]; rfl
      go_wp2_with (go_at_call 68; refine (more_any _ _ _ (by omega) (by omega)).mono ?_; rintro e w' ⟨rfl, rfl⟩)
      go_round
      case rel => exact ⟨k + 1, by omega, by go_num, by rw [HS.out]⟩
      case measure => simp [intOf]; omega
    · go_wp2
      go_ret
      exact ⟨ret_int (by rw [List.take_of_length_le (by simp; omega)]), rfl⟩

theorem place_cases (n m : Int) (k : Nat) (h : (k : Int) < m) :
    (placeOf n m k = startOf n m + k ∧ startOf n m + k < m) ∨ (placeOf n m k = startOf n m + k - m ∧ m ≤ startOf n m + k) := by
  have h0 := (startOf_bd n m).1
  have h1 := (startOf_bd n m).2.1 (by omega)
  have e : placeOf n m k = (startOf n m + k) % m := by unfold placeOf; rw [if_neg (by omega)]
  rw [e]
  by_cases hlt : startOf n m + (k : Int) < m
  · exact .inl ⟨Int.emod_eq_of_lt (by omega) hlt, hlt⟩
  · refine .inr ⟨?_, by omega⟩
    have : (startOf n m + (k : Int)) % m = (startOf n m + k - m) % m := by rw [Int.sub_emod_right]
    rw [this]; exact Int.emod_eq_of_lt (by omega) (by omega)

theorem place_bd (n m : Int) (k : Nat) (h : (k : Int) < m) : 0 ≤ placeOf n m k ∧ placeOf n m k < m := by
  have h0 := (startOf_bd n m).1
  have h1 := (startOf_bd n m).2.1 (by omega)
  rcases place_cases n m k h with ⟨e, _⟩ | ⟨e, _⟩ <;> omega

theorem place_inj (n m : Int) (k j : Nat) (hk : (k : Int) < m) (hj : (j : Int) < m) (h : placeOf n m k = placeOf n m j) : k = j := by
  rcases place_cases n m k hk with ⟨e, _⟩ | ⟨e, _⟩ <;> rcases place_cases n m j hj with ⟨e', _⟩ | ⟨e', _⟩ <;> omega

end Go.Proofs.Ytpnfbabiibopnaa

/-! find's routine as it lies: its methods Act and Result. -/
namespace Go.Proofs.Ytpnfbabiibopnaa
open Go Go.RowKit
attribute [local go_sem ↓] Go.wp_at_zero Go.wp_at_succ

/-- What was found, compared. -/
theorem neqF_run (k s k' s' : Int) (w : World) : (binOp .neq 78 (.agg #[.int .i64 k, .int .i64 s]) (.agg #[.int .i64 k', .int .i64 s'])).run Try.prog w = .ok (.bool (!(k == k' && s == s'))) w := by
  have u3 := Try.underlying3
  have hS : Try.prog.underlying 78 = some (.struct (Try.prog.fieldsOf 78)) := by kernel_rfl
  have hp : Try.prog.stoodInHeld 78 = false := by kernel_rfl
  rw [run_neq_struct, show (10000 : Nat) = 9999 + 1 from rfl, run_equalIn_agg w 9999 78 _ _ hS hp]
  simp only [Program.fieldsOf, Try.underlying78]
  have a3 := Try.isAgg3
  have z3 := Try.sizeOf3
  go_simp
  by_cases h1 : k = k' <;> by_cases h2 : s = s' <;> simp [h1, h2]

/-- A routine as it lies: its config, its key, the key's sum, the place on the way, the act that is to be done, what was found. -/
structure FindR where
  a : Int
  p : Int
  s : Int
  q : Int
  v : Int
  x : Int
  key : ByteArray
  n : Int
  i : Int
  y : ActD
  k : Int
  sh : Int
abbrev fndC (d : FindR) : Array Value := #[.int .i64 d.a, .int .i64 d.p, .int .i64 d.s, .int .i64 d.q, .int .i64 d.v, .int .u64 d.x, .string d.key, .int .u64 d.n, .int .i64 d.i, .int .i64 d.y.kind, .int .u64 (d.y.block : Int), .int .i64 d.y.cell, .int .u64 d.y.old, .int .u64 d.y.new, .string d.y.text, .int .i64 d.k, .int .i64 d.sh]
abbrev fndO (d : FindR) : Obj := .cells (fndC d) 121 (0, 0)
def FindR.zero : FindR := ⟨0, 0, 0, 0, 0, 0, ⟨#[]⟩, 0, 0, noAct, 0, 0⟩
section
variable {X : World} {r : Nat} {d : FindR}
theorem fnd_at (h : X.heap[r]? = some (fndO d)) :
    (X.cell? ⟨r, 0, none⟩ = some (.int .i64 d.a) ∧ X.cell? ⟨r, 1, none⟩ = some (.int .i64 d.p) ∧ X.cell? ⟨r, 2, none⟩ = some (.int .i64 d.s) ∧ X.cell? ⟨r, 3, none⟩ = some (.int .i64 d.q) ∧ X.cell? ⟨r, 4, none⟩ = some (.int .i64 d.v) ∧ X.cell? ⟨r, 5, none⟩ = some (.int .u64 d.x)) ∧
    (X.cell? ⟨r, 6, none⟩ = some (.string d.key) ∧ X.cell? ⟨r, 7, none⟩ = some (.int .u64 d.n) ∧ X.cell? ⟨r, 8, none⟩ = some (.int .i64 d.i)) ∧
    (X.cell? ⟨r, 9, none⟩ = some (.int .i64 d.y.kind) ∧ X.cell? ⟨r, 10, none⟩ = some (.int .u64 (d.y.block : Int)) ∧ X.cell? ⟨r, 11, none⟩ = some (.int .i64 d.y.cell) ∧ X.cell? ⟨r, 12, none⟩ = some (.int .u64 d.y.old) ∧ X.cell? ⟨r, 13, none⟩ = some (.int .u64 d.y.new) ∧ X.cell? ⟨r, 14, none⟩ = some (.string d.y.text)) ∧
    (X.cell? ⟨r, 15, none⟩ = some (.int .i64 d.k) ∧ X.cell? ⟨r, 16, none⟩ = some (.int .i64 d.sh)) :=
  ⟨⟨(cell_of h).trans rfl, (cell_of h).trans rfl, (cell_of h).trans rfl, (cell_of h).trans rfl, (cell_of h).trans rfl, (cell_of h).trans rfl⟩, ⟨(cell_of h).trans rfl, (cell_of h).trans rfl, (cell_of h).trans rfl⟩, ⟨(cell_of h).trans rfl, (cell_of h).trans rfl, (cell_of h).trans rfl, (cell_of h).trans rfl, (cell_of h).trans rfl, (cell_of h).trans rfl⟩, (cell_of h).trans rfl, (cell_of h).trans rfl⟩
theorem fnd_free (h : X.heap[r]? = some (fndO d)) (i : Nat) : X.frozen? ⟨r, i, none⟩ = false := by simp [World.frozen?, h]
end

/-! ### Act -/
def ActE (y : ActD) (q : Bool) (W : World) (e : Ending) (W' : World) : Prop := e = .returned (.tuple #[actOf y, .bool q]) ∧ Below W.heap.size W W'
theorem fact_end {W X : World} {n : Nat} {x : ActD} {is : Bool} {T : Array Value} (h : X.heap[n]? = some noO) (hb : Below W.heap.size W X) (hn : W.heap.size ≤ n) (h2 : T.getD 2 undef = .pointer (some ⟨n, 0, none⟩)) (h3 : T.getD 3 undef = .bool is) :
    bodyPost Try.prog Try.f37 (ActE x is W) .ret { tmps := T, defers := [] }
      (((((((X.setCell ⟨n, 0, none⟩ (.int .i64 x.kind)).setCell ⟨n, 1, none⟩ (.int .u64 (x.block : Int))).setCell ⟨n, 2, none⟩ (.int .i64 x.cell)).setCell ⟨n, 3, none⟩ (.int .u64 x.old)).setCell ⟨n, 4, none⟩ (.int .u64 x.new)).setCell ⟨n, 5, none⟩ (.string x.text)).drew) := by
  have h6 := set6 h (.int .i64 x.kind) (.int .u64 (x.block : Int)) (.int .i64 x.cell) (.int .u64 x.old) (.int .u64 x.new) (.string x.text)
  have hb6 := below_turned (below6 hb hn (.int .i64 x.kind) (.int .u64 (x.block : Int)) (.int .i64 x.cell) (.int .u64 x.old) (.int .u64 x.new) (.string x.text))
  generalize ((((((X.setCell ⟨n, 0, none⟩ (.int .i64 x.kind)).setCell ⟨n, 1, none⟩ (.int .u64 (x.block : Int))).setCell ⟨n, 2, none⟩ (.int .i64 x.cell)).setCell ⟨n, 3, none⟩ (.int .u64 x.old)).setCell ⟨n, 4, none⟩ (.int .u64 x.new)).setCell ⟨n, 5, none⟩ (.string x.text)) = Y at h6 hb6 ⊢
  have h7 : Y.drew.heap[n]? = some (.cells (actCells x) 59 (0, 0)) := h6
  exact bodyPost_ret (v := .tuple #[actOf x, .bool is]) (by rw [results_cell2 (by rfl), h2, h3]; simp only [asAddr, Sem.run_pure, Result.andThen_ok, load_act h7]) rfl ⟨rfl, hb6⟩

set_option maxRecDepth 100000 in
set_option maxHeartbeats 4000000 in
theorem fact_any (W : World) {r : Nat} {d : FindR} (h : W.heap[r]? = some (fndO d)) {y : ActD} {q : Bool} (hy : d.y = y) (hrun : ∀ w : World, (binOp .neq 59 (actV y.kind y.block y.cell y.old y.new y.text) (actV 0 0 0 0 0 ⟨#[]⟩)).run Try.prog w = .ok (.bool q) w) :
    Calls Try.prog 37 #[.pointer (some ⟨r, 0, none⟩)] W (ActE y q W) := by
  subst hy
  have HB := Lib.hid (below_alloc W noO)
  have HN := Lib.hid (World.alloc_heap_new W noO)
  obtain ⟨z0, z1, z2, z3, z4, z5⟩ := six_free HN.out
  obtain ⟨m0, m1, m2, m3, m4, m5⟩ := six_at HN.out
  obtain ⟨-, -, ⟨a0, a1, a2, a3, a4, a5⟩, -⟩ := fnd_at ((HB.out.block r (heap_at_lt h)).trans h)
  have hne : W.heap.size ≠ r := by have := heap_at_lt h; omega
  clear h
  go_enter Try.func37, Try.ntmps37
  go_wp2_with fail
  generalize W.alloc noO = w2 at HB HN m0 m1 m2 m3 m4 m5 z0 z1 z2 z3 z4 z5 a0 a1 a2 a3 a4 a5 ⊢
  go_region
  all_goals
    go_wp2_with fail
    exact fact_end HN.out HB.out (Nat.le_refl _) rfl rfl
set_option maxRecDepth 100000 in
set_option maxHeartbeats 800000 in
/-- No routine. -/
theorem fact_nil (W : World) : Calls Try.prog 37 #[.pointer none] W (ActE noAct false W) := by
  have HB := Lib.hid (below_alloc W noO)
  have HN := Lib.hid (World.alloc_heap_new W noO)
  obtain ⟨z0, z1, z2, z3, z4, z5⟩ := six_free HN.out
  obtain ⟨m0, m1, m2, m3, m4, m5⟩ := six_at HN.out
  go_enter Try.func37, Try.ntmps37
  go_wp2_with fail
  refine bodyPost_ret (v := .tuple #[actOf noAct, .bool false]) (by rw [results_cell2 (by rfl)]; go_simp; exact ⟨rfl, rfl, rfl, rfl, rfl, rfl⟩) rfl ⟨rfl, ?_⟩
  exact HB.out

/-! ### Result -/
abbrev fouV (k s : Int) : Value := .agg #[.int .i64 k, .int .i64 s]
abbrev fouO (k s : Int) : Obj := .cells #[.int .i64 k, .int .i64 s] 78 (0, 0)
theorem load_fou {X : World} {n : Nat} {k s : Int} (h : X.heap[n]? = some (fouO k s)) : (loadVar 78 ⟨n, 0, none⟩).run Try.prog X = .ok (fouV k s) X := by
  have m0 := (cell_of (i := 0) h).trans rfl
  have m1 := (cell_of (i := 1) h).trans rfl
  go_simp
def ResE (k s : Int) (q : Bool) (W : World) (e : Ending) (W' : World) : Prop := e = .returned (.tuple #[fouV k s, .bool q]) ∧ Below W.heap.size W W'
theorem res_end {W X : World} {n : Nat} {k s : Int} {is : Bool} {T : Array Value} (h : X.heap[n]? = some (fouO 0 0)) (hb : Below W.heap.size W X) (hn : W.heap.size ≤ n) (h2 : T.getD 2 undef = .pointer (some ⟨n, 0, none⟩)) (h3 : T.getD 3 undef = .bool is) :
    bodyPost Try.prog Try.f29 (ResE k s is W) .ret { tmps := T, defers := [] } (((X.setCell ⟨n, 0, none⟩ (.int .i64 k)).setCell ⟨n, 1, none⟩ (.int .i64 s)).drew) := by
  have h6 : ((X.setCell ⟨n, 0, none⟩ (.int .i64 k)).setCell ⟨n, 1, none⟩ (.int .i64 s)).heap[n]? = some (fouO k s) := heap_setAt (heap_setAt h)
  have hb6 := below_turned ((hb.setCell (p := ⟨n, 0, none⟩) hn (.int .i64 k)).setCell (p := ⟨n, 1, none⟩) hn (.int .i64 s))
  generalize ((X.setCell ⟨n, 0, none⟩ (.int .i64 k)).setCell ⟨n, 1, none⟩ (.int .i64 s)) = Y at h6 hb6 ⊢
  have h7 : Y.drew.heap[n]? = some (fouO k s) := h6
  exact bodyPost_ret (v := .tuple #[fouV k s, .bool is]) (by rw [results_cell2 (by rfl), h2, h3]; simp only [asAddr, Sem.run_pure, Result.andThen_ok, load_fou h7]) rfl ⟨rfl, hb6⟩

set_option maxRecDepth 100000 in
set_option maxHeartbeats 4000000 in
theorem fres_any (W : World) {r : Nat} {d : FindR} (h : W.heap[r]? = some (fndO d)) {k s : Int} {q : Bool} (hk : d.k = k) (hs : d.sh = s) (hrun : (!(k == 0 && s == 0)) = q) :
    Calls Try.prog 29 #[.pointer (some ⟨r, 0, none⟩)] W (ResE k s q W) := by
  subst hk hs
  have HB := Lib.hid (below_alloc W (fouO 0 0))
  have HN := Lib.hid (World.alloc_heap_new W (fouO 0 0))
  have hrn := fun w => (neqF_run d.k d.sh 0 0 w).trans (by rw [hrun])
  obtain ⟨z0, z1⟩ := two_free HN.out
  obtain ⟨m0, m1⟩ := two_at HN.out
  obtain ⟨-, -, -, a0, a1⟩ := fnd_at ((HB.out.block r (heap_at_lt h)).trans h)
  have hne : W.heap.size ≠ r := by have := heap_at_lt h; omega
  clear h hrun
  go_enter Try.func29, Try.ntmps29
  go_wp2_with fail
  generalize W.alloc (fouO 0 0) = w2 at HB HN m0 m1 z0 z1 a0 a1 ⊢
  go_region
  all_goals
    go_wp2_with fail
    exact res_end HN.out HB.out (Nat.le_refl _) rfl rfl

end Go.Proofs.Ytpnfbabiibopnaa
