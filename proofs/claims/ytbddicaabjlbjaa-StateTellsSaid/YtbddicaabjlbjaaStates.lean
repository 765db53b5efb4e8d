/-
  The state's functions that only look: Right, lowest, first, Get; and the iterator's maker.
-/
import Derived.Test.YtbddicaabjlbjaaChanges
import Derived.Test.YtbddicaabjlbjaaSorted
import Derived.Test.YtbddicaabjlbjaaPairs
import Derived.Laws.Rows
namespace Go.Proofs.Ytbddicaabjlbjaa
open Go Go.RowKit

/-- At p, a slice's address, lie the pairs L. -/
def Sl (W : World) (p : Option Addr) (L : Pairs) : Prop :=
  ∀ j (h : j < L.length), ∃ b o, p = some ⟨b, o, none⟩ ∧ W.cell? ⟨b, o + j * 2, none⟩ = some (.string L[j].1) ∧ W.cell? ⟨b, o + j * 2 + 1, none⟩ = some (.string L[j].2)
theorem Sl.nil (W : World) (p : Option Addr) : Sl W p [] := fun _ h => absurd h (Nat.not_lt_zero _)
theorem Lies.sl {W : World} {g : Nat} {L : Pairs} (h : Lies W g L) : Sl W (some ⟨g, 0, none⟩) L := fun j hj => ⟨g, 0, rfl, by simpa using (h j hj).1, by simpa using (h j hj).2⟩
theorem cell_lt {W : World} {b o : Nat} {v : Value} (h : W.cell? ⟨b, o, none⟩ = some v) : b < W.heap.size := World.block_lt_of_cell? W ⟨b, o, none⟩ h
theorem Sl.below {W W' : World} {p : Option Addr} {L : Pairs} (h : Sl W p L) {n : Nat} (hb : Below n W W') (hn : ∀ b o, p = some ⟨b, o, none⟩ → L ≠ [] → b < n) : Sl W' p L := fun j hj => by
  obtain ⟨b, o, rfl, c1, c2⟩ := h j hj
  have hbn := hn b o rfl (by intro e; subst e; exact absurd hj (Nat.not_lt_zero _))
  exact ⟨b, o, rfl, (hb.cell (p := ⟨b, _, none⟩) hbn).trans c1, (hb.cell (p := ⟨b, _, none⟩) hbn).trans c2⟩
theorem Sl.grow {W W' : World} {p : Option Addr} {L : Pairs} (h : Sl W p L) (hb : Below W.heap.size W W') : Sl W' p L := fun j hj => by
  obtain ⟨b, o, rfl, c1, c2⟩ := h j hj
  exact ⟨b, o, rfl, (hb.cell (p := ⟨b, _, none⟩) (cell_lt c1)).trans c1, (hb.cell (p := ⟨b, _, none⟩) (cell_lt c2)).trans c2⟩
theorem Sl.tail {W : World} {b o : Nat} {x : ByteArray × ByteArray} {L : Pairs} (h : Sl W (some ⟨b, o, none⟩) (x :: L)) : Sl W (some ⟨b, o + 2, none⟩) L := fun j hj => by
  obtain ⟨b', o', he, c1, c2⟩ := h (j + 1) (by simpa using hj)
  obtain ⟨rfl, rfl⟩ : b = b' ∧ o = o' := by simpa using he
  rw [show o + (j + 1) * 2 = o + 2 + j * 2 by omega] at c1 c2
  exact ⟨b, o + 2, rfl, by simpa using c1, by simpa using c2⟩

/-- Neighbours rise, up to place k. -/
def Asc (L : Pairs) (k : Nat) : Prop := ∀ j (h : j + 1 < L.length), j + 1 < k → lt L[j].1 L[j + 1].1 = true
theorem asc_rise {L : Pairs} (h : Asc L L.length) : Rise L := by
  refine List.pairwise_iff_getElem.2 fun i j hi hj hij => ?_
  obtain ⟨n, rfl⟩ : ∃ n, j = i + 1 + n := ⟨j - i - 1, by omega⟩
  induction n with
  | zero => exact h i (by omega) (by omega)
  | succ n ih => exact lt_trans (ih (by omega) (by omega)) (h (i + 1 + n) (by omega) (by omega))
theorem rise_asc {L : Pairs} (h : Rise L) (j : Nat) (hj : j + 1 < L.length) : lt L[j].1 L[j + 1].1 = true := List.pairwise_iff_getElem.1 h j (j + 1) (by omega) hj (by omega)

def Says (L : Pairs) (w : World) (e : Ending) (w' : World) : Prop := ∃ b, e = .returned (.bool b) ∧ (b = true ↔ Rise L) ∧ ∃ q, w' = w.drewN q

set_option maxHeartbeats 1000000 in
set_option maxRecDepth 100000 in
theorem right_any (p : Option Addr) (c : Nat) (L : Pairs) (w : World) (h : Sl w p L) (hn : L.length ≤ 1000000) :
    Calls Try.prog 7 #[.slice p L.length c] w (Says L w) := by
  have H := Lib.hid h
  obtain ⟨n, hnn⟩ : ∃ n, L.length = n := ⟨_, rfl⟩
  rw [hnn] at hn ⊢
  have HN := Lib.hid hnn
  clear h hnn
  go_enter Try.func7, Try.ntmps7
  go_wp2
  go_loopw [3] (fun i wr => ∃ j q : Nat, i = .int .i64 ((j + 1 : Nat) : Int) ∧ (j + 1 ≤ n ∨ j = 0) ∧ wr = w.drewN q ∧ Hid (Asc L (j + 1))) (fun i _ => n + 1 - (intOf i).toNat)
  case atStart => exact ⟨0, 0, rfl, .inr rfl, rfl, fun t ht h0 => by omega⟩
  case round =>
    obtain ⟨j, q, rfl, hjn, rfl, hA⟩ := hrel
    by_cases hlt : j + 1 < n
    · have hltz : (j : Int) + 1 < (n : Int) := by omega
      have h1 : j < L.length := by rw [HN.out]; omega
      have h2 : j + 1 < L.length := by rw [HN.out]; omega
      obtain ⟨b, o, rfl, a1, r1⟩ := H.out j h1
      obtain ⟨b', o', he, a2, r2⟩ := H.out (j + 1) h2
      obtain ⟨rfl, rfl⟩ : b = b' ∧ o = o' := by simpa using he
      have hi0 : (0 : Int) ≤ (j : Int) := by omega
      have hi1 : (j : Int) < (n : Int) := by omega
      have hi2 : (0 : Int) ≤ (j : Int) + 1 := by omega
      have hwr : IntKind.i64.wrap (j : Int) = (j : Int) := by rw [IntKind.wrap_i64]; omega
      have ei : ((j : Int) + 1).toNat = j + 1 := by omega
      obtain ⟨ka, hka⟩ : ∃ ka, L[j].1 = ka := ⟨_, rfl⟩
      obtain ⟨kb, hkb⟩ : ∃ kb, L[j + 1].1 = kb := ⟨_, rfl⟩
      rw [hka] at a1
      rw [hkb] at a2
      cases hl : lt ka kb with
      | true =>
        have hbl : Op.bytesLess ka.toList kb.toList = true := hl
        have HA2 := Lib.hid (show Asc L (j + 1 + 1) from fun t ht h0 => by
          rcases Nat.lt_or_ge (t + 1) (j + 1) with h3 | h3
          · exact hA.out t ht h3
          · obtain rfl : t = j := by omega
            rw [hka, hkb]; exact hl)
        clear r1 r2 hka hkb h1 h2 hl he
        go_wp2_with fail
        go_quiet (fail)
        go_wp2
        go_roundw
        case rel => exact ⟨j + 1, _, by go_num, by omega, rfl, HA2⟩
        case measure => simp [intOf]; omega
      | false =>
        have hbl : Op.bytesLess ka.toList kb.toList = false := hl
        have HNo := Lib.hid (show ¬ Rise L from fun hR => by
          have := rise_asc hR j h2
          rw [hka, hkb, hl] at this; cases this)
        clear r1 r2 hka hkb h1 h2 hl he
        go_wp2_with fail
        go_quiet (fail)
        go_wp2
        go_ret
        exact ⟨false, rfl, ⟨fun h => absurd h Bool.false_ne_true, fun h => absurd h HNo.out⟩, q + nq, by simp [World.drewN, Nat.add_assoc]⟩
    · have hltz : ¬ (j : Int) + 1 < (n : Int) := by omega
      have HR := Lib.hid (show Rise L from asc_rise (fun t ht h0 => hA.out t ht (by have := HN.out; omega)))
      go_wp2
      go_ret
      exact ⟨true, rfl, ⟨fun _ => HR.out, fun _ => rfl⟩, q, rfl⟩

/-- The key that is ahead. -/
def lowD : Pairs → Pairs → ByteArray
  | p :: _, [] => p.1
  | p :: _, q :: _ => if lt p.1 q.1 then p.1 else q.1
  | [], q :: _ => q.1
  | [], [] => ⟨#[]⟩

set_option maxHeartbeats 1000000 in
set_option maxRecDepth 100000 in
theorem lowest_any (pa pb : Option Addr) (ca cb na nb : Nat) (A B : Pairs) (w : World) (ha : Sl w pa A) (hb : Sl w pb B) (hla : A.length = na) (hlb : B.length = nb) (hne : 0 < na ∨ 0 < nb) (hn : na ≤ 1000000 ∧ nb ≤ 1000000) :
    Calls Try.prog 31 #[.slice pa na ca, .slice pb nb cb] w fun e w' => e = .returned (.string (lowD A B)) ∧ ∃ q, w' = w.drewN q := by
  match A, B, hla, hlb with
  | [], [], hla, hlb => simp at hla hlb; omega
  | p :: r, [], hla, hlb =>
    obtain rfl : nb = 0 := by simpa using hlb.symm
    obtain ⟨b, o, rfl, c1, _⟩ := ha 0 (by simp)
    have c1' : w.cell? ⟨b, o, none⟩ = some (.string p.1) := by simpa using c1
    have hpos : 0 < na := by rw [← hla]; simp
    have hposz : (0 : Int) < (na : Int) := by omega
    show Calls _ _ _ _ fun e w' => e = .returned (.string p.1) ∧ _
    obtain ⟨pk, hpk⟩ : ∃ pk, p.1 = pk := ⟨_, rfl⟩
    rw [hpk] at c1' ⊢
    clear hpk c1 ha hb hla hlb hne hn
    go_enter Try.func31, Try.ntmps31
    go_wp2_with fail
    go_quiet (fail)
    go_wp2
    go_ret
    exact ⟨rfl, _, rfl⟩
  | [], p :: r, hla, hlb =>
    obtain rfl : na = 0 := by simpa using hla.symm
    obtain ⟨b, o, rfl, c1, _⟩ := hb 0 (by simp)
    have c1' : w.cell? ⟨b, o, none⟩ = some (.string p.1) := by simpa using c1
    have hpos : 0 < nb := by rw [← hlb]; simp
    have hposz : (0 : Int) < (nb : Int) := by omega
    have hne0 : ¬ (nb : Int) = 0 := by omega
    have hne1 : ((nb : Int) == 0) = false := by rw [beq_eq_false_iff_ne]; omega
    show Calls _ _ _ _ fun e w' => e = .returned (.string p.1) ∧ _
    obtain ⟨pk, hpk⟩ : ∃ pk, p.1 = pk := ⟨_, rfl⟩
    rw [hpk] at c1' ⊢
    clear hpk c1 ha hb hla hlb hne hn
    go_enter Try.func31, Try.ntmps31
    go_wp2_with fail
    go_quiet (fail)
    go_wp2
    go_ret
    exact ⟨rfl, _, rfl⟩
  | p :: r, q :: s, hla, hlb =>
    obtain ⟨b, o, rfl, c1, _⟩ := ha 0 (by simp)
    obtain ⟨b', o', rfl, d1, _⟩ := hb 0 (by simp)
    have c1' : w.cell? ⟨b, o, none⟩ = some (.string p.1) := by simpa using c1
    have d1' : w.cell? ⟨b', o', none⟩ = some (.string q.1) := by simpa using d1
    have hpos : 0 < nb := by rw [← hlb]; simp
    have hpos2 : 0 < na := by rw [← hla]; simp
    have hposz : (0 : Int) < (nb : Int) := by omega
    have hpos2z : (0 : Int) < (na : Int) := by omega
    have hne0 : ¬ (nb : Int) = 0 := by omega
    have hne1 : ((nb : Int) == 0) = false := by rw [beq_eq_false_iff_ne]; omega
    show Calls _ _ _ _ fun e w' => e = .returned (.string (if lt p.1 q.1 then p.1 else q.1)) ∧ _
    obtain ⟨pk, hpk⟩ : ∃ pk, p.1 = pk := ⟨_, rfl⟩
    obtain ⟨qk, hqk⟩ : ∃ pk, q.1 = pk := ⟨_, rfl⟩
    rw [hpk, hqk]
    rw [hpk] at c1'
    rw [hqk] at d1'
    cases hl : lt pk qk with
    | true =>
      have hbl : Op.bytesLess pk.toList qk.toList = true := hl
      clear hpk hqk c1 d1 ha hb hla hlb hne hn hl
      go_enter Try.func31, Try.ntmps31
      go_wp2_with fail
      go_quiet (fail)
      go_wp2
      go_ret
      exact ⟨rfl, _, rfl⟩
    | false =>
      have hbl : Op.bytesLess pk.toList qk.toList = false := hl
      clear hpk hqk c1 d1 ha hb hla hlb hne hn hl
      go_enter Try.func31, Try.ntmps31
      go_wp2_with fail
      go_quiet (fail)
      go_wp2
      go_ret
      exact ⟨rfl, _, rfl⟩

/-- What a key has in a row that has no key ahead of it. -/
def firstD : Pairs → ByteArray → ChD
  | p :: _, k => if p.1 = k then ⟨k, true, p.2⟩ else no k
  | [], k => no k

set_option maxHeartbeats 1000000 in
set_option maxRecDepth 100000 in
theorem first_any (pa : Option Addr) (ca na : Nat) (A : Pairs) (k : ByteArray) (w : World) (ha : Sl w pa A) (hla : A.length = na) (hn : na ≤ 1000000) :
    Calls Try.prog 32 #[.slice pa na ca, .string k] w fun e w' => e = .returned (.agg (encC (firstD A k)).toArray) ∧ Below w.heap.size w w' := by
  match A, hla with
  | [], hla =>
    obtain rfl : na = 0 := by simpa using hla.symm
    show Calls _ _ _ _ fun e w' => e = .returned (.agg #[.string k, .bool false, .string ⟨#[]⟩]) ∧ _
    clear ha hla hn
    go_enter Try.func32, Try.ntmps32
    go_wp2
    (try simp only [Exit.inBlock, Exit.then])
    refine bodyPost_ret (results_cell_row rfl _ _ w.heap.size 38 #[.string k, .bool false, .string ⟨#[]⟩] (0, 0) _ rfl (heap_alloc_new _ _) Try.underlying38 rfl (by kernel_rfl)) rfl ?_
    exact ⟨rfl, ((Below.refl _ w).alloc (Nat.le_refl _) _)⟩
  | p :: r, hla =>
    obtain ⟨b, o, rfl, c1, c2⟩ := ha 0 (by simp)
    have c1' : w.cell? ⟨b, o, none⟩ = some (.string p.1) := by simpa using c1
    have c2' : w.cell? ⟨b, o + 1, none⟩ = some (.string p.2) := by simpa using c2
    have hlt := cell_lt c1'
    have hpos : 0 < na := by rw [← hla]; simp
    have hposz : (0 : Int) < (na : Int) := by omega
    have hne0 : ¬ (na : Int) = 0 := by omega
    have hne1 : ((na : Int) == 0) = false := by rw [beq_eq_false_iff_ne]; omega
    show Calls _ _ _ _ fun e w' => e = .returned (.agg (encC (if p.1 = k then ⟨k, true, p.2⟩ else no k)).toArray) ∧ _
    obtain ⟨pk, hpk⟩ : ∃ pk, p.1 = pk := ⟨_, rfl⟩
    obtain ⟨pv, hpv⟩ : ∃ pk, p.2 = pk := ⟨_, rfl⟩
    rw [hpk, hpv]
    rw [hpk] at c1'
    rw [hpv] at c2'
    clear hpk hpv c1 c2 ha hla hn
    by_cases he : pk = k
    · subst he
      rw [if_pos rfl]
      show Calls _ _ _ _ fun e w' => e = .returned (.agg #[.string pk, .bool true, .string pv]) ∧ _
      go_enter Try.func32, Try.ntmps32
      go_wp2
      (try simp only [Exit.inBlock, Exit.then])
      refine bodyPost_ret (results_cell_row rfl _ _ w.heap.size 38 #[.string pk, .bool true, .string pv] (0, 0) _ rfl (heap_alloc_new _ _) Try.underlying38 rfl (by kernel_rfl)) rfl ?_
      exact ⟨rfl, ((Below.refl _ w).alloc (Nat.le_refl _) _)⟩
    · have hbe := ne_bytes he
      rw [if_neg he]
      clear he
      show Calls _ _ _ _ fun e w' => e = .returned (.agg #[.string k, .bool false, .string ⟨#[]⟩]) ∧ _
      go_enter Try.func32, Try.ntmps32
      go_wp2
      (try simp only [Exit.inBlock, Exit.then])
      refine bodyPost_ret (results_cell_row rfl _ _ w.heap.size 38 #[.string k, .bool false, .string ⟨#[]⟩] (0, 0) _ rfl (heap_alloc_new _ _) Try.underlying38 rfl (by kernel_rfl)) rfl ?_
      exact ⟨rfl, ((Below.refl _ w).alloc (Nat.le_refl _) _)⟩

theorem both_any (va vb : Value) (w : World) (ha : ∃ p n c, va = .slice p n c) (hb : ∃ p n c, vb = .slice p n c) :
    Calls Try.prog 19 #[va, vb] w fun e w' =>
      e = .returned (.func (.func 30) #[] #[.pointer (some ⟨w.heap.size, 0, none⟩), .pointer (some ⟨w.heap.size + 1, 0, none⟩)]) ∧
      w' = (w.alloc (.cells #[va] 22)).alloc (.cells #[vb] 22) := by
  obtain ⟨p, n, c, rfl⟩ := ha
  obtain ⟨p', n', c', rfl⟩ := hb
  go_enter Try.func19, Try.ntmps19
  go_wp2
  go_ret
  exact ⟨rfl, rfl⟩

end Go.Proofs.Ytbddicaabjlbjaa
