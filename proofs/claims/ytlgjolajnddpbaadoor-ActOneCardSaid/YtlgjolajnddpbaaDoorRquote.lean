/-
  A text's word, and a number's digits, by the reference.
-/
import Derived.Test.YtlgjolajnddpbaaDoorQuote
import Derived.Test.YtlgjolajnddpbaaDoorTabs
import Derived.Laws.IdiomStrings
import Derived.StillTailTactics
namespace Go.Proofs.YtlgjolajnddpbaaDoor
open Go Go.Shelf Go.RowKit
attribute [local go_sem ↓] Go.wp_at_zero Go.wp_at_succ

theorem conv_bytes (l : List UInt8) (C : Array Value) (n : Nat) (hn : n = l.length) (hC : C = (l.map fun c => Value.int .u8 (c.toNat : Int)).toArray) (X : World) :
    (convert 48 9 (.slice (some ⟨X.heap.size, 0, none⟩) n n)).run Tryd.prog (X.alloc (.cells C 5)) = .ok (.string ⟨l.toArray⟩) (X.alloc (.cells C 5)) := by
  subst hn hC
  refine run_convert_bytes_back _ _ _ 5 _ _ l Tryd.underlying48 Tryd.underlying5 Tryd.underlying9 (fun j hj => ?_)
  have h0 : (⟨X.heap.size, 0, none⟩ : Addr).add j = ⟨X.heap.size, j, none⟩ := by unfold Addr.add; split <;> simp_all
  rw [h0, cell_of (World.alloc_heap_new X _)]
  simp [hj]

def plainL : List UInt8 := [97, 98, 99, 100, 101, 102, 103, 104, 105, 106, 107, 108, 109, 110, 111, 112, 113, 114, 115, 116, 117, 118, 119, 120, 121, 122, 65, 66, 67, 68, 69, 70, 71, 72, 73, 74, 75, 76, 77, 78, 79, 80, 81, 82, 83, 84, 85, 86, 87, 88, 89, 90, 48, 49, 50, 51, 52, 53, 54, 55, 56, 57, 46, 58, 47, 95]
theorem plain_all : ((List.range 256).all fun c => plainZ (c : Int) == plainL.any (fun d => d.toNat == c)) = true := by kernel_rfl
theorem plain_is (c : UInt8) : plainZ (c.toNat : Int) = plainL.any (fun d => d.toNat == c.toNat) := by
  have := List.all_eq_true.1 plain_all c.toNat (List.mem_range.2 c.toNat_lt)
  simpa using this
theorem get_list (b : ByteArray) (l : List UInt8) (h : b.data.toList = l) (k : Nat) (hk : k < b.size) : b[k] = l.getD k 0 := by
  subst h
  have hk' : k < b.data.toList.length := by rw [Array.length_toList]; exact hk
  rw [List.getD_eq_getElem?_getD, List.getElem?_eq_getElem hk']
  rfl
set_option maxRecDepth 100000 in
set_option maxHeartbeats 1000000 in
theorem plain_any (c : UInt8) (W : World) : Calls Tryd.prog 77 #[.int .u8 (c.toNat : Int)] W fun e W' => e = .returned (.bool (plainZ (c.toNat : Int))) ∧ W = W' := by
  obtain ⟨z, hz⟩ : ∃ z, plainZ (c.toNat : Int) = z := ⟨_, rfl⟩
  have HP := Lib.hid (hz.symm.trans (plain_is c))
  rw [hz]
  clear hz
  go_enter Tryd.func77, Tryd.ntmps77
  go_wp2_with fail
  go_loop [4] (fun s => ∃ k : Nat, s = .int .i64 k ∧ k ≤ 66 ∧ ∀ j, j < k → (plainL.getD j 0).toNat ≠ c.toNat) (fun s => 66 - (intOf s).toNat)
  case atStart => exact ⟨0, rfl, by omega, fun j hj => absurd hj (Nat.not_lt_zero _)⟩
  case round =>
    obtain ⟨k, rfl, hkn, hA⟩ := hrel
    by_cases hlt : k < 66
    · have hltz : (k : Int) < 66 := by omega
      have h0 : (0 : Int) ≤ (k : Int) := by omega
      have HT := Lib.hid (fun (b : ByteArray) (hb : b.data.toList = plainL) (hk : k < b.size) (hx : (((b[k]).toNat : Int) == (c.toNat : Int)) = true) => (show true = z by
        rw [get_list b _ hb k hk] at hx
        rw [HP.out]
        symm
        rw [List.any_eq_true]
        have hk' : k < plainL.length := hlt
        refine ⟨plainL[k], List.getElem_mem hk', ?_⟩
        rw [List.getD_eq_getElem?_getD, List.getElem?_eq_getElem hk'] at hx
        simp at hx ⊢
        omega))
      have HF := Lib.hid (fun (b : ByteArray) (hb : b.data.toList = plainL) (hk : k < b.size) (hx : (((b[k]).toNat : Int) == (c.toNat : Int)) = false) => (show ∀ j, j < k + 1 → (plainL.getD j 0).toNat ≠ c.toNat from fun j hj => by
        by_cases hjk : j < k
        · exact hA j hjk
        · obtain rfl : j = k := by omega
          rw [get_list b _ hb j hk] at hx
          simp only [beq_eq_false_iff_ne] at hx
          omega))
      clear hA
      go_wp2_with fail
      · rename_i hx _
        have hz1 : true = z := by
          refine HT.out _ ?_ ?_ hx
          · rfl
          · exact hlt
        go_ret
        exact ⟨by rw [← hz1]; rfl, rfl⟩
      · rename_i hx
        have hA' : ∀ j, j < k + 1 → (plainL.getD j 0).toNat ≠ c.toNat := by
          refine HF.out _ ?_ ?_ hx
          · rfl
          · exact hlt
        exact ⟨⟨k + 1, by go_num, by omega, hA'⟩, by simp [intOf]; omega⟩
    · obtain rfl : k = 66 := by omega
      have HE : Hid (z = false) := Lib.hid (by
        rw [HP.out, List.any_eq_false]
        intro d hd hh
        obtain ⟨j, hj, rfl⟩ := List.getElem_of_mem hd
        refine hA j hj ?_
        rw [List.getD_eq_getElem?_getD, List.getElem?_eq_getElem hj]
        simpa using hh)
      clear hA
      go_wp2_with fail
      go_ret
      exact ⟨by rw [HE.out]; rfl, rfl⟩

theorem idx_hex (i : Nat) (h : i < 16) (w : World) : (Instr.index 9 (.string ⟨#[48, 49, 50, 51, 52, 53, 54, 55, 56, 57, 97, 98, 99, 100, 101, 102]⟩) (.int .u8 (i : Int))).run Tryd.prog w = .ok (.int .u8 ((hxd i).toNat : Int)) w := by
  rw [run_index_string (h := Tryd.underlying9), dif_pos ⟨by omega, by show (i : Int) < 16; omega⟩]
  have e : ((i : Int)).toNat = i := by omega
  simp only [e]
  rw [hx_get]
set_option maxRecDepth 100000 in
set_option maxHeartbeats 1000000 in
theorem one_any (c : UInt8) (W : World) : Calls Tryd.prog 69 #[.int .u8 (c.toNat : Int)] W fun e W' => e = .returned (.string ⟨(q1 c).toArray⟩) ∧ Below W.heap.size W W' := by
  have hp : ∀ X, Calls Tryd.prog 77 #[.int .u8 (c.toNat : Int)] X fun e W' => e = .returned (.bool (plainZ (c.toNat : Int))) ∧ X = W' := plain_any c
  have hq : q1 c = if plainZ (c.toNat : Int) then [c] else [37, hxd (c.toNat / 16), hxd (c.toNat % 16)] := rfl
  obtain ⟨b0, hb0⟩ : ∃ b, plainZ (c.toNat : Int) = b := ⟨_, rfl⟩
  rw [hb0] at hp hq
  have HP := Lib.hid hp
  have HQ := Lib.hid hq
  have hz := c.toNat_lt
  have c1 := conv_bytes [c] #[.int .u8 (c.toNat : Int)] 1 rfl rfl W
  have c3 := fun X Y Z => conv_bytes [37, X, Y] #[.int .u8 37, .int .u8 (X.toNat : Int), .int .u8 (Y.toNat : Int)] 3 rfl rfl Z
  clear hp hq hb0
  go_enter Tryd.func69, Tryd.ntmps69
  go_wp2_with fail
  refine (HP.out _).mono ?_
  rintro e w1 ⟨rfl, rfl⟩
  cases b0
  · clear c1
    have hw : IntKind.u8.wrap ((c.toNat : Int) / 16) = (c.toNat : Int) / 16 := by rw [IntKind.wrap_u8]; omega
    go_wp2_with fail
    have i1 := fun w => idx_hex (c.toNat / 16) (by omega) w
    have i2 := fun w => idx_hex (c.toNat % 16) (by omega) w
    rw [show ((c.toNat / 16 : Nat) : Int) = (c.toNat : Int) / 16 from by omega] at i1
    rw [show ((c.toNat % 16 : Nat) : Int) = (c.toNat : Int).tmod 16 from by rw [Int.tmod_eq_emod_of_nonneg (by omega)]; omega] at i2
    have hmix : Tryd.prog.follows .mixedOrders = true := by kernel_rfl
    go_still_tail 8, hmix
    change wpList _ _ _ _ _ W.drew
    have hbd := Lib.hid (below_drew W)
    generalize W.drew = w2 at hbd ⊢
    go_wp2_with fail
    go_ret
    refine ⟨?_, hbd.out.trans ((below_alloc w2 _).mono hbd.out.size)⟩
    rw [HQ.out]
    rfl
  · clear c3
    go_wp2_with fail
    go_ret
    refine ⟨?_, below_alloc _ _⟩
    rw [HQ.out]
    rfl

/-- A number's last digit. -/
def dgt (m : Nat) : UInt8 := UInt8.ofNat (48 + m % 10)
theorem dgt_int (m : Nat) : ((dgt m).toNat : Int) = 48 + (m : Int) % 10 := by
  unfold dgt
  rw [UInt8.toNat_ofNat']
  omega
theorem dgt_first (u : Nat) : Lib.decDigits u = (if u > 9 then Lib.decDigits (u / 10) else []) ++ [dgt u] := by
  unfold dgt
  by_cases h : u < 10
  · rw [if_neg (by omega), Lib.decDigits_one h, Nat.mod_eq_of_lt h]; rfl
  · rw [if_pos (by omega), Lib.decDigits, dif_neg h]
theorem dgt_next {u m : Nat} {l : List UInt8} (hm : m > 9) (h : Lib.decDigits u = (if m > 9 then Lib.decDigits (m / 10) else []) ++ l) : Lib.decDigits u = (if m / 10 > 9 then Lib.decDigits (m / 10 / 10) else []) ++ (dgt (m / 10) :: l) := by
  rw [if_pos hm, dgt_first (m / 10)] at h
  rw [h]; simp

set_option maxRecDepth 100000 in
set_option maxHeartbeats 1000000 in
theorem natural_any (u : Nat) (hu : u < 18446744073709551616) (W : World) : Calls Tryd.prog 52 #[.int .u64 (u : Int)] W fun e W' => e = .returned (.string (digN u)) ∧ Below W.heap.size W W' := by
  have hcv := fun (m : Nat) (X : World) => conv_bytes [dgt m] #[.int .u8 (48 + (m : Int) % 10)] 1 rfl (by rw [← dgt_int]; rfl) X
  have hsz := dig_size u hu
  have HZ := Lib.hid hsz
  clear hsz
  go_enter Tryd.func52, Tryd.ntmps52
  go_wp2_with fail
  go_loopw [0, 3] (fun s0 s3 wr => ∃ (m : Nat) (l : List UInt8), s0 = .int .u64 (m : Int) ∧ s3 = .string ⟨l.toArray⟩ ∧ m ≤ u ∧ Hid (Lib.decDigits u = (if m > 9 then Lib.decDigits (m / 10) else []) ++ l) ∧ Hid (Below W.heap.size W wr)) (fun s0 _ _ => (intOf s0).toNat)
  case atStart => exact ⟨u, [dgt u], rfl, rfl, Nat.le_refl _, dgt_first u, below_alloc _ _⟩
  case round =>
    obtain ⟨m, l, rfl, rfl, hmu, hD, hB⟩ := hrel
    by_cases hm : m > 9
    · have hm' : (9 : Int) < (m : Int) := by omega
      have hz1 : (⟨#[dgt (m / 10)]⟩ : ByteArray).size + (⟨l.toArray⟩ : ByteArray).size ≤ 9223372036854775807 := by
        have h1 := HZ.out
        have h2 := congrArg List.length hD.out
        simp only [List.length_append] at h2
        have h3 : (digN u).size = (Lib.decDigits u).length := by simp [digN, ByteArray.size]
        have h4 : (⟨l.toArray⟩ : ByteArray).size = l.length := by simp [ByteArray.size]
        have h5 : (⟨#[dgt (m / 10)]⟩ : ByteArray).size = 1 := rfl
        omega
      have hD2 := Lib.hid (dgt_next hm hD.out)
      have hc := hcv (m / 10) wr
      rw [show ((m / 10 : Nat) : Int) = (m : Int) / 10 from by omega] at hc
      go_wp2_with fail
      go_roundw
      case rel =>
        refine ⟨m / 10, dgt (m / 10) :: l, by rw [show ((m / 10 : Nat) : Int) = (m : Int) / 10 from by omega], ?_, by omega, hD2, hB.out.trans ((below_alloc wr _).mono hB.out.size)⟩
        rw [show (⟨#[dgt (m / 10)]⟩ : ByteArray) = ⟨[dgt (m / 10)].toArray⟩ from rfl, mk_app]
        rfl
      case measure => simp only [intOf]; omega
    · have hE := Lib.hid hD.out
      go_wp2_with fail
      go_ret
      refine ⟨?_, hB.out⟩
      have := hE.out
      rw [if_neg hm, List.nil_append] at this
      unfold digN
      rw [this]
      rfl

set_option maxRecDepth 100000 in
set_option maxHeartbeats 2000000 in
theorem rquote_some (s : ByteArray) (W : World) (hs : s.data.toList ≠ []) (h4 : s.size ≤ 4096) : Calls Tryd.prog 53 #[.string s] W fun e W' => e = .returned (.string ⟨(s.data.toList.flatMap q1).toArray⟩) ∧ Below W.heap.size W W' := by
  have he : s.toList.isEmpty = false := by rw [ByteArray.toList_eq]; cases h : s.data.toList with
    | nil => exact absurd h hs
    | cons a t => rfl
  have HO := Lib.hid (fun X c => one_any c X)
  have HN := Lib.hid (show s.data.toList.length = s.size by rw [Array.length_toList]; rfl)
  have HG := Lib.hid (fun k (hk : k < s.size) => get_list s _ rfl k hk)
  clear hs
  go_enter Tryd.func53, Tryd.ntmps53
  go_wp2_with fail
  go_loopw [3, 4] (fun s3 s4 wr => ∃ k : Nat, s4 = .int .i64 (k : Int) ∧ k ≤ s.size ∧ s3 = .string ⟨((s.data.toList.take k).flatMap q1).toArray⟩ ∧ Hid (Below W.heap.size W wr)) (fun _ s4 _ => s.size - (intOf s4).toNat)
  case atStart => exact ⟨0, rfl, Nat.zero_le _, rfl, Below.refl _ _⟩
  case round =>
    obtain ⟨k, rfl, hkn, rfl, hB⟩ := hrel
    by_cases hlt : k < s.size
    · have hkl : k < s.data.toList.length := by rw [HN.out]; exact hlt
      have hltz : (k : Int) < (s.size : Int) := by omega
      have h0 : (0 : Int) ≤ (k : Int) := by omega
      have hg := HG.out k hlt
      rw [List.getD_eq_getElem?_getD, List.getElem?_eq_getElem hkl] at hg
      have HF := Lib.hid (flat_take hkl)
      have hlen := quote_len (s.data.toList.take k)
      rw [List.length_take] at hlen
      have HS := Lib.hid (show (⟨((s.data.toList.take k).flatMap q1).toArray⟩ : ByteArray).size + (⟨(q1 (s.data.toList[k])).toArray⟩ : ByteArray).size ≤ 9223372036854775807 by
        have h1 : (⟨((s.data.toList.take k).flatMap q1).toArray⟩ : ByteArray).size = ((s.data.toList.take k).flatMap q1).length := by simp [ByteArray.size]
        have h2 : (⟨(q1 (s.data.toList[k])).toArray⟩ : ByteArray).size = (q1 (s.data.toList[k])).length := by simp [ByteArray.size]
        have h3 := q1_len (s.data.toList[k])
        omega)
      clear hlen
      obtain ⟨c, hc⟩ : ∃ c, s.data.toList[k] = c := ⟨_, rfl⟩
      rw [hc] at HF HS hg
      clear hc
      simp only [Option.getD_some] at hg
      go_wp2_with fail
      refine (HO.out _ c).mono ?_
      rintro e w1 ⟨rfl, hb⟩
      have HB := Lib.hid (hB.out.trans (hb.mono hB.out.size))
      have hs' := HS.out
      clear hb
      go_wp2_with fail
      go_roundw
      case rel => exact ⟨k + 1, by go_num, by omega, by rw [HF.out, ← mk_app], HB⟩
      case measure => simp [intOf]; omega
    · obtain rfl : k = s.size := by omega
      have HE := Lib.hid (show s.data.toList.take s.size = s.data.toList from List.take_of_length_le (by rw [HN.out]; exact Nat.le_refl _))
      go_wp2_with fail
      go_ret
      exact ⟨by rw [HE.out]; rfl, hB.out⟩

theorem rquote_any (s : ByteArray) (W : World) (h4 : s.size ≤ 4096) : Calls Tryd.prog 53 #[.string s] W fun e W' => e = .returned (.string (quoteB s)) ∧ Below W.heap.size W W' := by
  by_cases hs : s.data.toList = []
  · have he : s.toList.isEmpty = true := by rw [ByteArray.toList_eq, hs]; rfl
    have hq : quoteB s = ⟨#[45]⟩ := by unfold quoteB quoteL; rw [if_pos hs]
    rw [hq]
    clear hs h4 hq
    go_enter Tryd.func53, Tryd.ntmps53
    go_wp2_with fail
    go_ret
    exact ⟨rfl, Below.refl _ _⟩
  · have hq : quoteB s = ⟨(s.data.toList.flatMap q1).toArray⟩ := by unfold quoteB quoteL; rw [if_neg hs]
    rw [hq]
    exact rquote_some s W hs h4

end Go.Proofs.YtlgjolajnddpbaaDoor
