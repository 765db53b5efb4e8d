/-
  The walk through PendingRoom.
-/
import Derived.Test.YtkfnndhoccjffaaRoomwalk
namespace Go.Proofs.Ytkfnndhoccjffaa
open Go Go.RowKit
attribute [local go_sem ↓] Go.wp_at_zero Go.wp_at_succ

set_option maxRecDepth 100000 in
set_option maxHeartbeats 8000000 in
theorem room_walk (m n d : Nat) (W : World) (hm : m ≤ 255) (hn : n ≤ 255) (hd : d ≤ 255) :
    Calls Try.prog 5 #[.int .u8 m, .int .u8 n, .int .u8 d] W (Says true W) := by
  obtain ⟨rm, hrm⟩ : ∃ rm, min m 32 = rm := ⟨_, rfl⟩
  have h32 : rm ≤ 32 := by omega
  have hrz : min (m : Int) 32 = (rm : Int) := by omega
  have hcl : clampD (m : Int) = rm := by unfold clampD; omega
  obtain ⟨i0, gi, gz0, gz1, gz2⟩ := info_parts info_id
  have HRM := Lib.hid hrm
  clear hrm
  go_enter Try.func5, Try.ntmps5
  go_wp2_with fail
  refine (new_any m _).mono ?_
  rintro en w1 ⟨p, f1, rfl, h1, hb1⟩
  rw [hcl] at h1
  have HI := Lib.hid (show RoomI W.heap.size p rm 0 W (fun E => E = bares (min 0 rm)) w1 from ⟨_, f1, h1, by rw [Nat.zero_min]; rfl, hb1⟩)
  clear h1 hb1 hcl
  go_wp2_with fail
  go_loopw [9] (fun i wr => ∃ k : Nat, i = .int .i64 (k + 1) ∧ k ≤ n ∧ Hid (RoomI W.heap.size p rm k W (fun E => E = bares (min k rm)) wr)) (fun i _ => n + 1 - (intOf i).toNat)
  case atStart => exact ⟨0, rfl, Nat.zero_le _, HI⟩
  case round =>
    clear HI
    obtain ⟨k, rfl, hkn, hI⟩ := hrel
    by_cases hlt : k < n
    · have hle : (k : Int) + 1 ≤ (n : Int) := by omega
      obtain ⟨E, f, h1, rfl, h3⟩ := hI.out
      have H1 := Lib.hid h1
      have H3 := Lib.hid h3
      have hB : W.heap.size ≤ wr.heap.size := h1.size
      clear h1 h3
      by_cases hr : k + 1 ≤ rm
      · have hrz1 : (k : Int) + 1 ≤ (rm : Int) := by omega
        have hmin : min ((k : Int) + 1) (rm : Int) = (k : Int) + 1 := by omega
        go_wp2_with fail
        refine (addrow_bare W.heap.size p rm k (bares (min k rm)) f ⟨0, (k : Int) + 1⟩ _ H1.out (fits_small (by omega) (by omega) (by omega) (by omega)) (by omega) true (bares (min (k + 1) rm)) (by rw [room_ok, decide_eq_true hr]) (room_add rm k)).mono ?_
        rintro en w2 ⟨rfl, f2, h2, s2⟩
        have H2 := Lib.hid h2
        have HI2 := Lib.hid (RoomI.step (Q' := fun E => E = bares (min (k + 1) rm)) H1.out H3.out h2 s2 rfl)
        clear h2 s2
        go_wp2_with fail
        refine (len_is W.heap.size p rm (k + 1) (bares (min (k + 1) rm)) f2 _ H2.out (k + 1) (by rw [bares_len]; omega)).mono ?_
        rintro en w3 ⟨rfl, rfl⟩
        go_wp2_with fail
        go_roundw
        case rel => exact ⟨k + 1, by go_num, by omega, HI2⟩
        case measure => simp [intOf]; omega
      · have hrz1 : ¬ (k : Int) + 1 ≤ (rm : Int) := by omega
        have hmin : min ((k : Int) + 1) (rm : Int) = (rm : Int) := by omega
        go_wp2_with fail
        refine (addrow_bare W.heap.size p rm k (bares (min k rm)) f ⟨0, (k : Int) + 1⟩ _ H1.out (fits_small (by omega) (by omega) (by omega) (by omega)) (by omega) false (bares (min (k + 1) rm)) (by rw [room_ok, decide_eq_false hr]) (room_add rm k)).mono ?_
        rintro en w2 ⟨rfl, f2, h2, s2⟩
        have H2 := Lib.hid h2
        have HI2 := Lib.hid (RoomI.step (Q' := fun E => E = bares (min (k + 1) rm)) H1.out H3.out h2 s2 rfl)
        clear h2 s2
        go_wp2_with fail
        refine (len_is W.heap.size p rm (k + 1) (bares (min (k + 1) rm)) f2 _ H2.out rm (by rw [bares_len]; omega)).mono ?_
        rintro en w3 ⟨rfl, rfl⟩
        go_wp2_with fail
        go_roundw
        case rel => exact ⟨k + 1, by go_num, by omega, HI2⟩
        case measure => simp [intOf]; omega
    · obtain rfl : n = k := by omega
      have hle : ¬ (n : Int) + 1 ≤ (n : Int) := by omega
      have HS := Lib.hid (IdsI.start hI.out)
      go_wp2_with fail
      clear hI
      go_loopw [10, 11] (fun lv i wr => ∃ k : Nat, i = .int .i64 (k + 1) ∧ k ≤ d ∧ Hid (IdsI W.heap.size p rm n W (fun E => E = bares (min n rm)) (idsL k) lv wr)) (fun _ i _ => d + 1 - (intOf i).toNat)
      case atStart => exact ⟨0, rfl, Nat.zero_le _, HS⟩
      case round =>
        clear HS
        obtain ⟨k, rfl, hkn, hI⟩ := hrel
        by_cases hlt : k < d
        · have hle2 : (k : Int) + 1 ≤ (d : Int) := by omega
          obtain ⟨a, c, rfl⟩ := hI.out.lot.form
          have hL := hI.out.lot
          rw [idsL_len] at hL
          have HL := Lib.hid (hL.below (below_alloc _ (.cells #[.int .i64 0, .int .i64 ((k : Int) + 1)] 34)))
          have HN := Lib.hid (fun (w' : World) (g cap : Nat) (o : Obj) hL hg hat => IdsI.next (a := ⟨0, (k : Int) + 1⟩) (o := o) (w' := w') (g := g) (cap := cap) hI.out (idsL_len k) hL hg hat)
          rw [← idsL_succ, idsL_len] at HN
          rw [idsL_len]
          have hmx : k + 1 ≤ maxLen := by unfold maxLen; omega
          clear hL
          go_wp2_with (at_builtin; refine wpList_append_lot _ rfl _ _ 42 rfl 34 i0 _ 2 16 Try.underlying42 gi gz0 gz1 gz2 rfl (.slice a k c) k (flatI (idsL k)) rfl HL.out ⟨_, 0, none⟩ 1 1 [.int .i64 0, .int .i64 ((k : Int) + 1)] rfl rfl (info_id_news _ ⟨0, (k : Int) + 1⟩) (by simp [Value.oneCell']) (by omega) hmx (by omega) _ rfl ?_; intro g cap w4 hL4 hg4 hat4; have HF := Lib.hid (HN.out w4 g cap _ hL4 hg4 hat4); clear hL4 hg4 hat4)
          go_roundw
          case rel => exact ⟨k + 1, by go_num, by omega, HF⟩
          case measure => simp [intOf]; omega
        · obtain rfl : d = k := by omega
          have hle2 : ¬ (d : Int) + 1 ≤ (d : Int) := by omega
          obtain ⟨⟨E, f, h1, rfl, h3⟩, hL, hB⟩ := hI.out
          obtain ⟨a, c, rfl⟩ := hL.form
          rw [idsL_len] at hL
          rw [idsL_len]
          have hd1 := drop_any W.heap.size p rm n (bares (min n rm)) f a d c (idsL d) _ h1 (h1.ids hL (idsL_len d)) (idsL_len d) (by omega) (small_ids d (by omega))
          have HD := Lib.hid hd1
          have H1 := Lib.hid h1
          have H3 := Lib.hid h3
          clear h1 h3 hL hB hd1
          obtain ⟨z, hz⟩ : ∃ z : Nat, min n rm = z := ⟨_, rfl⟩
          have hz1 : min (n : Int) (rm : Int) = (z : Int) := by omega
          obtain ⟨y, hy⟩ : ∃ y : Nat, min d z = y := ⟨_, rfl⟩
          have hy1 : min (d : Int) (z : Int) = (y : Int) := by omega
          rw [hz] at HD H1
          go_wp2_with fail
          refine HD.out.mono ?_
          rintro en w5 ⟨f5, rfl, h5, s5⟩
          have e5 : ((bares z).length : Int) - ((withoutD (bares z) (idsL d)).length : Nat) = (y : Int) := by rw [bares_len, less_bares]; omega
          rw [e5]
          have H5 := Lib.hid h5
          have HI5 := Lib.hid (RoomI.step (Q' := More rm (z - y) 0) H1.out H3.out h5 s5 ⟨by rw [less_bares]; omega, fun e he => by
            obtain ⟨h6, _⟩ := List.mem_filter.1 he
            left
            have : e.id ∈ idsD (bares z) := List.mem_map.2 ⟨e, h6, rfl⟩
            rw [idsD_bares, mem_idsL] at this
            exact this.1⟩)
          clear h5 s5
          have hzy : (rm : Int) - (z : Int) + (y : Int) = (rm : Int) - ((z : Int) - (y : Int)) := by omega
          go_wp2_with fail
          refine (room_is W.heap.size p rm n (withoutD (bares z) (idsL d)) f5 _ H5.out ((rm : Int) - (z : Int) + (y : Int)) (by rw [less_bares]; omega)).mono ?_
          rintro en w6 ⟨rfl, hb6⟩
          have HI6 := Lib.hid (HI5.out.below hb6)
          clear hb6 H5 HI5 hzy
          go_wp2_with fail
          go_loopw [13] (fun i wr => ∃ k : Nat, i = .int .i64 k ∧ k ≤ 40 ∧ Hid (RoomI W.heap.size p rm (n + k) W (More rm (z - y) k) wr)) (fun i _ => 40 - (intOf i).toNat)
          case atStart => exact ⟨0, rfl, Nat.zero_le _, HI6⟩
          case round =>
            clear HI6
            obtain ⟨k, rfl, hk40, hI⟩ := hrel
            obtain ⟨E, f, h1, hq, h3⟩ := hI.out
            have H1 := Lib.hid h1
            have H3 := Lib.hid h3
            clear h1 h3
            by_cases hlt : k < 40
            · have hlz : (k : Int) < 40 := by omega
              obtain ⟨rr, hrr⟩ : ∃ rr, okD rm E (bareE ⟨1, (k : Int)⟩) = rr := ⟨_, rfl⟩
              go_wp2_with fail
              refine (addrow_bare W.heap.size p rm (n + k) E f ⟨1, (k : Int)⟩ _ H1.out (fits_small (by omega) (by omega) (by omega) (by omega)) (by omega) rr _ hrr rfl).mono ?_
              rintro en w7 ⟨rfl, f7, h7, s7⟩
              have HI7 := Lib.hid (RoomI.step (Q' := More rm (z - y) (k + 1)) H1.out H3.out h7 s7 hq.next)
              clear h7 s7
              go_wp2_with fail
              go_roundw
              case rel => exact ⟨k + 1, by go_num, by omega, HI7⟩
              case measure => simp [intOf]; omega
            · obtain rfl : k = 40 := by omega
              have hEl : E.length = rm := by have := hq.1; omega
              go_wp2_with fail
              refine (len_is W.heap.size p rm (n + 40) E f _ H1.out rm hEl).mono ?_
              rintro en w8 ⟨rfl, rfl⟩
              go_wp2_with fail
              refine (room_is W.heap.size p rm (n + 40) E f _ H1.out 0 (by omega)).mono ?_
              rintro en w9 ⟨rfl, hb9⟩
              have HB9 := Lib.hid (H3.out.trans (hb9.mono H1.out.size))
              clear hb9
              go_wp2_with fail
              refine (awake_any _).mono ?_
              rintro en w10 ⟨rfl, hb10⟩
              have HB10 := Lib.hid (HB9.out.trans (hb10.mono HB9.out.size))
              clear hb10
              go_wp2_with fail
              go_ret
              exact Says.mk rfl HB10.out

end Go.Proofs.Ytkfnndhoccjffaa
