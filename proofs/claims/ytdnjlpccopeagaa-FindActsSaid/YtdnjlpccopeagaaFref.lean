/-
  The reference's Find on a tape.
-/
import Derived.Test.YtdnjlpccopeagaaFindm
import Derived.Test.YtdnjlpccopeagaaTape
import Derived.Test.YtdnjlpccopeagaaCref
namespace Go.Proofs.Ytdnjlpccopeagaa
open Go Go.RowKit
attribute [local go_sem ↓] Go.wp_at_zero Go.wp_at_succ

theorem run_field_word (W : World) (w : Int) (t : ByteArray) : (Instr.field 45 (gotV w t) 0).run Try.prog W = .ok (.int .u64 w) W := by
  kernel_rfl
theorem run_field_text (W : World) (w : Int) (t : ByteArray) : (Instr.field 45 (gotV w t) 1).run Try.prog W = .ok (.string t) W := by
  kernel_rfl
section
variable {W : World} {b c : Nat} {ga : Option Addr} {G : List (Int × ByteArray)} {T : TapD}
set_option maxRecDepth 100000 in
set_option maxHeartbeats 2000000 in
theorem tape_load (h : TapAt W b ga c G T) (hga : ∀ a, ga = some a → a.block < W.heap.size) (k : Nat) (i : Int) :
    Calls Try.prog 26 #[.pointer (some ⟨b, 0, none⟩), .int .u64 (k : Int), .int .i64 i] W (TapR b ga c G (onT G T ⟨1, k, i, 0, 0, ⟨#[]⟩⟩) (.int .u64 (doW' G T)) W) := by
  have H := Lib.hid (tape_do W h hga ⟨1, k, i, 0, 0, ⟨#[]⟩⟩)
  obtain ⟨w', hw'⟩ : ∃ w, doW' G T = w := ⟨_, rfl⟩
  obtain ⟨t', ht'⟩ : ∃ w, doT' G T = w := ⟨_, rfl⟩
  rw [hw', ht'] at H
  rw [hw']
  have hfw := fun X => run_field_word X w' t'
  clear h hga hw' ht'
  go_enter Try.func26, Try.ntmps26
  go_wp2_with fail
  refine H.out.mono ?_
  rintro en w1 ⟨rfl, h1, s1⟩
  have H1 := Lib.hid (And.intro h1 s1)
  clear h1 s1
  go_wp2_with fail
  go_ret
  exact ⟨rfl, H1.out.1, H1.out.2⟩
set_option maxRecDepth 100000 in
set_option maxHeartbeats 2000000 in
theorem tape_words (h : TapAt W b ga c G T) (hga : ∀ a, ga = some a → a.block < W.heap.size) (k : Nat) :
    Calls Try.prog 28 #[.pointer (some ⟨b, 0, none⟩), .int .u64 (k : Int)] W (TapR b ga c G (onT G T ⟨6, k, 0, 0, 0, ⟨#[]⟩⟩) (.string (doT' G T)) W) := by
  have H := Lib.hid (tape_do W h hga ⟨6, k, 0, 0, 0, ⟨#[]⟩⟩)
  obtain ⟨w', hw'⟩ : ∃ w, doW' G T = w := ⟨_, rfl⟩
  obtain ⟨t', ht'⟩ : ∃ w, doT' G T = w := ⟨_, rfl⟩
  rw [hw', ht'] at H
  rw [ht']
  have hfw := fun X => run_field_text X w' t'
  clear h hga hw' ht'
  go_enter Try.func28, Try.ntmps28
  go_wp2_with fail
  refine H.out.mono ?_
  rintro en w1 ⟨rfl, h1, s1⟩
  have H1 := Lib.hid (And.intro h1 s1)
  clear h1 s1
  go_wp2_with fail
  go_ret
  exact ⟨rfl, H1.out.1, H1.out.2⟩
end
theorem rat_key (a p s q v x i : Int) (W : World) (hr : rightC a p s q v = true) : Calls Try.prog 27 #[cfV a p s q v x, .string ⟨#[107, 101, 121]⟩, .int .i64 i] W (Tells (keyW a p s q v i) W) := by
  obtain ⟨⟨a1, a32⟩, ⟨p1, p8⟩, s1, s64⟩ := rightC_bd hr
  obtain ⟨na, rfl⟩ : ∃ n : Nat, a = n := ⟨a.toNat, by omega⟩
  obtain ⟨np, rfl⟩ : ∃ n : Nat, p = n := ⟨p.toNat, by omega⟩
  obtain ⟨ns, rfl⟩ : ∃ n : Nat, s = n := ⟨s.toNat, by omega⟩
  exact at_any na np ns q v x i _ (3 + np + na + 2 * ns) 5 W (by omega) (by omega) (Lib.hid (fun X => rcells_good na np ns q v x X hr)) (first_key i hr (by omega))

/-! ### plain -/
/-- What the reference comes to from a place on. -/
def refF (G : List (Int × ByteArray)) (d : FindR) : Nat → Nat → TapD → (Int × Int) × TapD
  | 0, _, T => ((3, 0), T)
  | m + 1, i, T =>
    if (onT G T (loadF d i)).over then ((0, 0), onT G T (loadF d i))
    else if (doW' G T).toNat = 0 then ((2, d.way i), onT G T (loadF d i))
    else if (onT G (onT G T (loadF d i)) (wordsF (doW' G T).toNat)).over then ((0, 0), onT G (onT G T (loadF d i)) (wordsF (doW' G T).toNat))
    else if (doT' G (onT G T (loadF d i))).toList = d.key.toList then ((1, d.way i), onT G (onT G T (loadF d i)) (wordsF (doW' G T).toNat))
    else refF G d m (i + 1) (onT G (onT G T (loadF d i)) (wordsF (doW' G T).toNat))

/-! ### in memory -/
abbrev rfoO (k s : Int) : Obj := .cells #[.int .i64 k, .int .i64 s] 41 (0, 0)
theorem load_rfo {X : World} {n : Nat} {k s : Int} (h : X.heap[n]? = some (rfoO k s)) : (loadVar 41 ⟨n, 0, none⟩).run Try.prog X = .ok (fouV k s) X := by
  have m0 := (cell_of (i := 0) h).trans rfl
  have m1 := (cell_of (i := 1) h).trans rfl
  go_simp
structure RefI (W : World) (a p s q v x : Int) (b : Nat) (ga : Option Addr) (c : Nat) (G : List (Int × ByteArray)) (T : TapD) (X : World) : Prop where
  tp : TapAt X b ga c G T
  cf : X.heap[W.heap.size]? = some (.cells (cfC a p s q v x) 24 (0, 0))
  re : X.heap[W.heap.size + 1]? = some (rfoO 0 0)
  st : Step (fun k => k = b) (fun k => k = b) W X
  lt : b < W.heap.size
section
variable {W X Y : World} {a p s q v x : Int} {b c : Nat} {ga : Option Addr} {G : List (Int × ByteArray)} {T T' : TapD}
theorem RefI.below (h : RefI W a p s q v x b ga c G T X) (hb : Below X.heap.size X Y) : RefI W a p s q v x b ga c G T Y :=
  ⟨h.tp.below hb, (hb.block _ (heap_at_lt h.cf)).trans h.cf, (hb.block _ (heap_at_lt h.re)).trans h.re, h.st.trans (Step.of_below hb), h.lt⟩
theorem RefI.next (h : RefI W a p s q v x b ga c G T X) (ht : TapAt Y b ga c G T') (hs : Step (fun k => k = b) (fun k => k = b) X Y) : RefI W a p s q v x b ga c G T' Y :=
  ⟨ht, (hs.block _ (heap_at_lt h.cf) (by have := h.lt; omega)).trans h.cf, (hs.block _ (heap_at_lt h.re) (by have := h.lt; omega)).trans h.re, h.st.trans hs, h.lt⟩
theorem RefI.six (h : RefI W a p s q v x b ga c G T X) : SixC W.heap.size a p s q v x X :=
  ⟨(cell_of h.cf).trans rfl, (cell_of h.cf).trans rfl, (cell_of h.cf).trans rfl, (cell_of h.cf).trans rfl, (cell_of h.cf).trans rfl, (cell_of h.cf).trans rfl⟩
theorem ref_fin (h : RefI W a p s q v x b ga c G T X) (hga : ∀ a, ga = some a → a.block < W.heap.size) {R : (Int × Int) × TapD} {k sh : Int} (hR : ((k, sh), T) = R) {Z : Array Value} (hp : Z.getD 6 undef = .pointer (some ⟨W.heap.size + 1, 0, none⟩)) :
    bodyPost Try.prog Try.f11 (TapR b ga c G R.2 (fouV R.1.1 R.1.2) W) .ret { tmps := Z, defers := [] } ((X.setCell ⟨W.heap.size + 1, 0, none⟩ (.int .i64 k)).setCell ⟨W.heap.size + 1, 1, none⟩ (.int .i64 sh)) := by
  subst hR
  have hk : ∀ j, j ≠ W.heap.size + 1 → ((X.setCell ⟨W.heap.size + 1, 0, none⟩ (.int .i64 k)).setCell ⟨W.heap.size + 1, 1, none⟩ (.int .i64 sh)).heap[j]? = X.heap[j]? := fun j hj => by
    rw [Below.heap_setCell _ _ _ _ hj, Below.heap_setCell _ _ _ _ hj]
  have h2 : ((X.setCell ⟨W.heap.size + 1, 0, none⟩ (.int .i64 k)).setCell ⟨W.heap.size + 1, 1, none⟩ (.int .i64 sh)).heap[W.heap.size + 1]? = some (rfoO k sh) := heap_setAt (heap_setAt h.re)
  refine bodyPost_ret (v := fouV k sh) (by rw [results_cell1 (by rfl), hp]; simp only [asAddr, Sem.run_pure, Result.andThen_ok, load_rfo h2]) rfl ⟨rfl, ⟨(hk b (by have := h.lt; omega)).trans h.tp.own, h.tp.row.apart (fun a ha => hk _ (by have := hga a ha; omega)), h.tp.off, h.tp.k, h.tp.many⟩, ?_⟩
  exact ⟨h.st.os, h.st.tape, h.st.output, by simpa [World.setCell] using h.st.size, fun j h1 h2 => (hk j (by omega)).trans (h.st.block j h1 h2), fun j hj => .inl hj⟩
end

set_option maxRecDepth 100000 in
set_option maxHeartbeats 4000000 in
theorem rfind_any (W : World) {b c : Nat} {ga : Option Addr} {G : List (Int × ByteArray)} {T : TapD} (h : TapAt W b ga c G T) (hga : ∀ a, ga = some a → a.block < W.heap.size) (hG : ∀ g ∈ G, 0 ≤ g.1 ∧ g.1 < 18446744073709551616)
    (a p s q v x : Int) (key : ByteArray) (hr : rightC a p s q v = true) (hk : key.size ≤ 281474976710656) {R : (Int × Int) × TapD} (hR : refF G (newF a p s q v x key) s.toNat 0 T = R) :
    Calls Try.prog 11 #[.pointer (some ⟨b, 0, none⟩), cfV a p s q v x, .string key] W (TapR b ga c G R.2 (fouV R.1.1 R.1.2) W) := by
  have HR := Lib.hid hR
  have hW : ∀ T : TapD, 0 ≤ doW' G T := fun T => by
    unfold doW'
    split
    · exact Int.le_refl _
    · split
      · rename_i g hg
        exact (hG g (List.mem_of_getElem? hg)).1
      · exact Int.le_refl _
  have HW := Lib.hid hW
  obtain ⟨hs1, hs64⟩ := (rightC_bd hr).2.2
  obtain ⟨d, hd⟩ : ∃ d, newF a p s q v x key = d := ⟨_, rfl⟩
  have HD := Lib.hid hd
  have hdn : sumU x key.data.toList = d.n := by rw [← hd]; rfl
  have hnb := sumU_bd x key.data.toList
  have HSm := Lib.hid (fun X => (show Calls Try.prog 24 #[.int .u64 x, .string key] X (fun e w' => e = .returned (.int .u64 d.n) ∧ w' = X) from (rsum_any x key X (by omega)).mono fun _ _ h => ⟨by rw [← hdn]; exact h.1, h.2.symm⟩))
  have HP := Lib.hid (fun (j : Nat) (hj : (j : Int) < s) (X : World) => (show Calls Try.prog 25 #[.int .u64 d.n, .int .i64 s, .int .i64 j] X (fun e w' => e = .returned (.int .i64 (d.way j)) ∧ w' = X) from
    (rplace_any d.n s j X (by rw [← hdn]; exact hnb.1) (by rw [← hdn]; exact hnb.2) (by omega) (by omega)).mono fun _ _ h => ⟨by rw [h.1, ← hd]; rfl, h.2.symm⟩))
  have HK := Lib.hid (fun (j : Nat) (X : World) => rat_key a p s q v x (d.way j) X hr)
  have HLd := Lib.hid (fun (X : World) (T : TapD) (j : Nat) (hX : TapAt X b ga c G T) (hs : W.heap.size ≤ X.heap.size) => (by have := tape_load hX (fun y hy => Nat.lt_of_lt_of_le (hga y hy) hs) 1 (keyW a p s q v (d.way j)); exact this :
    Calls Try.prog 26 #[.pointer (some ⟨b, 0, none⟩), .int .u64 1, .int .i64 (keyW a p s q v (d.way j))] X (TapR b ga c G (onT G T ⟨1, 1, keyW a p s q v (d.way j), 0, 0, ⟨#[]⟩⟩) (.int .u64 (doW' G T)) X)))
  have HLw := Lib.hid (fun (X : World) (T : TapD) (k : Nat) (hX : TapAt X b ga c G T) (hs : W.heap.size ≤ X.heap.size) => tape_words hX (fun y hy => Nat.lt_of_lt_of_le (hga y hy) hs) k)
  have HLF := Lib.hid (fun j : Nat => (show (⟨1, 1, keyW a p s q v (d.way j), 0, 0, ⟨#[]⟩⟩ : ActD) = loadF d j from by rw [← hd]; rfl))
  have HB := show Below W.heap.size W ((W.alloc (.cells #[.int .i64 a, .int .i64 p, .int .i64 s, .int .i64 q, .int .i64 v, .int .u64 x] 24)).alloc (rfoO 0 0)) from (below_alloc W _).trans ((below_alloc _ _).mono (by simp))
  have hcf := show ((W.alloc (.cells #[.int .i64 a, .int .i64 p, .int .i64 s, .int .i64 q, .int .i64 v, .int .u64 x] 24)).alloc (rfoO 0 0)).heap[W.heap.size]? = some (.cells (cfC a p s q v x) 24 (0, 0)) from
    ((below_alloc (W.alloc (.cells #[.int .i64 a, .int .i64 p, .int .i64 s, .int .i64 q, .int .i64 v, .int .u64 x] 24)) (rfoO 0 0)).block _ (by simp)).trans (World.alloc_heap_new W _)
  have hre := show ((W.alloc (.cells #[.int .i64 a, .int .i64 p, .int .i64 s, .int .i64 q, .int .i64 v, .int .u64 x] 24)).alloc (rfoO 0 0)).heap[W.heap.size + 1]? = some (rfoO 0 0) from by
    have := World.alloc_heap_new (W.alloc (.cells #[.int .i64 a, .int .i64 p, .int .i64 s, .int .i64 q, .int .i64 v, .int .u64 x] 24)) (rfoO 0 0); rwa [World.size_alloc] at this
  have HI := Lib.hid (show RefI W a p s q v x b ga c G T _ from ⟨h.below HB, hcf, hre, Step.of_below HB, heap_at_lt h.own⟩)
  have HGa := Lib.hid hga
  have HSb := Lib.hid (And.intro hs1 hs64)
  have hdk : d.key = key := by rw [← hd]; rfl
  have HDk := Lib.hid hdk
  obtain ⟨c0, c1, c2, c3, c4, c5⟩ := HI.out.six
  rw [hd] at HR
  clear h hga hG hR hW hr hk hd hdn hnb HB hcf hre hdk hs1 hs64
  go_enter Try.func11, Try.ntmps11
  go_wp2_with fail
  refine (HSm.out _).mono ?_
  rintro en w1 ⟨rfl, rfl⟩
  clear c0 c1 c2 c3 c4 c5
  generalize ((W.alloc (.cells #[.int .i64 a, .int .i64 p, .int .i64 s, .int .i64 q, .int .i64 v, .int .u64 x] 24)).alloc (rfoO 0 0)) = X0 at HI ⊢
  go_wp2_with fail
  go_loopw [8] (fun s8 wr => ∃ (j : Nat) (U : TapD), s8 = .int .i64 j ∧ (j : Int) ≤ s ∧ refF G d (s.toNat - j) j U = R ∧ Hid (RefI W a p s q v x b ga c G U wr)) (fun s8 _ => s.toNat - (intOf s8).toNat)
  case atStart => exact ⟨0, T, rfl, by have := HSb.out; omega, HR.out, HI⟩
  case round =>
    clear HI HR
    obtain ⟨j, U, rfl, hjs, hR, HI⟩ := hrel
    have hj0 : (0 : Int) ≤ (j : Int) := by omega
    have hs64 : s ≤ 9223372036854775807 := by have := HSb.out; omega
    obtain ⟨c0, c1, c2, c3, c4, c5⟩ := HI.out.six
    by_cases hlt : (j : Int) < s
    · obtain ⟨m, hm⟩ : ∃ m, s.toNat - j = m + 1 := ⟨s.toNat - j - 1, by omega⟩
      have hm1 : s.toNat - (j + 1) = m := by omega
      have HM := Lib.hid hm1
      have HMm := Lib.hid hm
      obtain ⟨k, hk⟩ : ∃ k : Nat, doW' G U = (k : Int) := ⟨(doW' G U).toNat, by have := HW.out U; omega⟩
      obtain ⟨T1, hT1⟩ : ∃ T1, onT G U (loadF d j) = T1 := ⟨_, rfl⟩
      obtain ⟨T2, hT2⟩ : ∃ T2, onT G T1 (wordsF k) = T2 := ⟨_, rfl⟩
      obtain ⟨t1, ht1⟩ : ∃ t, doT' G T1 = t := ⟨_, rfl⟩
      have hR2 : (if T1.over then ((0, 0), T1) else if k = 0 then ((2, d.way j), T1) else if T2.over then ((0, 0), T2) else if t1.toList = d.key.toList then ((1, d.way j), T2) else refF G d m (j + 1) T2) = R := by
        rw [hm] at hR
        unfold refF at hR
        rw [hT1, hk, Int.toNat_natCast, hT2, ht1] at hR
        exact hR
      have HR2 := Lib.hid hR2
      have HPj := Lib.hid (HP.out j hlt)
      have HLj := Lib.hid (fun (X : World) (hX : TapAt X b ga c G U) hs => (by have := HLd.out X U j hX hs; rw [HLF.out j, hT1, hk] at this; exact this :
        Calls Try.prog 26 #[.pointer (some ⟨b, 0, none⟩), .int .u64 1, .int .i64 (keyW a p s q v (d.way j))] X (TapR b ga c G T1 (.int .u64 (k : Int)) X)))
      have HWj := Lib.hid (fun (X : World) (hX : TapAt X b ga c G T1) hs => (by have := HLw.out X T1 k hX hs; rw [show (⟨6, k, 0, 0, 0, ⟨#[]⟩⟩ : ActD) = wordsF k from rfl, hT2, ht1] at this; exact this :
        Calls Try.prog 28 #[.pointer (some ⟨b, 0, none⟩), .int .u64 (k : Int)] X (TapR b ga c G T2 (.string t1) X)))
      have HKj := Lib.hid (HK.out j)
      have hkx := HDk.out
      clear hR hR2 hm hm1 hk hT1 hT2 ht1
      go_wp2_with fail
      refine (HPj.out _).mono ?_
      rintro en w1 ⟨rfl, rfl⟩
      go_wp2_with fail
      refine (HKj.out _).mono ?_
      rintro en w2 ⟨rfl, hb⟩
      have HI2 := Lib.hid (HI.out.below hb)
      clear hb c0 c1 c2 c3 c4 c5 HI
      go_wp2_with fail
      refine (HLj.out _ HI2.out.tp HI2.out.st.size).mono ?_
      rintro en w3 ⟨rfl, h3, s3⟩
      have HI3 := Lib.hid (HI2.out.next h3 s3)
      clear h3 s3 HI2
      have m2 := HI3.out.tp.nine.1.2.2.1
      obtain ⟨r0, r1⟩ := two_at HI3.out.re
      obtain ⟨z0, z1⟩ := two_free HI3.out.re
      cases ho : T1.over with
      | true =>
        rw [ho] at m2
        have HRe := Lib.hid (show ((0, 0), T1) = R from by have := HR2.out; rw [ho, if_pos rfl] at this; exact this)
        clear ho
        go_wp2_with fail
        exact ref_fin HI3.out HGa.out HRe.out rfl
      | false =>
        rw [ho] at m2
        have HR3 := Lib.hid (show (if k = 0 then ((2, d.way j), T1) else if T2.over then ((0, 0), T2) else if t1.toList = d.key.toList then ((1, d.way j), T2) else refF G d m (j + 1) T2) = R from by have := HR2.out; rw [ho, if_neg (by decide)] at this; exact this)
        clear ho
        by_cases hk0 : k = 0
        · subst hk0
          have HRe := Lib.hid (show ((2, d.way j), T1) = R from by have := HR3.out; rw [if_pos rfl] at this; exact this)
          go_wp2_with fail
          exact ref_fin HI3.out HGa.out HRe.out rfl
        · have hkz : ((k : Int) == 0) = false := by simp; omega
          have HR4 := Lib.hid (show (if T2.over then ((0, 0), T2) else if t1.toList = d.key.toList then ((1, d.way j), T2) else refF G d m (j + 1) T2) = R from by have := HR3.out; rw [if_neg hk0] at this; exact this)
          clear hk0
          go_wp2_with fail
          refine (HWj.out _ HI3.out.tp HI3.out.st.size).mono ?_
          rintro en w4 ⟨rfl, h4, s4⟩
          have HI4 := Lib.hid (HI3.out.next h4 s4)
          clear h4 s4 HI3 m2 r0 r1 z0 z1
          have m2 := HI4.out.tp.nine.1.2.2.1
          obtain ⟨r0, r1⟩ := two_at HI4.out.re
          obtain ⟨z0, z1⟩ := two_free HI4.out.re
          cases ho : T2.over with
          | true =>
            rw [ho] at m2
            have HRe := Lib.hid (show ((0, 0), T2) = R from by have := HR4.out; rw [ho, if_pos rfl] at this; exact this)
            clear ho
            go_wp2_with fail
            exact ref_fin HI4.out HGa.out HRe.out rfl
          | false =>
            rw [ho] at m2
            have HR5 := Lib.hid (show (if t1.toList = key.toList then ((1, d.way j), T2) else refF G d m (j + 1) T2) = R from by have := HR4.out; rw [ho, if_neg (by decide), hkx] at this; exact this)
            clear ho
            by_cases ht : t1.toList = key.toList
            · have ht0 : (t1.toList == key.toList) = true := by simpa using ht
              have HRe := Lib.hid (show ((1, d.way j), T2) = R from by have := HR5.out; rw [if_pos ht] at this; exact this)
              clear ht
              go_wp2_with fail
              exact ref_fin HI4.out HGa.out HRe.out rfl
            · have ht0 : (t1.toList == key.toList) = false := by simpa using ht
              have HRe := Lib.hid (show refF G d m (j + 1) T2 = R from by have := HR5.out; rw [if_neg ht] at this; exact this)
              clear ht
              go_wp2_with fail
              go_roundw
              case rel => exact ⟨j + 1, T2, by go_num, by omega, by rw [HM.out]; exact HRe.out, HI4⟩
              case measure => simp [intOf]; omega
    · have hm : s.toNat - j = 0 := by omega
      rw [hm] at hR
      have HRe := Lib.hid hR
      obtain ⟨m0, m1⟩ := two_at HI.out.re
      obtain ⟨z0, z1⟩ := two_free HI.out.re
      clear hR hm
      go_wp2_with fail
      exact ref_fin HI.out HGa.out HRe.out rfl

end Go.Proofs.Ytdnjlpccopeagaa
