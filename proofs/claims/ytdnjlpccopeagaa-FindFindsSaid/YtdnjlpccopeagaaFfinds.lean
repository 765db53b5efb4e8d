/-
  A key that was put on a shelf is found there; one that was not is found nowhere: the walk.
-/
import Derived.Test.YtdnjlpccopeagaaFrnd
import Derived.Test.YtdnjlpccopeagaaDrawn2
import Derived.Deep.RegionHeld3
import Derived.StillTailTactics
import Derived.Deep.DeepCutAuto
import Derived.Deep.CutBlock
import Derived.Laws.MakeOwn
import Derived.Laws.OwnMore
namespace Go.Proofs.Ytdnjlpccopeagaa
open Go Go.RowKit
attribute [local go_sem ↓] Go.wp_at_zero Go.wp_at_succ

/-! ### plain -/
/-- The first k keys are where it is told, or none of the shelves is theirs. -/
def Placed (a p s q v x : Int) (K : Shelves) (T : Nat → ByteArray) (S : Nat → Int) (k : Nat) : Prop :=
  ∀ j, j < k → (0 ≤ S j ∧ S j ≤ 100 ∧ Stands K (newF a p s q v x (T j)) (S j)) ∨ (S j = -1 ∧ Shut K (newF a p s q v x (T j)))
/-- No other keys are there. -/
def Known (s : Int) (K : Shelves) (T : Nat → ByteArray) (S : Nat → Int) (k : Nat) : Prop :=
  ∀ sh t, 0 ≤ sh → sh < s → K sh = some t → ∃ j, j < k ∧ S j = sh ∧ (T j).toList = t
section
variable {a p s q v x z : Int} {K : Shelves} {T : Nat → ByteArray} {S : Nat → Int} {k : Nat}
/-- One more, at z. -/
def more (S : Nat → Int) (k : Nat) (z : Int) : Nat → Int := fun j => if j = k then z else S j
theorem more_self : more S k z k = z := by unfold more; rw [if_pos rfl]
theorem more_other {j : Nat} (h : j < k) : more S k z j = S j := by unfold more; rw [if_neg (by omega)]
theorem Placed.same (h : Placed a p s q v x K T S k) (hz : (0 ≤ z ∧ z ≤ 100 ∧ Stands K (newF a p s q v x (T k)) z) ∨ (z = -1 ∧ Shut K (newF a p s q v x (T k)))) : Placed a p s q v x K T (more S k z) (k + 1) := fun j hj => by
  by_cases e : j = k
  · subst e; rw [more_self]; exact hz
  · rw [more_other (by omega)]; exact h j (by omega)
theorem Placed.put (h : Placed a p s q v x K T S k) {sh : Int} {t : List UInt8} (hn : K sh = none) : Placed a p s q v x (K.put sh t) T S k := fun j hj => by
  rcases h j hj with ⟨h1, h2, h3⟩ | ⟨h1, h2⟩
  · exact .inl ⟨h1, h2, h3.put hn t⟩
  · exact .inr ⟨h1, h2.put hn t⟩
theorem Known.same (h : Known s K T S k) (z : Int) : Known s K T (more S k z) (k + 1) := fun sh t h0 h1 h2 => by
  obtain ⟨j, a1, a2, a3⟩ := h sh t h0 h1 h2
  exact ⟨j, by omega, by rw [more_other a1]; exact a2, a3⟩
theorem Known.put (h : Known s K T S k) (sh : Int) : Known s (K.put sh (T k).toList) T (more S k sh) (k + 1) := fun sh' t h0 h1 h2 => by
  unfold Shelves.put at h2
  by_cases e : sh' = sh
  · rw [if_pos e] at h2
    cases h2
    exact ⟨k, by omega, by rw [more_self, e], rfl⟩
  · rw [if_neg e] at h2
    obtain ⟨j, a1, a2, a3⟩ := h sh' t h0 h1 h2
    exact ⟨j, by omega, by rw [more_other a1]; exact a2, a3⟩
end
theorem bytes_eq {a b : ByteArray} (h : a.toList = b.toList) : a = b := by
  rw [ByteArray.toList_eq, ByteArray.toList_eq] at h
  cases a; cases b
  simp only at h
  congr 1
  exact Array.ext' h

/-! ### in memory -/
theorem info_int : (Try.prog.info? 3).map (fun i => (i.zero, i.size, i.bytes)) = some (some (.int .i64 0), 1, 8) := by kernel_rfl
abbrev zerosO (n : Nat) : Obj := .cells (madeCells #[.int .i64 0] n) 3 (0, 0)
theorem make_zeros (n : Nat) (hn : n ≤ 255) (w : World) : (Instr.makeSlice 50 (.int .i64 (n : Int)) (.int .i64 (n : Int))).run Try.prog w = .ok (.slice (some ⟨w.heap.size, 0, none⟩) n n) (w.alloc (zerosO n)) := by
  obtain ⟨i0, gi, gz0, gz1, gz2⟩ := info_parts info_int
  have := run_make (P := Try.prog) w 50 3 i0 _ Try.underlying50 gi gz0 .i64 .i64 n n (by omega) (Int.le_refl _) (by rw [gz2]; omega) (by omega)
  rw [gz1] at this
  simp only [Int.toNat_natCast, Nat.mul_one] at this
  exact this
theorem row_one {cur : Array Value} {S : Nat → Int} {n k : Nat} {z : Int} (h1 : cur.size = n) (hk : k < n) (h2 : ∀ j, j < k → cur[j]? = some (.int .i64 (S j))) :
    (cur.setIfInBounds k (.int .i64 z)).size = n ∧ ∀ j, j < k + 1 → (cur.setIfInBounds k (.int .i64 z))[j]? = some (.int .i64 (more S k z j)) := by
  refine ⟨by simp [h1], fun j hj => ?_⟩
  by_cases e : j = k
  · subst e; rw [more_self, Array.getElem?_setIfInBounds_self_of_lt (by omega)]
  · rw [more_other (by omega), Array.getElem?_setIfInBounds_ne (by omega)]; exact h2 j (by omega)
theorem row_two {cur : Array Value} {S : Nat → Int} {n k : Nat} {z : Int} {u : Value} (h1 : cur.size = n) (hk : k < n) (h2 : ∀ j, j < k → cur[j]? = some (.int .i64 (S j))) :
    ((cur.setIfInBounds k u).setIfInBounds k (.int .i64 z)).size = n ∧ ∀ j, j < k + 1 → ((cur.setIfInBounds k u).setIfInBounds k (.int .i64 z))[j]? = some (.int .i64 (more S k z j)) := by
  refine row_one (by simp [h1]) hk (fun j hj => ?_)
  rw [Array.getElem?_setIfInBounds_ne (by omega)]; exact h2 j hj
abbrev ints (cur : Array Value) : Obj := .cells cur 3 (0, 0)
/-- Between two rounds of the first loop. -/
def FindI (W : World) (a p s q v x : Int) (ot : ByteArray) (T : Nat → ByteArray) (B hp g n k put : Nat) (X : World) : Prop :=
  ∃ (D : HpD) (K : Shelves) (cur : Array Value) (S : Nat → Int), Rnd W a p s q v x B hp D [(g, ints cur)] X ∧ Field (newF a p s q v x ot) D K ∧ D.L.length = 1 + put ∧ put = cntK K s.toNat ∧ cur.size = n ∧
    (∀ j, j < k → cur[j]? = some (.int .i64 (S j))) ∧ Placed a p s q v x K T S k ∧ Known s K T S k ∧ ∀ j, j < k → (T j).size ≤ 100
/-- What a look comes to. -/
theorem finds_look {a p s q v x : Int} {t : ByteArray} {K : Shelves} :
    ∃ kk sh, (seenF K (newF a p s q v x t)).1.k = kk ∧ (seenF K (newF a p s q v x t)).1.sh = sh ∧ kk ≠ 0 ∧
      ((kk = 2 ∧ 0 ≤ sh ∧ sh < s ∧ K sh = none ∧ Stands (K.put sh t.toList) (newF a p s q v x t) sh) ∨ (kk = 1 ∧ 0 ≤ sh ∧ sh < s ∧ Stands K (newF a p s q v x t) sh) ∨ (kk = 3 ∧ sh = 0 ∧ Shut K (newF a p s q v x t))) := by
  rcases findK_cases K (newF a p s q v x t) with ⟨e, h⟩ | ⟨e, h⟩ | ⟨e, h⟩
  · exact ⟨2, _, e, rfl, by decide, .inl ⟨rfl, h⟩⟩
  · exact ⟨1, _, e, rfl, by decide, .inr (.inl ⟨rfl, h⟩)⟩
  · exact ⟨3, _, e, rfl, by decide, .inr (.inr ⟨rfl, h⟩)⟩
theorem rnd_begin {W X : World} {a p s q v x : Int} {B hp : Nat} {D : HpD} {f : Nat → Prop} (h : BoxC W a p s q v x X) (hh : Hp X B hp D f) (hB : W.heap.size < B) : Rnd W a p s q v x B hp D [] X :=
  ⟨h.b, h.lo, hB, f, hh, fun u hu => by cases hu⟩

set_option maxRecDepth 100000 in
set_option maxHeartbeats 8000000 in
theorem finds_walk (a p s q v x : Int) (ot : ByteArray) (ga : Option Addr) (n c : Nat) (L : List ByteArray) (W : World)
    (hS : St W ga L) (hl : L.length = n) :
    Calls Try.prog 4 #[cfV a p s q v x, .slice ga n c, .string ot] W (Says true W) := by
  have X0 := Lib.hid (BoxC.start W a p s q v x)
  obtain ⟨c0, c1, c2, c3, c4, c5⟩ := X0.out.six
  have HRr := Lib.hid (fun X : World => cright_any a p s q v x X)
  by_cases hbad : rightC a p s q v = false ∨ 70 < n ∨ 100 < ot.size
  · clear hS hl
    go_enter Try.func4, Try.ntmps4
    go_wp2_with fail
    refine (HRr.out _).mono ?_
    rintro en w1 ⟨rfl, hb⟩
    have B1 := Lib.hid (X0.out.lo.trans (hb.mono X0.out.lo.size))
    clear hb c0 c1 c2 c3 c4 c5 X0
    cases hr : rightC a p s q v with
    | false =>
      clear hbad
      go_wp2_with fail
      refine (awake_any _).mono ?_
      rintro en w2 ⟨rfl, hb⟩
      have B2 := Lib.hid (B1.out.trans (hb.mono B1.out.size))
      clear hb
      go_wp2_with fail
      go_ret
      exact Says.mk rfl B2.out
    | true =>
      by_cases h40 : 70 < n
      · have hz : (70 : Int) < (n : Int) := by omega
        clear hbad
        go_wp2_with fail
        refine (awake_any _).mono ?_
        rintro en w2 ⟨rfl, hb⟩
        have B2 := Lib.hid (B1.out.trans (hb.mono B1.out.size))
        clear hb
        go_wp2_with fail
        go_ret
        exact Says.mk rfl B2.out
      · have hz : ¬ (70 : Int) < (n : Int) := by omega
        have hz2 : (100 : Int) < (ot.size : Int) := by
          rcases hbad with e | e | e
          · rw [hr] at e; cases e
          · omega
          · omega
        clear hbad
        go_wp2_with fail
        refine (awake_any _).mono ?_
        rintro en w2 ⟨rfl, hb⟩
        have B2 := Lib.hid (B1.out.trans (hb.mono B1.out.size))
        clear hb
        go_wp2_with fail
        go_ret
        exact Says.mk rfl B2.out
  have hr : rightC a p s q v = true := by
    cases h : rightC a p s q v with
    | true => rfl
    | false => exact absurd (.inl h) hbad
  have hz : ¬ (70 : Int) < (n : Int) := fun h => hbad (.inr (.inl (by omega)))
  have hz40 : (n : Int) ≤ 70 := by omega
  have hz2 : ¬ (100 : Int) < (ot.size : Int) := fun h => hbad (.inr (.inr (by omega)))
  have hk100 : ot.size ≤ 100 := by omega
  rw [hr] at HRr
  have HFl := Lib.hid (fun X : World => field_any X a p s q v x hr)
  have hs := (rightC_bd hr).2.2
  obtain ⟨T, hT⟩ : ∃ T : Nat → ByteArray, ∀ j (h : j < L.length), T j = L[j] := ⟨fun j => L.getD j ⟨#[]⟩, fun j h => by simp [List.getD_eq_getElem?_getD, List.getElem?_eq_getElem h]⟩
  have HTx := Lib.hid (fun (X : World) (hX : Below W.heap.size W X) (j : Nat) (hj : j < n) => (by
    obtain ⟨b, o, e, hc⟩ := (hS.grow hX) j (by omega)
    exact ⟨b, o, e, by rw [hT j (by omega)]; exact hc⟩ : ∃ b o, ga = some ⟨b, o, none⟩ ∧ X.cell? ⟨b, o + j, none⟩ = some (.string (T j))))
  have HRs := Lib.hid (And.intro hr (And.intro hk100 hs))
  clear hS hl hr hbad hk100 hs hT
  go_enter Try.func4, Try.ntmps4
  go_wp2_with fail
  refine (HRr.out _).mono ?_
  rintro en w1 ⟨rfl, hb⟩
  have X1 := Lib.hid (X0.out.below hb)
  clear hb c0 c1 c2 c3 c4 c5 X0
  obtain ⟨c0, c1, c2, c3, c4, c5⟩ := X1.out.six
  go_wp2_with fail
  refine (HFl.out _).mono ?_
  rintro en w2 ⟨B, hp, f2, rfl, hB, h2, hb⟩
  have HR2 := Lib.hid (rnd_begin (X1.out.below hb) h2 (Nat.lt_of_lt_of_le (heap_at_lt X1.out.b) hB))
  clear hb h2 hB c0 c1 c2 c3 c4 c5 X1 HRr HFl
  have hmk := fun w => make_zeros n (by omega) w
  have HI := Lib.hid (show FindI W a p s q v x ot T B hp w2.heap.size n 0 0 (w2.alloc (zerosO n)) from
    ⟨_, _, madeCells #[.int .i64 0] n, fun _ => 0, HR2.out.add (zerosO n), Field.start (newF a p s q v x ot) (by
        have hs := HRs.out.2.2
        have hz := (keyW_in (d := newF a p s q v x ot) HRs.out.1 (sh := 0) (Int.le_refl _) (by show (0 : Int) < s; omega)).2
        have : 0 ≤ sizeW a p s q v := by
          have h1 : 0 ≤ keyW a p s q v 0 := hz.1
          have h2 : keyW a p s q v 0 < sizeW a p s q v := hz.2
          omega
        show ((sizeW a p s q v).toNat : Int) = sizeW a p s q v
        omega), rfl, (cntK_none _).symm, size_madeCells _ _, fun j hj => absurd hj (Nat.not_lt_zero _), fun j hj => absurd hj (Nat.not_lt_zero _), fun sh t _ _ h => (by cases h), fun j hj => absurd hj (Nat.not_lt_zero _)⟩)
  have hmix : Try.prog.follows .mixedOrders = true := by kernel_rfl
  go_wp2_with fail
  clear hmk HR2
  generalize w2.heap.size = g at HI ⊢
  generalize w2.alloc (zerosO n) = w3 at HI ⊢
  go_loopw [8, 10] (fun s8 s10 wr => ∃ (k put : Nat), s8 = .int .i64 put ∧ s10 = .int .i64 k ∧ k ≤ n ∧ Hid (FindI W a p s q v x ot T B hp g n k put wr)) (fun _ s10 _ => n + 1 - (intOf s10).toNat)
  case atStart => exact ⟨0, 0, rfl, rfl, Nat.zero_le _, HI⟩
  case round =>
    clear HI
    obtain ⟨k, put, rfl, rfl, hkn, HI⟩ := hrel
    have hk0 : (0 : Int) ≤ (k : Int) := by omega
    by_cases hlt : k < n
    · have hltz : (k : Int) < (n : Int) := by omega
      obtain ⟨D, K, cur, S, hR, hF, hDl, hput, hsz, hrow, hP, hKn, hLen⟩ := HI.out
      have HLen := Lib.hid hLen
      obtain ⟨kb, ko, hga, hcell⟩ := HTx.out wr hR.lo k hlt
      have HCk := Lib.hid (fun (X : World) (hX : Below W.heap.size W X) => (by
        obtain ⟨b', o', e, hc⟩ := HTx.out X hX k hlt
        rw [hga] at e
        cases e
        exact hc : X.cell? ⟨kb, ko + k, none⟩ = some (.string (T k))))
      have hpl : put ≤ 64 := by have := cntK_le K s.toNat; have := HRs.out.2.2; omega
      have HR := Lib.hid hR
      have HFd := Lib.hid hF
      have HDl := Lib.hid (And.intro hDl (And.intro hput hpl))
      have HRow := Lib.hid (And.intro hsz hrow)
      have HP := Lib.hid (And.intro hP hKn)
      obtain ⟨t, ht⟩ : ∃ t, T k = t := ⟨_, rfl⟩
      have HT0 := Lib.hid ht
      rw [ht] at hcell HCk
      subst hga
      clear hR hF hDl hput hsz hrow hP hKn hLen ht HI
      by_cases htl : 100 < t.size
      · have htz : (100 : Int) < (t.size : Int) := by omega
        clear htl
        go_wp2_with fail
        refine (awake_any _).mono ?_
        rintro en w2 ⟨rfl, hb⟩
        have B2 := Lib.hid (HR.out.lo.trans (hb.mono HR.out.lo.size))
        clear hb
        go_wp2_with fail
        go_ret
        exact Says.mk rfl B2.out
      · have htz : ¬ (100 : Int) < (t.size : Int) := by omega
        have HTs := Lib.hid (show t.size ≤ 100 from by omega)
        have HLen2 := Lib.hid (show ∀ j, j < k + 1 → (T j).size ≤ 100 from fun j hj => by
          by_cases e : j = k
          · subst e; rw [HT0.out]; exact HTs.out
          · exact HLen.out j (by omega))
        clear htl HLen
        go_upto_region 11 with fail
        obtain ⟨c0, c1, c2, c3, c4, c5⟩ := HR.out.six
        go_still_tail 5, hmix
        change wpList _ _ _ _ _ wr.drew
        have HR1 := Lib.hid (HR.out.below (below_drew wr))
        clear hcell c0 c1 c2 c3 c4 c5 HR
        generalize wr.drew = w5 at HR1 ⊢
        go_wp2_with fail
        have hm1000 : D.L.length ≤ 1000 := by have := HDl.out; omega
        refine (rnd_new HR1.out HRs.out.1 HTs.out HFd.out.key hm1000).mono ?_
        rintro en w6 ⟨r, rfl, hN, -⟩
        have HN6 := Lib.hid hN
        clear hN HR1
        go_wp2_with fail
        refine (rnf_run HN6.out HFd.out.key HRs.out.1).mono ?_
        rintro en w7 ⟨rfl, hN⟩
        have HN7 := Lib.hid hN
        obtain ⟨kk, sh, e1, e2, e3, e4⟩ := finds_look (a := a) (p := p) (s := s) (q := q) (v := v) (x := x) (t := t) (K := K)
        have HE4 := Lib.hid e4
        have HRs7 := Lib.hid (rnf_result HN7.out e3 e1 e2)
        clear hN HN6 e1 e2 e3 e4 HN7 hm1000
        go_wp2_with fail
        refine HRs7.out.mono ?_
        rintro en w8 ⟨rfl, hR8⟩
        have HR8 := Lib.hid (show Rnd W a p s q v x B hp D [(g, ints cur), (w8.heap.size, fouO kk sh)] (w8.alloc (fouO kk sh)) from hR8.few (fun u hu => by
          rcases List.mem_cons.1 hu with rfl | hu
          · exact List.mem_cons_of_mem _ (List.mem_singleton.2 rfl)
          · obtain rfl := List.mem_singleton.1 hu
            exact List.mem_cons_self ..))
        have hmg : w8.heap.size ≠ g := fun e => by
          have h2 : (w8.alloc (fouO kk sh)).heap[w8.heap.size]? = some (fouO kk sh) := World.alloc_heap_new w8 _
          have h3 : (w8.alloc (fouO kk sh)).heap[g]? = some (ints cur) := hR8.kept (List.mem_cons_of_mem _ (List.mem_singleton.2 rfl))
          rw [← e, h2] at h3
          cases h3
        clear hR8 HRs7
        have hf0 := cell_of (i := 0) (HR8.out.kept (List.mem_cons_of_mem _ (List.mem_singleton.2 rfl)))
        have hf1 := cell_of (i := 1) (HR8.out.kept (List.mem_cons_of_mem _ (List.mem_singleton.2 rfl)))
        simp only [List.getElem?_toArray, List.getElem?_cons_zero, List.getElem?_cons_succ] at hf0 hf1
        obtain ⟨u0, hg0⟩ : ∃ u, (w8.alloc (fouO kk sh)).cell? ⟨g, k, none⟩ = some u := by
          rw [cell_of (HR8.out.kept (List.mem_cons_self ..))]
          exact ⟨_, Array.getElem?_eq_getElem (by have := HRow.out.1; omega)⟩
        have hgf : (w8.alloc (fouO kk sh)).frozen? ⟨g, k, none⟩ = false := by have := HR8.out.kept (List.mem_cons_self ..); simp [World.frozen?, this]
        have hc2 := HR8.out.six.2.2.1
        have hne : ∀ u ∈ [(w8.heap.size, fouO kk sh)], u.1 ≠ g := fun u hu => by obtain rfl := List.mem_singleton.1 hu; exact hmg
        have HNe := Lib.hid hne
        clear hne
        have hgm := Ne.symm hmg
        go_upto_region 14 with fail
        generalize w8.heap.size = m at HR8 hf0 hf1 hmg hgm HNe ⊢
        generalize w8.alloc (fouO kk sh) = w9 at HR8 hf0 hf1 hg0 hgf hc2 ⊢
        rcases HE4.out with ⟨hkk, s0, s1, hKn, hSt⟩ | ⟨hkk, s0, s1, hSt⟩ | ⟨hkk, hsh, hShut⟩
        · -- free: the key is put
          subst hkk
          have HWr := Lib.hid ((HR8.out.write HNe.out k (.int .i64 (-1))).write HNe.out k (.int .i64 sh))
          have HRw := Lib.hid (row_two (u := .int .i64 (-1)) (z := sh) HRow.out.1 hlt HRow.out.2)
          have HFp := Lib.hid ((HFd.out.key (key' := t)).put (t := t) HRs.out.1 s0 s1 (by have := HTs.out; omega) (by have := HDl.out; omega))
          have HLp := Lib.hid (putD_length (HFd.out.key (key' := t)) HRs.out.1 s0 s1 t)
          have HCn := Lib.hid (cntK_put (t := t.toList) s0 hKn s.toNat (by omega))
          have hs64 := HRs.out.2.2
          have HPl := Lib.hid ((HP.out.1.put (t := t.toList) hKn).same (z := sh) (.inl ⟨s0, by omega, by rw [HT0.out]; exact hSt⟩))
          have HKw := Lib.hid (by have := HP.out.2.put sh; rw [HT0.out] at this; exact this : Known s (K.put sh t.toList) T (more S k sh) (k + 1))
          clear s0 s1 hKn hSt HE4 hs64
          go_upto_region 20 with fail
          have HP0 := Lib.hid (HWr.out.below (below_drew _))
          have HQ := Lib.hid (fun (X : World) (D' : HpD) (hX : Rnd W a p s q v x B hp D' [(g, ints ((cur.setIfInBounds k (.int .i64 (-1))).setIfInBounds k (.int .i64 sh))), (m, fouO 2 sh)] X) => (show X.cell? ⟨W.heap.size, 0, none⟩ = some (.int .i64 a) ∧ X.cell? ⟨W.heap.size, 1, none⟩ = some (.int .i64 p) ∧ X.cell? ⟨W.heap.size, 2, none⟩ = some (.int .i64 s) ∧ X.cell? ⟨W.heap.size, 3, none⟩ = some (.int .i64 q) ∧ X.cell? ⟨W.heap.size, 4, none⟩ = some (.int .i64 v) ∧ X.cell? ⟨W.heap.size, 5, none⟩ = some (.int .u64 x) ∧ X.cell? ⟨m, 1, none⟩ = some (.int .i64 sh) ∧ X.cell? ⟨kb, ko + k, none⟩ = some (.string t) from
            ⟨hX.six.1, hX.six.2.1, hX.six.2.2.1, hX.six.2.2.2.1, hX.six.2.2.2.2.1, hX.six.2.2.2.2.2, (cell_of (hX.kept (List.mem_cons_of_mem _ (List.mem_singleton.2 rfl)))).trans rfl, HCk.out X hX.lo⟩))
          have HS := Lib.hid (HQ.out _ _ HP0.out)
          have HKy := Lib.hid (fun (X : World) (hX : Rnd W a p s q v x B hp D [(g, ints ((cur.setIfInBounds k (.int .i64 (-1))).setIfInBounds k (.int .i64 sh))), (m, fouO 2 sh)] X) => rnd_key hX sh)
          have HMk := Lib.hid (fun (X : World) (hX : Rnd W a p s q v x B hp D [(g, ints ((cur.setIfInBounds k (.int .i64 (-1))).setIfInBounds k (.int .i64 sh))), (m, fouO 2 sh)] X) => rnd_make hX (by have := HDl.out; omega) HTs.out)
          have HSt := Lib.hid (fun (X : World) (hX : Rnd W a p s q v x B hp (makeD D 0 t) [(g, ints ((cur.setIfInBounds k (.int .i64 (-1))).setIfInBounds k (.int .i64 sh))), (m, fouO 2 sh)] X) => rnd_store hX (by rw [makeD_zero]; show D.faults < 1000000; rw [HFd.out.faults]; omega) (keyW a p s q v sh) ((D.L.length + 1 : Nat) : Int))
          clear hf0 hf1 hg0 hgf hc2 hmg hgm HWr HR8
          generalize (w9.setCell ⟨g, k, none⟩ (.int .i64 (-1))).setCell ⟨g, k, none⟩ (.int .i64 sh) = w10 at HP0 HS ⊢
          refine wp_region_held_drew (S := fun w' => w'.cell? ⟨W.heap.size, 0, none⟩ = some (.int .i64 a) ∧ w'.cell? ⟨W.heap.size, 1, none⟩ = some (.int .i64 p) ∧ w'.cell? ⟨W.heap.size, 2, none⟩ = some (.int .i64 s) ∧ w'.cell? ⟨W.heap.size, 3, none⟩ = some (.int .i64 q) ∧ w'.cell? ⟨W.heap.size, 4, none⟩ = some (.int .i64 v) ∧ w'.cell? ⟨W.heap.size, 5, none⟩ = some (.int .u64 x) ∧ w'.cell? ⟨m, 1, none⟩ = some (.int .i64 sh) ∧ w'.cell? ⟨kb, ko + k, none⟩ = some (.string t)) (by kernel_rfl) HS.out (fun _ => ?_)
          refine (fun h => h) ?_
          -- BEGIN PUT
          refine wpAnyH_look (i := 0) (v := ?v0) 96 rfl (by kernel_rfl) (by kernel_rfl) (by kernel_rfl) (fun _ _ _ _ h => h) (by rfl) HS.out (Or.inl ⟨by rfl, ?y0⟩) ?r0
          case y0 => intro w hSw; (try dsimp only at hSw); go_simp; (try with_reducible rfl)
          simp only [List.setIfInBounds_toArray, List.set_cons_zero, List.set_cons_succ]
          refine wpAnyH_look (i := 1) (v := ?v1) 97 rfl (by kernel_rfl) (by kernel_rfl) (by kernel_rfl) (fun _ _ _ _ h => h) (by rfl) HS.out (Or.inl ⟨by rfl, ?y1⟩) ?r1
          case y1 => intro w hSw; (try dsimp only at hSw); go_simp; (try with_reducible rfl)
          simp only [List.setIfInBounds_toArray, List.set_cons_zero, List.set_cons_succ]
          refine wpAnyH_look (i := 2) (v := ?v2) 98 rfl (by kernel_rfl) (by kernel_rfl) (by kernel_rfl) (fun _ _ _ _ h => h) (by rfl) HS.out (Or.inl ⟨by rfl, ?y2⟩) ?r2
          case y2 => intro w hSw; (try dsimp only at hSw); go_simp; (try with_reducible rfl)
          simp only [List.setIfInBounds_toArray, List.set_cons_zero, List.set_cons_succ]
          refine wpAnyH_look (i := 3) (v := ?v3) 99 rfl (by kernel_rfl) (by kernel_rfl) (by kernel_rfl) (fun _ _ _ _ h => h) (by rfl) HS.out (Or.inl ⟨by rfl, ?y3⟩) ?r3
          case y3 => intro w hSw; (try dsimp only at hSw); go_simp; (try with_reducible rfl)
          simp only [List.setIfInBounds_toArray, List.set_cons_zero, List.set_cons_succ]
          refine wpAnyH_look (i := 5) (v := ?v5) 101 rfl (by kernel_rfl) (by kernel_rfl) (by kernel_rfl) (fun _ _ _ _ h => h) (by rfl) HS.out (Or.inl ⟨by rfl, ?y5⟩) ?r5
          case y5 => intro w hSw; (try dsimp only at hSw); go_simp; (try with_reducible rfl)
          simp only [List.setIfInBounds_toArray, List.set_cons_zero, List.set_cons_succ]
          refine wpAnyH_look (i := 6) (v := ?v6) 102 rfl (by kernel_rfl) (by kernel_rfl) (by kernel_rfl) (fun _ _ _ _ h => h) (by rfl) HS.out (Or.inl ⟨by rfl, ?y6⟩) ?r6
          case y6 => intro w hSw; (try dsimp only at hSw); go_simp; (try with_reducible rfl)
          simp only [List.setIfInBounds_toArray, List.set_cons_zero, List.set_cons_succ]
          refine wpAnyH_look (i := 7) (v := ?v7) 103 rfl (by kernel_rfl) (by kernel_rfl) (by kernel_rfl) (fun _ _ _ _ h => h) (by rfl) HS.out (Or.inl ⟨by rfl, ?y7⟩) ?r7
          case y7 => intro w hSw; (try dsimp only at hSw); go_simp; (try with_reducible rfl)
          simp only [List.setIfInBounds_toArray, List.set_cons_zero, List.set_cons_succ]
          refine wpAnyH_look (i := 8) (v := ?v8) 104 rfl (by kernel_rfl) (by kernel_rfl) (by kernel_rfl) (fun _ _ _ _ h => h) (by rfl) HS.out (Or.inl ⟨by rfl, ?y8⟩) ?r8
          case y8 => intro w hSw; (try dsimp only at hSw); go_simp; (try with_reducible rfl)
          simp only [List.setIfInBounds_toArray, List.set_cons_zero, List.set_cons_succ]
          refine wpAnyH_look (i := 9) (v := ?v9) 105 rfl (by kernel_rfl) (by kernel_rfl) (by kernel_rfl) (fun _ _ _ _ h => h) (by rfl) HS.out (Or.inl ⟨by rfl, ?y9⟩) ?r9
          case y9 => intro w hSw; (try dsimp only at hSw); go_simp; (try with_reducible rfl)
          simp only [List.setIfInBounds_toArray, List.set_cons_zero, List.set_cons_succ]
          refine wpAnyH_ready (rs := [4]) (by kernel_rfl) (by simp) ?_
          refine AllReadyH.cons rfl (fun K hK => ?_) AllReadyH.nil
          go_simp
          go_at_call 17
          refine (HKy.out _ HP0.out).mono ?_
          rintro en x1 ⟨rfl, hx⟩
          have HP1 := Lib.hid hx
          have HS := Lib.hid (HQ.out _ _ HP1.out)
          clear hx
          go_simp
          refine hK.out _ _ HS.out (fun _ => ?_)
          clear hK K
          refine wpAnyH_ready (rs := [10]) (by kernel_rfl) (by simp) ?_
          refine AllReadyH.cons rfl (fun K hK => ?_) AllReadyH.nil
          go_simp
          go_at_call 18
          refine (HMk.out _ HP1.out).mono ?_
          rintro en x2 ⟨rfl, hx⟩
          have HP2 := Lib.hid hx
          have HS := Lib.hid (HQ.out _ _ HP2.out)
          clear hx
          go_simp
          refine hK.out _ _ HS.out (fun _ => ?_)
          clear hK K
          refine wpAnyH_ready (rs := [11]) (by kernel_rfl) (by simp) ?_
          refine AllReadyH.cons rfl (fun K hK => ?_) AllReadyH.nil
          go_simp
          go_at_call 16
          refine (HSt.out _ HP2.out).mono ?_
          rintro en x3 ⟨rfl, hx⟩
          have HP3 := Lib.hid hx
          have HS := Lib.hid (HQ.out _ _ HP3.out)
          clear hx
          go_simp
          refine hK.out _ _ HS.out (fun _ => ?_)
          clear hK K
          -- END PUT
          refine ⟨by kernel_rfl, ?_⟩
          have HI2 := Lib.hid (show FindI W a p s q v x ot T B hp g n (k + 1) (put + 1) x3 from
            ⟨_, _, _, _, HP3.out.few (fun u hu => by obtain rfl := List.mem_singleton.1 hu; exact List.mem_cons_self ..), HFp.out.key, by
              have h : (storeD (makeD D 0 t) 1 (keyW a p s q v sh) ((D.L.length + 1 : Nat) : Int)).L.length = D.L.length + 1 := HLp.out
              have := HDl.out; omega, by have := HCn.out; have := HDl.out.2.1; omega, HRw.out.1, HRw.out.2, HPl.out, HKw.out, HLen2.out⟩)
          have hp64 : (put : Int) ≤ 64 := by have := HDl.out; omega
          clear HP0 HP1 HP2 HP3 HQ HS HKy HMk HSt
          go_wp2_with fail
          go_roundw
          case rel => exact ⟨k + 1, put + 1, by go_num, by go_num, hlt, HI2⟩
          case measure => simp [intOf]; omega
        · -- its own
          subst hkk
          have HWr := Lib.hid ((HR8.out.write HNe.out k (.int .i64 (-1))).write HNe.out k (.int .i64 sh))
          have HRw := Lib.hid (row_two (u := .int .i64 (-1)) (z := sh) HRow.out.1 hlt HRow.out.2)
          have hs64 := HRs.out.2.2
          have HI2 := Lib.hid (show FindI W a p s q v x ot T B hp g n (k + 1) put ((w9.setCell ⟨g, k, none⟩ (.int .i64 (-1))).setCell ⟨g, k, none⟩ (.int .i64 sh)) from
            ⟨_, _, _, _, HWr.out.few (fun u hu => by obtain rfl := List.mem_singleton.1 hu; exact List.mem_cons_self ..), HFd.out, HDl.out.1, HDl.out.2.1, HRw.out.1, HRw.out.2, HP.out.1.same (.inl ⟨s0, by omega, by rw [HT0.out]; exact hSt⟩), HP.out.2.same sh, HLen2.out⟩)
          clear s0 s1 hSt HE4 hs64
          go_wp2_with fail
          go_roundw
          case rel => exact ⟨k + 1, put, by go_num, by go_num, hlt, HI2⟩
          case measure => simp [intOf]; omega
        · -- none
          subst hkk hsh
          have HWr := Lib.hid (HR8.out.write HNe.out k (.int .i64 (-1)))
          have HRw := Lib.hid (row_one (z := -1) HRow.out.1 hlt HRow.out.2)
          have hfull : (put : Int) = s := by
            have := hShut.full (by show 0 ≤ s; have := HRs.out.2.2; omega)
            have h2 : ((cntK K s.toNat : Nat) : Int) = s := this
            rw [← HDl.out.2.1] at h2
            exact h2
          have hfull0 : ((put : Int) == s) = true := by simp [hfull]
          have HI2 := Lib.hid (show FindI W a p s q v x ot T B hp g n (k + 1) put (w9.setCell ⟨g, k, none⟩ (.int .i64 (-1))) from
            ⟨_, _, _, _, HWr.out.few (fun u hu => by obtain rfl := List.mem_singleton.1 hu; exact List.mem_cons_self ..), HFd.out, HDl.out.1, HDl.out.2.1, HRw.out.1, HRw.out.2, HP.out.1.same (.inr ⟨rfl, by rw [HT0.out]; exact hShut⟩), HP.out.2.same (-1), HLen2.out⟩)
          clear hShut HE4
          go_wp2_with fail
          go_roundw
          case rel => exact ⟨k + 1, put, by go_num, by go_num, hlt, HI2⟩
          case measure => simp [intOf]; omega
    · have hkn' : n = k := by omega
      subst hkn'
      have hltz : ¬ (n : Int) < (n : Int) := by omega
      obtain ⟨D, K, cur, S, hR, hF, hDl, hput, hsz, hrow, hP, hKn, hLen⟩ := HI.out
      have HLen := Lib.hid hLen
      have HR := Lib.hid hR
      have HFd := Lib.hid hF
      have HDl := Lib.hid (show D.L.length ≤ 1000 from by have := cntK_le K s.toNat; have := HRs.out.2.2; omega)
      have HRow := Lib.hid hrow
      have HP := Lib.hid hP
      have HKn := Lib.hid hKn
      clear hR hF hDl hput hsz hrow hP hKn hLen HI
      go_wp2_with fail
      go_loopw [14, 15] (fun s14 s15 wz => ∃ (j : Nat) (th : Bool), s14 = .bool th ∧ s15 = .int .i64 j ∧ j ≤ n ∧ Hid (th = true ↔ ∃ i, i < j ∧ (T i).toList = ot.toList ∧ 0 ≤ S i) ∧ Hid (Rnd W a p s q v x B hp D [(g, ints cur)] wz)) (fun _ s15 _ => n + 1 - (intOf s15).toNat)
      case atStart => exact ⟨0, false, rfl, rfl, Nat.zero_le _, Lib.hid ⟨fun h => (by cases h), fun ⟨i, h, _⟩ => absurd h (Nat.not_lt_zero _)⟩, HR⟩
      case round =>
        clear HR
        obtain ⟨j, th, rfl, rfl, hjn, HTh, HR⟩ := hrel
        have hj0 : (0 : Int) ≤ (j : Int) := by omega
        by_cases hlt2 : j < n
        · have hltz2 : (j : Int) < (n : Int) := by omega
          obtain ⟨kb, ko, hga, hcell⟩ := HTx.out wr HR.out.lo j hlt2
          have HCk := Lib.hid (fun (X : World) (hX : Below W.heap.size W X) => (by
            obtain ⟨b', o', e, hc⟩ := HTx.out X hX j hlt2
            rw [hga] at e
            cases e
            exact hc : X.cell? ⟨kb, ko + j, none⟩ = some (.string (T j))))
          have HRj := Lib.hid (HRow.out j hlt2)
          have HPj := Lib.hid (HP.out j hlt2)
          obtain ⟨z, hz'⟩ : ∃ z, S j = z := ⟨_, rfl⟩
          rw [hz'] at HRj HPj
          have HZ := Lib.hid hz'
          obtain ⟨t, ht⟩ : ∃ t, T j = t := ⟨_, rfl⟩
          have HT0 := Lib.hid ht
          rw [ht] at hcell HCk HPj
          subst hga
          clear ht hz'
          -- a key that is on a shelf is no longer than a hundred bytes: so says the first loop
          by_cases htl : t.size ≤ 100
          rotate_left
          · exact absurd (HLen.out j hlt2) (by rw [HT0.out]; exact htl)
          have HTs := Lib.hid htl
          clear htl
          go_upto_region 26 with fail
          obtain ⟨c0, c1, c2, c3, c4, c5⟩ := HR.out.six
          go_still_tail 5, hmix
          change wpList _ _ _ _ _ wr.drew
          have HR1 := Lib.hid (HR.out.below (below_drew wr))
          clear hcell c0 c1 c2 c3 c4 c5 HR
          generalize wr.drew = w5 at HR1 ⊢
          go_wp2_with fail
          refine (rnd_new HR1.out HRs.out.1 HTs.out HFd.out.key HDl.out).mono ?_
          rintro en w6 ⟨r, rfl, hN, -⟩
          have HN6 := Lib.hid hN
          clear hN HR1
          go_wp2_with fail
          refine (rnf_run HN6.out HFd.out.key HRs.out.1).mono ?_
          rintro en w7 ⟨rfl, hN⟩
          have HN7 := Lib.hid hN
          clear hN HN6
          go_wp2_with fail
          rcases HPj.out with ⟨z0, z100, hSt⟩ | ⟨rfl, hShut⟩
          · obtain ⟨e1, e2⟩ := hSt.found
            refine (rnf_result HN7.out (k := 1) (sh := z) (by decide) e1 e2).mono ?_
            rintro en w8 ⟨rfl, hR8⟩
            have HR8 := Lib.hid hR8
            clear hR8 e1 e2 hSt HN7 HPj
            have hf0 := cell_of (i := 0) (HR8.out.kept (List.mem_cons_self ..))
            have hf1 := cell_of (i := 1) (HR8.out.kept (List.mem_cons_self ..))
            simp only [List.getElem?_toArray, List.getElem?_cons_zero, List.getElem?_cons_succ] at hf0 hf1
            have hg0 := (cell_of (i := j) (HR8.out.kept (List.mem_cons_of_mem _ (List.mem_singleton.2 rfl)))).trans HRj.out
            have hzz : decide (z < 0) = false := decide_eq_false (by omega)
            have hzg : decide (0 ≤ z) = true := decide_eq_true z0
            go_wp2_with fail
            go_quiet (fail)
            rename Nat => nq
            have HR9 := Lib.hid ((HR8.out.few (ks' := [(g, ints cur)]) (fun u hu => List.mem_cons_of_mem _ hu)).below (below_draws _ nq))
            clear hf0 hf1 hg0 HR8
            generalize (w8.alloc (fouO 1 z)).drewN nq = w9 at HR9 ⊢
            have hg0 := (cell_of (i := j) (HR9.out.kept (List.mem_singleton.2 rfl))).trans HRj.out
            have hcell := HCk.out w9 HR9.out.lo
            by_cases hte : t.toList = ot.toList
            · have hte0 : (t.toList == ot.toList) = true := by simpa using hte
              have HTh2 := Lib.hid (show (true = true ↔ ∃ i, i < j + 1 ∧ (T i).toList = ot.toList ∧ 0 ≤ S i) from ⟨fun _ => ⟨j, by omega, by rw [HT0.out]; exact hte, by rw [HZ.out]; exact z0⟩, fun _ => rfl⟩)
              clear hte
              cases th with
              | true =>
                go_wp2_with fail
                go_roundw
                case rel => exact ⟨j + 1, true, by go_num, by go_num, hlt2, HTh2, HR9⟩
                case measure => simp [intOf]; omega
              | false =>
                go_wp2_with fail
                go_roundw
                case rel => exact ⟨j + 1, true, by go_num, by go_num, hlt2, HTh2, HR9⟩
                case measure => simp [intOf]; omega
            · have hte0 : (t.toList == ot.toList) = false := by simpa using hte
              have HTh2 := Lib.hid (show (th = true ↔ ∃ i, i < j + 1 ∧ (T i).toList = ot.toList ∧ 0 ≤ S i) from ⟨fun h => by
                obtain ⟨i, a1, a2⟩ := HTh.out.1 h
                exact ⟨i, by omega, a2⟩, fun ⟨i, a1, a2, a3⟩ => HTh.out.2 ⟨i, by
                  rcases Nat.lt_or_ge i j with h | h
                  · exact h
                  · obtain rfl : i = j := by omega
                    rw [HT0.out] at a2; exact absurd a2 hte, a2, a3⟩⟩)
              clear hte
              cases th with
              | true =>
                go_wp2_with fail
                go_roundw
                case rel => exact ⟨j + 1, true, by go_num, by go_num, hlt2, HTh2, HR9⟩
                case measure => simp [intOf]; omega
              | false =>
                go_wp2_with fail
                go_roundw
                case rel => exact ⟨j + 1, false, by go_num, by go_num, hlt2, HTh2, HR9⟩
                case measure => simp [intOf]; omega
          · obtain ⟨e1, e2⟩ := hShut.found
            refine (rnf_result HN7.out (k := 3) (sh := 0) (by decide) e1 e2).mono ?_
            rintro en w8 ⟨rfl, hR8⟩
            have HR8 := Lib.hid hR8
            clear hR8 e1 e2 hShut HN7 HPj
            have hf0 := cell_of (i := 0) (HR8.out.kept (List.mem_cons_self ..))
            have hf1 := cell_of (i := 1) (HR8.out.kept (List.mem_cons_self ..))
            simp only [List.getElem?_toArray, List.getElem?_cons_zero, List.getElem?_cons_succ] at hf0 hf1
            have hg0 := (cell_of (i := j) (HR8.out.kept (List.mem_cons_of_mem _ (List.mem_singleton.2 rfl)))).trans HRj.out
            go_wp2_with fail
            go_quiet (fail)
            rename Nat => nq
            have HR9 := Lib.hid ((HR8.out.few (ks' := [(g, ints cur)]) (fun u hu => List.mem_cons_of_mem _ hu)).below (below_draws _ nq))
            clear hf0 hf1 hg0 HR8
            generalize (w8.alloc (fouO 3 0)).drewN nq = w9 at HR9 ⊢
            have hg0 := (cell_of (i := j) (HR9.out.kept (List.mem_singleton.2 rfl))).trans HRj.out
            have hcell := HCk.out w9 HR9.out.lo
            have HTh2 := Lib.hid (show (th = true ↔ ∃ i, i < j + 1 ∧ (T i).toList = ot.toList ∧ 0 ≤ S i) from ⟨fun h => by
              obtain ⟨i, a1, a2⟩ := HTh.out.1 h
              exact ⟨i, by omega, a2⟩, fun ⟨i, a1, a2, a3⟩ => HTh.out.2 ⟨i, by
                rcases Nat.lt_or_ge i j with h | h
                · exact h
                · obtain rfl : i = j := by omega
                  rw [HZ.out] at a3; omega, a2, a3⟩⟩)
            cases hte0 : (t.toList == ot.toList) with
            | true =>
              cases th with
              | true =>
                go_wp2_with fail
                go_roundw
                case rel => exact ⟨j + 1, true, by go_num, by go_num, hlt2, HTh2, HR9⟩
                case measure => simp [intOf]; omega
              | false =>
                go_wp2_with fail
                go_roundw
                case rel => exact ⟨j + 1, false, by go_num, by go_num, hlt2, HTh2, HR9⟩
                case measure => simp [intOf]; omega
            | false =>
              cases th with
              | true =>
                go_wp2_with fail
                go_roundw
                case rel => exact ⟨j + 1, true, by go_num, by go_num, hlt2, HTh2, HR9⟩
                case measure => simp [intOf]; omega
              | false =>
                go_wp2_with fail
                go_roundw
                case rel => exact ⟨j + 1, false, by go_num, by go_num, hlt2, HTh2, HR9⟩
                case measure => simp [intOf]; omega
        · obtain rfl : n = j := by omega
          have hltz2 : ¬ (n : Int) < (n : Int) := by omega
          have hot := HRs.out.2.1
          obtain ⟨c0, c1, c2, c3, c4, c5⟩ := HR.out.six
          go_wp2_with fail
          refine (rnd_new HR.out HRs.out.1 hot HFd.out HDl.out).mono ?_
          rintro en w6 ⟨r, rfl, hN, -⟩
          have HN6 := Lib.hid hN
          clear hN HR c0 c1 c2 c3 c4 c5 hot
          go_wp2_with fail
          refine (rnf_run HN6.out HFd.out HRs.out.1).mono ?_
          rintro en w7 ⟨rfl, hN⟩
          have HN7 := Lib.hid hN
          obtain ⟨kk, sh, e1, e2, e3, e4⟩ := finds_look (a := a) (p := p) (s := s) (q := q) (v := v) (x := x) (t := ot) (K := K)
          have hth : th = (kk == 1) := by
            cases th with
            | true =>
              obtain ⟨i, i1, i2, i3⟩ := HTh.out.1 rfl
              have ei := bytes_eq i2
              rcases HP.out i i1 with ⟨_, _, hSt⟩ | ⟨h, _⟩
              · rw [ei] at hSt
                have := hSt.found.1
                rw [← e1]
                show true = ((seenF K (newF a p s q v x ot)).1.k == 1)
                rw [show (seenF K (newF a p s q v x ot)).1.k = 1 from this]; rfl
              · omega
            | false =>
              rcases e4 with ⟨rfl, _⟩ | ⟨rfl, s0, s1, hSt⟩ | ⟨rfl, _⟩
              · rfl
              · exfalso
                obtain ⟨l, _, l2, l3, _⟩ := hSt
                rw [← l2] at l3
                obtain ⟨i, i1, i2, i3⟩ := HKn.out sh _ s0 s1 l3
                have := HTh.out.2 ⟨i, i1, i3, by omega⟩
                cases this
              · rfl
          have HRs7 := Lib.hid (rnf_result HN7.out e3 e1 e2)
          have hk3 : kk = 2 ∨ kk = 1 ∨ kk = 3 := by rcases e4 with ⟨h, _⟩ | ⟨h, _⟩ | ⟨h, _⟩ <;> omega
          clear hN HN6 e1 e2 e3 e4 HN7 HTh
          go_wp2_with fail
          refine HRs7.out.mono ?_
          rintro en w8 ⟨rfl, hR8⟩
          have HR8 := Lib.hid hR8
          clear hR8 HRs7
          have hf0 := cell_of (i := 0) (HR8.out.kept (List.mem_cons_self ..))
          simp only [List.getElem?_toArray, List.getElem?_cons_zero] at hf0
          have HFa := Lib.hid (by have := rnd_faults HR8.out; rw [HFd.out.faults] at this; exact this : Calls Try.prog 19 #[.pointer (some ⟨hp, 0, none⟩)] (w8.alloc (fouO kk sh)) fun e Y => e = .returned (.int .i64 ((0 : Nat) : Int)) ∧ (w8.alloc (fouO kk sh)) = Y)
          have HLow := Lib.hid HR8.out.lo
          clear HR8
          rcases hk3 with rfl | rfl | rfl
          all_goals
            subst hth
            go_wp2_with fail
            refine HFa.out.mono ?_
            rintro en w9 ⟨rfl, rfl⟩
            go_wp2_with fail
            refine (awake_any _).mono ?_
            rintro en w10 ⟨rfl, hb⟩
            have B10 := Lib.hid (HLow.out.trans (hb.mono HLow.out.size))
            clear hb
            go_wp2_with fail
            go_ret
            exact Says.mk rfl B10.out

end Go.Proofs.Ytdnjlpccopeagaa
