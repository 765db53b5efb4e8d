/-
  The statements' Lay: a key's newer version on its shelf.
-/
import Derived.Test.YtpnfbabiibopnaaQ11
import Derived.Test.YtpnfbabiibopnaaQ14
import Derived.Test.YtpnfbabiibopnaaFrnd
import Derived.Test.YtpnfbabiibopnaaQ08
import Derived.Deep.RegionHeld3
import Derived.WalkMore
namespace Go.Proofs.Ytpnfbabiibopnaa
open Go Go.RowKit
attribute [local go_sem ↓] Go.wp_at_zero Go.wp_at_succ

section
variable {a p s q v x : Int} {D : HpD} {G : Nat → Int} {K : Shelves} {V : Int → Nat → VsnD} {N : Int → Nat}
theorem Laid.sho (h : Laid a p s q v x D G K V N) {sh : Int} (h0 : 0 ≤ sh) (h1 : sh < s) (hl : D.L.length ≤ 1000) : Sho (headW a p s q v sh) (sizeW a p s q v) D := by
  have hb := rightC_bd h.rc
  have hz := sizeW_at h.rc
  have hk : headW a p s q v sh = 3 + p + a + 2 * sh + 1 := if_pos ⟨h.rc, h0, by omega⟩
  obtain ⟨ws, t, l1, l2, _⟩ := h.ctl.live
  exact ⟨h.ctl.faults, h.ctl.fine, ⟨ws, t, l1, by omega⟩, ⟨by omega, by omega⟩, by omega⟩
/-- What a Lay comes to. -/
def LayE (W : World) (a p s q v x : Int) (B hp : Nat) (D : HpD) (ks : List (Nat × Obj)) (G : Nat → Int) (K : Shelves) (V : Int → Nat → VsnD) (N : Int → Nat) (ep : Int) (key : ByteArray) (has : Bool) (val : ByteArray) (e : Ending) (Y : World) : Prop :=
  (e = .returned (.bool false) ∧ Rnd W a p s q v x B hp D ks Y ∧ (seenF K (newF a p s q v x key)).1.k = 3) ∨
  (e = .returned (.bool true) ∧ ∃ D' G' sh bl, Rnd W a p s q v x B hp D' ks Y ∧ sh = (seenF K (newF a p s q v x key)).1.sh ∧ (0 ≤ sh ∧ sh < s) ∧ (K sh = none ∨ K sh = some key.toList) ∧
    Laid a p s q v x D' G' (K.put sh key.toList) (pushV V N sh ⟨ep, has, putT has val, bl⟩) (pushN N sh) ∧ (∀ i : Nat, (i : Int) < 3 + p → G' i = G i) ∧ D'.L.length ≤ D.L.length + 2 ∧ (K sh = some key.toList → ∀ i : Nat, i ≠ (headW a p s q v sh).toNat → G' i = G i))
theorem put_same {K : Shelves} {sh : Int} {t : List UInt8} (h : K sh = some t) : K.put sh t = K := by
  funext y
  unfold Shelves.put
  split
  · rename_i e; rw [e, h]
  · rfl
end
abbrev cfgO (a p s q v x : Int) : Obj := .cells #[.int .i64 a, .int .i64 p, .int .i64 s, .int .i64 q, .int .i64 v, .int .u64 x] 24 (0, 0)
theorem cfg_at {X : World} {m : Nat} {a p s q v x : Int} (h : X.heap[m]? = some (cfgO a p s q v x)) : X.cell? ⟨m, 0, none⟩ = some (.int .i64 a) ∧ X.cell? ⟨m, 1, none⟩ = some (.int .i64 p) ∧ X.cell? ⟨m, 2, none⟩ = some (.int .i64 s) ∧ X.cell? ⟨m, 3, none⟩ = some (.int .i64 q) ∧ X.cell? ⟨m, 4, none⟩ = some (.int .i64 v) ∧ X.cell? ⟨m, 5, none⟩ = some (.int .u64 x) :=
  ⟨(cell_of h).trans rfl, (cell_of h).trans rfl, (cell_of h).trans rfl, (cell_of h).trans rfl, (cell_of h).trans rfl, (cell_of h).trans rfl⟩
theorem ch_at {X : World} {m : Nat} {key val : ByteArray} {has : Bool} (h : X.heap[m]? = some (chO key has val)) : X.cell? ⟨m, 0, none⟩ = some (.string key) ∧ X.cell? ⟨m, 1, none⟩ = some (.bool has) ∧ X.cell? ⟨m, 2, none⟩ = some (.string val) :=
  ⟨(cell_of h).trans rfl, (cell_of h).trans rfl, (cell_of h).trans rfl⟩
theorem fouo_at {X : World} {m : Nat} {k sh : Int} (h : X.heap[m]? = some (fouO k sh)) : X.cell? ⟨m, 0, none⟩ = some (.int .i64 k) ∧ X.cell? ⟨m, 1, none⟩ = some (.int .i64 sh) :=
  ⟨(cell_of h).trans rfl, (cell_of h).trans rfl⟩
/-- The boxes that Lay has of its own: its config's, its change's, what it found. -/
def boxL (b m g : Nat) (a p s q v x : Int) (key : ByteArray) (has : Bool) (val : ByteArray) (k sh : Int) (ks : List (Nat × Obj)) : List (Nat × Obj) := (g, fouO k sh) :: (m, chO key has val) :: (b, cfgO a p s q v x) :: ks
def LooksL (b m g : Nat) (a p s q v x : Int) (key : ByteArray) (sh : Int) (X : World) : Prop := X.cell? ⟨b, 0, none⟩ = some (.int .i64 a) ∧ X.cell? ⟨b, 1, none⟩ = some (.int .i64 p) ∧ X.cell? ⟨b, 2, none⟩ = some (.int .i64 s) ∧ X.cell? ⟨b, 3, none⟩ = some (.int .i64 q) ∧ X.cell? ⟨b, 4, none⟩ = some (.int .i64 v) ∧ X.cell? ⟨b, 5, none⟩ = some (.int .u64 x) ∧ X.cell? ⟨g, 1, none⟩ = some (.int .i64 sh) ∧ X.cell? ⟨m, 0, none⟩ = some (.string key)
section
variable {W X : World} {a p s q v x : Int} {B hp b m g : Nat} {D : HpD} {ks : List (Nat × Obj)} {key val : ByteArray} {has : Bool} {k sh : Int}
theorem Rnd.lyb (h : Rnd W a p s q v x B hp D (boxL b m g a p s q v x key has val k sh ks) X) : X.heap[g]? = some (fouO k sh) ∧ X.heap[m]? = some (chO key has val) ∧ X.heap[b]? = some (cfgO a p s q v x) :=
  ⟨h.kept (List.mem_cons_self ..), h.kept (List.mem_cons_of_mem _ (List.mem_cons_self ..)), h.kept (List.mem_cons_of_mem _ (List.mem_cons_of_mem _ (List.mem_cons_self ..)))⟩
theorem Rnd.looksL (h : Rnd W a p s q v x B hp D (boxL b m g a p s q v x key has val k sh ks) X) : LooksL b m g a p s q v x key sh X := by
  obtain ⟨h1, h2, h3⟩ := h.lyb
  obtain ⟨c0, c1, c2, c3, c4, c5⟩ := cfg_at h3
  exact ⟨c0, c1, c2, c3, c4, c5, (fouo_at h1).2, (ch_at h2).1⟩
theorem Rnd.lyo (h : Rnd W a p s q v x B hp D (boxL b m g a p s q v x key has val k sh ks) X) : Rnd W a p s q v x B hp D ks X := h.few (fun _ hu => List.mem_cons_of_mem _ (List.mem_cons_of_mem _ (List.mem_cons_of_mem _ hu)))
end

set_option maxRecDepth 100000 in
set_option maxHeartbeats 8000000 in
theorem rnd_lay {W X : World} {a p s q v x : Int} {B hp : Nat} {D : HpD} {ks : List (Nat × Obj)} {G : Nat → Int} {K : Shelves} {V : Int → Nat → VsnD} {N : Int → Nat} (h : Rnd W a p s q v x B hp D ks X) (hL : Laid a p s q v x D G K V N) (hl : D.L.length ≤ 900)
    {ep : Int} (he : 0 ≤ ep ∧ ep < 18446744073709551616) {key : ByteArray} (hk : key.size ≤ 100) (has : Bool) {val : ByteArray} (hv : val.size ≤ 4096) :
    Calls Try.prog 8 #[.pointer (some ⟨hp, 0, none⟩), cfV a p s q v x, .int .u64 ep, .agg #[.string key, .bool has, .string val]] X (LayE W a p s q v x B hp D ks G K V N ep key has val) := by
  have hr := hL.rc
  obtain ⟨d, hd⟩ : ∃ d, newF a p s q v x key = d := ⟨_, rfl⟩
  have hds : d.s = s := by rw [← hd]; rfl
  have hrd : rightC d.a d.p d.s d.q d.v = true := by rw [← hd]; exact hr
  have hdk : d.key = key := by rw [← hd]; rfl
  have hFd := hL.field key
  rw [hd] at hFd
  have HNw := Lib.hid (fun (Y : World) ks' (hY : Rnd W a p s q v x B hp D ks' Y) => (by have := rnd_new hY hr hk (by rw [hd]; exact hFd) (by omega); rw [hd] at this; exact this : Calls Try.prog 28 #[cfV a p s q v x, .string key] Y (NewQ W a p s q v x B hp D ks' 1000 (lookN d 0) Y)))
  have HRn := Lib.hid (fun (Y : World) ks' r (hY : Rnf FindM W a p s q v x B hp D ks' r 1000 (lookN d 0) Y) => rnf_run hY hFd hrd)
  obtain ⟨E, hE⟩ : ∃ E, (seenF K d).1 = E := ⟨_, rfl⟩
  obtain ⟨kk, hkk⟩ : ∃ kk, E.k = kk := ⟨_, rfl⟩
  obtain ⟨sh, hsh⟩ : ∃ sh, E.sh = sh := ⟨_, rfl⟩
  have hcs := findK_cases K d
  rw [show (findK K d d.s.toNat 0).1 = E from hE, hkk, hsh, hdk, hds] at hcs
  have HEnd := Lib.hid (show ∀ en Y, (en = .returned (.bool false) ∧ Rnd W a p s q v x B hp D ks Y ∧ kk = 3) ∨ (en = .returned (.bool true) ∧ ∃ D' G' bl, Rnd W a p s q v x B hp D' ks Y ∧ (0 ≤ sh ∧ sh < s) ∧ (K sh = none ∨ K sh = some key.toList) ∧
      Laid a p s q v x D' G' (K.put sh key.toList) (pushV V N sh ⟨ep, has, putT has val, bl⟩) (pushN N sh) ∧ (∀ i : Nat, (i : Int) < 3 + p → G' i = G i) ∧ D'.L.length ≤ D.L.length + 2 ∧ (K sh = some key.toList → ∀ i : Nat, i ≠ (headW a p s q v sh).toNat → G' i = G i)) → LayE W a p s q v x B hp D ks G K V N ep key has val en Y from by
    intro en Y hh
    unfold LayE
    rw [hd, hE, hkk, hsh]
    rcases hh with hh | ⟨h1, D', G', bl, h2, h3⟩
    · exact .inl hh
    · exact .inr ⟨h1, D', G', sh, bl, h2, rfl, h3⟩)
  rw [show (seenF K d).1 = E from hE] at HRn
  have HKS := Lib.hid (And.intro hkk hsh)
  have R0 := Lib.hid ((h.add (cfgO a p s q v x)).add (chO key has val))
  obtain ⟨b, hb⟩ : ∃ b, X.heap.size = b := ⟨_, rfl⟩
  have hb1 : (X.alloc (cfgO a p s q v x)).heap.size = b + 1 := by simp [hb]
  rw [hb, hb1] at R0
  have HCs := Lib.hid hcs
  have HDk := Lib.hid hdk
  have HNf := Lib.hid hd
  have HL := Lib.hid (And.intro hL (And.intro hl (And.intro he (And.intro hk hv))))
  obtain ⟨c0, c1, c2, c3, c4, c5⟩ := cfg_at (R0.out.kept (List.mem_cons_of_mem _ (List.mem_cons_self ..)))
  obtain ⟨e0, e1, e2⟩ := ch_at (R0.out.kept (List.mem_cons_self ..))
  clear hL hr hFd hds hrd hdk hE hkk hsh hcs he hk hv hl h hd
  go_enter Try.func8, Try.ntmps8
  go_wp2_with fail
  rw [hb] at *
  generalize (X.alloc (cfgO a p s q v x)).alloc (chO key has val) = w0 at R0 c0 c1 c2 c3 c4 c5 e0 e1 e2 ⊢
  refine (HNw.out _ _ R0.out).mono ?_
  rintro en w1 ⟨r, rfl, h1, -⟩
  have R1 := Lib.hid h1
  clear h1 c0 c1 c2 c3 c4 c5 e0 e1 e2 R0 hb hb1
  go_wp2_with fail
  refine (HRn.out _ _ _ R1.out).mono ?_
  rintro en w2 ⟨rfl, h2⟩
  have R2 := Lib.hid h2
  clear h2 R1
  rcases HCs.out with ⟨hk2, y0, y1, hK, hSt⟩ | ⟨hk1, y0, y1, hSt⟩ | ⟨hk3, hs0, hSh⟩
  · subst hk2
    go_wp2_with fail
    refine (rnf_result R2.out (by decide) HKS.out.1 HKS.out.2).mono ?_
    rintro en w3 ⟨rfl, h3⟩
    have R3 := Lib.hid (show Rnd W a p s q v x B hp D (boxL b (b + 1) w3.heap.size a p s q v x key has val 2 sh ks) _ from h3)
    clear h3 R2
    obtain ⟨f1, f2, f3⟩ := R3.out.lyb
    obtain ⟨g0, g1⟩ := fouo_at f1
    clear f1 f2 f3
    go_wp2_with fail
    obtain ⟨g, hg⟩ : ∃ g, w3.heap.size = g := ⟨_, rfl⟩
    rw [hg] at R3 g0 g1 ⊢
    generalize w3.alloc (fouO 2 sh) = w4 at R3 g0 g1 ⊢
    clear hg
    have HKy := Lib.hid (fun (Y : World) ks' D' (hY : Rnd W a p s q v x B hp D' ks' Y) => rnd_key hY sh)
    obtain ⟨hLd, hl9, he, hk, hv⟩ := HL.out
    have HMk := Lib.hid (fun (Y : World) ks' (hY : Rnd W a p s q v x B hp D ks' Y) => rnd_make hY (by omega) hk)
    have hz := sizeW_at hLd.rc
    have hkw := keyW_at hLd.rc y0 y1
    have hbd := rightC_bd hLd.rc
    have hkc : (((keyW a p s q v sh).toNat : Nat) : Int) = keyW a p s q v sh := by omega
    have hPut := hLd.put (key := key) y0 y1 hK (by omega) (by rw [HNf.out]; exact hSt) (by omega)
    have hn4 := (hLd.ctl.news (c := (keyW a p s q v sh).toNat) (by omega) (b := ⟨[], key, false⟩) ⟨fun w hw => (by cases hw), by show key.size ≤ _; omega⟩ rfl (by omega)).2.1
    have HSt := Lib.hid (fun (Y : World) ks' (hY : Rnd W a p s q v x B hp (makeD D 0 key) ks' Y) => (by
      have := rnd_store hY (by rw [makeD_zero]; show D.faults < 1000000; rw [hLd.ctl.faults]; omega) (keyW a p s q v sh) ((D.L.length + 1 : Nat) : Int)
      refine this.mono fun e Y' hh => ⟨_, hh.1, ?_⟩
      have e2 : storeD (makeD D 0 key) 1 (keyW a p s q v sh) ((D.L.length + 1 : Nat) : Int) = newD D ⟨[], key, false⟩ (keyW a p s q v sh).toNat := by unfold newD; rw [makeD_zero, hkc]
      rw [← e2]; exact hh.2 :
      Calls Try.prog 11 #[.pointer (some ⟨hp, 0, none⟩), .int .u64 1, .int .i64 (keyW a p s q v sh), .int .u64 ((D.L.length + 1 : Nat) : Int)] Y (fun e Y' => ∃ z : Int, e = .returned (.int .i64 z) ∧ Rnd W a p s q v x B hp (newD D ⟨[], key, false⟩ (keyW a p s q v sh).toNat) ks' Y')))
    obtain ⟨D1, hD1⟩ : ∃ D1, newD D ⟨[], key, false⟩ (keyW a p s q v sh).toNat = D1 := ⟨_, rfl⟩
    rw [hD1] at HSt hPut hn4
    have HPut := Lib.hid (And.intro hPut (And.intro hn4 (And.intro (And.intro y0 y1) (show ∀ i : Nat, (i : Int) < 3 + p → i ≠ (keyW a p s q v sh).toNat from fun i hi => by omega))))
    have HK0 := Lib.hid hK
    have HPs := Lib.hid (fun (Y : World) ks' (hY : Rnd W a p s q v x B hp D1 ks' Y) => rnd_push2 hY (hPut.sho y0 y1 (by omega)) (sh := sh) rfl he key has hv)
    clear hLd he hk hv hz hkw hbd hkc hPut hn4 hD1 hSt hK y0 y1 hl9
    generalize keyW a p s q v sh = kc at HKy HSt HPut
    have HS := Lib.hid (show LooksL b (b + 1) g a p s q v x key sh w4.drew from (R3.out.below (below_drew _)).looksL)
    refine wp_region_held_drew (S := fun X => X.cell? ⟨b, 0, none⟩ = some (.int .i64 a) ∧ X.cell? ⟨b, 1, none⟩ = some (.int .i64 p) ∧ X.cell? ⟨b, 2, none⟩ = some (.int .i64 s) ∧ X.cell? ⟨b, 3, none⟩ = some (.int .i64 q) ∧ X.cell? ⟨b, 4, none⟩ = some (.int .i64 v) ∧ X.cell? ⟨b, 5, none⟩ = some (.int .u64 x) ∧ X.cell? ⟨g, 1, none⟩ = some (.int .i64 sh) ∧ X.cell? ⟨b + 1, 0, none⟩ = some (.string key)) (by kernel_rfl) HS.out (fun _ => ?_)
    refine (fun h => h) ?_
    refine wpAnyH_look (i := 0) (v := ?v0) 35 rfl (by kernel_rfl) (by kernel_rfl) (by kernel_rfl) (fun _ _ _ _ h => h) (by rfl) HS.out (Or.inl ⟨by rfl, ?y0⟩) ?r0
    case y0 => intro w hSw; (try dsimp only at hSw); go_simp; (try with_reducible rfl)
    simp only [List.setIfInBounds_toArray, List.set_cons_zero, List.set_cons_succ]
    refine wpAnyH_look (i := 1) (v := ?v1) 36 rfl (by kernel_rfl) (by kernel_rfl) (by kernel_rfl) (fun _ _ _ _ h => h) (by rfl) HS.out (Or.inl ⟨by rfl, ?y1⟩) ?r1
    case y1 => intro w hSw; (try dsimp only at hSw); go_simp; (try with_reducible rfl)
    simp only [List.setIfInBounds_toArray, List.set_cons_zero, List.set_cons_succ]
    refine wpAnyH_look (i := 2) (v := ?v2) 37 rfl (by kernel_rfl) (by kernel_rfl) (by kernel_rfl) (fun _ _ _ _ h => h) (by rfl) HS.out (Or.inl ⟨by rfl, ?y2⟩) ?r2
    case y2 => intro w hSw; (try dsimp only at hSw); go_simp; (try with_reducible rfl)
    simp only [List.setIfInBounds_toArray, List.set_cons_zero, List.set_cons_succ]
    refine wpAnyH_look (i := 3) (v := ?v3) 38 rfl (by kernel_rfl) (by kernel_rfl) (by kernel_rfl) (fun _ _ _ _ h => h) (by rfl) HS.out (Or.inl ⟨by rfl, ?y3⟩) ?r3
    case y3 => intro w hSw; (try dsimp only at hSw); go_simp; (try with_reducible rfl)
    simp only [List.setIfInBounds_toArray, List.set_cons_zero, List.set_cons_succ]
    refine wpAnyH_look (i := 5) (v := ?v5) 40 rfl (by kernel_rfl) (by kernel_rfl) (by kernel_rfl) (fun _ _ _ _ h => h) (by rfl) HS.out (Or.inl ⟨by rfl, ?y5⟩) ?r5
    case y5 => intro w hSw; (try dsimp only at hSw); go_simp; (try with_reducible rfl)
    simp only [List.setIfInBounds_toArray, List.set_cons_zero, List.set_cons_succ]
    refine wpAnyH_look (i := 6) (v := ?v6) 41 rfl (by kernel_rfl) (by kernel_rfl) (by kernel_rfl) (fun _ _ _ _ h => h) (by rfl) HS.out (Or.inl ⟨by rfl, ?y6⟩) ?r6
    case y6 => intro w hSw; (try dsimp only at hSw); go_simp; (try with_reducible rfl)
    simp only [List.setIfInBounds_toArray, List.set_cons_zero, List.set_cons_succ]
    refine wpAnyH_look (i := 7) (v := ?v7) 42 rfl (by kernel_rfl) (by kernel_rfl) (by kernel_rfl) (fun _ _ _ _ h => h) (by rfl) HS.out (Or.inl ⟨by rfl, ?y7⟩) ?r7
    case y7 => intro w hSw; (try dsimp only at hSw); go_simp; (try with_reducible rfl)
    simp only [List.setIfInBounds_toArray, List.set_cons_zero, List.set_cons_succ]
    refine wpAnyH_ready (rs := [4]) (by kernel_rfl) (by simp) ?_
    refine AllReadyH.cons rfl (fun K hK => ?_) AllReadyH.nil
    go_simp
    go_at_call 30
    refine (HKy.out _ _ _ (R3.out.below (below_drew _))).mono ?_
    rintro en x1 ⟨rfl, h4⟩
    have R4 := Lib.hid h4
    have HS := Lib.hid R4.out.looksL
    clear h4
    go_simp
    refine hK.out _ _ HS.out (fun _ => ?_)
    clear hK K
    refine wpAnyH_ready (rs := [8]) (by kernel_rfl) (by simp) ?_
    refine AllReadyH.cons rfl (fun K hK => ?_) AllReadyH.nil
    go_simp
    go_at_call 26
    refine (HMk.out _ _ R4.out).mono ?_
    rintro en x2 ⟨rfl, h5⟩
    have R5 := Lib.hid h5
    have HS := Lib.hid (show LooksL b (b + 1) g a p s q v x key sh x2 from (show Rnd W a p s q v x B hp _ (boxL b (b + 1) g a p s q v x key has val 2 sh ks) x2 from R5.out).looksL)
    clear h5
    go_simp
    refine hK.out _ _ HS.out (fun _ => ?_)
    clear hK K
    refine wpAnyH_ready (rs := [9]) (by kernel_rfl) (by simp) ?_
    refine AllReadyH.cons rfl (fun K hK => ?_) AllReadyH.nil
    go_simp
    go_at_call 11
    refine (HSt.out _ _ R5.out).mono ?_
    rintro en x3 ⟨z, rfl, h6⟩
    have R6 := Lib.hid (show Rnd W a p s q v x B hp D1 (boxL b (b + 1) g a p s q v x key has val 2 sh ks) x3 from h6)
    have HS := Lib.hid R6.out.looksL
    clear h6
    go_simp
    refine hK.out _ _ HS.out (fun _ => ?_)
    clear hK K
    refine ⟨by kernel_rfl, ?_⟩
    obtain ⟨f1, f2, f3⟩ := R6.out.lyb
    obtain ⟨g0, g1⟩ := fouo_at f1
    obtain ⟨c0, c1, c2, c3, c4, c5⟩ := cfg_at f3
    obtain ⟨e0, e1, e2⟩ := ch_at f2
    clear f1 f2 f3
    go_wp2_with fail
    refine (HPs.out _ _ R6.out).mono ?_
    rintro en w7 ⟨rfl, h7⟩
    have R7 := Lib.hid (show Rnd W a p s q v x B hp _ (boxL b (b + 1) g a p s q v x key has val 2 sh ks) w7 from h7).lyo
    clear h7 c0 c1 c2 c3 c4 c5 e0 e1 e2 g0 g1
    go_wp2_with fail
    go_ret
    refine HEnd.out _ _ (.inr ⟨rfl, ?_⟩)
    obtain ⟨hPut, hn4, ⟨y0, y1⟩, hne⟩ := HPut.out
    obtain ⟨-, hl9, he, hk, hv⟩ := HL.out
    obtain ⟨q1, q2⟩ := hPut.push y0 y1 (by unfold Shelves.put; rw [if_pos rfl]; rfl) he has (t := putT has val) (by unfold putT; split; exact Nat.le_trans hv (by omega); exact Nat.zero_le _) (by omega)
    have hk2 : headW a p s q v sh = 3 + p + a + 2 * sh + 1 := if_pos ⟨hPut.rc, y0, by omega⟩
    have hbd := rightC_bd hPut.rc
    refine ⟨_, _, _, R7.out, ⟨y0, y1⟩, .inl HK0.out, q1, fun i hi => ?_, by omega, fun hbad => by rw [HK0.out] at hbad; cases hbad⟩
    rw [upd_other (by omega), upd_other (hne i hi)]
  · subst hk1
    go_wp2_with fail
    refine (rnf_result R2.out (by decide) HKS.out.1 HKS.out.2).mono ?_
    rintro en w3 ⟨rfl, h3⟩
    have R3 := Lib.hid (show Rnd W a p s q v x B hp D (boxL b (b + 1) w3.heap.size a p s q v x key has val 1 sh ks) _ from h3)
    clear h3 R2
    obtain ⟨hLd, hl9, he, hk, hv⟩ := HL.out
    have hKs : K sh = some key.toList := by
      obtain ⟨j, j1, j2, j3, -⟩ := hSt
      rw [j2, j3, HDk.out]
    have HPs := Lib.hid (fun (Y : World) ks' (hY : Rnd W a p s q v x B hp D ks' Y) => rnd_push2 hY (hLd.sho y0 y1 (by omega)) (sh := sh) rfl he key has hv)
    have hq := hLd.push y0 y1 (by rw [hKs]; rfl) he has (t := putT has val) (by unfold putT; split; exact Nat.le_trans hv (by omega); exact Nat.zero_le _) (by omega)
    have hk2 : headW a p s q v sh = 3 + p + a + 2 * sh + 1 := if_pos ⟨hLd.rc, y0, by omega⟩
    have hbd := rightC_bd hLd.rc
    have HFin := Lib.hid (fun (Y : World) (hY : Rnd W a p s q v x B hp (pushD D (headW a p s q v sh) ep has (putT has val)) ks Y) => HEnd.out (.returned (.bool true)) Y (.inr ⟨rfl, _, _, _, hY, ⟨y0, y1⟩, .inr hKs, by rw [put_same hKs]; exact hq.1, fun i hi => upd_other (by omega), by omega, fun _ i hi => upd_other hi⟩))
    clear hLd he hk hv hl9 hKs hq hk2 hbd hSt y0 y1
    obtain ⟨f1, f2, f3⟩ := R3.out.lyb
    obtain ⟨g0, g1⟩ := fouo_at f1
    obtain ⟨c0, c1, c2, c3, c4, c5⟩ := cfg_at f3
    obtain ⟨e0, e1, e2⟩ := ch_at f2
    clear f1 f2 f3
    go_wp2_with fail
    refine (HPs.out _ _ R3.out).mono ?_
    rintro en w7 ⟨rfl, h7⟩
    have HF := Lib.hid (HFin.out _ (show Rnd W a p s q v x B hp _ (boxL b (b + 1) w3.heap.size a p s q v x key has val 1 sh ks) w7 from h7).lyo)
    clear h7 c0 c1 c2 c3 c4 c5 e0 e1 e2 g0 g1
    go_wp2_with fail
    go_ret
    exact HF.out
  · subst hk3
    clear hs0 hSh
    go_wp2_with fail
    refine (rnf_result R2.out (by decide) HKS.out.1 HKS.out.2).mono ?_
    rintro en w3 ⟨rfl, h3⟩
    have R3 := Lib.hid (show Rnd W a p s q v x B hp D (boxL b (b + 1) w3.heap.size a p s q v x key has val 3 sh ks) _ from h3)
    clear h3 R2
    obtain ⟨f1, f2, f3⟩ := R3.out.lyb
    obtain ⟨g0, g1⟩ := fouo_at f1
    clear f1 f2 f3
    go_wp2_with fail
    go_ret
    exact HEnd.out _ _ (.inl ⟨rfl, R3.out.lyo, by simp⟩)

end Go.Proofs.Ytpnfbabiibopnaa
