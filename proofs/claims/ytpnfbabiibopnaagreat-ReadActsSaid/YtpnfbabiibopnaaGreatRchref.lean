/-
  The reference's Chain on a tape: where the routine within another one stands, it stands.
-/
import Derived.Test.YtpnfbabiibopnaaGreatQ13
import Derived.Test.YtpnfbabiibopnaaGreatChnm
import Derived.Test.YtpnfbabiibopnaaGreatCref
import Derived.Deep.DeepCutAuto
import Derived.Deep.CutBlock
import Derived.StillTailTactics
namespace Go.Proofs.YtpnfbabiibopnaaGreat
open Go Go.RowKit
attribute [local go_sem ↓] Go.wp_at_zero Go.wp_at_succ

abbrev rvaO (h : Bool) (t : ByteArray) (b : Int) : Obj := .cells #[.bool h, .string t, .int .u64 b] 81 (0, 0)
theorem rva_at {X : World} {n : Nat} {h : Bool} {t : ByteArray} {b : Int} (hX : X.heap[n]? = some (rvaO h t b)) : X.cell? ⟨n, 0, none⟩ = some (.bool h) ∧ X.cell? ⟨n, 1, none⟩ = some (.string t) ∧ X.cell? ⟨n, 2, none⟩ = some (.int .u64 b) :=
  ⟨(cell_of hX).trans rfl, (cell_of hX).trans rfl, (cell_of hX).trans rfl⟩
theorem rva_free {X : World} {n : Nat} {h : Bool} {t : ByteArray} {b : Int} (hX : X.heap[n]? = some (rvaO h t b)) (i : Nat) : X.frozen? ⟨n, i, none⟩ = false := by simp [World.frozen?, hX]
theorem load_rva {X : World} {n : Nat} {k : Bool} {t : ByteArray} {b : Int} (h : X.heap[n]? = some (rvaO k t b)) : (loadVar 81 ⟨n, 0, none⟩).run Tryz.prog X = .ok (valV k t b) X := by
  obtain ⟨m0, m1, m2⟩ := rva_at h
  go_simp
structure ChrI (W : World) (a p s q v x : Int) (b : Nat) (ga : Option Addr) (c : Nat) (G : List (Int × ByteArray)) (T : TapD) (X : World) : Prop where
  tp : TapAt X b ga c G T
  cf : X.heap[W.heap.size]? = some (.cells (cfC a p s q v x) 24 (0, 0))
  re : X.heap[W.heap.size + 1]? = some (rvaO false ⟨#[]⟩ 0)
  st : Step (fun k => k = b) (fun k => k = b) W X
  lt : b < W.heap.size
section
variable {σ : Type} {M : Mach σ} {ι : Nat → ChnD → σ} {I : ChnD → Prop} {em : Emb ChnM M ι I} {R0 : σ} {W X Y : World} {a p s q v x : Int} {b c : Nat} {ga : Option Addr} {G : List (Int × ByteArray)} {T T' : TapD}
theorem ChrI.below (h : ChrI W a p s q v x b ga c G T X) (hb : Below X.heap.size X Y) : ChrI W a p s q v x b ga c G T Y :=
  ⟨h.tp.below hb, (hb.block _ (heap_at_lt h.cf)).trans h.cf, (hb.block _ (heap_at_lt h.re)).trans h.re, h.st.trans (Step.of_below hb), h.lt⟩
theorem ChrI.next (h : ChrI W a p s q v x b ga c G T X) (ht : TapAt Y b ga c G T') (hs : Step (fun k => k = b) (fun k => k = b) X Y) : ChrI W a p s q v x b ga c G T' Y :=
  ⟨ht, (hs.block _ (heap_at_lt h.cf) (by have := h.lt; omega)).trans h.cf, (hs.block _ (heap_at_lt h.re) (by have := h.lt; omega)).trans h.re, h.st.trans hs, h.lt⟩
theorem ChrI.six (h : ChrI W a p s q v x b ga c G T X) : SixC W.heap.size a p s q v x X :=
  ⟨(cell_of h.cf).trans rfl, (cell_of h.cf).trans rfl, (cell_of h.cf).trans rfl, (cell_of h.cf).trans rfl, (cell_of h.cf).trans rfl, (cell_of h.cf).trans rfl⟩
/-- What a reference's Chain comes to. -/
def ChrR (em : Emb ChnM M ι I) (G : List (Int × ByteArray)) (R0 : σ) (T : TapD) (hs : Bool) (tx : ByteArray) : Prop := Ovr M G R0 T ∨ ∃ E, Foi em G R0 T E ∧ E.asks = 6 ∧ E.has = hs ∧ E.text = tx
def ChrE (em : Emb ChnM M ι I) (R0 : σ) (b : Nat) (ga : Option Addr) (c : Nat) (G : List (Int × ByteArray)) (W : World) (e : Ending) (W' : World) : Prop :=
  ∃ (T : TapD) (hs : Bool) (tx : ByteArray) (bl n : Int), e = .returned (.tuple #[valV hs tx bl, .int .i64 n]) ∧ TapAt W' b ga c G T ∧ Step (fun k => k = b) (fun k => k = b) W W' ∧ ChrR em G R0 T hs tx
theorem chr_fin (h : ChrI W a p s q v x b ga c G T X) (hga : ∀ a, ga = some a → a.block < W.heap.size) {hs : Bool} {tx : ByteArray} {bl n : Int} (hR : ChrR em G R0 T hs tx) {Z : Array Value} (hp : Z.getD 8 undef = .pointer (some ⟨W.heap.size + 1, 0, none⟩)) (hn : Z.getD 9 undef = .int .i64 n) :
    bodyPost Tryz.prog Tryz.f28 (ChrE em R0 b ga c G W) .ret { tmps := Z, defers := [] } (((X.setCell ⟨W.heap.size + 1, 0, none⟩ (.bool hs)).setCell ⟨W.heap.size + 1, 1, none⟩ (.string tx)).setCell ⟨W.heap.size + 1, 2, none⟩ (.int .u64 bl)) := by
  have hk : ∀ j, j ≠ W.heap.size + 1 → (((X.setCell ⟨W.heap.size + 1, 0, none⟩ (.bool hs)).setCell ⟨W.heap.size + 1, 1, none⟩ (.string tx)).setCell ⟨W.heap.size + 1, 2, none⟩ (.int .u64 bl)).heap[j]? = X.heap[j]? := fun j hj => by
    rw [Below.heap_setCell _ _ _ _ hj, Below.heap_setCell _ _ _ _ hj, Below.heap_setCell _ _ _ _ hj]
  have h2 : (((X.setCell ⟨W.heap.size + 1, 0, none⟩ (.bool hs)).setCell ⟨W.heap.size + 1, 1, none⟩ (.string tx)).setCell ⟨W.heap.size + 1, 2, none⟩ (.int .u64 bl)).heap[W.heap.size + 1]? = some (rvaO hs tx bl) := heap_setAt (heap_setAt (heap_setAt h.re))
  refine bodyPost_ret (v := .tuple #[valV hs tx bl, .int .i64 n]) (by rw [results_cell2 (by rfl), hp, hn]; simp only [asAddr, Sem.run_pure, Result.andThen_ok, load_rva h2]) rfl ⟨T, hs, tx, bl, n, rfl, ⟨(hk b (by have := h.lt; omega)).trans h.tp.own, h.tp.row.apart (fun a ha => hk _ (by have := hga a ha; omega)), h.tp.off, h.tp.k, h.tp.many⟩, ?_, hR⟩
  exact ⟨h.st.os, h.st.tape, h.st.output, by simpa [World.setCell] using h.st.size, fun j h1 h2 => (hk j (by omega)).trans (h.st.block j h1 h2), fun j hj => .inl hj⟩
theorem anyC_nat' (b n : Nat) : anyC (b : Int) n = if b = 0 then 6 else n := by
  unfold anyC
  by_cases h : b = 0
  · subst h; rfl
  · rw [if_neg (by omega), if_neg h]
/-- At the head of the loop. -/
def HeadC (em : Emb ChnM M ι I) (R0 : σ) (G : List (Int × ByteArray)) (h ep w : Int) (T : TapD) : Prop := Ovr M G R0 T ∨ ∃ pa, Foi em G R0 T ⟨h, ep, anyC w 2, pa, false, ⟨#[]⟩, w.toNat⟩
/-- A word on the tape. -/
theorem doW_in {G : List (Int × ByteArray)} (hG : ∀ g ∈ G, (0 ≤ g.1 ∧ g.1 < 18446744073709551616)) (T : TapD) : 0 ≤ doW' G T ∧ doW' G T < 18446744073709551616 := by
  unfold doW'
  split
  · omega
  · split
    · rename_i g hg; exact hG _ (List.mem_of_getElem? hg)
    · omega
end

set_option maxRecDepth 100000 in
set_option maxHeartbeats 8000000 in
theorem rchain_any {σ : Type} {M : Mach σ} {ι : Nat → ChnD → σ} {I : ChnD → Prop} {em : Emb ChnM M ι I} {R0 : σ} (W : World) {b c : Nat} {ga : Option Addr} {G : List (Int × ByteArray)} {TB : TapD} (h : TapAt W b ga c G TB) (hga : ∀ a, ga = some a → a.block < W.heap.size) (hG : ∀ g ∈ G, (0 ≤ g.1 ∧ g.1 < 18446744073709551616))
    (a p s q v x sh ep hd : Int) (hr : rightC a p s q v = true) (hh : headW a p s q v sh = hd) (hF : Foi em G R0 TB (newC hd ep)) :
    Calls Tryz.prog 28 #[.pointer (some ⟨b, 0, none⟩), cfV a p s q v x, .int .i64 sh, .int .u64 ep] W (ChrE em R0 b ga c G W) := by
  have HGs := Lib.hid hG
  have HGa := Lib.hid hga
  have HLd := Lib.hid (fun (X : World) (T : TapD) (k : Nat) (i : Int) (hX : TapAt X b ga c G T) (hs : W.heap.size ≤ X.heap.size) => (by have := tape_load hX (fun y hy => Nat.lt_of_lt_of_le (hga y hy) hs) k i; exact this :
    Calls Tryz.prog 57 #[.pointer (some ⟨b, 0, none⟩), .int .u64 (k : Int), .int .i64 i] X (TapR b ga c G (onT G T (loadC k i)) (.int .u64 (doW' G T)) X)))
  have HLw := Lib.hid (fun (X : World) (T : TapD) (k : Nat) (hX : TapAt X b ga c G T) (hs : W.heap.size ≤ X.heap.size) => (by have := tape_words hX (fun y hy => Nat.lt_of_lt_of_le (hga y hy) hs) k; exact this :
    Calls Tryz.prog 63 #[.pointer (some ⟨b, 0, none⟩), .int .u64 (k : Int)] X (TapR b ga c G (onT G T (textC k)) (.string (doT' G T)) X)))
  have HAt := Lib.hid (fun (X : World) => (by have := rat_head a p s q v x sh X hr; rw [hh] at this; exact this : Calls Tryz.prog 58 #[cfV a p s q v x, .string ⟨#[104, 101, 97, 100]⟩, .int .i64 sh] X (Tells hd X)))
  have HB := show Below W.heap.size W ((W.alloc (.cells #[.int .i64 a, .int .i64 p, .int .i64 s, .int .i64 q, .int .i64 v, .int .u64 x] 24)).alloc (rvaO false ⟨#[]⟩ 0)) from (below_alloc W _).trans ((below_alloc _ _).mono (by simp))
  have hcf := show ((W.alloc (.cells #[.int .i64 a, .int .i64 p, .int .i64 s, .int .i64 q, .int .i64 v, .int .u64 x] 24)).alloc (rvaO false ⟨#[]⟩ 0)).heap[W.heap.size]? = some (.cells (cfC a p s q v x) 24 (0, 0)) from
    ((below_alloc (W.alloc (.cells #[.int .i64 a, .int .i64 p, .int .i64 s, .int .i64 q, .int .i64 v, .int .u64 x] 24)) (rvaO false ⟨#[]⟩ 0)).block _ (by simp)).trans (World.alloc_heap_new W _)
  have hre := show ((W.alloc (.cells #[.int .i64 a, .int .i64 p, .int .i64 s, .int .i64 q, .int .i64 v, .int .u64 x] 24)).alloc (rvaO false ⟨#[]⟩ 0)).heap[W.heap.size + 1]? = some (rvaO false ⟨#[]⟩ 0) from by
    have := World.alloc_heap_new (W.alloc (.cells #[.int .i64 a, .int .i64 p, .int .i64 s, .int .i64 q, .int .i64 v, .int .u64 x] 24)) (rvaO false ⟨#[]⟩ 0); rwa [World.size_alloc] at this
  have HI := Lib.hid (show ChrI W a p s q v x b ga c G TB _ from ⟨h.below HB, hcf, hre, Step.of_below HB, heap_at_lt h.own⟩)
  have hnl : HeadC em R0 G hd ep (doW' G TB) (onT G TB (loadC 1 hd)) := by
    rcases hF.next (x := loadC 1 hd) rfl hG with ⟨h1, -, -⟩ | ⟨w, t, h1, -, -, -, h4, -⟩
    · exact .inl h1
    · rw [h1]; exact .inr ⟨0, h4⟩
  have hW0 := doW_in hG TB
  have HNl := Lib.hid hnl
  obtain ⟨w0, hw0⟩ : ∃ w, doW' G TB = w := ⟨_, rfl⟩
  obtain ⟨T0, hT0⟩ : ∃ T, onT G TB (loadC 1 hd) = T := ⟨_, rfl⟩
  have HL0 := Lib.hid (fun (X : World) (hX : TapAt X b ga c G TB) hs => (by have := HLd.out X TB 1 hd hX hs; rw [hw0, hT0] at this; exact this :
    Calls Tryz.prog 57 #[.pointer (some ⟨b, 0, none⟩), .int .u64 1, .int .i64 hd] X (TapR b ga c G T0 (.int .u64 w0) X)))
  rw [hw0, hT0] at HNl
  rw [hw0] at hW0
  obtain ⟨c0, c1, c2, c3, c4, c5⟩ := HI.out.six
  clear h hga hG hr hF HB hcf hre hnl hw0 hT0 hh
  go_enter Tryz.func28, Tryz.ntmps28
  go_wp2_with fail
  refine (HAt.out _).mono ?_
  rintro en w1 ⟨rfl, hb⟩
  have HI1 := Lib.hid (HI.out.below hb)
  clear hb c0 c1 c2 c3 c4 c5 HI
  go_wp2_with fail
  refine (HL0.out _ HI1.out.tp HI1.out.st.size).mono ?_
  rintro en w2 ⟨rfl, h2, s2⟩
  have HI2 := Lib.hid (HI1.out.next h2 s2)
  clear h2 s2 HI1 HL0
  go_wp2_with fail
  go_loopw [10, 11] (fun s10 s11 wr => ∃ (k : Nat) (z : Int) (T : TapD), s10 = .int .u64 (k : Int) ∧ s11 = .int .i64 z ∧ Hid (HeadC em R0 G hd ep (k : Int) T) ∧ Hid (ChrI W a p s q v x b ga c G T wr)) (fun _ _ wr => G.length - kAt b wr)
  case atStart => exact ⟨w0.toNat, 0, T0, by rw [Int.toNat_of_nonneg hW0.1], rfl, by rw [Int.toNat_of_nonneg hW0.1]; exact HNl, HI2⟩
  case round => as_aux_lemma =>
    clear HI2 HNl
    obtain ⟨k, z, T, rfl, rfl, HH, HI⟩ := hrel
    have m2 := HI.out.tp.nine.1.2.2.1
    obtain ⟨r0, r1, r2⟩ := rva_at HI.out.re
    have z0 := rva_free HI.out.re 0
    have z1 := rva_free HI.out.re 1
    have z2 := rva_free HI.out.re 2
    rcases HH.out with ho | ⟨pa, hf⟩
    · rw [ho.on] at m2
      have HR := Lib.hid (show ChrR em G R0 T false ⟨#[]⟩ from .inl ho)
      clear ho HH
      by_cases hk : k = 0
      · subst hk
        go_wp2_with fail
        exact chr_fin HI.out HGa.out HR.out rfl rfl
      · have hkb : ((k : Int) != 0) = true := by simp; omega
        clear hk
        go_wp2_with fail
        exact chr_fin HI.out HGa.out HR.out rfl rfl
    · rw [hf.on] at m2
      by_cases hk : k = 0
      · subst hk
        have HR := Lib.hid (show ChrR em G R0 T false ⟨#[]⟩ from .inr ⟨_, hf, rfl, rfl, rfl⟩)
        clear hf HH
        go_wp2_with fail
        exact chr_fin HI.out HGa.out HR.out rfl rfl
      · have hkb : ((k : Int) != 0) = true := by simp; omega
        have hf1 : Foi em G R0 T ⟨hd, ep, 2, pa, false, ⟨#[]⟩, k⟩ := by
          have : anyC (k : Int) 2 = 2 := by rw [anyC_nat', if_neg hk]
          rw [this, Int.toNat_natCast] at hf; exact hf
        have HKa := Lib.hid HI.out.tp.kAt
        have hW1 := doW_in HGs.out T
        have hn1 := hf1.next (x := loadC k 0) rfl HGs.out
        have HLa := Lib.hid (fun (X : World) (hX : TapAt X b ga c G T) hs => HLd.out X T k 0 hX hs)
        obtain ⟨e, he⟩ : ∃ w, doW' G T = w := ⟨_, rfl⟩
        obtain ⟨T1, hT1⟩ : ∃ T', onT G T (loadC k 0) = T' := ⟨_, rfl⟩
        rw [he, hT1] at HLa hn1
        rw [he] at hW1
        have HTk := Lib.hid HI.out.tp.k
        clear hf hf1 HH hk r0 r1 r2 z0 z1 z2 he hT1
        go_wp2_with fail
        refine (HLa.out _ HI.out.tp HI.out.st.size).mono ?_
        rintro en w3 ⟨rfl, h3, s3⟩
        have HI3 := Lib.hid (HI.out.next h3 s3)
        clear h3 s3 HLa m2
        have m2 := HI3.out.tp.nine.1.2.2.1
        obtain ⟨r0, r1, r2⟩ := rva_at HI3.out.re
        have z0 := rva_free HI3.out.re 0
        have z1 := rva_free HI3.out.re 1
        have z2 := rva_free HI3.out.re 2
        rcases hn1 with ⟨ho, -, -⟩ | ⟨e', t', rfl, -, -, -, hf2, hk2⟩
        · rw [ho.on] at m2
          have HR := Lib.hid (show ChrR em G R0 T1 false ⟨#[]⟩ from .inl ho)
          clear ho
          go_wp2_with fail
          exact chr_fin HI3.out HGa.out HR.out rfl rfl
        · rw [hf2.on] at m2
          by_cases hle : e ≤ ep
          · have hf3 : Foi em G R0 T1 ⟨hd, ep, 4, pa, false, ⟨#[]⟩, k⟩ := by
              have : ChnM.take ⟨hd, ep, 2, pa, false, ⟨#[]⟩, k⟩ e t' = ⟨hd, ep, 4, pa, false, ⟨#[]⟩, k⟩ := by
                show (⟨hd, ep, if ep < e then 3 else 4, pa, false, ⟨#[]⟩, k⟩ : ChnD) = _
                rw [if_neg (by omega)]
              rw [this] at hf2; exact hf2
            have hn3 := hf3.next (x := loadC k 2) rfl HGs.out
            have HLa := Lib.hid (fun (X : World) (hX : TapAt X b ga c G T1) hs => HLd.out X T1 k 2 hX hs)
            obtain ⟨w2', hw2⟩ : ∃ w, doW' G T1 = w := ⟨_, rfl⟩
            obtain ⟨T2, hT2⟩ : ∃ T', onT G T1 (loadC k 2) = T' := ⟨_, rfl⟩
            rw [hw2, hT2] at HLa hn3
            clear hf2 hf3 hw2 hT2 r0 r1 r2 z0 z1 z2
            go_wp2_with fail
            refine (HLa.out _ HI3.out.tp HI3.out.st.size).mono ?_
            rintro en w4 ⟨rfl, h4, s4⟩
            have HI4 := Lib.hid (HI3.out.next h4 s4)
            clear h4 s4 HLa m2
            obtain ⟨r0, r1, r2⟩ := rva_at HI4.out.re
            have z0 := rva_free HI4.out.re 0
            have z1 := rva_free HI4.out.re 1
            have z2 := rva_free HI4.out.re 2
            by_cases hw : w2' = 0
            · have HR := Lib.hid (show ChrR em G R0 T2 false ⟨#[]⟩ from by
                rcases hn3 with ⟨ho, -, -⟩ | ⟨w', t'', rfl, -, -, -, hf4, -⟩
                · exact .inl ho
                · subst hw; exact .inr ⟨_, hf4, rfl, rfl, rfl⟩)
              subst hw
              clear hn3
              go_wp2_with fail
              exact chr_fin HI4.out HGa.out HR.out rfl rfl
            · have hwb : (w2' == 0) = false := by simpa using hw
              rcases hn3 with ⟨-, hz, -⟩ | ⟨w', t'', rfl, -, -, -, hf4, -⟩
              · exact absurd hz hw
              have hf5 : Foi em G R0 T2 ⟨hd, ep, 5, pa, true, ⟨#[]⟩, k⟩ := by
                have : ChnM.take ⟨hd, ep, 4, pa, false, ⟨#[]⟩, k⟩ w2' t'' = ⟨hd, ep, 5, pa, true, ⟨#[]⟩, k⟩ := by
                  show (⟨hd, ep, anyC w2' 5, pa, !(w2' == 0), ⟨#[]⟩, k⟩ : ChnD) = _
                  rw [hwb]; unfold anyC; rw [if_neg hw]; rfl
                rw [this] at hf4; exact hf4
              have hn5 := hf5.next (x := textC k) rfl HGs.out
              have HLa := Lib.hid (fun (X : World) (hX : TapAt X b ga c G T2) hs => HLw.out X T2 k hX hs)
              obtain ⟨tx, htx⟩ : ∃ w, doT' G T2 = w := ⟨_, rfl⟩
              obtain ⟨T3, hT3⟩ : ∃ T', onT G T2 (textC k) = T' := ⟨_, rfl⟩
              rw [htx, hT3] at HLa hn5
              have HR := Lib.hid (show ChrR em G R0 T3 true tx from by
                rcases hn5 with ⟨ho, -, -⟩ | ⟨w', t3, -, ht3, -, -, hf6, -⟩
                · exact .inl ho
                · exact .inr ⟨_, hf6, rfl, rfl, ht3.symm⟩)
              clear hf4 hf5 htx hT3 hw hn5 r0 r1 r2 z0 z1 z2
              go_wp2_with fail
              refine (HLa.out _ HI4.out.tp HI4.out.st.size).mono ?_
              rintro en w5 ⟨rfl, h5, s5⟩
              have HI5 := Lib.hid (HI4.out.next h5 s5)
              clear h5 s5 HLa
              obtain ⟨r0, r1, r2⟩ := rva_at HI5.out.re
              have z0 := rva_free HI5.out.re 0
              have z1 := rva_free HI5.out.re 1
              have z2 := rva_free HI5.out.re 2
              go_wp2_with fail
              exact chr_fin HI5.out HGa.out HR.out rfl rfl
          · have hf3 : Foi em G R0 T1 ⟨hd, ep, 3, pa, false, ⟨#[]⟩, k⟩ := by
              have : ChnM.take ⟨hd, ep, 2, pa, false, ⟨#[]⟩, k⟩ e t' = ⟨hd, ep, 3, pa, false, ⟨#[]⟩, k⟩ := by
                show (⟨hd, ep, if ep < e then 3 else 4, pa, false, ⟨#[]⟩, k⟩ : ChnD) = _
                rw [if_pos (by omega)]
              rw [this] at hf2; exact hf2
            have hn3 := hf3.next (x := loadC k 1) rfl HGs.out
            have hW3 := doW_in HGs.out T1
            have HLa := Lib.hid (fun (X : World) (hX : TapAt X b ga c G T1) hs => HLd.out X T1 k 1 hX hs)
            obtain ⟨w3', hw3⟩ : ∃ w, doW' G T1 = w := ⟨_, rfl⟩
            rw [hw3] at hW3
            obtain ⟨k3, hk3⟩ : ∃ k3 : Nat, w3' = (k3 : Int) := ⟨w3'.toNat, by omega⟩
            subst hk3
            obtain ⟨T2, hT2⟩ : ∃ T', onT G T1 (loadC k 1) = T' := ⟨_, rfl⟩
            rw [hw3, hT2] at HLa hn3
            have hlt1 : T.k < T1.k ∧ T.k < G.length := by have := hf3.k; omega
            have HNx := Lib.hid (show HeadC em R0 G hd ep (k3 : Int) T2 ∧ T1.k ≤ T2.k from by
              rcases hn3 with ⟨ho, -, -⟩ | ⟨w', t'', rfl, -, -, -, hf4, hk4⟩
              · exact ⟨.inl ho, by rw [ho.k]; exact hf3.k⟩
              · exact ⟨.inr ⟨wrap64 (pa + 1), hf4⟩, by omega⟩)
            have HLt := Lib.hid hlt1
            clear hf2 hf3 hw3 hT2 hn3 r0 r1 r2 z0 z1 z2 hk2 hlt1 hW3
            go_wp2_with fail
            refine (HLa.out _ HI3.out.tp HI3.out.st.size).mono ?_
            rintro en w4 ⟨rfl, h4, s4⟩
            have HI4 := Lib.hid (HI3.out.next h4 s4)
            clear h4 s4 HLa m2
            have m2 := HI4.out.tp.nine.1.2.2.1
            cases hov : T2.over with
            | true =>
              rw [hov] at m2
              go_wp2_with fail
              go_roundw
              case rel => exact ⟨k3, z, T2, rfl, rfl, Lib.hid HNx.out.1, HI4⟩
              case measure => rw [HI4.out.tp.kAt, HKa.out]; have h1 := HLt.out; have h2 := HNx.out.2; omega
            | false =>
              rw [hov] at m2
              go_wp2_with fail
              go_roundw
              case rel => exact ⟨k3, _, T2, rfl, rfl, Lib.hid HNx.out.1, HI4⟩
              case measure => rw [HI4.out.tp.kAt, HKa.out]; have h1 := HLt.out; have h2 := HNx.out.2; omega

end Go.Proofs.YtpnfbabiibopnaaGreat
