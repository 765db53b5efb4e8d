/-
  The reference's Read on a tape: the walk.
-/
import Derived.Test.YtpnfbabiibopnaaGreatRdrefm
namespace Go.Proofs.YtpnfbabiibopnaaGreat
open Go Go.RowKit
attribute [local go_sem ↓] Go.wp_at_zero Go.wp_at_succ

set_option maxRecDepth 100000 in
set_option maxHeartbeats 8000000 in
theorem rread_any (W : World) {b c : Nat} {ga : Option Addr} {G : List (Int × ByteArray)} (h : TapAt W b ga c G tape0) (hga : ∀ a, ga = some a → a.block < W.heap.size) (hG : ∀ g ∈ G, (0 ≤ g.1 ∧ g.1 < 18446744073709551616)) (hGl : G.length ≤ 1000)
    (a p s q v x th : Int) (key : ByteArray) (hr : rightC a p s q v = true) (hth : 0 ≤ th) (hk : key.size ≤ 281474976710656) :
    Calls Tryz.prog 10 #[.pointer (some ⟨b, 0, none⟩), cfV a p s q v x, .int .i64 th, .string key] W (RdrE (newR a p s q v x th key) b ga c G W) := by
  obtain ⟨R0, hR0⟩ : ∃ R, newR a p s q v x th key = R := ⟨_, rfl⟩
  obtain ⟨d, hd⟩ : ∃ d, newF a p s q v x key = d := ⟨_, rfl⟩
  rw [hR0]
  have hbd := rightC_bd hr
  have hF0 : Foi (emb_pin R0) G R0 tape0 (newP a p s q v x th) := by
    refine ⟨?_, trivial⟩
    have e : inP R0 tape0.k (newP a p s q v x th) = R0 := by
      rw [← hR0]; unfold inP
      rw [if_neg (by show (1 : Nat) ≠ 5; decide)]
      show (⟨a, p, s, q, v, x, 1, newP a p s q v x th, _, newC 0 0, 0, false, ⟨#[]⟩, wrap64 ((0 : Nat) : Int)⟩ : RdD) = _
      rw [show wrap64 ((0 : Nat) : Int) = 0 from IntWalk.wrap64_in _ (by omega)]; rfl
    rw [e]; exact Fol.start RdM G R0
  have HGa := Lib.hid hga
  have HGs := Lib.hid hG
  have HPn := Lib.hid (fun (X : World) (hX : TapAt X b ga c G tape0) (hs : W.heap.size ≤ X.heap.size) => rpin_any X hX (fun y hy => Nat.lt_of_lt_of_le (hga y hy) hs) hG a p s q v x th hr hth hF0)
  have HFn := Lib.hid (fun (X : World) (T : TapD) (hX : TapAt X b ga c G T) (hs : W.heap.size ≤ X.heap.size) => (by have := rfind_any X hX (fun y hy => Nat.lt_of_lt_of_le (hga y hy) hs) hG a p s q v x key hr hk rfl; rw [hd] at this; exact this :
    Calls Tryz.prog 27 #[.pointer (some ⟨b, 0, none⟩), cfV a p s q v x, .string key] X (TapR b ga c G (refF G d s.toNat 0 T).2 (fouV (refF G d s.toNat 0 T).1.1 (refF G d s.toNat 0 T).1.2) X)))
  have HFr := Lib.hid (fun (X : World) (T : TapD) (pn : Int) (hX : TapAt X b ga c G T) (hs : W.heap.size ≤ X.heap.size) => rfree_any hX (fun y hy => Nat.lt_of_lt_of_le (hga y hy) hs) a p s q v x pn hr)
  have HCh := Lib.hid (fun (X : World) (T : TapD) (R2 : RdD) (sh ep : Int) (hX : TapAt X b ga c G T) (hs : W.heap.size ≤ X.heap.size) (hF : Foi (emb_chain R2) G R0 T (newC (headW a p s q v sh) ep)) => rchain_any X hX (fun y hy => Nat.lt_of_lt_of_le (hga y hy) hs) hG a p s q v x sh ep _ hr rfl hF)
  -- what comes behind pinning
  have HMid := Lib.hid (read_mid hG hGl hr hR0 hd)
  have HMany := Lib.hid (fun T n ep h => read_many (a := a) (p := p) (s := s) (q := q) (v := v) (x := x) (th := th) (G := G) (R0 := R0) T n ep h)
  have HI := Lib.hid (((show TapK W b ga c G tape0 [] W from ⟨h, Step.refl _ _, fun u hu => (by cases hu), heap_at_lt h.own⟩).add (cfgO a p s q v x)).add (toldO 0 false ⟨#[]⟩ 0))
  rw [World.size_alloc] at HI
  obtain ⟨B0, hB0⟩ : ∃ B, W.heap.size = B := ⟨_, rfl⟩
  rw [hB0] at HI
  obtain ⟨c0, c1, c2, c3, c4, c5⟩ := cfg_at (HI.out.kept (List.mem_cons_of_mem _ (List.mem_cons_self ..)))
  clear h hga hG hGl hr hth hk hF0 hR0 hd hbd
  go_enter Tryz.func10, Tryz.ntmps10
  go_wp2_with fail
  rw [hB0] at *
  clear hB0
  generalize (W.alloc (cfgO a p s q v x)).alloc (toldO 0 false ⟨#[]⟩ 0) = X0 at HI c0 c1 c2 c3 c4 c5 ⊢
  refine (HPn.out _ HI.out.tp (by have := HI.out.st.size; exact this)).mono ?_
  rintro en w1 ⟨T1, n, ep, tk, rfl, h1, s1, hP⟩
  have HI1 := Lib.hid (HI.out.next h1 s1)
  clear h1 s1 c0 c1 c2 c3 c4 c5 HI HPn
  have HGg := Lib.hid (show B0 + 1 < w1.heap.size from heap_at_lt (HI1.out.kept (List.mem_cons_self ..)))
  have HI2 := Lib.hid (HI1.out.add (rpnO n ep tk))
  clear HI1
  obtain ⟨p0, p1, p2⟩ := pnd_at (HI2.out.kept (List.mem_cons_self ..))
  obtain ⟨z0, z1, z2, z3, z4, z5, z6, z7, z8, z9⟩ := told_frees (HI2.out.kept (List.mem_cons_of_mem _ (List.mem_cons_self ..)))
  obtain ⟨⟨t0, t1, t2, t3, t4⟩, t5, t6, t7, t8, t9⟩ := told_at (HI2.out.kept (List.mem_cons_of_mem _ (List.mem_cons_self ..)))
  cases tk with
  | true =>
    have HR := Lib.hid (HMany.out _ _ _ hP)
    have HI3 := Lib.hid (HI2.out.few (ks' := [(B0 + 1, toldO 0 false ⟨#[]⟩ 0)]) (fun u hu => by simp only [List.mem_singleton] at hu; subst hu; simp))
    clear hP HMid HMany HI2
    go_wp2_with fail
    generalize w1.alloc (rpnO n ep true) = w2 at HI3 ⊢
    exact rdr_fin HI3.out HGa.out HR.out rfl
  | false =>
    obtain ⟨kk, sh, T2, hrf, hcs⟩ := HMid.out _ _ _ hP
    have HCs := Lib.hid hcs
    obtain ⟨mk, hmk⟩ : ∃ m : Int, (T1.k : Int) = m := ⟨_, rfl⟩
    rw [hmk] at HCs
    have HFn1 := Lib.hid (fun (X : World) (hX : TapAt X b ga c G T1) (hs : W.heap.size ≤ X.heap.size) => (by have := HFn.out X T1 hX hs; rw [hrf] at this; exact this :
      Calls Tryz.prog 27 #[.pointer (some ⟨b, 0, none⟩), cfV a p s q v x, .string key] X (TapR b ga c G T2 (fouV kk sh) X)))
    have m1 := HI2.out.tp.nine.1.2.1
    rw [hmk] at m1
    obtain ⟨g, hg⟩ : ∃ g, w1.heap.size = g := ⟨_, rfl⟩
    rw [hg] at HI2 HGg p0 p1 p2
    have HI3 := Lib.hid (HI2.out.add (repO false ⟨#[]⟩))
    have HGr := Lib.hid (show g < (w1.alloc (rpnO n ep false)).heap.size from heap_at_lt (HI2.out.kept (List.mem_cons_self ..)))
    rw [World.size_alloc, hg] at HI3 HGr
    obtain ⟨c0, c1, c2, c3, c4, c5⟩ := cfg_at (HI3.out.kept (List.mem_cons_of_mem _ (List.mem_cons_of_mem _ (List.mem_cons_of_mem _ (List.mem_cons_self ..)))))
    clear hP hcs hrf HMid HMany HI2 hmk z0 z1 z2 z3 z4 z5 z6 z7 z8 z9 t0 t1 t2 t3 t4 t5 t6 t7 t8 t9 HFn p0 p1 p2
    go_wp2_with fail
    rw [hg] at *
    clear hg
    generalize (w1.alloc (rpnO n ep false)).alloc (repO false ⟨#[]⟩) = w3 at HI3 c0 c1 c2 c3 c4 c5 ⊢
    refine (HFn1.out _ HI3.out.tp HI3.out.st.size).mono ?_
    rintro en w4 ⟨rfl, h4, s4⟩
    have HI4 := Lib.hid (HI3.out.next h4 s4)
    clear h4 s4 HI3 HFn1 c0 c1 c2 c3 c4 c5 m1
    have HI5 := Lib.hid (HI4.out.add (rfoO kk sh))
    have HGf := Lib.hid (show g + 1 < w4.heap.size from heap_at_lt (HI4.out.kept (List.mem_cons_self ..)))
    clear HI4
    obtain ⟨f0, f1⟩ := two_at (HI5.out.kept (List.mem_cons_self ..))
    obtain ⟨c0, c1, c2, c3, c4, c5⟩ := cfg_at (HI5.out.kept (List.mem_cons_of_mem _ (List.mem_cons_of_mem _ (List.mem_cons_of_mem _ (List.mem_cons_of_mem _ (List.mem_cons_self ..))))))
    obtain ⟨p0, p1, p2⟩ := pnd_at (HI5.out.kept (List.mem_cons_of_mem _ (List.mem_cons_of_mem _ (List.mem_cons_self ..))))
    obtain ⟨gf, hgf⟩ : ∃ g, w4.heap.size = g := ⟨_, rfl⟩
    rw [hgf] at HI5 HGf f0 f1
    rcases HCs.out with ⟨hk1, hfr⟩ | ⟨rfl, R2, hch, hfr⟩
    · have hkb : (kk == 1) = false := by simpa using hk1
      have HFe := Lib.hid hfr
      clear hk1 hfr HCs
      go_wp2_with fail
      rw [hgf] at *
      generalize w4.alloc (rfoO kk sh) = w5 at HI5 c0 c1 c2 c3 c4 c5 p0 p1 p2 f0 f1 ⊢
      refine (HFr.out _ _ n HI5.out.tp HI5.out.st.size).mono ?_
      rintro en w8 ⟨rfl, h8, s8⟩
      have HI8 := Lib.hid (HI5.out.next h8 s8)
      have HR := Lib.hid (HFe.out.free HGs.out)
      clear h8 s8 HI5 HFe c0 c1 c2 c3 c4 c5 p0 p1 p2
      obtain ⟨⟨e0, e1, e2, e3, e4⟩, e5, e6, e7⟩ := rep_at (HI8.out.kept (List.mem_cons_of_mem _ (List.mem_cons_self ..)))
      obtain ⟨z0, z1, z2, z3, z4, z5, z6, z7, z8, z9⟩ := told_frees (HI8.out.kept (List.mem_cons_of_mem _ (List.mem_cons_of_mem _ (List.mem_cons_of_mem _ (List.mem_cons_self ..)))))
      obtain ⟨⟨t0, t1, t2, t3, t4⟩, t5, t6, t7, t8, t9⟩ := told_at (HI8.out.kept (List.mem_cons_of_mem _ (List.mem_cons_of_mem _ (List.mem_cons_of_mem _ (List.mem_cons_self ..)))))
      have HI9 := Lib.hid (HI8.out.few (ks' := [(B0 + 1, toldO 0 false ⟨#[]⟩ 0)]) (fun u hu => by simp only [List.mem_singleton] at hu; subst hu; simp))
      clear HI8
      go_wp2_with fail
      exact rdr_fin HI9.out HGa.out HR.out rfl
    · have HCe := Lib.hid (fun (X : World) (hX : TapAt X b ga c G T2) (hs : W.heap.size ≤ X.heap.size) => HCh.out X T2 R2 sh ep hX hs hch)
      have HFf := Lib.hid hfr
      clear hch hfr HCs
      go_wp2_with fail
      rw [hgf] at *
      generalize w4.alloc (rfoO 1 sh) = w5 at HI5 c0 c1 c2 c3 c4 c5 p0 p1 p2 f0 f1 ⊢
      refine (HCe.out _ HI5.out.tp HI5.out.st.size).mono ?_
      rintro en w6 ⟨T3, hs, tx, bl, nn, rfl, h6, s6, hcr⟩
      have HFe := Lib.hid (HFf.out _ _ _ hcr)
      have HI6 := Lib.hid ((HI5.out.next h6 s6).add (rvaO hs tx bl))
      have HGv := Lib.hid (show gf < w6.heap.size from heap_at_lt ((HI5.out.next h6 s6).kept (List.mem_cons_self ..)))
      clear h6 s6 hcr HI5 HCe HFf c0 c1 c2 c3 c4 c5 p0 p1 p2 f0 f1
      obtain ⟨v0, v1, v2⟩ := rva_at (HI6.out.kept (List.mem_cons_self ..))
      obtain ⟨gv, hgv⟩ : ∃ g, w6.heap.size = g := ⟨_, rfl⟩
      rw [hgv] at HI6 HGv v0 v1 v2
      obtain ⟨⟨e0, e1, e2, e3, e4⟩, e5, e6, e7⟩ := rep_at (HI6.out.kept (List.mem_cons_of_mem _ (List.mem_cons_of_mem _ (List.mem_cons_self ..))))
      have zz := rep_free (HI6.out.kept (List.mem_cons_of_mem _ (List.mem_cons_of_mem _ (List.mem_cons_self ..))))
      have z0 := zz 0
      have z1 := zz 1
      have z2 := zz 2
      have z3 := zz 3
      have z4 := zz 4
      have z5 := zz 5
      have z6 := zz 6
      have z7 := zz 7
      have HI7 := Lib.hid (HI6.out.few (ks' := [(g + 1, repO false ⟨#[]⟩), (g, rpnO n ep false), (B0 + 1, toldO 0 false ⟨#[]⟩ 0), (B0, cfgO a p s q v x)]) (fun u hu => by simp only [List.mem_cons, List.not_mem_nil, or_false] at hu; rcases hu with rfl | rfl | rfl | rfl <;> simp))
      have HI8 := Lib.hid (show TapK W b ga c G T3 [(g + 1, repO hs tx), (g, rpnO n ep false), (B0 + 1, toldO 0 false ⟨#[]⟩ 0), (B0, cfgO a p s q v x)] _ from by
        have hks : ∀ u ∈ [(g, rpnO n ep false), (B0 + 1, toldO 0 false ⟨#[]⟩ 0), (B0, cfgO a p s q v x)], u.1 ≠ g + 1 := fun u hu => by
          have := HGg.out
          simp only [List.mem_cons, List.not_mem_nil, or_false] at hu
          rcases hu with rfl | rfl | rfl <;> simp <;> omega
        have hq := rep_put (HI7.out.kept (List.mem_cons_self ..)) hs tx
        exact HI7.out.turn HGa.out hks hq.1 hq.2)
      clear zz HI6 HI7
      obtain ⟨c0, c1, c2, c3, c4, c5⟩ := cfg_at (HI8.out.kept (List.mem_cons_of_mem _ (List.mem_cons_of_mem _ (List.mem_cons_of_mem _ (List.mem_cons_self ..)))))
      obtain ⟨p0, p1, p2⟩ := pnd_at (HI8.out.kept (List.mem_cons_of_mem _ (List.mem_cons_self ..)))
      go_wp2_with fail
      (try rw [hgv] at *)
      refine (HFr.out _ _ n HI8.out.tp HI8.out.st.size).mono ?_
      rintro en w8 ⟨rfl, h8, s8⟩
      have HI9 := Lib.hid (HI8.out.next h8 s8)
      have HR := Lib.hid (HFe.out.free HGs.out)
      clear h8 s8 HI8 HFe c0 c1 c2 c3 c4 c5 p0 p1 p2 z0 z1 z2 z3 z4 z5 z6 z7 e0 e1 e2 e3 e4 e5 e6 e7 v0 v1 v2
      obtain ⟨⟨e0, e1, e2, e3, e4⟩, e5, e6, e7⟩ := rep_at (HI9.out.kept (List.mem_cons_self ..))
      obtain ⟨z0, z1, z2, z3, z4, z5, z6, z7, z8, z9⟩ := told_frees (HI9.out.kept (List.mem_cons_of_mem _ (List.mem_cons_of_mem _ (List.mem_cons_self ..))))
      obtain ⟨⟨t0, t1, t2, t3, t4⟩, t5, t6, t7, t8, t9⟩ := told_at (HI9.out.kept (List.mem_cons_of_mem _ (List.mem_cons_of_mem _ (List.mem_cons_self ..))))
      have HIA := Lib.hid (HI9.out.few (ks' := [(B0 + 1, toldO 0 false ⟨#[]⟩ 0)]) (fun u hu => by simp only [List.mem_singleton] at hu; subst hu; simp))
      clear HI9
      go_wp2_with fail
      exact rdr_fin HIA.out HGa.out HR.out rfl

end Go.Proofs.YtpnfbabiibopnaaGreat
