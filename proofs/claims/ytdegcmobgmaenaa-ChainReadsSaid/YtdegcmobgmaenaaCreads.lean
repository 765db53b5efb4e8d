/-
  What is read of a chain: the walk.
-/
import Derived.Test.YtdegcmobgmaenaaCrow
import Derived.Test.YtdegcmobgmaenaaDrawn2
import Derived.Deep.RegionHeld3
import Derived.StillTailTactics
import Derived.Deep.DeepCutAuto
import Derived.Deep.CutBlock
import Derived.Laws.OwnMore
namespace Go.Proofs.Ytdegcmobgmaenaa
open Go Go.RowKit
attribute [local go_sem ↓] Go.wp_at_zero Go.wp_at_succ

theorem neqV_run (h h' : Bool) (t t' : ByteArray) (b b' : Int) (w : World) : (binOp .neq 36 (valV h t b) (valV h' t' b')).run Try.prog w = .ok (.bool (!(h == h' && (t.toList == t'.toList && b == b')))) w := by
  have u4 := Try.underlying4
  have u9 := Try.underlying9
  have u32 := Try.underlying22
  have hS : Try.prog.underlying 36 = some (.struct (Try.prog.fieldsOf 36)) := by kernel_rfl
  have hp : Try.prog.stoodInHeld 36 = false := by kernel_rfl
  rw [run_neq_struct, show (10000 : Nat) = 9999 + 1 from rfl, run_equalIn_agg w 9999 36 _ _ hS hp]
  simp only [Program.fieldsOf, Try.underlying36]
  have a4 := Try.isAgg4
  have z4 := Try.sizeOf4
  have a9 := Try.isAgg9
  have z9 := Try.sizeOf9
  have a32 := Try.isAgg22
  have z32 := Try.sizeOf22
  go_simp
  by_cases h1 : h = h' <;> by_cases h2 : t.toList = t'.toList <;> by_cases h3 : b = b' <;> simp [h1, h2, h3]
theorem neqV_same (h : Bool) (t : ByteArray) (b : Int) (w : World) : (binOp .neq 36 (valV h t b) (valV h t b)).run Try.prog w = .ok (.bool false) w := by
  rw [neqV_run]; simp

attribute [local go_sem ↓] neqV_same

/-- Between two rounds of the first loop. -/
def PutI (W : World) (a p s q v x k z : Int) (B hp : Nat) (U : Nat → Nat) (C : Nat → ChgD) (g1 c1 g2 c2 n : Nat) (X : World) : Prop :=
  ∃ D, RdI W a p s q v x B hp D (fun j => epE U (j + 1)) (fun j => 2 + j) g1 n c1 g2 n c2 X ∧ Shl k z D (verC U C) n

set_option maxRecDepth 100000 in
set_option maxHeartbeats 8000000 in
theorem creads_walk (a p s q v x : Int) (ga : Option Addr) (n c : Nat) (L : List Nat) (gb : Option Addr) (m c' : Nat) (M : List ChgD) (W : World)
    (hS : Su W ga L) (hl : L.length = n) (hL : ∀ u ∈ L, u ≤ 255) (hC : Sch W gb M) (hm : M.length = m) :
    Calls Try.prog 3 #[cfV a p s q v x, .slice ga n c, .slice gb m c'] W (Says true W) := by
  have X0 := Lib.hid (BoxC.start W a p s q v x)
  obtain ⟨c0, c1, c2, c3, c4, c5⟩ := X0.out.six
  have HRr := Lib.hid (fun X : World => cright_any a p s q v x X)
  by_cases hbad : rightC a p s q v = false ∨ 30 < n
  · clear hS hl hL hC hm
    go_enter Try.func3, Try.ntmps3
    go_wp2_with fail
    refine (HRr.out _).mono ?_
    rintro en w1 ⟨rfl, hb⟩
    have B1 := Lib.hid (X0.out.lo.trans (hb.mono X0.out.lo.size))
    clear hb c0 c1 c2 c3 c4 c5 X0
    cases hr : rightC a p s q v with
    | false =>
      clear hbad
      go_wp2_with fail
      refine (cawake_any _).mono ?_
      rintro en w2 ⟨rfl, hb⟩
      have B2 := Lib.hid (B1.out.trans (hb.mono B1.out.size))
      clear hb
      go_wp2_with fail
      go_ret
      exact Says.mk rfl B2.out
    | true =>
      have hz : (30 : Int) < (n : Int) := by
        rcases hbad with e | e
        · rw [hr] at e; cases e
        · omega
      clear hbad
      go_wp2_with fail
      refine (cawake_any _).mono ?_
      rintro en w2 ⟨rfl, hb⟩
      have B2 := Lib.hid (B1.out.trans (hb.mono B1.out.size))
      clear hb
      go_wp2_with fail
      go_ret
      exact Says.mk rfl B2.out
  have hr : rightC a p s q v = true := by
    cases h : rightC a p s q v with
    | true => rfl
    | false => exact absurd (.inl h) hbad
  have hz : ¬ (30 : Int) < (n : Int) := fun h => hbad (.inr (by omega))
  have hn30 : (n : Int) ≤ 30 := by omega
  rw [hr] at HRr
  have HFl := Lib.hid (fun X : World => field_any X a p s q v x hr)
  obtain ⟨ha, hp, hs⟩ := rightC_bd hr
  have hkey : keyW a p s q v 0 = 3 + p + a + 2 * 0 := if_pos ⟨hr, by omega, by omega⟩
  have hsz : sizeW a p s q v = 3 + p + a + 2 * s := if_pos hr
  obtain ⟨k, hk⟩ : ∃ k, headW a p s q v 0 = k := ⟨_, rfl⟩
  have hkk : k = 3 + p + a + 1 := by
    rw [← hk]
    have : headW a p s q v 0 = 3 + p + a + 2 * 0 + 1 := if_pos ⟨hr, by omega, by omega⟩
    omega
  have HK := Lib.hid (And.intro hk (show 0 ≤ k ∧ k ≤ 100000 ∧ k < sizeW a p s q v from by rw [hsz]; omega))
  -- what is given
  obtain ⟨U, hU⟩ : ∃ U : Nat → Nat, ∀ j (h : j < L.length), U j = L[j] ∧ U j ≤ 255 := ⟨fun j => L.getD j 0, fun j h => ⟨by simp [List.getD_eq_getElem?_getD, List.getElem?_eq_getElem h], by simp [List.getD_eq_getElem?_getD, List.getElem?_eq_getElem h]; exact hL _ (List.getElem_mem h)⟩⟩
  obtain ⟨C, hCj⟩ : ∃ C : Nat → ChgD, ∀ j (h : j < M.length), C j = M[j] := ⟨fun j => M.getD j ⟨⟨#[]⟩, false, ⟨#[]⟩⟩, fun j h => by simp [List.getD_eq_getElem?_getD, List.getElem?_eq_getElem h]⟩
  have HU := Lib.hid (fun (X : World) (hX : Below W.heap.size W X) (j : Nat) (hj : j < n) => (by
    obtain ⟨b, o, e, hc⟩ := (hS.grow hX) j (by omega)
    exact ⟨b, o, e, by rw [(hU j (by omega)).1]; exact hc, (hU j (by omega)).2⟩ : ∃ b o, ga = some ⟨b, o, none⟩ ∧ X.cell? ⟨b, o + j, none⟩ = some (.int .u8 ((U j : Nat) : Int)) ∧ U j ≤ 255))
  have HCh := Lib.hid (fun (X : World) (hX : Below W.heap.size W X) (j : Nat) (hj : j < m) => (by
    obtain ⟨b, o, e, h1, h2, h3⟩ := (hC.grow hX) j (by omega)
    exact ⟨b, o, e, by rw [hCj j (by omega)]; exact ⟨h1, h2, h3⟩⟩ : ∃ b o, gb = some ⟨b, o, none⟩ ∧ X.cell? ⟨b, o + j * 3, none⟩ = some (.string (C j).key) ∧ X.cell? ⟨b, o + j * 3 + 1, none⟩ = some (.bool (C j).has) ∧ X.cell? ⟨b, o + j * 3 + 2, none⟩ = some (.string (C j).val)))
  have HRs := Lib.hid hr
  clear hS hl hL hC hm hU hCj hr hbad ha hp hs hkey hsz hk hkk
  go_enter Try.func3, Try.ntmps3
  go_wp2_with fail
  refine (HRr.out _).mono ?_
  rintro en w1 ⟨rfl, hb⟩
  have X1 := Lib.hid (X0.out.below hb)
  clear hb c0 c1 c2 c3 c4 c5 X0
  obtain ⟨c0, c1, c2, c3, c4, c5⟩ := X1.out.six
  go_wp2_with fail
  refine (HFl.out _).mono ?_
  rintro en w2 ⟨B, hp, f2, rfl, hB, h2, hb⟩
  have HR2 := Lib.hid (rnd_begin (X1.out.below hb) h2 (Nat.lt_of_lt_of_le (heap_at_lt X1.out.b) hB))
  clear hb h2 hB c0 c1 c2 c3 c4 c5 X1 HRr HFl
  have HI := Lib.hid (show PutI W a p s q v x k (sizeW a p s q v) B hp U C w2.heap.size 0 (w2.heap.size + 1) 0 0 ((w2.alloc (.cells #[] 22 (0, 0))).alloc (.cells #[] 22 (0, 0))) from
    ⟨_, RdI.start HR2.out _ _, Shl.start _ HK.out.2.1 HK.out.2.2.2⟩)
  go_upto_block 0 with fail
  generalize w2.heap.size = g0 at HI ⊢
  generalize (w2.alloc (.cells #[] 22 (0, 0))).alloc (.cells #[] 22 (0, 0)) = w3 at HI ⊢
  clear HR2
  go_cut [8, 9, 10, 11] (fun s8 s9 s10 s11 wx => ∃ (j g1 c1 g2 c2 : Nat), s8 = wslice g1 j c1 ∧ s9 = wslice g2 j c2 ∧ s10 = .int .u64 ((epE U j : Nat) : Int) ∧ s11 = .int .i64 (j : Int) ∧ j ≤ n ∧ j ≤ m ∧ Hid (PutI W a p s q v x k (sizeW a p s q v) B hp U C g1 c1 g2 c2 j wx))
  case first => as_aux_lemma =>
    go_wp2_with fail
    go_loopw [8, 9, 10, 11] (fun s8 s9 s10 s11 wr => ∃ (j g1 c1 g2 c2 : Nat), s8 = wslice g1 j c1 ∧ s9 = wslice g2 j c2 ∧ s10 = .int .u64 ((epE U j : Nat) : Int) ∧ s11 = .int .i64 (j : Int) ∧ j ≤ n ∧ j ≤ m ∧ Hid (PutI W a p s q v x k (sizeW a p s q v) B hp U C g1 c1 g2 c2 j wr)) (fun _ _ _ s11 _ => n - (intOf s11).toNat)
    case atStart => exact ⟨0, g0, 0, g0 + 1, 0, rfl, rfl, rfl, rfl, Nat.zero_le _, Nat.zero_le _, HI⟩
    case round =>
      clear HI
      obtain ⟨j, g1, c1, g2, c2, rfl, rfl, rfl, rfl, hjn, hjm, HP⟩ := hrel
      have hj0 : (0 : Int) ≤ (j : Int) := by omega
      by_cases hlt : j < n
      · have hltz : (j : Int) < (n : Int) := by omega
        by_cases hlm : j < m
        · have hlmz : (j : Int) < (m : Int) := by omega
          obtain ⟨D, hR, hSh⟩ := HP.out
          obtain ⟨ub, uo, hga, hcu, hu255⟩ := HU.out wr hR.lo j hlt
          obtain ⟨cb, co, hgb, hck, hch, hcv⟩ := HCh.out wr hR.lo j hlm
          have HCu := Lib.hid (fun (X : World) (hX : Below W.heap.size W X) => (by
            obtain ⟨b', o', e, hc, _⟩ := HU.out X hX j hlt
            rw [hga] at e
            cases e
            exact hc : X.cell? ⟨ub, uo + j, none⟩ = some (.int .u8 ((U j : Nat) : Int))))
          have HCc := Lib.hid (fun (X : World) (hX : Below W.heap.size W X) => (by
            obtain ⟨b', o', e, hc⟩ := HCh.out X hX j hlm
            rw [hgb] at e
            cases e
            exact hc : X.cell? ⟨cb, co + j * 3, none⟩ = some (.string (C j).key) ∧ X.cell? ⟨cb, co + j * 3 + 1, none⟩ = some (.bool (C j).has) ∧ X.cell? ⟨cb, co + j * 3 + 2, none⟩ = some (.string (C j).val)))
          have HR := Lib.hid hR
          have HSh := Lib.hid hSh
          subst hga hgb
          clear hR hSh HP
          have HVj := Lib.hid (show verC U C j = ⟨((epE U (j + 1) : Nat) : Int), (C j).has, putT (C j).has (C j).val, 2 + j⟩ from rfl)
          have HEj := Lib.hid (show epE U (j + 1) = epE U j + U j % 5 + 1 from rfl)
          have heb := epE_le U j
          obtain ⟨e, he⟩ : ∃ e, epE U j = e := ⟨_, rfl⟩
          obtain ⟨u, hu⟩ : ∃ u, U j = u := ⟨_, rfl⟩
          obtain ⟨⟨key, has, val⟩, hcj⟩ : ∃ ch, C j = ch := ⟨_, rfl⟩
          rw [he] at HEj heb ⊢
          rw [hu] at HEj hcu hu255 HCu
          rw [hcj] at HCc hck hch hcv HVj
          simp only at hck hch hcv
          clear he hu hcj
          have he150 : (e : Int) ≤ 150 := by omega
          have he0 : (0 : Int) ≤ (e : Int) := by omega
          have hu0 : (0 : Int) ≤ (u : Int) := by omega
          have huz : (u : Int) ≤ 255 := by omega
          by_cases htl : 200 < val.size
          · have htz : (200 : Int) < (val.size : Int) := by omega
            clear htl
            go_wp2_with fail
            refine (cawake_any _).mono ?_
            rintro en w4 ⟨rfl, hb⟩
            have B2 := Lib.hid (HR.out.lo.trans (hb.mono HR.out.lo.size))
            clear hb
            go_wp2_with fail
            go_ret
            exact Says.mk rfl B2.out
          · have htz : ¬ (200 : Int) < (val.size : Int) := by omega
            have hv200 : val.size ≤ 200 := by omega
            obtain ⟨i0, gi, gz0, gz1, gz2⟩ := info_parts info_u64
            have hE1 : j + 1 ≤ maxLen := by unfold maxLen; omega
            have hE2 : (j + 1) * 8 ≤ 140737488355328 := by omega
            obtain ⟨e', he'⟩ : ∃ e', epE U (j + 1) = e' := ⟨_, rfl⟩
            obtain ⟨b2, hb2⟩ : ∃ b2, 2 + j = b2 := ⟨_, rfl⟩
            have HE2 := Lib.hid he'
            have HB2 := Lib.hid hb2
            have heq : (e : Int) + (u : Int) % 5 + 1 = (e' : Int) := by have := HEj.out; omega
            have he2 : (0 : Int) ≤ (e' : Int) ∧ (e' : Int) < 18446744073709551616 := by omega
            have HPu := Lib.hid (fun (X : World) (o1 o2 : Obj) {g1' : Nat} (hX : Rnd W a p s q v x B hp D [(g1', o1), (g2, o2)] X) => (by
              have h := rnd_push hX HSh.out (by omega) HK.out.1 he2 key has (val := val) (by omega)
              rw [show D.L.length + 1 = b2 from by have := HSh.out.len; omega] at h
              exact h : Calls Try.prog 7 #[.pointer (some ⟨hp, 0, none⟩), cfV a p s q v x, .int .i64 0, .int .u64 (e' : Int), .agg #[.string key, .bool has, .string val]] X
                (fun e Y => e = .returned (.int .u64 ((b2 : Nat) : Int)) ∧ Rnd W a p s q v x B hp (pushD D k e' has (putT has val)) [(g1', o1), (g2, o2)] Y)))
            have HSh2 := Lib.hid (by
              have h := HSh.out.push (by show 2 + j = _; have := HSh.out.len; omega) (by rw [HVj.out, he']; exact he2) (by rw [HVj.out]; show (putT has val).size ≤ _; unfold putT; split; omega; exact Nat.zero_le _) (by omega)
              rw [HVj.out, he'] at h
              exact h : Shl k (sizeW a p s q v) (pushD D k e' has (putT has val)) (verC U C) (j + 1))
            clear htl he' hb2 HVj HEj
            have A2 := Lib.hid (HR.out.below (below_alloc wr (.cells #[.int .u64 (e' : Int)] 22)))
            clear HR
            go_upto_region 14 with (at_builtin; refine wpList_append_lot _ rfl _ _ 31 rfl 22 i0 _ 1 8 Try.underlying31 gi gz0 gz1 gz2 rfl (wslice g1 j c1) j _ rfl A2.out.l1 ⟨wr.heap.size, 0, none⟩ 1 1 [.int .u64 (e' : Int)] rfl rfl (cell_one_new _ _ _) (by simp [Value.oneCell']) (by omega) hE1 hE2 _ rfl ?_; intro g4 cap4 w4 hL4 hg4 hat4; have A4 := Lib.hid (A2.out.grow1 (by show Lot _ _ _ _ _ (rowU _ j ++ [.int .u64 ((epE U (j + 1) : Nat) : Int)]); rw [HE2.out]; exact hL4) hg4 hat4); clear hL4 hg4 hat4 A2)
            have A4d := Lib.hid (A4.out.below (below_drew w4))
            obtain ⟨o1, o2, hA5⟩ := A4d.out.rnd
            have A5d := Lib.hid hA5
            have HQ := Lib.hid (fun (X : World) (hX : SixC W.heap.size a p s q v x X) (hb : Below W.heap.size W X) => (show X.cell? ⟨W.heap.size, 0, none⟩ = some (.int .i64 a) ∧ X.cell? ⟨W.heap.size, 1, none⟩ = some (.int .i64 p) ∧ X.cell? ⟨W.heap.size, 2, none⟩ = some (.int .i64 s) ∧ X.cell? ⟨W.heap.size, 3, none⟩ = some (.int .i64 q) ∧ X.cell? ⟨W.heap.size, 4, none⟩ = some (.int .i64 v) ∧ X.cell? ⟨W.heap.size, 5, none⟩ = some (.int .u64 x) ∧ X.cell? ⟨cb, co + j * 3, none⟩ = some (.string key) ∧ X.cell? ⟨cb, co + j * 3 + 1, none⟩ = some (.bool has) ∧ X.cell? ⟨cb, co + j * 3 + 2, none⟩ = some (.string val) from
              ⟨hX.1, hX.2.1, hX.2.2.1, hX.2.2.2.1, hX.2.2.2.2.1, hX.2.2.2.2.2, HCc.out X hb⟩))
            have HS := Lib.hid (HQ.out _ A4d.out.six A4d.out.lo)
            clear hA5 hcu hck hch hcv heq
            refine wp_region_held_drew (S := fun w' => w'.cell? ⟨W.heap.size, 0, none⟩ = some (.int .i64 a) ∧ w'.cell? ⟨W.heap.size, 1, none⟩ = some (.int .i64 p) ∧ w'.cell? ⟨W.heap.size, 2, none⟩ = some (.int .i64 s) ∧ w'.cell? ⟨W.heap.size, 3, none⟩ = some (.int .i64 q) ∧ w'.cell? ⟨W.heap.size, 4, none⟩ = some (.int .i64 v) ∧ w'.cell? ⟨W.heap.size, 5, none⟩ = some (.int .u64 x) ∧ w'.cell? ⟨cb, co + j * 3, none⟩ = some (.string key) ∧ w'.cell? ⟨cb, co + j * 3 + 1, none⟩ = some (.bool has) ∧ w'.cell? ⟨cb, co + j * 3 + 2, none⟩ = some (.string val)) (by kernel_rfl) HS.out (fun _ => ?_)
            refine (fun h => h) ?_
            -- BEGIN PUSH
            refine wpAnyH_look (i := 0) (v := ?v0) 67 rfl (by kernel_rfl) (by kernel_rfl) (by kernel_rfl) (fun _ _ _ _ h => h) (by rfl) HS.out (Or.inl ⟨by rfl, ?y0⟩) ?r0
            case y0 => intro w hSw; (try dsimp only at hSw); go_simp; (try with_reducible rfl)
            simp only [List.setIfInBounds_toArray, List.set_cons_zero, List.set_cons_succ]
            refine wpAnyH_look (i := 1) (v := ?v1) 68 rfl (by kernel_rfl) (by kernel_rfl) (by kernel_rfl) (fun _ _ _ _ h => h) (by rfl) HS.out (Or.inl ⟨by rfl, ?y1⟩) ?r1
            case y1 => intro w hSw; (try dsimp only at hSw); go_simp; (try with_reducible rfl)
            simp only [List.setIfInBounds_toArray, List.set_cons_zero, List.set_cons_succ]
            refine wpAnyH_look (i := 2) (v := ?v2) 69 rfl (by kernel_rfl) (by kernel_rfl) (by kernel_rfl) (fun _ _ _ _ h => h) (by rfl) HS.out (Or.inl ⟨by rfl, ?y2⟩) ?r2
            case y2 => intro w hSw; (try dsimp only at hSw); go_simp; (try with_reducible rfl)
            simp only [List.setIfInBounds_toArray, List.set_cons_zero, List.set_cons_succ]
            refine wpAnyH_look (i := 3) (v := ?v3) 70 rfl (by kernel_rfl) (by kernel_rfl) (by kernel_rfl) (fun _ _ _ _ h => h) (by rfl) HS.out (Or.inl ⟨by rfl, ?y3⟩) ?r3
            case y3 => intro w hSw; (try dsimp only at hSw); go_simp; (try with_reducible rfl)
            simp only [List.setIfInBounds_toArray, List.set_cons_zero, List.set_cons_succ]
            refine wpAnyH_look (i := 4) (v := ?v4) 71 rfl (by kernel_rfl) (by kernel_rfl) (by kernel_rfl) (fun _ _ _ _ h => h) (by rfl) HS.out (Or.inl ⟨by rfl, ?y4⟩) ?r4
            case y4 => intro w hSw; (try dsimp only at hSw); go_simp; (try with_reducible rfl)
            simp only [List.setIfInBounds_toArray, List.set_cons_zero, List.set_cons_succ]
            refine wpAnyH_look (i := 5) (v := ?v5) 72 rfl (by kernel_rfl) (by kernel_rfl) (by kernel_rfl) (fun _ _ _ _ h => h) (by rfl) HS.out (Or.inl ⟨by rfl, ?y5⟩) ?r5
            case y5 => intro w hSw; (try dsimp only at hSw); go_simp; (try with_reducible rfl)
            simp only [List.setIfInBounds_toArray, List.set_cons_zero, List.set_cons_succ]
            refine wpAnyH_look (i := 6) (v := ?v6) 73 rfl (by kernel_rfl) (by kernel_rfl) (by kernel_rfl) (fun _ _ _ _ h => h) (by rfl) HS.out (Or.inl ⟨by rfl, ?y6⟩) ?r6
            case y6 => intro w hSw; (try dsimp only at hSw); go_simp; (try with_reducible rfl)
            simp only [List.setIfInBounds_toArray, List.set_cons_zero, List.set_cons_succ]
            refine wpAnyH_look (i := 7) (v := ?v7) 74 rfl (by kernel_rfl) (by kernel_rfl) (by kernel_rfl) (fun _ _ _ _ h => h) (by rfl) HS.out (Or.inl ⟨by rfl, ?y7⟩) ?r7
            case y7 => intro w hSw; (try dsimp only at hSw); go_simp; (try with_reducible rfl)
            simp only [List.setIfInBounds_toArray, List.set_cons_zero, List.set_cons_succ]
            refine wpAnyH_ready (rs := [8]) (by kernel_rfl) (by simp) ?_
            refine AllReadyH.cons rfl (fun K hK => ?_) AllReadyH.nil
            go_simp
            go_at_call 7
            refine (HPu.out _ _ _ A5d.out).mono ?_
            rintro en x5 ⟨rfl, hx⟩
            have A6 := Lib.hid (A4d.out.next A5d.out hx (List.mem_cons_self ..) (List.mem_cons_of_mem _ (List.mem_singleton.2 rfl)))
            have HS := Lib.hid (HQ.out _ A6.out.six A6.out.lo)
            clear hx
            go_simp
            refine hK.out _ _ HS.out (fun _ => ?_)
            clear hK K
            refine wpAnyH_ready (rs := [9]) (by kernel_rfl) (by simp) ?_
            refine AllReadyH.cons rfl (fun K hK => ?_) AllReadyH.nil
            go_simp
            have A7 := Lib.hid (A6.out.below (below_alloc x5 (.cells #[.int .u64 (b2 : Int)] 22)))
            have HS := Lib.hid (HQ.out _ A7.out.six A7.out.lo)
            refine hK.out _ _ HS.out (fun _ => ?_)
            clear hK K
            refine wpAnyH_ready (rs := [10]) (by kernel_rfl) (by simp) ?_
            refine AllReadyH.cons rfl (fun K hK => ?_) AllReadyH.nil
            refine step_append_lot _ (by rfl) _ _ 31 (by rfl) 22 i0 _ 1 8 Try.underlying31 gi gz0 gz1 gz2 rfl (wslice g2 j c2) j _ (by rfl) A7.out.l2 ⟨x5.heap.size, 0, none⟩ 1 1 [.int .u64 (b2 : Int)] (by rfl) (by rfl) (cell_one_new _ _ _) (by simp [Value.oneCell']) (by omega) hE1 hE2 _ rfl ?_
            intro g6 cap6 w6 hL6 hg6 hat6
            have A8 := Lib.hid (A7.out.grow2 (by show Lot _ _ _ _ _ (rowU _ j ++ [.int .u64 ((2 + j : Nat) : Int)]); rw [HB2.out]; exact hL6) hg6 hat6)
            clear hL6 hg6 hat6
            have HS := Lib.hid (HQ.out _ A8.out.six A8.out.lo)
            go_simp
            refine hK.out _ _ HS.out (fun _ => ?_)
            clear hK K
            refine wpAnyH_ready (rs := [11]) (by kernel_rfl) (by simp) ?_
            refine AllReadyH.cons rfl (fun K hK => ?_) AllReadyH.nil
            go_simp
            
            refine hK.out _ _ HS.out (fun _ => ?_)
            clear hK K
            -- END PUSH
            refine ⟨by kernel_rfl, ?_⟩
            have HI2 := Lib.hid (show PutI W a p s q v x k (sizeW a p s q v) B hp U C g4 cap4 g6 cap6 (j + 1) w6 from ⟨_, A8.out, HSh2.out⟩)
            clear A4 A4d A5d A6 A7 A8 HQ HS HPu
            go_wp2_with fail
            go_roundw
            case rel => exact ⟨j + 1, g4, cap4, g6, cap6, rfl, rfl, by rw [HE2.out], by go_num, hlt, hlm, HI2⟩
            case measure => simp [intOf]; omega
        · have hlmz : ¬ (j : Int) < (m : Int) := by omega
          go_wp2_with fail
          go_meet
          case rel => exact ⟨j, g1, c1, g2, c2, rfl, rfl, rfl, rfl, hjn, hjm, HP⟩
      · have hltz : ¬ (j : Int) < (n : Int) := by omega
        go_wp2_with fail
        go_meet
        case rel => exact ⟨j, g1, c1, g2, c2, rfl, rfl, rfl, rfl, hjn, hjm, HP⟩
  case rest => as_aux_lemma =>
    clear HI
    obtain ⟨N, g1, c1, g2, c2, rfl, rfl, rfl, rfl, hNn, hNm, HP⟩ := hcut
    obtain ⟨D, hR, hSh⟩ := HP.out
    have HR := Lib.hid hR
    have HSh := Lib.hid hSh
    have heb := epE_le U N
    obtain ⟨e, he⟩ : ∃ e, epE U N = e := ⟨_, rfl⟩
    rw [he] at heb ⊢
    have he150 : (e : Int) ≤ 150 := by omega
    have he0 : (0 : Int) ≤ (e : Int) := by omega
    have hN30 : (N : Int) ≤ 30 := by omega
    have hN0 : (0 : Int) ≤ (N : Int) := by omega
    obtain ⟨V, hV⟩ : ∃ V, verC U C = V := ⟨_, rfl⟩
    have HV := Lib.hid (show ∀ i, V i = ⟨((epE U (i + 1) : Nat) : Int), (C i).has, putT (C i).has (C i).val, 2 + i⟩ from fun i => by rw [← hV]; rfl)
    rw [hV] at HSh
    clear hR hSh HP he heb hV HU hz hn30
    go_wp2_with fail
    go_loopw [12] (fun s12 wr => ∃ t : Nat, s12 = .int .u64 (t : Int) ∧ t ≤ e + 2 ∧ Hid (RdI W a p s q v x B hp D (fun j => epE U (j + 1)) (fun j => 2 + j) g1 N c1 g2 N c2 wr)) (fun s12 _ => e + 2 - (intOf s12).toNat)
    case atStart => exact ⟨0, rfl, Nat.zero_le _, HR⟩
    case round => as_aux_lemma =>
      clear HR
      obtain ⟨t, rfl, hte, HR⟩ := hrel
      have ht0 : (0 : Int) ≤ (t : Int) := by omega
      by_cases htl : t ≤ e + 1
      · have htz : (t : Int) ≤ (e : Int) + 1 := by omega
        go_upto_block 4 with fail
        have HW0 := Lib.hid (WntI.start HR.out (wantO V (t : Int) 0))
        have HW0' := Lib.hid (show WntI W a p s q v x B hp D (fun j => epE U (j + 1)) (fun j => 2 + j) g1 N c1 g2 N c2 wr.heap.size (wantO V (t : Int) 0) (wr.alloc (valO false ⟨#[]⟩ 0)) from HW0.out)
        clear HW0 HR
        generalize wr.heap.size = g at HW0' ⊢
        generalize wr.alloc (valO false ⟨#[]⟩ 0) = w4 at HW0' ⊢
        go_cut [14] (fun s14 wx => s14 = .int .i64 ((passN V (t : Int) N : Nat) : Int) ∧ Hid (WntI W a p s q v x B hp D (fun j => epE U (j + 1)) (fun j => 2 + j) g1 N c1 g2 N c2 g (wantO V (t : Int) N) wx))
        case first => as_aux_lemma =>
          go_wp2_with fail
          go_loopw [14, 15] (fun s14 s15 wi => ∃ i : Nat, s14 = .int .i64 ((pasI V (t : Int) N i : Nat) : Int) ∧ s15 = .int .i64 (i : Int) ∧ i ≤ N ∧ Hid (WntI W a p s q v x B hp D (fun j => epE U (j + 1)) (fun j => 2 + j) g1 N c1 g2 N c2 g (wantO V (t : Int) i) wi)) (fun _ s15 _ => N - (intOf s15).toNat)
          case atStart => exact ⟨0, rfl, rfl, Nat.zero_le _, HW0'⟩
          case round => as_aux_lemma =>
            clear HW0'
            obtain ⟨i, rfl, rfl, hiN, HW⟩ := hrel
            have hi0 : (0 : Int) ≤ (i : Int) := by omega
            by_cases hlt : i < N
            · have hltz : (i : Int) < (N : Int) := by omega
              have hc1 : wr.cell? ⟨g1, i, none⟩ = some (.int .u64 ((epE U (i + 1) : Nat) : Int)) := HW.out.rd.at1 hlt
              have HVi := Lib.hid (HV.out i)
              have HC2 := Lib.hid (fun (X : World) (o : Obj) (hX : WntI W a p s q v x B hp D (fun j => epE U (j + 1)) (fun j => 2 + j) g1 N c1 g2 N c2 g o X) => (hX.rd.at2 hlt : X.cell? ⟨g2, i, none⟩ = some (.int .u64 ((2 + i : Nat) : Int))))
              obtain ⟨ei, hei⟩ : ∃ ei, epE U (i + 1) = ei := ⟨_, rfl⟩
              obtain ⟨b2, hb2⟩ : ∃ b2, 2 + i = b2 := ⟨_, rfl⟩
              rw [hei] at hc1 HVi
              rw [hb2] at HC2 HVi
              clear hei hb2
              obtain ⟨cb, co, hgb, -⟩ := HCh.out wr HW.out.rd.lo i (by omega)
              have HCc := Lib.hid (fun (X : World) (hX : Below W.heap.size W X) => (by
                obtain ⟨b', o', e, hc⟩ := HCh.out X hX i (by omega)
                rw [hgb] at e
                cases e
                exact ⟨hc.2.1, hc.2.2⟩ : X.cell? ⟨cb, co + i * 3 + 1, none⟩ = some (.bool (C i).has) ∧ X.cell? ⟨cb, co + i * 3 + 2, none⟩ = some (.string (C i).val)))
              subst hgb
              obtain ⟨has, hhas⟩ : ∃ z, (C i).has = z := ⟨_, rfl⟩
              obtain ⟨val, hval⟩ : ∃ z, (C i).val = z := ⟨_, rfl⟩
              rw [hhas, hval] at HCc HVi
              clear hhas hval
              have hei0 : (0 : Int) ≤ (ei : Int) := by omega
              have him : (i : Int) < (m : Int) := by omega
              by_cases hle : ei ≤ t
              · have hlez : (ei : Int) ≤ (t : Int) := by omega
                obtain ⟨P, hP⟩ : ∃ P, N - 1 - i = P := ⟨_, rfl⟩
                have hPz : (N : Int) - 1 - (i : Int) = (P : Int) := by omega
                have HH := Lib.hid (show pasI V (t : Int) N (i + 1) = P ∧ wantO V (t : Int) (i + 1) = valO has (putT has val) (b2 : Int) from by
                  have h := want_hit (V := V) (at_ := (t : Int)) (N := N) (i := i) (by rw [HVi.out]; exact hlez)
                  rw [HVi.out] at h
                  exact ⟨h.1.trans hP, h.2.trans (by cases has <;> rfl)⟩)
                have HQ := Lib.hid (fun (X : World) (o : Obj) (hX : WntI W a p s q v x B hp D (fun j => epE U (j + 1)) (fun j => 2 + j) g1 N c1 g2 N c2 g o X) => (show X.cell? ⟨cb, co + i * 3 + 1, none⟩ = some (.bool has) ∧ X.cell? ⟨g2, i, none⟩ = some (.int .u64 (b2 : Int)) from ⟨(HCc.out X hX.rd.lo).1, HC2.out X o hX⟩))
                have HWd := Lib.hid (show WntI W a p s q v x B hp D (fun j => epE U (j + 1)) (fun j => 2 + j) g1 N c1 g2 N c2 g (valO (seenC V (t : Int) i).1 (seenC V (t : Int) i).2.1 ((seenC V (t : Int) i).2.2 : Nat)) wr.drew from HW.out.below (below_drew wr))
                have HW1 := Lib.hid (show WntI W a p s q v x B hp D (fun j => epE U (j + 1)) (fun j => 2 + j) g1 N c1 g2 N c2 g (valO (seenC V (t : Int) i).1 (seenC V (t : Int) i).2.1 ((seenC V (t : Int) i).2.2 : Nat)) wr from HW.out)
                obtain ⟨m0, m1, m2⟩ := val_at HW1.out.want
                have z0 := val_free HW1.out.want 0
                have z1 := val_free HW1.out.want 1
                have z2 := val_free HW1.out.want 2
                have HS := Lib.hid (HQ.out _ _ HWd.out)
                clear hP HW
                go_upto_region 24 with fail
                clear hc1
                refine wp_region_held_drew (S := fun w' => w'.cell? ⟨cb, co + i * 3 + 1, none⟩ = some (.bool has) ∧ w'.cell? ⟨g2, i, none⟩ = some (.int .u64 (b2 : Int))) (by kernel_rfl) HS.out (fun _ => ?_)
                refine (fun h => h) ?_
                -- BEGIN WANT
                refine wpAnyH_look (i := 0) (v := ?vw0) 99 rfl (by kernel_rfl) (by kernel_rfl) (by kernel_rfl) (fun _ _ _ _ h => h) (by rfl) HS.out (Or.inl ⟨by rfl, ?yw0⟩) ?rw0
                case yw0 => intro w hSw; (try dsimp only at hSw); go_simp; (try with_reducible rfl)
                simp only [List.setIfInBounds_toArray, List.set_cons_zero, List.set_cons_succ]
                refine wpAnyH_look (i := 1) (v := ?vw1) 100 rfl (by kernel_rfl) (by kernel_rfl) (by kernel_rfl) (fun _ _ _ _ h => h) (by rfl) HS.out (Or.inl ⟨by rfl, ?yw1⟩) ?rw1
                case yw1 => intro w hSw; (try dsimp only at hSw); go_simp; (try with_reducible rfl)
                simp only [List.setIfInBounds_toArray, List.set_cons_zero, List.set_cons_succ]
                refine wpAnyH_look (i := 2) (v := ?vw2) 101 rfl (by kernel_rfl) (by kernel_rfl) (by kernel_rfl) (fun _ _ _ _ h => h) (by rfl) HS.out (Or.inl ⟨by rfl, ?yw2⟩) ?rw2
                case yw2 => intro w hSw; (try dsimp only at hSw); go_simp; (try with_reducible rfl)
                simp only [List.setIfInBounds_toArray, List.set_cons_zero, List.set_cons_succ]
                refine wpAnyH_look (i := 3) (v := ?vw3) 102 rfl (by kernel_rfl) (by kernel_rfl) (by kernel_rfl) (fun _ _ _ _ h => h) (by rfl) HS.out (Or.inl ⟨by rfl, ?yw3⟩) ?rw3
                case yw3 => intro w hSw; (try dsimp only at hSw); go_simp; (try with_reducible rfl)
                simp only [List.setIfInBounds_toArray, List.set_cons_zero, List.set_cons_succ]
                refine wpAnyH_look (i := 4) (v := ?vw4) 103 rfl (by kernel_rfl) (by kernel_rfl) (by kernel_rfl) (fun _ _ _ _ h => h) (by rfl) HS.out (Or.inl ⟨by rfl, ?yw4⟩) ?rw4
                case yw4 => intro w hSw; (try dsimp only at hSw); go_simp; (try with_reducible rfl)
                simp only [List.setIfInBounds_toArray, List.set_cons_zero, List.set_cons_succ]
                refine wpAnyH_look (i := 5) (v := ?vw5) 104 rfl (by kernel_rfl) (by kernel_rfl) (by kernel_rfl) (fun _ _ _ _ h => h) (by rfl) HS.out (Or.inl ⟨by rfl, ?yw5⟩) ?rw5
                case yw5 => intro w hSw; (try dsimp only at hSw); go_simp; (try with_reducible rfl)
                simp only [List.setIfInBounds_toArray, List.set_cons_zero, List.set_cons_succ]
                refine wpAnyH_look (i := 6) (v := ?vw6) 105 rfl (by kernel_rfl) (by kernel_rfl) (by kernel_rfl) (fun _ _ _ _ h => h) (by rfl) HS.out (Or.inl ⟨by rfl, ?yw6⟩) ?rw6
                case yw6 => intro w hSw; (try dsimp only at hSw); go_simp; (try with_reducible rfl)
                simp only [List.setIfInBounds_toArray, List.set_cons_zero, List.set_cons_succ]
                refine wpAnyH_look (i := 7) (v := ?vw7) 106 rfl (by kernel_rfl) (by kernel_rfl) (by kernel_rfl) (fun _ _ _ _ h => h) (by rfl) HS.out (Or.inl ⟨by rfl, ?yw7⟩) ?rw7
                case yw7 => intro w hSw; (try dsimp only at hSw); go_simp; (try with_reducible rfl)
                simp only [List.setIfInBounds_toArray, List.set_cons_zero, List.set_cons_succ]
                refine wpAnyH_look (i := 8) (v := ?vw8) 107 rfl (by kernel_rfl) (by kernel_rfl) (by kernel_rfl) (fun _ _ _ _ h => h) (by rfl) HS.out (Or.inl ⟨by rfl, ?yw8⟩) ?rw8
                case yw8 => intro w hSw; (try dsimp only at hSw); go_simp; (try with_reducible rfl)
                simp only [List.setIfInBounds_toArray, List.set_cons_zero, List.set_cons_succ]
                refine wpAnyH_look (i := 9) (v := ?vw9) 108 rfl (by kernel_rfl) (by kernel_rfl) (by kernel_rfl) (fun _ _ _ _ h => h) (by rfl) HS.out (Or.inl ⟨by rfl, ?yw9⟩) ?rw9
                case yw9 => intro w hSw; (try dsimp only at hSw); go_simp; (try with_reducible rfl)
                simp only [List.setIfInBounds_toArray, List.set_cons_zero, List.set_cons_succ]
                refine wpAnyH_ready (rs := [10]) (by kernel_rfl) (by simp) ?_
                refine AllReadyH.cons rfl (fun K hK => ?_) AllReadyH.nil
                go_simp
                have A1 := Lib.hid (show WntI W a p s q v x B hp D (fun j => epE U (j + 1)) (fun j => 2 + j) g1 N c1 g2 N c2 g (valO has ⟨#[]⟩ (b2 : Int)) (((wr.setCell ⟨g, 0, none⟩ (.bool has)).setCell ⟨g, 1, none⟩ (.string ⟨#[]⟩)).setCell ⟨g, 2, none⟩ (.int .u64 (b2 : Int))).drew from (show WntI W a p s q v x B hp D (fun j => epE U (j + 1)) (fun j => 2 + j) g1 N c1 g2 N c2 g (valO has ⟨#[]⟩ (b2 : Int)) (((wr.setCell ⟨g, 0, none⟩ (.bool has)).setCell ⟨g, 1, none⟩ (.string ⟨#[]⟩)).setCell ⟨g, 2, none⟩ (.int .u64 (b2 : Int))) from ((HW1.out.write 0 (.bool has)).write 1 (.string ⟨#[]⟩)).write 2 (.int .u64 (b2 : Int))).below (below_drew _))
                have HS := Lib.hid (HQ.out _ _ A1.out)
                refine hK.out _ _ HS.out (fun _ => ?_)
                clear hK K
                -- END WANT
                refine ⟨by kernel_rfl, ?_⟩
                clear m0 m1 m2 z0 z1 z2 HWd HW1 HS
                generalize (((wr.setCell ⟨g, 0, none⟩ (.bool has)).setCell ⟨g, 1, none⟩ (.string ⟨#[]⟩)).setCell ⟨g, 2, none⟩ (.int .u64 (b2 : Int))).drew = w5 at A1 ⊢
                obtain ⟨hk1, hk2⟩ := HCc.out w5 A1.out.rd.lo
                have z1 := val_free A1.out.want 1
                have m1 := (val_at A1.out.want).2.1
                cases has with
                | true =>
                  have A2 := Lib.hid (show WntI W a p s q v x B hp D (fun j => epE U (j + 1)) (fun j => 2 + j) g1 N c1 g2 N c2 g (valO true val (b2 : Int)) (w5.setCell ⟨g, 1, none⟩ (.string val)) from A1.out.write 1 (.string val))
                  go_wp2_with fail
                  go_roundw
                  case rel => exact ⟨i + 1, by rw [HH.out.1], by go_num, hlt, by rw [HH.out.2]; exact A2⟩
                  case measure => simp [intOf]; omega
                | false =>
                  go_wp2_with fail
                  go_roundw
                  case rel => exact ⟨i + 1, by rw [HH.out.1], by go_num, hlt, by rw [HH.out.2]; exact A1⟩
                  case measure => simp [intOf]; omega
              · have hlez : ¬ (ei : Int) ≤ (t : Int) := by omega
                have HM := Lib.hid (want_miss (V := V) (at_ := (t : Int)) (N := N) (i := i) (by rw [HVi.out]; exact hlez))
                go_wp2_with fail
                go_roundw
                case rel => exact ⟨i + 1, by rw [HM.out.1], by go_num, hlt, by rw [HM.out.2]; exact HW⟩
                case measure => simp [intOf]; omega
            · obtain rfl : N = i := by omega
              have hltz : ¬ (N : Int) < (N : Int) := by omega
              go_wp2_with fail
              go_meet
              case rel => exact ⟨rfl, HW⟩
        case rest => as_aux_lemma =>
          clear HW0'
          obtain ⟨rfl, HW⟩ := hcut
          have hPl := passN_le V (t : Int) N
          have hAl := actsC_le V (t : Int) N
          obtain ⟨P, hP⟩ : ∃ P, passN V (t : Int) N = P := ⟨_, rfl⟩
          obtain ⟨⟨sh, st, sb⟩, hseen⟩ : ∃ z, seenC V (t : Int) N = z := ⟨_, rfl⟩
          obtain ⟨na, hna⟩ : ∃ na, 1 + actsC V (t : Int) N = na := ⟨_, rfl⟩
          have hO : wantO V (t : Int) N = valO sh st (sb : Int) := by unfold wantO; rw [hseen]
          have hE : endC k V (t : Int) N 0 = ⟨k, (t : Int), 6, (P : Int), sh, st, sb⟩ := by unfold endC; rw [hseen, hP, Nat.zero_add]
          rw [hP] at hPl hAl ⊢
          rw [hO] at HW
          have hP0 : (0 : Int) ≤ (P : Int) := by omega
          have hP30 : (P : Int) ≤ 30 := by omega
          have hna0 : (0 : Int) ≤ (na : Int) := by omega
          have hnz : ¬ 2 * (P : Int) + 4 < (na : Int) := by omega
          have HRun := Lib.hid (fun (X : World) (r : Nat) (ks : List (Nat × Obj)) (hX : Rnf ChnM W a p s q v x B hp D ks r 1000 (newC k (t : Int)) X) => (by
            have h := rnf_crun hX HSh.out (by omega) 200 (by omega) (by omega) (by omega)
            rw [hna, hE] at h
            exact h : Calls Try.prog 9 #[.pointer (some ⟨hp, 0, none⟩), .iface 37 (.pointer (some ⟨r, 0, none⟩)), .int .i64 ((200 : Nat) : Int)] X
              (fun e Y => e = .returned (.tuple #[.int .i64 ((na : Nat) : Int), .bool true]) ∧ Rnf ChnM W a p s q v x B hp D ks r (1000 - 200) ⟨k, (t : Int), 6, (P : Int), sh, st, sb⟩ Y)))
          clear hP hseen hna hO hE hPl hAl
          obtain ⟨o1, o2, hR⟩ := HW.out.rnd
          have HR := Lib.hid hR
          have HNw := Lib.hid (rnd_cnew hR (HSh.out.few (m := 1000) (by omega) (by omega)) HK.out.1 ⟨HK.out.2.1, HK.out.2.2.1⟩ (ep := (t : Int)) (by omega))
          obtain ⟨c0, c1', c2', c3, c4, c5⟩ := hR.six
          clear hR
          go_wp2_with fail
          refine HNw.out.mono ?_
          rintro en w5 ⟨r, rfl, h5⟩
          have R5 := Lib.hid h5
          clear h5 HNw c0 c1' c2' c3 c4 c5
          go_wp2_with fail
          refine (HRun.out _ _ _ R5.out).mono ?_
          rintro en w6 ⟨rfl, h6⟩
          have R6 := Lib.hid h6
          clear h6 R5 HRun
          go_wp2_with fail
          refine (rnf_cres R6.out rfl).mono ?_
          rintro en w7 ⟨rfl, h7⟩
          have R8 := Lib.hid (h7.add (valO sh st (sb : Int)))
          have HRd := Lib.hid (HW.out.rd.next (HR.out.few (fun u hu => List.mem_cons_of_mem _ hu)) R8.out (List.mem_cons_of_mem _ (List.mem_cons_of_mem _ (List.mem_cons_of_mem _ (List.mem_cons_self ..)))) (List.mem_cons_of_mem _ (List.mem_cons_of_mem _ (List.mem_cons_of_mem _ (List.mem_cons_of_mem _ (List.mem_singleton.2 rfl))))))
          obtain ⟨v0, v1, v2⟩ := val_at (R8.out.kept (List.mem_cons_self ..))
          obtain ⟨u0, u1, u2⟩ := val_at (R8.out.kept (List.mem_cons_of_mem _ (List.mem_cons_of_mem _ (List.mem_cons_self ..))))
          have HPs := Lib.hid (rnd_cpassed R8.out (r := r) (List.mem_cons_of_mem _ (List.mem_cons_self ..)))
          clear h7 R6 R8 HW HR
          go_wp2_with fail
          refine HPs.out.mono ?_
          rintro en w9 ⟨rfl, rfl⟩
          go_wp2_with fail
          go_roundw
          case rel => exact ⟨t + 1, by go_num, by omega, HRd⟩
          case measure => simp [intOf]; omega
      · have htz : ¬ (t : Int) ≤ (e : Int) + 1 := by omega
        obtain ⟨o1, o2, hR⟩ := HR.out.rnd
        have HFa := Lib.hid (by have := rnd_faults hR; rw [HSh.out.faults] at this; exact this : Calls Try.prog 12 #[.pointer (some ⟨hp, 0, none⟩)] wr fun e Y => e = .returned (.int .i64 ((0 : Nat) : Int)) ∧ wr = Y)
        clear hR
        go_wp2_with fail
        refine HFa.out.mono ?_
        rintro en w9 ⟨rfl, rfl⟩
        go_wp2_with fail
        refine (cawake_any _).mono ?_
        rintro en w10 ⟨rfl, hb⟩
        have B10 := Lib.hid (HR.out.lo.trans (hb.mono HR.out.lo.size))
        clear hb
        go_wp2_with fail
        go_ret
        exact Says.mk rfl B10.out

end Go.Proofs.Ytdegcmobgmaenaa
