/-
  Vaw, Cpush, Chnp, Crnd, in one text.
-/
import Derived.Test.YtpnfbabiibopnaaQ10
import Derived.Test.YtpnfbabiibopnaaQ12
import Derived.Test.YtpnfbabiibopnaaQ09
import Derived.WalkMore
/-! A version beside a heap: it is laid, run alone, asked; and the chapter's example. -/
namespace Go.Proofs.Ytpnfbabiibopnaa
open Go Go.RowKit
attribute [local go_sem ↓] Go.wp_at_zero Go.wp_at_succ

theorem plm_ver {X Y : World} {B p r n : Nat} {D : HpD} {fh : Nat → Prop} {v : VerD} (h : Hp X B p D fh) (hF : FewD D n) (hv : v.fits) (hr : X.heap.size ≤ r) (ho : Y.heap[r]? = some (verO v)) (hb : Below X.heap.size X Y) : PlM VerM Y B p r ⟨D, v⟩ n (fun j => fh j ∨ j = r) :=
  ⟨fh, fun j => j = r, h.below hb, ⟨ho, rfl, Nat.le_trans h.size hr, hv⟩, fun j hj hj' => by have := h.lt j hj; omega, rfl, hF⟩
section
variable {W : World} {B p r n : Nat} {D : HpD} {f : Nat → Prop}
theorem ver_run {ep nx : Int} {has : Bool} {t : ByteArray} (h : PlM VerM W B p r ⟨D, ⟨ep, nx, has, t, 1, 0⟩⟩ n f) (ht : t.size ≤ 4096) (m : Nat) (h4 : 4 ≤ m) (hm : m ≤ 1000000) (hmn : m ≤ n) :
    Calls Try.prog 13 #[.pointer (some ⟨p, 0, none⟩), .iface 123 (.pointer (some ⟨r, 0, none⟩)), .int .i64 (m : Int)] W
      (PmR VerM B p r ⟨D.add (blkV [ep, nx, if has then 1 else 0] t), ⟨ep, nx, has, t, 5, D.L.length + 1⟩⟩ (n - m) (.tuple #[.int .i64 ((actsV nx has : Nat) : Int), .bool true]) f W) := by
  refine (show Calls Try.prog 13 #[.pointer (some ⟨p, 0, none⟩), .iface 123 (.pointer (some ⟨r, 0, none⟩)), .int .i64 (m : Int)] W _ from malone_any h m hm hmn).mono fun e W' he => ?_
  obtain ⟨rfl, g', h1, h2⟩ := he
  obtain ⟨e1, e2⟩ := ver_alone D ep nx has t ht m h4
  rw [e1] at h1 ⊢
  rw [e2]
  exact ⟨g', rfl, h1, h2⟩
theorem plm_made {v : VerD} (h : PlM VerM W B p r ⟨D, v⟩ n f) (hp : v.place = 5) : Calls Try.prog 56 #[.pointer (some ⟨r, 0, none⟩)] W fun e W' => e = .returned (.tuple #[.int .u64 (v.block : Int), .bool true]) ∧ W' = W := by
  obtain ⟨fh, fr, h1, h2, _⟩ := h
  have := result_any W h2
  rw [if_pos hp, decide_eq_true hp] at this
  exact this
end
section
variable {σ : Type} {M : Mach σ} {W : World} {B p r n : Nat} {S : PmS σ} {f : Nat → Prop}
end
theorem newV_fits {ep nx : Int} {has : Bool} {val : ByteArray} (he : 0 ≤ ep ∧ ep < 18446744073709551616) (hn : 0 ≤ nx ∧ nx < 18446744073709551616) (hv : val.size ≤ 281474976710656) : (newV ep nx has val).fits := by
  refine ⟨he, hn, ?_, by show 1 ≤ 1 ∧ 1 ≤ 5; omega, by show 0 < 18446744073709551616; omega⟩
  show (if has then val else ⟨#[]⟩ : ByteArray).size ≤ _
  split
  · exact hv
  · exact Nat.zero_le _

/-! ### the example -/
abbrev awD : HpD := emptyD.add (blkV [2, 0, 0] ⟨#[]⟩)
abbrev awV : VerD := ⟨2, 0, false, ⟨#[]⟩, 5, 1⟩

end Go.Proofs.Ytpnfbabiibopnaa

/-! The statements' Push: a heap in which a shelf has a newer version. -/
namespace Go.Proofs.Ytpnfbabiibopnaa
open Go Go.RowKit
attribute [local go_sem ↓] Go.wp_at_zero Go.wp_at_succ

/-- In the middle of Push: the config's box and the change's; what was f0's is f's now. -/
structure PshI (W : World) (f0 : Nat → Prop) (a p s q v x : Int) (key : ByteArray) (has : Bool) (val : ByteArray) (f : Nat → Prop) (X : World) : Prop where
  st : Step f0 f W X
  cf : X.heap[W.heap.size]? = some (.cells (cfC a p s q v x) 24 (0, 0))
  ch : X.heap[W.heap.size + 1]? = some (chO key has val)
  n1 : ¬ f W.heap.size
  n2 : ¬ f (W.heap.size + 1)
section
variable {W X Y : World} {f0 f f' : Nat → Prop} {a p s q v x : Int} {key val : ByteArray} {has : Bool}
theorem PshI.step (h : PshI W f0 a p s q v x key has val f X) (st : Step f f' X Y) : PshI W f0 a p s q v x key has val f' Y :=
  ⟨h.st.trans st, (st.block _ (heap_at_lt h.cf) h.n1).trans h.cf, (st.block _ (heap_at_lt h.ch) h.n2).trans h.ch, st.off (heap_at_lt h.cf) h.n1, st.off (heap_at_lt h.ch) h.n2⟩
theorem PshI.below (h : PshI W f0 a p s q v x key has val f X) (hb : Below X.heap.size X Y) : PshI W f0 a p s q v x key has val f Y := h.step (Step.of_below hb)
theorem PshI.less (h : PshI W f0 a p s q v x key has val f X) (hs : ∀ k, f' k → f k) : PshI W f0 a p s q v x key has val f' X :=
  ⟨⟨h.st.os, h.st.tape, h.st.output, h.st.size, h.st.block, fun k hk => h.st.foot k (hs k hk)⟩, h.cf, h.ch, fun hk => h.n1 (hs _ hk), fun hk => h.n2 (hs _ hk)⟩
/-- A block more is its own. -/
theorem PshI.more (h : PshI W f0 a p s q v x key has val f X) {r : Nat} (hr : X.heap.size ≤ r) (hb : Below X.heap.size X Y) : PshI W f0 a p s q v x key has val (fun j => f j ∨ j = r) Y := by
  have h1 := heap_at_lt h.cf
  have h2 := heap_at_lt h.ch
  have hX := h.below hb
  exact ⟨⟨hX.st.os, hX.st.tape, hX.st.output, hX.st.size, hX.st.block, fun k hk => hk.elim (fun hk => hX.st.foot k hk) (fun e => .inr (by have := h.st.size; omega))⟩, hX.cf, hX.ch, fun hk => hk.elim h.n1 (fun e => by omega), fun hk => hk.elim h.n2 (fun e => by omega)⟩
theorem PshI.six (h : PshI W f0 a p s q v x key has val f X) : SixC W.heap.size a p s q v x X :=
  ⟨(cell_of h.cf).trans rfl, (cell_of h.cf).trans rfl, (cell_of h.cf).trans rfl, (cell_of h.cf).trans rfl, (cell_of h.cf).trans rfl, (cell_of h.cf).trans rfl⟩
theorem PshI.three (h : PshI W f0 a p s q v x key has val f X) : X.cell? ⟨W.heap.size + 1, 0, none⟩ = some (.string key) ∧ X.cell? ⟨W.heap.size + 1, 1, none⟩ = some (.bool has) ∧ X.cell? ⟨W.heap.size + 1, 2, none⟩ = some (.string val) :=
  ⟨(cell_of h.ch).trans rfl, (cell_of h.ch).trans rfl, (cell_of h.ch).trans rfl⟩
theorem PshI.start (W : World) (f0 : Nat → Prop) (hf : ∀ k, f0 k → k < W.heap.size) (a p s q v x : Int) (key : ByteArray) (has : Bool) (val : ByteArray) :
    PshI W f0 a p s q v x key has val f0 ((W.alloc (.cells (cfC a p s q v x) 24 (0, 0))).alloc (chO key has val)) := by
  have hb := (below_alloc W (.cells (cfC a p s q v x) 24 (0, 0))).trans ((below_alloc (W.alloc (.cells (cfC a p s q v x) 24 (0, 0))) (chO key has val)).mono (by simp))
  have h2 := World.alloc_heap_new (W.alloc (.cells (cfC a p s q v x) 24 (0, 0))) (chO key has val)
  rw [World.size_alloc] at h2
  refine ⟨Step.of_below hb, ?_, h2, fun hk => by have := hf _ hk; omega, fun hk => by have := hf _ hk; omega⟩
  exact ((below_alloc _ _).block _ (by simp)).trans (World.alloc_heap_new W _)
end
/-- The text of what is put. -/
def putT (has : Bool) (val : ByteArray) : ByteArray := if has then val else ⟨#[]⟩

set_option maxRecDepth 100000 in
set_option maxHeartbeats 4000000 in
theorem push_any {k z : Int} {D : HpD} {B hp : Nat} {f : Nat → Prop} (W : World) (hH : Hp W B hp D f) (hS : Sho k z D) (a p s q v x sh : Int) (hk : headW a p s q v sh = k) (ep : Int) (he : 0 ≤ ep ∧ ep < 18446744073709551616) (key : ByteArray) (has : Bool) (val : ByteArray) (hv : val.size ≤ 4096) :
    Calls Try.prog 31 #[.pointer (some ⟨hp, 0, none⟩), cfV a p s q v x, .int .i64 sh, .int .u64 ep, .agg #[.string key, .bool has, .string val]] W
      (HpR B hp f W (.int .u64 ((D.L.length + 1 : Nat) : Int)) (pushD D k ep has (putT has val))) := by
  have HHd := Lib.hid (fun X : World => by have := head_any a p s q v x sh X; rw [hk] at this; exact this)
  have P0 := Lib.hid (PshI.start W f hH.lt a p s q v x key has val)
  have H0 := Lib.hid (hH.below ((below_alloc W (.cells (cfC a p s q v x) 24 (0, 0))).trans ((below_alloc (W.alloc (.cells (cfC a p s q v x) 24 (0, 0))) (chO key has val)).mono (by simp))))
  obtain ⟨b0, hw0⟩ : ∃ b0 : Nat, wordAt D.L 1 k = (b0 : Int) := ⟨(wordAt D.L 1 k).toNat, by have := hS.fine.wordAt 1 k; omega⟩
  have hb0 := hS.fine.wordAt 1 k
  rw [hw0] at hb0
  have hsp := hS.spot
  have HLd := Lib.hid (fun (X : World) (hX : Hp X B hp D f) => (by
    have := load_any X hX (by rw [hS.faults]; omega) 1 (by omega) k
    rw [show loadV D 1 k = (b0 : Int) from by unfold loadV; rw [if_pos hsp, hw0], hsp, show loadD D 1 k = D from by unfold loadD; rw [if_pos hsp]] at this
    exact this : Calls Try.prog 16 #[.pointer (some ⟨hp, 0, none⟩), .int .u64 ((1 : Nat) : Int), .int .i64 k] X (HpR B hp f X (TwoV (b0 : Int) 0) D)))
  have HFw := Lib.hid (hS.few (m := 100) (by omega))
  have HFit := Lib.hid (newV_fits (ep := ep) (nx := (b0 : Int)) (has := has) (val := val) he (by omega) (by omega))
  have HTx := Lib.hid (show (putT has val).size ≤ 4096 from by unfold putT; split; exact hv; exact Nat.zero_le _)
  have HSt := Lib.hid (fun (X : World) (f' : Nat → Prop) (hX : Hp X B hp (D.add (blkV [ep, (b0 : Int), wordV has] (putT has val))) f') => (by
    have := store_any X hX (by show D.faults < 1000000; rw [hS.faults]; omega) 1 (by omega) k ((D.L.length + 1 : Nat) : Int)
    have h1 := hS.pushed ep has (putT has val)
    rw [hw0] at h1
    rw [h1] at this
    unfold pushD
    rw [hw0]
    exact this : Calls Try.prog 11 #[.pointer (some ⟨hp, 0, none⟩), .int .u64 ((1 : Nat) : Int), .int .i64 k, .int .u64 ((D.L.length + 1 : Nat) : Int)] X (HpR B hp f' X (.int .i64 0) (pushD D k ep has (putT has val)))))
  have HNw := Lib.hid (fun (X : World) => newv_any X ep (b0 : Int) key has val (by omega))
  obtain ⟨c0, c1, c2, c3, c4, c5⟩ := P0.out.six
  clear hH hS hk he hv hw0 hb0 hsp
  go_enter Try.func31, Try.ntmps31
  go_wp2_with fail
  refine (HHd.out _).mono ?_
  rintro en w1 ⟨rfl, hb⟩
  have P1 := Lib.hid (P0.out.below hb)
  have H1 := Lib.hid (H0.out.below hb)
  clear hb c0 c1 c2 c3 c4 c5 P0 H0
  go_wp2_with fail
  refine (HLd.out _ H1.out).mono ?_
  rintro en w2 ⟨f2, rfl, h2, s2⟩
  have P2 := Lib.hid (P1.out.step s2)
  have H2 := Lib.hid h2
  clear h2 s2 P1 H1 HLd
  obtain ⟨m0, m1, m2⟩ := P2.out.three
  go_wp2_with fail
  refine (HNw.out _).mono ?_
  rintro en w3 ⟨r, rfl, hr, ho, hb⟩
  have P3 := Lib.hid (P2.out.more hr hb)
  have L3 := Lib.hid (plm_ver (n := 100) H2.out HFw.out HFit.out hr ho hb)
  clear hr ho hb P2 H2 HNw m0 m1 m2
  go_wp2_with fail
  refine (ver_run (t := putT has val) L3.out HTx.out 9 (by omega) (by omega) (by omega)).mono ?_
  rintro en w4 ⟨f4, rfl, h4, s4⟩
  have P4 := Lib.hid (P3.out.step s4)
  have L4 := Lib.hid h4
  clear h4 s4 P3 L3
  go_wp2_with fail
  refine (plm_made L4.out rfl).mono ?_
  rintro en w5 ⟨rfl, rfl⟩
  obtain ⟨f5, h5, hsub⟩ := plm_heap L4.out
  have P5 := Lib.hid (P4.out.less hsub)
  have H5 := Lib.hid (show Hp _ B hp (D.add (blkV [ep, (b0 : Int), wordV has] (putT has val))) f5 from h5)
  clear h5 hsub P4 L4
  obtain ⟨c0, c1, c2, c3, c4, c5⟩ := P5.out.six
  go_wp2_with fail
  refine (HHd.out _).mono ?_
  rintro en w6 ⟨rfl, hb⟩
  have P6 := Lib.hid (P5.out.below hb)
  have H6 := Lib.hid (H5.out.below hb)
  clear hb c0 c1 c2 c3 c4 c5 P5 H5
  go_wp2_with fail
  refine (HSt.out _ _ H6.out).mono ?_
  rintro en w7 ⟨f7, rfl, h7, s7⟩
  have HE := Lib.hid (show HpR B hp f W (.int .u64 ((D.L.length + 1 : Nat) : Int)) (pushD D k ep has (putT has val)) (.returned (.int .u64 ((D.L.length + 1 : Nat) : Int))) w7 from ⟨f7, rfl, h7, P6.out.st.trans s7⟩)
  clear h7 s7
  go_wp2_with fail
  go_ret
  exact HE.out

end Go.Proofs.Ytpnfbabiibopnaa

/-! chain's routine: Passed. -/
namespace Go.Proofs.Ytpnfbabiibopnaa
open Go Go.RowKit
attribute [local go_sem ↓] Go.wp_at_zero Go.wp_at_succ

end Go.Proofs.Ytpnfbabiibopnaa

/-! Between two calls: the config's box, a heap with a control block, rows beside them; a version is pushed, a chain is read; and the chapter's example. -/
namespace Go.Proofs.Ytpnfbabiibopnaa
open Go Go.RowKit
attribute [local go_sem ↓] Go.wp_at_zero Go.wp_at_succ

section
variable {W X Y : World} {a p s q v x : Int} {B hp r m : Nat} {D : HpD} {ks : List (Nat × Obj)} {o : Obj} {E : ChnD} {k z : Int} {V : Nat → VsnD} {n : Nat}
/-- A routine that has done stays as it is. -/
theorem Rnf.rest (h : Rnf ChnM W a p s q v x B hp D ks r m E X) : Rnd W a p s q v x B hp D ((r, chnO E) :: ks) X := by
  obtain ⟨f, h1, h2⟩ := h.pl
  obtain ⟨fh, fr, h3, h4, h5, rfl, h6⟩ := h1
  have h4' : ChnAt X B r E fr := h4
  have hB := h.hB
  have hb := h4'.base
  refine ⟨h.cf, h.lo, hB, fh, h3, fun u hu => ?_⟩
  rcases List.mem_cons.1 hu with rfl | hu
  · exact ⟨h4'.own, by show W.heap.size < r; omega, fun hf => h5 _ hf (by rw [h4'.foot])⟩
  · exact ⟨(h2 u hu).1, (h2 u hu).2.1, fun hf => (h2 u hu).2.2 (.inl hf)⟩
theorem rnd_push (h : Rnd W a p s q v x B hp D ks X) (hS : Shl k z D V n) (hn : n ≤ 1000) {sh : Int} (hk : headW a p s q v sh = k) {ep : Int} (he : 0 ≤ ep ∧ ep < 18446744073709551616) (key : ByteArray) (has : Bool) {val : ByteArray} (hv : val.size ≤ 4096) :
    Calls Try.prog 31 #[.pointer (some ⟨hp, 0, none⟩), cfV a p s q v x, .int .i64 sh, .int .u64 ep, .agg #[.string key, .bool has, .string val]] X
      (fun e Y => e = .returned (.int .u64 ((D.L.length + 1 : Nat) : Int)) ∧ Rnd W a p s q v x B hp (pushD D k ep has (putT has val)) ks Y) := by
  obtain ⟨f, h1, h2⟩ := h.hh
  refine (push_any X h1 (hS.sho hn) a p s q v x sh hk ep he key has val hv).mono fun e Y hE => ?_
  obtain ⟨f', rfl, h3, st⟩ := hE
  exact ⟨rfl, h.turn h1 h2 h3 st⟩
theorem rnd_push2 (h : Rnd W a p s q v x B hp D ks X) (hS : Sho k z D) {sh : Int} (hk : headW a p s q v sh = k) {ep : Int} (he : 0 ≤ ep ∧ ep < 18446744073709551616) (key : ByteArray) (has : Bool) {val : ByteArray} (hv : val.size ≤ 4096) :
    Calls Try.prog 31 #[.pointer (some ⟨hp, 0, none⟩), cfV a p s q v x, .int .i64 sh, .int .u64 ep, .agg #[.string key, .bool has, .string val]] X
      (fun e Y => e = .returned (.int .u64 ((D.L.length + 1 : Nat) : Int)) ∧ Rnd W a p s q v x B hp (pushD D k ep has (putT has val)) ks Y) := by
  obtain ⟨f, h1, h2⟩ := h.hh
  refine (push_any X h1 hS a p s q v x sh hk ep he key has val hv).mono fun e Y hE => ?_
  obtain ⟨f', rfl, h3, st⟩ := hE
  exact ⟨rfl, h.turn h1 h2 h3 st⟩
def CnewQ (W : World) (a p s q v x : Int) (B hp : Nat) (D : HpD) (ks : List (Nat × Obj)) (m : Nat) (E : ChnD) (e : Ending) (Y : World) : Prop := ∃ r, e = .returned (.pointer (some ⟨r, 0, none⟩)) ∧ Rnf ChnM W a p s q v x B hp D ks r m E Y
theorem rnd_cnew (h : Rnd W a p s q v x B hp D ks X) (hF : FewD D m) {sh : Int} (hk : headW a p s q v sh = k) (h0 : 0 ≤ k ∧ k ≤ 100000) {ep : Int} (he : 0 ≤ ep ∧ ep < 18446744073709551616) :
    Calls Try.prog 94 #[cfV a p s q v x, .int .i64 sh, .int .u64 ep] X (CnewQ W a p s q v x B hp D ks m (newC k ep)) := by
  subst hk
  refine (cnew_any X a p s q v x sh ep h0.1).mono fun e Y hE => ?_
  obtain ⟨r, rfl, hr, ho, hb⟩ := hE
  have hs : B ≤ X.heap.size := by obtain ⟨f, h1, _⟩ := h.hh; exact h1.size
  exact ⟨r, rfl, h.start (M := ChnM) (fr := fun j => j = r) hF (show ChnAt Y B r _ _ from ⟨ho, rfl, Nat.le_trans hs hr, newC_fits (by omega) he⟩) (fun j hj => by omega) hb⟩
theorem rnf_crun {ep : Int} (h : Rnf ChnM W a p s q v x B hp D ks r m (newC k ep) X) (hS : Shl k z D V n) (hn : n ≤ 1000) (l : Nat) (h4 : 2 * n + 4 ≤ l) (hl : l ≤ 1000000) (hlm : l ≤ m) :
    Calls Try.prog 13 #[.pointer (some ⟨hp, 0, none⟩), .iface 88 (.pointer (some ⟨r, 0, none⟩)), .int .i64 (l : Int)] X
      (fun e Y => e = .returned (.tuple #[.int .i64 ((1 + actsC V ep n : Nat) : Int), .bool true]) ∧ Rnf ChnM W a p s q v x B hp D ks r (m - l) (endC k V ep n 0) Y) := by
  obtain ⟨b, hw, hd⟩ := hS.down
  obtain ⟨e1, e2⟩ := chain_alone (at_ := ep) hS.inn.1 hS.spot hw hd hn l h4
  refine (show Calls Try.prog 13 #[.pointer (some ⟨hp, 0, none⟩), .iface 88 (.pointer (some ⟨r, 0, none⟩)), .int .i64 (l : Int)] X _ from rnf_alone h l hl hlm).mono fun e Y he => ?_
  obtain ⟨rfl, h2⟩ := he
  rw [e1] at h2 ⊢
  rw [e2]
  exact ⟨rfl, h2⟩
theorem rnf_cres (h : Rnf ChnM W a p s q v x B hp D ks r m E X) (h6 : E.asks = 6) :
    Calls Try.prog 96 #[.pointer (some ⟨r, 0, none⟩)] X fun e Y => e = .returned (.tuple #[valV E.has E.text E.block, .bool true]) ∧ Rnd W a p s q v x B hp D ((r, chnO E) :: ks) Y := by
  have h1 := h.rest
  exact (cres_any X (h1.kept (List.mem_cons_self ..)) h6).mono fun e Y he => ⟨he.1, h1.below he.2⟩
end

/-! ### the example -/
abbrev awN : Nat → VsnD := fun j => if j = 0 then ⟨3, true, ⟨#[118]⟩, 2⟩ else ⟨6, false, ⟨#[]⟩, 3⟩
theorem awc_right : rightC 2 2 3 2 1 = true := by decide
theorem awc_head : headW 2 2 3 2 1 1 = 10 := by decide
theorem awc_s0 : Shl 10 13 (fieldD 13) awN 0 := Shl.start (k := 10) (z := 13) awN (by decide) (by decide)
theorem awc_s1 : Shl 10 13 (pushD (fieldD 13) 10 3 true ⟨#[118]⟩) awN 1 := awc_s0.push rfl (by decide) (by decide) (by decide)
theorem awc_s2 : Shl 10 13 (pushD (pushD (fieldD 13) 10 3 true ⟨#[118]⟩) 10 6 false ⟨#[]⟩) awN 2 := awc_s1.push rfl (by decide) (by decide) (by decide)

end Go.Proofs.Ytpnfbabiibopnaa
