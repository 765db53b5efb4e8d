/-
  The reference's Read on a tape: where the routine stands, it stands.
-/
import Derived.Test.YtpnfbabiibopnaaGreatRnrefw
import Derived.Test.YtpnfbabiibopnaaGreatQ16
import Derived.Test.YtpnfbabiibopnaaGreatRchref
import Derived.Test.YtpnfbabiibopnaaGreatQ20
import Derived.Test.YtpnfbabiibopnaaGreatRdlay
namespace Go.Proofs.YtpnfbabiibopnaaGreat
open Go Go.RowKit
attribute [local go_sem ↓] Go.wp_at_zero Go.wp_at_succ

/-! ### plain -/
theorem wrap64_wrap (a : Int) : wrap64 (wrap64 a + 1) = wrap64 (a + 1) := by unfold wrap64; omega
/-- Where it stands while it pins. -/
def inP (R : RdD) (k : Nat) (P : PinD) : RdD :=
  if P.part = 5 then
    (if P.taken then ⟨R.a, R.p, R.s, R.q, R.v, R.x, 5, P, R.fnd, R.chn, 11, false, ⟨#[]⟩, 0⟩
     else ⟨R.a, R.p, R.s, R.q, R.v, R.x, 2, P, R.fnd, R.chn, R.code, R.took, R.val, wrap64 (k : Int)⟩)
  else ⟨R.a, R.p, R.s, R.q, R.v, R.x, 1, P, R.fnd, R.chn, R.code, R.took, R.val, wrap64 (k : Int)⟩
theorem emb_pin (R : RdD) : Emb PinM RdM (inP R) (fun _ => True) := by
  refine ⟨fun k P _ hs => ?_, fun k P w t _ hs => ⟨?_, trivial⟩⟩
  · have h5 : P.part ≠ 5 := by have := nextP_part hs; omega
    unfold inP
    rw [if_neg h5]
    rfl
  · have h5 : P.part ≠ 5 := by have := nextP_part hs; omega
    have e : inP R k P = ⟨R.a, R.p, R.s, R.q, R.v, R.x, 1, P, R.fnd, R.chn, R.code, R.took, R.val, wrap64 (k : Int)⟩ := by unfold inP; rw [if_neg h5]
    rw [e]
    show pinnedR _ (takeP P w t) = inP R (k + 1) (takeP P w t)
    unfold pinnedR inP
    simp only [wrap64_wrap, Int.natCast_add, Int.cast_ofNat_Int]
/-- What is left ahead of the pin's giving back. -/
def FreR (G : List (Int × ByteArray)) (R0 : RdD) (T : TapD) (y : ActD) (tk : Bool) (vl : ByteArray) (mk : Int) : Prop :=
  Ovr RdM G R0 T ∨ ∃ R, Fol RdM G R0 T R ∧ R.part = 4 ∧ R.code = 0 ∧ R.took = tk ∧ R.val = vl ∧ R.mark = mk ∧ R.free = y
/-- What a reference's Read comes to. -/
def RdR (G : List (Int × ByteArray)) (R0 : RdD) (T : TapD) (cd : Int) (tk : Bool) (vl : ByteArray) (mk : Int) : Prop :=
  Ovr RdM G R0 T ∨ (T.over = false ∧ T.act = noAct ∧ ∃ R, fed RdM R0 G = R ∧ R.part = 5 ∧ R.code = cd ∧ R.took = tk ∧ R.val = vl ∧ R.mark = mk)
theorem FreR.free {G : List (Int × ByteArray)} {R0 : RdD} {T : TapD} {y : ActD} {tk : Bool} {vl : ByteArray} {mk : Int} (h : FreR G R0 T y tk vl mk) (hG : ∀ g ∈ G, (0 ≤ g.1 ∧ g.1 < 18446744073709551616)) : RdR G R0 (onT G T y) 0 tk vl mk := by
  rcases h with h | ⟨R, h, hp, h1, h2, h3, h4, h5⟩
  · rw [(h.stays y).1]; exact .inl h
  · rcases h.next (x := y) (by rw [RdM_next, nextR_4 hp, h5]) hG with ⟨ho, -, -⟩ | ⟨w, t, -, -, -, -, hf, -⟩
    · exact .inl ho
    · have e : RdM.take R w t = R.done := by rw [RdM_take, takeR_4 hp]
      rw [e] at hf
      exact .inr ⟨hf.on, hf.act, _, hf.done (show RdM.next R.done = none from nextR_5 (E := R.done) rfl), rfl, h1, h2, h3, h4⟩

/-! ### in memory -/
/-- The tape, and boxes that stay. -/
structure TapK (W : World) (b : Nat) (ga : Option Addr) (c : Nat) (G : List (Int × ByteArray)) (T : TapD) (ks : List (Nat × Obj)) (X : World) : Prop where
  tp : TapAt X b ga c G T
  st : Step (fun k => k = b) (fun k => k = b) W X
  kp : ∀ u ∈ ks, X.heap[u.1]? = some u.2 ∧ W.heap.size ≤ u.1
  lt : b < W.heap.size
section
variable {W X Y : World} {b c : Nat} {ga : Option Addr} {G : List (Int × ByteArray)} {T T' : TapD} {ks : List (Nat × Obj)}
theorem TapK.below (h : TapK W b ga c G T ks X) (hb : Below X.heap.size X Y) : TapK W b ga c G T ks Y :=
  ⟨h.tp.below hb, h.st.trans (Step.of_below hb), fun u hu => ⟨(hb.block _ (heap_at_lt (h.kp u hu).1)).trans (h.kp u hu).1, (h.kp u hu).2⟩, h.lt⟩
theorem TapK.add (h : TapK W b ga c G T ks X) (o : Obj) : TapK W b ga c G T ((X.heap.size, o) :: ks) (X.alloc o) := by
  have h' := h.below (below_alloc X o)
  exact ⟨h'.tp, h'.st, fun u hu => by
    rcases List.mem_cons.1 hu with rfl | hu
    · exact ⟨World.alloc_heap_new X o, h.st.size⟩
    · exact h'.kp u hu, h.lt⟩
theorem TapK.next (h : TapK W b ga c G T ks X) (ht : TapAt Y b ga c G T') (hs : Step (fun k => k = b) (fun k => k = b) X Y) : TapK W b ga c G T' ks Y :=
  ⟨ht, h.st.trans hs, fun u hu => ⟨(hs.block _ (heap_at_lt (h.kp u hu).1) (by have := (h.kp u hu).2; have := h.lt; omega)).trans (h.kp u hu).1, (h.kp u hu).2⟩, h.lt⟩
theorem TapK.few {ks' : List (Nat × Obj)} (h : TapK W b ga c G T ks X) (hs : ∀ u ∈ ks', u ∈ ks) : TapK W b ga c G T ks' X := ⟨h.tp, h.st, fun u hu => h.kp u (hs u hu), h.lt⟩
theorem TapK.kept (h : TapK W b ga c G T ks X) {g : Nat} {o : Obj} (hg : (g, o) ∈ ks) : X.heap[g]? = some o := (h.kp _ hg).1
/-- A box turns. -/
theorem TapK.turn {o o' : Obj} {g : Nat} (h : TapK W b ga c G T ((g, o) :: ks) X) (hga : ∀ a, ga = some a → a.block < W.heap.size) (hg : ∀ u ∈ ks, u.1 ≠ g) (hY : Y.heap[g]? = some o') (hst : Step (fun k => k = g) (fun k => k = g) X Y) : TapK W b ga c G T ((g, o') :: ks) Y := by
  obtain ⟨g1, g2⟩ := h.kp _ (List.mem_cons_self ..)
  simp only at g1 g2
  have hbg : b ≠ g := by have := h.lt; omega
  have hk : ∀ k, k < X.heap.size → k ≠ g → Y.heap[k]? = X.heap[k]? := fun k h1 h2 => hst.block k h1 h2
  refine ⟨⟨(hk b (heap_at_lt h.tp.own) hbg).trans h.tp.own, h.tp.row.apart (fun a ha => hk _ (by have := hga a ha; have := h.st.size; omega) (by have := hga a ha; omega)), h.tp.off, h.tp.k, h.tp.many⟩, ?_, fun w hw => ?_, h.lt⟩
  · exact ⟨hst.os.trans h.st.os, hst.tape.trans h.st.tape, hst.output.trans h.st.output, Nat.le_trans h.st.size hst.size, fun j h1 h2 => (hk j (Nat.lt_of_lt_of_le h1 h.st.size) (by omega)).trans (h.st.block j h1 h2), fun j hj => .inl hj⟩
  · rcases List.mem_cons.1 hw with rfl | hw
    · exact ⟨hY, g2⟩
    · exact ⟨(hk _ (heap_at_lt (h.kp w (List.mem_cons_of_mem _ hw)).1) (hg w hw)).trans (h.kp w (List.mem_cons_of_mem _ hw)).1, (h.kp w (List.mem_cons_of_mem _ hw)).2⟩
theorem rep_put {m : Nat} (h : X.heap[m]? = some (.cells #[.int .i64 0, .int .i64 0, .int .i64 0, .bool false, .string ⟨#[]⟩, .slice none 0 0, .int .i64 0, .slice none 0 0] 40 (0, 0))) (tk : Bool) (vl : ByteArray) :
    ((((((((X.setCell ⟨m, 0, none⟩ (.int .i64 0)).setCell ⟨m, 1, none⟩ (.int .i64 0)).setCell ⟨m, 2, none⟩ (.int .i64 0)).setCell ⟨m, 3, none⟩ (.bool tk)).setCell ⟨m, 4, none⟩ (.string vl)).setCell ⟨m, 5, none⟩ (.slice none 0 0)).setCell ⟨m, 6, none⟩ (.int .i64 0)).setCell ⟨m, 7, none⟩ (.slice none 0 0)).heap[m]? = some (.cells #[.int .i64 0, .int .i64 0, .int .i64 0, .bool tk, .string vl, .slice none 0 0, .int .i64 0, .slice none 0 0] 40 (0, 0)) ∧
    Step (fun k => k = m) (fun k => k = m) X ((((((((X.setCell ⟨m, 0, none⟩ (.int .i64 0)).setCell ⟨m, 1, none⟩ (.int .i64 0)).setCell ⟨m, 2, none⟩ (.int .i64 0)).setCell ⟨m, 3, none⟩ (.bool tk)).setCell ⟨m, 4, none⟩ (.string vl)).setCell ⟨m, 5, none⟩ (.slice none 0 0)).setCell ⟨m, 6, none⟩ (.int .i64 0)).setCell ⟨m, 7, none⟩ (.slice none 0 0)) := by
  have e0 := heap_setAt (o := 0) (u := .int .i64 0) h
  have e1 := heap_setAt (o := 1) (u := .int .i64 0) e0
  have e2 := heap_setAt (o := 2) (u := .int .i64 0) e1
  have e3 := heap_setAt (o := 3) (u := .bool tk) e2
  have e4 := heap_setAt (o := 4) (u := .string vl) e3
  have e5 := heap_setAt (o := 5) (u := .slice none 0 0) e4
  have e6 := heap_setAt (o := 6) (u := .int .i64 0) e5
  have e7 := heap_setAt (o := 7) (u := .slice none 0 0) e6
  simp only [List.setIfInBounds_toArray, List.set_cons_zero, List.set_cons_succ] at e7
  exact ⟨e7, (((((((Step.setCell (f := fun k => k = m) _ rfl).trans (Step.setCell _ rfl)).trans (Step.setCell _ rfl)).trans (Step.setCell _ rfl)).trans (Step.setCell _ rfl)).trans (Step.setCell _ rfl)).trans (Step.setCell _ rfl)).trans (Step.setCell _ rfl)⟩
theorem load_told {m : Nat} {cd mk : Int} {tk : Bool} {vl : ByteArray} (h : X.heap[m]? = some (toldO cd tk vl mk)) : (loadVar 42 ⟨m, 0, none⟩).run Tryz.prog X = .ok (toldV cd tk vl mk) X := by
  obtain ⟨⟨m0, m1, m2, m3, m4⟩, m5, m6, m7, m8, m9⟩ := told_at h
  go_simp
def RdrE (R0 : RdD) (b : Nat) (ga : Option Addr) (c : Nat) (G : List (Int × ByteArray)) (W : World) (e : Ending) (W' : World) : Prop :=
  ∃ (T : TapD) (cd : Int) (tk : Bool) (vl : ByteArray) (mk : Int), e = .returned (toldV cd tk vl mk) ∧ TapAt W' b ga c G T ∧ Step (fun k => k = b) (fun k => k = b) W W' ∧ RdR G R0 T cd tk vl mk
theorem told_frees {m : Nat} {cd mk : Int} {tk : Bool} {vl : ByteArray} (h : X.heap[m]? = some (toldO cd tk vl mk)) : X.frozen? ⟨m, 0, none⟩ = false ∧ X.frozen? ⟨m, 1, none⟩ = false ∧ X.frozen? ⟨m, 2, none⟩ = false ∧ X.frozen? ⟨m, 3, none⟩ = false ∧ X.frozen? ⟨m, 4, none⟩ = false ∧ X.frozen? ⟨m, 5, none⟩ = false ∧ X.frozen? ⟨m, 6, none⟩ = false ∧ X.frozen? ⟨m, 7, none⟩ = false ∧ X.frozen? ⟨m, 8, none⟩ = false ∧ X.frozen? ⟨m, 9, none⟩ = false :=
  ⟨told_free h 0, told_free h 1, told_free h 2, told_free h 3, told_free h 4, told_free h 5, told_free h 6, told_free h 7, told_free h 8, told_free h 9⟩
theorem rdr_fin {R0 : RdD} {m : Nat} (h : TapK W b ga c G T ((m, toldO 0 false ⟨#[]⟩ 0) :: ks) X) (hga : ∀ a, ga = some a → a.block < W.heap.size) {cd mk : Int} {tk : Bool} {vl : ByteArray} (hR : RdR G R0 T cd tk vl mk) {Z : Array Value} (hp : Z.getD 8 undef = .pointer (some ⟨m, 0, none⟩)) :
    bodyPost Tryz.prog Tryz.f10 (RdrE R0 b ga c G W) .ret { tmps := Z, defers := [] }
      ((((((((((X.setCell ⟨m, 0, none⟩ (.int .i64 cd)).setCell ⟨m, 1, none⟩ (.int .i64 0)).setCell ⟨m, 2, none⟩ (.int .i64 0)).setCell ⟨m, 3, none⟩ (.bool tk)).setCell ⟨m, 4, none⟩ (.string vl)).setCell ⟨m, 5, none⟩ (.slice none 0 0)).setCell ⟨m, 6, none⟩ (.int .i64 0)).setCell ⟨m, 7, none⟩ (.slice none 0 0)).setCell ⟨m, 8, none⟩ (.int .i64 mk)).setCell ⟨m, 9, none⟩ (.int .u64 0)) := by
  have e0 := heap_setAt (o := 0) (u := .int .i64 cd) (h.kept (List.mem_cons_self ..))
  have e1 := heap_setAt (o := 1) (u := .int .i64 0) e0
  have e2 := heap_setAt (o := 2) (u := .int .i64 0) e1
  have e3 := heap_setAt (o := 3) (u := .bool tk) e2
  have e4 := heap_setAt (o := 4) (u := .string vl) e3
  have e5 := heap_setAt (o := 5) (u := .slice none 0 0) e4
  have e6 := heap_setAt (o := 6) (u := .int .i64 0) e5
  have e7 := heap_setAt (o := 7) (u := .slice none 0 0) e6
  have e8 := heap_setAt (o := 8) (u := .int .i64 mk) e7
  have e9 := heap_setAt (o := 9) (u := .int .u64 0) e8
  simp only [List.setIfInBounds_toArray, List.set_cons_zero, List.set_cons_succ] at e9
  clear e0 e1 e2 e3 e4 e5 e6 e7 e8
  have hm := (h.kp _ (List.mem_cons_self ..)).2
  simp only at hm
  have hk : ∀ j, j ≠ m → ((((((((((X.setCell ⟨m, 0, none⟩ (.int .i64 cd)).setCell ⟨m, 1, none⟩ (.int .i64 0)).setCell ⟨m, 2, none⟩ (.int .i64 0)).setCell ⟨m, 3, none⟩ (.bool tk)).setCell ⟨m, 4, none⟩ (.string vl)).setCell ⟨m, 5, none⟩ (.slice none 0 0)).setCell ⟨m, 6, none⟩ (.int .i64 0)).setCell ⟨m, 7, none⟩ (.slice none 0 0)).setCell ⟨m, 8, none⟩ (.int .i64 mk)).setCell ⟨m, 9, none⟩ (.int .u64 0)).heap[j]? = X.heap[j]? := fun j hj => by
    rw [Below.heap_setCell _ _ _ _ hj, Below.heap_setCell _ _ _ _ hj, Below.heap_setCell _ _ _ _ hj, Below.heap_setCell _ _ _ _ hj, Below.heap_setCell _ _ _ _ hj, Below.heap_setCell _ _ _ _ hj, Below.heap_setCell _ _ _ _ hj, Below.heap_setCell _ _ _ _ hj, Below.heap_setCell _ _ _ _ hj, Below.heap_setCell _ _ _ _ hj]
  have hos : ((((((((((X.setCell ⟨m, 0, none⟩ (.int .i64 cd)).setCell ⟨m, 1, none⟩ (.int .i64 0)).setCell ⟨m, 2, none⟩ (.int .i64 0)).setCell ⟨m, 3, none⟩ (.bool tk)).setCell ⟨m, 4, none⟩ (.string vl)).setCell ⟨m, 5, none⟩ (.slice none 0 0)).setCell ⟨m, 6, none⟩ (.int .i64 0)).setCell ⟨m, 7, none⟩ (.slice none 0 0)).setCell ⟨m, 8, none⟩ (.int .i64 mk)).setCell ⟨m, 9, none⟩ (.int .u64 0)).heap.size = X.heap.size := by simp [World.setCell]
  have hst : Step (fun k => k = m) (fun k => k = m) X ((((((((((X.setCell ⟨m, 0, none⟩ (.int .i64 cd)).setCell ⟨m, 1, none⟩ (.int .i64 0)).setCell ⟨m, 2, none⟩ (.int .i64 0)).setCell ⟨m, 3, none⟩ (.bool tk)).setCell ⟨m, 4, none⟩ (.string vl)).setCell ⟨m, 5, none⟩ (.slice none 0 0)).setCell ⟨m, 6, none⟩ (.int .i64 0)).setCell ⟨m, 7, none⟩ (.slice none 0 0)).setCell ⟨m, 8, none⟩ (.int .i64 mk)).setCell ⟨m, 9, none⟩ (.int .u64 0)) :=
    (((((((((Step.setCell (f := fun k => k = m) _ rfl).trans (Step.setCell _ rfl)).trans (Step.setCell _ rfl)).trans (Step.setCell _ rfl)).trans (Step.setCell _ rfl)).trans (Step.setCell _ rfl)).trans (Step.setCell _ rfl)).trans (Step.setCell _ rfl)).trans (Step.setCell _ rfl)).trans (Step.setCell _ rfl)
  generalize ((((((((((X.setCell ⟨m, 0, none⟩ (.int .i64 cd)).setCell ⟨m, 1, none⟩ (.int .i64 0)).setCell ⟨m, 2, none⟩ (.int .i64 0)).setCell ⟨m, 3, none⟩ (.bool tk)).setCell ⟨m, 4, none⟩ (.string vl)).setCell ⟨m, 5, none⟩ (.slice none 0 0)).setCell ⟨m, 6, none⟩ (.int .i64 0)).setCell ⟨m, 7, none⟩ (.slice none 0 0)).setCell ⟨m, 8, none⟩ (.int .i64 mk)).setCell ⟨m, 9, none⟩ (.int .u64 0)) = Y at e9 hk hos hst ⊢
  exact bodyPost_ret (v := toldV cd tk vl mk) (by rw [results_cell1 (by rfl), hp]; simp only [asAddr, Sem.run_pure, Result.andThen_ok, load_told e9]) rfl ⟨T, cd, tk, vl, mk, rfl, ⟨(hk b (by have := h.lt; omega)).trans h.tp.own, h.tp.row.apart (fun a ha => hk _ (by have := hga a ha; omega)), h.tp.off, h.tp.k, h.tp.many⟩,
    ⟨hst.os.trans h.st.os, hst.tape.trans h.st.tape, hst.output.trans h.st.output, Nat.le_trans h.st.size hst.size, fun j h1 h2 => (hk j (by omega)).trans (h.st.block j h1 h2), fun j hj => .inl hj⟩, hR⟩
set_option maxRecDepth 100000 in
set_option maxHeartbeats 2000000 in
theorem rfree_any (h : TapAt X b ga c G T) (hga : ∀ a, ga = some a → a.block < X.heap.size) (a p s q v x pn : Int) (hr : rightC a p s q v = true) :
    Calls Tryz.prog 29 #[.pointer (some ⟨b, 0, none⟩), cfV a p s q v x, .int .i64 pn] X (TapR b ga c G (onT G T ⟨2, 1, pinW a p s q v pn, 0, 0, ⟨#[]⟩⟩) (.tuple #[]) X) := by
  have HAt := Lib.hid (fun (Y : World) => rat_pin a p s q v x pn Y hr)
  generalize pinW a p s q v pn = cc at HAt ⊢
  have X0 := Lib.hid (BoxC.start X a p s q v x)
  have HT := Lib.hid (h.below X0.out.lo)
  have HSt := Lib.hid (fun (Y : World) (hY : TapAt Y b ga c G T) (hs : X.heap.size ≤ Y.heap.size) => (by have := tape_store hY (fun y hy => Nat.lt_of_lt_of_le (hga y hy) hs) 1 cc 0; exact this :
    Calls Tryz.prog 60 #[.pointer (some ⟨b, 0, none⟩), .int .u64 1, .int .i64 cc, .int .u64 0] Y (TapR b ga c G (onT G T ⟨2, 1, cc, 0, 0, ⟨#[]⟩⟩) (.tuple #[]) Y)))
  obtain ⟨c0, c1, c2, c3, c4, c5⟩ := X0.out.six
  clear h hga hr
  go_enter Tryz.func29, Tryz.ntmps29
  go_wp2_with fail
  refine (HAt.out _).mono ?_
  rintro en w1 ⟨rfl, hb⟩
  have H1 := Lib.hid (HT.out.below hb)
  have B1 := Lib.hid (X0.out.lo.trans (hb.mono X0.out.lo.size))
  clear hb c0 c1 c2 c3 c4 c5
  go_wp2_with fail
  refine (HSt.out _ H1.out B1.out.size).mono ?_
  rintro en w2 ⟨rfl, h2, s2⟩
  have HE := Lib.hid (And.intro h2 ((Step.of_below B1.out).trans s2))
  clear h2 s2
  go_wp2_with fail
  go_end0
  exact ⟨rfl, HE.out.1, HE.out.2⟩
end
abbrev repO (tk : Bool) (vl : ByteArray) : Obj := .cells #[.int .i64 0, .int .i64 0, .int .i64 0, .bool tk, .string vl, .slice none 0 0, .int .i64 0, .slice none 0 0] 40 (0, 0)
theorem rep_at {X : World} {m : Nat} {tk : Bool} {vl : ByteArray} (h : X.heap[m]? = some (repO tk vl)) :
    (X.cell? ⟨m, 0, none⟩ = some (.int .i64 0) ∧ X.cell? ⟨m, 1, none⟩ = some (.int .i64 0) ∧ X.cell? ⟨m, 2, none⟩ = some (.int .i64 0) ∧ X.cell? ⟨m, 3, none⟩ = some (.bool tk) ∧ X.cell? ⟨m, 4, none⟩ = some (.string vl)) ∧ (X.cell? ⟨m, 5, none⟩ = some (.slice none 0 0) ∧ X.cell? ⟨m, 6, none⟩ = some (.int .i64 0) ∧ X.cell? ⟨m, 7, none⟩ = some (.slice none 0 0)) :=
  ⟨⟨(cell_of h).trans rfl, (cell_of h).trans rfl, (cell_of h).trans rfl, (cell_of h).trans rfl, (cell_of h).trans rfl⟩, (cell_of h).trans rfl, (cell_of h).trans rfl, (cell_of h).trans rfl⟩
theorem rep_free {X : World} {m : Nat} {tk : Bool} {vl : ByteArray} (h : X.heap[m]? = some (repO tk vl)) (i : Nat) : X.frozen? ⟨m, i, none⟩ = false := by simp [World.frozen?, h]

end Go.Proofs.YtpnfbabiibopnaaGreat
