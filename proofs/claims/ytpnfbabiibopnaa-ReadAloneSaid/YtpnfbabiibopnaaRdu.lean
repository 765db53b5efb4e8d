/-
  read's routine: the closures that tell the next part, and Take.
-/
import Derived.Test.YtpnfbabiibopnaaRdt
namespace Go.Proofs.Ytpnfbabiibopnaa
open Go Go.RowKit
attribute [local go_sem ↓] Go.wp_at_zero Go.wp_at_succ

abbrev xO (r : Nat) : Obj := .cells #[.pointer (some ⟨r, 0, none⟩)] 38 (0, 0)
def ftR (r rp rf : Nat) (cn : Option Nat) (k : Nat) : Prop := k = r ∨ k = rp ∨ k = rf ∨ cn = some k
/-- In the middle of Take: the routine, those that it points to, the boxes of Take. -/
structure RMid (W : World) (r rp rf : Nat) (cn : Option Nat) (E : RdD) (rc : Option Addr) (w : Int) (t : ByteArray) (X : World) : Prop where
  own : X.heap[r]? = some (rdO E rp rf rc)
  pn : X.heap[rp]? = some (pnrO E.pin)
  fn : X.heap[rf]? = some (fndO E.fnd)
  ch : ∀ c, cn = some c → X.heap[c]? = some (chnO E.chn)
  bx : X.heap[W.heap.size]? = some (xO r)
  gt : X.heap[W.heap.size + 1]? = some (gotO w t)
  st : Step (ftR r rp rf cn) (ftR r rp rf cn) W X
  lt : r < W.heap.size ∧ rp < W.heap.size ∧ rf < W.heap.size ∧ ∀ c, cn = some c → c < W.heap.size
  ne : r ≠ rp ∧ r ≠ rf ∧ rp ≠ rf ∧ ∀ c, cn = some c → c ≠ r ∧ c ≠ rp ∧ c ≠ rf
section
variable {W X Y : World} {r rp rf : Nat} {cn : Option Nat} {E E' : RdD} {rc rc' : Option Addr} {w : Int} {t : ByteArray}
theorem RMid.below (h : RMid W r rp rf cn E rc w t X) (hb : Below X.heap.size X Y) : RMid W r rp rf cn E rc w t Y :=
  ⟨(hb.block _ (heap_at_lt h.own)).trans h.own, (hb.block _ (heap_at_lt h.pn)).trans h.pn, (hb.block _ (heap_at_lt h.fn)).trans h.fn, fun c e => (hb.block _ (heap_at_lt (h.ch c e))).trans (h.ch c e),
   (hb.block _ (heap_at_lt h.bx)).trans h.bx, (hb.block _ (heap_at_lt h.gt)).trans h.gt, h.st.trans (Step.of_below hb), h.lt, h.ne⟩
theorem RMid.set (h : RMid W r rp rf cn E rc w t X) (i : Nat) (u : Value) (e : (rdC E rp rf rc).setIfInBounds i u = rdC E' rp rf rc') (e1 : E'.pin = E.pin) (e2 : E'.fnd = E.fnd) (e3 : E'.chn = E.chn) : RMid W r rp rf cn E' rc' w t (X.setCell ⟨r, i, none⟩ u) := by
  have hk : ∀ k, k ≠ r → (X.setCell ⟨r, i, none⟩ u).heap[k]? = X.heap[k]? := fun k hk => Below.heap_setCell _ _ _ _ hk
  obtain ⟨l1, l2, l3, l4⟩ := h.lt
  obtain ⟨n1, n2, n3, n4⟩ := h.ne
  exact ⟨(heap_setAt h.own).trans (by rw [e]), by rw [e1]; exact (hk _ (Ne.symm n1)).trans h.pn, by rw [e2]; exact (hk _ (Ne.symm n2)).trans h.fn, fun c ec => by rw [e3]; exact (hk _ (n4 c ec).1).trans (h.ch c ec),
    (hk _ (by omega)).trans h.bx, (hk _ (by omega)).trans h.gt, h.st.trans (Step.setCell u (.inl rfl)), h.lt, h.ne⟩
def RdD.wp (E : RdD) (P : PinD) : RdD := ⟨E.a, E.p, E.s, E.q, E.v, E.x, E.part, P, E.fnd, E.chn, E.code, E.took, E.val, E.mark⟩
def RdD.wf (E : RdD) (F : FindR) : RdD := ⟨E.a, E.p, E.s, E.q, E.v, E.x, E.part, E.pin, F, E.chn, E.code, E.took, E.val, E.mark⟩
def RdD.wc (E : RdD) (C : ChnD) : RdD := ⟨E.a, E.p, E.s, E.q, E.v, E.x, E.part, E.pin, E.fnd, C, E.code, E.took, E.val, E.mark⟩
theorem RMid.pinS (h : RMid W r rp rf cn E rc w t X) {P : PinD} (ho : Y.heap[rp]? = some (pnrO P)) (hs : Step (fun k => k = rp) (fun k => k = rp) X Y) : RMid W r rp rf cn (E.wp P) rc w t Y := by
  obtain ⟨l1, l2, l3, l4⟩ := h.lt
  obtain ⟨n1, n2, n3, n4⟩ := h.ne
  exact ⟨(hs.block _ (heap_at_lt h.own) n1).trans h.own, ho, (hs.block _ (heap_at_lt h.fn) (Ne.symm n3)).trans h.fn, fun c e => (hs.block _ (heap_at_lt (h.ch c e)) (n4 c e).2.1).trans (h.ch c e),
    (hs.block _ (heap_at_lt h.bx) (by omega)).trans h.bx, (hs.block _ (heap_at_lt h.gt) (by omega)).trans h.gt,
    ⟨hs.os.trans h.st.os, hs.tape.trans h.st.tape, hs.output.trans h.st.output, Nat.le_trans h.st.size hs.size, fun k hk hf => (hs.block k (Nat.lt_of_lt_of_le hk h.st.size) (fun e => hf (.inr (.inl e)))).trans (h.st.block k hk hf), fun k hk => .inl hk⟩, h.lt, h.ne⟩
theorem RMid.fndS (h : RMid W r rp rf cn E rc w t X) {F : FindR} (ho : Y.heap[rf]? = some (fndO F)) (hs : Step (fun k => k = rf) (fun k => k = rf) X Y) : RMid W r rp rf cn (E.wf F) rc w t Y := by
  obtain ⟨l1, l2, l3, l4⟩ := h.lt
  obtain ⟨n1, n2, n3, n4⟩ := h.ne
  exact ⟨(hs.block _ (heap_at_lt h.own) n2).trans h.own, (hs.block _ (heap_at_lt h.pn) n3).trans h.pn, ho, fun c e => (hs.block _ (heap_at_lt (h.ch c e)) (n4 c e).2.2).trans (h.ch c e),
    (hs.block _ (heap_at_lt h.bx) (by omega)).trans h.bx, (hs.block _ (heap_at_lt h.gt) (by omega)).trans h.gt,
    ⟨hs.os.trans h.st.os, hs.tape.trans h.st.tape, hs.output.trans h.st.output, Nat.le_trans h.st.size hs.size, fun k hk hf => (hs.block k (Nat.lt_of_lt_of_le hk h.st.size) (fun e => hf (.inr (.inr (.inl e))))).trans (h.st.block k hk hf), fun k hk => .inl hk⟩, h.lt, h.ne⟩
theorem RMid.chnS {c : Nat} (h : RMid W r rp rf (some c) E rc w t X) {C : ChnD} (ho : Y.heap[c]? = some (chnO C)) (hs : Step (fun k => k = c) (fun k => k = c) X Y) : RMid W r rp rf (some c) (E.wc C) rc w t Y := by
  obtain ⟨l1, l2, l3, l4⟩ := h.lt
  obtain ⟨n1, n2, n3, n4⟩ := h.ne
  obtain ⟨m1, m2, m3⟩ := n4 c rfl
  have m4 := l4 c rfl
  exact ⟨(hs.block _ (heap_at_lt h.own) (Ne.symm m1)).trans h.own, (hs.block _ (heap_at_lt h.pn) (Ne.symm m2)).trans h.pn, (hs.block _ (heap_at_lt h.fn) (Ne.symm m3)).trans h.fn, fun c' e => by cases e; exact ho,
    (hs.block _ (heap_at_lt h.bx) (by omega)).trans h.bx, (hs.block _ (heap_at_lt h.gt) (by omega)).trans h.gt,
    ⟨hs.os.trans h.st.os, hs.tape.trans h.st.tape, hs.output.trans h.st.output, Nat.le_trans h.st.size hs.size, fun k hk hf => (hs.block k (Nat.lt_of_lt_of_le hk h.st.size) (fun e => hf (.inr (.inr (.inr (by rw [e])))))).trans (h.st.block k hk hf), fun k hk => .inl hk⟩, h.lt, h.ne⟩
theorem RMid.xbox (h : RMid W r rp rf cn E rc w t X) : X.cell? ⟨W.heap.size, 0, none⟩ = some (.pointer (some ⟨r, 0, none⟩)) := (cell_of h.bx).trans rfl
theorem RMid.start {B : Nat} (h : RdIn W B r E rp rf rc) (h3 : ∀ c, cn = some c → E.part = 3 ∧ rc = some ⟨c, 0, none⟩) (w : Int) (t : ByteArray) : RMid W r rp rf cn E rc w t ((W.alloc (xO r)).alloc (gotO w t)) := by
  have hb := (below_alloc W (xO r)).trans ((below_alloc (W.alloc (xO r)) (gotO w t)).mono (by simp))
  have h' := h.below hb
  have hg := World.alloc_heap_new (W.alloc (xO r)) (gotO w t)
  rw [World.size_alloc] at hg
  have hc : ∀ c, cn = some c → ((W.alloc (xO r)).alloc (gotO w t)).heap[c]? = some (chnO E.chn) ∧ c < W.heap.size ∧ c ≠ r ∧ c ≠ rp ∧ c ≠ rf := fun c e => by
    obtain ⟨p3, e3⟩ := h3 c e
    obtain ⟨c', e', ha, hn⟩ := h.ch p3
    rw [e'] at e3
    cases e3
    exact ⟨(hb.block _ (heap_at_lt ha.own)).trans ha.own, heap_at_lt ha.own, hn⟩
  exact ⟨h'.own, h'.pn.own, h'.fn.own, fun c e => (hc c e).1, ((below_alloc _ _).block _ (by simp)).trans (World.alloc_heap_new W _), hg, Step.of_below hb,
    ⟨heap_at_lt h.own, heap_at_lt h.pn.own, heap_at_lt h.fn.own, fun c e => (hc c e).2.1⟩, h.ne.1, h.ne.2.1, h.ne.2.2, fun c e => (hc c e).2.2⟩
end
def RtakeE (W : World) (r rp rf : Nat) (cn : Option Nat) (E : RdD) (rc : Option Addr) (w : Int) (t : ByteArray) (e : Ending) (W' : World) : Prop := e = .returned (.tuple #[]) ∧ RMid W r rp rf cn E rc w t W'
theorem rt1_ent (args : Array Value) (w : World) : (callFunc 91 args).run Try.prog w = .ok (.enter 91 args) w := enters_of Try.func91 (by kernel_rfl) rfl args w
theorem rt2_ent (args : Array Value) (w : World) : (callFunc 93 args).run Try.prog w = .ok (.enter 93 args) w := enters_of Try.func93 (by kernel_rfl) rfl args w
theorem rt3_ent (args : Array Value) (w : World) : (callFunc 97 args).run Try.prog w = .ok (.enter 97 args) w := enters_of Try.func97 (by kernel_rfl) rfl args w

/-! ### what comes behind pinning -/
def RdD.tooMany (E : RdD) : RdD := ⟨E.a, E.p, E.s, E.q, E.v, E.x, E.part, E.pin, E.fnd, E.chn, 11, false, ⟨#[]⟩, 0⟩

section
variable {W X : World} {r rp rf : Nat} {cn : Option Nat} {E : RdD} {rc : Option Addr} {w : Int} {t : ByteArray}
set_option maxRecDepth 100000 in
set_option maxHeartbeats 2000000 in
theorem rt1_not (h : RMid W r rp rf cn E rc w t X) {g : Nat} {n e : Int} (hg : X.heap[g]? = some (pndO n e false)) :
    Calls Try.prog 91 #[.pointer (some ⟨g, 0, none⟩), .pointer (some ⟨W.heap.size, 0, none⟩)] X fun e Y => e = .returned (.int .i64 2) ∧ RMid W r rp rf cn E rc w t Y := by
  obtain ⟨g0, g1, g2⟩ := pnd_at hg
  have HM := Lib.hid h
  clear h hg
  go_enter Try.func91, Try.ntmps91
  go_wp2_with fail
  go_ret
  exact ⟨rfl, HM.out⟩
set_option maxRecDepth 100000 in
set_option maxHeartbeats 2000000 in
theorem rt1_many (h : RMid W r rp rf cn E rc w t X) {g : Nat} {n e : Int} (hg : X.heap[g]? = some (pndO n e true)) :
    Calls Try.prog 91 #[.pointer (some ⟨g, 0, none⟩), .pointer (some ⟨W.heap.size, 0, none⟩)] X fun e Y => e = .returned (.int .i64 5) ∧ RMid W r rp rf cn E.tooMany rc w t Y := by
  obtain ⟨g0, g1, g2⟩ := pnd_at hg
  have hx := h.xbox
  have hz := rd_free h.own
  have z10 := hz 10
  have z11 := hz 11
  have z12 := hz 12
  have z13 := hz 13
  have z14 := hz 14
  have z15 := hz 15
  have z16 := hz 16
  have z17 := hz 17
  have z18 := hz 18
  have z19 := hz 19
  obtain ⟨-, -, ⟨c10, c11, c12, c13, c14, c15, c16, c17⟩, c18, c19⟩ := rd_at h.own
  have HM := Lib.hid (((((((((h.set 10 (.int .i64 11) (E' := ⟨E.a, E.p, E.s, E.q, E.v, E.x, E.part, E.pin, E.fnd, E.chn, 11, E.took, E.val, E.mark⟩) rfl rfl rfl rfl).set 11 (.int .i64 0) (rc' := rc) rfl rfl rfl rfl).set 12 (.int .i64 0) (rc' := rc) rfl rfl rfl rfl).set 13 (.bool false) (E' := ⟨E.a, E.p, E.s, E.q, E.v, E.x, E.part, E.pin, E.fnd, E.chn, 11, false, E.val, E.mark⟩) (rc' := rc) rfl rfl rfl rfl).set 14 (.string ⟨#[]⟩) (E' := ⟨E.a, E.p, E.s, E.q, E.v, E.x, E.part, E.pin, E.fnd, E.chn, 11, false, ⟨#[]⟩, E.mark⟩) (rc' := rc) rfl rfl rfl rfl).set 15 (.slice none 0 0) (rc' := rc) rfl rfl rfl rfl).set 16 (.int .i64 0) (rc' := rc) rfl rfl rfl rfl).set 17 (.slice none 0 0) (rc' := rc) rfl rfl rfl rfl).set 18 (.int .i64 0) (E' := E.tooMany) (rc' := rc) rfl rfl rfl rfl)
  have HN := Lib.hid (HM.out.set 19 (.int .u64 0) (E' := E.tooMany) (rc' := rc) rfl rfl rfl rfl)
  clear h hg hz
  go_enter Try.func91, Try.ntmps91
  go_wp2_with fail
  go_ret
  exact ⟨rfl, HN.out⟩
end

/-! ### what comes behind looking for the key -/
section
variable {W X : World} {r rp rf : Nat} {cn : Option Nat} {E : RdD} {rc : Option Addr} {w : Int} {t : ByteArray}
theorem fou_at {g : Nat} {k s : Int} (h : X.heap[g]? = some (fouO k s)) : X.cell? ⟨g, 0, none⟩ = some (.int .i64 k) ∧ X.cell? ⟨g, 1, none⟩ = some (.int .i64 s) := ⟨(cell_of h).trans rfl, (cell_of h).trans rfl⟩
set_option maxRecDepth 100000 in
set_option maxHeartbeats 2000000 in
theorem rt2_not (h : RMid W r rp rf cn E rc w t X) {g : Nat} {k s : Int} (hg : X.heap[g]? = some (fouO k s)) (hk : k ≠ 1) :
    Calls Try.prog 93 #[.pointer (some ⟨g, 0, none⟩), .pointer (some ⟨W.heap.size, 0, none⟩)] X fun e Y => e = .returned (.int .i64 4) ∧ RMid W r rp rf cn E rc w t Y := by
  obtain ⟨g0, g1⟩ := fou_at hg
  have hkb : (k != 1) = true := by simpa using hk
  have HM := Lib.hid h
  clear h hg hk
  go_enter Try.func93, Try.ntmps93
  go_wp2_with fail
  go_ret
  exact ⟨rfl, HM.out⟩
end
/-- What the region that makes the chain's routine reads. -/
def LooksT (b r g m : Nat) (E : RdD) (sh : Int) (X : World) : Prop := X.cell? ⟨b, 0, none⟩ = some (.pointer (some ⟨r, 0, none⟩)) ∧ X.cell? ⟨r, 0, none⟩ = some (.int .i64 E.a) ∧ X.cell? ⟨r, 1, none⟩ = some (.int .i64 E.p) ∧ X.cell? ⟨r, 2, none⟩ = some (.int .i64 E.s) ∧ X.cell? ⟨r, 3, none⟩ = some (.int .i64 E.q) ∧ X.cell? ⟨r, 4, none⟩ = some (.int .i64 E.v) ∧ X.cell? ⟨r, 5, none⟩ = some (.int .u64 E.x) ∧ X.cell? ⟨g, 1, none⟩ = some (.int .i64 sh) ∧ X.cell? ⟨m, 1, none⟩ = some (.int .u64 E.pin.ep)
theorem RMid.looks {W X : World} {r rp rf : Nat} {cn : Option Nat} {E : RdD} {rc : Option Addr} {w : Int} {t : ByteArray} (h : RMid W r rp rf cn E rc w t X) {g m : Nat} {k sh n : Int} {tk : Bool} (hg : X.heap[g]? = some (fouO k sh)) (hm : X.heap[m]? = some (pndO n E.pin.ep tk)) : LooksT W.heap.size r g m E sh X := by
  obtain ⟨⟨c0, c1, c2, c3, c4, c5⟩, -, -, -⟩ := rd_at h.own
  exact ⟨h.xbox, c0, c1, c2, c3, c4, c5, (fou_at hg).2, (pnd_at hm).2.1⟩
/-- A chain's routine was made. -/
def Chained (W : World) (r rp rf : Nat) (E : RdD) (C : ChnD) (w : Int) (t : ByteArray) (X : World) : Prop := ∃ c, W.heap.size ≤ c ∧ X.heap[c]? = some (chnO C) ∧ RMid W r rp rf none E (some ⟨c, 0, none⟩) w t X

set_option maxRecDepth 100000 in
set_option maxHeartbeats 4000000 in
theorem rt2_here {W X : World} {r rp rf : Nat} {E : RdD} {rc : Option Addr} {w : Int} {t : ByteArray} (h : RMid W r rp rf none E rc w t X) {g : Nat} {s : Int} (hg : X.heap[g]? = some (fouO 1 s)) (hgg : W.heap.size < g) (hp5 : E.pin.part = 5) (hh : 0 ≤ headW E.a E.p E.s E.q E.v s) :
    Calls Try.prog 93 #[.pointer (some ⟨g, 0, none⟩), .pointer (some ⟨W.heap.size, 0, none⟩)] X fun e Y => e = .returned (.int .i64 3) ∧ Chained W r rp rf E (newC (headW E.a E.p E.s E.q E.v s) E.pin.ep) w t Y := by
  obtain ⟨g0, g1⟩ := fou_at hg
  have hx := h.xbox
  have HRs := Lib.hid (pres_any X h.pn)
  unfold PresE at HRs
  rw [show resP E.pin = ((E.pin.pn, E.pin.ep, E.pin.taken), true) from if_pos hp5] at HRs
  obtain ⟨-, ⟨-, c7, -, -⟩, -, -⟩ := rd_at h.own
  have HNw := Lib.hid (fun Y => cnew_any Y E.a E.p E.s E.q E.v E.x s E.pin.ep hh)
  obtain ⟨C, hC⟩ : ∃ C, newC (headW E.a E.p E.s E.q E.v s) E.pin.ep = C := ⟨_, rfl⟩
  rw [hC] at HNw ⊢
  have HM := Lib.hid h
  have HG := Lib.hid hg
  clear h hg hp5 hh hC
  go_enter Try.func93, Try.ntmps93
  go_wp2_with fail
  refine HRs.out.mono ?_
  rintro en w1 ⟨rfl, hb⟩
  have hb2 := hb.trans ((below_alloc w1 (pndO E.pin.pn E.pin.ep E.pin.taken)).mono hb.size)
  have HM1 := Lib.hid (HM.out.below hb2)
  have HG1 := Lib.hid ((hb2.block _ (heap_at_lt HG.out)).trans HG.out)
  have HD1 := Lib.hid (World.alloc_heap_new w1 (pndO E.pin.pn E.pin.ep E.pin.taken))
  have HMw := Lib.hid (show W.heap.size ≤ w1.heap.size from Nat.le_trans HM.out.st.size hb.size)
  clear hb hb2 g0 g1 hx c7 HRs HM HG
  go_wp2_with fail
  obtain ⟨m, hm⟩ : ∃ m, w1.heap.size = m := ⟨_, rfl⟩
  rw [hm] at HD1 HMw ⊢
  generalize w1.alloc (pndO E.pin.pn E.pin.ep E.pin.taken) = w2 at HM1 HG1 HD1 ⊢
  clear hm
  have HS := Lib.hid (show LooksT W.heap.size r g m E s w2.drew from (HM1.out.below (below_drew _)).looks (X := w2.drew) HG1.out HD1.out)
  refine wp_region_held_drew (S := fun X => X.cell? ⟨W.heap.size, 0, none⟩ = some (.pointer (some ⟨r, 0, none⟩)) ∧ X.cell? ⟨r, 0, none⟩ = some (.int .i64 E.a) ∧ X.cell? ⟨r, 1, none⟩ = some (.int .i64 E.p) ∧ X.cell? ⟨r, 2, none⟩ = some (.int .i64 E.s) ∧ X.cell? ⟨r, 3, none⟩ = some (.int .i64 E.q) ∧ X.cell? ⟨r, 4, none⟩ = some (.int .i64 E.v) ∧ X.cell? ⟨r, 5, none⟩ = some (.int .u64 E.x) ∧ X.cell? ⟨g, 1, none⟩ = some (.int .i64 s) ∧ X.cell? ⟨m, 1, none⟩ = some (.int .u64 E.pin.ep)) (by kernel_rfl) HS.out (fun _ => ?_)
  refine (fun h => h) ?_
  refine wpAnyH_look (i := 0) (v := ?v0) 16 rfl (by kernel_rfl) (by kernel_rfl) (by kernel_rfl) (fun _ _ _ _ h => h) (by rfl) HS.out (Or.inl ⟨by rfl, ?y0⟩) ?r0
  case y0 => intro w hSw; (try dsimp only at hSw); go_simp; (try with_reducible rfl)
  simp only [List.setIfInBounds_toArray, List.set_cons_zero, List.set_cons_succ]
  refine wpAnyH_look (i := 1) (v := ?v1) 17 rfl (by kernel_rfl) (by kernel_rfl) (by kernel_rfl) (fun _ _ _ _ h => h) (by rfl) HS.out (Or.inl ⟨by rfl, ?y1⟩) ?r1
  case y1 => intro w hSw; (try dsimp only at hSw); go_simp; (try with_reducible rfl)
  simp only [List.setIfInBounds_toArray, List.set_cons_zero, List.set_cons_succ]
  refine wpAnyH_look (i := 2) (v := ?v2) 18 rfl (by kernel_rfl) (by kernel_rfl) (by kernel_rfl) (fun _ _ _ _ h => h) (by rfl) HS.out (Or.inl ⟨by rfl, ?y2⟩) ?r2
  case y2 => intro w hSw; (try dsimp only at hSw); go_simp; (try with_reducible rfl)
  simp only [List.setIfInBounds_toArray, List.set_cons_zero, List.set_cons_succ]
  refine wpAnyH_look (i := 3) (v := ?v3) 19 rfl (by kernel_rfl) (by kernel_rfl) (by kernel_rfl) (fun _ _ _ _ h => h) (by rfl) HS.out (Or.inl ⟨by rfl, ?y3⟩) ?r3
  case y3 => intro w hSw; (try dsimp only at hSw); go_simp; (try with_reducible rfl)
  simp only [List.setIfInBounds_toArray, List.set_cons_zero, List.set_cons_succ]
  refine wpAnyH_look (i := 4) (v := ?v4) 20 rfl (by kernel_rfl) (by kernel_rfl) (by kernel_rfl) (fun _ _ _ _ h => h) (by rfl) HS.out (Or.inl ⟨by rfl, ?y4⟩) ?r4
  case y4 => intro w hSw; (try dsimp only at hSw); go_simp; (try with_reducible rfl)
  simp only [List.setIfInBounds_toArray, List.set_cons_zero, List.set_cons_succ]
  refine wpAnyH_look (i := 5) (v := ?v5) 21 rfl (by kernel_rfl) (by kernel_rfl) (by kernel_rfl) (fun _ _ _ _ h => h) (by rfl) HS.out (Or.inl ⟨by rfl, ?y5⟩) ?r5
  case y5 => intro w hSw; (try dsimp only at hSw); go_simp; (try with_reducible rfl)
  simp only [List.setIfInBounds_toArray, List.set_cons_zero, List.set_cons_succ]
  refine wpAnyH_look (i := 6) (v := ?v6) 22 rfl (by kernel_rfl) (by kernel_rfl) (by kernel_rfl) (fun _ _ _ _ h => h) (by rfl) HS.out (Or.inl ⟨by rfl, ?y6⟩) ?r6
  case y6 => intro w hSw; (try dsimp only at hSw); go_simp; (try with_reducible rfl)
  simp only [List.setIfInBounds_toArray, List.set_cons_zero, List.set_cons_succ]
  refine wpAnyH_look (i := 7) (v := ?v7) 23 rfl (by kernel_rfl) (by kernel_rfl) (by kernel_rfl) (fun _ _ _ _ h => h) (by rfl) HS.out (Or.inl ⟨by rfl, ?y7⟩) ?r7
  case y7 => intro w hSw; (try dsimp only at hSw); go_simp; (try with_reducible rfl)
  simp only [List.setIfInBounds_toArray, List.set_cons_zero, List.set_cons_succ]
  refine wpAnyH_look (i := 8) (v := ?v8) 24 rfl (by kernel_rfl) (by kernel_rfl) (by kernel_rfl) (fun _ _ _ _ h => h) (by rfl) HS.out (Or.inl ⟨by rfl, ?y8⟩) ?r8
  case y8 => intro w hSw; (try dsimp only at hSw); go_simp; (try with_reducible rfl)
  simp only [List.setIfInBounds_toArray, List.set_cons_zero, List.set_cons_succ]
  refine wpAnyH_ready (rs := [9]) (by kernel_rfl) (by simp) ?_
  refine AllReadyH.cons rfl (fun K hK => ?_) AllReadyH.nil
  go_simp
  go_at_call 94
  refine (HNw.out _).mono ?_
  rintro en x1 ⟨c, rfl, hc, ho, hb⟩
  have HM2 := Lib.hid ((HM1.out.below (below_drew _)).below hb)
  have HG2 := Lib.hid ((hb.block _ (heap_at_lt (show w2.drew.heap[g]? = _ from HG1.out))).trans HG1.out)
  have HD2 := Lib.hid ((hb.block _ (heap_at_lt (show w2.drew.heap[m]? = _ from HD1.out))).trans HD1.out)
  have HC2 := Lib.hid (And.intro (show W.heap.size ≤ c from Nat.le_trans HM1.out.st.size hc) ho)
  have HS := Lib.hid (HM2.out.looks HG2.out HD2.out)
  clear hb hc ho
  go_simp
  refine hK.out _ _ HS.out (fun _ => ?_)
  clear hK K
  refine wpAnyH_look (i := 10) (v := ?v10) 26 rfl (by kernel_rfl) (by kernel_rfl) (by kernel_rfl) (fun _ _ _ _ h => h) (by rfl) HS.out (Or.inl ⟨by rfl, ?y10⟩) ?r10
  case y10 => intro w hSw; (try dsimp only at hSw); go_simp; (try with_reducible rfl)
  simp only [List.setIfInBounds_toArray, List.set_cons_zero, List.set_cons_succ]
  refine wpAnyH_look (i := 11) (v := ?v11) 27 rfl (by kernel_rfl) (by kernel_rfl) (by kernel_rfl) (fun _ _ _ _ h => h) (by rfl) HS.out (Or.inl ⟨by rfl, ?y11⟩) ?r11
  case y11 => intro w hSw; (try dsimp only at hSw); go_simp; (try with_reducible rfl)
  simp only [List.setIfInBounds_toArray, List.set_cons_zero, List.set_cons_succ]
  have z9 := rd_free HM2.out.own 9
  have c9 := (rd_at HM2.out.own).2.1.2.2.2
  have HM3 := Lib.hid (HM2.out.set 9 (.pointer (some ⟨c, 0, none⟩)) (E' := E) (rc' := some ⟨c, 0, none⟩) rfl rfl rfl rfl)
  have hcr : c ≠ r := by have := HC2.out.1; have := HM2.out.lt.1; omega
  have HCC := Lib.hid (show W.heap.size ≤ c ∧ (x1.setCell ⟨r, 9, none⟩ (.pointer (some ⟨c, 0, none⟩))).heap[c]? = some (chnO C) from ⟨HC2.out.1, (Below.heap_setCell _ _ _ _ hcr).trans HC2.out.2⟩)
  have hgr : g ≠ r := by have := HM2.out.lt.1; omega
  have HGr := Lib.hid (show (x1.setCell ⟨r, 9, none⟩ (.pointer (some ⟨c, 0, none⟩))).heap[g]? = _ ∧ (m ≠ r → (x1.setCell ⟨r, 9, none⟩ (.pointer (some ⟨c, 0, none⟩))).heap[m]? = some (pndO E.pin.pn E.pin.ep E.pin.taken)) from ⟨(Below.heap_setCell _ _ _ _ hgr).trans HG2.out, fun hmr => (Below.heap_setCell _ _ _ _ hmr).trans HD2.out⟩)
  have hmr : m ≠ r := by have := HM2.out.lt.1; have := HMw.out; omega
  refine wpAnyH_ready (rs := [12]) (by kernel_rfl) (by simp) ?_
  refine AllReadyH.cons rfl (fun K hK => ?_) AllReadyH.nil
  go_simp
  have HS := Lib.hid (HM3.out.looks HGr.out.1 (HGr.out.2 hmr))
  refine hK.out _ _ HS.out (fun _ => ?_)
  clear hK K
  refine ⟨by kernel_rfl, ?_⟩
  go_wp2_with fail
  go_ret
  exact ⟨rfl, c, HCC.out.1, HCC.out.2, HM3.out⟩

/-! ### what comes behind the chain -/
def LooksU (b r g : Nat) (hs : Bool) (tx : ByteArray) (X : World) : Prop := X.cell? ⟨b, 0, none⟩ = some (.pointer (some ⟨r, 0, none⟩)) ∧ X.cell? ⟨g, 0, none⟩ = some (.bool hs) ∧ X.cell? ⟨g, 1, none⟩ = some (.string tx)
def RdD.read (E : RdD) (hs : Bool) (tx : ByteArray) : RdD := ⟨E.a, E.p, E.s, E.q, E.v, E.x, E.part, E.pin, E.fnd, E.chn, E.code, hs, tx, E.mark⟩
theorem RMid.looksU {W X : World} {r rp rf : Nat} {cn : Option Nat} {E : RdD} {rc : Option Addr} {w : Int} {t : ByteArray} (h : RMid W r rp rf cn E rc w t X) {g : Nat} {hs : Bool} {tx : ByteArray} {b : Int} (hg : X.heap[g]? = some (valO hs tx b)) : LooksU W.heap.size r g hs tx X := ⟨h.xbox, (val_at hg).1, (val_at hg).2.1⟩

set_option maxRecDepth 100000 in
set_option maxHeartbeats 4000000 in
theorem rt3_any {W X : World} {r rp rf : Nat} {cn : Option Nat} {E : RdD} {rc : Option Addr} {w : Int} {t : ByteArray} (h : RMid W r rp rf cn E rc w t X) {g : Nat} {hs : Bool} {tx : ByteArray} {b : Int} (hg : X.heap[g]? = some (valO hs tx b)) (hgr : g ≠ r) :
    Calls Try.prog 97 #[.pointer (some ⟨g, 0, none⟩), .pointer (some ⟨W.heap.size, 0, none⟩)] X fun e Y => e = .returned (.int .i64 4) ∧ RMid W r rp rf cn (E.read hs tx) rc w t Y := by
  have HM := Lib.hid (h.below (below_drew X))
  have HG := Lib.hid (show X.drew.heap[g]? = some (valO hs tx b) from hg)
  have HS := Lib.hid (show LooksU W.heap.size r g hs tx X.drew from HM.out.looksU HG.out)
  clear h hg
  go_enter Try.func97, Try.ntmps97
  go_wp2_with fail
  refine wp_region_held_drew (S := fun X => X.cell? ⟨W.heap.size, 0, none⟩ = some (.pointer (some ⟨r, 0, none⟩)) ∧ X.cell? ⟨g, 0, none⟩ = some (.bool hs) ∧ X.cell? ⟨g, 1, none⟩ = some (.string tx)) (by kernel_rfl) HS.out (fun _ => ?_)
  refine (fun h => h) ?_
  refine wpAnyH_look (i := 0) (v := ?v0) 3 rfl (by kernel_rfl) (by kernel_rfl) (by kernel_rfl) (fun _ _ _ _ h => h) (by rfl) HS.out (Or.inl ⟨by rfl, ?y0⟩) ?r0
  case y0 => intro w hSw; (try dsimp only at hSw); go_simp; (try with_reducible rfl)
  simp only [List.setIfInBounds_toArray, List.set_cons_zero, List.set_cons_succ]
  refine wpAnyH_look (i := 1) (v := ?v1) 4 rfl (by kernel_rfl) (by kernel_rfl) (by kernel_rfl) (fun _ _ _ _ h => h) (by rfl) HS.out (Or.inl ⟨by rfl, ?y1⟩) ?r1
  case y1 => intro w hSw; (try dsimp only at hSw); go_simp; (try with_reducible rfl)
  simp only [List.setIfInBounds_toArray, List.set_cons_zero, List.set_cons_succ]
  refine wpAnyH_look (i := 2) (v := ?v2) 5 rfl (by kernel_rfl) (by kernel_rfl) (by kernel_rfl) (fun _ _ _ _ h => h) (by rfl) HS.out (Or.inl ⟨by rfl, ?y2⟩) ?r2
  case y2 => intro w hSw; (try dsimp only at hSw); go_simp; (try with_reducible rfl)
  simp only [List.setIfInBounds_toArray, List.set_cons_zero, List.set_cons_succ]
  refine wpAnyH_look (i := 3) (v := ?v3) 6 rfl (by kernel_rfl) (by kernel_rfl) (by kernel_rfl) (fun _ _ _ _ h => h) (by rfl) HS.out (Or.inl ⟨by rfl, ?y3⟩) ?r3
  case y3 => intro w hSw; (try dsimp only at hSw); go_simp; (try with_reducible rfl)
  simp only [List.setIfInBounds_toArray, List.set_cons_zero, List.set_cons_succ]
  refine wpAnyH_look (i := 4) (v := ?v4) 7 rfl (by kernel_rfl) (by kernel_rfl) (by kernel_rfl) (fun _ _ _ _ h => h) (by rfl) HS.out (Or.inl ⟨by rfl, ?y4⟩) ?r4
  case y4 => intro w hSw; (try dsimp only at hSw); go_simp; (try with_reducible rfl)
  simp only [List.setIfInBounds_toArray, List.set_cons_zero, List.set_cons_succ]
  refine wpAnyH_look (i := 5) (v := ?v5) 8 rfl (by kernel_rfl) (by kernel_rfl) (by kernel_rfl) (fun _ _ _ _ h => h) (by rfl) HS.out (Or.inl ⟨by rfl, ?y5⟩) ?r5
  case y5 => intro w hSw; (try dsimp only at hSw); go_simp; (try with_reducible rfl)
  simp only [List.setIfInBounds_toArray, List.set_cons_zero, List.set_cons_succ]
  refine wpAnyH_look (i := 6) (v := ?v6) 9 rfl (by kernel_rfl) (by kernel_rfl) (by kernel_rfl) (fun _ _ _ _ h => h) (by rfl) HS.out (Or.inl ⟨by rfl, ?y6⟩) ?r6
  case y6 => intro w hSw; (try dsimp only at hSw); go_simp; (try with_reducible rfl)
  simp only [List.setIfInBounds_toArray, List.set_cons_zero, List.set_cons_succ]
  refine wpAnyH_look (i := 7) (v := ?v7) 10 rfl (by kernel_rfl) (by kernel_rfl) (by kernel_rfl) (fun _ _ _ _ h => h) (by rfl) HS.out (Or.inl ⟨by rfl, ?y7⟩) ?r7
  case y7 => intro w hSw; (try dsimp only at hSw); go_simp; (try with_reducible rfl)
  simp only [List.setIfInBounds_toArray, List.set_cons_zero, List.set_cons_succ]
  refine wpAnyH_look (i := 8) (v := ?v8) 11 rfl (by kernel_rfl) (by kernel_rfl) (by kernel_rfl) (fun _ _ _ _ h => h) (by rfl) HS.out (Or.inl ⟨by rfl, ?y8⟩) ?r8
  case y8 => intro w hSw; (try dsimp only at hSw); go_simp; (try with_reducible rfl)
  simp only [List.setIfInBounds_toArray, List.set_cons_zero, List.set_cons_succ]
  refine wpAnyH_look (i := 9) (v := ?v9) 12 rfl (by kernel_rfl) (by kernel_rfl) (by kernel_rfl) (fun _ _ _ _ h => h) (by rfl) HS.out (Or.inl ⟨by rfl, ?y9⟩) ?r9
  case y9 => intro w hSw; (try dsimp only at hSw); go_simp; (try with_reducible rfl)
  simp only [List.setIfInBounds_toArray, List.set_cons_zero, List.set_cons_succ]
  generalize X.drew = X1 at HM HG HS ⊢
  have z13 := rd_free HM.out.own 13
  have c13 := (rd_at HM.out.own).2.2.1.2.2.2.1
  have HM1 := Lib.hid (HM.out.set 13 (.bool hs) (E' := ⟨E.a, E.p, E.s, E.q, E.v, E.x, E.part, E.pin, E.fnd, E.chn, E.code, hs, E.val, E.mark⟩) (rc' := rc) rfl rfl rfl rfl)
  have HG1 := Lib.hid (show (X1.setCell ⟨r, 13, none⟩ (.bool hs)).heap[g]? = some (valO hs tx b) from (Below.heap_setCell _ _ _ _ hgr).trans HG.out)
  refine wpAnyH_ready (rs := [10]) (by kernel_rfl) (by simp) ?_
  refine AllReadyH.cons rfl (fun K hK => ?_) AllReadyH.nil
  go_simp
  have HS := Lib.hid (HM1.out.looksU HG1.out)
  refine hK.out _ _ HS.out (fun _ => ?_)
  clear hK K
  generalize X1.setCell ⟨r, 13, none⟩ (.bool hs) = X2 at HM1 HG1 HS ⊢
  refine wpAnyH_look (i := 11) (v := ?v11) 13 rfl (by kernel_rfl) (by kernel_rfl) (by kernel_rfl) (fun _ _ _ _ h => h) (by rfl) HS.out (Or.inl ⟨by rfl, ?y11⟩) ?r11
  case y11 => intro w hSw; (try dsimp only at hSw); go_simp; (try with_reducible rfl)
  simp only [List.setIfInBounds_toArray, List.set_cons_zero, List.set_cons_succ]
  refine wpAnyH_look (i := 12) (v := ?v12) 14 rfl (by kernel_rfl) (by kernel_rfl) (by kernel_rfl) (fun _ _ _ _ h => h) (by rfl) HS.out (Or.inl ⟨by rfl, ?y12⟩) ?r12
  case y12 => intro w hSw; (try dsimp only at hSw); go_simp; (try with_reducible rfl)
  simp only [List.setIfInBounds_toArray, List.set_cons_zero, List.set_cons_succ]
  refine wpAnyH_look (i := 13) (v := ?v13) 15 rfl (by kernel_rfl) (by kernel_rfl) (by kernel_rfl) (fun _ _ _ _ h => h) (by rfl) HS.out (Or.inl ⟨by rfl, ?y13⟩) ?r13
  case y13 => intro w hSw; (try dsimp only at hSw); go_simp; (try with_reducible rfl)
  simp only [List.setIfInBounds_toArray, List.set_cons_zero, List.set_cons_succ]
  refine wpAnyH_look (i := 14) (v := ?v14) 16 rfl (by kernel_rfl) (by kernel_rfl) (by kernel_rfl) (fun _ _ _ _ h => h) (by rfl) HS.out (Or.inl ⟨by rfl, ?y14⟩) ?r14
  case y14 => intro w hSw; (try dsimp only at hSw); go_simp; (try with_reducible rfl)
  simp only [List.setIfInBounds_toArray, List.set_cons_zero, List.set_cons_succ]
  have z14 := rd_free HM1.out.own 14
  have c14 := (rd_at HM1.out.own).2.2.1.2.2.2.2.1
  have HM2 := Lib.hid (HM1.out.set 14 (.string tx) (E' := E.read hs tx) (rc' := rc) rfl rfl rfl rfl)
  have HG2 := Lib.hid (show (X2.setCell ⟨r, 14, none⟩ (.string tx)).heap[g]? = some (valO hs tx b) from (Below.heap_setCell _ _ _ _ hgr).trans HG1.out)
  refine wpAnyH_ready (rs := [15]) (by kernel_rfl) (by simp) ?_
  refine AllReadyH.cons rfl (fun K hK => ?_) AllReadyH.nil
  go_simp
  have HS := Lib.hid (HM2.out.looksU HG2.out)
  refine hK.out _ _ HS.out (fun _ => ?_)
  clear hK K
  refine ⟨by kernel_rfl, ?_⟩
  go_wp2_with fail
  go_ret
  exact ⟨rfl, HM2.out⟩

end Go.Proofs.Ytpnfbabiibopnaa
