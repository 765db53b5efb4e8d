/-
  The chapter's example.
-/
import Derived.Test.YtlgjolajnddpbaaDoorTextany
import Derived.Test.YtlgjolajnddpbaaDoorActready
namespace Go.Proofs.YtlgjolajnddpbaaDoor
open Go Go.Shelf Go.RowKit
attribute [local go_sem ↓] Go.wp_at_zero Go.wp_at_succ

/-- Blocks that lie as they lay, none of them the heap's. -/
def Keeps (l : List (Nat × Obj)) (f : Nat → Prop) (X : World) : Prop := ∀ q ∈ l, X.heap[q.1]? = some q.2 ∧ ¬ f q.1
section
variable {l : List (Nat × Obj)} {f f1 : Nat → Prop} {X Y : World}
theorem Keeps.nil : Keeps [] f X := fun _ h => by cases h
theorem Keeps.turn (h : Keeps l f X) (s : Step f f1 X Y) : Keeps l f1 Y := fun q hq =>
  ⟨(s.block _ (heap_at_lt (h q hq).1) (h q hq).2).trans (h q hq).1, s.off (heap_at_lt (h q hq).1) (h q hq).2⟩
theorem Keeps.below (h : Keeps l f X) (hb : Below X.heap.size X Y) : Keeps l f Y := fun q hq =>
  ⟨(hb.block _ (heap_at_lt (h q hq).1)).trans (h q hq).1, (h q hq).2⟩
theorem Keeps.add (h : Keeps l f X) (hlt : ∀ k, f k → k < X.heap.size) (o : Obj) : Keeps ((X.heap.size, o) :: l) f (X.alloc o) := fun q hq => by
  rcases List.mem_cons.1 hq with rfl | hq
  · exact ⟨World.alloc_heap_new X o, fun hf => absurd (hlt _ hf) (Nat.lt_irrefl _)⟩
  · exact h.below (below_alloc X o) q hq
theorem Keeps.cell {n i : Nat} {cs : Array Value} {t : TypeId} (h : Keeps l f X) (hm : (n, Obj.cells cs t (0, 0)) ∈ l) : X.cell? ⟨n, i, none⟩ = cs[i]? := cell_of (h _ hm).1
end

def xMake : ActD := ⟨5, 0, 3, 0, 0, ⟨#[116]⟩⟩
def xStore : ActD := ⟨2, 2, 0, 0, 5, ⟨#[]⟩⟩
def xLoad : ActD := ⟨1, 2, 0, 0, 0, ⟨#[]⟩⟩
def xWords : ActD := ⟨6, 2, 0, 0, 0, ⟨#[]⟩⟩
def xLock : ActD := ⟨8, 0, 0, 0, 0, ⟨#[]⟩⟩
def xLoad0 : ActD := ⟨1, 0, 0, 0, 0, ⟨#[]⟩⟩
theorem r_make : rightA xMake = true := by simp [rightA, zeroA, restA, xMake]; decide
theorem r_store : rightA xStore = true := by simp [rightA, zeroA, restA, xStore]; decide
theorem r_load : rightA xLoad = true := by simp [rightA, zeroA, restA, xLoad]; decide
theorem r_words : rightA xWords = true := by simp [rightA, zeroA, restA, xWords]; decide
theorem r_lock : rightA xLock = true := by simp [rightA, zeroA, restA, xLock]; decide
theorem r_load0 : rightA xLoad0 = true := by simp [rightA, zeroA, restA, xLoad0]; decide

def ad1 : HpD := ⟨[⟨[0], ⟨#[]⟩, false⟩], false, 0⟩
def ad2 : HpD := ⟨[⟨[0], ⟨#[]⟩, false⟩, ⟨[0, 0, 0], ⟨#[116]⟩, false⟩], false, 0⟩
def ad3 : HpD := ⟨[⟨[0], ⟨#[]⟩, false⟩, ⟨[5, 0, 0], ⟨#[116]⟩, false⟩], false, 0⟩
section
variable {B p : Nat} {f : Nat → Prop} {X : World}
theorem ak1 (h : Hp X B p emptyD f) : Calls Tryd.prog 24 #[.pointer (some ⟨p, 0, none⟩), .int .i64 1, .string ⟨#[]⟩] X (HpR B p f X (.int .u64 1) ad1) :=
  make_all X h (by decide) 1 ⟨#[]⟩ (by decide)
theorem ak2 (h : Hp X B p ad1 f) : Calls Tryd.prog 15 #[.pointer (some ⟨p, 0, none⟩), actV 5 0 3 0 0 ⟨#[116]⟩] X (HpR B p f X (gotV 2 ⟨#[]⟩) ad2) := by
  have := do_any X h (by decide) (by decide) xMake (by unfold ActD.fits xMake; decide)
  have e1 : doW ad1 xMake = 2 := by unfold doW; rw [r_make]; rfl
  have e2 : doT ad1 xMake = ⟨#[]⟩ := by unfold doT; rw [r_make]; rfl
  have e3 : doN ad1 xMake = ad2 := by unfold doN; rw [r_make]; rfl
  rw [e1, e2, e3] at this
  exact this
theorem ak3 (h : Hp X B p ad2 f) : Calls Tryd.prog 15 #[.pointer (some ⟨p, 0, none⟩), actV 2 2 0 0 5 ⟨#[]⟩] X (HpR B p f X (gotV 0 ⟨#[]⟩) ad3) := by
  have := do_any X h (by decide) (by decide) xStore (by unfold ActD.fits xStore; decide)
  have e1 : doW ad2 xStore = 0 := by unfold doW; rw [r_store]; rfl
  have e2 : doT ad2 xStore = ⟨#[]⟩ := by unfold doT; rw [r_store]; rfl
  have e3 : doN ad2 xStore = ad3 := by unfold doN; rw [r_store]; rfl
  rw [e1, e2, e3] at this
  exact this
theorem ak4 (h : Hp X B p ad3 f) : Calls Tryd.prog 15 #[.pointer (some ⟨p, 0, none⟩), actV 1 2 0 0 0 ⟨#[]⟩] X (HpR B p f X (gotV 5 ⟨#[]⟩) ad3) := by
  have := do_any X h (by decide) (by decide) xLoad (by unfold ActD.fits xLoad; decide)
  have e1 : doW ad3 xLoad = 5 := by unfold doW; rw [r_load]; rfl
  have e2 : doT ad3 xLoad = ⟨#[]⟩ := by unfold doT; rw [r_load]; rfl
  have e3 : doN ad3 xLoad = ad3 := by unfold doN; rw [r_load]; rfl
  rw [e1, e2, e3] at this
  exact this
theorem ak5 (h : Hp X B p ad3 f) : Calls Tryd.prog 15 #[.pointer (some ⟨p, 0, none⟩), actV 6 2 0 0 0 ⟨#[]⟩] X (HpR B p f X (gotV 0 ⟨#[116]⟩) ad3) := by
  have := do_any X h (by decide) (by decide) xWords (by unfold ActD.fits xWords; decide)
  have e1 : doW ad3 xWords = 0 := by unfold doW; rw [r_words]; rfl
  have e2 : doT ad3 xWords = ⟨#[116]⟩ := by unfold doT; rw [r_words]; rfl
  have e3 : doN ad3 xWords = ad3 := by unfold doN; rw [r_words]; rfl
  rw [e1, e2, e3] at this
  exact this
theorem ak6 (h : Hp X B p ad3 f) : Calls Tryd.prog 13 #[.pointer (some ⟨p, 0, none⟩), actV 8 0 0 0 0 ⟨#[]⟩] X (HpR B p f X (.bool true) ad3) := by
  have := ready_any X h (by decide) xLock (by unfold ActD.fits xLock; decide)
  have e1 : readyA ad3 xLock = true := by unfold readyA; rw [r_lock]; rfl
  rw [e1] at this
  exact this
end
theorem ak7 (X : World) (hT : Tabs X) : Calls Tryd.prog 22 #[actV 2 2 0 0 5 ⟨#[]⟩] X fun e W' => e = .returned (.string ⟨#[115, 116, 111, 114, 101, 32, 50, 32, 48, 32, 53]⟩) ∧ Below X.heap.size X W' := by
  have := text_any xStore (by unfold ActD.fits xStore; decide) X hT
  have e1 : textA xStore = ⟨#[115, 116, 111, 114, 101, 32, 50, 32, 48, 32, 53]⟩ := by
    unfold textA
    rw [r_store]
    have hp : partsA xStore = [nameA 2, digN 2, digN 0, digN 5] := by simp [partsA, xStore]
    have d2 : digN 2 = ⟨#[50]⟩ := by unfold digN; rw [Lib.decDigits_one (by decide)]; rfl
    have d0 : digN 0 = ⟨#[48]⟩ := by unfold digN; rw [Lib.decDigits_one (by decide)]; rfl
    have d5 : digN 5 = ⟨#[53]⟩ := by unfold digN; rw [Lib.decDigits_one (by decide)]; rfl
    rw [hp, d2, d0, d5]
    rfl
  rw [e1] at this
  exact this
theorem ak8 (X : World) : Calls Tryd.prog 9 #[actV 2 2 0 0 5 ⟨#[]⟩] X (Says true X) := by
  have := right_any 2 2 0 0 5 ⟨#[]⟩ X
  have e1 : rightA ⟨2, 2, 0, 0, 5, ⟨#[]⟩⟩ = true := r_store
  rw [e1] at this
  exact this
theorem ak9 (X : World) : Calls Tryd.prog 11 #[actV 1 0 0 0 0 ⟨#[]⟩] X (Says true X) := by
  have := looks_any 1 0 0 0 0 ⟨#[]⟩ X
  have e1 : looksA ⟨1, 0, 0, 0, 0, ⟨#[]⟩⟩ = true := by unfold looksA; rw [show rightA ⟨1, 0, 0, 0, 0, ⟨#[]⟩⟩ = true from r_load0]; rfl
  rw [e1] at this
  exact this

abbrev awk1 : Obj := .cells #[.int .u64 2, .string ⟨#[]⟩] 38
abbrev awk2 : Obj := .cells #[.int .i64 2, .int .u64 2, .int .i64 0, .int .u64 0, .int .u64 5, .string ⟨#[]⟩] 34
theorem awk_two {f : Nat → Prop} {X : World} (h : ∀ k, f k → k < X.heap.size) : Keeps [(X.heap.size + 1, awk2), (X.heap.size, awk1)] f ((X.alloc awk1).alloc awk2) := by
  have h1 := (Keeps.nil (X := X) (f := f)).add h awk1
  have h2 := h1.add (fun k hk => by have := h k hk; simp; omega) awk2
  simpa using h2
theorem awk_below (X : World) : Below X.heap.size X ((X.alloc awk1).alloc awk2) := (below_alloc X _).trans ((below_alloc _ _).mono (by simp))
theorem awk_cells {f : Nat → Prop} {X : World} {a b c : Nat} (h : Keeps [(a, .cells #[.int .u64 0, .string ⟨#[116]⟩] 38), (b, .cells #[.int .u64 5, .string ⟨#[]⟩] 38), (c + 1, awk2), (c, awk1)] f X) :
    X.cell? ⟨a, 1, none⟩ = some (.string ⟨#[116]⟩) ∧ X.cell? ⟨b, 0, none⟩ = some (.int .u64 5) ∧ X.cell? ⟨c, 0, none⟩ = some (.int .u64 2) ∧
    X.cell? ⟨c + 1, 0, none⟩ = some (.int .i64 2) ∧ X.cell? ⟨c + 1, 1, none⟩ = some (.int .u64 2) ∧ X.cell? ⟨c + 1, 2, none⟩ = some (.int .i64 0) ∧ X.cell? ⟨c + 1, 3, none⟩ = some (.int .u64 0) ∧ X.cell? ⟨c + 1, 4, none⟩ = some (.int .u64 5) ∧ X.cell? ⟨c + 1, 5, none⟩ = some (.string ⟨#[]⟩) := by
  have m1 := h _ (.head _)
  have m2 := h _ (.tail _ (.head _))
  have m3 := h _ (.tail _ (.tail _ (.head _)))
  have m4 := h _ (.tail _ (.tail _ (.tail _ (.head _))))
  exact ⟨(cell_of m1.1).trans rfl, (cell_of m2.1).trans rfl, (cell_of m4.1).trans rfl, (cell_of m3.1).trans rfl, (cell_of m3.1).trans rfl, (cell_of m3.1).trans rfl, (cell_of m3.1).trans rfl, (cell_of m3.1).trans rfl, (cell_of m3.1).trans rfl⟩
set_option maxRecDepth 100000 in
set_option maxHeartbeats 8000000 in
theorem awake_any (W : World) (hT : Tabs W) : Calls Tryd.prog 7 #[] W (Says true W) := by
  have HT := Lib.hid hT
  clear hT
  go_enter Tryd.func7, Tryd.ntmps7
  go_wp2_with fail
  refine (new_any _).mono ?_
  rintro en w1 ⟨p, f1, rfl, h1, hb1⟩
  have H1 := Lib.hid h1
  have B1 := Lib.hid hb1
  have F1 := Lib.hid h1.base
  clear h1 hb1
  go_wp2_with fail
  refine (ak1 H1.out).mono ?_
  rintro en w2 ⟨f2, rfl, h2, s2⟩
  have H2 := Lib.hid h2
  have S2 := Lib.hid s2
  clear h2 s2
  go_wp2_with fail
  refine (ak2 H2.out).mono ?_
  rintro en w3 ⟨f3, rfl, h3, s3⟩
  have H3 := Lib.hid h3
  have S3 := Lib.hid (S2.out.trans s3)
  have K3 := Lib.hid (awk_two h3.lt)
  have H3' := Lib.hid (h3.below (awk_below w3))
  have S3' := Lib.hid ((S2.out.trans s3).trans (Step.of_below (awk_below w3)))
  clear h3 s3
  go_wp2_with fail
  refine (ak3 H3'.out).mono ?_
  rintro en w4 ⟨f4, rfl, h4, s4⟩
  have K4 := Lib.hid (K3.out.turn s4)
  have H4 := Lib.hid h4
  have S4 := Lib.hid (S3'.out.trans s4)
  clear h4 s4
  go_wp2_with fail
  refine (ak4 H4.out).mono ?_
  rintro en w5 ⟨f5, rfl, h5, s5⟩
  have K5 := Lib.hid ((K4.out.turn s5).add h5.lt (.cells #[.int .u64 5, .string ⟨#[]⟩] 38))
  have H5 := Lib.hid (h5.below (below_alloc w5 (.cells #[.int .u64 5, .string ⟨#[]⟩] 38)))
  have S5 := Lib.hid ((S4.out.trans s5).trans (Step.of_below (below_alloc w5 (.cells #[.int .u64 5, .string ⟨#[]⟩] 38))))
  clear h5 s5
  go_wp2_with fail
  refine (ak5 H5.out).mono ?_
  rintro en w6 ⟨f6, rfl, h6, s6⟩
  have K6 := Lib.hid ((K5.out.turn s6).add h6.lt (.cells #[.int .u64 0, .string ⟨#[116]⟩] 38))
  have H6 := Lib.hid (h6.below (below_alloc w6 (.cells #[.int .u64 0, .string ⟨#[116]⟩] 38)))
  have S6 := Lib.hid ((S5.out.trans s6).trans (Step.of_below (below_alloc w6 (.cells #[.int .u64 0, .string ⟨#[116]⟩] 38))))
  clear h6 s6
  have HK := Lib.hid (fun X (hX : Below (w6.alloc (.cells #[.int .u64 0, .string ⟨#[116]⟩] 38)).heap.size (w6.alloc (.cells #[.int .u64 0, .string ⟨#[116]⟩] 38)) X) => awk_cells (K6.out.below hX))
  obtain ⟨c0, c1, c2, x0, x1, x2, x3, x4, x5⟩ := HK.out _ (Below.refl _ _)
  go_wp2_with fail
  have HT6 := Lib.hid ((HT.out.below B1.out).step S6.out (fun k hk => F1.out k (by have := HT.out.lt; omega)))
  refine (ak7 _ HT6.out).mono ?_
  rintro en w7 ⟨rfl, hb7⟩
  have B7 := Lib.hid hb7
  clear c0 c1 c2 x0 x1 x2 x3 x4 x5 hb7
  obtain ⟨c0, c1, c2, x0, x1, x2, x3, x4, x5⟩ := HK.out _ B7.out
  go_wp2_with fail
  refine (ak8 _).mono ?_
  rintro en w8 ⟨rfl, hb8⟩
  have B8 := Lib.hid (B7.out.trans (hb8.mono B7.out.size))
  clear c0 c1 c2 x0 x1 x2 x3 x4 x5 hb8
  go_wp2_with fail
  refine (ak6 (H6.out.below B8.out)).mono ?_
  rintro en w9 ⟨f9, rfl, h9, s9⟩
  have S9 := Lib.hid (S6.out.trans ((Step.of_below B8.out).trans s9))
  clear h9 s9
  go_wp2_with fail
  refine (ak9 _).mono ?_
  rintro en w10 ⟨rfl, hb10⟩
  have S10 := Lib.hid (S9.out.trans (Step.of_below hb10))
  clear hb10
  go_wp2_with fail
  go_ret
  exact Says.mk rfl (B1.out.trans (S10.out.below B1.out.size F1.out))

end Go.Proofs.YtlgjolajnddpbaaDoor
