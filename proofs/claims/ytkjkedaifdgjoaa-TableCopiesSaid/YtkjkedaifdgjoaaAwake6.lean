/-
  The chapter's example, and a map that is nil, as each of the statements asks them: they come out as the document says.
-/
import Derived.Test.YtkjkedaifdgjoaaLawfrom
import Derived.Test.YtkjkedaifdgjoaaRefput
namespace Go.Proofs.Ytkjkedaifdgjoaa
open Go Go.RowKit

/-- A table of the call's own: what lay ahead of block B is as it was in w. -/
structure Held (B : Nat) (w W : World) (p : Nat) (D : Pairs) (f : Nat → Prop) : Prop where
  tab : Tab W p D f
  below : Below B w W
  mine : ∀ k, f k → B ≤ k
  size : B ≤ w.heap.size

theorem Held.new (w : World) : Held w.heap.size w (w.alloc (.cells #[.slice none 0 0, .slice none 0 0] 28)) w.heap.size [] (fun k => k = w.heap.size) :=
  ⟨tab_new w, (Below.refl _ w).alloc (Nat.le_refl _) _, fun _ hk => Nat.le_of_eq hk.symm, Nat.le_refl _⟩
theorem Held.room {B : Nat} {w W : World} {p : Nat} {D : Pairs} {f : Nat → Prop} (h : Held B w W p D f) : B ≤ W.heap.size := Nat.le_trans h.size h.below.size
theorem Held.turned {B : Nat} {w W W' : World} {p : Nat} {D D' : Pairs} {f f' : Nat → Prop} (h : Held B w W p D f) (ht : Tab W' p D' f') (hs : Step f f' W W') : Held B w W' p D' f' :=
  ⟨ht, h.below.trans (hs.below h.room (fun k hk hf => absurd hk (Nat.not_lt.2 (h.mine k hf)))), fun k hk => (hs.foot k hk).elim (h.mine k) (fun h' => Nat.le_trans h.room h'), h.size⟩
theorem Held.grow {B : Nat} {w W W' : World} {p : Nat} {D : Pairs} {f : Nat → Prop} (h : Held B w W p D f) (hb : Below W.heap.size W W') : Held B w W' p D f :=
  ⟨h.tab.stays hb.size (fun k hk => hb.block k (h.tab.lt k hk)), h.below.trans (hb.mono h.room), h.mine, h.size⟩

theorem copy_nil (w : World) : Calls Try.prog 18 #[.pointer none] w fun e w' => e = .returned (.pointer none) ∧ w = w' := by
  go_enter Try.func18, Try.ntmps18
  go_wp2
  go_ret
  exact ⟨rfl, rfl⟩

theorem lt_ba : lt ⟨#[98]⟩ ⟨#[97]⟩ = false := by unfold lt; rw [ByteArray.toList_eq, ByteArray.toList_eq]; decide
theorem lt_ab : lt ⟨#[97]⟩ ⟨#[98]⟩ = true := by unfold lt; rw [ByteArray.toList_eq, ByteArray.toList_eq]; decide
theorem ex_one : putD [] ⟨#[98]⟩ ⟨#[49]⟩ = [(⟨#[98]⟩, ⟨#[49]⟩)] := rfl
theorem ex_two : putD [(⟨#[98]⟩, ⟨#[49]⟩)] ⟨#[97]⟩ ⟨#[50]⟩ = [(⟨#[97]⟩, ⟨#[50]⟩), (⟨#[98]⟩, ⟨#[49]⟩)] := by
  unfold putD
  rw [lt_ba]
  simp
theorem ex_rise : Rise [(⟨#[97]⟩, ⟨#[50]⟩), (⟨#[98]⟩, ⟨#[49]⟩)] := by rw [← ex_two]; exact Rise.put (by rw [← ex_one]; exact Rise.put Rise.nil _ _) _ _
theorem ex_from : (fromD [(⟨#[97]⟩, ⟨#[50]⟩), (⟨#[98]⟩, ⟨#[49]⟩)] ⟨#[98]⟩).take 9 = [(⟨#[98]⟩, ⟨#[49]⟩)] := by
  unfold fromD
  simp [lt_ab, lt_irrefl]

/-- What may be said of the world behind the call: true comes, and nothing that lay has turned. -/
def Yes (w : World) (e : Ending) (W' : World) : Prop := e = .returned (.bool true) ∧ Below w.heap.size w W'

theorem lies_lit (w : World) (a b : ByteArray) : Lies (w.alloc (.cells #[.string a, .string b] 42)) w.heap.size [(a, b)] := by
  intro j hj
  obtain rfl : j = 0 := by simpa using hj
  have h := heap_alloc_new w (.cells #[.string a, .string b] 42)
  exact ⟨(cell_of_row _ w.heap.size 0 _ _ _ h).trans rfl, (cell_of_row _ w.heap.size 1 _ _ _ h).trans rfl⟩

set_option maxRecDepth 100000 in
set_option maxHeartbeats 2000000 in
theorem awake_any (w : World) : Calls Try.prog 6 #[] w (Yes w) := by
  have HR2 := Lib.hid ex_rise
  go_enter Try.func6, Try.ntmps6
  go_wp2_with fail
  refine (new_any w).mono ?_
  rintro e w0 ⟨rfl, hw0⟩
  have H0 := Lib.hid (Held.new w)
  rw [← hw0] at H0
  clear hw0
  obtain ⟨p, hp⟩ : ∃ p, w.heap.size = p := ⟨_, rfl⟩
  have HP := Lib.hid hp
  rw [hp] at H0 ⊢
  clear hp
  go_wp2_with fail
  refine (put_any p [] _ ⟨#[98]⟩ ⟨#[49]⟩ w0 H0.out.tab Rise.nil (by simp) (by decide)).mono ?_
  rintro e w1 ⟨f1, rfl, ht1, hs1⟩
  have H1 := Lib.hid (H0.out.turned ht1 hs1)
  rw [ex_one] at H1
  clear ht1 hs1
  go_wp2_with fail
  refine (put_any p [(⟨#[98]⟩, ⟨#[49]⟩)] f1 ⟨#[97]⟩ ⟨#[50]⟩ w1 H1.out.tab (by rw [← ex_one]; exact Rise.put Rise.nil _ _) (by simp) (by decide)).mono ?_
  rintro e w2 ⟨f2, rfl, ht2, hs2⟩
  have H2 := Lib.hid (H1.out.turned ht2 hs2)
  rw [ex_two] at H2
  clear ht2 hs2
  go_wp2_with fail
  refine (key_in p _ f2 0 w2 H2.out.tab (by simp) (by simp)).mono ?_
  rintro e w' ⟨rfl, rfl⟩
  go_wp2_with fail
  refine (put_nil _ _ _).mono ?_
  rintro e w' ⟨rfl, rfl⟩
  go_wp2_with fail
  refine (get_nil _ _).mono ?_
  rintro e w' ⟨rfl, rfl⟩
  go_wp2_with fail
  refine (len_any p _ f2 _ H2.out.tab).mono ?_
  rintro e w' ⟨rfl, rfl⟩
  go_wp2_with fail
  refine (lawfrom_any p _ f2 _ 9 _ H2.out.tab HR2.out (by simp) (by omega)).mono ?_
  rw [ex_from]
  rintro e w3 ⟨g, cap, rfl, hr3, hb3⟩
  have H3 := Lib.hid (H2.out.grow hb3)
  have L3 := Lib.hid (Collected.lies hr3)
  clear hr3 hb3
  go_wp2_with fail
  refine (same_yes g cap w3.heap.size 1 [(⟨#[98]⟩, ⟨#[49]⟩)] _ (L3.out.1.stays (heap_alloc_old w3 _ _ L3.out.2.2)) (lies_lit w3 _ _) (by simp)).mono ?_
  rintro e w' ⟨rfl, q, rfl⟩
  have H4 := Lib.hid ((H3.out.grow ((Below.refl _ w3).alloc (Nat.le_refl _) (.cells #[.string ⟨#[98]⟩, .string ⟨#[49]⟩] 42))).grow (W' := (w3.alloc (.cells #[.string ⟨#[98]⟩, .string ⟨#[49]⟩] 42)).drewN q) ⟨rfl, rfl, rfl, Nat.le_refl _, fun _ _ => rfl⟩)
  obtain ⟨w4, hw4⟩ : ∃ w4, (w3.alloc (.cells #[.string ⟨#[98]⟩, .string ⟨#[49]⟩] 42)).drewN q = w4 := ⟨_, rfl⟩
  rw [hw4] at H4 ⊢
  clear hw4
  go_wp2_with fail
  refine (copy_nil _).mono ?_
  rintro e w' ⟨rfl, rfl⟩
  go_wp2_with fail
  refine (len_nil _).mono ?_
  rintro e w' ⟨rfl, rfl⟩
  go_wp2_with fail
  refine (lawfrom_nil _ 9 _ (by omega)).mono ?_
  rintro e w5 ⟨g5, cap5, rfl, hr5, hb5⟩
  have H5 := Lib.hid (H4.out.grow hb5)
  clear hr5 hb5
  go_wp2_with fail
  refine (del_nil _ _).mono ?_
  rintro e w' ⟨rfl, rfl⟩
  go_wp2_with fail
  go_ret
  have h5 := H5.out.below
  rw [← HP.out] at h5
  exact ⟨rfl, h5⟩

end Go.Proofs.Ytkjkedaifdgjoaa
