/-
  The chapter's example; what is asked of a row that is nil.
-/
import Derived.Test.YtkfnndhoccjffaaRowdrop
namespace Go.Proofs.Ytkfnndhoccjffaa
open Go Go.RowKit
attribute [local go_sem ↓] Go.wp_at_zero Go.wp_at_succ

/-- A slice of names in a block of its own is none of a row's. -/
theorem Rowp.ids {W : World} {B p most n : Nat} {E : List ED} {f : Nat → Prop} {pl : Option Addr} {nl cl : Nat} {L : List IdD} (h : Rowp W B p most n E f) (hL : Lot W 34 2 (.slice pl nl cl) nl (flatI L)) (hn : L.length = nl) :
    ∀ X, W.heap.size ≤ X.heap.size → (∀ k, k < W.heap.size → ¬ f k → X.heap[k]? = W.heap[k]?) → Si X pl L := by
  intro X _ hX
  obtain ⟨R, ev, b, h⟩ := h
  refine Lot.si (n := nl) (c := cl) (hL.stays (fun k hk => hX k (hL.lt k hk) (fun hfk => ?_))) hn
  obtain ⟨cur, hc⟩ := hL.tag hk
  rw [h.foot] at hfk
  rcases hfk with rfl | hfk | rfl
  · rw [h.own] at hc; cases hc
  · obtain ⟨cur', hc'⟩ := h.lot.tag hfk
    rw [hc'] at hc; cases hc
  · obtain ⟨es, c, hc'⟩ := h.names.tag
    rw [hc'] at hc; cases hc
theorem Lot.one {W : World} {e : TypeId} {cs : List Value} {size : Nat} (hs : cs.length = 1 * size) : Lot (W.alloc (.cells cs.toArray e)) e size (.slice (some ⟨W.heap.size, 0, none⟩) 1 1) 1 cs :=
  ⟨hs, .inr ⟨W.heap.size, 1, cs.toArray, rfl, World.alloc_heap_new W _, Nat.le_refl _, by unfold maxLen; omega, by simp [hs], by rw [← hs]; simp⟩⟩
theorem Rowp.below {W W' : World} {B p most n : Nat} {E : List ED} {f : Nat → Prop} (h : Rowp W B p most n E f) (hb : Below W.heap.size W W') : Rowp W' B p most n E f := by
  obtain ⟨R, ev, b, h⟩ := h; exact ⟨R, ev, b, h.below hb⟩

/-- An entry of no parts. -/
def bareE (a : IdD) : ED := ⟨a, [], []⟩
def bareV (a : IdD) : EV := ⟨a, none, 0, 0, none, 0, 0⟩
theorem bare_ent (W : World) (a : IdD) : Ent W (bareV a) (bareE a) := ⟨rfl, Sg.nil _ _, Ss.nil _ _, rfl, rfl⟩
theorem bare_fits {a : IdD} (h : a.fits) : (bareE a).fits := ⟨h, (fun _ h => by cases h), (fun _ h => by cases h), Nat.zero_le _, Nat.zero_le _⟩

/-- Add of an entry of no parts. -/
theorem addrow_bare (B p most n : Nat) (E : List ED) (f : Nat → Prop) (a : IdD) (W : World) (h : Rowp W B p most n E f) (ha : a.fits) (hn : n ≤ 1000000) (r : Bool) (E' : List ED) (hr : okD most E (bareE a) = r) (hE : addD most E (bareE a) = E') :
    Calls Try.prog 10 #[.pointer (some ⟨p, 0, none⟩), .agg #[.int .i64 a.o, .int .i64 a.s, .slice none 0 0, .slice none 0 0]] W fun en W' => en = .returned (.bool r) ∧ ∃ f', Rowp W' B p most (n + 1) E' f' ∧ Step f f' W W' := by
  subst hr hE
  refine (addrow_any B p most n E f (bareV a) (bareE a) W h (bare_ent W a) (bare_fits ha) hn).mono ?_
  rintro en W' ⟨f', rfl, h1, h2⟩
  exact ⟨rfl, f', h1, h2⟩

theorem fits_small {o s : Int} (h1 : 0 ≤ o) (h2 : o ≤ 1000) (h3 : 0 ≤ s) (h4 : s ≤ 1000) : (⟨o, s⟩ : IdD).fits := ⟨⟨by show _ ≤ o; omega, by show o ≤ _; omega⟩, by show _ ≤ s; omega, by show s ≤ _; omega⟩

set_option maxHeartbeats 4000000 in
theorem awake_any (W : World) : Calls Try.prog 7 #[] W (Says true W) := by
  have e2 : clampD 2 = 2 := by decide
  go_enter Try.func7, Try.ntmps7
  go_wp2_with fail
  refine (new_any 2 _).mono ?_
  rintro en w1 ⟨p, f1, rfl, h1, hb1⟩
  rw [e2] at h1
  have H1 := Lib.hid h1
  have S1 := Lib.hid (Step.of_below (f := fun _ => False) hb1)
  have B1 := Lib.hid hb1
  have F1 := Lib.hid (show ∀ k, k < W.heap.size → ¬ f1 k from by
    obtain ⟨R, ev, b, h⟩ := h1
    intro k hk hf; have := h.base k hf; omega)
  clear h1 hb1
  go_wp2_with fail
  refine (addrow_bare W.heap.size p 2 0 [] f1 ⟨0, 1⟩ _ H1.out (fits_small (by omega) (by omega) (by omega) (by omega)) (by omega) true [bareE ⟨0, 1⟩] (by decide) (by rfl)).mono ?_
  rintro en w2 ⟨rfl, f2, h2, s2⟩
  have H2 := Lib.hid h2
  have S2 := Lib.hid s2
  clear h2 s2
  go_wp2_with fail
  refine (addrow_bare W.heap.size p 2 1 [bareE ⟨0, 1⟩] f2 ⟨0, 2⟩ _ H2.out (fits_small (by omega) (by omega) (by omega) (by omega)) (by omega) true [bareE ⟨0, 1⟩, bareE ⟨0, 2⟩] (by decide) (by rfl)).mono ?_
  rintro en w3 ⟨rfl, f3, h3, s3⟩
  have H3 := Lib.hid h3
  have S3 := Lib.hid (S2.out.trans s3)
  clear h3 s3
  go_wp2_with fail
  refine (addrow_bare W.heap.size p 2 2 [bareE ⟨0, 1⟩, bareE ⟨0, 2⟩] f3 ⟨0, 3⟩ _ H3.out (fits_small (by omega) (by omega) (by omega) (by omega)) (by omega) false [bareE ⟨0, 1⟩, bareE ⟨0, 2⟩] (by decide) (by rfl)).mono ?_
  rintro en w4 ⟨rfl, f4, h4, s4⟩
  have H4 := Lib.hid (h4.below (below_alloc w4 (.cells #[.int .i64 0, .int .i64 1] 34)))
  have S4 := Lib.hid ((S3.out.trans s4).trans (Step.of_below (below_alloc w4 (.cells #[.int .i64 0, .int .i64 1] 34))))
  have HL := Lib.hid (Lot.one (W := w4) (e := 34) (cs := [.int .i64 0, .int .i64 1]) (size := 2) rfl)
  clear h4 s4
  go_wp2_with fail
  have hd := drop_any W.heap.size p 2 3 [bareE ⟨0, 1⟩, bareE ⟨0, 2⟩] f4 (some ⟨w4.heap.size, 0, none⟩) 1 1 [⟨0, 1⟩] _ H4.out (H4.out.ids HL.out rfl) rfl (by omega) (fun a ha => by rw [List.mem_singleton.1 ha]; exact fits_small (by omega) (by omega) (by omega) (by omega))
  refine hd.mono ?_
  rintro en w5 ⟨f5, rfl, h5, s5⟩
  have e5 : withoutD [bareE ⟨0, 1⟩, bareE ⟨0, 2⟩] [⟨0, 1⟩] = [bareE ⟨0, 2⟩] := by rfl
  rw [e5] at h5
  rw [e5]
  have H5 := Lib.hid h5
  have S5 := Lib.hid (S4.out.trans s5)
  clear h5 s5
  go_wp2_with fail
  refine (addrow_bare W.heap.size p 2 3 [bareE ⟨0, 2⟩] f5 ⟨0, 3⟩ _ H5.out (fits_small (by omega) (by omega) (by omega) (by omega)) (by omega) true [bareE ⟨0, 2⟩, bareE ⟨0, 3⟩] (by decide) (by rfl)).mono ?_
  rintro en w6 ⟨rfl, f6, h6, s6⟩
  have H6 := Lib.hid h6
  have HB6 := Lib.hid (B1.out.trans ((S5.out.trans s6).below B1.out.size F1.out))
  clear h6 s6
  go_wp2_with fail
  refine (len_any W.heap.size p 2 4 [bareE ⟨0, 2⟩, bareE ⟨0, 3⟩] f6 _ H6.out).mono ?_
  rintro en w7 ⟨rfl, rfl⟩
  go_wp2_with fail
  refine (room_any W.heap.size p 2 4 [bareE ⟨0, 2⟩, bareE ⟨0, 3⟩] f6 _ H6.out).mono ?_
  rintro en w7 ⟨rfl, hb7⟩
  have HB7 := Lib.hid (HB6.out.trans (hb7.mono HB6.out.size))
  clear hb7 H6 HB6
  go_wp2_with fail
  refine (addrow_nil ⟨⟨0, 0⟩, none, 0, 0, none, 0, 0⟩ _).mono ?_
  rintro en w8 ⟨rfl, hb8⟩
  have HB8 := Lib.hid (HB7.out.trans (hb8.mono HB7.out.size))
  clear hb8 HB7
  go_wp2_with fail
  refine (drop_nil none 0 0 _).mono ?_
  rintro en w9 ⟨rfl, rfl⟩
  go_wp2_with fail
  refine (all_nil _).mono ?_
  rintro en w9 ⟨rfl, rfl⟩
  go_wp2_with fail
  refine (room_nil _).mono ?_
  rintro en w9 ⟨rfl, rfl⟩
  go_wp2_with fail
  refine (hasrow_nil 0 0 _).mono ?_
  rintro en w9 ⟨rfl, hb9⟩
  have HB9 := Lib.hid (HB8.out.trans (hb9.mono HB8.out.size))
  clear hb9 HB8
  go_wp2_with fail
  go_ret
  exact Says.mk rfl HB9.out

end Go.Proofs.Ytkfnndhoccjffaa
