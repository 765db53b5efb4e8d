/-
  The chapter's example; what is asked of a box that is nil.
-/
import Derived.Test.YtofkllokmecfgaaBoxr
namespace Go.Proofs.Ytofkllokmecfgaa
open Go Go.RowKit
attribute [local go_sem ↓] Go.wp_at_zero Go.wp_at_succ

theorem push_is (B p most : Nat) (ov : Bool) (L : List ChD) (f : Nat → Prop) (c : ChD) (W : World) (h : Boxp W B p most ov L f) (hc : c.fits) (r : Bool) (L' : List ChD) (hr : fullD most ov L = r) (hL : pushD most ov L c = L') :
    Calls Try.prog 10 #[.pointer (some ⟨p, 0, none⟩), .agg #[.string c.key, .bool c.has, .string c.val]] W fun e W' => e = .returned (.bool (!r)) ∧ ∃ f', Boxp W' B p most r L' f' ∧ Step f f' W W' := by
  subst hr hL
  refine (push_any B p most ov L f c W h hc).mono ?_
  rintro en W' ⟨f', rfl, h1, h2⟩
  exact ⟨rfl, f', h1, h2⟩
theorem take_is (B p most : Nat) (ov : Bool) (L : List ChD) (n : Int) (f : Nat → Prop) (W : World) (h : Boxp W B p most ov L f) (hno : ov = true → L ≠ []) (k : Nat) (L1 L2 : List ChD) (hk : takeN n L.length = k) (h1 : L.take k = L1) (h2 : L.drop k = L2) :
    Calls Try.prog 12 #[.pointer (some ⟨p, 0, none⟩), .int .i64 n] W fun e W' => ∃ q f', e = .returned (.tuple #[.slice q k k, .bool true]) ∧ Boxp W' B p most ov L2 f' ∧ Step f f' W W' ∧ Sc W' q L1 := by
  subst hk h1 h2
  exact take_any B p most ov L n f W h hno
theorem len_is (B p most : Nat) (ov : Bool) (L : List ChD) (f : Nat → Prop) (W : World) (h : Boxp W B p most ov L f) (c : Nat) (hc : L.length = c) :
    Calls Try.prog 15 #[.pointer (some ⟨p, 0, none⟩)] W fun e W' => e = .returned (.int .i64 c) ∧ W = W' := by
  subst hc; exact len_any B p most ov L f W h

def kA : ByteArray := ⟨#[97]⟩
def kB : ByteArray := ⟨#[98]⟩
def kN : ByteArray := ⟨#[]⟩

set_option maxHeartbeats 4000000 in
theorem awake_any (W : World) : Calls Try.prog 6 #[] W (Says true W) := by
  have e1 : clampD 1 = 1 := by decide
  go_enter Try.func6, Try.ntmps6
  go_wp2_with fail
  refine (new_any 1 _).mono ?_
  rintro en w1 ⟨p, f1, rfl, h1, hb1⟩
  rw [e1] at h1
  have H1 := Lib.hid h1
  have B1 := Lib.hid hb1
  have F1 := Lib.hid h1.base
  clear h1 hb1
  go_wp2_with fail
  refine (push_is W.heap.size p 1 false [] f1 ⟨⟨#[97]⟩, false, ⟨#[]⟩⟩ _ H1.out ⟨by decide, by decide⟩ false [⟨⟨#[97]⟩, false, ⟨#[]⟩⟩] (by decide) (by rfl)).mono ?_
  rintro en w2 ⟨rfl, f2, h2, s2⟩
  have H2 := Lib.hid h2
  have S2 := Lib.hid s2
  clear h2 s2
  go_wp2_with fail
  refine (push_is W.heap.size p 1 false [⟨⟨#[97]⟩, false, ⟨#[]⟩⟩] f2 ⟨⟨#[98]⟩, false, ⟨#[]⟩⟩ _ H2.out ⟨by decide, by decide⟩ true [⟨⟨#[97]⟩, false, ⟨#[]⟩⟩] (by decide) (by rfl)).mono ?_
  rintro en w3 ⟨rfl, f3, h3, s3⟩
  have H3 := Lib.hid h3
  have S3 := Lib.hid (S2.out.trans s3)
  clear h3 s3
  go_wp2_with fail
  refine (take_is W.heap.size p 1 true [⟨⟨#[97]⟩, false, ⟨#[]⟩⟩] 5 f3 _ H3.out (fun _ h => by cases h) 1 [⟨⟨#[97]⟩, false, ⟨#[]⟩⟩] [] (by decide) (by rfl) (by rfl)).mono ?_
  rintro en w4 ⟨q, f4, rfl, h4, s4, hq⟩
  obtain ⟨b, o, rfl, c1, c2, c3⟩ := hq 0 (by simp)
  have H4 := Lib.hid h4
  have HB := Lib.hid (B1.out.trans ((S3.out.trans s4).below B1.out.size F1.out))
  have c0 : w4.cell? ⟨b, o, none⟩ = some (.string ⟨#[97]⟩) := c1
  clear h4 s4 hq c1 c2 c3
  go_wp2_with fail
  refine (take_gone W.heap.size p 1 5 f4 _ H4.out).mono ?_
  rintro en w5 ⟨rfl, rfl⟩
  go_wp2_with fail
  refine (take_nil 1 _).mono ?_
  rintro en w5 ⟨rfl, rfl⟩
  go_wp2_with fail
  refine (over_any W.heap.size p 1 true [] f4 _ H4.out).mono ?_
  rintro en w5 ⟨rfl, rfl⟩
  go_wp2_with fail
  refine (push_nil ⟨⟨#[]⟩, false, ⟨#[]⟩⟩ _).mono ?_
  rintro en w6 ⟨rfl, hb⟩
  have HB2 := Lib.hid (HB.out.trans (hb.mono HB.out.size))
  clear hb
  go_wp2_with fail
  refine (len_nil _).mono ?_
  rintro en w5 ⟨rfl, rfl⟩
  go_wp2_with fail
  go_ret
  exact Says.mk rfl HB2.out

end Go.Proofs.Ytofkllokmecfgaa
