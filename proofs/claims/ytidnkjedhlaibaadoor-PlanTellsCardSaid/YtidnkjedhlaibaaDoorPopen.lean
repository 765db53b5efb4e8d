/-
  An office of a config: Open, with the model that it has; what is told of the model; the chapter's example.
-/
import Derived.Test.YtidnkjedhlaibaaDoorPcfg
import Derived.StillTailTactics
import Derived.Deep.DrawnRows
import Derived.Maps.OwnIn
namespace Go.Proofs.YtidnkjedhlaibaaDoor
open Go Go.RowKit

theorem heap_lt {W : World} {k : Nat} {o : Obj} (h : W.heap[k]? = some o) : k < W.heap.size := (Array.getElem?_eq_some_iff.1 h).1
/-- A thing that is new. -/
def NewAt (W : World) (e : Ending) (W' : World) : Prop := ∃ b, e = .returned (.pointer (some ⟨b, 0, none⟩)) ∧ Below W.heap.size W W'
theorem of_nil (W : World) : Calls Tryd.prog 23 #[.slice none 0 0] W (NewAt W) := by
  go_enter Tryd.func23, Tryd.ntmps23
  go_wp2_with fail
  go_loopw [10] (fun i wr => i = .int .i64 0 ∧ wr = W.alloc (.cells #[.map none] 62)) (fun i _ => 0)
  case atStart => exact ⟨rfl, rfl⟩
  case round =>
    obtain ⟨rfl, rfl⟩ := hrel
    go_wp2_with fail
    go_ret
    exact ⟨_, rfl, below_alloc _ _⟩
theorem new_any (n : Int) (W : World) : Calls Tryd.prog 24 #[.int .i64 n] W (NewAt W) := by
  have hmm := @run_makeMap Tryd.prog
  go_enter Tryd.func24, Tryd.ntmps24
  go_wp2
  all_goals
    go_ret
    exact ⟨_, rfl, (below_alloc W _).trans ((below_alloc _ _).mono (by simp))⟩

/-- A model in which nothing was done. -/
def ModelIs (X : World) (m : Nat) : Prop := ∃ b, X.cell? ⟨m, 8, none⟩ = some (.pointer (some ⟨b, 0, none⟩)) ∧ X.cell? ⟨m, 9, none⟩ = some (.int .i64 0) ∧ m < X.heap.size
theorem ModelIs.below {X Y : World} {m : Nat} (h : ModelIs X m) (hb : Below X.heap.size X Y) : ModelIs Y m := by
  obtain ⟨b, h1, h2, h3⟩ := h
  exact ⟨b, (hb.cell (p := ⟨m, 8, none⟩) h3).trans h1, (hb.cell (p := ⟨m, 9, none⟩) h3).trans h2, Nat.lt_of_lt_of_le h3 hb.size⟩
def ModelAt (W : World) (e : Ending) (W' : World) : Prop := ∃ m, e = .returned (.pointer (some ⟨m, 0, none⟩)) ∧ ModelIs W' m ∧ Below W.heap.size W W'

theorem ModelAt.made {W X : World} {c : Array Value} {b k : Nat} (h : Below W.heap.size W X) (hk : k = X.heap.size) (h8 : c[8]? = some (.pointer (some ⟨b, 0, none⟩))) (h9 : c[9]? = some (.int .i64 0)) :
    ModelAt W (.returned (.pointer (some ⟨k, 0, none⟩))) (X.alloc (.cells c 57)) := by
  subst hk
  have hn := heap_alloc_new X (.cells c 57)
  exact ⟨_, rfl, ⟨b, (cell_of hn).trans h8, (cell_of hn).trans h9, heap_lt hn⟩, below_to h (below_alloc _ _)⟩

set_option maxHeartbeats 1000000 in
theorem model_any (a p s q v x : Int) (W : World) : Calls Tryd.prog 20 #[cfV a p s q v x] W (ModelAt W) := by
  have X0 := Lib.hid (BoxC.start W a p s q v x)
  obtain ⟨c0, c1, c2, c3, c4, c5⟩ := X0.out.six
  have hmm := @run_makeMap Tryd.prog
  go_enter Tryd.func20, Tryd.ntmps20
  go_wp2_with fail
  generalize (W.alloc (.cells #[.int .i64 a, .int .i64 p, .int .i64 s, .int .i64 q, .int .i64 v, .int .u64 x] 24)) = w0 at X0 c0 c1 c2 c3 c4 c5 ⊢
  clear c0 c1 c2 c3 c4 c5
  go_region_held3 (fun w' => w'.cell? ⟨W.heap.size, 0, none⟩ = some (.int .i64 a) ∧ w'.cell? ⟨W.heap.size, 1, none⟩ = some (.int .i64 p) ∧ w'.cell? ⟨W.heap.size, 2, none⟩ = some (.int .i64 s) ∧ w'.cell? ⟨W.heap.size, 3, none⟩ = some (.int .i64 q) ∧ w'.cell? ⟨W.heap.size, 4, none⟩ = some (.int .i64 v) ∧ w'.cell? ⟨W.heap.size, 5, none⟩ = some (.int .u64 x))
    (first
      | exact X2.out.six
      | exact (X2.out.below (below_alloc _ _)).six
      | exact ((X2.out.below (below_alloc _ _)).below (below_alloc _ _)).six
      | exact X1.out.six
      | exact (X1.out.below (below_alloc _ _)).six
      | exact X0.out.drew.six
      | exact (X0.out.drew.below (below_alloc _ _)).six
      | exact X0.out.six)
    (first
      | (go_at_call 23; refine (of_nil _).mono ?_; rintro e x1 ⟨b, rfl, hb⟩; have X1 : Hid (BoxC W a p s q v x x1) := Lib.hid (by first | exact X0.out.drew.below hb | exact (X0.out.drew.below (below_alloc _ _)).below hb); clear hb)
      | (go_at_call 24; refine (new_any _ _).mono ?_; rintro e x2 ⟨b2, rfl, hb⟩; have X2 : Hid (BoxC W a p s q v x x2) := Lib.hid (by first | exact X1.out.below hb | exact (X1.out.below (below_alloc _ _)).below hb); clear hb))
  all_goals
    go_wp2_with fail
    go_ret
    first
      | exact ModelAt.made X2.out.lo rfl rfl rfl
      | exact ModelAt.made (X := x2.alloc (.map #[] 0)) (X2.out.below (below_alloc _ _)).lo (by simp) rfl rfl

/-! ### an office -/
def officeC (a p s q v x : Int) (m : Nat) : Array Value := #[.int .i64 a, .int .i64 p, .int .i64 s, .int .i64 q, .int .i64 v, .int .u64 x, .pointer (some ⟨m, 0, none⟩), .int .i64 0, .slice none 0 0]
def OfficeIs (a p s q v x : Int) (o : Nat) (X : World) : Prop := ∃ m, X.heap[o]? = some (.cells (officeC a p s q v x m) 46 (0, 0)) ∧ ModelIs X m
theorem OfficeIs.below {a p s q v x : Int} {o : Nat} {X Y : World} (h : OfficeIs a p s q v x o X) (hb : Below X.heap.size X Y) : OfficeIs a p s q v x o Y := by
  obtain ⟨m, h1, h2⟩ := h
  exact ⟨m, (hb.block o (heap_lt h1)).trans h1, h2.below hb⟩
/-- What Open tells: an office, if the config may be. -/
def OpenD (a p s q v x : Int) (r : Bool) (W : World) (e : Ending) (W' : World) : Prop :=
  Below W.heap.size W W' ∧ ((r = true ∧ ∃ o, e = .returned (.pointer (some ⟨o, 0, none⟩)) ∧ OfficeIs a p s q v x o W') ∨ (r = false ∧ e = .returned (.pointer none)))

theorem OpenD.made {W X : World} {a p s q v x : Int} {m : Nat} (h : Below W.heap.size W X) (hm : ModelIs X m) :
    OpenD a p s q v x true W (.returned (.pointer (some ⟨X.heap.size, 0, none⟩))) (X.alloc (.cells #[.int .i64 a, .int .i64 p, .int .i64 s, .int .i64 q, .int .i64 v, .int .u64 x, .pointer (some ⟨m, 0, none⟩), .int .i64 0, .slice none 0 0] 46)) :=
  ⟨below_to h (below_alloc _ _), .inl ⟨rfl, _, rfl, m, heap_alloc_new X _, hm.below (below_alloc _ _)⟩⟩

set_option maxHeartbeats 1000000 in
theorem open_any (a p s q v x : Int) (W : World) : Calls Tryd.prog 9 #[cfV a p s q v x] W (OpenD a p s q v x (rightC a p s q v) W) := by
  have HR := Lib.hid (fun X : World => right_any a p s q v x X)
  have HM := Lib.hid (fun X : World => model_any a p s q v x X)
  have X0 := Lib.hid (BoxC.start W a p s q v x)
  obtain ⟨c0, c1, c2, c3, c4, c5⟩ := X0.out.six
  obtain ⟨r, hr⟩ : ∃ r, rightC a p s q v = r := ⟨_, rfl⟩
  rw [hr] at HR ⊢
  clear hr
  cases r
  · go_enter Tryd.func9, Tryd.ntmps9
    go_wp2_with fail
    refine (HR.out _).mono ?_
    rintro e w1 ⟨rfl, hb⟩
    have X1 := Lib.hid (X0.out.below hb)
    clear hb c0 c1 c2 c3 c4 c5
    go_wp2_with fail
    go_ret
    exact ⟨X1.out.lo, .inr ⟨rfl, rfl⟩⟩
  · go_enter Tryd.func9, Tryd.ntmps9
    go_wp2_with fail
    refine (HR.out _).mono ?_
    rintro e w1 ⟨rfl, hb⟩
    have Y0 := Lib.hid (X0.out.below hb)
    clear hb c0 c1 c2 c3 c4 c5
    obtain ⟨c0, c1, c2, c3, c4, c5⟩ := Y0.out.six
    go_wp2_with fail
    clear c0 c1 c2 c3 c4 c5
    go_region_held3 (fun w' => w'.cell? ⟨W.heap.size, 0, none⟩ = some (.int .i64 a) ∧ w'.cell? ⟨W.heap.size, 1, none⟩ = some (.int .i64 p) ∧ w'.cell? ⟨W.heap.size, 2, none⟩ = some (.int .i64 s) ∧ w'.cell? ⟨W.heap.size, 3, none⟩ = some (.int .i64 q) ∧ w'.cell? ⟨W.heap.size, 4, none⟩ = some (.int .i64 v) ∧ w'.cell? ⟨W.heap.size, 5, none⟩ = some (.int .u64 x))
      (first
        | exact X1.out.six
        | exact (X1.out.below (below_alloc _ _)).six
        | exact Y0.out.drew.six
        | exact Y0.out.six)
      (first
        | (go_at_call 20; refine (HM.out _).mono ?_; rintro e x1 ⟨m, rfl, hm, hb⟩; have HMI := Lib.hid hm; have X1 := Lib.hid (Y0.out.drew.below hb); clear hb hm))
    all_goals
      go_wp2_with fail
      go_ret
      exact OpenD.made X1.out.lo HMI.out

theorem issued_any (m : Nat) (W : World) (h : ModelIs W m) : Calls Tryd.prog 22 #[.pointer (some ⟨m, 0, none⟩)] W (Tells 0 W) := by
  obtain ⟨b, c8, c9, _⟩ := h
  have HM := Lib.hid (show Calls Tryd.prog 25 #[.pointer (some ⟨m, 0, none⟩)] W (fun e W' => e = .returned (.bool true) ∧ W' = W) from by
    go_enter Tryd.func25, Tryd.ntmps25
    go_wp2_with fail
    go_ret
    exact ⟨rfl, rfl⟩)
  go_enter Tryd.func22, Tryd.ntmps22
  go_wp2_with fail
  refine HM.out.mono ?_
  rintro e w1 ⟨rfl, rfl⟩
  go_wp2_with fail
  go_ret
  exact ⟨rfl, Below.refl _ _⟩
end Go.Proofs.YtidnkjedhlaibaaDoor
