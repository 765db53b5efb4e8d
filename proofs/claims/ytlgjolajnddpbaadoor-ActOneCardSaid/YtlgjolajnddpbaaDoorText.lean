/-
  Text, at every act.
-/
import Derived.Test.YtlgjolajnddpbaaDoorTextst
namespace Go.Proofs.YtlgjolajnddpbaaDoor
open Go Go.Shelf Go.RowKit
attribute [local go_sem ↓] Go.wp_at_zero Go.wp_at_succ

/-- A text of an act of one kind, made. -/
def TextAt (W : World) (x : ActD) : Prop := Calls Tryd.prog 22 #[actV x.kind x.block x.cell x.old x.new x.text] W fun e W' => e = .returned (.string (lineB (partsA x))) ∧ Below W.heap.size W W'

set_option maxRecDepth 100000 in
set_option maxHeartbeats 4000000 in
theorem text_0 (b cn on nn : Nat) (t : ByteArray) (W : World) (hT : Tabs W) (hb : b < 18446744073709551616) (hc : cn ≤ 9223372036854775807) (ho : on < 18446744073709551616) (hn : nn < 18446744073709551616) (ht : t.size ≤ 4096) (hr : rightA ⟨0, b, cn, on, nn, t⟩ = true) : TextAt W ⟨0, b, cn, on, nn, t⟩ := by
  have hp : partsA ⟨0, b, cn, on, nn, t⟩ = [nameA 0] := by simp [partsA]
  unfold TextAt
  rw [hp]
  obtain ⟨i0, gi, gz0, gz1, gz2⟩ := info_parts str_info
  have HR := Lib.hid (fun X => right_any 0 b cn on nn t X)
  rw [hr] at HR
  have M0 := Lib.hid (Mid.start W 0 b cn on nn t)
  have HN := Lib.hid (fun u (hu : u < 18446744073709551616) X (hX : Tabs X) => number_any u hu X hX)
  have HP := Lib.hid (fun u (hu : u ≤ 9223372036854775807) X (hX : Tabs X) => print_any u hu X hX)
  have HQ := Lib.hid (fun X => quote_any t X ht)
  have HT := Lib.hid hT
  have HU := Lib.hid (And.intro hb (And.intro hc (And.intro ho hn)))
  have HJ := Lib.hid (show (Lib.join (([nameA 0]).map (·.data.toList)) (⟨#[32]⟩ : ByteArray).data.toList).length ≤ 140737488355328 by
    have := join_small 12289 [nameA 0] (by
      have h1 := name_size 0; have h2 := dig_size b hb; have h3 := dig_size cn (by omega); have h4 := dig_size on ho; have h5 := dig_size nn hn; have h6 := quoteB_size t ht
      intro p hp; simp only [List.mem_cons, List.not_mem_nil, or_false] at hp
      subst hp; omega)
    exact Nat.le_trans this (by show 1 * 12290 ≤ _; decide))
  clear hr hp hT hb hc ho hn ht
  go_enter Tryd.func22, Tryd.ntmps22
  go_wp2_with fail
  refine (HR.out _).mono ?_
  rintro en w1 ⟨rfl, hb1⟩
  have M1 := Lib.hid (M0.out.below hb1)
  clear hb1
  obtain ⟨k0, k1, k2, k3, k4, k5⟩ := M1.out.cells
  have HT1 := Lib.hid (HT.out.below M1.out.lo)
  have n0 := HT1.out.names 0 (by decide)
  go_wp2_with fail
  have H3 := Lib.hid (below_alloc w1 (.cells #[.string (nameA 0)] 9))
  have HL3 := Lib.hid (lot_one w1 (nameA 0))
  have HL := Lib.hid M1.out.row
  generalize w1.alloc (.cells #[.string (nameA 0)] 9) = w3 at H3 HL3 ⊢
  have M3 := Lib.hid (M1.out.below H3.out)
  have HT3 := Lib.hid (HT1.out.below H3.out)
  have F3 := Lib.hid (fun X (hX : Below w3.heap.size w3 X) => (And.intro (M3.out.below hX).cells.2.1 (M3.out.below hX).cells.2.2.1))
  have X0 := Lib.hid (Below.refl w3.heap.size w3)
  clear k0 n0 k1 k2 k3 k4 k5
  go_region_held3 (fun w' => w'.cell? ⟨W.heap.size, 1, none⟩ = some (.int .u64 (b : Int)) ∧ w'.cell? ⟨W.heap.size, 2, none⟩ = some (.int .i64 (cn : Int)))
    (first
      | exact F3.out _ X2.out
      | exact F3.out _ X1.out
      | exact F3.out _ (drew_below' X0.out)
      | exact F3.out _ X0.out)
    (first
      | (go_at_call 48; refine (HN.out b HU.out.1 _ (HT3.out.below (drew_below' X0.out))).mono ?_; rintro e x1 ⟨rfl, hb⟩; have X1 := Lib.hid (below_to (drew_below' X0.out) hb (drew_below' X0.out).size); clear hb)
      | (go_at_call 49; refine (HP.out cn HU.out.2.1 _ (HT3.out.below X1.out)).mono ?_; rintro e x2 ⟨rfl, hb⟩; have X2 := Lib.hid (below_to X1.out hb X1.out.size); clear hb))
  obtain ⟨k0, k1, k2, k3, k4, k5⟩ := (M3.out.below X2.out).cells
  go_wp2_with fail
  refine (join_lot _ w1.heap.size 1 1 [nameA 0] rfl (by decide) (by decide) (HL3.out.below X2.out) HJ.out).mono ?_
  rintro e w5 ⟨rfl, hb⟩
  have HB6 := Lib.hid ((M3.out.below X2.out).lo.trans (hb.mono (M3.out.below X2.out).lo.size))
  clear hb
  go_wp2_with fail
  go_ret
  exact ⟨rfl, HB6.out⟩

set_option maxRecDepth 100000 in
set_option maxHeartbeats 4000000 in
theorem text_1 (b cn on nn : Nat) (t : ByteArray) (W : World) (hT : Tabs W) (hb : b < 18446744073709551616) (hc : cn ≤ 9223372036854775807) (ho : on < 18446744073709551616) (hn : nn < 18446744073709551616) (ht : t.size ≤ 4096) (hr : rightA ⟨1, b, cn, on, nn, t⟩ = true) : TextAt W ⟨1, b, cn, on, nn, t⟩ := by
  have hp : partsA ⟨1, b, cn, on, nn, t⟩ = [nameA 1, digN b, digN cn] := by simp [partsA]
  unfold TextAt
  rw [hp]
  obtain ⟨i0, gi, gz0, gz1, gz2⟩ := info_parts str_info
  have HR := Lib.hid (fun X => right_any 1 b cn on nn t X)
  rw [hr] at HR
  have M0 := Lib.hid (Mid.start W 1 b cn on nn t)
  have HN := Lib.hid (fun u (hu : u < 18446744073709551616) X (hX : Tabs X) => number_any u hu X hX)
  have HP := Lib.hid (fun u (hu : u ≤ 9223372036854775807) X (hX : Tabs X) => print_any u hu X hX)
  have HQ := Lib.hid (fun X => quote_any t X ht)
  have HT := Lib.hid hT
  have HU := Lib.hid (And.intro hb (And.intro hc (And.intro ho hn)))
  have HJ := Lib.hid (show (Lib.join (([nameA 1, digN b, digN cn]).map (·.data.toList)) (⟨#[32]⟩ : ByteArray).data.toList).length ≤ 140737488355328 by
    have := join_small 12289 [nameA 1, digN b, digN cn] (by
      have h1 := name_size 1; have h2 := dig_size b hb; have h3 := dig_size cn (by omega); have h4 := dig_size on ho; have h5 := dig_size nn hn; have h6 := quoteB_size t ht
      intro p hp; simp only [List.mem_cons, List.not_mem_nil, or_false] at hp
      rcases hp with rfl | rfl | rfl <;> omega)
    exact Nat.le_trans this (by show 3 * 12290 ≤ _; decide))
  clear hr hp hT hb hc ho hn ht
  go_enter Tryd.func22, Tryd.ntmps22
  go_wp2_with fail
  refine (HR.out _).mono ?_
  rintro en w1 ⟨rfl, hb1⟩
  have M1 := Lib.hid (M0.out.below hb1)
  clear hb1
  obtain ⟨k0, k1, k2, k3, k4, k5⟩ := M1.out.cells
  have HT1 := Lib.hid (HT.out.below M1.out.lo)
  have n0 := HT1.out.names 1 (by decide)
  go_wp2_with fail
  have H3 := Lib.hid (below_alloc w1 (.cells #[.string (nameA 1)] 9))
  have HL3 := Lib.hid (lot_one w1 (nameA 1))
  have HL := Lib.hid M1.out.row
  generalize w1.alloc (.cells #[.string (nameA 1)] 9) = w3 at H3 HL3 ⊢
  have M3 := Lib.hid (M1.out.below H3.out)
  have HT3 := Lib.hid (HT1.out.below H3.out)
  have F3 := Lib.hid (fun X (hX : Below w3.heap.size w3 X) => (And.intro (M3.out.below hX).cells.2.1 (M3.out.below hX).cells.2.2.1))
  have X0 := Lib.hid (Below.refl w3.heap.size w3)
  clear k0 n0 k1 k2 k3 k4 k5
  go_region_held3 (fun w' => w'.cell? ⟨W.heap.size, 1, none⟩ = some (.int .u64 (b : Int)) ∧ w'.cell? ⟨W.heap.size, 2, none⟩ = some (.int .i64 (cn : Int)))
    (first
      | exact F3.out _ X2.out
      | exact F3.out _ X1.out
      | exact F3.out _ (drew_below' X0.out)
      | exact F3.out _ X0.out)
    (first
      | (go_at_call 48; refine (HN.out b HU.out.1 _ (HT3.out.below (drew_below' X0.out))).mono ?_; rintro e x1 ⟨rfl, hb⟩; have X1 := Lib.hid (below_to (drew_below' X0.out) hb (drew_below' X0.out).size); clear hb)
      | (go_at_call 49; refine (HP.out cn HU.out.2.1 _ (HT3.out.below X1.out)).mono ?_; rintro e x2 ⟨rfl, hb⟩; have X2 := Lib.hid (below_to X1.out hb X1.out.size); clear hb))
  obtain ⟨k0, k1, k2, k3, k4, k5⟩ := (M3.out.below X2.out).cells
  have HA := Lib.hid (below_to X2.out (below_alloc x2 (.cells #[.string (digN b), .string (digN cn)] 9)) X2.out.size)
  have HL4 := Lib.hid (HL3.out.below HA.out)
  go_wp2_with (at_builtin; refine wpList_append_lot _ rfl _ _ 81 rfl 9 i0 _ 1 16 Tryd.underlying81 gi gz0 gz1 gz2 rfl (.slice (some ⟨w1.heap.size, 0, none⟩) 1 1) 1 _ rfl HL4.out ⟨x2.heap.size, 0, none⟩ 2 2 [.string (digN b), .string (digN cn)] rfl rfl (World.news_of_block (cs := #[.string (digN b), .string (digN cn)]) (World.alloc_heap_new x2 _)) (by simp [Value.oneCell']) (by decide) (by decide) (by decide) _ rfl ?_; intro g4 cap4 w4 hL4 hg4 _; have HL5 := Lib.hid (show Lot w4 9 1 (.slice (some ⟨g4, 0, none⟩) 3 cap4) 3 (([nameA 1, digN b, digN cn]).map .string) from hL4); have HB5 := Lib.hid (((M3.out.below HA.out).lo.grown hg4 (M3.out.below HA.out).lo.size (fun k hk => (by simp only [Value.ownBlock, Option.some.injEq] at hk; have := HL.out; omega)))); clear hL4 hg4)
  refine (join_lot _ g4 cap4 3 [nameA 1, digN b, digN cn] rfl (by decide) (by decide) HL5.out HJ.out).mono ?_
  rintro e w5 ⟨rfl, hb⟩
  have HB6 := Lib.hid (HB5.out.trans (hb.mono HB5.out.size))
  clear hb
  go_wp2_with fail
  go_ret
  exact ⟨rfl, HB6.out⟩

set_option maxRecDepth 100000 in
set_option maxHeartbeats 4000000 in
theorem text_2 (b cn on nn : Nat) (t : ByteArray) (W : World) (hT : Tabs W) (hb : b < 18446744073709551616) (hc : cn ≤ 9223372036854775807) (ho : on < 18446744073709551616) (hn : nn < 18446744073709551616) (ht : t.size ≤ 4096) (hr : rightA ⟨2, b, cn, on, nn, t⟩ = true) : TextAt W ⟨2, b, cn, on, nn, t⟩ := by
  have hp : partsA ⟨2, b, cn, on, nn, t⟩ = [nameA 2, digN b, digN cn, digN nn] := by simp [partsA]
  unfold TextAt
  rw [hp]
  obtain ⟨i0, gi, gz0, gz1, gz2⟩ := info_parts str_info
  have HR := Lib.hid (fun X => right_any 2 b cn on nn t X)
  rw [hr] at HR
  have M0 := Lib.hid (Mid.start W 2 b cn on nn t)
  have HN := Lib.hid (fun u (hu : u < 18446744073709551616) X (hX : Tabs X) => number_any u hu X hX)
  have HP := Lib.hid (fun u (hu : u ≤ 9223372036854775807) X (hX : Tabs X) => print_any u hu X hX)
  have HQ := Lib.hid (fun X => quote_any t X ht)
  have HT := Lib.hid hT
  have HU := Lib.hid (And.intro hb (And.intro hc (And.intro ho hn)))
  have HJ := Lib.hid (show (Lib.join (([nameA 2, digN b, digN cn, digN nn]).map (·.data.toList)) (⟨#[32]⟩ : ByteArray).data.toList).length ≤ 140737488355328 by
    have := join_small 12289 [nameA 2, digN b, digN cn, digN nn] (by
      have h1 := name_size 2; have h2 := dig_size b hb; have h3 := dig_size cn (by omega); have h4 := dig_size on ho; have h5 := dig_size nn hn; have h6 := quoteB_size t ht
      intro p hp; simp only [List.mem_cons, List.not_mem_nil, or_false] at hp
      rcases hp with rfl | rfl | rfl | rfl <;> omega)
    exact Nat.le_trans this (by show 4 * 12290 ≤ _; decide))
  clear hr hp hT hb hc ho hn ht
  go_enter Tryd.func22, Tryd.ntmps22
  go_wp2_with fail
  refine (HR.out _).mono ?_
  rintro en w1 ⟨rfl, hb1⟩
  have M1 := Lib.hid (M0.out.below hb1)
  clear hb1
  obtain ⟨k0, k1, k2, k3, k4, k5⟩ := M1.out.cells
  have HT1 := Lib.hid (HT.out.below M1.out.lo)
  have n0 := HT1.out.names 2 (by decide)
  go_wp2_with fail
  have H3 := Lib.hid (below_alloc w1 (.cells #[.string (nameA 2)] 9))
  have HL3 := Lib.hid (lot_one w1 (nameA 2))
  have HL := Lib.hid M1.out.row
  generalize w1.alloc (.cells #[.string (nameA 2)] 9) = w3 at H3 HL3 ⊢
  have M3 := Lib.hid (M1.out.below H3.out)
  have HT3 := Lib.hid (HT1.out.below H3.out)
  have F3 := Lib.hid (fun X (hX : Below w3.heap.size w3 X) => (And.intro (M3.out.below hX).cells.2.1 (M3.out.below hX).cells.2.2.1))
  have X0 := Lib.hid (Below.refl w3.heap.size w3)
  clear k0 n0 k1 k2 k3 k4 k5
  go_region_held3 (fun w' => w'.cell? ⟨W.heap.size, 1, none⟩ = some (.int .u64 (b : Int)) ∧ w'.cell? ⟨W.heap.size, 2, none⟩ = some (.int .i64 (cn : Int)))
    (first
      | exact F3.out _ X2.out
      | exact F3.out _ X1.out
      | exact F3.out _ (drew_below' X0.out)
      | exact F3.out _ X0.out)
    (first
      | (go_at_call 48; refine (HN.out b HU.out.1 _ (HT3.out.below (drew_below' X0.out))).mono ?_; rintro e x1 ⟨rfl, hb⟩; have X1 := Lib.hid (below_to (drew_below' X0.out) hb (drew_below' X0.out).size); clear hb)
      | (go_at_call 49; refine (HP.out cn HU.out.2.1 _ (HT3.out.below X1.out)).mono ?_; rintro e x2 ⟨rfl, hb⟩; have X2 := Lib.hid (below_to X1.out hb X1.out.size); clear hb))
  obtain ⟨k0, k1, k2, k3, k4, k5⟩ := (M3.out.below X2.out).cells
  go_wp2_with fail
  refine (HN.out nn HU.out.2.2.2 _ (HT3.out.below X2.out)).mono ?_
  rintro e y1 ⟨rfl, hb⟩
  have Y1 := Lib.hid (below_to X2.out hb X2.out.size)
  clear hb k0 k1 k2 k3 k4 k5
  obtain ⟨k0, k1, k2, k3, k4, k5⟩ := (M3.out.below Y1.out).cells
  have HA := Lib.hid (below_to Y1.out (below_alloc y1 (.cells #[.string (digN b), .string (digN cn), .string (digN nn)] 9)) Y1.out.size)
  have HL4 := Lib.hid (HL3.out.below HA.out)
  go_wp2_with (at_builtin; refine wpList_append_lot _ rfl _ _ 81 rfl 9 i0 _ 1 16 Tryd.underlying81 gi gz0 gz1 gz2 rfl (.slice (some ⟨w1.heap.size, 0, none⟩) 1 1) 1 _ rfl HL4.out ⟨y1.heap.size, 0, none⟩ 3 3 [.string (digN b), .string (digN cn), .string (digN nn)] rfl rfl (World.news_of_block (cs := #[.string (digN b), .string (digN cn), .string (digN nn)]) (World.alloc_heap_new y1 _)) (by simp [Value.oneCell']) (by decide) (by decide) (by decide) _ rfl ?_; intro g4 cap4 w4 hL4 hg4 _; have HL5 := Lib.hid (show Lot w4 9 1 (.slice (some ⟨g4, 0, none⟩) 4 cap4) 4 (([nameA 2, digN b, digN cn, digN nn]).map .string) from hL4); have HB5 := Lib.hid (((M3.out.below HA.out).lo.grown hg4 (M3.out.below HA.out).lo.size (fun k hk => (by simp only [Value.ownBlock, Option.some.injEq] at hk; have := HL.out; omega)))); clear hL4 hg4)
  refine (join_lot _ g4 cap4 4 [nameA 2, digN b, digN cn, digN nn] rfl (by decide) (by decide) HL5.out HJ.out).mono ?_
  rintro e w5 ⟨rfl, hb⟩
  have HB6 := Lib.hid (HB5.out.trans (hb.mono HB5.out.size))
  clear hb
  go_wp2_with fail
  go_ret
  exact ⟨rfl, HB6.out⟩

set_option maxRecDepth 100000 in
set_option maxHeartbeats 4000000 in
theorem text_3 (b cn on nn : Nat) (t : ByteArray) (W : World) (hT : Tabs W) (hb : b < 18446744073709551616) (hc : cn ≤ 9223372036854775807) (ho : on < 18446744073709551616) (hn : nn < 18446744073709551616) (ht : t.size ≤ 4096) (hr : rightA ⟨3, b, cn, on, nn, t⟩ = true) : TextAt W ⟨3, b, cn, on, nn, t⟩ := by
  have hp : partsA ⟨3, b, cn, on, nn, t⟩ = [nameA 3, digN b, digN cn, digN on, digN nn] := by simp [partsA]
  unfold TextAt
  rw [hp]
  obtain ⟨i0, gi, gz0, gz1, gz2⟩ := info_parts str_info
  have HR := Lib.hid (fun X => right_any 3 b cn on nn t X)
  rw [hr] at HR
  have M0 := Lib.hid (Mid.start W 3 b cn on nn t)
  have HN := Lib.hid (fun u (hu : u < 18446744073709551616) X (hX : Tabs X) => number_any u hu X hX)
  have HP := Lib.hid (fun u (hu : u ≤ 9223372036854775807) X (hX : Tabs X) => print_any u hu X hX)
  have HQ := Lib.hid (fun X => quote_any t X ht)
  have HT := Lib.hid hT
  have HU := Lib.hid (And.intro hb (And.intro hc (And.intro ho hn)))
  have HJ := Lib.hid (show (Lib.join (([nameA 3, digN b, digN cn, digN on, digN nn]).map (·.data.toList)) (⟨#[32]⟩ : ByteArray).data.toList).length ≤ 140737488355328 by
    have := join_small 12289 [nameA 3, digN b, digN cn, digN on, digN nn] (by
      have h1 := name_size 3; have h2 := dig_size b hb; have h3 := dig_size cn (by omega); have h4 := dig_size on ho; have h5 := dig_size nn hn; have h6 := quoteB_size t ht
      intro p hp; simp only [List.mem_cons, List.not_mem_nil, or_false] at hp
      rcases hp with rfl | rfl | rfl | rfl | rfl <;> omega)
    exact Nat.le_trans this (by show 5 * 12290 ≤ _; decide))
  clear hr hp hT hb hc ho hn ht
  go_enter Tryd.func22, Tryd.ntmps22
  go_wp2_with fail
  refine (HR.out _).mono ?_
  rintro en w1 ⟨rfl, hb1⟩
  have M1 := Lib.hid (M0.out.below hb1)
  clear hb1
  obtain ⟨k0, k1, k2, k3, k4, k5⟩ := M1.out.cells
  have HT1 := Lib.hid (HT.out.below M1.out.lo)
  have n0 := HT1.out.names 3 (by decide)
  go_wp2_with fail
  have H3 := Lib.hid (below_alloc w1 (.cells #[.string (nameA 3)] 9))
  have HL3 := Lib.hid (lot_one w1 (nameA 3))
  have HL := Lib.hid M1.out.row
  generalize w1.alloc (.cells #[.string (nameA 3)] 9) = w3 at H3 HL3 ⊢
  have M3 := Lib.hid (M1.out.below H3.out)
  have HT3 := Lib.hid (HT1.out.below H3.out)
  have F3 := Lib.hid (fun X (hX : Below w3.heap.size w3 X) => (And.intro (M3.out.below hX).cells.2.1 (M3.out.below hX).cells.2.2.1))
  have X0 := Lib.hid (Below.refl w3.heap.size w3)
  clear k0 n0 k1 k2 k3 k4 k5
  go_region_held3 (fun w' => w'.cell? ⟨W.heap.size, 1, none⟩ = some (.int .u64 (b : Int)) ∧ w'.cell? ⟨W.heap.size, 2, none⟩ = some (.int .i64 (cn : Int)))
    (first
      | exact F3.out _ X2.out
      | exact F3.out _ X1.out
      | exact F3.out _ (drew_below' X0.out)
      | exact F3.out _ X0.out)
    (first
      | (go_at_call 48; refine (HN.out b HU.out.1 _ (HT3.out.below (drew_below' X0.out))).mono ?_; rintro e x1 ⟨rfl, hb⟩; have X1 := Lib.hid (below_to (drew_below' X0.out) hb (drew_below' X0.out).size); clear hb)
      | (go_at_call 49; refine (HP.out cn HU.out.2.1 _ (HT3.out.below X1.out)).mono ?_; rintro e x2 ⟨rfl, hb⟩; have X2 := Lib.hid (below_to X1.out hb X1.out.size); clear hb))
  obtain ⟨k0, k1, k2, k3, k4, k5⟩ := (M3.out.below X2.out).cells
  have F4 := Lib.hid (fun X (hX : Below w3.heap.size w3 X) => (And.intro (M3.out.below hX).cells.2.2.2.1 (M3.out.below hX).cells.2.2.2.2.1))
  go_wp2_with fail
  clear k0 k1 k2 k3 k4 k5
  go_region_held3 (fun w' => w'.cell? ⟨W.heap.size, 3, none⟩ = some (.int .u64 (on : Int)) ∧ w'.cell? ⟨W.heap.size, 4, none⟩ = some (.int .u64 (nn : Int)))
    (first
      | exact HZ.out
      | exact F4.out _ (below_to X5.out (below_alloc x5 _) X5.out.size)
      | exact F4.out _ X5.out
      | exact F4.out _ X4.out
      | exact F4.out _ (drew_below' X2.out)
      | exact F4.out _ X2.out)
    (first
      | (refine step_append_lot _ (by rfl) _ _ 81 (by rfl) 9 i0 _ 1 16 Tryd.underlying81 gi gz0 gz1 gz2 rfl (.slice (some ⟨w1.heap.size, 0, none⟩) 1 1) 1 _ (by rfl) (HL3.out.below (below_to X5.out (below_alloc x5 _) X5.out.size)) ⟨x5.heap.size, 0, none⟩ 4 4 [.string (digN b), .string (digN cn), .string (digN on), .string (digN nn)] (by rfl) (by rfl) (World.news_of_block (cs := #[.string (digN b), .string (digN cn), .string (digN on), .string (digN nn)]) (World.alloc_heap_new x5 _)) (by simp [Value.oneCell']) (by decide) (by decide) (by decide) _ rfl ?_; intro g4 cap4 w4 hL4 hg4 _; have HL5 := Lib.hid (show Lot w4 9 1 (.slice (some ⟨g4, 0, none⟩) 5 cap4) 5 (([nameA 3, digN b, digN cn, digN on, digN nn]).map .string) from hL4); have HM := Lib.hid ((M3.out.below (below_to X5.out (below_alloc x5 _) X5.out.size)).grown hg4 HL.out); have HZ := Lib.hid (And.intro HM.out.cells.2.2.2.1 HM.out.cells.2.2.2.2.1); clear hL4 hg4)
      | (go_at_call 48; refine (HN.out nn HU.out.2.2.2 _ (HT3.out.below X4.out)).mono ?_; rintro e x5 ⟨rfl, hb⟩; have X5 := Lib.hid (below_to X4.out hb X4.out.size); clear hb)
      | (go_at_call 48; refine (HN.out on HU.out.2.2.1 _ (HT3.out.below (drew_below' X2.out))).mono ?_; rintro e x4 ⟨rfl, hb⟩; have X4 := Lib.hid (below_to (drew_below' X2.out) hb (drew_below' X2.out).size); clear hb))
  obtain ⟨k0, k1, k2, k3, k4, k5⟩ := HM.out.cells
  have HB5 := Lib.hid HM.out.lo
  go_wp2_with fail
  refine (join_lot _ g4 cap4 5 [nameA 3, digN b, digN cn, digN on, digN nn] rfl (by decide) (by decide) HL5.out HJ.out).mono ?_
  rintro e w5 ⟨rfl, hb⟩
  have HB6 := Lib.hid (HB5.out.trans (hb.mono HB5.out.size))
  clear hb
  go_wp2_with fail
  go_ret
  exact ⟨rfl, HB6.out⟩

set_option maxRecDepth 100000 in
set_option maxHeartbeats 4000000 in
theorem text_4 (b cn on nn : Nat) (t : ByteArray) (W : World) (hT : Tabs W) (hb : b < 18446744073709551616) (hc : cn ≤ 9223372036854775807) (ho : on < 18446744073709551616) (hn : nn < 18446744073709551616) (ht : t.size ≤ 4096) (hr : rightA ⟨4, b, cn, on, nn, t⟩ = true) : TextAt W ⟨4, b, cn, on, nn, t⟩ := by
  have hp : partsA ⟨4, b, cn, on, nn, t⟩ = [nameA 4, digN b, digN cn, digN nn] := by simp [partsA]
  unfold TextAt
  rw [hp]
  obtain ⟨i0, gi, gz0, gz1, gz2⟩ := info_parts str_info
  have HR := Lib.hid (fun X => right_any 4 b cn on nn t X)
  rw [hr] at HR
  have M0 := Lib.hid (Mid.start W 4 b cn on nn t)
  have HN := Lib.hid (fun u (hu : u < 18446744073709551616) X (hX : Tabs X) => number_any u hu X hX)
  have HP := Lib.hid (fun u (hu : u ≤ 9223372036854775807) X (hX : Tabs X) => print_any u hu X hX)
  have HQ := Lib.hid (fun X => quote_any t X ht)
  have HT := Lib.hid hT
  have HU := Lib.hid (And.intro hb (And.intro hc (And.intro ho hn)))
  have HJ := Lib.hid (show (Lib.join (([nameA 4, digN b, digN cn, digN nn]).map (·.data.toList)) (⟨#[32]⟩ : ByteArray).data.toList).length ≤ 140737488355328 by
    have := join_small 12289 [nameA 4, digN b, digN cn, digN nn] (by
      have h1 := name_size 4; have h2 := dig_size b hb; have h3 := dig_size cn (by omega); have h4 := dig_size on ho; have h5 := dig_size nn hn; have h6 := quoteB_size t ht
      intro p hp; simp only [List.mem_cons, List.not_mem_nil, or_false] at hp
      rcases hp with rfl | rfl | rfl | rfl <;> omega)
    exact Nat.le_trans this (by show 4 * 12290 ≤ _; decide))
  clear hr hp hT hb hc ho hn ht
  go_enter Tryd.func22, Tryd.ntmps22
  go_wp2_with fail
  refine (HR.out _).mono ?_
  rintro en w1 ⟨rfl, hb1⟩
  have M1 := Lib.hid (M0.out.below hb1)
  clear hb1
  obtain ⟨k0, k1, k2, k3, k4, k5⟩ := M1.out.cells
  have HT1 := Lib.hid (HT.out.below M1.out.lo)
  have n0 := HT1.out.names 4 (by decide)
  go_wp2_with fail
  have H3 := Lib.hid (below_alloc w1 (.cells #[.string (nameA 4)] 9))
  have HL3 := Lib.hid (lot_one w1 (nameA 4))
  have HL := Lib.hid M1.out.row
  generalize w1.alloc (.cells #[.string (nameA 4)] 9) = w3 at H3 HL3 ⊢
  have M3 := Lib.hid (M1.out.below H3.out)
  have HT3 := Lib.hid (HT1.out.below H3.out)
  have F3 := Lib.hid (fun X (hX : Below w3.heap.size w3 X) => (And.intro (M3.out.below hX).cells.2.1 (M3.out.below hX).cells.2.2.1))
  have X0 := Lib.hid (Below.refl w3.heap.size w3)
  clear k0 n0 k1 k2 k3 k4 k5
  go_region_held3 (fun w' => w'.cell? ⟨W.heap.size, 1, none⟩ = some (.int .u64 (b : Int)) ∧ w'.cell? ⟨W.heap.size, 2, none⟩ = some (.int .i64 (cn : Int)))
    (first
      | exact F3.out _ X2.out
      | exact F3.out _ X1.out
      | exact F3.out _ (drew_below' X0.out)
      | exact F3.out _ X0.out)
    (first
      | (go_at_call 48; refine (HN.out b HU.out.1 _ (HT3.out.below (drew_below' X0.out))).mono ?_; rintro e x1 ⟨rfl, hb⟩; have X1 := Lib.hid (below_to (drew_below' X0.out) hb (drew_below' X0.out).size); clear hb)
      | (go_at_call 49; refine (HP.out cn HU.out.2.1 _ (HT3.out.below X1.out)).mono ?_; rintro e x2 ⟨rfl, hb⟩; have X2 := Lib.hid (below_to X1.out hb X1.out.size); clear hb))
  obtain ⟨k0, k1, k2, k3, k4, k5⟩ := (M3.out.below X2.out).cells
  go_wp2_with fail
  refine (HN.out nn HU.out.2.2.2 _ (HT3.out.below X2.out)).mono ?_
  rintro e y1 ⟨rfl, hb⟩
  have Y1 := Lib.hid (below_to X2.out hb X2.out.size)
  clear hb k0 k1 k2 k3 k4 k5
  obtain ⟨k0, k1, k2, k3, k4, k5⟩ := (M3.out.below Y1.out).cells
  have HA := Lib.hid (below_to Y1.out (below_alloc y1 (.cells #[.string (digN b), .string (digN cn), .string (digN nn)] 9)) Y1.out.size)
  have HL4 := Lib.hid (HL3.out.below HA.out)
  go_wp2_with (at_builtin; refine wpList_append_lot _ rfl _ _ 81 rfl 9 i0 _ 1 16 Tryd.underlying81 gi gz0 gz1 gz2 rfl (.slice (some ⟨w1.heap.size, 0, none⟩) 1 1) 1 _ rfl HL4.out ⟨y1.heap.size, 0, none⟩ 3 3 [.string (digN b), .string (digN cn), .string (digN nn)] rfl rfl (World.news_of_block (cs := #[.string (digN b), .string (digN cn), .string (digN nn)]) (World.alloc_heap_new y1 _)) (by simp [Value.oneCell']) (by decide) (by decide) (by decide) _ rfl ?_; intro g4 cap4 w4 hL4 hg4 _; have HL5 := Lib.hid (show Lot w4 9 1 (.slice (some ⟨g4, 0, none⟩) 4 cap4) 4 (([nameA 4, digN b, digN cn, digN nn]).map .string) from hL4); have HB5 := Lib.hid (((M3.out.below HA.out).lo.grown hg4 (M3.out.below HA.out).lo.size (fun k hk => (by simp only [Value.ownBlock, Option.some.injEq] at hk; have := HL.out; omega)))); clear hL4 hg4)
  refine (join_lot _ g4 cap4 4 [nameA 4, digN b, digN cn, digN nn] rfl (by decide) (by decide) HL5.out HJ.out).mono ?_
  rintro e w5 ⟨rfl, hb⟩
  have HB6 := Lib.hid (HB5.out.trans (hb.mono HB5.out.size))
  clear hb
  go_wp2_with fail
  go_ret
  exact ⟨rfl, HB6.out⟩

set_option maxRecDepth 100000 in
set_option maxHeartbeats 4000000 in
theorem text_5 (b cn on nn : Nat) (t : ByteArray) (W : World) (hT : Tabs W) (hb : b < 18446744073709551616) (hc : cn ≤ 9223372036854775807) (ho : on < 18446744073709551616) (hn : nn < 18446744073709551616) (ht : t.size ≤ 4096) (hr : rightA ⟨5, b, cn, on, nn, t⟩ = true) : TextAt W ⟨5, b, cn, on, nn, t⟩ := by
  have hp : partsA ⟨5, b, cn, on, nn, t⟩ = [nameA 5, digN cn, quoteB t] := by simp [partsA]
  unfold TextAt
  rw [hp]
  obtain ⟨i0, gi, gz0, gz1, gz2⟩ := info_parts str_info
  have HR := Lib.hid (fun X => right_any 5 b cn on nn t X)
  rw [hr] at HR
  have M0 := Lib.hid (Mid.start W 5 b cn on nn t)
  have HN := Lib.hid (fun u (hu : u < 18446744073709551616) X (hX : Tabs X) => number_any u hu X hX)
  have HP := Lib.hid (fun u (hu : u ≤ 9223372036854775807) X (hX : Tabs X) => print_any u hu X hX)
  have HQ := Lib.hid (fun X => quote_any t X ht)
  have HT := Lib.hid hT
  have HU := Lib.hid (And.intro hb (And.intro hc (And.intro ho hn)))
  have HJ := Lib.hid (show (Lib.join (([nameA 5, digN cn, quoteB t]).map (·.data.toList)) (⟨#[32]⟩ : ByteArray).data.toList).length ≤ 140737488355328 by
    have := join_small 12289 [nameA 5, digN cn, quoteB t] (by
      have h1 := name_size 5; have h2 := dig_size b hb; have h3 := dig_size cn (by omega); have h4 := dig_size on ho; have h5 := dig_size nn hn; have h6 := quoteB_size t ht
      intro p hp; simp only [List.mem_cons, List.not_mem_nil, or_false] at hp
      rcases hp with rfl | rfl | rfl <;> omega)
    exact Nat.le_trans this (by show 3 * 12290 ≤ _; decide))
  clear hr hp hT hb hc ho hn ht
  go_enter Tryd.func22, Tryd.ntmps22
  go_wp2_with fail
  refine (HR.out _).mono ?_
  rintro en w1 ⟨rfl, hb1⟩
  have M1 := Lib.hid (M0.out.below hb1)
  clear hb1
  obtain ⟨k0, k1, k2, k3, k4, k5⟩ := M1.out.cells
  have HT1 := Lib.hid (HT.out.below M1.out.lo)
  have n0 := HT1.out.names 5 (by decide)
  go_wp2_with fail
  have H3 := Lib.hid (below_alloc w1 (.cells #[.string (nameA 5)] 9))
  have HL3 := Lib.hid (lot_one w1 (nameA 5))
  have HL := Lib.hid M1.out.row
  generalize w1.alloc (.cells #[.string (nameA 5)] 9) = w3 at H3 HL3 ⊢
  have M3 := Lib.hid (M1.out.below H3.out)
  have HT3 := Lib.hid (HT1.out.below H3.out)
  have F3 := Lib.hid (fun X (hX : Below w3.heap.size w3 X) => (And.intro (M3.out.below hX).cells.2.1 (M3.out.below hX).cells.2.2.1))
  have X0 := Lib.hid (Below.refl w3.heap.size w3)
  clear k0 n0 k1 k2 k3 k4 k5
  go_region_held3 (fun w' => w'.cell? ⟨W.heap.size, 1, none⟩ = some (.int .u64 (b : Int)) ∧ w'.cell? ⟨W.heap.size, 2, none⟩ = some (.int .i64 (cn : Int)))
    (first
      | exact F3.out _ X2.out
      | exact F3.out _ X1.out
      | exact F3.out _ (drew_below' X0.out)
      | exact F3.out _ X0.out)
    (first
      | (go_at_call 48; refine (HN.out b HU.out.1 _ (HT3.out.below (drew_below' X0.out))).mono ?_; rintro e x1 ⟨rfl, hb⟩; have X1 := Lib.hid (below_to (drew_below' X0.out) hb (drew_below' X0.out).size); clear hb)
      | (go_at_call 49; refine (HP.out cn HU.out.2.1 _ (HT3.out.below X1.out)).mono ?_; rintro e x2 ⟨rfl, hb⟩; have X2 := Lib.hid (below_to X1.out hb X1.out.size); clear hb))
  obtain ⟨k0, k1, k2, k3, k4, k5⟩ := (M3.out.below X2.out).cells
  go_wp2_with fail
  refine (HQ.out _).mono ?_
  rintro e y1 ⟨rfl, hb⟩
  have Y1 := Lib.hid (below_to X2.out hb X2.out.size)
  clear hb k0 k1 k2 k3 k4 k5
  obtain ⟨k0, k1, k2, k3, k4, k5⟩ := (M3.out.below Y1.out).cells
  have HA := Lib.hid (below_to Y1.out (below_alloc y1 (.cells #[.string (digN cn), .string (quoteB t)] 9)) Y1.out.size)
  have HL4 := Lib.hid (HL3.out.below HA.out)
  go_wp2_with (at_builtin; refine wpList_append_lot _ rfl _ _ 81 rfl 9 i0 _ 1 16 Tryd.underlying81 gi gz0 gz1 gz2 rfl (.slice (some ⟨w1.heap.size, 0, none⟩) 1 1) 1 _ rfl HL4.out ⟨y1.heap.size, 0, none⟩ 2 2 [.string (digN cn), .string (quoteB t)] rfl rfl (World.news_of_block (cs := #[.string (digN cn), .string (quoteB t)]) (World.alloc_heap_new y1 _)) (by simp [Value.oneCell']) (by decide) (by decide) (by decide) _ rfl ?_; intro g4 cap4 w4 hL4 hg4 _; have HL5 := Lib.hid (show Lot w4 9 1 (.slice (some ⟨g4, 0, none⟩) 3 cap4) 3 (([nameA 5, digN cn, quoteB t]).map .string) from hL4); have HB5 := Lib.hid (((M3.out.below HA.out).lo.grown hg4 (M3.out.below HA.out).lo.size (fun k hk => (by simp only [Value.ownBlock, Option.some.injEq] at hk; have := HL.out; omega)))); clear hL4 hg4)
  refine (join_lot _ g4 cap4 3 [nameA 5, digN cn, quoteB t] rfl (by decide) (by decide) HL5.out HJ.out).mono ?_
  rintro e w5 ⟨rfl, hb⟩
  have HB6 := Lib.hid (HB5.out.trans (hb.mono HB5.out.size))
  clear hb
  go_wp2_with fail
  go_ret
  exact ⟨rfl, HB6.out⟩

set_option maxRecDepth 100000 in
set_option maxHeartbeats 4000000 in
theorem text_6 (b cn on nn : Nat) (t : ByteArray) (W : World) (hT : Tabs W) (hb : b < 18446744073709551616) (hc : cn ≤ 9223372036854775807) (ho : on < 18446744073709551616) (hn : nn < 18446744073709551616) (ht : t.size ≤ 4096) (hr : rightA ⟨6, b, cn, on, nn, t⟩ = true) : TextAt W ⟨6, b, cn, on, nn, t⟩ := by
  have hp : partsA ⟨6, b, cn, on, nn, t⟩ = [nameA 6, digN b] := by simp [partsA]
  unfold TextAt
  rw [hp]
  obtain ⟨i0, gi, gz0, gz1, gz2⟩ := info_parts str_info
  have HR := Lib.hid (fun X => right_any 6 b cn on nn t X)
  rw [hr] at HR
  have M0 := Lib.hid (Mid.start W 6 b cn on nn t)
  have HN := Lib.hid (fun u (hu : u < 18446744073709551616) X (hX : Tabs X) => number_any u hu X hX)
  have HP := Lib.hid (fun u (hu : u ≤ 9223372036854775807) X (hX : Tabs X) => print_any u hu X hX)
  have HQ := Lib.hid (fun X => quote_any t X ht)
  have HT := Lib.hid hT
  have HU := Lib.hid (And.intro hb (And.intro hc (And.intro ho hn)))
  have HJ := Lib.hid (show (Lib.join (([nameA 6, digN b]).map (·.data.toList)) (⟨#[32]⟩ : ByteArray).data.toList).length ≤ 140737488355328 by
    have := join_small 12289 [nameA 6, digN b] (by
      have h1 := name_size 6; have h2 := dig_size b hb; have h3 := dig_size cn (by omega); have h4 := dig_size on ho; have h5 := dig_size nn hn; have h6 := quoteB_size t ht
      intro p hp; simp only [List.mem_cons, List.not_mem_nil, or_false] at hp
      rcases hp with rfl | rfl <;> omega)
    exact Nat.le_trans this (by show 2 * 12290 ≤ _; decide))
  clear hr hp hT hb hc ho hn ht
  go_enter Tryd.func22, Tryd.ntmps22
  go_wp2_with fail
  refine (HR.out _).mono ?_
  rintro en w1 ⟨rfl, hb1⟩
  have M1 := Lib.hid (M0.out.below hb1)
  clear hb1
  obtain ⟨k0, k1, k2, k3, k4, k5⟩ := M1.out.cells
  have HT1 := Lib.hid (HT.out.below M1.out.lo)
  have n0 := HT1.out.names 6 (by decide)
  go_wp2_with fail
  have H3 := Lib.hid (below_alloc w1 (.cells #[.string (nameA 6)] 9))
  have HL3 := Lib.hid (lot_one w1 (nameA 6))
  have HL := Lib.hid M1.out.row
  generalize w1.alloc (.cells #[.string (nameA 6)] 9) = w3 at H3 HL3 ⊢
  have M3 := Lib.hid (M1.out.below H3.out)
  have HT3 := Lib.hid (HT1.out.below H3.out)
  have F3 := Lib.hid (fun X (hX : Below w3.heap.size w3 X) => (And.intro (M3.out.below hX).cells.2.1 (M3.out.below hX).cells.2.2.1))
  have X0 := Lib.hid (Below.refl w3.heap.size w3)
  clear k0 n0 k1 k2 k3 k4 k5
  go_region_held3 (fun w' => w'.cell? ⟨W.heap.size, 1, none⟩ = some (.int .u64 (b : Int)) ∧ w'.cell? ⟨W.heap.size, 2, none⟩ = some (.int .i64 (cn : Int)))
    (first
      | exact F3.out _ X2.out
      | exact F3.out _ X1.out
      | exact F3.out _ (drew_below' X0.out)
      | exact F3.out _ X0.out)
    (first
      | (go_at_call 48; refine (HN.out b HU.out.1 _ (HT3.out.below (drew_below' X0.out))).mono ?_; rintro e x1 ⟨rfl, hb⟩; have X1 := Lib.hid (below_to (drew_below' X0.out) hb (drew_below' X0.out).size); clear hb)
      | (go_at_call 49; refine (HP.out cn HU.out.2.1 _ (HT3.out.below X1.out)).mono ?_; rintro e x2 ⟨rfl, hb⟩; have X2 := Lib.hid (below_to X1.out hb X1.out.size); clear hb))
  obtain ⟨k0, k1, k2, k3, k4, k5⟩ := (M3.out.below X2.out).cells
  have HA := Lib.hid (below_to X2.out (below_alloc x2 (.cells #[.string (digN b)] 9)) X2.out.size)
  have HL4 := Lib.hid (HL3.out.below HA.out)
  go_wp2_with (at_builtin; refine wpList_append_lot _ rfl _ _ 81 rfl 9 i0 _ 1 16 Tryd.underlying81 gi gz0 gz1 gz2 rfl (.slice (some ⟨w1.heap.size, 0, none⟩) 1 1) 1 _ rfl HL4.out ⟨x2.heap.size, 0, none⟩ 1 1 [.string (digN b)] rfl rfl (World.news_of_block (cs := #[.string (digN b)]) (World.alloc_heap_new x2 _)) (by simp [Value.oneCell']) (by decide) (by decide) (by decide) _ rfl ?_; intro g4 cap4 w4 hL4 hg4 _; have HL5 := Lib.hid (show Lot w4 9 1 (.slice (some ⟨g4, 0, none⟩) 2 cap4) 2 (([nameA 6, digN b]).map .string) from hL4); have HB5 := Lib.hid (((M3.out.below HA.out).lo.grown hg4 (M3.out.below HA.out).lo.size (fun k hk => (by simp only [Value.ownBlock, Option.some.injEq] at hk; have := HL.out; omega)))); clear hL4 hg4)
  refine (join_lot _ g4 cap4 2 [nameA 6, digN b] rfl (by decide) (by decide) HL5.out HJ.out).mono ?_
  rintro e w5 ⟨rfl, hb⟩
  have HB6 := Lib.hid (HB5.out.trans (hb.mono HB5.out.size))
  clear hb
  go_wp2_with fail
  go_ret
  exact ⟨rfl, HB6.out⟩

set_option maxRecDepth 100000 in
set_option maxHeartbeats 4000000 in
theorem text_7 (b cn on nn : Nat) (t : ByteArray) (W : World) (hT : Tabs W) (hb : b < 18446744073709551616) (hc : cn ≤ 9223372036854775807) (ho : on < 18446744073709551616) (hn : nn < 18446744073709551616) (ht : t.size ≤ 4096) (hr : rightA ⟨7, b, cn, on, nn, t⟩ = true) : TextAt W ⟨7, b, cn, on, nn, t⟩ := by
  have hp : partsA ⟨7, b, cn, on, nn, t⟩ = [nameA 7, digN b] := by simp [partsA]
  unfold TextAt
  rw [hp]
  obtain ⟨i0, gi, gz0, gz1, gz2⟩ := info_parts str_info
  have HR := Lib.hid (fun X => right_any 7 b cn on nn t X)
  rw [hr] at HR
  have M0 := Lib.hid (Mid.start W 7 b cn on nn t)
  have HN := Lib.hid (fun u (hu : u < 18446744073709551616) X (hX : Tabs X) => number_any u hu X hX)
  have HP := Lib.hid (fun u (hu : u ≤ 9223372036854775807) X (hX : Tabs X) => print_any u hu X hX)
  have HQ := Lib.hid (fun X => quote_any t X ht)
  have HT := Lib.hid hT
  have HU := Lib.hid (And.intro hb (And.intro hc (And.intro ho hn)))
  have HJ := Lib.hid (show (Lib.join (([nameA 7, digN b]).map (·.data.toList)) (⟨#[32]⟩ : ByteArray).data.toList).length ≤ 140737488355328 by
    have := join_small 12289 [nameA 7, digN b] (by
      have h1 := name_size 7; have h2 := dig_size b hb; have h3 := dig_size cn (by omega); have h4 := dig_size on ho; have h5 := dig_size nn hn; have h6 := quoteB_size t ht
      intro p hp; simp only [List.mem_cons, List.not_mem_nil, or_false] at hp
      rcases hp with rfl | rfl <;> omega)
    exact Nat.le_trans this (by show 2 * 12290 ≤ _; decide))
  clear hr hp hT hb hc ho hn ht
  go_enter Tryd.func22, Tryd.ntmps22
  go_wp2_with fail
  refine (HR.out _).mono ?_
  rintro en w1 ⟨rfl, hb1⟩
  have M1 := Lib.hid (M0.out.below hb1)
  clear hb1
  obtain ⟨k0, k1, k2, k3, k4, k5⟩ := M1.out.cells
  have HT1 := Lib.hid (HT.out.below M1.out.lo)
  have n0 := HT1.out.names 7 (by decide)
  go_wp2_with fail
  have H3 := Lib.hid (below_alloc w1 (.cells #[.string (nameA 7)] 9))
  have HL3 := Lib.hid (lot_one w1 (nameA 7))
  have HL := Lib.hid M1.out.row
  generalize w1.alloc (.cells #[.string (nameA 7)] 9) = w3 at H3 HL3 ⊢
  have M3 := Lib.hid (M1.out.below H3.out)
  have HT3 := Lib.hid (HT1.out.below H3.out)
  have F3 := Lib.hid (fun X (hX : Below w3.heap.size w3 X) => (And.intro (M3.out.below hX).cells.2.1 (M3.out.below hX).cells.2.2.1))
  have X0 := Lib.hid (Below.refl w3.heap.size w3)
  clear k0 n0 k1 k2 k3 k4 k5
  go_region_held3 (fun w' => w'.cell? ⟨W.heap.size, 1, none⟩ = some (.int .u64 (b : Int)) ∧ w'.cell? ⟨W.heap.size, 2, none⟩ = some (.int .i64 (cn : Int)))
    (first
      | exact F3.out _ X2.out
      | exact F3.out _ X1.out
      | exact F3.out _ (drew_below' X0.out)
      | exact F3.out _ X0.out)
    (first
      | (go_at_call 48; refine (HN.out b HU.out.1 _ (HT3.out.below (drew_below' X0.out))).mono ?_; rintro e x1 ⟨rfl, hb⟩; have X1 := Lib.hid (below_to (drew_below' X0.out) hb (drew_below' X0.out).size); clear hb)
      | (go_at_call 49; refine (HP.out cn HU.out.2.1 _ (HT3.out.below X1.out)).mono ?_; rintro e x2 ⟨rfl, hb⟩; have X2 := Lib.hid (below_to X1.out hb X1.out.size); clear hb))
  obtain ⟨k0, k1, k2, k3, k4, k5⟩ := (M3.out.below X2.out).cells
  have HA := Lib.hid (below_to X2.out (below_alloc x2 (.cells #[.string (digN b)] 9)) X2.out.size)
  have HL4 := Lib.hid (HL3.out.below HA.out)
  go_wp2_with (at_builtin; refine wpList_append_lot _ rfl _ _ 81 rfl 9 i0 _ 1 16 Tryd.underlying81 gi gz0 gz1 gz2 rfl (.slice (some ⟨w1.heap.size, 0, none⟩) 1 1) 1 _ rfl HL4.out ⟨x2.heap.size, 0, none⟩ 1 1 [.string (digN b)] rfl rfl (World.news_of_block (cs := #[.string (digN b)]) (World.alloc_heap_new x2 _)) (by simp [Value.oneCell']) (by decide) (by decide) (by decide) _ rfl ?_; intro g4 cap4 w4 hL4 hg4 _; have HL5 := Lib.hid (show Lot w4 9 1 (.slice (some ⟨g4, 0, none⟩) 2 cap4) 2 (([nameA 7, digN b]).map .string) from hL4); have HB5 := Lib.hid (((M3.out.below HA.out).lo.grown hg4 (M3.out.below HA.out).lo.size (fun k hk => (by simp only [Value.ownBlock, Option.some.injEq] at hk; have := HL.out; omega)))); clear hL4 hg4)
  refine (join_lot _ g4 cap4 2 [nameA 7, digN b] rfl (by decide) (by decide) HL5.out HJ.out).mono ?_
  rintro e w5 ⟨rfl, hb⟩
  have HB6 := Lib.hid (HB5.out.trans (hb.mono HB5.out.size))
  clear hb
  go_wp2_with fail
  go_ret
  exact ⟨rfl, HB6.out⟩

set_option maxRecDepth 100000 in
set_option maxHeartbeats 4000000 in
theorem text_8 (b cn on nn : Nat) (t : ByteArray) (W : World) (hT : Tabs W) (hb : b < 18446744073709551616) (hc : cn ≤ 9223372036854775807) (ho : on < 18446744073709551616) (hn : nn < 18446744073709551616) (ht : t.size ≤ 4096) (hr : rightA ⟨8, b, cn, on, nn, t⟩ = true) : TextAt W ⟨8, b, cn, on, nn, t⟩ := by
  have hp : partsA ⟨8, b, cn, on, nn, t⟩ = [nameA 8] := by simp [partsA]
  unfold TextAt
  rw [hp]
  obtain ⟨i0, gi, gz0, gz1, gz2⟩ := info_parts str_info
  have HR := Lib.hid (fun X => right_any 8 b cn on nn t X)
  rw [hr] at HR
  have M0 := Lib.hid (Mid.start W 8 b cn on nn t)
  have HN := Lib.hid (fun u (hu : u < 18446744073709551616) X (hX : Tabs X) => number_any u hu X hX)
  have HP := Lib.hid (fun u (hu : u ≤ 9223372036854775807) X (hX : Tabs X) => print_any u hu X hX)
  have HQ := Lib.hid (fun X => quote_any t X ht)
  have HT := Lib.hid hT
  have HU := Lib.hid (And.intro hb (And.intro hc (And.intro ho hn)))
  have HJ := Lib.hid (show (Lib.join (([nameA 8]).map (·.data.toList)) (⟨#[32]⟩ : ByteArray).data.toList).length ≤ 140737488355328 by
    have := join_small 12289 [nameA 8] (by
      have h1 := name_size 8; have h2 := dig_size b hb; have h3 := dig_size cn (by omega); have h4 := dig_size on ho; have h5 := dig_size nn hn; have h6 := quoteB_size t ht
      intro p hp; simp only [List.mem_cons, List.not_mem_nil, or_false] at hp
      subst hp; omega)
    exact Nat.le_trans this (by show 1 * 12290 ≤ _; decide))
  clear hr hp hT hb hc ho hn ht
  go_enter Tryd.func22, Tryd.ntmps22
  go_wp2_with fail
  refine (HR.out _).mono ?_
  rintro en w1 ⟨rfl, hb1⟩
  have M1 := Lib.hid (M0.out.below hb1)
  clear hb1
  obtain ⟨k0, k1, k2, k3, k4, k5⟩ := M1.out.cells
  have HT1 := Lib.hid (HT.out.below M1.out.lo)
  have n0 := HT1.out.names 8 (by decide)
  go_wp2_with fail
  have H3 := Lib.hid (below_alloc w1 (.cells #[.string (nameA 8)] 9))
  have HL3 := Lib.hid (lot_one w1 (nameA 8))
  have HL := Lib.hid M1.out.row
  generalize w1.alloc (.cells #[.string (nameA 8)] 9) = w3 at H3 HL3 ⊢
  have M3 := Lib.hid (M1.out.below H3.out)
  have HT3 := Lib.hid (HT1.out.below H3.out)
  have F3 := Lib.hid (fun X (hX : Below w3.heap.size w3 X) => (And.intro (M3.out.below hX).cells.2.1 (M3.out.below hX).cells.2.2.1))
  have X0 := Lib.hid (Below.refl w3.heap.size w3)
  clear k0 n0 k1 k2 k3 k4 k5
  go_region_held3 (fun w' => w'.cell? ⟨W.heap.size, 1, none⟩ = some (.int .u64 (b : Int)) ∧ w'.cell? ⟨W.heap.size, 2, none⟩ = some (.int .i64 (cn : Int)))
    (first
      | exact F3.out _ X2.out
      | exact F3.out _ X1.out
      | exact F3.out _ (drew_below' X0.out)
      | exact F3.out _ X0.out)
    (first
      | (go_at_call 48; refine (HN.out b HU.out.1 _ (HT3.out.below (drew_below' X0.out))).mono ?_; rintro e x1 ⟨rfl, hb⟩; have X1 := Lib.hid (below_to (drew_below' X0.out) hb (drew_below' X0.out).size); clear hb)
      | (go_at_call 49; refine (HP.out cn HU.out.2.1 _ (HT3.out.below X1.out)).mono ?_; rintro e x2 ⟨rfl, hb⟩; have X2 := Lib.hid (below_to X1.out hb X1.out.size); clear hb))
  obtain ⟨k0, k1, k2, k3, k4, k5⟩ := (M3.out.below X2.out).cells
  go_wp2_with fail
  refine (join_lot _ w1.heap.size 1 1 [nameA 8] rfl (by decide) (by decide) (HL3.out.below X2.out) HJ.out).mono ?_
  rintro e w5 ⟨rfl, hb⟩
  have HB6 := Lib.hid ((M3.out.below X2.out).lo.trans (hb.mono (M3.out.below X2.out).lo.size))
  clear hb
  go_wp2_with fail
  go_ret
  exact ⟨rfl, HB6.out⟩

set_option maxRecDepth 100000 in
set_option maxHeartbeats 4000000 in
theorem text_9 (b cn on nn : Nat) (t : ByteArray) (W : World) (hT : Tabs W) (hb : b < 18446744073709551616) (hc : cn ≤ 9223372036854775807) (ho : on < 18446744073709551616) (hn : nn < 18446744073709551616) (ht : t.size ≤ 4096) (hr : rightA ⟨9, b, cn, on, nn, t⟩ = true) : TextAt W ⟨9, b, cn, on, nn, t⟩ := by
  have hp : partsA ⟨9, b, cn, on, nn, t⟩ = [nameA 9] := by simp [partsA]
  unfold TextAt
  rw [hp]
  obtain ⟨i0, gi, gz0, gz1, gz2⟩ := info_parts str_info
  have HR := Lib.hid (fun X => right_any 9 b cn on nn t X)
  rw [hr] at HR
  have M0 := Lib.hid (Mid.start W 9 b cn on nn t)
  have HN := Lib.hid (fun u (hu : u < 18446744073709551616) X (hX : Tabs X) => number_any u hu X hX)
  have HP := Lib.hid (fun u (hu : u ≤ 9223372036854775807) X (hX : Tabs X) => print_any u hu X hX)
  have HQ := Lib.hid (fun X => quote_any t X ht)
  have HT := Lib.hid hT
  have HU := Lib.hid (And.intro hb (And.intro hc (And.intro ho hn)))
  have HJ := Lib.hid (show (Lib.join (([nameA 9]).map (·.data.toList)) (⟨#[32]⟩ : ByteArray).data.toList).length ≤ 140737488355328 by
    have := join_small 12289 [nameA 9] (by
      have h1 := name_size 9; have h2 := dig_size b hb; have h3 := dig_size cn (by omega); have h4 := dig_size on ho; have h5 := dig_size nn hn; have h6 := quoteB_size t ht
      intro p hp; simp only [List.mem_cons, List.not_mem_nil, or_false] at hp
      subst hp; omega)
    exact Nat.le_trans this (by show 1 * 12290 ≤ _; decide))
  clear hr hp hT hb hc ho hn ht
  go_enter Tryd.func22, Tryd.ntmps22
  go_wp2_with fail
  refine (HR.out _).mono ?_
  rintro en w1 ⟨rfl, hb1⟩
  have M1 := Lib.hid (M0.out.below hb1)
  clear hb1
  obtain ⟨k0, k1, k2, k3, k4, k5⟩ := M1.out.cells
  have HT1 := Lib.hid (HT.out.below M1.out.lo)
  have n0 := HT1.out.names 9 (by decide)
  go_wp2_with fail
  have H3 := Lib.hid (below_alloc w1 (.cells #[.string (nameA 9)] 9))
  have HL3 := Lib.hid (lot_one w1 (nameA 9))
  have HL := Lib.hid M1.out.row
  generalize w1.alloc (.cells #[.string (nameA 9)] 9) = w3 at H3 HL3 ⊢
  have M3 := Lib.hid (M1.out.below H3.out)
  have HT3 := Lib.hid (HT1.out.below H3.out)
  have F3 := Lib.hid (fun X (hX : Below w3.heap.size w3 X) => (And.intro (M3.out.below hX).cells.2.1 (M3.out.below hX).cells.2.2.1))
  have X0 := Lib.hid (Below.refl w3.heap.size w3)
  clear k0 n0 k1 k2 k3 k4 k5
  go_region_held3 (fun w' => w'.cell? ⟨W.heap.size, 1, none⟩ = some (.int .u64 (b : Int)) ∧ w'.cell? ⟨W.heap.size, 2, none⟩ = some (.int .i64 (cn : Int)))
    (first
      | exact F3.out _ X2.out
      | exact F3.out _ X1.out
      | exact F3.out _ (drew_below' X0.out)
      | exact F3.out _ X0.out)
    (first
      | (go_at_call 48; refine (HN.out b HU.out.1 _ (HT3.out.below (drew_below' X0.out))).mono ?_; rintro e x1 ⟨rfl, hb⟩; have X1 := Lib.hid (below_to (drew_below' X0.out) hb (drew_below' X0.out).size); clear hb)
      | (go_at_call 49; refine (HP.out cn HU.out.2.1 _ (HT3.out.below X1.out)).mono ?_; rintro e x2 ⟨rfl, hb⟩; have X2 := Lib.hid (below_to X1.out hb X1.out.size); clear hb))
  obtain ⟨k0, k1, k2, k3, k4, k5⟩ := (M3.out.below X2.out).cells
  go_wp2_with fail
  refine (join_lot _ w1.heap.size 1 1 [nameA 9] rfl (by decide) (by decide) (HL3.out.below X2.out) HJ.out).mono ?_
  rintro e w5 ⟨rfl, hb⟩
  have HB6 := Lib.hid ((M3.out.below X2.out).lo.trans (hb.mono (M3.out.below X2.out).lo.size))
  clear hb
  go_wp2_with fail
  go_ret
  exact ⟨rfl, HB6.out⟩

set_option maxRecDepth 100000 in
set_option maxHeartbeats 4000000 in
theorem text_10 (b cn on nn : Nat) (t : ByteArray) (W : World) (hT : Tabs W) (hb : b < 18446744073709551616) (hc : cn ≤ 9223372036854775807) (ho : on < 18446744073709551616) (hn : nn < 18446744073709551616) (ht : t.size ≤ 4096) (hr : rightA ⟨10, b, cn, on, nn, t⟩ = true) : TextAt W ⟨10, b, cn, on, nn, t⟩ := by
  have hp : partsA ⟨10, b, cn, on, nn, t⟩ = [nameA 10, digN b, digN cn] := by simp [partsA]
  unfold TextAt
  rw [hp]
  obtain ⟨i0, gi, gz0, gz1, gz2⟩ := info_parts str_info
  have HR := Lib.hid (fun X => right_any 10 b cn on nn t X)
  rw [hr] at HR
  have M0 := Lib.hid (Mid.start W 10 b cn on nn t)
  have HN := Lib.hid (fun u (hu : u < 18446744073709551616) X (hX : Tabs X) => number_any u hu X hX)
  have HP := Lib.hid (fun u (hu : u ≤ 9223372036854775807) X (hX : Tabs X) => print_any u hu X hX)
  have HQ := Lib.hid (fun X => quote_any t X ht)
  have HT := Lib.hid hT
  have HU := Lib.hid (And.intro hb (And.intro hc (And.intro ho hn)))
  have HJ := Lib.hid (show (Lib.join (([nameA 10, digN b, digN cn]).map (·.data.toList)) (⟨#[32]⟩ : ByteArray).data.toList).length ≤ 140737488355328 by
    have := join_small 12289 [nameA 10, digN b, digN cn] (by
      have h1 := name_size 10; have h2 := dig_size b hb; have h3 := dig_size cn (by omega); have h4 := dig_size on ho; have h5 := dig_size nn hn; have h6 := quoteB_size t ht
      intro p hp; simp only [List.mem_cons, List.not_mem_nil, or_false] at hp
      rcases hp with rfl | rfl | rfl <;> omega)
    exact Nat.le_trans this (by show 3 * 12290 ≤ _; decide))
  clear hr hp hT hb hc ho hn ht
  go_enter Tryd.func22, Tryd.ntmps22
  go_wp2_with fail
  refine (HR.out _).mono ?_
  rintro en w1 ⟨rfl, hb1⟩
  have M1 := Lib.hid (M0.out.below hb1)
  clear hb1
  obtain ⟨k0, k1, k2, k3, k4, k5⟩ := M1.out.cells
  have HT1 := Lib.hid (HT.out.below M1.out.lo)
  have n0 := HT1.out.names 10 (by decide)
  go_wp2_with fail
  have H3 := Lib.hid (below_alloc w1 (.cells #[.string (nameA 10)] 9))
  have HL3 := Lib.hid (lot_one w1 (nameA 10))
  have HL := Lib.hid M1.out.row
  generalize w1.alloc (.cells #[.string (nameA 10)] 9) = w3 at H3 HL3 ⊢
  have M3 := Lib.hid (M1.out.below H3.out)
  have HT3 := Lib.hid (HT1.out.below H3.out)
  have F3 := Lib.hid (fun X (hX : Below w3.heap.size w3 X) => (And.intro (M3.out.below hX).cells.2.1 (M3.out.below hX).cells.2.2.1))
  have X0 := Lib.hid (Below.refl w3.heap.size w3)
  clear k0 n0 k1 k2 k3 k4 k5
  go_region_held3 (fun w' => w'.cell? ⟨W.heap.size, 1, none⟩ = some (.int .u64 (b : Int)) ∧ w'.cell? ⟨W.heap.size, 2, none⟩ = some (.int .i64 (cn : Int)))
    (first
      | exact F3.out _ X2.out
      | exact F3.out _ X1.out
      | exact F3.out _ (drew_below' X0.out)
      | exact F3.out _ X0.out)
    (first
      | (go_at_call 48; refine (HN.out b HU.out.1 _ (HT3.out.below (drew_below' X0.out))).mono ?_; rintro e x1 ⟨rfl, hb⟩; have X1 := Lib.hid (below_to (drew_below' X0.out) hb (drew_below' X0.out).size); clear hb)
      | (go_at_call 49; refine (HP.out cn HU.out.2.1 _ (HT3.out.below X1.out)).mono ?_; rintro e x2 ⟨rfl, hb⟩; have X2 := Lib.hid (below_to X1.out hb X1.out.size); clear hb))
  obtain ⟨k0, k1, k2, k3, k4, k5⟩ := (M3.out.below X2.out).cells
  have HA := Lib.hid (below_to X2.out (below_alloc x2 (.cells #[.string (digN b), .string (digN cn)] 9)) X2.out.size)
  have HL4 := Lib.hid (HL3.out.below HA.out)
  go_wp2_with (at_builtin; refine wpList_append_lot _ rfl _ _ 81 rfl 9 i0 _ 1 16 Tryd.underlying81 gi gz0 gz1 gz2 rfl (.slice (some ⟨w1.heap.size, 0, none⟩) 1 1) 1 _ rfl HL4.out ⟨x2.heap.size, 0, none⟩ 2 2 [.string (digN b), .string (digN cn)] rfl rfl (World.news_of_block (cs := #[.string (digN b), .string (digN cn)]) (World.alloc_heap_new x2 _)) (by simp [Value.oneCell']) (by decide) (by decide) (by decide) _ rfl ?_; intro g4 cap4 w4 hL4 hg4 _; have HL5 := Lib.hid (show Lot w4 9 1 (.slice (some ⟨g4, 0, none⟩) 3 cap4) 3 (([nameA 10, digN b, digN cn]).map .string) from hL4); have HB5 := Lib.hid (((M3.out.below HA.out).lo.grown hg4 (M3.out.below HA.out).lo.size (fun k hk => (by simp only [Value.ownBlock, Option.some.injEq] at hk; have := HL.out; omega)))); clear hL4 hg4)
  refine (join_lot _ g4 cap4 3 [nameA 10, digN b, digN cn] rfl (by decide) (by decide) HL5.out HJ.out).mono ?_
  rintro e w5 ⟨rfl, hb⟩
  have HB6 := Lib.hid (HB5.out.trans (hb.mono HB5.out.size))
  clear hb
  go_wp2_with fail
  go_ret
  exact ⟨rfl, HB6.out⟩

end Go.Proofs.YtlgjolajnddpbaaDoor
