/-
  Text, by the reference.
-/
import Derived.Test.YtlgjolajnddpbaaDoorTextany
import Derived.Test.YtlgjolajnddpbaaDoorActr
namespace Go.Proofs.YtlgjolajnddpbaaDoor
open Go Go.Shelf Go.RowKit
attribute [local go_sem ↓] Go.wp_at_zero Go.wp_at_succ

/-- A text of an act of one kind, made by the reference. -/
def RTextAt (W : World) (x : ActD) : Prop := Calls Tryd.prog 23 #[actV x.kind x.block x.cell x.old x.new x.text] W fun e W' => e = .returned (.string (lineB (partsA x))) ∧ Below W.heap.size W W'
theorem ba_app {a b : ByteArray} : a ++ b = ⟨(a.data.toList ++ b.data.toList).toArray⟩ := by
  apply ByteArray.ext
  simp

theorem rline_0 : lineB [nameA 0] = (⟨#[110, 111, 110, 101]⟩ : ByteArray) := by
  unfold lineB
  apply ByteArray.ext
  simp [Lib.join_cons, Lib.joinTail, nameA]
set_option maxRecDepth 100000 in
set_option maxHeartbeats 4000000 in
theorem rtext_0 (b cn on nn : Nat) (t : ByteArray) (W : World) (hb : b < 18446744073709551616) (hc : cn ≤ 9223372036854775807) (ho : on < 18446744073709551616) (hn : nn < 18446744073709551616) (ht : t.size ≤ 4096) (hr : rightA ⟨0, b, cn, on, nn, t⟩ = true) : RTextAt W ⟨0, b, cn, on, nn, t⟩ := by
  have hp : partsA ⟨0, b, cn, on, nn, t⟩ = [nameA 0] := by simp [partsA]
  unfold RTextAt
  rw [hp, rline_0]
  have HR := Lib.hid (fun X => rright_any 0 b cn on nn t X)
  rw [hr] at HR
  have M0 := Lib.hid (Mid.start W 0 b cn on nn t)
  have HN := Lib.hid (fun u (hu : u < 18446744073709551616) X => natural_any u hu X)
  have HQ := Lib.hid (fun X => rquote_any t X ht)
  have hw : IntKind.u64.wrap (cn : Int) = (cn : Int) := by rw [IntKind.wrap_u64]; omega
  have HU := Lib.hid (And.intro hb (And.intro hc (And.intro ho hn)))
  have HC := Lib.hid (show cn < 18446744073709551616 by omega)
  have s1 := dig_size b hb
  have s2 := dig_size cn (by omega)
  have s3 := dig_size on ho
  have s4 := dig_size nn hn
  have s5 := quoteB_size t ht
  clear hr hp hb ho hn ht
  go_enter Tryd.func23, Tryd.ntmps23
  go_wp2_with fail
  refine (HR.out _).mono ?_
  rintro en w1 ⟨rfl, hb1⟩
  have M1 := Lib.hid (M0.out.below hb1)
  clear hb1
  have k0 := fun ob => (M1.out.below (below_alloc w1 ob)).cells.1
  go_wp2_with fail
  go_ret
  exact ⟨rfl, (M1.out.below (below_alloc w1 _)).lo⟩

theorem rline_1 (b : Nat) (cn : Nat) : lineB [nameA 1, digN b, digN cn] = (((⟨#[108, 111, 97, 100]⟩ : ByteArray) ++ (⟨#[32]⟩ : ByteArray) ++ digN b) ++ (⟨#[32]⟩ : ByteArray) ++ digN cn) := by
  unfold lineB
  apply ByteArray.ext
  simp [Lib.join_cons, Lib.joinTail, nameA, ByteArray.data_append]
set_option maxRecDepth 100000 in
set_option maxHeartbeats 4000000 in
theorem rtext_1 (b cn on nn : Nat) (t : ByteArray) (W : World) (hb : b < 18446744073709551616) (hc : cn ≤ 9223372036854775807) (ho : on < 18446744073709551616) (hn : nn < 18446744073709551616) (ht : t.size ≤ 4096) (hr : rightA ⟨1, b, cn, on, nn, t⟩ = true) : RTextAt W ⟨1, b, cn, on, nn, t⟩ := by
  have hp : partsA ⟨1, b, cn, on, nn, t⟩ = [nameA 1, digN b, digN cn] := by simp [partsA]
  unfold RTextAt
  rw [hp, rline_1 b cn]
  have HR := Lib.hid (fun X => rright_any 1 b cn on nn t X)
  rw [hr] at HR
  have M0 := Lib.hid (Mid.start W 1 b cn on nn t)
  have HN := Lib.hid (fun u (hu : u < 18446744073709551616) X => natural_any u hu X)
  have HQ := Lib.hid (fun X => rquote_any t X ht)
  have hw : IntKind.u64.wrap (cn : Int) = (cn : Int) := by rw [IntKind.wrap_u64]; omega
  have HU := Lib.hid (And.intro hb (And.intro hc (And.intro ho hn)))
  have HC := Lib.hid (show cn < 18446744073709551616 by omega)
  have s1 := dig_size b hb
  have s2 := dig_size cn (by omega)
  have s3 := dig_size on ho
  have s4 := dig_size nn hn
  have s5 := quoteB_size t ht
  clear hr hp hb ho hn ht
  go_enter Tryd.func23, Tryd.ntmps23
  go_wp2_with fail
  refine (HR.out _).mono ?_
  rintro en w1 ⟨rfl, hb1⟩
  have M1 := Lib.hid (M0.out.below hb1)
  clear hb1
  have k0 := fun ob => (M1.out.below (below_alloc w1 ob)).cells.1
  have k1 := fun ob => (M1.out.below (below_alloc w1 ob)).cells.2.1
  go_wp2_with fail
  refine (HN.out b HU.out.1 _).mono ?_
  rintro e w2 ⟨rfl, hb⟩
  have M2 := Lib.hid ((M1.out.below (below_alloc w1 _)).below hb)
  clear hb k0 k1
  obtain ⟨k0, k1, k2, k3, k4, k5⟩ := M2.out.cells
  go_wp2_with fail
  refine (HN.out cn HC.out _).mono ?_
  rintro e w3 ⟨rfl, hb⟩
  have M3 := Lib.hid (M2.out.below hb)
  clear hb k0 k1 k2 k3 k4 k5
  obtain ⟨k0, k1, k2, k3, k4, k5⟩ := M3.out.cells
  go_wp2_with fail
  go_ret
  exact ⟨rfl, M3.out.lo⟩

theorem rline_2 (b : Nat) (cn : Nat) (nn : Nat) : lineB [nameA 2, digN b, digN cn, digN nn] = ((((⟨#[115, 116, 111, 114, 101]⟩ : ByteArray) ++ (⟨#[32]⟩ : ByteArray) ++ digN b) ++ (⟨#[32]⟩ : ByteArray) ++ digN cn) ++ (⟨#[32]⟩ : ByteArray) ++ digN nn) := by
  unfold lineB
  apply ByteArray.ext
  simp [Lib.join_cons, Lib.joinTail, nameA, ByteArray.data_append]
set_option maxRecDepth 100000 in
set_option maxHeartbeats 4000000 in
theorem rtext_2 (b cn on nn : Nat) (t : ByteArray) (W : World) (hb : b < 18446744073709551616) (hc : cn ≤ 9223372036854775807) (ho : on < 18446744073709551616) (hn : nn < 18446744073709551616) (ht : t.size ≤ 4096) (hr : rightA ⟨2, b, cn, on, nn, t⟩ = true) : RTextAt W ⟨2, b, cn, on, nn, t⟩ := by
  have hp : partsA ⟨2, b, cn, on, nn, t⟩ = [nameA 2, digN b, digN cn, digN nn] := by simp [partsA]
  unfold RTextAt
  rw [hp, rline_2 b cn nn]
  have HR := Lib.hid (fun X => rright_any 2 b cn on nn t X)
  rw [hr] at HR
  have M0 := Lib.hid (Mid.start W 2 b cn on nn t)
  have HN := Lib.hid (fun u (hu : u < 18446744073709551616) X => natural_any u hu X)
  have HQ := Lib.hid (fun X => rquote_any t X ht)
  have hw : IntKind.u64.wrap (cn : Int) = (cn : Int) := by rw [IntKind.wrap_u64]; omega
  have HU := Lib.hid (And.intro hb (And.intro hc (And.intro ho hn)))
  have HC := Lib.hid (show cn < 18446744073709551616 by omega)
  have s1 := dig_size b hb
  have s2 := dig_size cn (by omega)
  have s3 := dig_size on ho
  have s4 := dig_size nn hn
  have s5 := quoteB_size t ht
  clear hr hp hb ho hn ht
  go_enter Tryd.func23, Tryd.ntmps23
  go_wp2_with fail
  refine (HR.out _).mono ?_
  rintro en w1 ⟨rfl, hb1⟩
  have M1 := Lib.hid (M0.out.below hb1)
  clear hb1
  have k0 := fun ob => (M1.out.below (below_alloc w1 ob)).cells.1
  have k1 := fun ob => (M1.out.below (below_alloc w1 ob)).cells.2.1
  go_wp2_with fail
  refine (HN.out b HU.out.1 _).mono ?_
  rintro e w2 ⟨rfl, hb⟩
  have M2 := Lib.hid ((M1.out.below (below_alloc w1 _)).below hb)
  clear hb k0 k1
  obtain ⟨k0, k1, k2, k3, k4, k5⟩ := M2.out.cells
  go_wp2_with fail
  refine (HN.out cn HC.out _).mono ?_
  rintro e w3 ⟨rfl, hb⟩
  have M3 := Lib.hid (M2.out.below hb)
  clear hb k0 k1 k2 k3 k4 k5
  obtain ⟨k0, k1, k2, k3, k4, k5⟩ := M3.out.cells
  go_wp2_with fail
  refine (HN.out nn HU.out.2.2.2 _).mono ?_
  rintro e w4 ⟨rfl, hb⟩
  have M4 := Lib.hid (M3.out.below hb)
  clear hb k0 k1 k2 k3 k4 k5
  obtain ⟨k0, k1, k2, k3, k4, k5⟩ := M4.out.cells
  go_wp2_with fail
  go_ret
  exact ⟨rfl, M4.out.lo⟩

theorem rline_3 (b : Nat) (cn : Nat) (on : Nat) (nn : Nat) : lineB [nameA 3, digN b, digN cn, digN on, digN nn] = (((((⟨#[115, 119, 97, 112]⟩ : ByteArray) ++ (⟨#[32]⟩ : ByteArray) ++ digN b) ++ (⟨#[32]⟩ : ByteArray) ++ digN cn) ++ (⟨#[32]⟩ : ByteArray) ++ digN on) ++ (⟨#[32]⟩ : ByteArray) ++ digN nn) := by
  unfold lineB
  apply ByteArray.ext
  simp [Lib.join_cons, Lib.joinTail, nameA, ByteArray.data_append]
set_option maxRecDepth 100000 in
set_option maxHeartbeats 4000000 in
theorem rtext_3 (b cn on nn : Nat) (t : ByteArray) (W : World) (hb : b < 18446744073709551616) (hc : cn ≤ 9223372036854775807) (ho : on < 18446744073709551616) (hn : nn < 18446744073709551616) (ht : t.size ≤ 4096) (hr : rightA ⟨3, b, cn, on, nn, t⟩ = true) : RTextAt W ⟨3, b, cn, on, nn, t⟩ := by
  have hp : partsA ⟨3, b, cn, on, nn, t⟩ = [nameA 3, digN b, digN cn, digN on, digN nn] := by simp [partsA]
  unfold RTextAt
  rw [hp, rline_3 b cn on nn]
  have HR := Lib.hid (fun X => rright_any 3 b cn on nn t X)
  rw [hr] at HR
  have M0 := Lib.hid (Mid.start W 3 b cn on nn t)
  have HN := Lib.hid (fun u (hu : u < 18446744073709551616) X => natural_any u hu X)
  have HQ := Lib.hid (fun X => rquote_any t X ht)
  have hw : IntKind.u64.wrap (cn : Int) = (cn : Int) := by rw [IntKind.wrap_u64]; omega
  have HU := Lib.hid (And.intro hb (And.intro hc (And.intro ho hn)))
  have HC := Lib.hid (show cn < 18446744073709551616 by omega)
  have s1 := dig_size b hb
  have s2 := dig_size cn (by omega)
  have s3 := dig_size on ho
  have s4 := dig_size nn hn
  have s5 := quoteB_size t ht
  clear hr hp hb ho hn ht
  go_enter Tryd.func23, Tryd.ntmps23
  go_wp2_with fail
  refine (HR.out _).mono ?_
  rintro en w1 ⟨rfl, hb1⟩
  have M1 := Lib.hid (M0.out.below hb1)
  clear hb1
  have k0 := fun ob => (M1.out.below (below_alloc w1 ob)).cells.1
  have k1 := fun ob => (M1.out.below (below_alloc w1 ob)).cells.2.1
  go_wp2_with fail
  refine (HN.out b HU.out.1 _).mono ?_
  rintro e w2 ⟨rfl, hb⟩
  have M2 := Lib.hid ((M1.out.below (below_alloc w1 _)).below hb)
  clear hb k0 k1
  obtain ⟨k0, k1, k2, k3, k4, k5⟩ := M2.out.cells
  go_wp2_with fail
  refine (HN.out cn HC.out _).mono ?_
  rintro e w3 ⟨rfl, hb⟩
  have M3 := Lib.hid (M2.out.below hb)
  clear hb k0 k1 k2 k3 k4 k5
  obtain ⟨k0, k1, k2, k3, k4, k5⟩ := M3.out.cells
  go_wp2_with fail
  refine (HN.out on HU.out.2.2.1 _).mono ?_
  rintro e w4 ⟨rfl, hb⟩
  have M4 := Lib.hid (M3.out.below hb)
  clear hb k0 k1 k2 k3 k4 k5
  obtain ⟨k0, k1, k2, k3, k4, k5⟩ := M4.out.cells
  go_wp2_with fail
  refine (HN.out nn HU.out.2.2.2 _).mono ?_
  rintro e w5 ⟨rfl, hb⟩
  have M5 := Lib.hid (M4.out.below hb)
  clear hb k0 k1 k2 k3 k4 k5
  obtain ⟨k0, k1, k2, k3, k4, k5⟩ := M5.out.cells
  go_wp2_with fail
  go_ret
  exact ⟨rfl, M5.out.lo⟩

theorem rline_4 (b : Nat) (cn : Nat) (nn : Nat) : lineB [nameA 4, digN b, digN cn, digN nn] = ((((⟨#[98, 117, 109, 112]⟩ : ByteArray) ++ (⟨#[32]⟩ : ByteArray) ++ digN b) ++ (⟨#[32]⟩ : ByteArray) ++ digN cn) ++ (⟨#[32]⟩ : ByteArray) ++ digN nn) := by
  unfold lineB
  apply ByteArray.ext
  simp [Lib.join_cons, Lib.joinTail, nameA, ByteArray.data_append]
set_option maxRecDepth 100000 in
set_option maxHeartbeats 4000000 in
theorem rtext_4 (b cn on nn : Nat) (t : ByteArray) (W : World) (hb : b < 18446744073709551616) (hc : cn ≤ 9223372036854775807) (ho : on < 18446744073709551616) (hn : nn < 18446744073709551616) (ht : t.size ≤ 4096) (hr : rightA ⟨4, b, cn, on, nn, t⟩ = true) : RTextAt W ⟨4, b, cn, on, nn, t⟩ := by
  have hp : partsA ⟨4, b, cn, on, nn, t⟩ = [nameA 4, digN b, digN cn, digN nn] := by simp [partsA]
  unfold RTextAt
  rw [hp, rline_4 b cn nn]
  have HR := Lib.hid (fun X => rright_any 4 b cn on nn t X)
  rw [hr] at HR
  have M0 := Lib.hid (Mid.start W 4 b cn on nn t)
  have HN := Lib.hid (fun u (hu : u < 18446744073709551616) X => natural_any u hu X)
  have HQ := Lib.hid (fun X => rquote_any t X ht)
  have hw : IntKind.u64.wrap (cn : Int) = (cn : Int) := by rw [IntKind.wrap_u64]; omega
  have HU := Lib.hid (And.intro hb (And.intro hc (And.intro ho hn)))
  have HC := Lib.hid (show cn < 18446744073709551616 by omega)
  have s1 := dig_size b hb
  have s2 := dig_size cn (by omega)
  have s3 := dig_size on ho
  have s4 := dig_size nn hn
  have s5 := quoteB_size t ht
  clear hr hp hb ho hn ht
  go_enter Tryd.func23, Tryd.ntmps23
  go_wp2_with fail
  refine (HR.out _).mono ?_
  rintro en w1 ⟨rfl, hb1⟩
  have M1 := Lib.hid (M0.out.below hb1)
  clear hb1
  have k0 := fun ob => (M1.out.below (below_alloc w1 ob)).cells.1
  have k1 := fun ob => (M1.out.below (below_alloc w1 ob)).cells.2.1
  go_wp2_with fail
  refine (HN.out b HU.out.1 _).mono ?_
  rintro e w2 ⟨rfl, hb⟩
  have M2 := Lib.hid ((M1.out.below (below_alloc w1 _)).below hb)
  clear hb k0 k1
  obtain ⟨k0, k1, k2, k3, k4, k5⟩ := M2.out.cells
  go_wp2_with fail
  refine (HN.out cn HC.out _).mono ?_
  rintro e w3 ⟨rfl, hb⟩
  have M3 := Lib.hid (M2.out.below hb)
  clear hb k0 k1 k2 k3 k4 k5
  obtain ⟨k0, k1, k2, k3, k4, k5⟩ := M3.out.cells
  go_wp2_with fail
  refine (HN.out nn HU.out.2.2.2 _).mono ?_
  rintro e w4 ⟨rfl, hb⟩
  have M4 := Lib.hid (M3.out.below hb)
  clear hb k0 k1 k2 k3 k4 k5
  obtain ⟨k0, k1, k2, k3, k4, k5⟩ := M4.out.cells
  go_wp2_with fail
  go_ret
  exact ⟨rfl, M4.out.lo⟩

theorem rline_5 (cn : Nat) (t : ByteArray) : lineB [nameA 5, digN cn, quoteB t] = (((⟨#[109, 97, 107, 101]⟩ : ByteArray) ++ (⟨#[32]⟩ : ByteArray) ++ digN cn) ++ (⟨#[32]⟩ : ByteArray) ++ quoteB t) := by
  unfold lineB
  apply ByteArray.ext
  simp [Lib.join_cons, Lib.joinTail, nameA, ByteArray.data_append]
set_option maxRecDepth 100000 in
set_option maxHeartbeats 4000000 in
theorem rtext_5 (b cn on nn : Nat) (t : ByteArray) (W : World) (hb : b < 18446744073709551616) (hc : cn ≤ 9223372036854775807) (ho : on < 18446744073709551616) (hn : nn < 18446744073709551616) (ht : t.size ≤ 4096) (hr : rightA ⟨5, b, cn, on, nn, t⟩ = true) : RTextAt W ⟨5, b, cn, on, nn, t⟩ := by
  have hp : partsA ⟨5, b, cn, on, nn, t⟩ = [nameA 5, digN cn, quoteB t] := by simp [partsA]
  unfold RTextAt
  rw [hp, rline_5 cn t]
  have HR := Lib.hid (fun X => rright_any 5 b cn on nn t X)
  rw [hr] at HR
  have M0 := Lib.hid (Mid.start W 5 b cn on nn t)
  have HN := Lib.hid (fun u (hu : u < 18446744073709551616) X => natural_any u hu X)
  have HQ := Lib.hid (fun X => rquote_any t X ht)
  have hw : IntKind.u64.wrap (cn : Int) = (cn : Int) := by rw [IntKind.wrap_u64]; omega
  have HU := Lib.hid (And.intro hb (And.intro hc (And.intro ho hn)))
  have HC := Lib.hid (show cn < 18446744073709551616 by omega)
  have s1 := dig_size b hb
  have s2 := dig_size cn (by omega)
  have s3 := dig_size on ho
  have s4 := dig_size nn hn
  have s5 := quoteB_size t ht
  clear hr hp hb ho hn ht
  go_enter Tryd.func23, Tryd.ntmps23
  go_wp2_with fail
  refine (HR.out _).mono ?_
  rintro en w1 ⟨rfl, hb1⟩
  have M1 := Lib.hid (M0.out.below hb1)
  clear hb1
  have k0 := fun ob => (M1.out.below (below_alloc w1 ob)).cells.1
  have k1 := fun ob => (M1.out.below (below_alloc w1 ob)).cells.2.2.1
  go_wp2_with fail
  refine (HN.out cn HC.out _).mono ?_
  rintro e w2 ⟨rfl, hb⟩
  have M2 := Lib.hid ((M1.out.below (below_alloc w1 _)).below hb)
  clear hb k0 k1
  obtain ⟨k0, k1, k2, k3, k4, k5⟩ := M2.out.cells
  go_wp2_with fail
  refine (HQ.out _).mono ?_
  rintro e w3 ⟨rfl, hb⟩
  have M3 := Lib.hid (M2.out.below hb)
  clear hb k0 k1 k2 k3 k4 k5
  obtain ⟨k0, k1, k2, k3, k4, k5⟩ := M3.out.cells
  go_wp2_with fail
  go_ret
  exact ⟨rfl, M3.out.lo⟩

theorem rline_6 (b : Nat) : lineB [nameA 6, digN b] = ((⟨#[119, 111, 114, 100, 115]⟩ : ByteArray) ++ (⟨#[32]⟩ : ByteArray) ++ digN b) := by
  unfold lineB
  apply ByteArray.ext
  simp [Lib.join_cons, Lib.joinTail, nameA, ByteArray.data_append]
set_option maxRecDepth 100000 in
set_option maxHeartbeats 4000000 in
theorem rtext_6 (b cn on nn : Nat) (t : ByteArray) (W : World) (hb : b < 18446744073709551616) (hc : cn ≤ 9223372036854775807) (ho : on < 18446744073709551616) (hn : nn < 18446744073709551616) (ht : t.size ≤ 4096) (hr : rightA ⟨6, b, cn, on, nn, t⟩ = true) : RTextAt W ⟨6, b, cn, on, nn, t⟩ := by
  have hp : partsA ⟨6, b, cn, on, nn, t⟩ = [nameA 6, digN b] := by simp [partsA]
  unfold RTextAt
  rw [hp, rline_6 b]
  have HR := Lib.hid (fun X => rright_any 6 b cn on nn t X)
  rw [hr] at HR
  have M0 := Lib.hid (Mid.start W 6 b cn on nn t)
  have HN := Lib.hid (fun u (hu : u < 18446744073709551616) X => natural_any u hu X)
  have HQ := Lib.hid (fun X => rquote_any t X ht)
  have hw : IntKind.u64.wrap (cn : Int) = (cn : Int) := by rw [IntKind.wrap_u64]; omega
  have HU := Lib.hid (And.intro hb (And.intro hc (And.intro ho hn)))
  have HC := Lib.hid (show cn < 18446744073709551616 by omega)
  have s1 := dig_size b hb
  have s2 := dig_size cn (by omega)
  have s3 := dig_size on ho
  have s4 := dig_size nn hn
  have s5 := quoteB_size t ht
  clear hr hp hb ho hn ht
  go_enter Tryd.func23, Tryd.ntmps23
  go_wp2_with fail
  refine (HR.out _).mono ?_
  rintro en w1 ⟨rfl, hb1⟩
  have M1 := Lib.hid (M0.out.below hb1)
  clear hb1
  have k0 := fun ob => (M1.out.below (below_alloc w1 ob)).cells.1
  have k1 := fun ob => (M1.out.below (below_alloc w1 ob)).cells.2.1
  go_wp2_with fail
  refine (HN.out b HU.out.1 _).mono ?_
  rintro e w2 ⟨rfl, hb⟩
  have M2 := Lib.hid ((M1.out.below (below_alloc w1 _)).below hb)
  clear hb k0 k1
  obtain ⟨k0, k1, k2, k3, k4, k5⟩ := M2.out.cells
  go_wp2_with fail
  go_ret
  exact ⟨rfl, M2.out.lo⟩

theorem rline_7 (b : Nat) : lineB [nameA 7, digN b] = ((⟨#[100, 114, 111, 112]⟩ : ByteArray) ++ (⟨#[32]⟩ : ByteArray) ++ digN b) := by
  unfold lineB
  apply ByteArray.ext
  simp [Lib.join_cons, Lib.joinTail, nameA, ByteArray.data_append]
set_option maxRecDepth 100000 in
set_option maxHeartbeats 4000000 in
theorem rtext_7 (b cn on nn : Nat) (t : ByteArray) (W : World) (hb : b < 18446744073709551616) (hc : cn ≤ 9223372036854775807) (ho : on < 18446744073709551616) (hn : nn < 18446744073709551616) (ht : t.size ≤ 4096) (hr : rightA ⟨7, b, cn, on, nn, t⟩ = true) : RTextAt W ⟨7, b, cn, on, nn, t⟩ := by
  have hp : partsA ⟨7, b, cn, on, nn, t⟩ = [nameA 7, digN b] := by simp [partsA]
  unfold RTextAt
  rw [hp, rline_7 b]
  have HR := Lib.hid (fun X => rright_any 7 b cn on nn t X)
  rw [hr] at HR
  have M0 := Lib.hid (Mid.start W 7 b cn on nn t)
  have HN := Lib.hid (fun u (hu : u < 18446744073709551616) X => natural_any u hu X)
  have HQ := Lib.hid (fun X => rquote_any t X ht)
  have hw : IntKind.u64.wrap (cn : Int) = (cn : Int) := by rw [IntKind.wrap_u64]; omega
  have HU := Lib.hid (And.intro hb (And.intro hc (And.intro ho hn)))
  have HC := Lib.hid (show cn < 18446744073709551616 by omega)
  have s1 := dig_size b hb
  have s2 := dig_size cn (by omega)
  have s3 := dig_size on ho
  have s4 := dig_size nn hn
  have s5 := quoteB_size t ht
  clear hr hp hb ho hn ht
  go_enter Tryd.func23, Tryd.ntmps23
  go_wp2_with fail
  refine (HR.out _).mono ?_
  rintro en w1 ⟨rfl, hb1⟩
  have M1 := Lib.hid (M0.out.below hb1)
  clear hb1
  have k0 := fun ob => (M1.out.below (below_alloc w1 ob)).cells.1
  have k1 := fun ob => (M1.out.below (below_alloc w1 ob)).cells.2.1
  go_wp2_with fail
  refine (HN.out b HU.out.1 _).mono ?_
  rintro e w2 ⟨rfl, hb⟩
  have M2 := Lib.hid ((M1.out.below (below_alloc w1 _)).below hb)
  clear hb k0 k1
  obtain ⟨k0, k1, k2, k3, k4, k5⟩ := M2.out.cells
  go_wp2_with fail
  go_ret
  exact ⟨rfl, M2.out.lo⟩

theorem rline_8 : lineB [nameA 8] = (⟨#[108, 111, 99, 107]⟩ : ByteArray) := by
  unfold lineB
  apply ByteArray.ext
  simp [Lib.join_cons, Lib.joinTail, nameA]
set_option maxRecDepth 100000 in
set_option maxHeartbeats 4000000 in
theorem rtext_8 (b cn on nn : Nat) (t : ByteArray) (W : World) (hb : b < 18446744073709551616) (hc : cn ≤ 9223372036854775807) (ho : on < 18446744073709551616) (hn : nn < 18446744073709551616) (ht : t.size ≤ 4096) (hr : rightA ⟨8, b, cn, on, nn, t⟩ = true) : RTextAt W ⟨8, b, cn, on, nn, t⟩ := by
  have hp : partsA ⟨8, b, cn, on, nn, t⟩ = [nameA 8] := by simp [partsA]
  unfold RTextAt
  rw [hp, rline_8]
  have HR := Lib.hid (fun X => rright_any 8 b cn on nn t X)
  rw [hr] at HR
  have M0 := Lib.hid (Mid.start W 8 b cn on nn t)
  have HN := Lib.hid (fun u (hu : u < 18446744073709551616) X => natural_any u hu X)
  have HQ := Lib.hid (fun X => rquote_any t X ht)
  have hw : IntKind.u64.wrap (cn : Int) = (cn : Int) := by rw [IntKind.wrap_u64]; omega
  have HU := Lib.hid (And.intro hb (And.intro hc (And.intro ho hn)))
  have HC := Lib.hid (show cn < 18446744073709551616 by omega)
  have s1 := dig_size b hb
  have s2 := dig_size cn (by omega)
  have s3 := dig_size on ho
  have s4 := dig_size nn hn
  have s5 := quoteB_size t ht
  clear hr hp hb ho hn ht
  go_enter Tryd.func23, Tryd.ntmps23
  go_wp2_with fail
  refine (HR.out _).mono ?_
  rintro en w1 ⟨rfl, hb1⟩
  have M1 := Lib.hid (M0.out.below hb1)
  clear hb1
  have k0 := fun ob => (M1.out.below (below_alloc w1 ob)).cells.1
  go_wp2_with fail
  go_ret
  exact ⟨rfl, (M1.out.below (below_alloc w1 _)).lo⟩

theorem rline_9 : lineB [nameA 9] = (⟨#[117, 110, 108, 111, 99, 107]⟩ : ByteArray) := by
  unfold lineB
  apply ByteArray.ext
  simp [Lib.join_cons, Lib.joinTail, nameA]
set_option maxRecDepth 100000 in
set_option maxHeartbeats 4000000 in
theorem rtext_9 (b cn on nn : Nat) (t : ByteArray) (W : World) (hb : b < 18446744073709551616) (hc : cn ≤ 9223372036854775807) (ho : on < 18446744073709551616) (hn : nn < 18446744073709551616) (ht : t.size ≤ 4096) (hr : rightA ⟨9, b, cn, on, nn, t⟩ = true) : RTextAt W ⟨9, b, cn, on, nn, t⟩ := by
  have hp : partsA ⟨9, b, cn, on, nn, t⟩ = [nameA 9] := by simp [partsA]
  unfold RTextAt
  rw [hp, rline_9]
  have HR := Lib.hid (fun X => rright_any 9 b cn on nn t X)
  rw [hr] at HR
  have M0 := Lib.hid (Mid.start W 9 b cn on nn t)
  have HN := Lib.hid (fun u (hu : u < 18446744073709551616) X => natural_any u hu X)
  have HQ := Lib.hid (fun X => rquote_any t X ht)
  have hw : IntKind.u64.wrap (cn : Int) = (cn : Int) := by rw [IntKind.wrap_u64]; omega
  have HU := Lib.hid (And.intro hb (And.intro hc (And.intro ho hn)))
  have HC := Lib.hid (show cn < 18446744073709551616 by omega)
  have s1 := dig_size b hb
  have s2 := dig_size cn (by omega)
  have s3 := dig_size on ho
  have s4 := dig_size nn hn
  have s5 := quoteB_size t ht
  clear hr hp hb ho hn ht
  go_enter Tryd.func23, Tryd.ntmps23
  go_wp2_with fail
  refine (HR.out _).mono ?_
  rintro en w1 ⟨rfl, hb1⟩
  have M1 := Lib.hid (M0.out.below hb1)
  clear hb1
  have k0 := fun ob => (M1.out.below (below_alloc w1 ob)).cells.1
  go_wp2_with fail
  go_ret
  exact ⟨rfl, (M1.out.below (below_alloc w1 _)).lo⟩

theorem rline_10 (b : Nat) (cn : Nat) : lineB [nameA 10, digN b, digN cn] = (((⟨#[97, 119, 97, 105, 116]⟩ : ByteArray) ++ (⟨#[32]⟩ : ByteArray) ++ digN b) ++ (⟨#[32]⟩ : ByteArray) ++ digN cn) := by
  unfold lineB
  apply ByteArray.ext
  simp [Lib.join_cons, Lib.joinTail, nameA, ByteArray.data_append]
set_option maxRecDepth 100000 in
set_option maxHeartbeats 4000000 in
theorem rtext_10 (b cn on nn : Nat) (t : ByteArray) (W : World) (hb : b < 18446744073709551616) (hc : cn ≤ 9223372036854775807) (ho : on < 18446744073709551616) (hn : nn < 18446744073709551616) (ht : t.size ≤ 4096) (hr : rightA ⟨10, b, cn, on, nn, t⟩ = true) : RTextAt W ⟨10, b, cn, on, nn, t⟩ := by
  have hp : partsA ⟨10, b, cn, on, nn, t⟩ = [nameA 10, digN b, digN cn] := by simp [partsA]
  unfold RTextAt
  rw [hp, rline_10 b cn]
  have HR := Lib.hid (fun X => rright_any 10 b cn on nn t X)
  rw [hr] at HR
  have M0 := Lib.hid (Mid.start W 10 b cn on nn t)
  have HN := Lib.hid (fun u (hu : u < 18446744073709551616) X => natural_any u hu X)
  have HQ := Lib.hid (fun X => rquote_any t X ht)
  have hw : IntKind.u64.wrap (cn : Int) = (cn : Int) := by rw [IntKind.wrap_u64]; omega
  have HU := Lib.hid (And.intro hb (And.intro hc (And.intro ho hn)))
  have HC := Lib.hid (show cn < 18446744073709551616 by omega)
  have s1 := dig_size b hb
  have s2 := dig_size cn (by omega)
  have s3 := dig_size on ho
  have s4 := dig_size nn hn
  have s5 := quoteB_size t ht
  clear hr hp hb ho hn ht
  go_enter Tryd.func23, Tryd.ntmps23
  go_wp2_with fail
  refine (HR.out _).mono ?_
  rintro en w1 ⟨rfl, hb1⟩
  have M1 := Lib.hid (M0.out.below hb1)
  clear hb1
  have k0 := fun ob => (M1.out.below (below_alloc w1 ob)).cells.1
  have k1 := fun ob => (M1.out.below (below_alloc w1 ob)).cells.2.1
  go_wp2_with fail
  refine (HN.out b HU.out.1 _).mono ?_
  rintro e w2 ⟨rfl, hb⟩
  have M2 := Lib.hid ((M1.out.below (below_alloc w1 _)).below hb)
  clear hb k0 k1
  obtain ⟨k0, k1, k2, k3, k4, k5⟩ := M2.out.cells
  go_wp2_with fail
  refine (HN.out cn HC.out _).mono ?_
  rintro e w3 ⟨rfl, hb⟩
  have M3 := Lib.hid (M2.out.below hb)
  clear hb k0 k1 k2 k3 k4 k5
  obtain ⟨k0, k1, k2, k3, k4, k5⟩ := M3.out.cells
  go_wp2_with fail
  go_ret
  exact ⟨rfl, M3.out.lo⟩

set_option maxRecDepth 100000 in
set_option maxHeartbeats 1000000 in
theorem rtext_any (x : ActD) (hx : x.fits) (W : World) : Calls Tryd.prog 23 #[actV x.kind x.block x.cell x.old x.new x.text] W fun e W' => e = .returned (.string (textA x)) ∧ Below W.heap.size W W' := by
  cases hr : rightA x with
  | true =>
    have e1 : textA x = lineB (partsA x) := by unfold textA; rw [hr]; rfl
    rw [e1]
    have hk := right_kind hr
    have ht := right_text hr
    obtain ⟨cn, on, nn, h1, h2, h3, h4, h5, h6⟩ := right_nat hx hr
    have h7 := hx.2.1
    obtain ⟨k, b, c, o, n, t⟩ := x
    simp only at hk ht h1 h2 h3 h7
    subst h1 h2 h3
    clear e1 hx
    rcases hk with rfl | rfl | rfl | rfl | rfl | rfl | rfl | rfl | rfl | rfl | rfl
    · exact rtext_0 b cn on nn t W h7 h4 h5 h6 ht hr
    · exact rtext_1 b cn on nn t W h7 h4 h5 h6 ht hr
    · exact rtext_2 b cn on nn t W h7 h4 h5 h6 ht hr
    · exact rtext_3 b cn on nn t W h7 h4 h5 h6 ht hr
    · exact rtext_4 b cn on nn t W h7 h4 h5 h6 ht hr
    · exact rtext_5 b cn on nn t W h7 h4 h5 h6 ht hr
    · exact rtext_6 b cn on nn t W h7 h4 h5 h6 ht hr
    · exact rtext_7 b cn on nn t W h7 h4 h5 h6 ht hr
    · exact rtext_8 b cn on nn t W h7 h4 h5 h6 ht hr
    · exact rtext_9 b cn on nn t W h7 h4 h5 h6 ht hr
    · exact rtext_10 b cn on nn t W h7 h4 h5 h6 ht hr
  | false =>
    have e1 : textA x = ⟨#[]⟩ := by unfold textA; rw [hr]; rfl
    rw [e1]
    have HR := Lib.hid (fun X => rright_any x.kind x.block x.cell x.old x.new x.text X)
    rw [hr] at HR
    obtain ⟨k, b, c, o, n, t⟩ := x
    simp only at HR ⊢
    clear hr hx e1
    go_enter Tryd.func23, Tryd.ntmps23
    go_wp2_with fail
    refine (HR.out _).mono ?_
    rintro en w1 ⟨rfl, hb⟩
    have HB := Lib.hid ((below_alloc W _).trans (hb.mono (by simp)))
    clear hb
    go_wp2_with fail
    go_ret
    exact ⟨rfl, HB.out⟩

end Go.Proofs.YtlgjolajnddpbaaDoor
