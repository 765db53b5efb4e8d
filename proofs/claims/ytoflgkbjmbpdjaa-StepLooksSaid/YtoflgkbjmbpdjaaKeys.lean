/-
  Operations as they lie in memory; step's Keys and Writes.
-/
import Derived.Test.YtoflgkbjmbpdjaaOnce
import Derived.Test.YtoflgkbjmbpdjaaParts
import Derived.LoopN
namespace Go.Proofs.Ytoflgkbjmbpdjaa
open Go Go.RowKit

/-- At p, a slice's address, lie the guards G. -/
def Sg (W : World) (p : Option Addr) (G : List GD) : Prop :=
  ∀ j (h : j < G.length), ∃ b o, p = some ⟨b, o, none⟩ ∧ W.cell? ⟨b, o + j * 3, none⟩ = some (.int .i64 G[j].kind) ∧ W.cell? ⟨b, o + j * 3 + 1, none⟩ = some (.string G[j].key) ∧ W.cell? ⟨b, o + j * 3 + 2, none⟩ = some (.string G[j].val)
/-- At p, a slice's address, lie the steps S. -/
def Ss (W : World) (p : Option Addr) (S : List SD) : Prop :=
  ∀ j (h : j < S.length), ∃ b o, p = some ⟨b, o, none⟩ ∧ W.cell? ⟨b, o + j * 5, none⟩ = some (.int .i64 S[j].kind) ∧ W.cell? ⟨b, o + j * 5 + 1, none⟩ = some (.string S[j].key) ∧ W.cell? ⟨b, o + j * 5 + 2, none⟩ = some (.string S[j].val) ∧
    W.cell? ⟨b, o + j * 5 + 3, none⟩ = some (.string S[j].old) ∧ W.cell? ⟨b, o + j * 5 + 4, none⟩ = some (.int .i64 S[j].n)

theorem cell_lt {W : World} {b o : Nat} {v : Value} (h : W.cell? ⟨b, o, none⟩ = some v) : b < W.heap.size := World.block_lt_of_cell? W ⟨b, o, none⟩ h
theorem Sg.nil (W : World) (p : Option Addr) : Sg W p [] := fun _ h => absurd h (Nat.not_lt_zero _)
theorem Ss.nil (W : World) (p : Option Addr) : Ss W p [] := fun _ h => absurd h (Nat.not_lt_zero _)
theorem Sg.grow {W W' : World} {p : Option Addr} {G : List GD} (h : Sg W p G) (hb : Below W.heap.size W W') : Sg W' p G := fun j hj => by
  obtain ⟨b, o, rfl, c1, c2, c3⟩ := h j hj
  exact ⟨b, o, rfl, (hb.cell (p := ⟨b, _, none⟩) (cell_lt c1)).trans c1, (hb.cell (p := ⟨b, _, none⟩) (cell_lt c2)).trans c2, (hb.cell (p := ⟨b, _, none⟩) (cell_lt c3)).trans c3⟩
theorem Ss.grow {W W' : World} {p : Option Addr} {S : List SD} (h : Ss W p S) (hb : Below W.heap.size W W') : Ss W' p S := fun j hj => by
  obtain ⟨b, o, rfl, c1, c2, c3, c4, c5⟩ := h j hj
  exact ⟨b, o, rfl, (hb.cell (p := ⟨b, _, none⟩) (cell_lt c1)).trans c1, (hb.cell (p := ⟨b, _, none⟩) (cell_lt c2)).trans c2, (hb.cell (p := ⟨b, _, none⟩) (cell_lt c3)).trans c3, (hb.cell (p := ⟨b, _, none⟩) (cell_lt c4)).trans c4, (hb.cell (p := ⟨b, _, none⟩) (cell_lt c5)).trans c5⟩

theorem ownsRow_base {W : World} {B B' n : Nat} {t : TypeId} {v : Value} {xs : List Value} (h : W.ownsRow B t 1 v n xs) (hB : B' ≤ B) : W.ownsRow B' t 1 v n xs := by
  refine ⟨h.1, ?_⟩
  rcases h.2 with h0 | ⟨g, cap, cur, hv, hb, rest⟩
  · exact .inl h0
  · exact .inr ⟨g, cap, cur, hv, Nat.le_trans hB hb, rest⟩

/-- What the closure leaves: one key more. -/
def Added (B b n : Nat) (K : List ByteArray) (w : World) (e : Ending) (w' : World) : Prop :=
  e = .returned (.tuple #[]) ∧ ∃ v', Boxed w' b 35 v' ∧ w'.ownsRow B 9 1 v' n (K.map Value.string) ∧ Below B w w'

set_option maxHeartbeats 1000000 in
theorem add_any (B b n : Nat) (K : List ByteArray) (v : Value) (key : ByteArray) (w : World) (hb : Boxed w b 35 v) (hBb : B ≤ b) (hr : w.ownsRow B 9 1 v n (K.map Value.string)) (hn : n ≤ 1000) :
    Calls Try.prog 24 #[.string key, .pointer (some ⟨b, 0, none⟩)] w (Added B b (n + 1) (K ++ [key]) w) := by
  obtain ⟨i0, hi, hz0, hz1, hz2⟩ := info_parts info_string
  have HB := Lib.hid hb
  have HR := Lib.hid hr
  have hc := hb.cell
  have hf := hb.frozen
  have hBw : B ≤ w.heap.size := by have := hb.lt; omega
  clear hb hr
  go_enter Try.func24, Try.ntmps24
  go_wp2_with (at_builtin; refine wpList_append_own_at _ rfl _ _ 35 rfl B 9 i0 (.string ⟨#[]⟩) 1 16 Try.underlying35 hi hz0 hz1 hz2 rfl (by decide) v n (K.map Value.string) rfl (HR.out.alloc _) ⟨w.heap.size, 0, none⟩ 1 1 [.string key] rfl rfl (str_news _ _ _) (str_one _) (by simp only [maxLen]; omega) (by omega) (by simp; omega) ?_; intro v' w5 hown' hgrow _ hat; obtain ⟨g', cap', rfl⟩ := ownsRow_succ hown'; obtain ⟨hv1, hv2, hr2, hk2, hb2⟩ := HB.out.appended (by decide) HR.out hBw hBb hown' hgrow; have hc1 := hv1.cell; have hf1 := hv1.frozen; have HX := Lib.hid hv2; have HY := Lib.hid hr2; have HZ := Lib.hid hb2; clear hown' hgrow hat hv1 hv2 hr2 hk2 hb2)
  go_end0
  refine ⟨rfl, _, HX.out, ?_, HZ.out⟩
  rw [List.map_append]; exact HY.out

/-- Between two rounds of Keys: the variable of the keys and their row. -/
def KeyI (B : Nat) (w1 : World) (K : List ByteArray) (n : Nat) (W : World) : Prop :=
  ∃ v, Boxed W B 35 v ∧ W.ownsRow B 9 1 v n (K.map Value.string) ∧ Below B w1 W

theorem KeyI.next {B n : Nat} {w1 W w' : World} {K K' : List ByteArray} {e : Ending} {o : Obj} (h : KeyI B w1 K n W) (ha : Added B B (n + 1) K' (W.alloc o) e w') : e = .returned (.tuple #[]) ∧ KeyI B w1 K' (n + 1) w' := by
  obtain ⟨v, hv, hr, hb⟩ := h
  obtain ⟨he, v', h1, h2, h3⟩ := ha
  exact ⟨he, v', h1, h2, (hb.alloc (Nat.le_of_lt hv.lt) o).trans h3⟩
theorem KeyI.add {B n : Nat} {w1 W : World} {K : List ByteArray} (h : KeyI B w1 K n W) (hn : n ≤ 1000) (o : Obj) (key : ByteArray) :
    Calls Try.prog 24 #[.string key, .pointer (some ⟨B, 0, none⟩)] (W.alloc o) fun e w' => e = .returned (.tuple #[]) ∧ KeyI B w1 (K ++ [key]) (n + 1) w' := by
  obtain ⟨v, hv, hr, hb⟩ := h
  exact (add_any B B n K v key (W.alloc o) (hv.alloc o) (Nat.le_refl _) (hr.alloc o) hn).mono fun e w' ha => KeyI.next ⟨v, hv, hr, hb⟩ ha

def keysG (G : List GD) : List ByteArray := G.map (·.key)
def keysS (S : List SD) : List ByteArray := S.map (·.key)

theorem keysG_snoc {G : List GD} {k : Nat} (h : k < G.length) : keysG (G.take (k + 1)) = keysG (G.take k) ++ [G[k].key] := by
  unfold keysG; rw [List.take_succ_eq_append_getElem h, List.map_append]; rfl
theorem keysS_snoc {S : List SD} {k : Nat} (h : k < S.length) : keysS (S.take (k + 1)) = keysS (S.take k) ++ [S[k].key] := by
  unfold keysS; rw [List.take_succ_eq_append_getElem h, List.map_append]; rfl

set_option maxRecDepth 100000 in
set_option maxHeartbeats 4000000 in
theorem keys_any (pg ps : Option Addr) (ng ns cg cs : Nat) (G : List GD) (S : List SD) (w : World) (hG : Sg w pg G) (hS : Ss w ps S) (hng : G.length = ng) (hns : S.length = ns) (hg : ng ≤ 40) (hs : ns ≤ 40)
    (fG : ∀ g ∈ G, g.fits) (fS : ∀ s ∈ S, s.fits) :
    Calls Try.prog 15 #[.agg #[.slice pg ng cg, .slice ps ns cs]] w (Keyed (onceD (keysG G ++ keysS S)) w.heap.size w) := by
  have HG := Lib.hid (fun W (h : Below w.heap.size w W) => hG.grow h)
  have HS := Lib.hid (fun W (h : Below w.heap.size w W) => hS.grow h)
  have HNG := Lib.hid hng
  have HNS := Lib.hid hns
  have FK := Lib.hid (show ∀ k ∈ keysG G ++ keysS S, k.size ≤ 281474976710656 from fun k hk => by
    rcases List.mem_append.1 hk with h | h
    · obtain ⟨g, hg, rfl⟩ := List.mem_map.1 h
      exact (fG g hg).2.2.1
    · obtain ⟨s, hs, rfl⟩ := List.mem_map.1 h
      exact (fS s hs).2.2.1)
  clear hG hS hng hns fG fS
  go_enter Try.func15, Try.ntmps15
  go_wp2_with fail
  have hb1 := below_alloc w (.cells #[.slice pg ng cg, .slice ps ns cs] 25)
  have hc0 : (w.alloc (.cells #[.slice pg ng cg, .slice ps ns cs] 25)).heap[w.heap.size]? = some (.cells #[.slice pg ng cg, .slice ps ns cs] 25 (0, 0)) := World.alloc_heap_new w _
  have hsz : (w.alloc (.cells #[.slice pg ng cg, .slice ps ns cs] 25)).heap.size = w.heap.size + 1 := by simp
  obtain ⟨w1, hw1⟩ : ∃ w1, w.alloc (.cells #[.slice pg ng cg, .slice ps ns cs] 25) = w1 := ⟨_, rfl⟩
  rw [hw1] at hb1 hc0 hsz ⊢
  have K0 : KeyI (w.heap.size + 1) w1 (keysG (G.take 0)) 0 (w1.alloc (.cells #[.slice none 0 0] 35)) := by
    rw [← hsz]
    exact ⟨.slice none 0 0, Boxed.new w1 _ _, (World.ownsRow_nil _ _ _ _).alloc _, below_alloc w1 _⟩
  have KB : Hid (∀ K n W, KeyI (w.heap.size + 1) w1 K n W → Below w.heap.size w W ∧ W.cell? ⟨w.heap.size, 0, none⟩ = some (.slice pg ng cg) ∧ W.cell? ⟨w.heap.size, 1, none⟩ = some (.slice ps ns cs)) := fun K n W h => by
    obtain ⟨v, _, _, hb⟩ := h
    have h1 := (hb.block w.heap.size (by omega)).trans hc0
    exact ⟨hb1.trans (hb.mono (by omega)), by simp [World.cell?, h1], by simp [World.cell?, h1]⟩
  have HSZ := Lib.hid hsz
  clear hw1 hb1 hc0 hsz
  go_loopw [13] (fun s wr => ∃ k : Nat, s = .int .i64 k ∧ k ≤ ng ∧ Hid (KeyI (w.heap.size + 1) w1 (keysG (G.take k)) k wr)) (fun s _ => ng - (intOf s).toNat)
  case atStart => exact ⟨0, rfl, Nat.zero_le _, K0⟩
  case round =>
    clear K0
    obtain ⟨k, rfl, hkn, hK⟩ := hrel
    by_cases hlt : k < ng
    · have hkG : k < G.length := by rw [HNG.out]; exact hlt
      obtain ⟨b, o, rfl, c1, c2, c3⟩ := HG.out wr (KB.out _ _ _ hK.out).1 k hkG
      have HX := Lib.hid (keysG_snoc hkG)
      obtain ⟨⟨gk, gs, gv⟩, hg'⟩ : ∃ g, G[k] = g := ⟨_, rfl⟩
      rw [hg'] at c1 c2 c3 HX
      simp only at c1 c2 c3 HX
      clear hg' hkG
      have hltz : (k : Int) < (ng : Int) := by omega
      have h0 : (0 : Int) ≤ (k : Int) := by omega
      go_wp2_with fail
      refine (hK.out.add (by omega) _ gs).mono ?_
      rintro e w3 ⟨rfl, hK3⟩
      rw [← HX.out] at hK3
      have HK3 := Lib.hid hK3
      clear hK3
      go_wp2_with fail
      go_roundw
      case rel => exact ⟨k + 1, by go_num, by omega, HK3⟩
      case measure => simp [intOf]; omega
    · obtain rfl : k = ng := by omega
      obtain ⟨hBw, d0, d1⟩ := KB.out _ _ _ hK.out
      have hK0 : KeyI (w.heap.size + 1) w1 (keysG G ++ keysS (S.take 0)) (k + 0) wr := by
        have := hK.out
        rw [List.take_of_length_le (by rw [HNG.out]; exact Nat.le_refl _)] at this
        simpa [keysS] using this
      have HK0 := Lib.hid hK0
      clear hBw hK0 hK d0
      go_wp2_with fail
      go_loopw [25] (fun s wr => ∃ j : Nat, s = .int .i64 j ∧ j ≤ ns ∧ Hid (KeyI (w.heap.size + 1) w1 (keysG G ++ keysS (S.take j)) (k + j) wr)) (fun s _ => ns - (intOf s).toNat)
      case atStart => exact ⟨0, rfl, Nat.zero_le _, HK0⟩
      case round =>
        clear HK0 d1
        obtain ⟨j, rfl, hjn, hK⟩ := hrel
        by_cases hlt : j < ns
        · have hjS : j < S.length := by rw [HNS.out]; exact hlt
          obtain ⟨b, o, rfl, c1, c2, c3, c4, c5⟩ := HS.out _ (KB.out _ _ _ hK.out).1 j hjS
          have HX := Lib.hid (keysS_snoc hjS)
          obtain ⟨⟨gk, gs, gv, go, gn⟩, hg'⟩ : ∃ g, S[j] = g := ⟨_, rfl⟩
          rw [hg'] at c1 c2 c3 c4 c5 HX
          simp only at c1 c2 c3 c4 c5 HX
          clear hg' hjS
          have hltz : (j : Int) < (ns : Int) := by omega
          have h0 : (0 : Int) ≤ (j : Int) := by omega
          go_wp2_with fail
          refine (hK.out.add (by omega) _ gs).mono ?_
          rintro e w3 ⟨rfl, hK3⟩
          rw [List.append_assoc, ← HX.out] at hK3
          have HK3 := Lib.hid hK3
          clear hK3
          go_wp2_with fail
          go_roundw
          case rel => exact ⟨j + 1, by go_num, by omega, HK3⟩
          case measure => simp [intOf]; omega
        · obtain rfl : j = ns := by omega
          obtain ⟨v, hv, hr, hb⟩ := hK.out
          rw [List.take_of_length_le (by rw [HNS.out]; exact Nat.le_refl _)] at hr
          have hc := hv.cell
          have HOn := Lib.hid (once_any (w.heap.size + 1) (k + j) (keysG G ++ keysS S) v _ hr (by have := hv.lt; omega) (by omega) FK.out)
          have HBw := Lib.hid (KB.out _ _ _ hK.out).1
          clear hv hr hb hK
          go_wp2_with fail
          refine HOn.out.mono ?_
          rintro e w4 ⟨g, cap, rfl, hr4, hb4⟩
          have HE := Lib.hid (show Keyed (onceD (keysG G ++ keysS S)) w.heap.size w (.returned (.slice (some ⟨g, 0, none⟩) (onceD (keysG G ++ keysS S)).length cap)) w4 from ⟨g, cap, rfl, ownsRow_base hr4 (by omega), HBw.out.trans (hb4.mono (by omega))⟩)
          clear hr4 hb4
          go_wp2_with fail
          go_ret
          exact HE.out

theorem writes_any (pg ps : Option Addr) (ng ns cg cs : Nat) (S : List SD) (w : World) (hS : Ss w ps S) (hns : S.length = ns) (hs : ns ≤ 40) (fS : ∀ s ∈ S, s.fits) :
    Calls Try.prog 17 #[.agg #[.slice pg ng cg, .slice ps ns cs]] w (Keyed (onceD (keysS S)) w.heap.size w) := by
  have hb := below_alloc w (.cells #[.slice pg ng cg, .slice ps ns cs] 25)
  have HK := Lib.hid (keys_any none ps 0 ns 0 cs [] S (w.alloc (.cells #[.slice pg ng cg, .slice ps ns cs] 25)) (Sg.nil _ _) (hS.grow hb) rfl hns (by omega) hs (fun _ h => by cases h) fS)
  clear hS hns fS
  go_enter Try.func17, Try.ntmps17
  go_wp2_with fail
  refine HK.out.mono ?_
  rintro e w4 ⟨g, cap, rfl, hr4, hb4⟩
  have HE := Lib.hid (show Keyed (onceD (keysS S)) w.heap.size w (.returned (.slice (some ⟨g, 0, none⟩) (onceD (keysS S)).length cap)) w4 from ⟨g, cap, rfl, ownsRow_base hr4 (by simp), hb.trans (hb4.mono (by simp))⟩)
  clear hr4 hb4 hb
  simp only [keysG, List.map_nil, List.nil_append]
  go_wp2_with fail
  go_ret
  exact HE.out

end Go.Proofs.Ytoflgkbjmbpdjaa
