/-
  Between two rounds of ReadAlone: a heap, and the pairs that the document has, beside it.
-/
import Derived.Test.YtpnfbabiibopnaaRdmod
import Derived.Test.YtpnfbabiibopnaaArgs26
import Derived.Test.YtpnfbabiibopnaaPnaw
namespace Go.Proofs.Ytpnfbabiibopnaa
open Go Go.RowKit

theorem Lies.same {X Y : World} {g : Nat} {L : Pairs} (h : Lies X g L) (e : Y.heap[g]? = X.heap[g]?) : Lies Y g L := fun j hj =>
  ⟨(World.cell?_of_block (a := ⟨g, _, none⟩) e).trans (h j hj).1, (World.cell?_of_block (a := ⟨g, _, none⟩) e).trans (h j hj).2⟩
theorem Rnd.keep {W X Y : World} {a p s q v x : Int} {B hp : Nat} {D : HpD} {ks : List (Nat × Obj)} (h : Rnd W a p s q v x B hp D ks X) (hb : Below X.heap.size X Y) {g : Nat} {o : Obj} (hg : X.heap.size ≤ g) (ho : Y.heap[g]? = some o) : Rnd W a p s q v x B hp D ((g, o) :: ks) Y := by
  have h' := h.below hb
  have hsz := heap_at_lt h.cf
  obtain ⟨f, h1, h2⟩ := h.hh
  refine ⟨h'.cf, h'.lo, h.hB, f, h1.below hb, fun u hu => ?_⟩
  rcases List.mem_cons.1 hu with rfl | hu
  · exact ⟨ho, by show W.heap.size < g; omega, fun hf => by have := h1.lt _ hf; simp only at this; omega⟩
  · exact kept_below h2 hb u hu

/-- What holds of the heap and the pairs L, i versions laid, the pairs those at the epoch e. -/
def AloI (W : World) (a p s q v x e : Int) (B hp g : Nat) (L : Pairs) (e0 : Int) (i : Nat) (X : World) : Prop :=
  ∃ D G K V N o, Rnd W a p s q v x B hp D [(g, o)] X ∧ (∀ Y : World, Y.heap[g]? = some o → Lies Y g L) ∧ Laid a p s q v x D G K V N ∧ ModI s e K V N L ∧ G 0 = e0 ∧ (∀ c : Nat, 1 ≤ c → (c : Int) < 3 + p → G c = 0) ∧ D.L.length ≤ 1 + 2 * i ∧ (∀ sh, N sh ≤ i) ∧ L.length ≤ i
/-- A version more was laid, and the pairs have not been turned yet. -/
def AloH (W : World) (a p s q v x e : Int) (B hp g : Nat) (L : Pairs) (i : Nat) (key : ByteArray) (has : Bool) (val : ByteArray) (X : World) : Prop :=
  ∃ D G K V N o, Rnd W a p s q v x B hp D [(g, o)] X ∧ (∀ Y : World, Y.heap[g]? = some o → Lies Y g L) ∧ Laid a p s q v x D G K V N ∧ Rise L ∧
    (∀ L', Rise L' → ((i : Int) ≤ e → ∀ k, getD L' k = if k = key then (if has then some val else none) else getD L k) → (¬ (i : Int) ≤ e → L' = L) → ModI s e K V N L') ∧ G 0 = 0 ∧ (∀ c : Nat, 1 ≤ c → (c : Int) < 3 + p → G c = 0) ∧ D.L.length ≤ 1 + 2 * (i + 1) ∧ (∀ sh, N sh ≤ i + 1) ∧ L.length ≤ i
section
variable {W X Y : World} {a p s q v x e : Int} {B hp g i cap : Nat} {L : Pairs} {key val : ByteArray} {has : Bool} {e0 : Int}
theorem AloI.six (h : AloI W a p s q v x e B hp g L e0 i X) : SixC W.heap.size a p s q v x X := by obtain ⟨D, G, K, V, N, o, h1, _⟩ := h; exact h1.six
theorem AloI.low (h : AloI W a p s q v x e B hp g L e0 i X) : Below W.heap.size W X := by obtain ⟨D, G, K, V, N, o, h1, _⟩ := h; exact h1.lo
theorem AloI.below (h : AloI W a p s q v x e B hp g L e0 i X) (hb : Below X.heap.size X Y) : AloI W a p s q v x e B hp g L e0 i Y := by
  obtain ⟨D, G, K, V, N, o, h1, h2⟩ := h
  exact ⟨D, G, K, V, N, o, h1.below hb, h2⟩
theorem AloH.low (h : AloH W a p s q v x e B hp g L i key has val X) : Below W.heap.size W X := by obtain ⟨D, G, K, V, N, o, h1, _⟩ := h; exact h1.lo
theorem AloH.below (h : AloH W a p s q v x e B hp g L i key has val X) (hb : Below X.heap.size X Y) : AloH W a p s q v x e B hp g L i key has val Y := by
  obtain ⟨D, G, K, V, N, o, h1, h2⟩ := h
  exact ⟨D, G, K, V, N, o, h1.below hb, h2⟩
theorem alo_lay (h : AloI W a p s q v x e B hp g L 0 i X) (hi : i ≤ 100) (hk : key.size ≤ 100) (has : Bool) (hv : val.size ≤ 200) :
    Calls Try.prog 8 #[.pointer (some ⟨hp, 0, none⟩), cfV a p s q v x, .int .u64 (i : Int), .agg #[.string key, .bool has, .string val]] X fun en Y => (en = .returned (.bool false) ∧ Below W.heap.size W Y) ∨ (en = .returned (.bool true) ∧ AloH W a p s q v x e B hp g L i key has val Y) := by
  obtain ⟨D, G, K, V, N, o, h1, h2, hL, hM, hG0, hG, hl, hN, hLl⟩ := h
  refine (rnd_lay h1 hL (by omega) (ep := (i : Int)) (by omega) hk has (Nat.le_trans hv (by omega))).mono fun en Y hLy => ?_
  rcases hLy with ⟨rfl, hY, -⟩ | ⟨rfl, D', G', sh, bl, hY, hsh, hin, hKs, hL', hG', hl', -⟩
  · exact .inl ⟨rfl, hY.lo⟩
  · have hb := rightC_bd hL.rc
    refine .inr ⟨rfl, D', G', _, _, _, o, hY, h2, hL', hM.rise, fun L' r1 r2 r3 => hM.more hL hsh hin.1 hin.2 hKs r1 r2 r3, (hG' 0 (by omega)).trans hG0, fun c c1 c2 => (hG' c c2).trans (hG c c1 c2), by omega, fun z => ?_, hLl⟩
    show (if z = sh then N sh + 1 else N z) ≤ i + 1
    have := hN sh
    have := hN z
    split <;> omega
theorem alo_late (h : AloH W a p s q v x e B hp g L i key has val X) (hle : ¬ (i : Int) ≤ e) : AloI W a p s q v x e B hp g L 0 (i + 1) X := by
  obtain ⟨D, G, K, V, N, o, h1, h2, hL, hr, hM, hG0, hG, hl, hN, hLl⟩ := h
  exact ⟨D, G, K, V, N, o, h1, h2, hL, hM L hr (fun hx => absurd hx hle) (fun _ => rfl), hG0, hG, hl, hN, by omega⟩
theorem alo_turn (h : AloH W a p s q v x e B hp g L i key has val X) {L' : Pairs} (hr' : Rise L') (hle : (i : Int) ≤ e) (hd : ∀ k, getD L' k = if k = key then (if has then some val else none) else getD L k) (hlen : L'.length ≤ L.length + 1) {en : Ending} {Y : World} (hc : Collected L' X en Y) :
    ∃ g' cap', en = .returned (.slice (some ⟨g', 0, none⟩) L'.length cap') ∧ AloI W a p s q v x e B hp g' L' 0 (i + 1) Y := by
  obtain ⟨D, G, K, V, N, o, h1, h2, hL, hr, hM, hG0, hG, hl, hN, hLl⟩ := h
  obtain ⟨g', cap', rfl, hrow, hb⟩ := hc
  obtain ⟨l1, l2, l3⟩ := Collected.lies hrow
  obtain ⟨o', ho'⟩ : ∃ o', Y.heap[g']? = some o' := ⟨Y.heap[g'], Array.getElem?_eq_getElem l3⟩
  refine ⟨g', cap', rfl, D, G, K, V, N, o', (h1.keep hb l2 ho').few (fun u hu => by simp only [List.mem_singleton] at hu; subst hu; simp), fun Z hZ => l1.same (hZ.trans ho'.symm), hL, hM L' hr' (fun _ => hd) (fun hx => absurd hle hx), hG0, hG, hl, hN, by omega⟩
theorem alo_put (h : AloH W a p s q v x e B hp g L i key true val X) (hi : i ≤ 100) (hle : (i : Int) ≤ e) :
    Calls Try.prog 9 #[.slice (some ⟨g, 0, none⟩) L.length cap, .string key, .string val] X fun en Y => ∃ g' cap', en = .returned (.slice (some ⟨g', 0, none⟩) (prD L key val).length cap') ∧ AloI W a p s q v x e B hp g' (prD L key val) 0 (i + 1) Y := by
  have hq := h
  obtain ⟨D, G, K, V, N, o, h1, h2, hL, hr, hM, hG0, hG, hl, hN, hLl⟩ := h
  have ho := h1.kept (List.mem_cons_self ..)
  exact (refput_any g cap L key val X (h2 X ho) (heap_at_lt ho) hr (by omega)).mono fun en Y hc => alo_turn hq (hr.put key val) hle (fun k => getD_put' L key val k) (length_prD L key val) hc
theorem alo_del (h : AloH W a p s q v x e B hp g L i key false val X) (hi : i ≤ 100) (hle : (i : Int) ≤ e) :
    Calls Try.prog 10 #[.slice (some ⟨g, 0, none⟩) L.length cap, .string key] X fun en Y => ∃ g' cap', en = .returned (.slice (some ⟨g', 0, none⟩) (delD L key).length cap') ∧ AloI W a p s q v x e B hp g' (delD L key) 0 (i + 1) Y := by
  have hq := h
  obtain ⟨D, G, K, V, N, o, h1, h2, hL, hr, hM, hG0, hG, hl, hN, hLl⟩ := h
  have ho := h1.kept (List.mem_cons_self ..)
  exact (refdel_any g cap L key X (h2 X ho) (heap_at_lt ho) (by omega)).mono fun en Y hc => alo_turn hq (hr.del key) hle (fun k => getD_del' L key k) (Nat.le_succ_of_le (length_delD L key)) hc
theorem alo_get (h : AloI W a p s q v x e B hp g L e0 i X) (hi : i ≤ 100) (key : ByteArray) :
    Calls Try.prog 15 #[.slice (some ⟨g, 0, none⟩) L.length cap, .string key] X fun en Y => en = .returned (.tuple #[.string ((getD L key).getD ⟨#[]⟩), .bool (getD L key).isSome]) ∧ X = Y := by
  obtain ⟨D, G, K, V, N, o, h1, h2, hL, hM, hG0, hG, hl, hN, hLl⟩ := h
  have ho := h1.kept (List.mem_cons_self ..)
  exact refget_any g cap L key X (h2 X ho) (by omega)
theorem alo_store (h : AloI W a p s q v x e B hp g L 0 i X) (he : 0 ≤ e ∧ e ≤ 255) :
    Calls Try.prog 11 #[.pointer (some ⟨hp, 0, none⟩), .int .u64 1, .int .i64 0, .int .u64 e] X fun en Y => en = .returned (.int .i64 0) ∧ AloI W a p s q v x e B hp g L e i Y := by
  obtain ⟨D, G, K, V, N, o, h1, h2, hL, hM, hG0, hG, hl, hN, hLl⟩ := h
  have hb := rightC_bd hL.rc
  have hz := sizeW_at hL.rc
  have hs := hL.ctl.spot (c := 0) (by omega)
  have e2 : storeD D 1 ((0 : Nat) : Int) e = D.word 1 ((0 : Nat) : Int) e := by unfold storeD; rw [if_pos hs]
  have hcp := hL.ctl.put (c := 0) (by omega) (u := e) (by omega)
  have hO := hL.ctl.word_oth 0 e
  refine (show Calls Try.prog 11 #[.pointer (some ⟨hp, 0, none⟩), .int .u64 1, .int .i64 ((0 : Nat) : Int), .int .u64 e] X _ from rnd_store h1 (by rw [hL.ctl.faults]; omega) ((0 : Nat) : Int) e).mono fun en Y hh => ?_
  rw [e2, hs] at hh
  exact ⟨hh.1, _, upd G 0 e, K, V, N, o, hh.2, h2, hL.touch hcp.1 (fun j hj => upd_other (by omega)) hO.2, hM, upd_self _ _ _, fun c c1 c2 => (upd_other (by omega)).trans (hG c c1 c2), by rw [hO.1]; exact hl, hN, hLl⟩
/-- A key is read alone, from New to Result. -/
def AloR (W : World) (a p s q v x e : Int) (B hp g : Nat) (L : Pairs) (i r : Nat) (key : ByteArray) (X : World) : Prop :=
  ∃ D G K V N o th, Rnf RdM W a p s q v x B hp D [(g, o)] r 20000 (newR a p s q v x th key) X ∧ (∀ Y : World, Y.heap[g]? = some o → Lies Y g L) ∧ Laid a p s q v x D G K V N ∧ ModI s e K V N L ∧ G 0 = e ∧ (∀ c : Nat, 1 ≤ c → (c : Int) < 3 + p → G c = 0) ∧ D.L.length ≤ 1 + 2 * i ∧ (∀ sh, N sh ≤ i) ∧ L.length ≤ i
def AloS (W : World) (a p s q v x e : Int) (B hp g : Nat) (L : Pairs) (i r : Nat) (key : ByteArray) (X : World) : Prop :=
  ∃ D G K V N o rp rf rc E, Rnd W a p s q v x B hp D [(r, rdO E rp rf rc), (g, o)] X ∧ E.part = 5 ∧ E.code = 0 ∧ E.took = (getD L key).isSome ∧ E.val = (getD L key).getD ⟨#[]⟩ ∧ (∀ Y : World, Y.heap[g]? = some o → Lies Y g L) ∧ Laid a p s q v x D G K V N ∧ ModI s e K V N L ∧ G 0 = e ∧ (∀ c : Nat, 1 ≤ c → (c : Int) < 3 + p → G c = 0) ∧ D.L.length ≤ 1 + 2 * i ∧ (∀ sh, N sh ≤ i) ∧ L.length ≤ i
theorem alo_new (h : AloI W a p s q v x e B hp g L e i X) {th : Int} (hth : 0 ≤ th) {key : ByteArray} (hk : key.size ≤ 281474976710656) :
    Calls Try.prog 12 #[cfV a p s q v x, .int .i64 th, .string key] X fun en Y => ∃ r, en = .returned (.pointer (some ⟨r, 0, none⟩)) ∧ AloR W a p s q v x e B hp g L i r key Y := by
  obtain ⟨D, G, K, V, N, o, h1, h2, hL, hM, hG0, hG, hl, hN, hLl⟩ := h
  refine (rnd_rnew h1 (m := 20000) (hL.ctl.few (by omega)) hL.rc hth hk).mono fun en Y hh => ?_
  obtain ⟨r, rfl, h3⟩ := hh
  exact ⟨r, rfl, D, G, K, V, N, o, th, h3, h2, hL, hM, hG0, hG, hl, hN, hLl⟩
theorem alo_run {r : Nat} {key : ByteArray} (h : AloR W a p s q v x e B hp g L i r key X) (hi : i ≤ 100) :
    Calls Try.prog 13 #[.pointer (some ⟨hp, 0, none⟩), .iface 38 (.pointer (some ⟨r, 0, none⟩)), .int .i64 10000] X fun en Y => ∃ k : Nat, en = .returned (.tuple #[.int .i64 (k : Int), .bool true]) ∧ 5 ≤ k ∧ AloS W a p s q v x e B hp g L i r key Y := by
  obtain ⟨D, G, K, V, N, o, th, h1, h2, hL, hM, hG0, hG, hl, hN, hLl⟩ := h
  have hb := rightC_bd hL.rc
  have hacts := findK_acts K (newF a p s q v x key) (newF a p s q v x key).s.toNat 0
  have hds : (newF a p s q v x key).s = s := rfl
  have hpos : 1 ≤ (findK K (newF a p s q v x key) (newF a p s q v x key).s.toNat 0).2 := by
    obtain ⟨m, hm⟩ : ∃ m, (newF a p s q v x key).s.toNat = m + 1 := ⟨s.toNat - 1, by rw [hds]; omega⟩
    rw [hm]
    unfold findK
    split
    · exact Nat.le_refl _
    · split
      · show 1 ≤ 2; omega
      · show 1 ≤ _ + 2; omega
  have hle : actsK K V N (newF a p s q v x key) (G 0) ≤ 10000 := by
    rw [hds] at hacts
    unfold actsK
    split
    · rename_i h1
      have h3 := actsC_le (V (findK K (newF a p s q v x key) (newF a p s q v x key).s.toNat 0).1.sh) (G 0) (N (findK K (newF a p s q v x key) (newF a p s q v x key).s.toNat 0).1.sh)
      have h4 := passN_le (V (findK K (newF a p s q v x key) (newF a p s q v x key).s.toNat 0).1.sh) (G 0) (N (findK K (newF a p s q v x key) (newF a p s q v x key).s.toNat 0).1.sh)
      have h5 := hN (findK K (newF a p s q v x key) (newF a p s q v x key).s.toNat 0).1.sh
      rw [hds] at h3 h4 h5 ⊢
      omega
    · rw [hds]; omega
  have hge : 5 ≤ actsK K V N (newF a p s q v x key) (G 0) := by unfold actsK; omega
  obtain ⟨E, D', hA⟩ := read_alone (th := th) (key := key) hL (fun c h3 hc => hG c (by omega) hc) (fun sh => Nat.le_trans (hN sh) (by omega)) 10000 hle
  have hrd := hM.read hL key
  refine (show Calls Try.prog 13 #[.pointer (some ⟨hp, 0, none⟩), .iface 38 (.pointer (some ⟨r, 0, none⟩)), .int .i64 ((10000 : Nat) : Int)] X _ from rnf_rrun h1 10000 hA (by omega) (by omega)).mono fun en Y hh => ?_
  obtain ⟨e1, h3⟩ := hh
  obtain ⟨rp, rf, rc, h4⟩ := h3.rrest
  exact ⟨_, e1, hge, D', G, K, V, N, o, rp, rf, rc, E, h4, hA.done, hA.code, by rw [hA.took, hG0]; exact hrd.1, by rw [hA.val, hG0]; exact hrd.2, h2, hA.laid, hM, hG0, hG, by rw [hA.oth.1]; exact hl, hN, hLl⟩
theorem alo_res {r : Nat} {key : ByteArray} (h : AloS W a p s q v x e B hp g L i r key X) : Calls Try.prog 14 #[.pointer (some ⟨r, 0, none⟩)] X fun en Y => ∃ mk : Int, en = .returned (.tuple #[toldV 0 (getD L key).isSome ((getD L key).getD ⟨#[]⟩) mk, .bool true]) ∧ AloI W a p s q v x e B hp g L e i Y := by
  obtain ⟨D, G, K, V, N, o, rp, rf, rc, E, h1, h5, hc, ht, hvl, h2, hL, hM, hG0, hG, hl, hN, hLl⟩ := h
  refine (rnd_rres h1 (List.mem_cons_self ..) h5).mono fun en Y hh => ?_
  obtain ⟨e1, h3⟩ := hh
  rw [hc, ht, hvl] at e1
  exact ⟨_, e1, D, G, K, V, N, o, h3.few (fun u hu => List.mem_cons_of_mem _ hu), h2, hL, hM, hG0, hG, hl, hN, hLl⟩
theorem alo_pin (h : AloI W a p s q v x e B hp g L e0 i X) (k : Int) : Calls Try.prog 17 #[cfV a p s q v x, .int .i64 k] X fun en Y => en = .returned (.int .i64 (pinW a p s q v k)) ∧ AloI W a p s q v x e B hp g L e0 i Y := by
  obtain ⟨D, G, K, V, N, o, h1, h2⟩ := h
  exact (rnd_pin h1 k).mono fun en Y hh => ⟨hh.1, D, G, K, V, N, o, hh.2, h2⟩
theorem alo_load (h : AloI W a p s q v x e B hp g L e0 i X) {k : Nat} (hk : (k : Int) < p) : Calls Try.prog 16 #[.pointer (some ⟨hp, 0, none⟩), .int .u64 1, .int .i64 (pinW a p s q v k)] X fun en Y => en = .returned (TwoV 0 0) ∧ AloI W a p s q v x e B hp g L e0 i Y := by
  obtain ⟨D, G, K, V, N, o, h1, h2, hL, hM, hG0, hG, hl, hN, hLl⟩ := h
  have hz := sizeW_at hL.rc
  have hb := rightC_bd hL.rc
  have e1 : pinW a p s q v k = ((3 + k : Nat) : Int) := by rw [pinW_in hL.rc (by omega) hk]; omega
  rw [e1]
  refine (rnd_cload h1 hL.ctl (c := 3 + k) (by omega)).mono fun en Y hh => ?_
  rw [hG (3 + k) (by omega) (by omega)] at hh
  exact ⟨hh.1, D, G, K, V, N, o, hh.2, h2, hL, hM, hG0, hG, hl, hN, hLl⟩
theorem alo_faults (h : AloI W a p s q v x e B hp g L e0 i X) : Calls Try.prog 18 #[.pointer (some ⟨hp, 0, none⟩)] X fun en Y => en = .returned (.int .i64 ((0 : Nat) : Int)) ∧ X = Y := by
  obtain ⟨D, G, K, V, N, o, h1, h2, hL, _⟩ := h
  have := rnd_faults h1
  rw [hL.ctl.faults] at this
  exact this
end

end Go.Proofs.Ytpnfbabiibopnaa
