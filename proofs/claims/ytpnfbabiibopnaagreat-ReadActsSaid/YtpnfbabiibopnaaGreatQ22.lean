/-
  Crnd, Faw, Frnd, in one text.
-/
import Derived.Test.YtpnfbabiibopnaaGreatQ21
import Derived.Test.YtpnfbabiibopnaaGreatQ17
import Derived.Test.YtpnfbabiibopnaaGreatQ11
import Derived.Test.YtpnfbabiibopnaaGreatQ08
/-! Between two calls: the config's box, a heap with a control block, rows beside them; a version is pushed, a chain is read; and the chapter's example. -/
namespace Go.Proofs.YtpnfbabiibopnaaGreat
open Go Go.RowKit
attribute [local go_sem ↓] Go.wp_at_zero Go.wp_at_succ

section
variable {W X Y : World} {a p s q v x : Int} {B hp r m : Nat} {D : HpD} {ks : List (Nat × Obj)} {o : Obj} {E : ChnD} {k z : Int} {V : Nat → VsnD} {n : Nat}
/-- A routine that has done stays as it is. -/
theorem Rnf.rest (h : Rnf ChnM W a p s q v x B hp D ks r m E X) : Rnd W a p s q v x B hp D ((r, chnO E) :: ks) X := by
  obtain ⟨f, h1, h2⟩ := h.pl
  obtain ⟨fh, fr, h3, h4, h5, rfl, h6⟩ := h1
  have h4' : ChnAt X B r E fr := h4
  have hB := h.hB
  have hb := h4'.base
  refine ⟨h.cf, h.lo, hB, fh, h3, fun u hu => ?_⟩
  rcases List.mem_cons.1 hu with rfl | hu
  · exact ⟨h4'.own, by show W.heap.size < r; omega, fun hf => h5 _ hf (by rw [h4'.foot])⟩
  · exact ⟨(h2 u hu).1, (h2 u hu).2.1, fun hf => (h2 u hu).2.2 (.inl hf)⟩
theorem rnd_push (h : Rnd W a p s q v x B hp D ks X) (hS : Shl k z D V n) (hn : n ≤ 1000) {sh : Int} (hk : headW a p s q v sh = k) {ep : Int} (he : 0 ≤ ep ∧ ep < 18446744073709551616) (key : ByteArray) (has : Bool) {val : ByteArray} (hv : val.size ≤ 4096) :
    Calls Tryz.prog 49 #[.pointer (some ⟨hp, 0, none⟩), cfV a p s q v x, .int .i64 sh, .int .u64 ep, .agg #[.string key, .bool has, .string val]] X
      (fun e Y => e = .returned (.int .u64 ((D.L.length + 1 : Nat) : Int)) ∧ Rnd W a p s q v x B hp (pushD D k ep has (putT has val)) ks Y) := by
  obtain ⟨f, h1, h2⟩ := h.hh
  refine (push_any X h1 (hS.sho hn) a p s q v x sh hk ep he key has val hv).mono fun e Y hE => ?_
  obtain ⟨f', rfl, h3, st⟩ := hE
  exact ⟨rfl, h.turn h1 h2 h3 st⟩
theorem rnd_push2 (h : Rnd W a p s q v x B hp D ks X) (hS : Sho k z D) {sh : Int} (hk : headW a p s q v sh = k) {ep : Int} (he : 0 ≤ ep ∧ ep < 18446744073709551616) (key : ByteArray) (has : Bool) {val : ByteArray} (hv : val.size ≤ 4096) :
    Calls Tryz.prog 49 #[.pointer (some ⟨hp, 0, none⟩), cfV a p s q v x, .int .i64 sh, .int .u64 ep, .agg #[.string key, .bool has, .string val]] X
      (fun e Y => e = .returned (.int .u64 ((D.L.length + 1 : Nat) : Int)) ∧ Rnd W a p s q v x B hp (pushD D k ep has (putT has val)) ks Y) := by
  obtain ⟨f, h1, h2⟩ := h.hh
  refine (push_any X h1 hS a p s q v x sh hk ep he key has val hv).mono fun e Y hE => ?_
  obtain ⟨f', rfl, h3, st⟩ := hE
  exact ⟨rfl, h.turn h1 h2 h3 st⟩
def CnewQ (W : World) (a p s q v x : Int) (B hp : Nat) (D : HpD) (ks : List (Nat × Obj)) (m : Nat) (E : ChnD) (e : Ending) (Y : World) : Prop := ∃ r, e = .returned (.pointer (some ⟨r, 0, none⟩)) ∧ Rnf ChnM W a p s q v x B hp D ks r m E Y
theorem rnd_cnew (h : Rnd W a p s q v x B hp D ks X) (hF : FewD D m) {sh : Int} (hk : headW a p s q v sh = k) (h0 : 0 ≤ k ∧ k ≤ 100000) {ep : Int} (he : 0 ≤ ep ∧ ep < 18446744073709551616) :
    Calls Tryz.prog 38 #[cfV a p s q v x, .int .i64 sh, .int .u64 ep] X (CnewQ W a p s q v x B hp D ks m (newC k ep)) := by
  subst hk
  refine (cnew_any X a p s q v x sh ep h0.1).mono fun e Y hE => ?_
  obtain ⟨r, rfl, hr, ho, hb⟩ := hE
  have hs : B ≤ X.heap.size := by obtain ⟨f, h1, _⟩ := h.hh; exact h1.size
  exact ⟨r, rfl, h.start (M := ChnM) (fr := fun j => j = r) hF (show ChnAt Y B r _ _ from ⟨ho, rfl, Nat.le_trans hs hr, newC_fits (by omega) he⟩) (fun j hj => by omega) hb⟩
theorem rnf_crun {ep : Int} (h : Rnf ChnM W a p s q v x B hp D ks r m (newC k ep) X) (hS : Shl k z D V n) (hn : n ≤ 1000) (l : Nat) (h4 : 2 * n + 4 ≤ l) (hl : l ≤ 1000000) (hlm : l ≤ m) :
    Calls Tryz.prog 16 #[.pointer (some ⟨hp, 0, none⟩), .iface 65 (.pointer (some ⟨r, 0, none⟩)), .int .i64 (l : Int)] X
      (fun e Y => e = .returned (.tuple #[.int .i64 ((1 + actsC V ep n : Nat) : Int), .bool true]) ∧ Rnf ChnM W a p s q v x B hp D ks r (m - l) (endC k V ep n 0) Y) := by
  obtain ⟨b, hw, hd⟩ := hS.down
  obtain ⟨e1, e2⟩ := chain_alone (at_ := ep) hS.inn.1 hS.spot hw hd hn l h4
  refine (show Calls Tryz.prog 16 #[.pointer (some ⟨hp, 0, none⟩), .iface 65 (.pointer (some ⟨r, 0, none⟩)), .int .i64 (l : Int)] X _ from rnf_alone h l hl hlm).mono fun e Y he => ?_
  obtain ⟨rfl, h2⟩ := he
  rw [e1] at h2 ⊢
  rw [e2]
  exact ⟨rfl, h2⟩
theorem rnf_cres (h : Rnf ChnM W a p s q v x B hp D ks r m E X) (h6 : E.asks = 6) :
    Calls Tryz.prog 40 #[.pointer (some ⟨r, 0, none⟩)] X fun e Y => e = .returned (.tuple #[valV E.has E.text E.block, .bool true]) ∧ Rnd W a p s q v x B hp D ((r, chnO E) :: ks) Y := by
  have h1 := h.rest
  exact (cres_any X (h1.kept (List.mem_cons_self ..)) h6).mono fun e Y he => ⟨he.1, h1.below he.2⟩
end

/-! ### the example -/
abbrev awN : Nat → VsnD := fun j => if j = 0 then ⟨3, true, ⟨#[118]⟩, 2⟩ else ⟨6, false, ⟨#[]⟩, 3⟩
theorem awc_right : rightC 2 2 3 2 1 = true := by decide
theorem awc_head : headW 2 2 3 2 1 1 = 10 := by decide
theorem awc_s0 : Shl 10 13 (fieldD 13) awN 0 := Shl.start (k := 10) (z := 13) awN (by decide) (by decide)
theorem awc_s1 : Shl 10 13 (pushD (fieldD 13) 10 3 true ⟨#[118]⟩) awN 1 := awc_s0.push rfl (by decide) (by decide) (by decide)
theorem awc_s2 : Shl 10 13 (pushD (pushD (fieldD 13) 10 3 true ⟨#[118]⟩) 10 6 false ⟨#[]⟩) awN 2 := awc_s1.push rfl (by decide) (by decide) (by decide)

end Go.Proofs.YtpnfbabiibopnaaGreat

/-! A control block on a heap of its own, a routine beside it, run alone; and the chapter's example. -/
namespace Go.Proofs.YtpnfbabiibopnaaGreat
open Go Go.RowKit
attribute [local go_sem ↓] Go.wp_at_zero Go.wp_at_succ

theorem plm_find {X Y : World} {B p r n : Nat} {D : HpD} {fh : Nat → Prop} {E : FindR} (h : Hp X B p D fh) (hF : FewD D n) (hv : E.fits) (hr : X.heap.size ≤ r) (ho : Y.heap[r]? = some (fndO E)) (hb : Below X.heap.size X Y) : PlM FindM Y B p r ⟨D, E⟩ n (fun j => fh j ∨ j = r) :=
  plm_start (M := FindM) (fr := fun j => j = r) h hF (show FindAt Y B r E _ from ⟨ho, rfl, Nat.le_trans h.size hr, hv⟩) (fun k hk => by omega) hb
theorem find_run {W : World} {B p r n : Nat} {D : HpD} {K : Shelves} {d : FindR} {f : Nat → Prop} (h : PlM FindM W B p r ⟨D, lookN d 0⟩ n f) (hK : Field d D K) (hr : rightC d.a d.p d.s d.q d.v = true) (m : Nat) (h4 : 2 * d.s ≤ (m : Int)) (hm : m ≤ 1000000) (hmn : m ≤ n) :
    Calls Tryz.prog 16 #[.pointer (some ⟨p, 0, none⟩), .iface 64 (.pointer (some ⟨r, 0, none⟩)), .int .i64 (m : Int)] W
      (PmR FindM B p r ⟨D, (findK K d d.s.toNat 0).1⟩ (n - m) (.tuple #[.int .i64 (((findK K d d.s.toNat 0).2 : Nat) : Int), .bool true]) f W) := by
  refine (show Calls Tryz.prog 16 #[.pointer (some ⟨p, 0, none⟩), .iface 64 (.pointer (some ⟨r, 0, none⟩)), .int .i64 (m : Int)] W _ from malone_any h m hm hmn).mono fun e W' he => ?_
  obtain ⟨rfl, g', h1, h2⟩ := he
  obtain ⟨e1, e2, e3⟩ := find_alone hK hr m h4
  rw [e1] at h1 ⊢
  rw [e2]
  refine ⟨g', ?_, h1, h2⟩
  show Ending.returned (.tuple #[_, .bool (!(nextF (findK K d d.s.toNat 0).1).isSome)]) = _
  rw [e3]; rfl
/-- What it found. -/
theorem plm_found {W : World} {B p r n : Nat} {D : HpD} {E : FindR} {f : Nat → Prop} (h : PlM FindM W B p r ⟨D, E⟩ n f) (hk : E.k ≠ 0) : Calls Tryz.prog 36 #[.pointer (some ⟨r, 0, none⟩)] W (ResE E.k E.sh true W) := by
  obtain ⟨fh, fr, h1, h2, _⟩ := h
  refine fres_any W h2.own rfl rfl ?_
  have : (E.k == 0) = false := by simpa using hk
  simp [this]

/-! ### the example -/
abbrev awF : FindR := newF 2 2 3 2 1 0 ⟨#[107]⟩
theorem aw_right : rightC 2 2 3 2 1 = true := by decide
theorem aw_field : Field awF (fieldD (sizeW 2 2 3 2 1).toNat) (fun _ => none) := Field.start awF (by rfl)

end Go.Proofs.YtpnfbabiibopnaaGreat

/-! Between two looks for a key: the config's box, a heap with a control block, a row beside them; a look, from New to Result; a key is put. -/
namespace Go.Proofs.YtpnfbabiibopnaaGreat
open Go Go.RowKit
attribute [local go_sem ↓] Go.wp_at_zero Go.wp_at_succ

section
variable {W X Y : World} {a p s q v x : Int} {B hp r n : Nat} {D D' : HpD} {ks : List (Nat × Obj)} {o : Obj} {E : FindR}
theorem Rnd.find (h : Rnd W a p s q v x B hp D ks X) (hF : FewD D n) (hv : E.fits) (hr : X.heap.size ≤ r) (ho : Y.heap[r]? = some (fndO E)) (hb : Below X.heap.size X Y) : Rnf FindM W a p s q v x B hp D ks r n E Y := by
  exact h.start (M := FindM) (fr := fun j => j = r) hF (show FindAt Y B r E _ from ⟨ho, rfl, Nat.le_trans (by obtain ⟨f, h1, _⟩ := h.hh; exact h1.size) hr, hv⟩) (fun k hk => by omega) hb
theorem Field.key {key key' : ByteArray} {K : Shelves} (h : Field (newF a p s q v x key) D K) : Field (newF a p s q v x key') D K := ⟨h.faults, h.ctrl, h.fine, h.keys⟩

/-! ### the calls -/
def NewQ (W : World) (a p s q v x : Int) (B hp : Nat) (D : HpD) (ks : List (Nat × Obj)) (n : Nat) (E : FindR) (X : World) (e : Ending) (Y : World) : Prop := ∃ r, e = .returned (.pointer (some ⟨r, 0, none⟩)) ∧ Rnf FindM W a p s q v x B hp D ks r n E Y ∧ Below X.heap.size X Y
theorem rnd_new (h : Rnd W a p s q v x B hp D ks X) {key : ByteArray} {K : Shelves} (hr : rightC a p s q v = true) (hk : key.size ≤ 100) (hK : Field (newF a p s q v x key) D K) (hm : D.L.length ≤ 1000) :
    Calls Tryz.prog 20 #[cfV a p s q v x, .string key] X (NewQ W a p s q v x B hp D ks 1000 (lookN (newF a p s q v x key) 0) X) := by
  refine (fnew_any X a p s q v x key hr (by omega)).mono fun e Y he => ?_
  obtain ⟨r, rfl, h1, h2, h3⟩ := he
  exact ⟨r, rfl, h.find (hK.few (by omega) hm) (newF_fits hr key) h1 h2 h3, h3⟩
/-- What a look comes to. -/
abbrev seenF (K : Shelves) (d : FindR) : FindR × Nat := findK K d d.s.toNat 0
theorem rnf_run {d : FindR} {K : Shelves} (h : Rnf FindM W a p s q v x B hp D ks r 1000 (lookN d 0) X) (hK : Field d D K) (hr : rightC d.a d.p d.s d.q d.v = true) :
    Calls Tryz.prog 16 #[.pointer (some ⟨hp, 0, none⟩), .iface 64 (.pointer (some ⟨r, 0, none⟩)), .int .i64 1000] X
      (fun e Y => e = .returned (.tuple #[.int .i64 (((seenF K d).2 : Nat) : Int), .bool true]) ∧ Rnf FindM W a p s q v x B hp D ks r 0 (seenF K d).1 Y) := by
  have hs := (rightC_bd hr).2.2
  obtain ⟨e1, e2, e3⟩ := find_alone hK hr 1000 (by omega)
  refine (show Calls Tryz.prog 16 #[.pointer (some ⟨hp, 0, none⟩), .iface 64 (.pointer (some ⟨r, 0, none⟩)), .int .i64 ((1000 : Nat) : Int)] X _ from rnf_alone h 1000 (by omega) (Nat.le_refl _)).mono fun e Y he => ?_
  obtain ⟨rfl, h2⟩ := he
  rw [e1] at h2 ⊢
  rw [e2]
  exact ⟨by show Ending.returned (.tuple #[_, .bool (!(nextF _).isSome)]) = _; rw [e3]; rfl, h2⟩
theorem rnf_result {k sh : Int} (h : Rnf FindM W a p s q v x B hp D ks r n E X) (hk : k ≠ 0) (h1 : E.k = k) (h2 : E.sh = sh) :
    Calls Tryz.prog 36 #[.pointer (some ⟨r, 0, none⟩)] X (fun e Y => e = .returned (.tuple #[fouV k sh, .bool true]) ∧ Rnd W a p s q v x B hp D ((Y.heap.size, fouO k sh) :: ks) (Y.alloc (fouO k sh))) := by
  obtain ⟨f, h3, _⟩ := h.pl
  subst h1 h2
  exact (plm_found h3 hk).mono fun e Y he => ⟨he.1, (h.below he.2).drop.add _⟩
end

end Go.Proofs.YtpnfbabiibopnaaGreat
