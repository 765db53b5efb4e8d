/-
  The library's exchanges of two parts of a row, and its turning of two neighbouring parts.
-/
import Derived.Test.YtbddicaabjlbjaaStab
import Derived.Test.YtbddicaabjlbjaaShelf
import Derived.Shelf.SlSortCmp.KitK
import Derived.Sort.WalkB2
import Derived.Sort.WalkB12
import Derived.Deep.LoopGhost
namespace Go.Proofs.Ytbddicaabjlbjaa
open Go Go.Shelf Go.RowKit Go.Lib Go.Sort
variable {P : Program}

/-- What the walks ask of the program's types. -/
structure TF (P : Program) : Prop where
  mixed : P.follows .mixedOrders = true
  t3 : P.underlying 3 = some (.int .i64)
  a3 : ∀ w, (isAgg 3).run P w = .ok false w
  z3 : ∀ w, (Go.sizeOf 3).run P w = .ok 1 w
  v3 : ∀ w, (zeroValue 3).run P w = .ok (.int .i64 0) w
  t4 : P.underlying 4 = some .bool
  a4 : ∀ w, (isAgg 4).run P w = .ok false w
  z4 : ∀ w, (Go.sizeOf 4).run P w = .ok 1 w
  v4 : ∀ w, (zeroValue 4).run P w = .ok (.bool false) w
  tu : P.underlying 77 = some (.int .u64)
  au : ∀ w, (isAgg 77).run P w = .ok false w
  zu : ∀ w, (Go.sizeOf 77).run P w = .ok 1 w
  vu : ∀ w, (zeroValue 77).run P w = .ok (.int .u64 0) w
  ts : P.underlying 23 = some (.slice 38)
  aS : ∀ w, (isAgg 23).run P w = .ok false w
  zs : ∀ w, (Go.sizeOf 23).run P w = .ok 1 w
  vs : ∀ w, (zeroValue 23).run P w = .ok (.slice none 0 0) w
  tf : P.underlying 45 = some (.func #[38, 38] #[3] false)
  af : ∀ w, (isAgg 45).run P w = .ok false w
  zf : ∀ w, (Go.sizeOf 45).run P w = .ok 1 w
  vf : ∀ w, (zeroValue 45).run P w = .ok .nilFunc w

theorem tf_try : TF Try.prog :=
  ⟨by kernel_rfl, Try.underlying3, Try.isAgg3, Try.sizeOf3, Try.zeroValue3, Try.underlying4, Try.isAgg4, Try.sizeOf4, Try.zeroValue4, Try.underlying77, Try.isAgg77, Try.sizeOf77, Try.zeroValue77,
   Try.underlying23, Try.isAgg23, Try.sizeOf23, Try.zeroValue23, Try.underlying45, Try.isAgg45, Try.sizeOf45, Try.zeroValue45⟩

/-- n exchanges, place by place. -/
def swpN (d : Array ChD) (a b : Nat) : Nat → Array ChD
  | 0 => d
  | n + 1 => swp (swpN d a b n) (a + n) (b + n)
theorem size_swpN (d : Array ChD) (a b : Nat) : ∀ n, (swpN d a b n).size = d.size
  | 0 => rfl
  | n + 1 => by rw [swpN, size_swp, size_swpN d a b n]

set_option maxHeartbeats 4000000 in
set_option maxRecDepth 1000000 in
theorem swapRange_gen (T : TF P) (FG : P.funcs[53]? = some Try.f53) (k : Nat) (aE : ∀ w, (isAgg 38).run P w = .ok true w) (zE : ∀ w, (Go.sizeOf 38).run P w = .ok k w)
    (enc : ChD → List Value) (g : Nat) (cb : Array Value) (blk off cap a b n : Nat) (d0 d : Array ChD) (w0 w : World)
    (R : RowK enc k w0 blk off d0) (hs : d0.size = d.size) (S : SWK enc k w0 blk off d w) (hab : a + n ≤ b) (hb : b + n ≤ d.size) (hsz : d.size < 4611686018427387904) :
    Calls P 53 #[.slice (some ⟨blk, off, none⟩) d.size cap, .int .i64 a, .int .i64 b, .int .i64 n, .func (.func g) #[] cb] w fun e w' => e = .returned (.tuple #[]) ∧ SWK enc k w0 blk off (swpN d a b n) w' := by
  obtain ⟨mixed, t3, a3, z3, v3, t4, a4, z4, v4, tu, au, zu, vu, ts, aS, zs, vs, tf, af, zf, vf⟩ := T
  have S0 : Aside (SWK enc k w0 blk off d w) := S
  clear S
  go_enter FG, Try.ntmps53
  go_wp2
  go_loopg [10] n (fun kx s10 wr => ∃ (i : Nat) (dk : Array ChD), s10 = .int .i64 i ∧ i ≤ n ∧ n - i ≤ kx ∧ dk.size = d.size ∧ Aside (SWK enc k w0 blk off dk wr) ∧ Hid (dk = swpN d a b i))
  case atStart => exact ⟨0, d, rfl, Nat.zero_le _, by omega, rfl, S0, rfl⟩
  case round =>
    clear S0
    obtain ⟨i, dk, rfl, hin, hkx, hds, S1, heq⟩ := hrel
    by_cases hlt : i < n
    · have hltz : (i : Int) < (n : Int) := by omega
      go_wp2_with fail
      have ea : ((a : Int) + (i : Int)).toNat = a + i := by omega
      have pa : (0 : Int) ≤ (a : Int) + (i : Int) := by omega
      have ba : (a : Int) + (i : Int) < (d.size : Int) := by omega
      have ra : IntKind.i64.wrap ((a : Int) + (i : Int)) = (a : Int) + (i : Int) := by rw [IntKind.wrap_i64]; omega
      have eb : ((b : Int) + (i : Int)).toNat = b + i := by omega
      have pb : (0 : Int) ≤ (b : Int) + (i : Int) := by omega
      have bb : (b : Int) + (i : Int) < (d.size : Int) := by omega
      have rb : IntKind.i64.wrap ((b : Int) + (i : Int)) = (b : Int) + (i : Int) := by rw [IntKind.wrap_i64]; omega
      have S2 : Aside (SWK enc k w0 blk off (swp dk (a + i) (b + i)) ((wr.drew.setCells blk (off + (a + i) * k) (enc dk[b + i]!)).setCells blk (off + (b + i) * k) (enc dk[a + i]!))) := S1.out.swapped R (a + i) (b + i) (by omega) (by omega)
      have la := S1.out.ld1 R (by omega) P (a + i) (by omega)
      have lb := S1.out.ld1 R (by omega) P (b + i) (by omega)
      have sa := S1.out.st1 R (by omega) P (a + i) (by omega) dk[b + i]!
      have sb := S1.out.st2 R (by omega) P (a + i) (b + i) (by omega) (by omega) dk[b + i]! dk[a + i]!
      have na : (enc dk[a + i]!).length = k := R.hk _
      have nb : (enc dk[b + i]!).length = k := R.hk _
      generalize enc dk[a + i]! = cI at S2 la sb na
      generalize enc dk[b + i]! = cJ at S2 lb sa sb nb
      clear S1
      go_wp2_with fail
      go_big_region_o
      clear la lb sa sb
      generalize (wr.drew.setCells blk (off + (a + i) * k) cJ).setCells blk (off + (b + i) * k) cI = w2 at S2 ⊢
      go_wp2
      go_roundg (n - (i + 1))
      case measure => omega
      case rel => exact ⟨i + 1, swp dk (a + i) (b + i), by go_num, by omega, Nat.le_refl _, by rw [size_swp]; exact hds, S2, by show _ = _; rw [swpN, ← heq.out]⟩
    · have hltz : ¬ (i : Int) < (n : Int) := by omega
      obtain rfl : i = n := by omega
      go_wp2
      go_end0
      exact ⟨rfl, by rw [← heq.out]; exact S1.out⟩

end Go.Proofs.Ytbddicaabjlbjaa
