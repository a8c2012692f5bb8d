/- nat.divideInPlace, nat.fromWord, nat.limbAt, nat.wordAt by their contracts. -/
import Derived.Test.YtfjanomjmlcgaaaDoorTrim
set_option linter.unusedVariables false
set_option linter.unusedSimpArgs false
namespace Go.Proofs.YtfjanomjmlcgaaaDoor
open Go.RowKit

theorem ret_int' {k : IntKind} {a b : Int} (h : a = b) : Ending.returned (.int k a) = .returned (.int k b) := by rw [h]

/-- One step of a division by a limb, as the walk spells it. -/
theorem div_step (u r b : Nat) (hu : u < 4294967296) (hr : r < b) (hb : b < 4294967296) : ∃ x q r' : Nat, q < 4294967296 ∧ r' < b ∧ Hid (r * 4294967296 + u = b * q + r') ∧
    bits BinOp.or IntKind.u64 ((r : Int) * 4294967296) (u : Int) = (x : Int) ∧ (x : Int) / (b : Int) = (q : Int) ∧ (x : Int) % (b : Int) = (r' : Int) := by
  have hx : r * 4294967296 + u < b * 4294967296 := by
    have : (r + 1) * 4294967296 ≤ b * 4294967296 := Nat.mul_le_mul_right _ hr
    omega
  have hor : bits BinOp.or IntKind.u64 ((r : Int) * 4294967296) (u : Int) = ((r * 4294967296 + u : Nat) : Int) := by
    have h1 : ((r : Int) * 4294967296) = ((r * 4294967296 : Nat) : Int) := by rw [Int.natCast_mul]; rfl
    have h2 : r * 4294967296 < 18446744073709551616 := Nat.lt_of_le_of_lt (Nat.mul_le_mul_right 4294967296 (show r ≤ 4294967295 by omega)) (by decide)
    have h3 : u < 18446744073709551616 := Nat.lt_trans hu (by decide)
    have e32 : (2 : Nat) ^ 32 = 4294967296 := by decide
    have h4 : r * 4294967296 % 2 ^ 32 = 0 := by rw [e32]; exact Nat.mul_mod_left r 4294967296
    have h5 : u < 2 ^ 32 := by rw [e32]; exact hu
    rw [h1, u64_or_nat _ _ h2 h3, nat_join 32 _ _ h4 h5]
  refine ⟨r * 4294967296 + u, (r * 4294967296 + u) / b, (r * 4294967296 + u) % b, Nat.div_lt_of_lt_mul hx, Nat.mod_lt _ (by omega), (Nat.div_add_mod _ b).symm, hor, ?_, ?_⟩
  · exact (Int.natCast_ediv _ _).symm
  · exact (Int.natCast_emod _ _).symm

/-- What divideInPlace leaves. -/
def Divided (w : World) (g b : Nat) (s : List Nat) (e : Ending) (w' : World) : Prop :=
  ∃ (t : List Nat) (r : Nat), e = .returned (.int .u32 r) ∧ r = val s % b ∧ r < b ∧ t.length = s.length ∧ Ok t ∧ val t = val s / b ∧ Row w' g t ∧ w.grownBy w' (some g)

theorem nat_divideInPlace (g cap b : Nat) (s : List Nat) (w : World) (hr : Row w g s) (hs : Ok s) (hb : 0 < b) (hb' : b < 4294967296) (hsl : s.length ≤ 70368744177664) :
    Calls Tryd.prog 54 #[.slice (some ⟨g, 0, none⟩) s.length cap, .int .u32 b] w fun e w' => Divided w g b s e w' := by
  have HR := hid hr; have HS := hid hs
  clear hr hs
  go_enter Tryd.func54, Tryd.ntmps54
  go_wp2
  go_loopw [5, 10] (fun v5 v wr => ∃ (k r : Nat) (t : List Nat), k ≤ s.length ∧ v = .int .i64 k ∧ v5 = .int .u64 r ∧ r < b ∧ Hid (DivBy s b k t r) ∧ Hid (Row wr g t) ∧ Hid (w.grownBy wr (some g))) (fun _ v _ => s.length - (intOf v).toNat)
  case atStart => exact ⟨0, 0, s, Nat.zero_le _, rfl, rfl, hb, DivBy.start HS.out b hb, HR, World.grownBy.refl _ _⟩
  case round =>
    obtain ⟨k, r, t, hk, rfl, rfl, hrb, ha, hrow, hg⟩ := hrel
    by_cases hlt : k < s.length
    · have htl := ha.out.len
      have hca := hrow.out.cell (i := s.length - 1 - k) (by omega)
      have hfr := hrow.out.frozen (s.length - 1 - k)
      have hox := ha.out.ok.getD (s.length - 1 - k)
      have hsame := ha.out.low (s.length - 1 - k) (by omega)
      obtain ⟨x, q, r', hq, hr', hx, hor, hdq, hdr⟩ := div_step (t.getD (s.length - 1 - k) 0) r b hox hrb hb'
      have hstep := ha.out.step hlt q r' hq hr' (by rw [← hsame]; exact hx.out)
      have HStep := hid hstep
      have HRow := hid (hrow.out.set (s.length - 1 - k) q)
      have HG := hid (grownBy_set (i := s.length - 1 - k) (v := .int .u32 (q : Nat)) hg.out)
      clear hsame hstep hx
      generalize t.getD (s.length - 1 - k) 0 = u at *
      go_wp2
      go_roundw
      case rel => exact ⟨k + 1, r', t.set (s.length - 1 - k) q, by omega, by go_num, by rw [hdr], hr', HStep, HRow, HG⟩
      case measure => simp [intOf]; omega
    · obtain rfl : k = s.length := by omega
      have hv := ha.out.total
      have hlen := ha.out.len
      have hok := ha.out.ok
      obtain ⟨hv1, hv2⟩ := hv
      have HV := hid hv2
      have HF : Hid (t.length = s.length ∧ Ok t ∧ val t = val s / b) := ⟨hlen, hok, hv1⟩
      clear hv1 hv2 hlen hok ha
      go_wp2
      go_ret
      obtain ⟨f1, f2, f3⟩ := HF.out
      exact ⟨t, r, rfl, HV.out, hrb, f1, f2, f3, hrow.out, hg.out⟩
theorem nat_fromWord (x : Nat) (hx : x < 18446744073709551616) (w : World) :
    Calls Tryd.prog 52 #[.int .u64 x] w fun e w' => IsNum w x e w' := by
  have hok : Ok [x % 4294967296, x / 4294967296] := Ok.cons (by omega) (Ok.cons (by omega) Ok.nil)
  have hs := sees_lit w [x % 4294967296, x / 4294967296] hok (by simp)
  have hv : val [x % 4294967296, x / 4294967296] = x := by simp only [val_cons, val_nil]; omega
  have HV := hid hv
  have HS : Hid (Sees (w.alloc (.cells #[.int .u32 ((x : Int) % 4294967296), .int .u32 ((x : Int) / 4294967296)] 57)) (.slice (some ⟨w.heap.size, 0, none⟩) 2 2) [x % 4294967296, x / 4294967296]) := hs
  have HB := hid ((Below.refl w.heap.size w).alloc (Nat.le_refl _) (.cells #[.int .u32 ((x : Int) % 4294967296), .int .u32 ((x : Int) / 4294967296)] 57))
  clear hs hv hok
  go_enter Tryd.func52, Tryd.ntmps52
  go_wp2_with fail
  refine (trim_sees _ _ _ _ _ HS.out).mono ?_
  rintro e w' ⟨⟨R, rfl, hR, -⟩, rfl⟩
  have HR := hid hR; clear hR
  go_wp2
  go_ret
  exact ⟨_, rfl, by rw [HV.out] at HR ⊢; exact HR.out, HB.out⟩

/-- A quotient, a rest, true. -/
def IsDiv (w : World) (x y : Nat) (e : Ending) (w' : World) : Prop := ∃ q r, e = .returned (.tuple #[q, r, .bool true]) ∧ Sees w' q (limbs (x / y)) ∧ Sees w' r (limbs (x % y)) ∧ Below w.heap.size w w'

end Go.Proofs.YtfjanomjmlcgaaaDoor
