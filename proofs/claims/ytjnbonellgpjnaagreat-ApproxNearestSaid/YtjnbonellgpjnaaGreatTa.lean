/- A whole number of 53 digits times a power of two, by doubling or halving. -/
import Derived.Test.YtjnbonellgpjnaaGreatKS
import Derived.Test.YtjnbonellgpjnaaGreatKT
set_option linter.unusedVariables false
set_option linter.unusedSimpArgs false
namespace Go.Proofs.YtjnbonellgpjnaaGreat
open Go.RowKit

/-- What the float nearest to I * 2^p is, if p is no lower than the lowest place: that number, or beyond all. -/
theorem at_place {I : Nat} (hI : I ≤ 9007199254740992) {p : Int} (hp : -1074 ≤ p) :
    (Ieee.double.nearest false I p < 9218868437227405312 ∧ mag (Ieee.double.nearest false I p) = I * 2 ^ (p + 1074).toNat) ∨ (0 < p ∧ ∀ q, p ≤ q → Ieee.double.nearest false I q = 9218868437227405312) := by
  rcases Nat.eq_zero_or_pos I with h0 | h0
  · subst h0
    left
    have e0 : Ieee.double.nearest false 0 p = 0 := rfl
    rw [e0]
    exact ⟨by decide, by rw [Nat.zero_mul]; decide⟩
  rcases Nat.lt_or_eq_of_le hI with hI | hI
  rotate_left
  · subst hI
    have key : ∀ q : Int, Ieee.double.nearest false 4503599627370496 (q + 1) = Ieee.double.nearest false 9007199254740992 q := fun q => by
      have := nearest_scale false 4503599627370496 (q + 1) 1
      rw [show q + 1 - ((1 : Nat) : Int) = q by omega] at this
      exact this.symm
    by_cases c2 : p + 1 ≤ 971
    · left
      have h1 := nearest_norm false (F := 0) (by decide) (p := p + 1) (by omega) c2
      rw [Nat.add_zero, key, word_eq] at h1
      simp only [Bool.false_eq_true, if_false] at h1
      rw [show (p + 1 + 1075).toNat = (p + 1075).toNat + 1 by omega, Nat.add_zero] at h1
      rw [h1]
      refine ⟨by omega, ?_⟩
      have h2 := mag_norm (E := (p + 1075).toNat) (F := 0) (by decide)
      rw [Nat.add_zero, Nat.add_zero] at h2
      rw [h2, show (9007199254740992 : Nat) = 4503599627370496 * 2 from rfl, Nat.mul_assoc, show (2 : Nat) * 2 ^ (p + 1074).toNat = 2 ^ ((p + 1074).toNat + 1) by rw [Nat.pow_succ, Nat.mul_comm]]
      refine congrArg (fun n => 4503599627370496 * 2 ^ n) ?_
      omega
    · right
      refine ⟨by omega, fun q hq => ?_⟩
      have h1 := nearest_over false (F := 0) (by decide) (p := q + 1) (by omega)
      rw [Nat.add_zero, key, word_eq] at h1
      simpa using h1
  · obtain ⟨E, F, hn, hk⟩ := int_norm h0 (Nat.le_of_lt hI)
    have hE := int_exp h0 hI hn rfl
    obtain ⟨U, hU, hu⟩ := units_eq
    have hF := hn.frac
    have hT := hn.top
    rw [hu] at hE
    have hk1 := hk p
    by_cases c1 : 0 ≤ p + E
    · by_cases c2 : p + E - 1074 ≤ 971
      · left
        have h1 := nearest_norm false hF (p := p + E - 1074) (by omega) c2
        rw [hk1, word_eq] at h1
        simp only [Bool.false_eq_true, if_false] at h1
        rw [show (p + (E : Int) - 1074 + 1075).toNat = (p + E).toNat + 1 by omega] at h1
        rw [h1]
        refine ⟨by omega, ?_⟩
        rw [mag_norm hF]
        refine Nat.eq_of_mul_eq_mul_right (Nat.two_pow_pos U) ?_
        rw [Nat.mul_assoc, ← Nat.pow_add, Nat.mul_right_comm, ← hE, Nat.mul_assoc, ← Nat.pow_add]
        refine congrArg (fun n => (4503599627370496 + F) * 2 ^ n) ?_
        omega
      · right
        refine ⟨by omega, fun q hq => ?_⟩
        have h1 := nearest_over false hF (p := q + E - 1074) (by omega)
        rw [hk q, word_eq] at h1
        simpa using h1
    · left
      have hlt : I * 2 ^ (p + 1074).toNat < 4503599627370496 := by
        have e1 : I * 2 ^ (p + 1074).toNat * 2 ^ (-p).toNat = (4503599627370496 + F) * 2 ^ E := by
          rw [hE, Nat.mul_assoc, ← Nat.pow_add]
          refine congrArg (fun n => I * 2 ^ n) ?_
          omega
        have e2 : (-p).toNat = E + ((-p).toNat - E - 1) + 1 := by omega
        rw [e2, Nat.pow_succ, Nat.pow_add] at e1
        have h3 : I * 2 ^ (p + 1074).toNat * (2 ^ ((-p).toNat - E - 1) * 2) = 4503599627370496 + F := by
          refine Nat.eq_of_mul_eq_mul_right (Nat.two_pow_pos E) ?_
          rw [← e1]
          simp only [Nat.mul_assoc, Nat.mul_comm, Nat.mul_left_comm]
        have h4 := Nat.two_pow_pos ((-p).toNat - E - 1)
        generalize 2 ^ ((-p).toNat - E - 1) = P at *
        generalize I * 2 ^ (p + 1074).toNat = R at *
        have h5 := Nat.mul_le_mul_left R (show 2 ≤ P * 2 by omega)
        omega
      have hs := nearest_scale false I p (p + 1074).toNat
      rw [show p - (((p + 1074).toNat : Nat) : Int) = -1074 by omega] at hs
      have hm : mag (I * 2 ^ (p + 1074).toNat) = I * 2 ^ (p + 1074).toNat := if_pos hlt
      have hw := nearest_mag false (r := I * 2 ^ (p + 1074).toNat) (by omega)
      rw [hm, hs, word_eq] at hw
      simp only [Bool.false_eq_true, if_false] at hw
      rw [hw]
      exact ⟨by omega, hm⟩

theorem double_place {I : Nat} (hI : I ≤ 9007199254740992) {p : Int} (hp : -1074 ≤ p) : Ieee.double.mul (Ieee.double.nearest false I p) 4611686018427387904 = some (Ieee.double.nearest false I (p + 1)) := by
  rcases at_place hI hp with ⟨h1, h2⟩ | ⟨h0, h1⟩
  · rw [mul_two h1, h2]
    have hs := nearest_scale false I (p + 1) (p + 1074).toNat
    rw [show p + 1 - (((p + 1074).toNat : Nat) : Int) = -1073 by omega] at hs
    rw [hs]
  · rw [h1 p (Int.le_refl _), h1 (p + 1) (by omega)]
    decide +kernel
theorem halve_place {I : Nat} (hI : I ≤ 9007199254740992) {p : Int} (hp : -1074 ≤ p) (hp0 : p ≤ 0) : Ieee.double.div (Ieee.double.nearest false I p) 4611686018427387904 = some (Ieee.double.nearest false I (p - 1)) := by
  rcases at_place hI hp with ⟨h1, h2⟩ | ⟨h0, h1⟩
  · rw [div_two h1, h2]
    have hs := nearest_scale false I (p - 1) (p + 1074).toNat
    rw [show p - 1 - (((p + 1074).toNat : Nat) : Int) = -1075 by omega] at hs
    rw [hs]
  · omega

set_option maxRecDepth 100000 in
set_option maxHeartbeats 2000000 in
theorem ref_times {I : Nat} (hI : I ≤ 9007199254740992) (n : Int) (h1 : -1074 ≤ n) (h2 : n ≤ 2000) (w : World) :
    Calls Tryz.prog 67 #[.float .f64 (Ieee.double.nearest false I 0), .int .i64 n] w fun e w' => e = .returned (.float .f64 (Ieee.double.nearest false I n)) ∧ w = w' := by
  by_cases hn : 0 < n
  · obtain ⟨N, rfl⟩ : ∃ N : Nat, n = N := ⟨n.toNat, by omega⟩
    have hN : N ≤ 2000 := by omega
    obtain ⟨R, hR⟩ : ∃ R, Ieee.double.nearest false I (N : Int) = R := ⟨_, rfl⟩
    obtain ⟨f0, hf0⟩ : ∃ f, Ieee.double.nearest false I 0 = f := ⟨_, rfl⟩
    have HR := hid hR; have HF0 := hid hf0
    rw [hR, hf0]
    clear hR hf0 h1 h2 hn
    go_enter Tryz.func67, Tryz.ntmps67
    go_wp2
    go_loopg [0, 1] N (fun g v0 v1 wr => ∃ f m : Nat, v0 = .float .f64 f ∧ v1 = .int .i64 m ∧ m ≤ 2000 ∧ Hid (m = g) ∧ Hid (m ≤ N) ∧ Hid (Ieee.double.nearest false I ((N : Int) - m) = f) ∧ Hid (w = wr))
    case atStart => exact ⟨f0, N, rfl, rfl, hN, rfl, Nat.le_refl _, by show _ = _; rw [show (N : Int) - (N : Int) = 0 by omega]; exact HF0.out, rfl⟩
    case round =>
      obtain ⟨f, m, rfl, rfl, hm, hG, hmN, hI2, hW⟩ := hrel
      rcases Nat.eq_zero_or_pos m with h0 | h0
      · subst h0
        have hfin : f = R := by rw [← hI2.out, ← HR.out]; rw [show (N : Int) - ((0 : Nat) : Int) = N by omega]
        have HFIN := hid hfin
        clear hfin hI2
        go_wp2
        go_loopg [0, 1] 0 (fun g v0 v1 wq => v0 = .float .f64 f ∧ v1 = .int .i64 0 ∧ Hid (w = wq))
        case atStart => exact ⟨rfl, rfl, hW⟩
        case round =>
          obtain ⟨rfl, rfl, hWq⟩ := hrel
          go_wp2
          go_ret
          exact ⟨by rw [HFIN.out]; rfl, hWq.out⟩
      · obtain ⟨k, rfl⟩ : ∃ k, m = k + 1 := ⟨m - 1, by omega⟩
        obtain ⟨f', hf'⟩ : ∃ f', Ieee.double.nearest false I ((N : Int) - k) = f' := ⟨_, rfl⟩
        have hmul := double_place hI (p := (N : Int) - ((k + 1 : Nat) : Int)) (by have := hmN.out; omega)
        rw [hI2.out, show (N : Int) - ((k + 1 : Nat) : Int) + 1 = (N : Int) - k by omega, hf'] at hmul
        have q1 := run_mul 30 wr hmul
        have HF' := hid hf'
        have hpos : ((k + 1 : Nat) : Int) > 0 := by omega
        have hw1 : IntKind.i64.wrap (((k + 1 : Nat) : Int) - 1) = (k : Int) := by rw [IntKind.wrap_i64]; omega
        clear hmul hf' hI2
        go_wp2
        go_roundg k
        case rel => exact ⟨f', k, rfl, by first | rfl | go_num, by omega, rfl, by have := hmN.out; show _ ≤ _; omega, HF', hW⟩
        case measure => have := hG.out; omega
  · obtain ⟨N, rfl⟩ : ∃ N : Nat, n = -(N : Int) := ⟨(-n).toNat, by omega⟩
    have hN : N ≤ 1074 := by omega
    obtain ⟨R, hR⟩ : ∃ R, Ieee.double.nearest false I (-(N : Int)) = R := ⟨_, rfl⟩
    obtain ⟨f0, hf0⟩ : ∃ f, Ieee.double.nearest false I 0 = f := ⟨_, rfl⟩
    have HR := hid hR; have HF0 := hid hf0
    rw [hR, hf0]
    obtain ⟨z, hz⟩ : ∃ z : Int, z = -(N : Int) := ⟨_, rfl⟩
    have HZ := hid hz
    have hz0 : ¬ z > 0 := by omega
    rw [← hz]
    clear hR hf0 h1 h2 hn hz
    go_enter Tryz.func67, Tryz.ntmps67
    go_wp2
    go_loopg [0, 1] 0 (fun g v0 v1 wq => v0 = .float .f64 f0 ∧ v1 = .int .i64 z ∧ Hid (w = wq))
    case atStart => exact ⟨rfl, rfl, rfl⟩
    case round =>
      obtain ⟨rfl, rfl, hWq⟩ := hrel
      go_wp2
      go_loopg [0, 1] N (fun g v0 v1 wr => ∃ (f m : Nat) (y : Int), v0 = .float .f64 f ∧ v1 = .int .i64 y ∧ -2000 ≤ y ∧ y ≤ 0 ∧ Hid (m = g) ∧ Hid (y = -(m : Int)) ∧ Hid (m ≤ N) ∧ Hid (Ieee.double.nearest false I ((m : Int) - N) = f) ∧ Hid (w = wr))
      case atStart => exact ⟨f0, N, z, rfl, rfl, by have := HZ.out; omega, by have := HZ.out; omega, rfl, HZ.out, Nat.le_refl _, by show _ = _; rw [show (N : Int) - (N : Int) = 0 by omega]; exact HF0.out, hWq⟩
      case round =>
        obtain ⟨f, m, y, rfl, rfl, hy1, hy2, hG, hY, hmN, hI2, hW⟩ := hrel
        rcases Nat.eq_zero_or_pos m with h0 | h0
        · subst h0
          have hfin : f = R := by rw [← hI2.out, ← HR.out]; rw [show ((0 : Nat) : Int) - (N : Int) = -(N : Int) by omega]
          have hy0 : ¬ y < 0 := by have := hY.out; omega
          have HFIN := hid hfin
          clear hfin hI2
          go_wp2
          go_ret
          exact ⟨by rw [HFIN.out]; rfl, hW.out⟩
        · obtain ⟨k, rfl⟩ : ∃ k, m = k + 1 := ⟨m - 1, by omega⟩
          obtain ⟨f', hf'⟩ : ∃ f', Ieee.double.nearest false I ((k : Int) - N) = f' := ⟨_, rfl⟩
          have hdiv := halve_place hI (p := ((k + 1 : Nat) : Int) - (N : Int)) (by have := hmN.out; omega) (by have := hmN.out; omega)
          rw [hI2.out, show ((k + 1 : Nat) : Int) - (N : Int) - 1 = (k : Int) - N by omega, hf'] at hdiv
          have q1 := run_quo 30 wr hdiv
          have HF' := hid hf'
          have hneg : y < 0 := by have := hY.out; omega
          have hw1 : IntKind.i64.wrap (y + 1) = y + 1 := by rw [IntKind.wrap_i64]; omega
          clear hdiv hf' hI2
          go_wp2
          go_roundg k
          case rel => exact ⟨f', k, y + 1, rfl, rfl, by omega, by have := hY.out; omega, rfl, by have := hY.out; show _ = _; omega, by have := hmN.out; show _ ≤ _; omega, HF', hW⟩
          case measure => have := hG.out; omega
end Go.Proofs.YtjnbonellgpjnaaGreat
