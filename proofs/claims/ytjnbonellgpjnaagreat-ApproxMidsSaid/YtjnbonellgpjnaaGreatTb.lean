/- The document's split of layer 4. -/
import Derived.Test.YtjnbonellgpjnaaGreatTa
import Derived.Test.YtjnbonellgpjnaaGreatKJ
set_option linter.unusedVariables false
set_option linter.unusedSimpArgs false
namespace Go.Proofs.YtjnbonellgpjnaaGreat
open Go.RowKit

theorem shift_len {l : List Nat} (h : Ok l) (hl : l.length ≤ 300) {k : Nat} (hk : k ≤ 2000) : (limbs (val l * 2 ^ k)).length ≤ 363 := by
  obtain ⟨A, hA⟩ : ∃ A, A = 300 := ⟨_, rfl⟩
  obtain ⟨K, hK⟩ : ∃ K, K = 63 := ⟨_, rfl⟩
  have h1 := Nat.lt_of_lt_of_le (val_lt h) (Nat.pow_le_pow_right (by decide : 0 < 4294967296) (show l.length ≤ A by omega))
  have h2 : (2 : Nat) ^ k ≤ 2 ^ (32 * K) := Nat.pow_le_pow_right (by decide) (by omega)
  rw [Nat.pow_mul, show (2 : Nat) ^ 32 = 4294967296 by decide] at h2
  have h3 : val l * 2 ^ k < 4294967296 ^ (A + K) := by
    rw [Nat.pow_add]
    exact Nat.lt_of_lt_of_le (Nat.mul_lt_mul_of_pos_right h1 (Nat.two_pow_pos k)) (Nat.mul_le_mul_left _ h2)
  have h4 := limbs_length_le h3
  omega

def IsSplit (w : World) (N D : Nat) (e : Ending) (w' : World) : Prop := ∃ q r d dl, e = .returned (.tuple #[q, r, d]) ∧ Sees w' q (limbs (N / D)) ∧ Sees w' r (limbs (N % D)) ∧ Sees w' d dl ∧ val dl = D ∧ dl.length ≤ 1000 ∧ Below w.heap.size w w'

set_option maxRecDepth 100000 in
set_option maxHeartbeats 2000000 in
theorem ref_split {a b : Value} {l m : List Nat} {w : World} (ha : Sees w a l) (hb : Sees w b m) (hl : l.length ≤ 300) (hm : m.length ≤ 300) (h0 : 0 < val m) (n : Int) (h1 : -2000 ≤ n) (h2 : n ≤ 2000) :
    Calls Tryz.prog 68 #[a, b, .int .i64 n] w fun e w' => IsSplit w (val l * 2 ^ (-n).toNat) (val m * 2 ^ n.toNat) e w' := by
  have hA := ha; have hB := hb
  obtain ⟨ao, ac, rfl, -, -, -, -, -⟩ := ha
  obtain ⟨bo, bc, rfl, -, -, -, -, -⟩ := hb
  by_cases hn : n ≥ 0
  · have HS := hid (ref_shift_ok n hB (by omega) (by omega) (by omega))
    have e1 : shiftZ (val m) n = val m * 2 ^ n.toNat := by unfold shiftZ; rw [if_pos (by omega)]
    rw [e1] at HS
    rw [show (-n).toNat = 0 by omega, Nat.pow_zero, Nat.mul_one]
    have hlen := shift_len hB.ok hm (k := n.toNat) (by omega)
    have hpos : 0 < val m * 2 ^ n.toNat := Nat.mul_pos h0 (Nat.two_pow_pos _)
    obtain ⟨D, hD⟩ : ∃ D, val m * 2 ^ n.toNat = D := ⟨_, rfl⟩
    rw [hD] at HS hlen hpos ⊢
    have HA := hid hA
    have HLEN := hid hlen; have HPOS := hid hpos
    clear e1 hD hlen hpos hA hB h1 h2 h0
    go_enter Tryz.func68, Tryz.ntmps68
    go_wp2_with fail
    refine HS.out.mono ?_
    rintro e w1 ⟨v1, rfl, hs, hb1⟩
    have HDV := hid (ref_div_pos (HA.out.below hb1) hs (by omega) (by have := HLEN.out; omega) (by rw [val_limbs]; exact HPOS.out))
    rw [val_limbs] at HDV
    have HS1 := hid hs; have HB1 := hid hb1
    obtain ⟨so, sc, rfl, -, -, -, -, -⟩ := hs
    clear hb1 HS HA
    go_wp2_with fail
    refine HDV.out.mono ?_
    rintro e w2 ⟨q, r, rfl, hq, hr, hb2⟩
    have HB2 := hid (step_below HB1.out hb2)
    have HS2 := hid (HS1.out.below hb2)
    have HQ := hid hq; have HR := hid hr
    obtain ⟨qo, qc, rfl, -, -, -, -, -⟩ := hq
    obtain ⟨ro, rc, rfl, -, -, -, -, -⟩ := hr
    clear hb2 HDV HS1 HB1
    go_wp2_with fail
    go_ret3
    exact ⟨_, _, _, _, rfl, HQ.out, HR.out, HS2.out, val_limbs _, by have := HLEN.out; omega, HB2.out⟩
  · have HS := hid (ref_shift_ok (-n) hA (by omega) (by omega) (by omega))
    have e1 : shiftZ (val l) (-n) = val l * 2 ^ (-n).toNat := by unfold shiftZ; rw [if_pos (by omega)]
    rw [e1] at HS
    rw [show n.toNat = 0 by omega, Nat.pow_zero, Nat.mul_one]
    have hlen := shift_len hA.ok hl (k := (-n).toNat) (by omega)
    obtain ⟨N, hN⟩ : ∃ N, val l * 2 ^ (-n).toNat = N := ⟨_, rfl⟩
    rw [hN] at HS hlen ⊢
    obtain ⟨z, hz⟩ : ∃ z : Int, -n = z := ⟨_, rfl⟩
    have hw : wrap64 z = z := wrap_id (by omega) (by omega)
    rw [hz] at HS
    have HBV := hid hB
    have HLEN := hid hlen; have HPOS := hid h0
    clear e1 hN hlen hA hB h1 h2 h0
    go_enter Tryz.func68, Tryz.ntmps68
    go_wp2_with fail
    refine HS.out.mono ?_
    rintro e w1 ⟨v1, rfl, hs, hb1⟩
    have HDV := hid (ref_div_pos hs (HBV.out.below hb1) (by have := HLEN.out; omega) (by omega) HPOS.out)
    rw [val_limbs] at HDV
    have HB1 := hid hb1
    have HM1 := hid (HBV.out.below hb1)
    obtain ⟨so, sc, rfl, -, -, -, -, -⟩ := hs
    clear hb1 HS HBV
    go_wp2_with fail
    refine HDV.out.mono ?_
    rintro e w2 ⟨q, r, rfl, hq, hr, hb2⟩
    have HB2 := hid (step_below HB1.out hb2)
    have HM2 := hid (HM1.out.below hb2)
    have HQ := hid hq; have HR := hid hr
    obtain ⟨qo, qc, rfl, -, -, -, -, -⟩ := hq
    obtain ⟨ro, rc, rfl, -, -, -, -, -⟩ := hr
    clear hb2 HDV HM1 HB1
    go_wp2_with fail
    go_ret3
    exact ⟨_, _, _, _, rfl, HQ.out, HR.out, HM2.out, rfl, by omega, HB2.out⟩
end Go.Proofs.YtjnbonellgpjnaaGreat
