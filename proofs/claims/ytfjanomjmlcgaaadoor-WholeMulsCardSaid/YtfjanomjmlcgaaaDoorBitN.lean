/- One binary digit of a list of limbs. -/
import Derived.Test.YtfjanomjmlcgaaaDoorShiftN
set_option linter.unusedVariables false
set_option linter.unusedSimpArgs false
namespace Go.Proofs.YtfjanomjmlcgaaaDoor
/-- A binary digit of a number is one of a limb's. -/
theorem bit_limb {l : List Nat} (hok : Ok l) (q h : Nat) (hh : h < 32) : l.getD q 0 / 2 ^ h % 2 = val l / 2 ^ (32 * q + h) % 2 := by
  rw [← pow_limb, ← Nat.div_div_eq_div_mul, ← val_drop_div hok]
  rcases Nat.lt_or_ge q l.length with h1 | h1
  · rw [val_drop l q h1]
    have e : (4294967296 : Nat) = 2 ^ h * (2 * 2 ^ (31 - h)) := by
      have : 2 ^ h * (2 * 2 ^ (31 - h)) = 2 ^ 32 := by
        rw [Nat.mul_left_comm, ← Nat.pow_add, show h + (31 - h) = 31 by omega]
      rw [this]
    rw [e, Nat.mul_assoc, Nat.add_mul_div_left _ _ (Nat.two_pow_pos h), Nat.mul_assoc]
    omega
  · rw [List.drop_eq_nil_iff.2 h1, List.getD_eq_getElem?_getD, List.getElem?_eq_none h1, val_nil, Nat.zero_div]
    simp
end Go.Proofs.YtfjanomjmlcgaaaDoor
