/- Shifts of limbs: the numbers. -/
import Derived.Test.YtfjanomjmlcgaaaDoorNums
set_option linter.unusedVariables false
set_option linter.unusedSimpArgs false
namespace Go.Proofs.YtfjanomjmlcgaaaDoor

/-- A limb times a power of two, and something below the power. -/
theorem shl_limb (a c n k : Nat) (hnk : n + k = 32) (ha : a < 4294967296) (hc : c < 2 ^ n) :
    ∃ X H : Nat, X < 4294967296 ∧ a / 2 ^ k < 2 ^ n ∧ H < 4294967296 ∧ a * 2 ^ n % 4294967296 = H ∧ (H ||| c) = X ∧ a * 2 ^ n + c = X + 4294967296 * (a / 2 ^ k) := by
  have hpq : 2 ^ n * 2 ^ k = 4294967296 := by rw [← Nat.pow_add, hnk]
  have hq : 0 < 2 ^ k := Nat.two_pow_pos k
  have hr : a % 2 ^ k < 2 ^ k := Nat.mod_lt _ hq
  have hd : a / 2 ^ k < 2 ^ n := Nat.div_lt_of_lt_mul (by rw [Nat.mul_comm, hpq]; exact ha)
  have ea : 2 ^ k * (a / 2 ^ k) + a % 2 ^ k = a := Nat.div_add_mod a (2 ^ k)
  have e1 : a * 2 ^ n = 4294967296 * (a / 2 ^ k) + 2 ^ n * (a % 2 ^ k) := by
    have := congrArg (2 ^ n * ·) ea
    simp only [Nat.mul_add] at this
    rw [← Nat.mul_assoc, hpq] at this
    rw [Nat.mul_comm a]
    exact this.symm
  have h1 : 2 ^ n * (a % 2 ^ k) + 2 ^ n ≤ 4294967296 := by
    have h := Nat.mul_le_mul_left (2 ^ n) (Nat.succ_le_of_lt hr)
    rw [hpq] at h
    have e := Nat.mul_succ (2 ^ n) (a % 2 ^ k)
    rw [e] at h
    exact h
  have hor := Nat.two_pow_add_eq_or_of_lt hc (a % 2 ^ k)
  refine ⟨2 ^ n * (a % 2 ^ k) + c, 2 ^ n * (a % 2 ^ k), by omega, hd, ?_, ?_, hor.symm, by omega⟩
  · have := Nat.two_pow_pos n; omega
  · have := Nat.two_pow_pos n; rw [e1]; omega

/-- A limb set above all that are. -/
theorem val_set_top {t : List Nat} {i x : Nat} (hz : ∀ j, i ≤ j → t.getD j 0 = 0) (hi : i < t.length) : val (t.set i x) = val t + 4294967296 ^ i * x := by
  have hz' : ∀ j, i + 1 ≤ j → (t.set i x).getD j 0 = 0 := fun j hj => by rw [getD_set_ne _ _ _ _ (by omega)]; exact hz j (by omega)
  rw [val_of_zeros hz', val_of_zeros hz]
  simp only [valF]
  rw [getD_set_eq _ _ _ hi]
  congr 1
  exact valF_congr _ _ _ (fun k hk => getD_set_ne _ _ _ _ (by omega))

/-- What shiftDown has told behind i limbs. -/
structure DownTo (m : List Nat) (n i : Nat) (t : List Nat) : Prop where
  len : t.length = m.length
  ok : Ok t
  zero : ∀ j, i ≤ j → t.getD j 0 = 0
  sum : 2 ^ n * (val t + 4294967296 ^ i * (m.getD i 0 / 2 ^ n)) + m.getD 0 0 % 2 ^ n = valF (fun i => m.getD i 0) i + 4294967296 ^ i * m.getD i 0
theorem DownTo.start (m : List Nat) (n : Nat) : DownTo m n 0 (List.replicate m.length 0) := by
  refine ⟨by simp, Ok.replicate _, fun j _ => ?_, ?_⟩
  · rw [List.getD_eq_getElem?_getD, List.getElem?_replicate]
    split <;> rfl
  · rw [val_replicate]
    simp only [valF, Nat.pow_zero, Nat.one_mul, Nat.zero_add]
    exact Nat.div_add_mod _ _
theorem DownTo.step {m t : List Nat} {n k i X : Nat} (h : DownTo m n i t) (hnk : n + k = 32) (hi : i < m.length) (hX : X < 4294967296)
    (e : m.getD (i + 1) 0 * 2 ^ k + m.getD i 0 / 2 ^ n = X + 4294967296 * (m.getD (i + 1) 0 / 2 ^ n)) : DownTo m n (i + 1) (t.set i X) := by
  have hpq : 2 ^ n * 2 ^ k = 4294967296 := by rw [← Nat.pow_add, hnk]
  refine ⟨by rw [List.length_set]; exact h.len, h.ok.set _ _ hX, fun j hj => by rw [getD_set_ne _ _ _ _ (by omega)]; exact h.zero j (by omega), ?_⟩
  rw [val_set_top h.zero (by rw [h.len]; exact hi)]
  have hs := h.sum
  generalize m.getD (i + 1) 0 = b at *
  simp only [valF]
  generalize m.getD i 0 = a at *
  generalize m.getD 0 0 % 2 ^ n = r0 at *
  generalize valF (fun i => m.getD i 0) i = M at *
  generalize a / 2 ^ n = u at *
  generalize b / 2 ^ n = v at *
  have e2 := congrArg (fun z => 2 ^ n * (4294967296 ^ i * z)) e
  simp only [Nat.mul_add] at e2 hs ⊢
  have e3 : 2 ^ n * (4294967296 ^ i * (b * 2 ^ k)) = 4294967296 ^ (i + 1) * b := by
    rw [Nat.pow_succ, ← hpq]
    simp only [Nat.mul_comm, Nat.mul_left_comm, Nat.mul_assoc]
  have e4 : 2 ^ n * (4294967296 ^ i * (4294967296 * v)) = 2 ^ n * (4294967296 ^ (i + 1) * v) := by
    rw [Nat.pow_succ]
    simp only [Nat.mul_comm, Nat.mul_left_comm, Nat.mul_assoc]
  rw [e3, e4] at e2
  omega
theorem DownTo.total {m t : List Nat} {n : Nat} (h : DownTo m n m.length t) : val t = val m / 2 ^ n := by
  have hs := h.sum
  have hz : m.getD m.length 0 = 0 := by rw [List.getD_eq_getElem?_getD, List.getElem?_eq_none (by omega)]; rfl
  rw [hz, Nat.zero_div, Nat.mul_zero, Nat.add_zero, Nat.add_zero, ← val_valF m m.length (Nat.le_refl _)] at hs
  have hr : m.getD 0 0 % 2 ^ n < 2 ^ n := Nat.mod_lt _ (Nat.two_pow_pos n)
  rw [← hs, Nat.mul_add_div (Nat.two_pow_pos n), Nat.div_eq_of_lt hr, Nat.add_zero]

/-- The limbs from n on. -/
theorem val_drop_div {l : List Nat} (h : Ok l) (n : Nat) : val (l.drop n) = val l / 4294967296 ^ n := by
  rcases Nat.lt_or_ge l.length n with h1 | h1
  · rw [List.drop_eq_nil_iff.2 (by omega)]
    exact (Nat.div_eq_of_lt (Nat.lt_of_lt_of_le (val_lt h) (Nat.pow_le_pow_right (by decide) (by omega)))).symm
  · rw [val_split l n h1]
    have ht : val (l.take n) < 4294967296 ^ n := by
      have h2 := val_lt (h.take n)
      rwa [List.length_take, Nat.min_eq_left h1] at h2
    rw [Nat.add_comm, Nat.mul_add_div (Nat.pow_pos (by decide)), Nat.div_eq_of_lt ht, Nat.add_zero]
theorem pow_limb (k h : Nat) : 4294967296 ^ k * 2 ^ h = 2 ^ (32 * k + h) := by
  rw [Nat.pow_add, Nat.pow_mul]
end Go.Proofs.YtfjanomjmlcgaaaDoor
