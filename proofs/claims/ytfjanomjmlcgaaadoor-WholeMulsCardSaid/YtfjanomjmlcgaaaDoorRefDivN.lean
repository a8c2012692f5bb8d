/- Division bit by bit, as the document's reference has it: the numbers. No program in it. -/
import Derived.Test.YtfjanomjmlcgaaaDoorDivN
set_option linter.unusedVariables false
set_option linter.unusedSimpArgs false
namespace Go.Proofs.YtfjanomjmlcgaaaDoor

theorem val_set_add {t : List Nat} {i x y : Nat} (hy : t.getD i 0 = y) (hi : i < t.length) : val (t.set i (y + x)) = val t + 4294967296 ^ i * x := by
  induction t generalizing i with
  | nil => simp at hi
  | cons z l ih =>
    cases i with
    | zero => simp at hy; subst hy; simp [val_cons]; omega
    | succ i =>
      simp only [List.set_cons_succ, val_cons, List.getD_cons_succ, List.length_cons] at *
      rw [ih hy (by omega), Nat.pow_succ, Nat.mul_add]
      have : 4294967296 ^ i * 4294967296 * x = 4294967296 * (4294967296 ^ i * x) := by rw [Nat.mul_right_comm, Nat.mul_comm]
      omega

/-- What 'push' has done behind k limbs. -/
def PushTo (s : List Nat) (k more : Nat) (t : List Nat) (c : Nat) : Prop := AddMul s 0 k (seg s 0 k + more) t c
theorem PushTo.start {s : List Nat} (h : Ok s) (more : Nat) (hm : more < 4294967296) : PushTo s 0 more s more :=
  ⟨Part.refl h 0, hm, by rw [seg_zero]; simp⟩
theorem PushTo.step {s t : List Nat} {k more c : Nat} (h : PushTo s k more t c) (hk : k < s.length) (x d : Nat) (hx : x < 4294967296) (hd : d < 4294967296) (e : s.getD k 0 * 2 + c = x + 4294967296 * d) :
    PushTo s (k + 1) more (t.set k x) d := by
  have h1 := AddMul.step h (by omega) (s.getD k 0) x d hx hd (by rw [Nat.zero_add]; omega)
  rw [Nat.zero_add] at h1
  have e2 : seg s 0 (k + 1) + more = seg s 0 k + more + 4294967296 ^ k * s.getD k 0 := by rw [seg_succ, Nat.zero_add]; omega
  show AddMul s 0 (k + 1) (seg s 0 (k + 1) + more) (t.set k x) d
  rw [e2]
  exact h1
theorem PushTo.total {s t : List Nat} {more c : Nat} (h : PushTo s s.length more t c) (hf : 2 * val s + more < 4294967296 ^ s.length) : val t = 2 * val s + more ∧ Ok t ∧ t.length = s.length := by
  have h1 := h.sum
  rw [seg_all s _ (Nat.le_refl _), seg_all t _ (by rw [h.part.len]; exact Nat.le_refl _)] at h1
  refine ⟨?_, h.part.ok, h.part.len⟩
  have h2 : c = 0 := by
    rcases Nat.eq_zero_or_pos c with h0 | h0
    · exact h0
    · have : 4294967296 ^ s.length * 1 ≤ 4294967296 ^ s.length * c := Nat.mul_le_mul_left _ h0
      omega
  rw [h2] at h1
  omega

/-- What is known above place k. -/
structure RefTo (a b k : Nat) (r q : List Nat) : Prop where
  okr : Ok r
  okq : Ok q
  rest : val r = a / 2 ^ k % b
  quot : val q = a / 2 ^ k / b * 2 ^ k

theorem bit_split (a k : Nat) : a / 2 ^ k = 2 * (a / 2 ^ (k + 1)) + a / 2 ^ k % 2 := by
  rw [Nat.pow_succ, ← Nat.div_div_eq_div_mul]; omega
theorem RefTo.start {a b n j m : Nat} (h : a < 2 ^ n) : RefTo a b n (List.replicate j 0) (List.replicate m 0) := by
  refine ⟨Ok.replicate _, Ok.replicate _, ?_, ?_⟩ <;> rw [val_replicate, Nat.div_eq_of_lt h] <;> simp
theorem RefTo.pushed {a b k : Nat} {r q : List Nat} (h : RefTo a b (k + 1) r q) (hb : 0 < b) : 2 * val r + a / 2 ^ k % 2 < 2 * b := by
  rw [h.rest]
  have := Nat.mod_lt (a / 2 ^ (k + 1)) hb
  omega
theorem RefTo.less {a b k : Nat} {r q r1 : List Nat} (h : RefTo a b (k + 1) r q) (hb : 0 < b) (ok1 : Ok r1) (h1 : val r1 = 2 * val r + a / 2 ^ k % 2) (hlt : val r1 < b) : RefTo a b k r1 q := by
  have hs := bit_split a k
  have hd := Nat.div_add_mod (a / 2 ^ (k + 1)) b
  have e : a / 2 ^ k = b * (2 * (a / 2 ^ (k + 1) / b)) + val r1 := by
    rw [hs, h1, h.rest]
    have : b * (2 * (a / 2 ^ (k + 1) / b)) = 2 * (b * (a / 2 ^ (k + 1) / b)) := Nat.mul_left_comm ..
    omega
  refine ⟨ok1, h.okq, ?_, ?_⟩
  · rw [e, Nat.mul_add_mod, Nat.mod_eq_of_lt hlt]
  · rw [h.quot, e, Nat.mul_add_div hb, Nat.div_eq_of_lt hlt, Nat.add_zero, Nat.pow_succ]
    generalize a / (2 ^ k * 2) / b = z
    rw [Nat.mul_comm _ 2, ← Nat.mul_assoc, Nat.mul_comm z 2, Nat.add_zero]
theorem RefTo.more {a b k : Nat} {r q r1 r2 q2 : List Nat} (h : RefTo a b (k + 1) r q) (hb : 0 < b) (ok2 : Ok r2) (okq : Ok q2) (h1 : val r1 = 2 * val r + a / 2 ^ k % 2) (hge : b ≤ val r1) (h2 : val r2 = val r1 - b) (hq : val q2 = val q + 2 ^ k) : RefTo a b k r2 q2 := by
  have hs := bit_split a k
  have hd := Nat.div_add_mod (a / 2 ^ (k + 1)) b
  have hp := h.pushed hb
  have e : a / 2 ^ k = b * (2 * (a / 2 ^ (k + 1) / b) + 1) + val r2 := by
    rw [hs, h2, h1, h.rest]
    rw [h1, h.rest] at hge
    have : b * (2 * (a / 2 ^ (k + 1) / b) + 1) = 2 * (b * (a / 2 ^ (k + 1) / b)) + b := by rw [Nat.mul_add, Nat.mul_left_comm, Nat.mul_one]
    omega
  have hlt : val r2 < b := by omega
  refine ⟨ok2, okq, ?_, ?_⟩
  · rw [e, Nat.mul_add_mod, Nat.mod_eq_of_lt hlt]
  · rw [hq, h.quot, e, Nat.mul_add_div hb, Nat.div_eq_of_lt hlt, Nat.pow_succ]
    generalize a / (2 ^ k * 2) / b = z
    rw [Nat.mul_comm _ 2, ← Nat.mul_assoc, Nat.mul_comm z 2, Nat.add_zero, Nat.add_mul, Nat.one_mul]
theorem RefTo.total {a b : Nat} {r q : List Nat} (h : RefTo a b 0 r q) : val q = a / b ∧ val r = a % b := by
  have h1 := h.rest
  have h2 := h.quot
  simp only [Nat.pow_zero, Nat.div_one, Nat.mul_one] at h1 h2
  exact ⟨h2, h1⟩

theorem limb_pow (j h : Nat) : 4294967296 ^ j * 2 ^ h = 2 ^ (32 * j + h) := by
  rw [Nat.pow_add, Nat.pow_mul]

/-- The limb in which the quotient's next bit is set has room for it. -/
theorem limb_room {q : List Nat} {j h m : Nat} (hok : Ok q) (hj : j < q.length) (hh : h < 32) (hv : val q = m * 2 ^ (32 * j + h + 1)) : q.getD j 0 + 2 ^ h < 4294967296 := by
  have h1 : val (q.drop j) = m * 2 ^ (h + 1) := by
    rw [val_drop_div hok, hv]
    have e : (4294967296 : Nat) ^ j = 2 ^ (32 * j) := by rw [Nat.pow_mul]
    rw [e, show 32 * j + h + 1 = (h + 1) + 32 * j by omega, Nat.pow_add, ← Nat.mul_assoc, Nat.mul_div_cancel _ (Nat.two_pow_pos _)]
  rw [val_drop q j hj] at h1
  have h2 := hok.getD j
  obtain ⟨k, hk⟩ : ∃ k, h + 1 + k = 32 := ⟨31 - h, by omega⟩
  have e2 : (4294967296 : Nat) = 2 ^ (h + 1) * 2 ^ k := by rw [← Nat.pow_add, hk]
  have hdvd : 2 ^ (h + 1) ∣ q.getD j 0 := by
    have d1 : 2 ^ (h + 1) ∣ q.getD j 0 + 4294967296 * val (q.drop (j + 1)) := by rw [h1]; exact Nat.dvd_mul_left _ _
    have d2 : 2 ^ (h + 1) ∣ 4294967296 * val (q.drop (j + 1)) := by rw [e2, Nat.mul_assoc]; exact Nat.dvd_mul_right _ _
    exact (Nat.dvd_add_iff_left d2).2 d1
  obtain ⟨c, hc⟩ := hdvd
  rw [hc] at h2 ⊢
  have h3 : c < 2 ^ k := by rw [e2] at h2; exact Nat.lt_of_mul_lt_mul_left h2
  have h4 : 2 ^ (h + 1) * (c + 1) ≤ 2 ^ (h + 1) * 2 ^ k := Nat.mul_le_mul_left _ h3
  rw [← e2, Nat.mul_succ] at h4
  have h5 : 2 ^ (h + 1) = 2 * 2 ^ h := by rw [Nat.pow_succ, Nat.mul_comm]
  have := Nat.two_pow_pos h
  omega
end Go.Proofs.YtfjanomjmlcgaaaDoor
