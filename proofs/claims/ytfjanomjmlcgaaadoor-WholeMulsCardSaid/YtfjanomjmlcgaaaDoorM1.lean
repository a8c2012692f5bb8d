/- Both greatest common divisors by their contracts. -/
import Derived.Test.YtfjanomjmlcgaaaDoorDivN
import Derived.Test.YtfjanomjmlcgaaaDoorInt1
import Derived.Test.YtfjanomjmlcgaaaDoorLong
import Derived.Test.YtfjanomjmlcgaaaDoorMul
import Derived.Test.YtfjanomjmlcgaaaDoorFrame
import Derived.Deep.RegionHeld3
import Derived.Test.YtfjanomjmlcgaaaDoorDivMod
import Derived.Test.YtfjanomjmlcgaaaDoorRefDiv
set_option linter.unusedVariables false
set_option linter.unusedSimpArgs false
namespace Go.Proofs.YtfjanomjmlcgaaaDoor

/-- A sign, as the number of steps says it. -/
def sgn (odd : Bool) : Int := if odd then -1 else 1
theorem sgn_sq (o : Bool) : sgn o * sgn o = 1 := by cases o <;> rfl
theorem sgn_not (o : Bool) : sgn (!o) = -sgn o := by cases o <;> rfl
theorem sgn_cases (o : Bool) : sgn o = 1 ∨ sgn o = -1 := by cases o <;> simp [sgn]

/-- What is known at the head of each round: of the highest digits X and Y of A and B (P a power of two, al and be what stands below). -/
structure Look (A B X Y P : Nat) (x y aa ab ba bb na nb : Nat) (o : Bool) : Prop where
  le : y ≤ x
  sumX : x * nb + y * bb = X
  sumY : x * na + y * ba = Y
  eqx : (x : Int) = sgn o * ((ba : Int) * X - bb * Y)
  eqy : (y : Int) = -(sgn o * ((na : Int) * X - nb * Y))
  det : sgn o * ((ba : Int) * nb - bb * na) = 1
  nle : na ≤ nb
  sle : ba + na ≤ bb + nb
  pos : 0 < nb
  smalls : aa < 4294967296 ∧ ab < 4294967296 ∧ ba < 4294967296 ∧ bb < 4294967296
  low : 0 < bb → sgn o * ((ba : Int) * A - bb * B) ≤ B
  fit : 0 < ab → 0 < bb ∧ 0 ≤ sgn o * ((ba : Int) * A - bb * B) ∧ sgn o * ((ba : Int) * A - bb * B) < -(sgn o * ((aa : Int) * A - ab * B)) ∧ -(sgn o * ((aa : Int) * A - ab * B)) ≤ B ∧ -(sgn o * ((aa : Int) * bb - ab * ba)) = 1
  nxt : 0 < bb → ab = 0 → aa * bb = 1 ∧ ba = 0

theorem Look.start {A B X Y P : Nat} (h : Y ≤ X) : Look A B X Y P X Y 0 0 1 0 0 1 false := by
  refine ⟨h, by omega, by omega, by simp [sgn], by simp [sgn], by simp [sgn], by omega, by omega, by omega, by omega, fun h => absurd h (by omega), fun h => absurd h (by omega), fun h => absurd h (by omega)⟩

/-- Two products of numbers below P, one of them taken. -/
theorem pair_bound {u v al be P : Nat} (hal : al < P) (hbe : be < P) (h : u ≤ v) (s : Int) (hs : s = 1 ∨ s = -1) (hv : 0 < v) : -((v : Int) * P) < s * ((u : Int) * al - v * be) := by
  have h1 : u * al ≤ v * al := Nat.mul_le_mul_right _ h
  have h2 : v * al < v * P := Nat.mul_lt_mul_of_pos_left hal hv
  have h3 : v * be < v * P := Nat.mul_lt_mul_of_pos_left hbe hv
  have e1 : ((u : Int) * al) = ((u * al : Nat) : Int) := (Int.natCast_mul ..).symm
  have e2 : ((v : Int) * be) = ((v * be : Nat) : Int) := (Int.natCast_mul ..).symm
  have e3 : ((v : Int) * P) = ((v * P : Nat) : Int) := (Int.natCast_mul ..).symm
  rw [e1, e2, e3]
  generalize u * al = a at *
  generalize v * be = b at *
  generalize v * P = c at *
  rcases hs with rfl | rfl <;> omega

/-- A round, where its condition holds. -/
theorem Look.step {A B X Y P al be : Nat} {x y aa ab ba bb na nb q r : Nat} {o : Bool} (h : Look A B X Y P x y aa ab ba bb na nb o) (hX : X < 18446744073709551616)
    (hA : A = X * P + al) (hB : B = Y * P + be) (hal : al < P) (hbe : be < P) (h1 : nb ≤ y) (h2 : bb + nb ≤ x - y) (hq : x = y * q + r) (hr : r < y) :
    Look A B X Y P y r ba bb na nb (ba + q * na) (bb + q * nb) (!o) := by
  have hq1 : 1 ≤ q := by
    rcases Nat.eq_zero_or_pos q with h0 | h0
    · subst h0; have := h.pos; omega
    · exact h0
  have hP : 0 < P := by omega
  have hpos := h.pos
  have hle := h.le
  have hsx := h.sumX
  have hsy := h.sumY
  have hnn : nb < 4294967296 := by
    have : nb * nb ≤ x * nb := Nat.mul_le_mul_right _ (by omega)
    rcases Nat.lt_or_ge nb 4294967296 with h3 | h3
    · exact h3
    · have := Nat.mul_le_mul h3 h3; omega
  have hs := sgn_cases o
  have hex := h.eqx
  have hey := h.eqy
  have hdet := h.det
  obtain ⟨s, hs'⟩ : ∃ s, sgn o = s := ⟨_, rfl⟩
  have hnle := h.nle
  have hsle := h.sle
  have hlow := h.low
  have hnxt := h.nxt
  have hfit := h.fit
  have hqn : nb ≤ q * nb := Nat.le_mul_of_pos_left _ hq1
  have hqna : ba + q * na ≤ bb + q * nb := by
    obtain ⟨k, rfl⟩ : ∃ k, q = k + 1 := ⟨q - 1, by omega⟩
    have := Nat.mul_le_mul_left k hnle
    rw [Nat.succ_mul, Nat.succ_mul]
    omega
  -- the numbers themselves
  have eA : (A : Int) = X * P + al := by rw [hA]; simp
  have eB : (B : Int) = Y * P + be := by rw [hB]; simp
  have R1 : -(sgn o * ((na : Int) * A - nb * B)) = (y : Int) * P + -(sgn o) * ((na : Int) * al - nb * be) := by
    rw [hey, eA, eB]; grind
  have R0 : sgn o * ((ba : Int) * A - bb * B) + sgn o * ((na : Int) * A - nb * B) = ((x : Int) - y) * P + sgn o * (((ba + na : Nat) : Int) * al - ((bb + nb : Nat) : Int) * be) := by
    rw [hex, hey, eA, eB]; simp only [Int.natCast_add]; grind
  have b1 := pair_bound hal hbe hnle (-(sgn o)) (by rcases hs with h | h <;> rw [h] <;> simp) hpos
  have b2 := pair_bound (u := ba + na) (v := bb + nb) hal hbe hsle (sgn o) hs (by omega)
  have p1 : (nb : Int) * P ≤ (y : Int) * P := Int.mul_le_mul_of_nonneg_right (by omega) (by omega)
  have p2 : ((bb + nb : Nat) : Int) * P ≤ ((x : Int) - y) * P := Int.mul_le_mul_of_nonneg_right (by omega) (by omega)
  have g1 : 0 < -(sgn o * ((na : Int) * A - nb * B)) := by rw [R1]; omega
  have g2 : -(sgn o * ((na : Int) * A - nb * B)) < sgn o * ((ba : Int) * A - bb * B) := by omega
  have lowN : -(sgn o * ((na : Int) * A - nb * B)) ≤ B := by
    rcases Nat.eq_zero_or_pos bb with h0 | h0
    · -- the first round: the next one is B itself
      subst h0
      simp only [Int.natCast_zero, Int.zero_mul, Int.sub_zero] at hdet hex g2
      have hd : ba = 1 ∧ nb = 1 ∧ sgn o = 1 := by
        have hz : sgn o * ((ba : Int) * nb) = 1 := hdet
        rcases hs with h3 | h3
        · rw [h3, Int.one_mul] at hz
          have hz' : ba * nb = 1 := by rw [← Int.natCast_mul] at hz; omega
          exact ⟨Nat.eq_one_of_mul_eq_one_right hz', Nat.eq_one_of_mul_eq_one_left hz', h3⟩
        · rw [h3, ← Int.natCast_mul] at hz; omega
      obtain ⟨rfl, rfl, h5⟩ := hd
      have : na = 0 := by omega
      subst this
      rw [h5]
      simp
    · have := hlow h0; omega
  refine ⟨by omega, ?_, ?_, ?_, ?_, ?_, by omega, by omega, by omega, ⟨h.smalls.2.2.1, h.smalls.2.2.2, by omega, hnn⟩, fun _ => ?_, fun h3 => ?_, fun _ h3 => ?_⟩
  · rw [Nat.mul_add, ← hsx, hq, Nat.add_mul]
    have : y * (q * nb) = y * q * nb := (Nat.mul_assoc ..).symm
    omega
  · rw [Nat.mul_add, ← hsy, hq, Nat.add_mul]
    have : y * (q * na) = y * q * na := (Nat.mul_assoc ..).symm
    omega
  · rw [sgn_not, hey]; grind
  · have e : (r : Int) = x - y * q := by rw [hq]; simp; omega
    rw [sgn_not, e, hex, hey]; simp only [Int.natCast_add, Int.natCast_mul]; grind
  · rw [sgn_not]; simp only [Int.natCast_add, Int.natCast_mul]; grind
  · rw [sgn_not]; have := lowN; grind
  · rw [sgn_not]
    refine ⟨hpos, by grind, by grind, ?_, by grind⟩
    have := hlow h3
    grind
  · subst h3
    simp only [Int.natCast_zero, Int.zero_mul, Int.sub_zero] at hdet
    have hz : ba * nb = 1 := by
      have hz : sgn o * ((ba : Int) * nb) = 1 := hdet
      rcases hs with h3 | h3
      · rw [h3, Int.one_mul, ← Int.natCast_mul] at hz; omega
      · rw [h3, ← Int.natCast_mul] at hz; omega
    refine ⟨hz, ?_⟩
    have := Nat.eq_one_of_mul_eq_one_right hz
    have := Nat.eq_one_of_mul_eq_one_left hz
    omega

/-- What the steps make of both numbers. -/
structure Steps (A B aa ab ba bb : Nat) (o : Bool) (a b : Nat) : Prop where
  eqa : if o then a + ab * B = aa * A else a + aa * A = ab * B
  eqb : if o then b + ba * A = bb * B else b + bb * B = ba * A
  lt : b < a
  le : a ≤ B
  gcd : Nat.gcd a b = Nat.gcd A B

theorem gcd_of {A B a b p q r s p' q' r' s' : Nat} (h1 : A = p * a + q * b) (h2 : B = r * a + s * b) (h3 : a + q' * B = p' * A) (h4 : b + r' * A = s' * B) : Nat.gcd a b = Nat.gcd A B := by
  apply Nat.dvd_antisymm
  · have da := Nat.gcd_dvd_left a b
    have db := Nat.gcd_dvd_right a b
    apply Nat.dvd_gcd
    · rw [h1]; exact Nat.dvd_add (Nat.dvd_mul_left_of_dvd da _) (Nat.dvd_mul_left_of_dvd db _)
    · rw [h2]; exact Nat.dvd_add (Nat.dvd_mul_left_of_dvd da _) (Nat.dvd_mul_left_of_dvd db _)
  · have da := Nat.gcd_dvd_left A B
    have db := Nat.gcd_dvd_right A B
    apply Nat.dvd_gcd
    · refine (Nat.dvd_add_iff_left (Nat.dvd_mul_left_of_dvd db q')).2 ?_
      rw [h3]; exact Nat.dvd_mul_left_of_dvd da _
    · refine (Nat.dvd_add_iff_left (Nat.dvd_mul_left_of_dvd da r')).2 ?_
      rw [h4]; exact Nat.dvd_mul_left_of_dvd db _

theorem Look.apply {A B X Y P x y aa ab ba bb na nb : Nat} {o : Bool} (h : Look A B X Y P x y aa ab ba bb na nb o) (hab : 0 < ab) : ∃ a b, Steps A B aa ab ba bb o a b := by
  obtain ⟨hbb, f1, f2, f3, f4⟩ := h.fit hab
  obtain ⟨b, hb⟩ := Int.eq_ofNat_of_zero_le f1
  obtain ⟨a, ha⟩ := Int.eq_ofNat_of_zero_le (show 0 ≤ -(sgn o * ((aa : Int) * A - ab * B)) by omega)
  rw [hb, ha] at f2
  rw [ha] at f3
  cases o with
  | true =>
    simp only [sgn, if_true] at hb ha f4
    have e1 : a + ab * B = aa * A := by
      have : (a : Int) + ab * B = aa * A := by grind
      rw [← Int.natCast_mul, ← Int.natCast_mul] at this; omega
    have e2 : b + ba * A = bb * B := by
      have : (b : Int) + ba * A = bb * B := by grind
      rw [← Int.natCast_mul, ← Int.natCast_mul] at this; omega
    have e3 : A = bb * a + ab * b := by
      have : (A : Int) = bb * a + ab * b := by grind
      rw [← Int.natCast_mul, ← Int.natCast_mul] at this; omega
    have e4 : B = ba * a + aa * b := by
      have : (B : Int) = ba * a + aa * b := by grind
      rw [← Int.natCast_mul, ← Int.natCast_mul] at this; omega
    exact ⟨a, b, by simpa using e1, by simpa using e2, by omega, by omega, gcd_of e3 e4 e1 e2⟩
  | false =>
    simp only [sgn] at hb ha f4
    have e1 : a + aa * A = ab * B := by
      have : (a : Int) + aa * A = ab * B := by grind
      rw [← Int.natCast_mul, ← Int.natCast_mul] at this; omega
    have e2 : b + bb * B = ba * A := by
      have : (b : Int) + bb * B = ba * A := by grind
      rw [← Int.natCast_mul, ← Int.natCast_mul] at this; omega
    have e3 : A = bb * a + ab * b := by
      have : (A : Int) = bb * a + ab * b := by grind
      rw [← Int.natCast_mul, ← Int.natCast_mul] at this; omega
    have e4 : B = ba * a + aa * b := by
      have : (B : Int) = ba * a + aa * b := by grind
      rw [← Int.natCast_mul, ← Int.natCast_mul] at this; omega
    refine ⟨a, b, by simpa using e1, by simpa using e2, by omega, by omega, ?_⟩
    rw [Nat.gcd_comm A B]
    exact gcd_of (p := ba) (q := aa) (r := bb) (s := ab) e4 e3 e1 e2

/-- No sum or product of a round leaves 64 bits. -/
theorem Look.fits {A B X Y P x y aa ab ba bb na nb q r : Nat} {o : Bool} (h : Look A B X Y P x y aa ab ba bb na nb o) (hX : X < 18446744073709551616) (h1 : nb ≤ y) (hq : x = y * q + r) :
    bb + nb < 18446744073709551616 ∧ q * na ≤ q * nb ∧ bb + q * nb < 18446744073709551616 ∧ ba + q * na < 18446744073709551616 + 18446744073709551616 := by
  have hs := h.sumX
  have hp := h.pos
  have hle := h.le
  have hy : 0 < y := by omega
  have e1 : bb ≤ y * bb := Nat.le_mul_of_pos_left _ hy
  have e2 : nb ≤ x * nb := Nat.le_mul_of_pos_left _ (by omega)
  have e3 : y * (q * nb) ≤ x * nb := by rw [hq, Nat.add_mul, Nat.mul_assoc]; omega
  have e4 : q * nb ≤ y * (q * nb) := Nat.le_mul_of_pos_left _ hy
  have e5 := Nat.mul_le_mul_left q h.nle
  have e6 := h.smalls.2.2.1
  refine ⟨by omega, e5, by omega, by omega⟩

/-- What 'combine' has done behind i limbs: PL and MI are what was told of both products. -/
structure CombTo (a b : List Nat) (m n i : Nat) (t : List Nat) (p q c : Nat) : Prop where
  lp : p < 4294967296
  lq : q < 4294967296
  lc : c ≤ 1
  len : t.length = a.length
  ok : Ok t
  sum : ∃ pl mi, pl + 4294967296 ^ i * p = valF (fun j => a.getD j 0) i * m ∧ mi + 4294967296 ^ i * q = valF (fun j => b.getD j 0) i * n ∧ seg t 0 i + mi = pl + 4294967296 ^ i * c
theorem CombTo.start (a b : List Nat) (m n : Nat) : CombTo a b m n 0 (List.replicate a.length 0) 0 0 0 :=
  ⟨by omega, by omega, by omega, by simp, Ok.replicate _, 0, 0, by simp [valF], by simp [valF], by simp [seg_zero]⟩
theorem CombTo.step {a b t : List Nat} {m n i p q c lo1 p' lo2 q' x c' : Nat} (h : CombTo a b m n i t p q c) (hi : i < a.length) (hp : p' < 4294967296) (hq : q' < 4294967296) (hx : x < 4294967296) (hc : c' ≤ 1)
    (e1 : p + a.getD i 0 * m = lo1 + 4294967296 * p') (e2 : q + b.getD i 0 * n = lo2 + 4294967296 * q') (e3 : lo1 + 4294967296 * c' = x + lo2 + c) : CombTo a b m n (i + 1) (t.set i x) p' q' c' := by
  obtain ⟨pl, mi, h1, h2, h3⟩ := h.sum
  refine ⟨hp, hq, hc, by rw [List.length_set]; exact h.len, h.ok.set _ _ hx, pl + 4294967296 ^ i * lo1, mi + 4294967296 ^ i * lo2, ?_, ?_, ?_⟩
  · simp only [valF]
    rw [Nat.add_mul, Nat.mul_assoc _ (a.getD i 0), ← h1, Nat.pow_succ, Nat.mul_assoc]
    have := congrArg (4294967296 ^ i * ·) e1
    simp only [Nat.mul_add] at this
    omega
  · simp only [valF]
    rw [Nat.add_mul, Nat.mul_assoc _ (b.getD i 0), ← h2, Nat.pow_succ, Nat.mul_assoc]
    have := congrArg (4294967296 ^ i * ·) e2
    simp only [Nat.mul_add] at this
    omega
  · have hs := seg_set t 0 i x (by rw [Nat.zero_add, h.len]; exact hi)
    rw [Nat.zero_add] at hs
    rw [hs, Nat.pow_succ, Nat.mul_assoc]
    have := congrArg (4294967296 ^ i * ·) e3
    simp only [Nat.mul_add] at this
    omega
theorem CombTo.total {a b t : List Nat} {m n p q c d : Nat} (h : CombTo a b m n a.length t p q c) (hl : b.length = a.length) (hd : d < 4294967296 ^ a.length) (k : Nat) (e : d + val b * n + 4294967296 ^ a.length * k = val a * m ∨ d + val b * n = val a * m + 4294967296 ^ a.length * k) : val t = d := by
  obtain ⟨pl, mi, h1, h2, h3⟩ := h.sum
  rw [← val_valF a a.length (Nat.le_refl _)] at h1
  rw [← val_valF b a.length (by omega)] at h2
  rw [seg_all t _ (by rw [h.len]; exact Nat.le_refl _)] at h3
  have ht := val_lt h.ok
  rw [h.len] at ht
  generalize 4294967296 ^ a.length = M at *
  have key : ∀ u v : Nat, val t + M * u = d + M * v → val t = d := fun u v hh => by
    have h5 := congrArg (· % M) hh
    simp only [Nat.add_mul_mod_self_left] at h5
    rwa [Nat.mod_eq_of_lt ht, Nat.mod_eq_of_lt hd] at h5
  rcases e with e | e
  · refine key p (q + c + k) ?_
    simp only [Nat.mul_add]
    omega
  · refine key (p + k) (q + c) ?_
    simp only [Nat.mul_add]
    omega

/-- 64 digits of a number, from a place on. -/
theorem word_at {l : List Nat} (hok : Ok l) (i n k l0 l1 l2 : Nat) (hnk : n + k = 64) (hn : n < 32) (h0 : l.getD i 0 = l0) (h1 : l.getD (i + 1) 0 = l1) (h2 : l.getD (i + 2) 0 = l2) :
    ∃ c h : Nat, c < 18446744073709551616 ∧ h < 18446744073709551616 ∧ (l0 + l1 * 4294967296) / 2 ^ n = c ∧ l2 * 2 ^ k % 18446744073709551616 = h ∧ (c ||| h) = val l / 2 ^ (32 * i + n) % 18446744073709551616 := by
  have b0 : l0 < 4294967296 := by rw [← h0]; exact hok.getD i
  have b1 : l1 < 4294967296 := by rw [← h1]; exact hok.getD (i + 1)
  have b2 : l2 < 4294967296 := by rw [← h2]; exact hok.getD (i + 2)
  have hpq : 2 ^ n * 2 ^ k = 18446744073709551616 := by rw [← Nat.pow_add, hnk]
  have hn0 := Nat.two_pow_pos n
  have hc : (l0 + l1 * 4294967296) / 2 ^ n < 2 ^ k := Nat.div_lt_of_lt_mul (by rw [hpq]; omega)
  have hk64 : 2 ^ k ≤ 18446744073709551616 := by
    have : 2 ^ k ≤ 2 ^ 64 := Nat.pow_le_pow_right (by decide) (by omega)
    simpa using this
  have eh : l2 * 2 ^ k % 18446744073709551616 = 2 ^ k * (l2 % 2 ^ n) := by
    rw [← hpq, Nat.mul_comm l2, Nat.mul_comm (2 ^ n), Nat.mul_mod_mul_left]
  have hor := Nat.two_pow_add_eq_or_of_lt hc (l2 % 2 ^ n)
  have hm : l2 % 2 ^ n < 2 ^ n := Nat.mod_lt _ hn0
  have hhl : 2 ^ k * (l2 % 2 ^ n) < 18446744073709551616 := by
    rw [← hpq, Nat.mul_comm (2 ^ n)]
    exact Nat.mul_lt_mul_of_pos_left hm (Nat.two_pow_pos k)
  refine ⟨_, _, by omega, by rw [eh]; exact hhl, rfl, rfl, ?_⟩
  rw [eh, Nat.or_comm, ← hor]
  -- the number itself
  have hd : val (l.drop i) = (l0 + l1 * 4294967296) + 18446744073709551616 * (l2 + 4294967296 * val (l.drop (i + 3))) := by
    have step : ∀ j, val (l.drop j) = l.getD j 0 + 4294967296 * val (l.drop (j + 1)) := fun j => by
      rcases Nat.lt_or_ge j l.length with h | h
      · exact val_drop l j h
      · rw [List.drop_eq_nil_iff.2 h, List.drop_eq_nil_iff.2 (by omega), List.getD_eq_getElem?_getD, List.getElem?_eq_none h]; rfl
    rw [step i, step (i + 1), step (i + 2), h0, h1, h2]
    have : i + 2 + 1 = i + 3 := rfl
    rw [this]
    omega
  have e1 : val l / 2 ^ (32 * i + n) = val (l.drop i) / 2 ^ n := by
    rw [val_drop_div hok, Nat.pow_add, Nat.pow_mul, Nat.div_div_eq_div_mul]
  rw [e1, hd]
  generalize val (l.drop (i + 3)) = W
  generalize l0 + l1 * 4294967296 = L at *
  have e2 : L + 18446744073709551616 * (l2 + 4294967296 * W) = L + 2 ^ n * (2 ^ k * (l2 + 4294967296 * W)) := by rw [← hpq, Nat.mul_assoc]
  rw [e2, Nat.add_mul_div_left _ _ hn0]
  obtain ⟨m, hm'⟩ : ∃ m, n + m = 32 := ⟨32 - n, by omega⟩
  have e3 : (l2 + 4294967296 * W) % 2 ^ n = l2 % 2 ^ n := by
    have : (4294967296 : Nat) = 2 ^ n * 2 ^ m := by rw [← Nat.pow_add, hm']
    rw [this, Nat.mul_assoc, Nat.add_mul_mod_self_left]
  have e4 : 2 ^ k * (l2 + 4294967296 * W) % 18446744073709551616 = 2 ^ k * (l2 % 2 ^ n) := by
    rw [← hpq, Nat.mul_comm (2 ^ n), Nat.mul_mod_mul_left, e3]
  rw [Nat.add_mod, e4]
  have hs : L / 2 ^ n + 2 ^ k * (l2 % 2 ^ n) < 18446744073709551616 := by
    have h5 : 2 ^ k * (l2 % 2 ^ n + 1) ≤ 2 ^ k * 2 ^ n := Nat.mul_le_mul_left _ hm
    rw [Nat.mul_comm (2 ^ k) (2 ^ n), hpq, Nat.mul_succ] at h5
    omega
  rw [Nat.mod_eq_of_lt (show L / 2 ^ n < 18446744073709551616 by omega), Nat.mod_eq_of_lt hs]
  omega
end Go.Proofs.YtfjanomjmlcgaaaDoor

set_option linter.unusedVariables false
set_option linter.unusedSimpArgs false
namespace Go.Proofs.YtfjanomjmlcgaaaDoor
open Go.RowKit

theorem nat_wordGcd (x y : Nat) (hx : x < 18446744073709551616) (hy : y < 18446744073709551616) (w : World) :
    Calls Tryd.prog 68 #[.int .u64 x, .int .u64 y] w fun e w' => e = .returned (.int .u64 (Nat.gcd x y : Nat)) ∧ Below w.heap.size w w' := by
  go_enter Tryd.func68, Tryd.ntmps68
  go_wp2
  go_loopg [0, 1] y (fun g v0 v1 wr => ∃ p q : Nat, v0 = .int .u64 p ∧ v1 = .int .u64 q ∧ Hid (q = g) ∧ p < 18446744073709551616 ∧ q < 18446744073709551616 ∧ Hid (Nat.gcd p q = Nat.gcd x y) ∧ Hid (Below w.heap.size w wr))
  case atStart => exact ⟨x, y, rfl, rfl, rfl, hx, hy, rfl, Below.refl _ _⟩
  case round =>
    obtain ⟨p, q, rfl, rfl, hgk, hp, hq, hgcd, hbel⟩ := hrel
    rcases Nat.eq_zero_or_pos q with h0 | h0
    · subst h0
      have hg := hgcd.out
      rw [Nat.gcd_zero_right] at hg
      have HG := hid hg
      clear hg hgcd hgk
      go_wp2
      go_ret
      exact ⟨by rw [HG.out]; rfl, hbel.out⟩
    · obtain ⟨r, hr⟩ : ∃ r, r = p % q := ⟨_, rfl⟩
      have er1 : (p : Int) % (q : Int) = (r : Int) := by rw [hr]; exact (Int.natCast_emod _ _).symm
      have er2 : Int.tmod (p : Int) (q : Int) = (r : Int) := by rw [Int.tmod_eq_emod_of_nonneg (by omega)]; exact er1
      have hrq : r < q := by rw [hr]; exact Nat.mod_lt _ h0
      have ew2 : IntKind.u64.wrap (r : Int) = (r : Int) := by rw [IntKind.wrap_u64]; omega
      have hy0 : ¬ (q : Int) = 0 := by omega
      have hg2 : Nat.gcd q r = Nat.gcd x y := by rw [hr, Nat.gcd_comm, ← Nat.gcd_rec, Nat.gcd_comm]; exact hgcd.out
      have HG := hid hg2
      clear hr hg2 hgcd
      go_wp2
      go_region
      all_goals
        go_wp2
        go_roundg r
        case rel => exact ⟨q, r, rfl, rfl, rfl, hq, by omega, HG, by first | exact hbel | exact hbel.out.drew⟩
        case measure => have := hgk.out; omega

set_option maxRecDepth 100000 in
set_option maxHeartbeats 1000000 in
theorem nat_wordAt (v : Value) (l : List Nat) (p i n : Nat) (w : World) (h : Sees w v l) (hp : p = 32 * i + n) (hn : n < 32) (hi : i ≤ 1000000000000) :
    Calls Tryd.prog 51 #[v, .int .i64 p] w fun e w' => e = .returned (.int .u64 (val l / 2 ^ p % 18446744073709551616 : Nat)) ∧ w = w' := by
  obtain ⟨k, hk⟩ : ∃ k, n + k = 64 := ⟨64 - n, by omega⟩
  obtain ⟨l0, h0⟩ : ∃ z, l.getD i 0 = z := ⟨_, rfl⟩
  obtain ⟨l1, h1⟩ : ∃ z, l.getD (i + 1) 0 = z := ⟨_, rfl⟩
  obtain ⟨l2, h2⟩ : ∃ z, l.getD (i + 2) 0 = z := ⟨_, rfl⟩
  have b0 := h.ok.getD i
  have b1 := h.ok.getD (i + 1)
  have b2 := h.ok.getD (i + 2)
  rw [h0] at b0; rw [h1] at b1; rw [h2] at b2
  obtain ⟨c, g, hc, hg, e1, e2, e3⟩ := word_at h.ok i n k l0 l1 l2 hk hn h0 h1 h2
  obtain ⟨R, hR⟩ : ∃ R, val l / 2 ^ p % 18446744073709551616 = R := ⟨_, rfl⟩
  rw [← hp, hR] at e3
  have HC0 := hid (nat_limbAt v l i l0 w h (by omega) h0)
  have C1 := nat_limbAt v l (i + 1) l1 w h (by omega) h1
  have C2 := nat_limbAt v l (i + 2) l2 w h (by omega) h2
  have HC1 := hid C1; have HC2 := hid C2
  have ei : Int.tdiv (p : Int) 32 = (i : Int) := by rw [Int.tdiv_eq_ediv_of_nonneg (by omega)]; omega
  have en : Int.tmod (p : Int) 32 = (n : Int) := by rw [Int.tmod_eq_emod_of_nonneg (by omega)]; omega
  have wi : IntKind.i64.wrap (i : Int) = (i : Int) := by rw [IntKind.wrap_i64]; omega
  have wn : IntKind.i64.wrap (n : Int) = (n : Int) := by rw [IntKind.wrap_i64]; omega
  have wnu : IntKind.u64.wrap (n : Int) = (n : Int) := by rw [IntKind.wrap_u64]; omega
  obtain ⟨Y, hY⟩ : ∃ Y, Y = l1 * 4294967296 := ⟨_, rfl⟩
  obtain ⟨T, hT⟩ : ∃ T, T = l0 + Y := ⟨_, rfl⟩
  have f1 : IntKind.u64.wrap ((l1 : Int) * 4294967296) = (Y : Int) := by rw [IntKind.wrap_u64]; omega
  have f2 : bits .or .u64 (l0 : Int) (Y : Int) = (T : Int) := by
    rw [u64_or_nat l0 Y (by omega) (by omega), hY, or_limbs l0 l1 b0, ← hY, ← hT]
  have f3 : (T : Int) / 2 ^ n = (c : Int) := by
    rw [← e1, hT, hY, Int.natCast_ediv, Int.natCast_pow]; rfl
  have ek : (64 : Int) - (n : Int) = (k : Int) := by omega
  have f4 : IntKind.u64.wrap ((l2 : Int) * 2 ^ k) = (g : Int) := by
    rw [IntKind.wrap_u64, ← e2]
    simp
  have emin : min k 64 = k := Nat.min_eq_left (by omega)
  have f5 : bits .or .u64 (c : Int) (g : Int) = (R : Int) := by
    rw [u64_or_nat c g hc hg, e3]
  have HR := hid hR
  clear h h0 h1 h2 hp e1 e2 e3 hR hY hT C1 C2
  go_enter Tryd.func51, Tryd.ntmps51
  go_wp2_with fail
  refine HC0.out.mono ?_
  rintro e w' ⟨rfl, rfl⟩
  go_wp2_with fail
  refine HC1.out.mono ?_
  rintro e w' ⟨rfl, rfl⟩
  go_wp2_with fail
  refine HC2.out.mono ?_
  rintro e w' ⟨rfl, rfl⟩
  clear HC0 HC1 HC2
  go_wp2
  go_ret
  exact ⟨by rw [HR.out]; rfl, rfl⟩
end Go.Proofs.YtfjanomjmlcgaaaDoor

set_option linter.unusedVariables false
set_option linter.unusedSimpArgs false
namespace Go.Proofs.YtfjanomjmlcgaaaDoor
open Go.RowKit

set_option maxRecDepth 100000 in
set_option maxHeartbeats 2000000 in
theorem nat_combine (A B : Option Addr) (ca cb m n d k : Nat) (a b : List Nat) (w : World) (ha : Sees w (.slice A a.length ca) a) (hb : Sees w (.slice B a.length cb) b) (hm : m < 4294967296) (hn : n < 4294967296) (hl : a.length ≤ 35184372088832)
    (hd : d < 4294967296 ^ a.length) (e : d + val b * n + 4294967296 ^ a.length * k = val a * m ∨ d + val b * n = val a * m + 4294967296 ^ a.length * k) :
    Calls Tryd.prog 96 #[.slice A a.length ca, .int .u64 m, .slice B a.length cb, .int .u64 n] w fun e w' => IsNum w d e w' := by
  have HA := hid ha; have HB := hid hb
  have hbl : b.length = a.length := hb.len_eq.1.symm
  have HBLEN := hid hbl
  have HD := hid hd; have HE := hid e
  clear ha hb hd e hbl
  go_enter Tryd.func96, Tryd.ntmps96
  have hmk := run_make_row' (P := Tryd.prog) 22 57 (.int .u32 0) 4 Tryd.underlying22 info_u32 rfl .i64 .i64 a.length (by omega) (by omega)
  obtain ⟨w1, hw1⟩ : ∃ w1, w1 = w.alloc (.cells (madeCells #[Value.int .u32 0] a.length) 57) := ⟨_, rfl⟩
  have hbel : Below w.heap.size w w1 := by rw [hw1]; exact (Below.refl _ w).alloc (Nat.le_refl _) _
  have hrow0 : Row w1 w.heap.size (List.replicate a.length 0) := by rw [hw1]; exact Row.made w _
  have HW := hid hw1.symm; have HBEL := hid hbel; have HROW0 := hid hrow0
  have HA1 := hid (HA.out.below hbel); have HB1 := hid (HB.out.below hbel)
  have HAL := hid (fun (h : 0 < a.length) (q : Addr) (e : A = some q) => (e ▸ HA.out : Sees w (.slice (some q) a.length ca) a).lt h)
  have HBL := hid (fun (h : 0 < b.length) (q : Addr) (e : B = some q) => (e ▸ HB.out : Sees w (.slice (some q) a.length cb) b).lt h)
  clear hw1 hbel hrow0 HA HB
  go_wp2
  go_loopw [9, 10, 11, 19] (fun v9 v10 v11 v wr => ∃ (i p q c : Nat) (t : List Nat), i ≤ a.length ∧ v = .int .i64 i ∧ v9 = .int .u64 p ∧ v10 = .int .u64 q ∧ v11 = .int .u32 c ∧ p < 4294967296 ∧ q < 4294967296 ∧ c ≤ 1 ∧ Hid (CombTo a b m n i t p q c) ∧ Hid (Row wr w.heap.size t) ∧ Hid (w1.grownBy wr (some w.heap.size))) (fun _ _ _ v _ => a.length - (intOf v).toNat)
  case atStart => exact ⟨0, 0, 0, 0, _, Nat.zero_le _, rfl, rfl, rfl, rfl, by omega, by omega, by omega, CombTo.start a b m n, by rw [HW.out]; exact HROW0, by rw [HW.out]; exact World.grownBy.refl _ _⟩
  case round =>
    clear hmk
    obtain ⟨i, p, q, c, t, hi, rfl, rfl, rfl, rfl, hp, hq, hc1, hcomb, hrow, hg⟩ := hrel
    have htl := hcomb.out.len
    by_cases hlt : i < a.length
    · have hbi : i < b.length := by have := HBLEN.out; omega
      have hsa : Sees wr (.slice A a.length ca) a := HA1.out.grown hg.out (fun q e => by have := HAL.out (by omega) q e; omega)
      have hsb : Sees wr (.slice B a.length cb) b := HB1.out.grown hg.out (fun q e => by have := HBL.out (by omega) q e; omega)
      obtain ⟨b1, o1, rfl, hca'⟩ := hsa.at (by omega)
      obtain ⟨b2, o2, rfl, hcb'⟩ := hsb.at (by omega)
      have hca := hca' i hlt
      have hcb := hcb' i hbi
      have hoa := hsa.ok.getD i
      have hob := hsb.ok.getD i
      have hcr := hrow.out.cell (i := i) (by omega)
      have hfr := hrow.out.frozen i
      have hstep := fun lo1 p' lo2 q' x c' h1 h2 h3 h4 h5 h6 h7 => hcomb.out.step (lo1 := lo1) (p' := p') (lo2 := lo2) (q' := q') (x := x) (c' := c') hlt h1 h2 h3 h4 h5 h6 h7
      have HST := hid hstep
      clear hstep hca' hcb' hsa hsb
      generalize a.getD i 0 = u at *
      generalize b.getD i 0 = v at *
      have fit1 := mul_fits u m 0 p hoa hm (by omega) hp
      have fit2 := mul_fits v n 0 q hob hn (by omega) hq
      obtain ⟨z1, hz1⟩ : ∃ z, z = u * m := ⟨_, rfl⟩
      obtain ⟨z2, hz2⟩ : ∃ z, z = v * n := ⟨_, rfl⟩
      have ez1 : IntKind.u64.wrap ((u : Int) * (m : Int)) = (z1 : Int) := by rw [hz1, ← Int.natCast_mul]; exact wrap_u64 _ (by omega)
      have ez2 : IntKind.u64.wrap ((v : Int) * (n : Int)) = (z2 : Int) := by rw [hz2, ← Int.natCast_mul]; exact wrap_u64 _ (by omega)
      rw [← hz1] at fit1 HST
      rw [← hz2] at fit2 HST
      clear hz1 hz2
      obtain ⟨T1, hT1⟩ : ∃ T, T = p + z1 := ⟨_, rfl⟩
      obtain ⟨T2, hT2⟩ : ∃ T, T = q + z2 := ⟨_, rfl⟩
      have et1 : IntKind.u64.wrap ((p : Int) + (z1 : Int)) = (T1 : Int) := by have := wrap_u64 T1 (by omega); rw [hT1] at this ⊢; simpa using this
      have et2 : IntKind.u64.wrap ((q : Int) + (z2 : Int)) = (T2 : Int) := by have := wrap_u64 T2 (by omega); rw [hT2] at this ⊢; simpa using this
      obtain ⟨lo1, hi1, hlo1, hhi1, hxd1, em1, ed1⟩ : ∃ lo hi : Nat, lo < 4294967296 ∧ hi < 4294967296 ∧ Hid (p + z1 = lo + 4294967296 * hi) ∧ (T1 : Int) % 4294967296 = (lo : Int) ∧ (T1 : Int) / 4294967296 = (hi : Int) :=
        ⟨T1 % 4294967296, T1 / 4294967296, by omega, by omega, by show _ = _; omega, by omega, by omega⟩
      obtain ⟨lo2, hi2, hlo2, hhi2, hxd2, em2, ed2⟩ : ∃ lo hi : Nat, lo < 4294967296 ∧ hi < 4294967296 ∧ Hid (q + z2 = lo + 4294967296 * hi) ∧ (T2 : Int) % 4294967296 = (lo : Int) ∧ (T2 : Int) / 4294967296 = (hi : Int) :=
        ⟨T2 % 4294967296, T2 / 4294967296, by omega, by omega, by show _ = _; omega, by omega, by omega⟩
      obtain ⟨x, c', hx, hc', hsub, hcall⟩ := sub32 lo1 lo2 c hlo1 hlo2 hc1
      have HStep := hid (HST.out lo1 hi1 lo2 hi2 x c' hhi1 hhi2 hx hc' hxd1.out hxd2.out (by have := hsub.out; omega))
      have HRow := hid (hrow.out.set i x)
      have HG := hid (grownBy_set (i := i) (v := .int .u32 (x : Nat)) hg.out)
      have HCall := hid hcall
      clear hcall hsub hxd1 hxd2 hT1 hT2 fit1 fit2 HST hcomb
      go_wp2_with (go_at_call 104; refine (HCall.out _).mono ?_; rintro e w' ⟨rfl, rfl⟩)
      all_goals
        go_roundw
        case rel => exact ⟨i + 1, hi1, hi2, c', t.set i x, by omega, by go_num, by first | rfl | rw [ed1], by first | rfl | rw [ed2], rfl, hhi1, hhi2, hc', HStep, HRow, by first | exact HG | exact grownBy_drew HG.out | exact grownBy_drew (grownBy_drew HG.out)⟩
        case measure => simp [intOf]; omega
    · obtain rfl : i = a.length := by omega
      have hv := hcomb.out.total HBLEN.out HD.out k HE.out
      have hs : Sees wr (.slice (some ⟨w.heap.size, 0, none⟩) t.length t.length) t := by
        have := hrow.out.sees hcomb.out.ok 0 t.length t.length (by omega) (Nat.le_refl _) (by omega)
        rwa [List.drop_zero, List.take_of_length_le (by omega)] at this
      rw [htl] at hs
      have HS := hid hs; have HV := hid hv
      have HB5 : Hid (Below w.heap.size w wr) := HBEL.out.grown hg.out (HBEL.out.size) (fun k e => by simp at e; omega)
      clear hv hs hcomb htl
      go_wp2_with fail
      refine (trim_sees _ _ _ _ _ HS.out).mono ?_
      rintro e w' ⟨⟨Z, rfl, hZ, -⟩, rfl⟩
      have HZ := hid hZ
      clear hZ HS
      go_wp2
      go_ret
      refine ⟨_, rfl, ?_, HB5.out⟩
      have := HZ.out
      rw [HV.out] at this ⊢
      exact this
end Go.Proofs.YtfjanomjmlcgaaaDoor

set_option linter.unusedVariables false
set_option linter.unusedSimpArgs false
namespace Go.Proofs.YtfjanomjmlcgaaaDoor
open Go.RowKit

/-- A struct of five cells in a block of its own. -/
def Box5 (w : World) (g : Nat) (a b c d e : Value) : Prop := ∃ t, w.heap[g]? = some (.cells #[a, b, c, d, e] t (0, 0))
theorem Box5.new (w : World) (a b c d e : Value) (t : TypeId) : Box5 (w.alloc (.cells #[a, b, c, d, e] t)) w.heap.size a b c d e := ⟨t, Deep.blk_alloc_new w _⟩
theorem Box5.cells {w : World} {g : Nat} {a b c d e : Value} (h : Box5 w g a b c d e) : w.cell? ⟨g, 0, none⟩ = some a ∧ w.cell? ⟨g, 1, none⟩ = some b ∧ w.cell? ⟨g, 2, none⟩ = some c ∧ w.cell? ⟨g, 3, none⟩ = some d ∧ w.cell? ⟨g, 4, none⟩ = some e ∧
    w.frozen? ⟨g, 0, none⟩ = false ∧ w.frozen? ⟨g, 1, none⟩ = false ∧ w.frozen? ⟨g, 2, none⟩ = false ∧ w.frozen? ⟨g, 3, none⟩ = false ∧ w.frozen? ⟨g, 4, none⟩ = false := by
  obtain ⟨t, h⟩ := h
  refine ⟨?_, ?_, ?_, ?_, ?_, ?_, ?_, ?_, ?_, ?_⟩ <;> first | (simp only [World.cell?, h]; rfl) | (simp only [World.frozen?, h]; rfl)
theorem Box5.lt {w : World} {g : Nat} {a b c d e : Value} (h : Box5 w g a b c d e) : g < w.heap.size := World.block_lt_of_cell? w _ h.cells.1
theorem Box5.below {w w' : World} {g : Nat} {a b c d e : Value} (h : Box5 w g a b c d e) (hb : Below w.heap.size w w') : Box5 w' g a b c d e := by
  have hlt := h.lt
  obtain ⟨t, h⟩ := h
  exact ⟨t, (hb.block g hlt).trans h⟩
theorem Box5.alloc {w : World} {g : Nat} {a b c d e : Value} (h : Box5 w g a b c d e) (o : Obj) : Box5 (w.alloc o) g a b c d e := h.below ((Below.refl _ w).alloc (Nat.le_refl _) o)
theorem Box5.of_block {w w' : World} {g : Nat} {a b c d e : Value} (h : Box5 w g a b c d e) (e1 : w'.heap[g]? = w.heap[g]?) : Box5 w' g a b c d e := let ⟨t, h⟩ := h; ⟨t, e1.trans h⟩
theorem Box5.grown {w w' : World} {g : Nat} {a b c d e : Value} (h : Box5 w g a b c d e) {r : Option Nat} (hg : w.grownBy w' r) (hr : some g ≠ r) : Box5 w' g a b c d e := h.of_block (hg.block g h.lt hr)
theorem Box5.drew {w : World} {g : Nat} {a b c d e : Value} (h : Box5 w g a b c d e) : Box5 w.drew g a b c d e := h
theorem Box5.s0 {w : World} {g : Nat} {a b c d e : Value} (h : Box5 w g a b c d e) (v : Value) : Box5 (w.setCell ⟨g, 0, none⟩ v) g v b c d e := by
  obtain ⟨t, h⟩ := h; exact ⟨t, by simp [World.setCell, Array.getElem?_modify, h]⟩
theorem Box5.s1 {w : World} {g : Nat} {a b c d e : Value} (h : Box5 w g a b c d e) (v : Value) : Box5 (w.setCell ⟨g, 1, none⟩ v) g a v c d e := by
  obtain ⟨t, h⟩ := h; exact ⟨t, by simp [World.setCell, Array.getElem?_modify, h]⟩
theorem Box5.s2 {w : World} {g : Nat} {a b c d e : Value} (h : Box5 w g a b c d e) (v : Value) : Box5 (w.setCell ⟨g, 2, none⟩ v) g a b v d e := by
  obtain ⟨t, h⟩ := h; exact ⟨t, by simp [World.setCell, Array.getElem?_modify, h]⟩
theorem Box5.s3 {w : World} {g : Nat} {a b c d e : Value} (h : Box5 w g a b c d e) (v : Value) : Box5 (w.setCell ⟨g, 3, none⟩ v) g a b c v e := by
  obtain ⟨t, h⟩ := h; exact ⟨t, by simp [World.setCell, Array.getElem?_modify, h]⟩
theorem Box5.s4 {w : World} {g : Nat} {a b c d e : Value} (h : Box5 w g a b c d e) (v : Value) : Box5 (w.setCell ⟨g, 4, none⟩ v) g a b c d v := by
  obtain ⟨t, h⟩ := h; exact ⟨t, by simp [World.setCell, Array.getElem?_modify, h]⟩
/-- A round's stores. -/
theorem Box5.round {w : World} {g : Nat} {a b c d e : Value} (h : Box5 w g a b c d e) (x0 x2 x1 x3 x4 : Value) :
    Box5 (((((w.setCell ⟨g, 0, none⟩ x0).setCell ⟨g, 2, none⟩ x2).setCell ⟨g, 1, none⟩ x1).setCell ⟨g, 3, none⟩ x3).setCell ⟨g, 4, none⟩ x4) g x0 x1 x2 x3 x4 := ((((h.s0 x0).s2 x2).s1 x1).s3 x3).s4 x4
theorem grown_round (w : World) (g : Nat) (x0 x2 x1 x3 x4 : Value) :
    w.grownBy (((((w.setCell ⟨g, 0, none⟩ x0).setCell ⟨g, 2, none⟩ x2).setCell ⟨g, 1, none⟩ x1).setCell ⟨g, 3, none⟩ x3).setCell ⟨g, 4, none⟩ x4) (some g) :=
  grownBy_set (grownBy_set (grownBy_set (grownBy_set (grownBy_set (World.grownBy.refl _ _) _ _) _ _) _ _) _ _) _ _
/-- The result's cells, stored. -/
theorem Box5.all {w : World} {g : Nat} {a b c d e : Value} (h : Box5 w g a b c d e) (x0 x1 x2 x3 x4 : Value) :
    Box5 (((((w.setCell ⟨g, 0, none⟩ x0).setCell ⟨g, 1, none⟩ x1).setCell ⟨g, 2, none⟩ x2).setCell ⟨g, 3, none⟩ x3).setCell ⟨g, 4, none⟩ x4) g x0 x1 x2 x3 x4 := ((((h.s0 x0).s1 x1).s2 x2).s3 x3).s4 x4
theorem grown_all (w : World) (g : Nat) (x0 x2 x1 x3 x4 : Value) :
    w.grownBy (((((w.setCell ⟨g, 0, none⟩ x0).setCell ⟨g, 1, none⟩ x1).setCell ⟨g, 2, none⟩ x2).setCell ⟨g, 3, none⟩ x3).setCell ⟨g, 4, none⟩ x4) (some g) :=
  grownBy_set (grownBy_set (grownBy_set (grownBy_set (grownBy_set (World.grownBy.refl _ _) _ _) _ _) _ _) _ _) _ _

/-- What lookAhead hands back. -/
def Looked (w : World) (A B : Nat) (e : Ending) (w' : World) : Prop :=
  ∃ aa ab ba bb o, e = .returned (.agg #[.int .u64 (aa : Nat), .int .u64 (ab : Nat), .int .u64 (ba : Nat), .int .u64 (bb : Nat), .bool o]) ∧ (aa < 4294967296 ∧ ab < 4294967296 ∧ ba < 4294967296 ∧ bb < 4294967296) ∧ (0 < ab → ∃ p q, Steps A B aa ab ba bb o p q) ∧ Below w.heap.size w w'

/-- Where the highest 64 digits begin. -/
theorem place_of {A : Nat} (h : 2 < (limbs A).length) : ∃ p i n, bitsN A = p + 64 ∧ p = 32 * i + n ∧ n < 32 ∧ i + 1 < (limbs A).length ∧ A / 2 ^ p < 18446744073709551616 := by
  have hp : 0 < A := by
    rcases Nat.eq_zero_or_pos A with h0 | h0
    · subst h0; simp [limbs_zero] at h
    · exact h0
  have h1 := bitsN_limbs hp
  have h2 := bitsN_le ((limbs_ok A).getD ((limbs A).length - 1))
  have h3 : 0 < bitsN ((limbs A).getD ((limbs A).length - 1) 0) := by
    unfold bitsN
    rw [if_neg (limbs_last hp).2]
    omega
  have h4 : A < 2 ^ bitsN A := by
    unfold bitsN
    rw [if_neg (by omega)]
    exact Nat.lt_log2_self
  generalize bitsN ((limbs A).getD ((limbs A).length - 1) 0) = z at *
  obtain ⟨p, hpe⟩ : ∃ p, bitsN A = p + 64 := ⟨bitsN A - 64, by omega⟩
  refine ⟨p, p / 32, p % 32, hpe, by omega, by omega, by omega, ?_⟩
  rw [hpe, Nat.pow_add] at h4
  exact Nat.div_lt_of_lt_mul (by simpa using h4)

set_option maxRecDepth 100000 in
set_option maxHeartbeats 4000000 in
theorem nat_lookAhead (a b : Option Addr) (la ca lb cb A B : Nat) (w : World) (ha : Sees w (.slice a la ca) (limbs A)) (hb : Sees w (.slice b lb cb) (limbs B)) (h3 : 2 < (limbs A).length) (hle : B ≤ A) (hl : (limbs A).length ≤ 1000000000000) :
    Calls Tryd.prog 66 #[.slice a la ca, .slice b lb cb] w fun e w' => Looked w A B e w' := by
  obtain ⟨p, i, n, hbits, hpi, hn, hil, hX⟩ := place_of h3
  have HBITS := hid (fun w' (hb : Below w.heap.size w w') => nat_bits a la ca (limbs A) w' (ha.below hb))
  rw [val_limbs, hbits] at HBITS
  have CX := fun w' (hb : Below w.heap.size w w') => nat_wordAt (.slice a la ca) (limbs A) p i n w' (ha.below hb) hpi hn (by omega)
  have CY := fun w' (hb' : Below w.heap.size w w') => nat_wordAt (.slice b lb cb) (limbs B) p i n w' (hb.below hb') hpi hn (by omega)
  rw [val_limbs] at CX CY
  have hYX : B / 2 ^ p ≤ A / 2 ^ p := Nat.div_le_div_right hle
  rw [Nat.mod_eq_of_lt hX] at CX
  rw [Nat.mod_eq_of_lt (by omega)] at CY
  have hpp := Nat.two_pow_pos p
  have hA := (Nat.div_add_mod A (2 ^ p)).symm
  have hB := (Nat.div_add_mod B (2 ^ p)).symm
  have hal := Nat.mod_lt A hpp
  have hbe := Nat.mod_lt B hpp
  obtain ⟨X, hXe⟩ : ∃ X, A / 2 ^ p = X := ⟨_, rfl⟩
  obtain ⟨Y, hYe⟩ : ∃ Y, B / 2 ^ p = Y := ⟨_, rfl⟩
  obtain ⟨al, hale⟩ : ∃ z, A % 2 ^ p = z := ⟨_, rfl⟩
  obtain ⟨be, hbee⟩ : ∃ z, B % 2 ^ p = z := ⟨_, rfl⟩
  obtain ⟨P, hPe⟩ : ∃ z, 2 ^ p = z := ⟨_, rfl⟩
  rw [hXe] at CX hA hX hYX
  rw [hYe] at CY hB hYX
  rw [hale] at hA hal
  rw [hbee] at hB hbe
  rw [hPe] at hA hB hal hbe
  rw [Nat.mul_comm] at hA hB
  have HCX := hid CX; have HCY := hid CY; have HB0 := hid HBITS
  have HA := hid hA; have HB := hid hB; have HAL := hid hal; have HBE := hid hbe
  have L0 : Hid (Look A B X Y P X Y 0 0 1 0 0 1 false) := Look.start hYX
  have epl : ((p + 64 : Nat) : Int) - 64 = (p : Int) := by omega
  have epl2 : (p : Int) + 64 - 64 = (p : Int) := by omega
  have ewp : IntKind.i64.wrap (p : Int) = (p : Int) := by rw [IntKind.wrap_i64]; omega
  clear hA hB hal hbe hXe hYe hale hbee hPe hpp CX CY HBITS hle h3 ha hb hbits hpi
  go_enter Tryd.func66, Tryd.ntmps66
  go_wp2_with fail
  obtain ⟨r, hr⟩ : ∃ r, r = w.heap.size := ⟨_, rfl⟩
  obtain ⟨w0, hw0⟩ : ∃ x, x = w.alloc (.cells #[.int .u64 0, .int .u64 0, .int .u64 0, .int .u64 0, .bool false] 68) := ⟨_, rfl⟩
  have B0 : Hid (Below w.heap.size w w0) := by rw [hw0]; exact (Below.refl _ w).alloc (Nat.le_refl _) _
  have R0 : Hid (Box5 w0 r (.int .u64 0) (.int .u64 0) (.int .u64 0) (.int .u64 0) (.bool false)) := by rw [hw0, hr]; exact Box5.new w _ _ _ _ _ _
  have HR : Hid (w.heap.size ≤ r ∧ r < w0.heap.size) := ⟨by omega, by rw [hw0]; simp; omega⟩
  rw [← hw0, ← hr]
  clear hw0 hr
  refine (HB0.out.out w0 B0.out).mono ?_
  rintro e w' ⟨rfl, rfl⟩
  go_wp2_with fail
  refine (HCX.out w0 B0.out).mono ?_
  rintro e w' ⟨rfl, rfl⟩
  go_wp2_with fail
  refine (HCY.out w0 B0.out).mono ?_
  rintro e w' ⟨rfl, rfl⟩
  clear HCX HCY HB0
  go_wp2
  obtain ⟨g, hg⟩ : ∃ g, g = w0.heap.size := ⟨_, rfl⟩
  obtain ⟨w1, hw1⟩ : ∃ x, x = w0.alloc (.cells #[.int .u64 0, .int .u64 0, .int .u64 1, .int .u64 0, .bool false] 68) := ⟨_, rfl⟩
  have B1 : Hid (Below w.heap.size w w1) := by rw [hw1]; exact B0.out.alloc B0.out.size _
  have G1 : Hid (Box5 w1 g (.int .u64 ((0 : Nat) : Int)) (.int .u64 ((0 : Nat) : Int)) (.int .u64 ((1 : Nat) : Int)) (.int .u64 ((0 : Nat) : Int)) (.bool false)) := by rw [hw1, hg]; exact Box5.new w0 _ _ _ _ _ _
  have R1 : Hid (Box5 w1 r (.int .u64 0) (.int .u64 0) (.int .u64 0) (.int .u64 0) (.bool false)) := by rw [hw1]; exact R0.out.alloc _
  have HG : Hid (w.heap.size ≤ r ∧ r < g ∧ w.heap.size ≤ g) := by
    have := HR.out
    refine ⟨?_, ?_, ?_⟩ <;> omega
  rw [← hw1, ← hg]
  clear hw1 hg R0 HR B0 epl epl2 ewp hil hn
  go_loopg [6, 7, 9, 10] Y (fun gh v6 v7 v9 v10 wr => ∃ (x y aa ab ba bb na nb : Nat) (o : Bool), v6 = .int .u64 x ∧ v7 = .int .u64 y ∧ v9 = .int .u64 na ∧ v10 = .int .u64 nb ∧ Hid (y = gh) ∧ x < 18446744073709551616 ∧ y ≤ x ∧ na ≤ nb ∧ nb < 18446744073709551616 ∧ Hid (Look A B X Y P x y aa ab ba bb na nb o) ∧ Hid (Box5 wr g (.int .u64 aa) (.int .u64 ab) (.int .u64 ba) (.int .u64 bb) (.bool o)) ∧ Hid (w1.grownBy wr (some g)))
  case atStart => exact ⟨X, Y, 0, 0, 1, 0, 0, 1, false, rfl, rfl, rfl, rfl, rfl, hX, hYX, by omega, by omega, L0, G1, World.grownBy.refl _ _⟩
  case round =>
    clear L0 G1
    obtain ⟨x, y, aa, ab, ba, bb, na, nb, o, rfl, rfl, rfl, rfl, hgk, hx, hyx, hna, hnb, hlook, hbox, hgr⟩ := hrel
    obtain ⟨sm1, sm2, sm3, sm4⟩ := hlook.out.smalls
    obtain ⟨c0, c1, c2, c3, c4, f0, f1, f2, f3, f4⟩ := hbox.out.cells
    have done : Hid (Looked w A B (.returned (.agg #[.int .u64 (aa : Nat), .int .u64 (ab : Nat), .int .u64 (ba : Nat), .int .u64 (bb : Nat), .bool o])) (((((wr.setCell ⟨r, 0, none⟩ (.int .u64 aa)).setCell ⟨r, 1, none⟩ (.int .u64 ab)).setCell ⟨r, 2, none⟩ (.int .u64 ba)).setCell ⟨r, 3, none⟩ (.int .u64 bb)).setCell ⟨r, 4, none⟩ (.bool o))) := by
      have hb : Below w.heap.size w wr := B1.out.grown hgr.out B1.out.size (fun k e => by simp at e; have := HG.out; omega)
      exact ⟨aa, ab, ba, bb, o, rfl, ⟨sm1, sm2, sm3, sm4⟩, fun h => hlook.out.apply h, hb.grown (grown_all _ _ _ _ _ _ _) hb.size (fun k e => by simp at e; have := HG.out; omega)⟩
    have R2 := hid (R1.out.grown hgr.out (by simp; have := HG.out; omega))
    by_cases h1 : nb ≤ y
    · by_cases h2 : bb + nb ≤ x - y
      · have y0 : 0 < y := by have := hlook.out.pos; omega
        obtain ⟨q, hq⟩ : ∃ q, q = x / y := ⟨_, rfl⟩
        obtain ⟨s, hs⟩ : ∃ s, s = x % y := ⟨_, rfl⟩
        have hxq : x = y * q + s := by rw [hq, hs]; exact (Nat.div_add_mod x y).symm
        have hsy : s < y := by rw [hs]; exact Nat.mod_lt _ y0
        have eq1 : (x : Int) / (y : Int) = (q : Int) := by rw [hq]; exact (Int.natCast_ediv _ _).symm
        have er1 : (x : Int) % (y : Int) = (s : Int) := by rw [hs]; exact (Int.natCast_emod _ _).symm
        have eq2 : Int.tdiv (x : Int) (y : Int) = (q : Int) := by rw [Int.tdiv_eq_ediv_of_nonneg (by omega)]; exact eq1
        have er2 : Int.tmod (x : Int) (y : Int) = (s : Int) := by rw [Int.tmod_eq_emod_of_nonneg (by omega)]; exact er1
        have hqx : q ≤ x := by rw [hq]; exact Nat.div_le_self _ _
        have ew1 : IntKind.u64.wrap (q : Int) = (q : Int) := by rw [IntKind.wrap_u64]; omega
        have ew2 : IntKind.u64.wrap (s : Int) = (s : Int) := by rw [IntKind.wrap_u64]; omega
        have hstep := hlook.out.step hX HA.out HB.out HAL.out HBE.out h1 h2 hxq hsy
        obtain ⟨fit1, fit2, fit3, -⟩ := hlook.out.fits hX h1 hxq
        have fit4 := hstep.nle
        obtain ⟨D, hD⟩ : ∃ D, D = x - y := ⟨_, rfl⟩
        obtain ⟨S, hS⟩ : ∃ S, S = bb + nb := ⟨_, rfl⟩
        have exy : IntKind.u64.wrap ((x : Int) - (y : Int)) = (D : Int) := by rw [IntKind.wrap_u64]; omega
        have ebn : IntKind.u64.wrap ((bb : Int) + (nb : Int)) = (S : Int) := by rw [IntKind.wrap_u64]; omega
        rw [← hD, ← hS] at h2
        obtain ⟨z1, hz1⟩ : ∃ z, z = q * na := ⟨_, rfl⟩
        obtain ⟨z2, hz2⟩ : ∃ z, z = q * nb := ⟨_, rfl⟩
        rw [← hz1] at fit2 fit4 hstep
        rw [← hz2] at fit2 fit3 fit4 hstep
        have ez1 : IntKind.u64.wrap ((q : Int) * (na : Int)) = (z1 : Int) := by rw [hz1, ← Int.natCast_mul]; exact wrap_u64 _ (by omega)
        have ez2 : IntKind.u64.wrap ((q : Int) * (nb : Int)) = (z2 : Int) := by rw [hz2, ← Int.natCast_mul]; exact wrap_u64 _ (by omega)
        obtain ⟨N1, hN1⟩ : ∃ z, z = ba + z1 := ⟨_, rfl⟩
        obtain ⟨N2, hN2⟩ : ∃ z, z = bb + z2 := ⟨_, rfl⟩
        rw [← hN1] at fit4 hstep
        rw [← hN2] at fit3 fit4 hstep
        have en1 : IntKind.u64.wrap ((ba : Int) + (z1 : Int)) = (N1 : Int) := by rw [IntKind.wrap_u64]; omega
        have en2 : IntKind.u64.wrap ((bb : Int) + (z2 : Int)) = (N2 : Int) := by rw [IntKind.wrap_u64]; omega
        have hy0 : ¬ (y : Int) = 0 := by omega
        have HST := hid hstep
        have BX := hid (hbox.out.drew.round (.int .u64 ba) (.int .u64 na) (.int .u64 bb) (.int .u64 nb) (.bool (!o)))
        have GX := hid (grownBy_trans (grownBy_drew hgr.out) (grown_round wr.drew g (.int .u64 ba) (.int .u64 na) (.int .u64 bb) (.int .u64 nb) (.bool (!o))))
        clear hstep hlook hq hs hxq hD hS hz1 hz2 hN1 hN2 fit1 fit2 done R2
        go_wp2
        go_region
        go_wp2
        go_roundg s
        case rel => exact ⟨y, s, ba, bb, na, nb, N1, N2, !o, rfl, rfl, rfl, rfl, rfl, by omega, by omega, fit4, fit3, HST, BX, GX⟩
        case measure => have := hgk.out; omega
      · obtain ⟨D, hD⟩ : ∃ D, D = x - y := ⟨_, rfl⟩
        obtain ⟨S, hS⟩ : ∃ S, S = bb + nb := ⟨_, rfl⟩
        have hnn : bb + nb < 18446744073709551616 := by
          have h5 := hlook.out.sumX
          have h6 := hlook.out.pos
          have h7 : bb ≤ y * bb := Nat.le_mul_of_pos_left _ (by omega)
          have h8 : nb ≤ x * nb := Nat.le_mul_of_pos_left _ (by omega)
          omega
        have exy : IntKind.u64.wrap ((x : Int) - (y : Int)) = (D : Int) := by rw [IntKind.wrap_u64]; omega
        have ebn : IntKind.u64.wrap ((bb : Int) + (nb : Int)) = (S : Int) := by rw [IntKind.wrap_u64]; omega
        rw [← hD, ← hS] at h2
        obtain ⟨d0, d1, d2, d3, d4, k0, k1, k2, k3, k4⟩ := R2.out.cells
        have HX := hid (R2.out.all (.int .u64 (aa : Nat)) (.int .u64 (ab : Nat)) (.int .u64 (ba : Nat)) (.int .u64 (bb : Nat)) (.bool o)).cells
        clear hD hS hnn hlook hgr hbox
        go_wp2
        refine bodyPost_ret (v := .agg #[.int .u64 (aa : Nat), .int .u64 (ab : Nat), .int .u64 (ba : Nat), .int .u64 (bb : Nat), .bool o]) ?_ rfl done.out
        obtain ⟨e0, e1, e2, e3, e4, -⟩ := HX.out
        simp [results, Tryd.results66, go_sem, e0, e1, e2, e3, e4]
    · obtain ⟨d0, d1, d2, d3, d4, k0, k1, k2, k3, k4⟩ := R2.out.cells
      have HX := hid (R2.out.all (.int .u64 (aa : Nat)) (.int .u64 (ab : Nat)) (.int .u64 (ba : Nat)) (.int .u64 (bb : Nat)) (.bool o)).cells
      clear hlook hgr hbox
      go_wp2
      refine bodyPost_ret (v := .agg #[.int .u64 (aa : Nat), .int .u64 (ab : Nat), .int .u64 (ba : Nat), .int .u64 (bb : Nat), .bool o]) ?_ rfl done.out
      obtain ⟨e0, e1, e2, e3, e4, -⟩ := HX.out
      simp [results, Tryd.results66, go_sem, e0, e1, e2, e3, e4]
end Go.Proofs.YtfjanomjmlcgaaaDoor

set_option linter.unusedVariables false
set_option linter.unusedSimpArgs false
namespace Go.Proofs.YtfjanomjmlcgaaaDoor
open Go.RowKit

/-- Both results are told by numbers as many limbs as b's can hold. -/
theorem steps_comb {A B aa ab ba bb p q n : Nat} {o : Bool} (h : Steps A B aa ab ba bb o p q) (hB : B < 4294967296 ^ n) : ∃ k1 k2, p < 4294967296 ^ n ∧ q < 4294967296 ^ n ∧
    (if o then (p + B * ab + 4294967296 ^ n * k1 = A % 4294967296 ^ n * aa ∨ p + B * ab = A % 4294967296 ^ n * aa + 4294967296 ^ n * k1) ∧ (q + A % 4294967296 ^ n * ba + 4294967296 ^ n * k2 = B * bb ∨ q + A % 4294967296 ^ n * ba = B * bb + 4294967296 ^ n * k2)
     else (p + A % 4294967296 ^ n * aa + 4294967296 ^ n * k1 = B * ab ∨ p + A % 4294967296 ^ n * aa = B * ab + 4294967296 ^ n * k1) ∧ (q + B * bb + 4294967296 ^ n * k2 = A % 4294967296 ^ n * ba ∨ q + B * bb = A % 4294967296 ^ n * ba + 4294967296 ^ n * k2)) := by
  have hd := (Nat.mod_add_div A (4294967296 ^ n)).symm
  have hp : p < 4294967296 ^ n := Nat.lt_of_le_of_lt h.le hB
  have hq : q < 4294967296 ^ n := Nat.lt_trans h.lt hp
  have e1 := h.eqa
  have e2 := h.eqb
  generalize 4294967296 ^ n = M at *
  generalize A % M = L at *
  generalize A / M = H at *
  subst hd
  refine ⟨H * aa, H * ba, hp, hq, ?_⟩
  cases o
  · simp only [Bool.false_eq_true, if_false] at e1 e2 ⊢
    refine ⟨.inl ?_, .inr ?_⟩
    · rw [Nat.mul_add, Nat.mul_comm aa L, Nat.mul_left_comm] at e1
      rw [Nat.mul_comm B, ← e1, Nat.mul_comm H aa]; omega
    · rw [Nat.mul_add, Nat.mul_comm ba L, Nat.mul_left_comm] at e2
      rw [Nat.mul_comm B, e2, Nat.mul_comm H ba]
  · simp only [if_true] at e1 e2 ⊢
    refine ⟨.inr ?_, .inl ?_⟩
    · rw [Nat.mul_add, Nat.mul_comm aa L, Nat.mul_left_comm] at e1
      rw [Nat.mul_comm B, e1, Nat.mul_comm H aa]
    · rw [Nat.mul_add, Nat.mul_comm ba L, Nat.mul_left_comm] at e2
      rw [Nat.mul_comm B, ← e2, Nat.mul_comm H ba]; omega

/-- The slice to a place, its capacity kept: 'a[:n]'. -/
theorem Sees.front {w : World} {ao : Option Addr} {len cap : Nat} {l : List Nat} (h : Sees w (.slice ao len cap) l) (n : Nat) (hn : n ≤ l.length) : Sees w (.slice ao n cap) (l.take n) := by
  obtain ⟨ao', cap', h1, h2, h3, h4, hn0, h5⟩ := h
  simp only [Value.slice.injEq] at h1
  obtain ⟨rfl, rfl, rfl⟩ := h1
  have hl : (l.take n).length = n := by simp; omega
  refine ⟨ao, cap, by rw [hl], by omega, by omega, h4.take n, hn0, fun hp => ?_⟩
  obtain ⟨b, o, ha, hcell⟩ := h5 (by omega)
  refine ⟨b, o, ha, fun i hi => ?_⟩
  rw [hl] at hi
  rw [hcell i (by omega), List.getD_eq_getElem?_getD, List.getD_eq_getElem?_getD, List.getElem?_take_of_lt hi]
theorem val_front {l : List Nat} (h : Ok l) (n : Nat) (hn : n ≤ l.length) : val (l.take n) = val l % 4294967296 ^ n := by
  have h1 := val_split l n hn
  have h2 := val_lt (h.take n)
  rw [List.length_take, Nat.min_eq_left hn] at h2
  rw [h1, Nat.add_mul_mod_self_left, Nat.mod_eq_of_lt h2]

/-- nat.combine, the length said apart. -/
theorem nat_combine' {A B : Option Addr} {ca cb m n d k len : Nat} {a b : List Nat} {w : World} (ha : Sees w (.slice A len ca) a) (hb : Sees w (.slice B len cb) b) (hal : a.length = len) (hm : m < 4294967296) (hn : n < 4294967296) (hl : len ≤ 35184372088832)
    (hd : d < 4294967296 ^ len) (e : d + val b * n + 4294967296 ^ len * k = val a * m ∨ d + val b * n = val a * m + 4294967296 ^ len * k) :
    Calls Tryd.prog 96 #[.slice A len ca, .int .u64 m, .slice B len cb, .int .u64 n] w fun e w' => IsNum w d e w' := by
  subst hal
  exact nat_combine A B ca cb m n d k a b w ha hb hm hn hl hd e

set_option maxRecDepth 100000 in
set_option maxHeartbeats 4000000 in
theorem nat_apply {a b : Option Addr} {la ca n cb A B aa ab ba bb p q : Nat} {o : Bool} {w : World} (ha : Sees w (.slice a la ca) (limbs A)) (hb : Sees w (.slice b n cb) (limbs B)) (hs : Steps A B aa ab ba bb o p q) (sm : aa < 4294967296 ∧ ab < 4294967296 ∧ ba < 4294967296 ∧ bb < 4294967296) (hle : (limbs B).length ≤ (limbs A).length) (hl : (limbs A).length ≤ 35184372088832) :
    Calls Tryd.prog 67 #[.agg #[.int .u64 (aa : Nat), .int .u64 (ab : Nat), .int .u64 (ba : Nat), .int .u64 (bb : Nat), .bool o], .slice a la ca, .slice b n cb] w fun e w' => ∃ u v, e = .returned (.tuple #[u, v]) ∧ Sees w' u (limbs p) ∧ Sees w' v (limbs q) ∧ Below w.heap.size w w' := by
  have hn : n = (limbs B).length := hb.len_eq.1
  have hla : la = (limbs A).length := ha.len_eq.1
  rw [← hn] at hle
  have hlt : n ≤ la := by omega
  have hBn : B < 4294967296 ^ n := by rw [hn]; exact lt_pow_length B
  obtain ⟨k1, k2, hp, hq, hcomb⟩ := steps_comb hs hBn
  obtain ⟨s1, s2, s3, s4⟩ := sm
  have hf := ha.front n (by omega)
  have hfl : ((limbs A).take n).length = n := by simp; omega
  have hfv : val ((limbs A).take n) = A % 4294967296 ^ n := by rw [val_front (limbs_ok A) n (by omega), val_limbs]
  obtain ⟨f, hfe⟩ : ∃ f, (limbs A).take n = f := ⟨_, rfl⟩
  rw [hfe] at hf hfl hfv
  obtain ⟨bl, hbe⟩ : ∃ f, limbs B = f := ⟨_, rfl⟩
  have hbv : val bl = B := by rw [← hbe, val_limbs]
  rw [hbe] at hb hn
  rw [← hfv, ← hbv] at hcomb
  have hca : n ≤ ca := by have := ha.len_eq.2; omega
  have HLN : Hid (n ≤ 35184372088832) := by show n ≤ 35184372088832; omega
  obtain ⟨w0, hw0⟩ : ∃ x, x = w.alloc (.cells #[.int .u64 (aa : Nat), .int .u64 (ab : Nat), .int .u64 (ba : Nat), .int .u64 (bb : Nat), .bool o] 68) := ⟨_, rfl⟩
  obtain ⟨g, hg⟩ : ∃ g, g = w.heap.size := ⟨_, rfl⟩
  have B0 : Hid (Below w.heap.size w w0) := by rw [hw0]; exact (Below.refl _ w).alloc (Nat.le_refl _) _
  have X0 : Hid (Box5 w0 g (.int .u64 (aa : Nat)) (.int .u64 (ab : Nat)) (.int .u64 (ba : Nat)) (.int .u64 (bb : Nat)) (.bool o)) := by rw [hw0, hg]; exact Box5.new w _ _ _ _ _ _
  have HW0 := hid hw0.symm; have HG := hid hg.symm
  have HF := hid (hf.below B0.out); have HB := hid (hb.below B0.out)
  have hnl : (n : Int) ≤ (la : Int) := by omega
  have hnc : (n : Int) ≤ (ca : Int) := by omega
  clear hs hBn hfe hbe hw0 hg ha hb hf hla hfv hbv
  cases o
  · simp only [Bool.false_eq_true, if_false] at hcomb
    have HC := hid hcomb
    have C1 := hid (fun w' (h : Below w0.heap.size w0 w') => nat_combine' (HB.out.below h) (HF.out.below h) hn.symm s2 s1 HLN.out hp hcomb.1)
    have C2 := hid (fun w' (h : Below w0.heap.size w0 w') => nat_combine' (HF.out.below h) (HB.out.below h) hfl s3 s4 HLN.out hq hcomb.2)
    clear hcomb HC hp hq hn hfl HF HB
    go_enter Tryd.func67, Tryd.ntmps67
    obtain ⟨c0, c1, c2, c3, c4, f0, f1, f2, f3, f4⟩ := X0.out.cells
    go_wp2
    rw [HW0.out, HG.out]
    have HD := hid ((Below.refl w0.heap.size w0).drew)
    clear HW0 HG
    go_region_held3 (fun w' => w'.cell? ⟨g, 0, none⟩ = some (.int .u64 (aa : Nat)) ∧ w'.cell? ⟨g, 1, none⟩ = some (.int .u64 (ab : Nat)) ∧ w'.cell? ⟨g, 2, none⟩ = some (.int .u64 (ba : Nat)) ∧ w'.cell? ⟨g, 3, none⟩ = some (.int .u64 (bb : Nat)) ∧ Hid (Below w0.heap.size w0 w')) (exact ⟨by assumption, by assumption, by assumption, by assumption, by assumption⟩) (first
      | (go_at_call 96
         with_reducible refine (C1.out _ (Hid.out (by assumption))).mono ?_
         rintro e wx ⟨u, rfl, hs, hb⟩
         have hbn := hid (step_below (w := w0) (Hid.out (by assumption)) hb)
         obtain ⟨xc0, xc1, xc2, xc3, -⟩ := (X0.out.below hbn.out).cells
         try replace HV := hid (HV.out.below hb)
         have HU := hid hs
         clear hs hb)
      | (go_at_call 96
         with_reducible refine (C2.out _ (Hid.out (by assumption))).mono ?_
         rintro e wx ⟨v, rfl, hs, hb⟩
         have hbn := hid (step_below (w := w0) (Hid.out (by assumption)) hb)
         obtain ⟨xc0, xc1, xc2, xc3, -⟩ := (X0.out.below hbn.out).cells
         try replace HU := hid (HU.out.below hb)
         have HV := hid hs
         clear hs hb))
    all_goals
      go_wp2
      go_ret2
      exact ⟨u, v, rfl, HU.out, HV.out, B0.out.trans (hbn.out.mono B0.out.size)⟩
  · simp only [if_true] at hcomb
    have HC := hid hcomb
    have C1 := hid (fun w' (h : Below w0.heap.size w0 w') => nat_combine' (HF.out.below h) (HB.out.below h) hfl s1 s2 HLN.out hp hcomb.1)
    have C2 := hid (fun w' (h : Below w0.heap.size w0 w') => nat_combine' (HB.out.below h) (HF.out.below h) hn.symm s4 s3 HLN.out hq hcomb.2)
    clear hcomb HC hp hq hn hfl HF HB
    go_enter Tryd.func67, Tryd.ntmps67
    obtain ⟨c0, c1, c2, c3, c4, f0, f1, f2, f3, f4⟩ := X0.out.cells
    go_wp2
    rw [HW0.out, HG.out]
    have HD := hid ((Below.refl w0.heap.size w0).drew)
    clear HW0 HG
    go_region_held3 (fun w' => w'.cell? ⟨g, 0, none⟩ = some (.int .u64 (aa : Nat)) ∧ w'.cell? ⟨g, 1, none⟩ = some (.int .u64 (ab : Nat)) ∧ w'.cell? ⟨g, 2, none⟩ = some (.int .u64 (ba : Nat)) ∧ w'.cell? ⟨g, 3, none⟩ = some (.int .u64 (bb : Nat)) ∧ Hid (Below w0.heap.size w0 w')) (exact ⟨by assumption, by assumption, by assumption, by assumption, by assumption⟩) (first
      | (go_at_call 96
         with_reducible refine (C1.out _ (Hid.out (by assumption))).mono ?_
         rintro e wx ⟨u, rfl, hs, hb⟩
         have hbn := hid (step_below (w := w0) (Hid.out (by assumption)) hb)
         obtain ⟨xc0, xc1, xc2, xc3, -⟩ := (X0.out.below hbn.out).cells
         try replace HV := hid (HV.out.below hb)
         have HU := hid hs
         clear hs hb)
      | (go_at_call 96
         with_reducible refine (C2.out _ (Hid.out (by assumption))).mono ?_
         rintro e wx ⟨v, rfl, hs, hb⟩
         have hbn := hid (step_below (w := w0) (Hid.out (by assumption)) hb)
         obtain ⟨xc0, xc1, xc2, xc3, -⟩ := (X0.out.below hbn.out).cells
         try replace HU := hid (HU.out.below hb)
         have HV := hid hs
         clear hs hb))
    all_goals
      go_wp2
      go_ret2
      exact ⟨u, v, rfl, HU.out, HV.out, B0.out.trans (hbn.out.mono B0.out.size)⟩
end Go.Proofs.YtfjanomjmlcgaaaDoor

set_option linter.unusedVariables false
set_option linter.unusedSimpArgs false
namespace Go.Proofs.YtfjanomjmlcgaaaDoor
open Go.RowKit

theorem limbs_length_mono {x y : Nat} (h : x ≤ y) : (limbs x).length ≤ (limbs y).length := by
  rcases Nat.lt_or_ge (limbs y).length (limbs x).length with h1 | h1
  · have := limbs_length_lt h1; omega
  · exact h1

/-- What holds at the head of each round. -/
structure GcdAt (w wr : World) (X Y M p q : Nat) (a b : Option Addr) (la ca lb cb : Nat) : Prop where
  seesA : Sees wr (.slice a la ca) (limbs p)
  seesB : Sees wr (.slice b lb cb) (limbs q)
  le : q ≤ p
  len : (limbs p).length ≤ M
  gcd : Nat.gcd p q = Nat.gcd X Y
  bel : Below w.heap.size w wr

set_option maxRecDepth 100000 in
set_option maxHeartbeats 4000000 in
theorem nat_gcd {a b : Value} {l m : List Nat} {w : World} (ha : Sees w a l) (hb : Sees w b m) (hl : l.length ≤ 1000000000) (hm : m.length ≤ 1000000000) :
    Calls Tryd.prog 18 #[a, b] w fun e w' => IsNum w (Nat.gcd (val l) (val m)) e w' := by
  have hA := ha; have hB := hb
  obtain ⟨A0, cA0, rfl, -, -, -, -, -⟩ := ha
  obtain ⟨B0, cB0, rfl, -, -, -, -, -⟩ := hb
  have hlx := (limbs_prefix hA.ok).2
  have hly := (limbs_prefix hB.ok).2
  go_enter Tryd.func18, Tryd.ntmps18
  go_wp2_with fail
  refine (trim_sees _ _ _ _ _ hA).mono ?_
  rintro e w' ⟨⟨A, rfl, hA1, -⟩, rfl⟩
  go_wp2_with fail
  refine (trim_sees _ _ _ _ _ hB).mono ?_
  rintro e w' ⟨⟨B, rfl, hB1, -⟩, rfl⟩
  obtain ⟨X, hX⟩ : ∃ X, val l = X := ⟨_, rfl⟩
  obtain ⟨Y, hY⟩ : ∃ Y, val m = Y := ⟨_, rfl⟩
  rw [hX] at hA1 hlx
  rw [hY] at hB1 hly
  simp only [hX, hY]
  have HA := hid hA1; have HB := hid hB1
  have hlx : (limbs X).length ≤ 1000000000 := by omega
  have hly : (limbs Y).length ≤ 1000000000 := by omega
  have HCMP := hid (nat_cmp _ _ _ _ _ _ _ _ w hA1 hB1)
  rw [val_limbs, val_limbs] at HCMP
  have HXE := hid hX; have HYE := hid hY
  clear hX hY hA hB hA1 hB1 hl hm
  go_wp2_with fail
  refine HCMP.out.mono ?_
  have hz : (cmpI X Y < 0 ↔ X < Y) := by
    unfold cmpI
    by_cases h : X < Y
    · simp [h]
    · rw [if_neg h]; split <;> simp [h]
  generalize cmpI X Y = z at hz ⊢
  have HZ := hid hz
  clear hz HCMP
  rintro e w1 ⟨rfl, hb1⟩
  have HA1 := hid (HA.out.below hb1)
  have HB1 := hid (HB.out.below hb1)
  have HBEL := hid hb1
  clear hb1 HA HB
  by_cases hlt : z < 0
  · have I0 : Hid (GcdAt w w1 X Y 1000000000 Y X B A (limbs Y).length (limbs Y).length (limbs X).length (limbs X).length) := ⟨HB1.out, HA1.out, by have := (HZ.out).1 hlt; omega, hly, Nat.gcd_comm _ _, HBEL.out⟩
    clear HA1 HB1 HZ HBEL
    obtain ⟨n0, hn0⟩ : ∃ n, n = X := ⟨_, rfl⟩
    have I1 : Hid (X = n0) := hn0.symm
    clear hn0
    go_wp2
    go_loopg [0, 1] n0 (fun gh v0 v1 wr => ∃ (p q : Nat) (a b : Option Addr) (la ca lb cb : Nat), Hid (GcdAt w wr X Y 1000000000 p q a b la ca lb cb) ∧ v0 = .slice a la ca ∧ v1 = .slice b lb cb ∧ Hid (q = gh))
    case atStart => exact ⟨_, _, _, _, _, _, _, _, I0, rfl, rfl, I1⟩
    case round =>
      clear I0 I1
      obtain ⟨p, q, a, b, la, ca, lb, cb, hI, rfl, rfl, hgk⟩ := hrel
      have hpl := hI.out.len
      have hqp := limbs_length_mono hI.out.le
      obtain rfl : lb = (limbs q).length := hI.out.seesB.len_eq.1
      by_cases h2 : 2 < (limbs q).length
      · have HLK := hid (nat_lookAhead a b la ca _ cb p q wr hI.out.seesA hI.out.seesB (by omega) hI.out.le (by omega))
        clear hlx hly
        go_wp2_with fail
        refine HLK.out.mono ?_
        rintro e w2 ⟨aa, ab, ba, bb, o, rfl, hsm, hst, hb2⟩
        have HSM := hid hsm; have HST := hid hst
        have HA2 := hid (hI.out.seesA.below hb2); have HB2 := hid (hI.out.seesB.below hb2)
        have hab : ab < 4294967296 := hsm.2.1
        obtain ⟨g, hg⟩ : ∃ g, g = w2.heap.size := ⟨_, rfl⟩
        obtain ⟨w3, hw3⟩ : ∃ x, x = w2.alloc (.cells #[.int .u64 (aa : Nat), .int .u64 (ab : Nat), .int .u64 (ba : Nat), .int .u64 (bb : Nat), .bool o] 68) := ⟨_, rfl⟩
        have hb3 : Below w2.heap.size w2 w3 := by rw [hw3]; exact (Below.refl _ w2).alloc (Nat.le_refl _) _
        have HX3 : Hid (Box5 w3 g (.int .u64 (aa : Nat)) (.int .u64 (ab : Nat)) (.int .u64 (ba : Nat)) (.int .u64 (bb : Nat)) (.bool o)) := by rw [hw3, hg]; exact Box5.new w2 _ _ _ _ _ _
        have B3 := hid (step_below (step_below hI.out.bel hb2) hb3)
        replace HA2 := hid (HA2.out.below hb3); replace HB2 := hid (HB2.out.below hb3)
        have HW3 := hid hw3.symm; have HG := hid hg.symm
        have HLE := hid hI.out.le; have HGC := hid hI.out.gcd
        clear hsm hst hb2 hw3 hg hb3 HLK hI
        by_cases h0 : 0 < ab
        · obtain ⟨p2, q2, hs2⟩ := HST.out h0
          have HAP := hid (nat_apply HA2.out HB2.out hs2 HSM.out hqp (by omega))
          have HS2 := hid hs2
          obtain ⟨c0, c1, c2, c3, c4, -⟩ := HX3.out.cells
          clear HST HSM hs2
          go_wp2_with fail
          rw [HW3.out, HG.out]
          refine HAP.out.mono ?_
          rintro e w4 ⟨u, v, rfl, hu, hv, hb4⟩
          have HU := hid hu; have HV := hid hv
          have B4 := hid (step_below B3.out hb4)
          obtain ⟨ua, uc, rfl, -, -, -, -, -⟩ := hu
          obtain ⟨va, vc, rfl, -, -, -, -, -⟩ := hv
          have hlen : (limbs p2).length ≤ 1000000000 := by
            have := limbs_length_mono (Nat.le_trans HS2.out.le HLE.out)
            omega
          have HLEN := hid hlen
          clear hb4 HAP HW3 HG HX3 c0 c1 c2 c3 c4 HA2 HB2 B3 hlen hpl hqp h2
          go_wp2
          go_roundg q2
          case rel => exact ⟨p2, q2, _, _, _, _, _, _, ⟨HU.out, HV.out, Nat.le_of_lt HS2.out.lt, HLEN.out, HS2.out.gcd.trans HGC.out, B4.out⟩, rfl, rfl, rfl⟩
          case measure => have h3 := hgk.out; have h4 := HS2.out.lt; have h5 := HS2.out.le; omega
        · obtain ⟨c0, c1, c2, c3, c4, -⟩ := HX3.out.cells
          have hq0 : 0 < val (limbs q) := by
            rw [val_limbs]
            rcases Nat.eq_zero_or_pos q with h0 | h0
            · subst h0; simp [limbs_zero] at h2
            · exact h0
          have CD := nat_divmod' HA2.out HB2.out (by omega) hq0
          rw [val_limbs, val_limbs] at CD
          rw [val_limbs] at hq0
          have HCD := hid CD
          have HQ0 := hid hq0
          clear HST HSM CD hq0
          go_wp2_with fail
          rw [HW3.out, HG.out]
          refine HCD.out.mono ?_
          rintro e w4 ⟨qq, v, rfl, hqq, hv, hb4⟩
          have HV := hid hv
          have B4 := hid (step_below B3.out hb4)
          have HB4 := hid (HB2.out.below hb4)
          obtain ⟨ta, tc, rfl, -, -, -, -, -⟩ := hqq
          obtain ⟨va, vc, rfl, -, -, -, -, -⟩ := hv
          have HLEN : Hid ((limbs q).length ≤ 1000000000) := by show _ ≤ _; omega
          clear hb4 HCD HW3 HG HX3 c0 c1 c2 c3 c4 HA2 HB2 B3 hpl hqp h2
          go_wp2
          go_roundg (p % q)
          case rel => exact ⟨q, p % q, _, _, _, _, _, _, ⟨HB4.out, HV.out, Nat.le_of_lt (Nat.mod_lt _ HQ0.out), HLEN.out, by rw [Nat.gcd_comm, ← Nat.gcd_rec, Nat.gcd_comm]; exact HGC.out, B4.out⟩, rfl, rfl, rfl⟩
          case measure => have h3 := hgk.out; have h4 := Nat.mod_lt p HQ0.out; omega
      · clear hlx hly
        have HA2 := hid hI.out.seesA; have HB2 := hid hI.out.seesB
        have HLE := hid hI.out.le; have HGC := hid hI.out.gcd; have B3 := hid hI.out.bel
        clear hI
        rcases Nat.eq_zero_or_pos q with h0 | h0
        · subst h0
          have hg0 := HGC.out
          rw [Nat.gcd_zero_right] at hg0
          have HG0 := hid hg0
          have CP := nat_plain' HA2.out (by omega)
          rw [val_limbs] at CP
          have HCP := hid CP
          have e0 : (limbs 0).length = 0 := rfl
          clear hg0 CP HGC
          go_wp2_with fail
          refine HCP.out.mono ?_
          rintro e w4 ⟨v, rfl, hv, hb4⟩
          have HV := hid hv; have B4 := hid (step_below B3.out hb4)
          clear hv hb4 HCP
          go_wp2
          go_ret
          refine ⟨_, rfl, ?_, B4.out⟩
          have := HV.out
          rw [HG0.out] at this
          rw [HXE.out, HYE.out]
          exact this
        · have hq64 : q < 18446744073709551616 := by
            have h3 := lt_pow_length q
            have h4 : 4294967296 ^ (limbs q).length ≤ 4294967296 ^ 2 := Nat.pow_le_pow_right (by decide) (by omega)
            have h5 : (4294967296 : Nat) ^ 2 = 18446744073709551616 := by decide
            omega
          obtain ⟨s, hs⟩ : ∃ s, s = p % q := ⟨_, rfl⟩
          have hsq : s < q := by rw [hs]; exact Nat.mod_lt _ h0
          have CD := nat_divmod' HA2.out HB2.out (by omega) (by rw [val_limbs]; exact h0)
          rw [val_limbs, val_limbs, ← hs] at CD
          have HCD := hid CD
          have hg2 : Nat.gcd q s = Nat.gcd X Y := by rw [hs, Nat.gcd_comm, ← Nat.gcd_rec, Nat.gcd_comm]; exact HGC.out
          have HG2 := hid hg2
          have ex : q % 4294967296 + q / 4294967296 % 4294967296 * 4294967296 = q := by omega
          have ey : s % 4294967296 + s / 4294967296 % 4294967296 * 4294967296 = s := by omega
          have C1 := fun w' (h : Sees w' (.slice b (limbs q).length cb) (limbs q)) => nat_wordAt0 _ _ _ _ w' h (limb_zero q) (limb_one q)
          have C2 := fun w' v (h : Sees w' v (limbs s)) => nat_wordAt0 _ _ _ _ w' h (limb_zero s) (limb_one s)
          rw [ex] at C1
          rw [ey] at C2
          have HC1 := hid C1; have HC2 := hid C2
          have hgl : Nat.gcd q s < 18446744073709551616 := by
            have := Nat.gcd_le_left s h0
            omega
          have HC3 := hid (fun w' => nat_wordGcd q s hq64 (by omega) w')
          have HC4 := hid (fun w' => nat_fromWord _ hgl w')
          obtain ⟨G, hG⟩ : ∃ G, Nat.gcd q s = G := ⟨_, rfl⟩
          rw [hG] at HC4 HC3 HG2
          have hbl : ¬ ((limbs q).length : Int) = 0 := by have := (limbs_last h0).1; omega
          clear hs CD hg2 ex ey C1 C2 hgl hG HGC
          go_wp2_with fail
          refine HCD.out.mono ?_
          rintro e w4 ⟨qq, v, rfl, hqq, hv, hb4⟩
          have HV := hid hv
          have B4 := hid (step_below B3.out hb4)
          have HB4 := hid (HB2.out.below hb4)
          obtain ⟨ta, tc, rfl, -, -, -, -, -⟩ := hqq
          obtain ⟨va, vc, rfl, -, -, -, -, -⟩ := hv
          clear hb4 HCD HA2 HB2 B3
          go_wp2_with fail
          refine (HC1.out _ HB4.out).mono ?_
          rintro e w5 ⟨rfl, rfl⟩
          go_wp2_with fail
          refine (HC2.out _ _ HV.out).mono ?_
          rintro e w6 ⟨rfl, rfl⟩
          go_wp2_with fail
          refine (HC3.out _).mono ?_
          rintro e w7 ⟨rfl, hb7⟩
          have B7 := hid (step_below B4.out hb7)
          clear hb7
          go_wp2_with fail
          refine (HC4.out _).mono ?_
          rintro e w8 ⟨v, rfl, hv8, hb8⟩
          have HV8 := hid hv8; have B8 := hid (step_below B7.out hb8)
          clear hv8 hb8
          go_wp2
          go_ret
          refine ⟨_, rfl, ?_, B8.out⟩
          have := HV8.out
          rw [HG2.out] at this
          rw [HXE.out, HYE.out]
          exact this
  · have I0 : Hid (GcdAt w w1 X Y 1000000000 X Y A B (limbs X).length (limbs X).length (limbs Y).length (limbs Y).length) := ⟨HA1.out, HB1.out, Nat.le_of_not_lt (fun h => hlt (HZ.out.2 h)), hlx, rfl, HBEL.out⟩
    obtain ⟨n0, hn0⟩ : ∃ n, n = Y := ⟨_, rfl⟩
    have I1 : Hid (Y = n0) := hn0.symm
    clear HA1 HB1 HZ HBEL hn0
    go_wp2
    go_loopg [0, 1] n0 (fun gh v0 v1 wr => ∃ (p q : Nat) (a b : Option Addr) (la ca lb cb : Nat), Hid (GcdAt w wr X Y 1000000000 p q a b la ca lb cb) ∧ v0 = .slice a la ca ∧ v1 = .slice b lb cb ∧ Hid (q = gh))
    case atStart => exact ⟨_, _, _, _, _, _, _, _, I0, rfl, rfl, I1⟩
    case round =>
      clear I0 I1
      obtain ⟨p, q, a, b, la, ca, lb, cb, hI, rfl, rfl, hgk⟩ := hrel
      have hpl := hI.out.len
      have hqp := limbs_length_mono hI.out.le
      obtain rfl : lb = (limbs q).length := hI.out.seesB.len_eq.1
      by_cases h2 : 2 < (limbs q).length
      · have HLK := hid (nat_lookAhead a b la ca _ cb p q wr hI.out.seesA hI.out.seesB (by omega) hI.out.le (by omega))
        clear hlx hly
        go_wp2_with fail
        refine HLK.out.mono ?_
        rintro e w2 ⟨aa, ab, ba, bb, o, rfl, hsm, hst, hb2⟩
        have HSM := hid hsm; have HST := hid hst
        have HA2 := hid (hI.out.seesA.below hb2); have HB2 := hid (hI.out.seesB.below hb2)
        have hab : ab < 4294967296 := hsm.2.1
        obtain ⟨g, hg⟩ : ∃ g, g = w2.heap.size := ⟨_, rfl⟩
        obtain ⟨w3, hw3⟩ : ∃ x, x = w2.alloc (.cells #[.int .u64 (aa : Nat), .int .u64 (ab : Nat), .int .u64 (ba : Nat), .int .u64 (bb : Nat), .bool o] 68) := ⟨_, rfl⟩
        have hb3 : Below w2.heap.size w2 w3 := by rw [hw3]; exact (Below.refl _ w2).alloc (Nat.le_refl _) _
        have HX3 : Hid (Box5 w3 g (.int .u64 (aa : Nat)) (.int .u64 (ab : Nat)) (.int .u64 (ba : Nat)) (.int .u64 (bb : Nat)) (.bool o)) := by rw [hw3, hg]; exact Box5.new w2 _ _ _ _ _ _
        have B3 := hid (step_below (step_below hI.out.bel hb2) hb3)
        replace HA2 := hid (HA2.out.below hb3); replace HB2 := hid (HB2.out.below hb3)
        have HW3 := hid hw3.symm; have HG := hid hg.symm
        have HLE := hid hI.out.le; have HGC := hid hI.out.gcd
        clear hsm hst hb2 hw3 hg hb3 HLK hI
        by_cases h0 : 0 < ab
        · obtain ⟨p2, q2, hs2⟩ := HST.out h0
          have HAP := hid (nat_apply HA2.out HB2.out hs2 HSM.out hqp (by omega))
          have HS2 := hid hs2
          obtain ⟨c0, c1, c2, c3, c4, -⟩ := HX3.out.cells
          clear HST HSM hs2
          go_wp2_with fail
          rw [HW3.out, HG.out]
          refine HAP.out.mono ?_
          rintro e w4 ⟨u, v, rfl, hu, hv, hb4⟩
          have HU := hid hu; have HV := hid hv
          have B4 := hid (step_below B3.out hb4)
          obtain ⟨ua, uc, rfl, -, -, -, -, -⟩ := hu
          obtain ⟨va, vc, rfl, -, -, -, -, -⟩ := hv
          have hlen : (limbs p2).length ≤ 1000000000 := by
            have := limbs_length_mono (Nat.le_trans HS2.out.le HLE.out)
            omega
          have HLEN := hid hlen
          clear hb4 HAP HW3 HG HX3 c0 c1 c2 c3 c4 HA2 HB2 B3 hlen hpl hqp h2
          go_wp2
          go_roundg q2
          case rel => exact ⟨p2, q2, _, _, _, _, _, _, ⟨HU.out, HV.out, Nat.le_of_lt HS2.out.lt, HLEN.out, HS2.out.gcd.trans HGC.out, B4.out⟩, rfl, rfl, rfl⟩
          case measure => have h3 := hgk.out; have h4 := HS2.out.lt; have h5 := HS2.out.le; omega
        · obtain ⟨c0, c1, c2, c3, c4, -⟩ := HX3.out.cells
          have hq0 : 0 < val (limbs q) := by
            rw [val_limbs]
            rcases Nat.eq_zero_or_pos q with h0 | h0
            · subst h0; simp [limbs_zero] at h2
            · exact h0
          have CD := nat_divmod' HA2.out HB2.out (by omega) hq0
          rw [val_limbs, val_limbs] at CD
          rw [val_limbs] at hq0
          have HCD := hid CD
          have HQ0 := hid hq0
          clear HST HSM CD hq0
          go_wp2_with fail
          rw [HW3.out, HG.out]
          refine HCD.out.mono ?_
          rintro e w4 ⟨qq, v, rfl, hqq, hv, hb4⟩
          have HV := hid hv
          have B4 := hid (step_below B3.out hb4)
          have HB4 := hid (HB2.out.below hb4)
          obtain ⟨ta, tc, rfl, -, -, -, -, -⟩ := hqq
          obtain ⟨va, vc, rfl, -, -, -, -, -⟩ := hv
          have HLEN : Hid ((limbs q).length ≤ 1000000000) := by show _ ≤ _; omega
          clear hb4 HCD HW3 HG HX3 c0 c1 c2 c3 c4 HA2 HB2 B3 hpl hqp h2
          go_wp2
          go_roundg (p % q)
          case rel => exact ⟨q, p % q, _, _, _, _, _, _, ⟨HB4.out, HV.out, Nat.le_of_lt (Nat.mod_lt _ HQ0.out), HLEN.out, by rw [Nat.gcd_comm, ← Nat.gcd_rec, Nat.gcd_comm]; exact HGC.out, B4.out⟩, rfl, rfl, rfl⟩
          case measure => have h3 := hgk.out; have h4 := Nat.mod_lt p HQ0.out; omega
      · clear hlx hly
        have HA2 := hid hI.out.seesA; have HB2 := hid hI.out.seesB
        have HLE := hid hI.out.le; have HGC := hid hI.out.gcd; have B3 := hid hI.out.bel
        clear hI
        rcases Nat.eq_zero_or_pos q with h0 | h0
        · subst h0
          have hg0 := HGC.out
          rw [Nat.gcd_zero_right] at hg0
          have HG0 := hid hg0
          have CP := nat_plain' HA2.out (by omega)
          rw [val_limbs] at CP
          have HCP := hid CP
          have e0 : (limbs 0).length = 0 := rfl
          clear hg0 CP HGC
          go_wp2_with fail
          refine HCP.out.mono ?_
          rintro e w4 ⟨v, rfl, hv, hb4⟩
          have HV := hid hv; have B4 := hid (step_below B3.out hb4)
          clear hv hb4 HCP
          go_wp2
          go_ret
          refine ⟨_, rfl, ?_, B4.out⟩
          have := HV.out
          rw [HG0.out] at this
          rw [HXE.out, HYE.out]
          exact this
        · have hq64 : q < 18446744073709551616 := by
            have h3 := lt_pow_length q
            have h4 : 4294967296 ^ (limbs q).length ≤ 4294967296 ^ 2 := Nat.pow_le_pow_right (by decide) (by omega)
            have h5 : (4294967296 : Nat) ^ 2 = 18446744073709551616 := by decide
            omega
          obtain ⟨s, hs⟩ : ∃ s, s = p % q := ⟨_, rfl⟩
          have hsq : s < q := by rw [hs]; exact Nat.mod_lt _ h0
          have CD := nat_divmod' HA2.out HB2.out (by omega) (by rw [val_limbs]; exact h0)
          rw [val_limbs, val_limbs, ← hs] at CD
          have HCD := hid CD
          have hg2 : Nat.gcd q s = Nat.gcd X Y := by rw [hs, Nat.gcd_comm, ← Nat.gcd_rec, Nat.gcd_comm]; exact HGC.out
          have HG2 := hid hg2
          have ex : q % 4294967296 + q / 4294967296 % 4294967296 * 4294967296 = q := by omega
          have ey : s % 4294967296 + s / 4294967296 % 4294967296 * 4294967296 = s := by omega
          have C1 := fun w' (h : Sees w' (.slice b (limbs q).length cb) (limbs q)) => nat_wordAt0 _ _ _ _ w' h (limb_zero q) (limb_one q)
          have C2 := fun w' v (h : Sees w' v (limbs s)) => nat_wordAt0 _ _ _ _ w' h (limb_zero s) (limb_one s)
          rw [ex] at C1
          rw [ey] at C2
          have HC1 := hid C1; have HC2 := hid C2
          have hgl : Nat.gcd q s < 18446744073709551616 := by
            have := Nat.gcd_le_left s h0
            omega
          have HC3 := hid (fun w' => nat_wordGcd q s hq64 (by omega) w')
          have HC4 := hid (fun w' => nat_fromWord _ hgl w')
          obtain ⟨G, hG⟩ : ∃ G, Nat.gcd q s = G := ⟨_, rfl⟩
          rw [hG] at HC4 HC3 HG2
          have hbl : ¬ ((limbs q).length : Int) = 0 := by have := (limbs_last h0).1; omega
          clear hs CD hg2 ex ey C1 C2 hgl hG HGC
          go_wp2_with fail
          refine HCD.out.mono ?_
          rintro e w4 ⟨qq, v, rfl, hqq, hv, hb4⟩
          have HV := hid hv
          have B4 := hid (step_below B3.out hb4)
          have HB4 := hid (HB2.out.below hb4)
          obtain ⟨ta, tc, rfl, -, -, -, -, -⟩ := hqq
          obtain ⟨va, vc, rfl, -, -, -, -, -⟩ := hv
          clear hb4 HCD HA2 HB2 B3
          go_wp2_with fail
          refine (HC1.out _ HB4.out).mono ?_
          rintro e w5 ⟨rfl, rfl⟩
          go_wp2_with fail
          refine (HC2.out _ _ HV.out).mono ?_
          rintro e w6 ⟨rfl, rfl⟩
          go_wp2_with fail
          refine (HC3.out _).mono ?_
          rintro e w7 ⟨rfl, hb7⟩
          have B7 := hid (step_below B4.out hb7)
          clear hb7
          go_wp2_with fail
          refine (HC4.out _).mono ?_
          rintro e w8 ⟨v, rfl, hv8, hb8⟩
          have HV8 := hid hv8; have B8 := hid (step_below B7.out hb8)
          clear hv8 hb8
          go_wp2
          go_ret
          refine ⟨_, rfl, ?_, B8.out⟩
          have := HV8.out
          rw [HG2.out] at this
          rw [HXE.out, HYE.out]
          exact this
end Go.Proofs.YtfjanomjmlcgaaaDoor

set_option linter.unusedVariables false
set_option linter.unusedSimpArgs false
namespace Go.Proofs.YtfjanomjmlcgaaaDoor
open Go.RowKit

theorem limbs_length_mono' {x y : Nat} (h : x ≤ y) : (limbs x).length ≤ (limbs y).length := by
  rcases Nat.lt_or_ge (limbs y).length (limbs x).length with h1 | h1
  · have := limbs_length_lt h1; omega
  · exact h1

structure RefGcdAt (w wr : World) (X Y p q : Nat) (a b : Option Addr) (la ca lb cb : Nat) : Prop where
  seesA : Sees wr (.slice a la ca) (limbs p)
  seesB : Sees wr (.slice b lb cb) (limbs q)
  lenA : (limbs p).length ≤ 100000
  lenB : (limbs q).length ≤ 100000
  gcd : Nat.gcd p q = Nat.gcd X Y
  bel : Below w.heap.size w wr

set_option maxRecDepth 100000 in
set_option maxHeartbeats 4000000 in
theorem ref_gcd {a b : Value} {l m : List Nat} {w : World} (ha : Sees w a l) (hb : Sees w b m) (hl : l.length ≤ 100000) (hm : m.length ≤ 100000) :
    Calls Tryd.prog 19 #[a, b] w fun e w' => IsNum w (Nat.gcd (val l) (val m)) e w' := by
  have hlp := (limbs_prefix ha.ok).2
  have hlq := (limbs_prefix hb.ok).2
  have HA := hid ha; have HB := hid hb
  clear ha hb
  go_enter Tryd.func19, Tryd.ntmps19
  go_wp2_with fail
  refine (ref_plain' HA.out (by omega)).mono ?_
  rintro e w1 ⟨va, rfl, hs1, hb1⟩
  have HB1 := hid (HB.out.below hb1); have B1 := hid hb1; have HS1 := hid hs1
  clear hs1 hb1 HA HB
  go_wp2_with fail
  refine (ref_plain' HB1.out (by omega)).mono ?_
  rintro e w2 ⟨vb, rfl, hs2, hb2⟩
  have B2 := hid (step_below B1.out hb2)
  have HS2 := hid (HS1.out.below hb2); have HT2 := hid hs2
  clear hb2 HB1 B1 HS1 hs2
  obtain ⟨X, hX⟩ : ∃ X, val l = X := ⟨_, rfl⟩
  obtain ⟨Y, hY⟩ : ∃ Y, val m = Y := ⟨_, rfl⟩
  rw [hX] at HS2 hlp
  rw [hY] at HT2 hlq
  have HX := hid hX; have HY := hid hY
  obtain ⟨A, cA, rfl, -, -, -, -, -⟩ := id HS2.out
  obtain ⟨B, cB, rfl, -, -, -, -, -⟩ := id HT2.out
  have I0 : Hid (RefGcdAt w w2 X Y X Y A B (limbs X).length cA (limbs Y).length cB) := ⟨HS2.out, HT2.out, by omega, by omega, rfl, B2.out⟩
  clear hX hY hl hm hlp hlq HS2 HT2 B2
  go_wp2
  go_loopg [0, 1] Y (fun gh v0 v1 wr => ∃ (p q : Nat) (a b : Option Addr) (la ca lb cb : Nat), Hid (RefGcdAt w wr X Y p q a b la ca lb cb) ∧ v0 = .slice a la ca ∧ v1 = .slice b lb cb ∧ Hid (q = gh))
  case atStart => exact ⟨_, _, _, _, _, _, _, _, I0, rfl, rfl, rfl⟩
  case round =>
    clear I0
    obtain ⟨p, q, a, b, la, ca, lb, cb, hI, rfl, rfl, hgk⟩ := hrel
    obtain rfl : lb = (limbs q).length := hI.out.seesB.len_eq.1
    have hpl := hI.out.lenA
    have hql := hI.out.lenB
    have HA2 := hid hI.out.seesA; have HB2 := hid hI.out.seesB
    have HGC := hid hI.out.gcd; have B3 := hid hI.out.bel
    clear hI
    rcases Nat.eq_zero_or_pos q with h0 | h0
    · subst h0
      have hg0 := HGC.out
      rw [Nat.gcd_zero_right] at hg0
      have HG0 := hid hg0
      have e0 : (limbs 0).length = 0 := rfl
      clear hg0 HGC
      go_wp2
      go_ret
      refine ⟨_, rfl, ?_, B3.out⟩
      have := HA2.out
      rw [HG0.out] at this
      rw [HX.out, HY.out]
      exact this
    · have hbl : 0 < (limbs q).length := (limbs_last h0).1
      go_wp2_with fail
      refine (ref_small_any HA2.out (by omega)).mono ?_
      rintro e w3 ⟨x, bx, rfl, hx1, hx2, hb3⟩
      have B4 := hid (step_below B3.out hb3)
      have HS3 := hid (HA2.out.below hb3); have HT3 := hid (HB2.out.below hb3)
      rw [val_limbs] at hx1 hx2
      clear hb3 HA2 HB2 B3 hx2
      go_wp2_with fail
      refine (ref_small_any HT3.out (by omega)).mono ?_
      rintro e w4 ⟨y, bY, rfl, hy1, hy2, hb4⟩
      have B5 := hid (step_below B4.out hb4)
      have HS4 := hid (HS3.out.below hb4); have HT4 := hid (HT3.out.below hb4)
      rw [val_limbs] at hy1 hy2
      clear hb4 HS3 HT3 B4 hy2
      by_cases hboth : bx = true ∧ bY = true
      · obtain ⟨rfl, rfl⟩ := hboth
        obtain ⟨rfl, hxl⟩ := hx1.out rfl
        obtain ⟨rfl, hyl⟩ := hy1.out rfl
        clear hx1 hy1 HS4 HT4 hbl hpl hql
        go_wp2
        go_loopg [5, 7] y (fun gh v5 v7 ws => ∃ s t : Nat, v5 = .int .i64 s ∧ v7 = .int .i64 t ∧ Hid (t = gh) ∧ s < 9223372036854775808 ∧ t < 9223372036854775808 ∧ Hid (Nat.gcd s t = Nat.gcd X Y) ∧ Hid (Below w.heap.size w ws))
        case atStart => exact ⟨x, y, rfl, rfl, rfl, hxl, hyl, HGC, B5⟩
        case round =>
          clear hgk HGC B5 hxl hyl h0
          obtain ⟨s, t, rfl, rfl, hgk, hs, ht, hgc, hbel⟩ := hrel
          rcases Nat.eq_zero_or_pos t with h0 | h0
          · subst h0
            have hg0 := hgc.out
            rw [Nat.gcd_zero_right] at hg0
            have HG0 := hid hg0
            have CO := ref_of (s : Int) (by omega) (by omega)
            rw [Int.toNat_natCast] at CO
            have HCO := hid CO
            clear CO hg0 hgc hgk
            go_wp2_with fail
            refine (HCO.out _).mono ?_
            rintro e w5 ⟨v, rfl, hv, hb5⟩
            have HV := hid hv; have B6 := hid (step_below hbel.out hb5)
            clear hv hb5 HCO
            go_wp2
            try rw [Exit.noGoto_ret]
            go_ret
            refine ⟨_, rfl, ?_, B6.out⟩
            have := HV.out
            rw [HG0.out] at this
            rw [HX.out, HY.out]
            exact this
          · obtain ⟨r, hr⟩ : ∃ r, r = s % t := ⟨_, rfl⟩
            have er1 : (s : Int) % (t : Int) = (r : Int) := by rw [hr]; exact (Int.natCast_emod _ _).symm
            have er2 : Int.tmod (s : Int) (t : Int) = (r : Int) := by rw [Int.tmod_eq_emod_of_nonneg (by omega)]; exact er1
            have hrq : r < t := by rw [hr]; exact Nat.mod_lt _ h0
            have ew2 : IntKind.i64.wrap (r : Int) = (r : Int) := by rw [IntKind.wrap_i64]; omega
            have hy0 : ¬ (t : Int) = 0 := by omega
            have hg2 : Nat.gcd t r = Nat.gcd X Y := by rw [hr, Nat.gcd_comm, ← Nat.gcd_rec, Nat.gcd_comm]; exact hgc.out
            have HG := hid hg2
            clear hr hg2 hgc
            go_wp2
            go_region
            all_goals
              go_wp2
              go_roundg r
              case rel => exact ⟨t, r, rfl, rfl, rfl, ht, by omega, HG, by first | exact hbel | exact hbel.out.drew⟩
              case measure => have := hgk.out; omega
      · have CD := ref_div_pos HS4.out HT4.out (by omega) (by omega) (by rw [val_limbs]; exact h0)
        rw [val_limbs, val_limbs] at CD
        have HCD := hid CD
        have HNOT := hid hboth
        clear hx1 hy1 CD hboth
        cases bx <;> cases bY
        all_goals first
          | (exact absurd ⟨rfl, rfl⟩ HNOT.out)
          | skip
        all_goals
          clear HNOT
          go_wp2_with fail
          refine HCD.out.mono ?_
          rintro e w5 ⟨qq, v, rfl, hqq, hv, hb5⟩
          have HV := hid hv
          have B6 := hid (step_below B5.out hb5)
          have HB5 := hid (HT4.out.below hb5)
          obtain ⟨ta, tc, rfl, -, -, -, -, -⟩ := hqq
          obtain ⟨va, vc, rfl, -, -, -, -, -⟩ := hv
          have HQ0 := hid h0
          have hrl : (limbs (p % q)).length ≤ (limbs q).length := limbs_length_mono' (Nat.le_of_lt (Nat.mod_lt _ h0))
          have HLA : Hid ((limbs q).length ≤ 100000) := hql
          have HLB : Hid ((limbs (p % q)).length ≤ 100000) := by show _ ≤ _; omega
          clear hb5 HCD HS4 HT4 B5 hpl hql hrl
          go_wp2
          go_roundg (p % q)
          case rel => exact ⟨q, p % q, _, _, _, _, _, _, ⟨HB5.out, HV.out, HLA.out, HLB.out, by rw [Nat.gcd_comm, ← Nat.gcd_rec, Nat.gcd_comm]; exact HGC.out, B6.out⟩, rfl, rfl, rfl⟩
          case measure => have h3 := hgk.out; have h4 := Nat.mod_lt p HQ0.out; omega
end Go.Proofs.YtfjanomjmlcgaaaDoor
