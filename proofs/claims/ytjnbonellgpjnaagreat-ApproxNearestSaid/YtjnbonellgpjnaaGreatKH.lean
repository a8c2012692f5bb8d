/- Euclid's steps on the highest digits: the numbers. No program in it. nat.wordGcd, nat.wordAt at any place by their contracts. nat.combine by its contract. -/
import Derived.Test.YtjnbonellgpjnaaGreatKD
set_option linter.unusedVariables false
set_option linter.unusedSimpArgs false
namespace Go.Proofs.YtjnbonellgpjnaaGreat

/-- A sign, as the number of steps says it. -/
def sgn (odd : Bool) : Int := if odd then -1 else 1
theorem sgn_sq (o : Bool) : sgn o * sgn o = 1 := by cases o <;> rfl
theorem sgn_not (o : Bool) : sgn (!o) = -sgn o := by cases o <;> rfl
theorem sgn_cases (o : Bool) : sgn o = 1 ∨ sgn o = -1 := by cases o <;> simp [sgn]

/-- What is known at the head of each round: of the highest digits X and Y of A and B (P a power of two, al and be what stands below). -/
structure Look (A B X Y P : Nat) (x y aa ab ba bb na nb : Nat) (o : Bool) : Prop where
  le : y ≤ x
  sumX : x * nb + y * bb = X
  sumY : x * na + y * ba = Y
  eqx : (x : Int) = sgn o * ((ba : Int) * X - bb * Y)
  eqy : (y : Int) = -(sgn o * ((na : Int) * X - nb * Y))
  det : sgn o * ((ba : Int) * nb - bb * na) = 1
  nle : na ≤ nb
  sle : ba + na ≤ bb + nb
  pos : 0 < nb
  smalls : aa < 4294967296 ∧ ab < 4294967296 ∧ ba < 4294967296 ∧ bb < 4294967296
  low : 0 < bb → sgn o * ((ba : Int) * A - bb * B) ≤ B
  fit : 0 < ab → 0 < bb ∧ 0 ≤ sgn o * ((ba : Int) * A - bb * B) ∧ sgn o * ((ba : Int) * A - bb * B) < -(sgn o * ((aa : Int) * A - ab * B)) ∧ -(sgn o * ((aa : Int) * A - ab * B)) ≤ B ∧ -(sgn o * ((aa : Int) * bb - ab * ba)) = 1
  nxt : 0 < bb → ab = 0 → aa * bb = 1 ∧ ba = 0

theorem Look.start {A B X Y P : Nat} (h : Y ≤ X) : Look A B X Y P X Y 0 0 1 0 0 1 false := by
  refine ⟨h, by omega, by omega, by simp [sgn], by simp [sgn], by simp [sgn], by omega, by omega, by omega, by omega, fun h => absurd h (by omega), fun h => absurd h (by omega), fun h => absurd h (by omega)⟩

/-- Two products of numbers below P, one of them taken. -/
theorem pair_bound {u v al be P : Nat} (hal : al < P) (hbe : be < P) (h : u ≤ v) (s : Int) (hs : s = 1 ∨ s = -1) (hv : 0 < v) : -((v : Int) * P) < s * ((u : Int) * al - v * be) := by
  have h1 : u * al ≤ v * al := Nat.mul_le_mul_right _ h
  have h2 : v * al < v * P := Nat.mul_lt_mul_of_pos_left hal hv
  have h3 : v * be < v * P := Nat.mul_lt_mul_of_pos_left hbe hv
  have e1 : ((u : Int) * al) = ((u * al : Nat) : Int) := (Int.natCast_mul ..).symm
  have e2 : ((v : Int) * be) = ((v * be : Nat) : Int) := (Int.natCast_mul ..).symm
  have e3 : ((v : Int) * P) = ((v * P : Nat) : Int) := (Int.natCast_mul ..).symm
  rw [e1, e2, e3]
  generalize u * al = a at *
  generalize v * be = b at *
  generalize v * P = c at *
  rcases hs with rfl | rfl <;> omega

/-- A round, where its condition holds. -/
theorem Look.step {A B X Y P al be : Nat} {x y aa ab ba bb na nb q r : Nat} {o : Bool} (h : Look A B X Y P x y aa ab ba bb na nb o) (hX : X < 18446744073709551616)
    (hA : A = X * P + al) (hB : B = Y * P + be) (hal : al < P) (hbe : be < P) (h1 : nb ≤ y) (h2 : bb + nb ≤ x - y) (hq : x = y * q + r) (hr : r < y) :
    Look A B X Y P y r ba bb na nb (ba + q * na) (bb + q * nb) (!o) := by
  have hq1 : 1 ≤ q := by
    rcases Nat.eq_zero_or_pos q with h0 | h0
    · subst h0; have := h.pos; omega
    · exact h0
  have hP : 0 < P := by omega
  have hpos := h.pos
  have hle := h.le
  have hsx := h.sumX
  have hsy := h.sumY
  have hnn : nb < 4294967296 := by
    have : nb * nb ≤ x * nb := Nat.mul_le_mul_right _ (by omega)
    rcases Nat.lt_or_ge nb 4294967296 with h3 | h3
    · exact h3
    · have := Nat.mul_le_mul h3 h3; omega
  have hs := sgn_cases o
  have hex := h.eqx
  have hey := h.eqy
  have hdet := h.det
  obtain ⟨s, hs'⟩ : ∃ s, sgn o = s := ⟨_, rfl⟩
  have hnle := h.nle
  have hsle := h.sle
  have hlow := h.low
  have hnxt := h.nxt
  have hfit := h.fit
  have hqn : nb ≤ q * nb := Nat.le_mul_of_pos_left _ hq1
  have hqna : ba + q * na ≤ bb + q * nb := by
    obtain ⟨k, rfl⟩ : ∃ k, q = k + 1 := ⟨q - 1, by omega⟩
    have := Nat.mul_le_mul_left k hnle
    rw [Nat.succ_mul, Nat.succ_mul]
    omega
  -- the numbers themselves
  have eA : (A : Int) = X * P + al := by rw [hA]; simp
  have eB : (B : Int) = Y * P + be := by rw [hB]; simp
  have R1 : -(sgn o * ((na : Int) * A - nb * B)) = (y : Int) * P + -(sgn o) * ((na : Int) * al - nb * be) := by
    rw [hey, eA, eB]; grind
  have R0 : sgn o * ((ba : Int) * A - bb * B) + sgn o * ((na : Int) * A - nb * B) = ((x : Int) - y) * P + sgn o * (((ba + na : Nat) : Int) * al - ((bb + nb : Nat) : Int) * be) := by
    rw [hex, hey, eA, eB]; simp only [Int.natCast_add]; grind
  have b1 := pair_bound hal hbe hnle (-(sgn o)) (by rcases hs with h | h <;> rw [h] <;> simp) hpos
  have b2 := pair_bound (u := ba + na) (v := bb + nb) hal hbe hsle (sgn o) hs (by omega)
  have p1 : (nb : Int) * P ≤ (y : Int) * P := Int.mul_le_mul_of_nonneg_right (by omega) (by omega)
  have p2 : ((bb + nb : Nat) : Int) * P ≤ ((x : Int) - y) * P := Int.mul_le_mul_of_nonneg_right (by omega) (by omega)
  have g1 : 0 < -(sgn o * ((na : Int) * A - nb * B)) := by rw [R1]; omega
  have g2 : -(sgn o * ((na : Int) * A - nb * B)) < sgn o * ((ba : Int) * A - bb * B) := by omega
  have lowN : -(sgn o * ((na : Int) * A - nb * B)) ≤ B := by
    rcases Nat.eq_zero_or_pos bb with h0 | h0
    · -- the first round: the next one is B itself
      subst h0
      simp only [Int.natCast_zero, Int.zero_mul, Int.sub_zero] at hdet hex g2
      have hd : ba = 1 ∧ nb = 1 ∧ sgn o = 1 := by
        have hz : sgn o * ((ba : Int) * nb) = 1 := hdet
        rcases hs with h3 | h3
        · rw [h3, Int.one_mul] at hz
          have hz' : ba * nb = 1 := by rw [← Int.natCast_mul] at hz; omega
          exact ⟨Nat.eq_one_of_mul_eq_one_right hz', Nat.eq_one_of_mul_eq_one_left hz', h3⟩
        · rw [h3, ← Int.natCast_mul] at hz; omega
      obtain ⟨rfl, rfl, h5⟩ := hd
      have : na = 0 := by omega
      subst this
      rw [h5]
      simp
    · have := hlow h0; omega
  refine ⟨by omega, ?_, ?_, ?_, ?_, ?_, by omega, by omega, by omega, ⟨h.smalls.2.2.1, h.smalls.2.2.2, by omega, hnn⟩, fun _ => ?_, fun h3 => ?_, fun _ h3 => ?_⟩
  · rw [Nat.mul_add, ← hsx, hq, Nat.add_mul]
    have : y * (q * nb) = y * q * nb := (Nat.mul_assoc ..).symm
    omega
  · rw [Nat.mul_add, ← hsy, hq, Nat.add_mul]
    have : y * (q * na) = y * q * na := (Nat.mul_assoc ..).symm
    omega
  · rw [sgn_not, hey]; grind
  · have e : (r : Int) = x - y * q := by rw [hq]; simp; omega
    rw [sgn_not, e, hex, hey]; simp only [Int.natCast_add, Int.natCast_mul]; grind
  · rw [sgn_not]; simp only [Int.natCast_add, Int.natCast_mul]; grind
  · rw [sgn_not]; have := lowN; grind
  · rw [sgn_not]
    refine ⟨hpos, by grind, by grind, ?_, by grind⟩
    have := hlow h3
    grind
  · subst h3
    simp only [Int.natCast_zero, Int.zero_mul, Int.sub_zero] at hdet
    have hz : ba * nb = 1 := by
      have hz : sgn o * ((ba : Int) * nb) = 1 := hdet
      rcases hs with h3 | h3
      · rw [h3, Int.one_mul, ← Int.natCast_mul] at hz; omega
      · rw [h3, ← Int.natCast_mul] at hz; omega
    refine ⟨hz, ?_⟩
    have := Nat.eq_one_of_mul_eq_one_right hz
    have := Nat.eq_one_of_mul_eq_one_left hz
    omega

/-- What the steps make of both numbers. -/
structure Steps (A B aa ab ba bb : Nat) (o : Bool) (a b : Nat) : Prop where
  eqa : if o then a + ab * B = aa * A else a + aa * A = ab * B
  eqb : if o then b + ba * A = bb * B else b + bb * B = ba * A
  lt : b < a
  le : a ≤ B
  gcd : Nat.gcd a b = Nat.gcd A B

theorem gcd_of {A B a b p q r s p' q' r' s' : Nat} (h1 : A = p * a + q * b) (h2 : B = r * a + s * b) (h3 : a + q' * B = p' * A) (h4 : b + r' * A = s' * B) : Nat.gcd a b = Nat.gcd A B := by
  apply Nat.dvd_antisymm
  · have da := Nat.gcd_dvd_left a b
    have db := Nat.gcd_dvd_right a b
    apply Nat.dvd_gcd
    · rw [h1]; exact Nat.dvd_add (Nat.dvd_mul_left_of_dvd da _) (Nat.dvd_mul_left_of_dvd db _)
    · rw [h2]; exact Nat.dvd_add (Nat.dvd_mul_left_of_dvd da _) (Nat.dvd_mul_left_of_dvd db _)
  · have da := Nat.gcd_dvd_left A B
    have db := Nat.gcd_dvd_right A B
    apply Nat.dvd_gcd
    · refine (Nat.dvd_add_iff_left (Nat.dvd_mul_left_of_dvd db q')).2 ?_
      rw [h3]; exact Nat.dvd_mul_left_of_dvd da _
    · refine (Nat.dvd_add_iff_left (Nat.dvd_mul_left_of_dvd da r')).2 ?_
      rw [h4]; exact Nat.dvd_mul_left_of_dvd db _

theorem Look.apply {A B X Y P x y aa ab ba bb na nb : Nat} {o : Bool} (h : Look A B X Y P x y aa ab ba bb na nb o) (hab : 0 < ab) : ∃ a b, Steps A B aa ab ba bb o a b := by
  obtain ⟨hbb, f1, f2, f3, f4⟩ := h.fit hab
  obtain ⟨b, hb⟩ := Int.eq_ofNat_of_zero_le f1
  obtain ⟨a, ha⟩ := Int.eq_ofNat_of_zero_le (show 0 ≤ -(sgn o * ((aa : Int) * A - ab * B)) by omega)
  rw [hb, ha] at f2
  rw [ha] at f3
  cases o with
  | true =>
    simp only [sgn, if_true] at hb ha f4
    have e1 : a + ab * B = aa * A := by
      have : (a : Int) + ab * B = aa * A := by grind
      rw [← Int.natCast_mul, ← Int.natCast_mul] at this; omega
    have e2 : b + ba * A = bb * B := by
      have : (b : Int) + ba * A = bb * B := by grind
      rw [← Int.natCast_mul, ← Int.natCast_mul] at this; omega
    have e3 : A = bb * a + ab * b := by
      have : (A : Int) = bb * a + ab * b := by grind
      rw [← Int.natCast_mul, ← Int.natCast_mul] at this; omega
    have e4 : B = ba * a + aa * b := by
      have : (B : Int) = ba * a + aa * b := by grind
      rw [← Int.natCast_mul, ← Int.natCast_mul] at this; omega
    exact ⟨a, b, by simpa using e1, by simpa using e2, by omega, by omega, gcd_of e3 e4 e1 e2⟩
  | false =>
    simp only [sgn] at hb ha f4
    have e1 : a + aa * A = ab * B := by
      have : (a : Int) + aa * A = ab * B := by grind
      rw [← Int.natCast_mul, ← Int.natCast_mul] at this; omega
    have e2 : b + bb * B = ba * A := by
      have : (b : Int) + bb * B = ba * A := by grind
      rw [← Int.natCast_mul, ← Int.natCast_mul] at this; omega
    have e3 : A = bb * a + ab * b := by
      have : (A : Int) = bb * a + ab * b := by grind
      rw [← Int.natCast_mul, ← Int.natCast_mul] at this; omega
    have e4 : B = ba * a + aa * b := by
      have : (B : Int) = ba * a + aa * b := by grind
      rw [← Int.natCast_mul, ← Int.natCast_mul] at this; omega
    refine ⟨a, b, by simpa using e1, by simpa using e2, by omega, by omega, ?_⟩
    rw [Nat.gcd_comm A B]
    exact gcd_of (p := ba) (q := aa) (r := bb) (s := ab) e4 e3 e1 e2

/-- No sum or product of a round leaves 64 bits. -/
theorem Look.fits {A B X Y P x y aa ab ba bb na nb q r : Nat} {o : Bool} (h : Look A B X Y P x y aa ab ba bb na nb o) (hX : X < 18446744073709551616) (h1 : nb ≤ y) (hq : x = y * q + r) :
    bb + nb < 18446744073709551616 ∧ q * na ≤ q * nb ∧ bb + q * nb < 18446744073709551616 ∧ ba + q * na < 18446744073709551616 + 18446744073709551616 := by
  have hs := h.sumX
  have hp := h.pos
  have hle := h.le
  have hy : 0 < y := by omega
  have e1 : bb ≤ y * bb := Nat.le_mul_of_pos_left _ hy
  have e2 : nb ≤ x * nb := Nat.le_mul_of_pos_left _ (by omega)
  have e3 : y * (q * nb) ≤ x * nb := by rw [hq, Nat.add_mul, Nat.mul_assoc]; omega
  have e4 : q * nb ≤ y * (q * nb) := Nat.le_mul_of_pos_left _ hy
  have e5 := Nat.mul_le_mul_left q h.nle
  have e6 := h.smalls.2.2.1
  refine ⟨by omega, e5, by omega, by omega⟩

/-- What 'combine' has done behind i limbs: PL and MI are what was told of both products. -/
structure CombTo (a b : List Nat) (m n i : Nat) (t : List Nat) (p q c : Nat) : Prop where
  lp : p < 4294967296
  lq : q < 4294967296
  lc : c ≤ 1
  len : t.length = a.length
  ok : Ok t
  sum : ∃ pl mi, pl + 4294967296 ^ i * p = valF (fun j => a.getD j 0) i * m ∧ mi + 4294967296 ^ i * q = valF (fun j => b.getD j 0) i * n ∧ seg t 0 i + mi = pl + 4294967296 ^ i * c
theorem CombTo.start (a b : List Nat) (m n : Nat) : CombTo a b m n 0 (List.replicate a.length 0) 0 0 0 :=
  ⟨by omega, by omega, by omega, by simp, Ok.replicate _, 0, 0, by simp [valF], by simp [valF], by simp [seg_zero]⟩
theorem CombTo.step {a b t : List Nat} {m n i p q c lo1 p' lo2 q' x c' : Nat} (h : CombTo a b m n i t p q c) (hi : i < a.length) (hp : p' < 4294967296) (hq : q' < 4294967296) (hx : x < 4294967296) (hc : c' ≤ 1)
    (e1 : p + a.getD i 0 * m = lo1 + 4294967296 * p') (e2 : q + b.getD i 0 * n = lo2 + 4294967296 * q') (e3 : lo1 + 4294967296 * c' = x + lo2 + c) : CombTo a b m n (i + 1) (t.set i x) p' q' c' := by
  obtain ⟨pl, mi, h1, h2, h3⟩ := h.sum
  refine ⟨hp, hq, hc, by rw [List.length_set]; exact h.len, h.ok.set _ _ hx, pl + 4294967296 ^ i * lo1, mi + 4294967296 ^ i * lo2, ?_, ?_, ?_⟩
  · simp only [valF]
    rw [Nat.add_mul, Nat.mul_assoc _ (a.getD i 0), ← h1, Nat.pow_succ, Nat.mul_assoc]
    have := congrArg (4294967296 ^ i * ·) e1
    simp only [Nat.mul_add] at this
    omega
  · simp only [valF]
    rw [Nat.add_mul, Nat.mul_assoc _ (b.getD i 0), ← h2, Nat.pow_succ, Nat.mul_assoc]
    have := congrArg (4294967296 ^ i * ·) e2
    simp only [Nat.mul_add] at this
    omega
  · have hs := seg_set t 0 i x (by rw [Nat.zero_add, h.len]; exact hi)
    rw [Nat.zero_add] at hs
    rw [hs, Nat.pow_succ, Nat.mul_assoc]
    have := congrArg (4294967296 ^ i * ·) e3
    simp only [Nat.mul_add] at this
    omega
theorem CombTo.total {a b t : List Nat} {m n p q c d : Nat} (h : CombTo a b m n a.length t p q c) (hl : b.length = a.length) (hd : d < 4294967296 ^ a.length) (k : Nat) (e : d + val b * n + 4294967296 ^ a.length * k = val a * m ∨ d + val b * n = val a * m + 4294967296 ^ a.length * k) : val t = d := by
  obtain ⟨pl, mi, h1, h2, h3⟩ := h.sum
  rw [← val_valF a a.length (Nat.le_refl _)] at h1
  rw [← val_valF b a.length (by omega)] at h2
  rw [seg_all t _ (by rw [h.len]; exact Nat.le_refl _)] at h3
  have ht := val_lt h.ok
  rw [h.len] at ht
  generalize 4294967296 ^ a.length = M at *
  have key : ∀ u v : Nat, val t + M * u = d + M * v → val t = d := fun u v hh => by
    have h5 := congrArg (· % M) hh
    simp only [Nat.add_mul_mod_self_left] at h5
    rwa [Nat.mod_eq_of_lt ht, Nat.mod_eq_of_lt hd] at h5
  rcases e with e | e
  · refine key p (q + c + k) ?_
    simp only [Nat.mul_add]
    omega
  · refine key (p + k) (q + c) ?_
    simp only [Nat.mul_add]
    omega

/-- 64 digits of a number, from a place on. -/
theorem word_at {l : List Nat} (hok : Ok l) (i n k l0 l1 l2 : Nat) (hnk : n + k = 64) (hn : n < 32) (h0 : l.getD i 0 = l0) (h1 : l.getD (i + 1) 0 = l1) (h2 : l.getD (i + 2) 0 = l2) :
    ∃ c h : Nat, c < 18446744073709551616 ∧ h < 18446744073709551616 ∧ (l0 + l1 * 4294967296) / 2 ^ n = c ∧ l2 * 2 ^ k % 18446744073709551616 = h ∧ (c ||| h) = val l / 2 ^ (32 * i + n) % 18446744073709551616 := by
  have b0 : l0 < 4294967296 := by rw [← h0]; exact hok.getD i
  have b1 : l1 < 4294967296 := by rw [← h1]; exact hok.getD (i + 1)
  have b2 : l2 < 4294967296 := by rw [← h2]; exact hok.getD (i + 2)
  have hpq : 2 ^ n * 2 ^ k = 18446744073709551616 := by rw [← Nat.pow_add, hnk]
  have hn0 := Nat.two_pow_pos n
  have hc : (l0 + l1 * 4294967296) / 2 ^ n < 2 ^ k := Nat.div_lt_of_lt_mul (by rw [hpq]; omega)
  have hk64 : 2 ^ k ≤ 18446744073709551616 := by
    have : 2 ^ k ≤ 2 ^ 64 := Nat.pow_le_pow_right (by decide) (by omega)
    simpa using this
  have eh : l2 * 2 ^ k % 18446744073709551616 = 2 ^ k * (l2 % 2 ^ n) := by
    rw [← hpq, Nat.mul_comm l2, Nat.mul_comm (2 ^ n), Nat.mul_mod_mul_left]
  have hor := Nat.two_pow_add_eq_or_of_lt hc (l2 % 2 ^ n)
  have hm : l2 % 2 ^ n < 2 ^ n := Nat.mod_lt _ hn0
  have hhl : 2 ^ k * (l2 % 2 ^ n) < 18446744073709551616 := by
    rw [← hpq, Nat.mul_comm (2 ^ n)]
    exact Nat.mul_lt_mul_of_pos_left hm (Nat.two_pow_pos k)
  refine ⟨_, _, by omega, by rw [eh]; exact hhl, rfl, rfl, ?_⟩
  rw [eh, Nat.or_comm, ← hor]
  -- the number itself
  have hd : val (l.drop i) = (l0 + l1 * 4294967296) + 18446744073709551616 * (l2 + 4294967296 * val (l.drop (i + 3))) := by
    have step : ∀ j, val (l.drop j) = l.getD j 0 + 4294967296 * val (l.drop (j + 1)) := fun j => by
      rcases Nat.lt_or_ge j l.length with h | h
      · exact val_drop l j h
      · rw [List.drop_eq_nil_iff.2 h, List.drop_eq_nil_iff.2 (by omega), List.getD_eq_getElem?_getD, List.getElem?_eq_none h]; rfl
    rw [step i, step (i + 1), step (i + 2), h0, h1, h2]
    have : i + 2 + 1 = i + 3 := rfl
    rw [this]
    omega
  have e1 : val l / 2 ^ (32 * i + n) = val (l.drop i) / 2 ^ n := by
    rw [val_drop_div hok, Nat.pow_add, Nat.pow_mul, Nat.div_div_eq_div_mul]
  rw [e1, hd]
  generalize val (l.drop (i + 3)) = W
  generalize l0 + l1 * 4294967296 = L at *
  have e2 : L + 18446744073709551616 * (l2 + 4294967296 * W) = L + 2 ^ n * (2 ^ k * (l2 + 4294967296 * W)) := by rw [← hpq, Nat.mul_assoc]
  rw [e2, Nat.add_mul_div_left _ _ hn0]
  obtain ⟨m, hm'⟩ : ∃ m, n + m = 32 := ⟨32 - n, by omega⟩
  have e3 : (l2 + 4294967296 * W) % 2 ^ n = l2 % 2 ^ n := by
    have : (4294967296 : Nat) = 2 ^ n * 2 ^ m := by rw [← Nat.pow_add, hm']
    rw [this, Nat.mul_assoc, Nat.add_mul_mod_self_left]
  have e4 : 2 ^ k * (l2 + 4294967296 * W) % 18446744073709551616 = 2 ^ k * (l2 % 2 ^ n) := by
    rw [← hpq, Nat.mul_comm (2 ^ n), Nat.mul_mod_mul_left, e3]
  rw [Nat.add_mod, e4]
  have hs : L / 2 ^ n + 2 ^ k * (l2 % 2 ^ n) < 18446744073709551616 := by
    have h5 : 2 ^ k * (l2 % 2 ^ n + 1) ≤ 2 ^ k * 2 ^ n := Nat.mul_le_mul_left _ hm
    rw [Nat.mul_comm (2 ^ k) (2 ^ n), hpq, Nat.mul_succ] at h5
    omega
  rw [Nat.mod_eq_of_lt (show L / 2 ^ n < 18446744073709551616 by omega), Nat.mod_eq_of_lt hs]
  omega
end Go.Proofs.YtjnbonellgpjnaaGreat

set_option linter.unusedVariables false
set_option linter.unusedSimpArgs false
namespace Go.Proofs.YtjnbonellgpjnaaGreat
open Go.RowKit

theorem nat_wordGcd (x y : Nat) (hx : x < 18446744073709551616) (hy : y < 18446744073709551616) (w : World) :
    Calls Tryz.prog 129 #[.int .u64 x, .int .u64 y] w fun e w' => e = .returned (.int .u64 (Nat.gcd x y : Nat)) ∧ Below w.heap.size w w' := by
  go_enter Tryz.func129, Tryz.ntmps129
  go_wp2
  go_loopg [0, 1] y (fun g v0 v1 wr => ∃ p q : Nat, v0 = .int .u64 p ∧ v1 = .int .u64 q ∧ Hid (q = g) ∧ p < 18446744073709551616 ∧ q < 18446744073709551616 ∧ Hid (Nat.gcd p q = Nat.gcd x y) ∧ Hid (Below w.heap.size w wr))
  case atStart => exact ⟨x, y, rfl, rfl, rfl, hx, hy, rfl, Below.refl _ _⟩
  case round =>
    obtain ⟨p, q, rfl, rfl, hgk, hp, hq, hgcd, hbel⟩ := hrel
    rcases Nat.eq_zero_or_pos q with h0 | h0
    · subst h0
      have hg := hgcd.out
      rw [Nat.gcd_zero_right] at hg
      have HG := hid hg
      clear hg hgcd hgk
      go_wp2
      go_ret
      exact ⟨by rw [HG.out]; rfl, hbel.out⟩
    · obtain ⟨r, hr⟩ : ∃ r, r = p % q := ⟨_, rfl⟩
      have er1 : (p : Int) % (q : Int) = (r : Int) := by rw [hr]; exact (Int.natCast_emod _ _).symm
      have er2 : Int.tmod (p : Int) (q : Int) = (r : Int) := by rw [Int.tmod_eq_emod_of_nonneg (by omega)]; exact er1
      have hrq : r < q := by rw [hr]; exact Nat.mod_lt _ h0
      have ew2 : IntKind.u64.wrap (r : Int) = (r : Int) := by rw [IntKind.wrap_u64]; omega
      have hy0 : ¬ (q : Int) = 0 := by omega
      have hg2 : Nat.gcd q r = Nat.gcd x y := by rw [hr, Nat.gcd_comm, ← Nat.gcd_rec, Nat.gcd_comm]; exact hgcd.out
      have HG := hid hg2
      clear hr hg2 hgcd
      go_wp2
      go_region
      all_goals
        go_wp2
        go_roundg r
        case rel => exact ⟨q, r, rfl, rfl, rfl, hq, by omega, HG, by first | exact hbel | exact hbel.out.drew⟩
        case measure => have := hgk.out; omega

set_option maxRecDepth 100000 in
set_option maxHeartbeats 1000000 in
theorem nat_wordAt (v : Value) (l : List Nat) (p i n : Nat) (w : World) (h : Sees w v l) (hp : p = 32 * i + n) (hn : n < 32) (hi : i ≤ 1000000000000) :
    Calls Tryz.prog 118 #[v, .int .i64 p] w fun e w' => e = .returned (.int .u64 (val l / 2 ^ p % 18446744073709551616 : Nat)) ∧ w = w' := by
  obtain ⟨k, hk⟩ : ∃ k, n + k = 64 := ⟨64 - n, by omega⟩
  obtain ⟨l0, h0⟩ : ∃ z, l.getD i 0 = z := ⟨_, rfl⟩
  obtain ⟨l1, h1⟩ : ∃ z, l.getD (i + 1) 0 = z := ⟨_, rfl⟩
  obtain ⟨l2, h2⟩ : ∃ z, l.getD (i + 2) 0 = z := ⟨_, rfl⟩
  have b0 := h.ok.getD i
  have b1 := h.ok.getD (i + 1)
  have b2 := h.ok.getD (i + 2)
  rw [h0] at b0; rw [h1] at b1; rw [h2] at b2
  obtain ⟨c, g, hc, hg, e1, e2, e3⟩ := word_at h.ok i n k l0 l1 l2 hk hn h0 h1 h2
  obtain ⟨R, hR⟩ : ∃ R, val l / 2 ^ p % 18446744073709551616 = R := ⟨_, rfl⟩
  rw [← hp, hR] at e3
  have HC0 := hid (nat_limbAt v l i l0 w h (by omega) h0)
  have C1 := nat_limbAt v l (i + 1) l1 w h (by omega) h1
  have C2 := nat_limbAt v l (i + 2) l2 w h (by omega) h2
  have HC1 := hid C1; have HC2 := hid C2
  have ei : Int.tdiv (p : Int) 32 = (i : Int) := by rw [Int.tdiv_eq_ediv_of_nonneg (by omega)]; omega
  have en : Int.tmod (p : Int) 32 = (n : Int) := by rw [Int.tmod_eq_emod_of_nonneg (by omega)]; omega
  have wi : IntKind.i64.wrap (i : Int) = (i : Int) := by rw [IntKind.wrap_i64]; omega
  have wn : IntKind.i64.wrap (n : Int) = (n : Int) := by rw [IntKind.wrap_i64]; omega
  have wnu : IntKind.u64.wrap (n : Int) = (n : Int) := by rw [IntKind.wrap_u64]; omega
  obtain ⟨Y, hY⟩ : ∃ Y, Y = l1 * 4294967296 := ⟨_, rfl⟩
  obtain ⟨T, hT⟩ : ∃ T, T = l0 + Y := ⟨_, rfl⟩
  have f1 : IntKind.u64.wrap ((l1 : Int) * 4294967296) = (Y : Int) := by rw [IntKind.wrap_u64]; omega
  have f2 : bits .or .u64 (l0 : Int) (Y : Int) = (T : Int) := by
    rw [u64_or_nat l0 Y (by omega) (by omega), hY, or_limbs l0 l1 b0, ← hY, ← hT]
  have f3 : (T : Int) / 2 ^ n = (c : Int) := by
    rw [← e1, hT, hY, Int.natCast_ediv, Int.natCast_pow]; rfl
  have ek : (64 : Int) - (n : Int) = (k : Int) := by omega
  have f4 : IntKind.u64.wrap ((l2 : Int) * 2 ^ k) = (g : Int) := by
    rw [IntKind.wrap_u64, ← e2]
    simp
  have emin : min k 64 = k := Nat.min_eq_left (by omega)
  have f5 : bits .or .u64 (c : Int) (g : Int) = (R : Int) := by
    rw [u64_or_nat c g hc hg, e3]
  have HR := hid hR
  clear h h0 h1 h2 hp e1 e2 e3 hR hY hT C1 C2
  go_enter Tryz.func118, Tryz.ntmps118
  go_wp2_with fail
  refine HC0.out.mono ?_
  rintro e w' ⟨rfl, rfl⟩
  go_wp2_with fail
  refine HC1.out.mono ?_
  rintro e w' ⟨rfl, rfl⟩
  go_wp2_with fail
  refine HC2.out.mono ?_
  rintro e w' ⟨rfl, rfl⟩
  clear HC0 HC1 HC2
  go_wp2
  go_ret
  exact ⟨by rw [HR.out]; rfl, rfl⟩
end Go.Proofs.YtjnbonellgpjnaaGreat

set_option linter.unusedVariables false
set_option linter.unusedSimpArgs false
namespace Go.Proofs.YtjnbonellgpjnaaGreat
open Go.RowKit

set_option maxRecDepth 100000 in
set_option maxHeartbeats 2000000 in
theorem nat_combine (A B : Option Addr) (ca cb m n d k : Nat) (a b : List Nat) (w : World) (ha : Sees w (.slice A a.length ca) a) (hb : Sees w (.slice B a.length cb) b) (hm : m < 4294967296) (hn : n < 4294967296) (hl : a.length ≤ 35184372088832)
    (hd : d < 4294967296 ^ a.length) (e : d + val b * n + 4294967296 ^ a.length * k = val a * m ∨ d + val b * n = val a * m + 4294967296 ^ a.length * k) :
    Calls Tryz.prog 136 #[.slice A a.length ca, .int .u64 m, .slice B a.length cb, .int .u64 n] w fun e w' => IsNum w d e w' := by
  have HA := hid ha; have HB := hid hb
  have hbl : b.length = a.length := hb.len_eq.1.symm
  have HBLEN := hid hbl
  have HD := hid hd; have HE := hid e
  clear ha hb hd e hbl
  go_enter Tryz.func136, Tryz.ntmps136
  have hmk := run_make_row' (P := Tryz.prog) 22 98 (.int .u32 0) 4 Tryz.underlying22 info_u32 rfl .i64 .i64 a.length (by omega) (by omega)
  obtain ⟨w1, hw1⟩ : ∃ w1, w1 = w.alloc (.cells (madeCells #[Value.int .u32 0] a.length) 98) := ⟨_, rfl⟩
  have hbel : Below w.heap.size w w1 := by rw [hw1]; exact (Below.refl _ w).alloc (Nat.le_refl _) _
  have hrow0 : Row w1 w.heap.size (List.replicate a.length 0) := by rw [hw1]; exact Row.made w _
  have HW := hid hw1.symm; have HBEL := hid hbel; have HROW0 := hid hrow0
  have HA1 := hid (HA.out.below hbel); have HB1 := hid (HB.out.below hbel)
  have HAL := hid (fun (h : 0 < a.length) (q : Addr) (e : A = some q) => (e ▸ HA.out : Sees w (.slice (some q) a.length ca) a).lt h)
  have HBL := hid (fun (h : 0 < b.length) (q : Addr) (e : B = some q) => (e ▸ HB.out : Sees w (.slice (some q) a.length cb) b).lt h)
  clear hw1 hbel hrow0 HA HB
  go_wp2
  go_loopw [9, 10, 11, 19] (fun v9 v10 v11 v wr => ∃ (i p q c : Nat) (t : List Nat), i ≤ a.length ∧ v = .int .i64 i ∧ v9 = .int .u64 p ∧ v10 = .int .u64 q ∧ v11 = .int .u32 c ∧ p < 4294967296 ∧ q < 4294967296 ∧ c ≤ 1 ∧ Hid (CombTo a b m n i t p q c) ∧ Hid (Row wr w.heap.size t) ∧ Hid (w1.grownBy wr (some w.heap.size))) (fun _ _ _ v _ => a.length - (intOf v).toNat)
  case atStart => exact ⟨0, 0, 0, 0, _, Nat.zero_le _, rfl, rfl, rfl, rfl, by omega, by omega, by omega, CombTo.start a b m n, by rw [HW.out]; exact HROW0, by rw [HW.out]; exact World.grownBy.refl _ _⟩
  case round =>
    clear hmk
    obtain ⟨i, p, q, c, t, hi, rfl, rfl, rfl, rfl, hp, hq, hc1, hcomb, hrow, hg⟩ := hrel
    have htl := hcomb.out.len
    by_cases hlt : i < a.length
    · have hbi : i < b.length := by have := HBLEN.out; omega
      have hsa : Sees wr (.slice A a.length ca) a := HA1.out.grown hg.out (fun q e => by have := HAL.out (by omega) q e; omega)
      have hsb : Sees wr (.slice B a.length cb) b := HB1.out.grown hg.out (fun q e => by have := HBL.out (by omega) q e; omega)
      obtain ⟨b1, o1, rfl, hca'⟩ := hsa.at (by omega)
      obtain ⟨b2, o2, rfl, hcb'⟩ := hsb.at (by omega)
      have hca := hca' i hlt
      have hcb := hcb' i hbi
      have hoa := hsa.ok.getD i
      have hob := hsb.ok.getD i
      have hcr := hrow.out.cell (i := i) (by omega)
      have hfr := hrow.out.frozen i
      have hstep := fun lo1 p' lo2 q' x c' h1 h2 h3 h4 h5 h6 h7 => hcomb.out.step (lo1 := lo1) (p' := p') (lo2 := lo2) (q' := q') (x := x) (c' := c') hlt h1 h2 h3 h4 h5 h6 h7
      have HST := hid hstep
      clear hstep hca' hcb' hsa hsb
      generalize a.getD i 0 = u at *
      generalize b.getD i 0 = v at *
      have fit1 := mul_fits u m 0 p hoa hm (by omega) hp
      have fit2 := mul_fits v n 0 q hob hn (by omega) hq
      obtain ⟨z1, hz1⟩ : ∃ z, z = u * m := ⟨_, rfl⟩
      obtain ⟨z2, hz2⟩ : ∃ z, z = v * n := ⟨_, rfl⟩
      have ez1 : IntKind.u64.wrap ((u : Int) * (m : Int)) = (z1 : Int) := by rw [hz1, ← Int.natCast_mul]; exact wrap_u64 _ (by omega)
      have ez2 : IntKind.u64.wrap ((v : Int) * (n : Int)) = (z2 : Int) := by rw [hz2, ← Int.natCast_mul]; exact wrap_u64 _ (by omega)
      rw [← hz1] at fit1 HST
      rw [← hz2] at fit2 HST
      clear hz1 hz2
      obtain ⟨T1, hT1⟩ : ∃ T, T = p + z1 := ⟨_, rfl⟩
      obtain ⟨T2, hT2⟩ : ∃ T, T = q + z2 := ⟨_, rfl⟩
      have et1 : IntKind.u64.wrap ((p : Int) + (z1 : Int)) = (T1 : Int) := by have := wrap_u64 T1 (by omega); rw [hT1] at this ⊢; simpa using this
      have et2 : IntKind.u64.wrap ((q : Int) + (z2 : Int)) = (T2 : Int) := by have := wrap_u64 T2 (by omega); rw [hT2] at this ⊢; simpa using this
      obtain ⟨lo1, hi1, hlo1, hhi1, hxd1, em1, ed1⟩ : ∃ lo hi : Nat, lo < 4294967296 ∧ hi < 4294967296 ∧ Hid (p + z1 = lo + 4294967296 * hi) ∧ (T1 : Int) % 4294967296 = (lo : Int) ∧ (T1 : Int) / 4294967296 = (hi : Int) :=
        ⟨T1 % 4294967296, T1 / 4294967296, by omega, by omega, by show _ = _; omega, by omega, by omega⟩
      obtain ⟨lo2, hi2, hlo2, hhi2, hxd2, em2, ed2⟩ : ∃ lo hi : Nat, lo < 4294967296 ∧ hi < 4294967296 ∧ Hid (q + z2 = lo + 4294967296 * hi) ∧ (T2 : Int) % 4294967296 = (lo : Int) ∧ (T2 : Int) / 4294967296 = (hi : Int) :=
        ⟨T2 % 4294967296, T2 / 4294967296, by omega, by omega, by show _ = _; omega, by omega, by omega⟩
      obtain ⟨x, c', hx, hc', hsub, hcall⟩ := sub32 lo1 lo2 c hlo1 hlo2 hc1
      have HStep := hid (HST.out lo1 hi1 lo2 hi2 x c' hhi1 hhi2 hx hc' hxd1.out hxd2.out (by have := hsub.out; omega))
      have HRow := hid (hrow.out.set i x)
      have HG := hid (grownBy_set (i := i) (v := .int .u32 (x : Nat)) hg.out)
      have HCall := hid hcall
      clear hcall hsub hxd1 hxd2 hT1 hT2 fit1 fit2 HST hcomb
      go_wp2_with (go_at_call 138; refine (HCall.out _).mono ?_; rintro e w' ⟨rfl, rfl⟩)
      all_goals
        go_roundw
        case rel => exact ⟨i + 1, hi1, hi2, c', t.set i x, by omega, by go_num, by first | rfl | rw [ed1], by first | rfl | rw [ed2], rfl, hhi1, hhi2, hc', HStep, HRow, by first | exact HG | exact grownBy_drew HG.out | exact grownBy_drew (grownBy_drew HG.out)⟩
        case measure => simp [intOf]; omega
    · obtain rfl : i = a.length := by omega
      have hv := hcomb.out.total HBLEN.out HD.out k HE.out
      have hs : Sees wr (.slice (some ⟨w.heap.size, 0, none⟩) t.length t.length) t := by
        have := hrow.out.sees hcomb.out.ok 0 t.length t.length (by omega) (Nat.le_refl _) (by omega)
        rwa [List.drop_zero, List.take_of_length_le (by omega)] at this
      rw [htl] at hs
      have HS := hid hs; have HV := hid hv
      have HB5 : Hid (Below w.heap.size w wr) := HBEL.out.grown hg.out (HBEL.out.size) (fun k e => by simp at e; omega)
      clear hv hs hcomb htl
      go_wp2_with fail
      refine (trim_sees _ _ _ _ _ HS.out).mono ?_
      rintro e w' ⟨⟨Z, rfl, hZ, -⟩, rfl⟩
      have HZ := hid hZ
      clear hZ HS
      go_wp2
      go_ret
      refine ⟨_, rfl, ?_, HB5.out⟩
      have := HZ.out
      rw [HV.out] at this ⊢
      exact this
end Go.Proofs.YtjnbonellgpjnaaGreat
