/- approx.scale, nearestInteger. The float nearest to a fraction above 0: the numbers. approx.nearest, To. approx.To by its contract. Frexp of any finite float that is not below 0; a float that is whole, as an int. approx.From by its contract. approx.From of a finite float. -/
import Derived.Test.YtjnbonellgpjnaaGreatKK
import Derived.Test.YtjnbonellgpjnaaGreatKM
import Derived.Test.YtjnbonellgpjnaaGreatKN
set_option linter.unusedVariables false
set_option linter.unusedSimpArgs false
namespace Go.Proofs.YtjnbonellgpjnaaGreat
open Go.RowKit

theorem pow_le_limbs {k L : Nat} (h : k ≤ 32 * L) : 2 ^ k ≤ 4294967296 ^ L := by rw [pow_limbs']; exact Nat.pow_le_pow_right (by decide) h
theorem shl_len_any {l : List Nat} (hl : Ok l) {k L : Nat} (hk : k ≤ 32 * L) : (limbs (val l * 2 ^ k)).length ≤ l.length + L := by
  have h1 := val_lt hl
  refine limbs_length_le ?_
  rw [Nat.pow_add]
  exact Nat.mul_lt_mul_of_lt_of_le h1 (pow_le_limbs hk) (Nat.pos_of_ne_zero (by intro e; have := Nat.two_pow_pos k; have := pow_le_limbs hk; omega))
theorem shl_len {l : List Nat} (hl : Ok l) {k : Nat} (hk : k ≤ 1048576) : (limbs (val l * 2 ^ k)).length ≤ l.length + 32768 := by
  exact shl_len_any hl (L := 32768) hk

/-- What scale hands back. -/
def Scaled (w : World) (l m : List Nat) (n : Int) (e : Ending) (w' : World) : Prop :=
  ∃ v u l' m', e = .returned (.tuple #[v, u]) ∧ Sees w' v l' ∧ Sees w' u m' ∧ val l' = val l * 2 ^ n.toNat ∧ val m' = val m * 2 ^ (-n).toNat ∧ l'.length ≤ l.length + 32768 ∧ m'.length ≤ m.length + 32768 ∧ Below w.heap.size w w'

set_option maxHeartbeats 1000000 in
theorem ap_scale {a b : Value} {l m : List Nat} {n : Int} {w : World} (ha : Sees w a l) (hb : Sees w b m) (hl : l.length ≤ 17592186044416) (hm : m.length ≤ 17592186044416) (h1 : -1048576 ≤ n) (h2 : n ≤ 1048576) :
    Calls Tryz.prog 42 #[a, b, .int .i64 n] w fun e w' => Scaled w l m n e w' := by
  have hok := ha.ok; have hokm := hb.ok
  have HA := hid ha; have HB := hid hb
  obtain ⟨aa, ca, rfl, -, -, -, -, -⟩ := ha
  obtain ⟨ab, cb, rfl, -, -, -, -, -⟩ := hb
  rcases Int.lt_or_le n 0 with h | h
  · obtain ⟨k, hk⟩ : ∃ k : Nat, (k : Int) = -n := ⟨(-n).toNat, by omega⟩
    have HC := hid (nat_shift_ok (k : Int) HB.out hm (by omega) (by omega))
    have ek : shiftZ (val m) (k : Int) = val m * 2 ^ k := by unfold shiftZ; rw [if_pos (by omega), Int.toNat_natCast]
    rw [ek] at HC
    have hlen := shl_len hokm (k := k) (by omega)
    have hfin : n.toNat = 0 ∧ (-n).toNat = k := by omega
    have HL := hid hlen; have HF := hid hfin
    have hd : decide (n < 0) = true := decide_eq_true h
    have w1 : wrap64 (-n) = (k : Int) := by rw [hk]; exact wrap_id (by omega) (by omega)
    clear hk h h1 h2 ek hlen hfin
    go_enter Tryz.func42, Tryz.ntmps42
    go_wp2_with fail
    refine HC.out.mono ?_
    rintro e w1 ⟨v, rfl, hs, hb⟩
    have HS := hid hs; have HBB := hid hb
    obtain ⟨bo, cap, rfl, -, -, -, -, -⟩ := hs
    clear hb
    go_wp2_with fail
    go_ret2
    exact ⟨_, _, _, _, rfl, HA.out.below HBB.out, HS.out, by rw [HF.out.1]; simp, by rw [HF.out.2, val_limbs], by omega, HL.out, HBB.out⟩
  · obtain ⟨k, rfl⟩ := Int.eq_ofNat_of_zero_le h
    have HC := hid (nat_shift_ok (k : Int) HA.out hl (by omega) (by omega))
    have ek : shiftZ (val l) (k : Int) = val l * 2 ^ k := by unfold shiftZ; rw [if_pos (by omega), Int.toNat_natCast]
    rw [ek] at HC
    have hlen := shl_len hok (k := k) (by omega)
    have hfin : (k : Int).toNat = k ∧ (-(k : Int)).toNat = 0 := by omega
    have HL := hid hlen; have HF := hid hfin
    have hd : decide ((k : Int) < 0) = false := decide_eq_false (by omega)
    clear h h1 h2 ek hlen hfin
    go_enter Tryz.func42, Tryz.ntmps42
    go_wp2_with fail
    refine HC.out.mono ?_
    rintro e w1 ⟨v, rfl, hs, hb⟩
    have HS := hid hs; have HBB := hid hb
    obtain ⟨bo, cap, rfl, -, -, -, -, -⟩ := hs
    clear hb
    go_wp2_with fail
    go_ret2
    exact ⟨_, _, _, _, rfl, HS.out, HB.out.below HBB.out, by rw [HF.out.1, val_limbs], by rw [HF.out.2]; simp, HL.out, by omega, HBB.out⟩

/-- A quotient rounded to nearest, half to even. -/
def rne (a d : Nat) : Nat := a / d + (if d < 2 * (a % d) ∨ 2 * (a % d) = d ∧ a / d % 2 = 1 then 1 else 0)
set_option maxRecDepth 100000 in
set_option maxHeartbeats 2000000 in
theorem ap_nearestInteger {a b : Value} {l m : List Nat} {w : World} (ha : Sees w a l) (hb : Sees w b m) (hl : l.length ≤ 17592186044416) (hm : m.length ≤ 17592186044416) (h0 : 0 < val m) (hq : val l / val m < 4611686018427387904) :
    Calls Tryz.prog 66 #[a, b] w fun e w' => e = .returned (.int .i64 (rne (val l) (val m) : Nat)) ∧ Below w.heap.size w w' := by
  have HC := hid (nat_divmod' ha hb hl h0)
  have HB := hid hb
  have hrl : (limbs (val l % val m)).length ≤ 35184372088832 := by
    have := limbs_length_le (Nat.lt_trans (Nat.mod_lt (val l) h0) (val_lt hb.ok)); omega
  have HRL := hid hrl
  have HQL : Hid (val l / val m < 9223372036854775808) := hid (by omega)
  obtain ⟨aa, ca, rfl, -, -, -, -, -⟩ := ha
  obtain ⟨ab, cb, rfl, -, -, -, -, -⟩ := hb
  obtain ⟨Q, hQ⟩ : ∃ Q, val l / val m = Q := ⟨_, rfl⟩
  have HQV := hid hQ
  rw [hQ] at HC HQL hq
  have t3 : ((Q : Int) % 2 == 1) = decide (Q % 2 = 1) := by
    have e : (Q : Int) % 2 = ((Q % 2 : Nat) : Int) := by omega
    rw [e]
    by_cases h : Q % 2 = 1
    · simp [h]
    · have : Q % 2 = 0 := by omega
      simp [this]
  have ew : wrap64 ((Q : Int) + 1) = ((Q + 1 : Nat) : Int) := by rw [wrap_id (by omega) (by omega)]; omega
  obtain ⟨c, hc⟩ : ∃ c, cmpI (val l % val m + val l % val m) (val m) = c := ⟨_, rfl⟩
  have HCV := hid hc
  have hc2 := hc
  unfold cmpI at hc2
  have e2 : 2 * (val l % val m) = val l % val m + val l % val m := by omega
  clear hc hq hrl
  rcases Nat.lt_trichotomy (val l % val m + val l % val m) (val m) with h | h | h
  · have t1 : decide (c > 0) = false := by rw [if_pos h] at hc2; subst hc2; decide
    have t2 : (c == 0) = false := by rw [if_pos h] at hc2; subst hc2; decide
    have hr : rne (val l) (val m) = Q := by unfold rne; rw [if_neg (by omega), hQ, Nat.add_zero]
    rw [hr]
    clear hr h hc2 hQ e2
    go_enter Tryz.func66, Tryz.ntmps66
    go_wp2_with fail
    refine HC.out.mono ?_
    rintro e w1 ⟨q, r, rfl, hq, hr, hb⟩
    have HQ := hid hq; have HR := hid hr; have HB1 := hid hb
    have HBB1 := hid (HB.out.below hb)
    obtain ⟨qo, qc, rfl, -, -, -, -, -⟩ := hq
    obtain ⟨ro, rc, rfl, -, -, -, -, -⟩ := hr
    clear hb
    go_wp2_with fail
    refine (nat_small_ok HQ.out (by rw [val_limbs]; exact HQL.out)).mono ?_
    rw [val_limbs]
    rintro e w' ⟨rfl, rfl⟩
    go_wp2_with fail
    refine (nat_add' HR.out HR.out HRL.out HRL.out).mono ?_
    rw [val_limbs]
    rintro e w2 ⟨v2, rfl, hs, hb⟩
    have HS := hid hs; have HB2 := hid (HB1.out.trans (hb.mono HB1.out.size)); have HBB2 := hid (HBB1.out.below hb)
    obtain ⟨so, sc, rfl, -, -, -, -, -⟩ := hs
    clear hb
    go_wp2_with fail
    refine (nat_cmp' HS.out HBB2.out).mono ?_
    rw [val_limbs, HCV.out]
    rintro e w3 ⟨rfl, hb⟩
    have HB3 := hid (HB2.out.trans (hb.mono HB2.out.size))
    clear hb
    go_wp2
    go_ret
    exact ⟨by first | rfl | simp [ew], HB3.out⟩
  · by_cases ho : Q % 2 = 1
    · have t1 : decide (c > 0) = false := by rw [if_neg (by omega), if_neg (by omega)] at hc2; subst hc2; decide
      have t2 : (c == 0) = true := by rw [if_neg (by omega), if_neg (by omega)] at hc2; subst hc2; decide
      rw [show decide (Q % 2 = 1) = true by simp [ho]] at t3
      have hr : rne (val l) (val m) = Q + 1 := by unfold rne; rw [if_pos (by omega), hQ]
      rw [hr]
      clear hr h hc2 ho hQ e2
      go_enter Tryz.func66, Tryz.ntmps66
      go_wp2_with fail
      refine HC.out.mono ?_
      rintro e w1 ⟨q, r, rfl, hq, hr, hb⟩
      have HQ := hid hq; have HR := hid hr; have HB1 := hid hb
      have HBB1 := hid (HB.out.below hb)
      obtain ⟨qo, qc, rfl, -, -, -, -, -⟩ := hq
      obtain ⟨ro, rc, rfl, -, -, -, -, -⟩ := hr
      clear hb
      go_wp2_with fail
      refine (nat_small_ok HQ.out (by rw [val_limbs]; exact HQL.out)).mono ?_
      rw [val_limbs]
      rintro e w' ⟨rfl, rfl⟩
      go_wp2_with fail
      refine (nat_add' HR.out HR.out HRL.out HRL.out).mono ?_
      rw [val_limbs]
      rintro e w2 ⟨v2, rfl, hs, hb⟩
      have HS := hid hs; have HB2 := hid (HB1.out.trans (hb.mono HB1.out.size)); have HBB2 := hid (HBB1.out.below hb)
      obtain ⟨so, sc, rfl, -, -, -, -, -⟩ := hs
      clear hb
      go_wp2_with fail
      refine (nat_cmp' HS.out HBB2.out).mono ?_
      rw [val_limbs, HCV.out]
      rintro e w3 ⟨rfl, hb⟩
      have HB3 := hid (HB2.out.trans (hb.mono HB2.out.size))
      clear hb
      go_wp2
      go_ret
      exact ⟨by first | rfl | simp [ew], HB3.out⟩
    · have t1 : decide (c > 0) = false := by rw [if_neg (by omega), if_neg (by omega)] at hc2; subst hc2; decide
      have t2 : (c == 0) = true := by rw [if_neg (by omega), if_neg (by omega)] at hc2; subst hc2; decide
      rw [show decide (Q % 2 = 1) = false by simp [ho]] at t3
      have hr : rne (val l) (val m) = Q := by unfold rne; rw [if_neg (by omega), hQ, Nat.add_zero]
      rw [hr]
      clear hr h hc2 ho hQ e2
      go_enter Tryz.func66, Tryz.ntmps66
      go_wp2_with fail
      refine HC.out.mono ?_
      rintro e w1 ⟨q, r, rfl, hq, hr, hb⟩
      have HQ := hid hq; have HR := hid hr; have HB1 := hid hb
      have HBB1 := hid (HB.out.below hb)
      obtain ⟨qo, qc, rfl, -, -, -, -, -⟩ := hq
      obtain ⟨ro, rc, rfl, -, -, -, -, -⟩ := hr
      clear hb
      go_wp2_with fail
      refine (nat_small_ok HQ.out (by rw [val_limbs]; exact HQL.out)).mono ?_
      rw [val_limbs]
      rintro e w' ⟨rfl, rfl⟩
      go_wp2_with fail
      refine (nat_add' HR.out HR.out HRL.out HRL.out).mono ?_
      rw [val_limbs]
      rintro e w2 ⟨v2, rfl, hs, hb⟩
      have HS := hid hs; have HB2 := hid (HB1.out.trans (hb.mono HB1.out.size)); have HBB2 := hid (HBB1.out.below hb)
      obtain ⟨so, sc, rfl, -, -, -, -, -⟩ := hs
      clear hb
      go_wp2_with fail
      refine (nat_cmp' HS.out HBB2.out).mono ?_
      rw [val_limbs, HCV.out]
      rintro e w3 ⟨rfl, hb⟩
      have HB3 := hid (HB2.out.trans (hb.mono HB2.out.size))
      clear hb
      go_wp2
      go_ret
      exact ⟨by first | rfl | simp [ew], HB3.out⟩
  · have t1 : decide (c > 0) = true := by rw [if_neg (by omega), if_pos h] at hc2; subst hc2; decide
    have hr : rne (val l) (val m) = Q + 1 := by unfold rne; rw [if_pos (by omega), hQ]
    rw [hr]
    clear hr h hc2 hQ e2
    go_enter Tryz.func66, Tryz.ntmps66
    go_wp2_with fail
    refine HC.out.mono ?_
    rintro e w1 ⟨q, r, rfl, hq, hr, hb⟩
    have HQ := hid hq; have HR := hid hr; have HB1 := hid hb
    have HBB1 := hid (HB.out.below hb)
    obtain ⟨qo, qc, rfl, -, -, -, -, -⟩ := hq
    obtain ⟨ro, rc, rfl, -, -, -, -, -⟩ := hr
    clear hb
    go_wp2_with fail
    refine (nat_small_ok HQ.out (by rw [val_limbs]; exact HQL.out)).mono ?_
    rw [val_limbs]
    rintro e w' ⟨rfl, rfl⟩
    go_wp2_with fail
    refine (nat_add' HR.out HR.out HRL.out HRL.out).mono ?_
    rw [val_limbs]
    rintro e w2 ⟨v2, rfl, hs, hb⟩
    have HS := hid hs; have HB2 := hid (HB1.out.trans (hb.mono HB1.out.size)); have HBB2 := hid (HBB1.out.below hb)
    obtain ⟨so, sc, rfl, -, -, -, -, -⟩ := hs
    clear hb
    go_wp2_with fail
    refine (nat_cmp' HS.out HBB2.out).mono ?_
    rw [val_limbs, HCV.out]
    rintro e w3 ⟨rfl, hb⟩
    have HB3 := hid (HB2.out.trans (hb.mono HB2.out.size))
    clear hb
    go_wp2
    go_ret
    exact ⟨by first | rfl | simp [ew], HB3.out⟩
end Go.Proofs.YtjnbonellgpjnaaGreat

set_option linter.unusedVariables false
set_option linter.unusedSimpArgs false
namespace Go.Proofs.YtjnbonellgpjnaaGreat

/-- a/d is below 2^t. -/
def lt2 (a d : Nat) (t : Int) : Prop := a * 2 ^ (-t).toNat < d * 2 ^ t.toNat
theorem lt2_iff {a d : Nat} {t : Int} (K J : Nat) (h : (J : Int) = K + t) : lt2 a d t ↔ a * 2 ^ K < d * 2 ^ J := by
  unfold lt2
  by_cases ht : 0 ≤ t
  · have e1 : (-t).toNat = 0 := by omega
    have e2 : J = t.toNat + K := by omega
    rw [e1, e2, Nat.pow_add, ← Nat.mul_assoc, Nat.pow_zero, Nat.mul_one]
    exact (Nat.mul_lt_mul_right (Nat.two_pow_pos K)).symm
  · have e1 : t.toNat = 0 := by omega
    have e2 : K = (-t).toNat + J := by omega
    rw [e1, e2, Nat.pow_add, ← Nat.mul_assoc, Nat.pow_zero, Nat.mul_one]
    exact (Nat.mul_lt_mul_right (Nat.two_pow_pos J)).symm
theorem lt2_mono {a d : Nat} {t s : Int} (h : lt2 a d t) (hts : t ≤ s) : lt2 a d s := by
  have h1 := (lt2_iff (a := a) (d := d) ((-t).toNat + (-s).toNat) (((-t).toNat + (-s).toNat + t : Int).toNat) (by omega)).1 h
  refine (lt2_iff ((-t).toNat + (-s).toNat) (((-t).toNat + (-s).toNat + s : Int).toNat) (by omega)).2 ?_
  exact Nat.lt_of_lt_of_le h1 (Nat.mul_le_mul_left _ (Nat.pow_le_pow_right (by decide) (by omega)))
theorem two_pow_bits {d : Nat} (h : 0 < d) : 2 ^ bitsN d ≤ 2 * d := by
  unfold bitsN
  rw [if_neg (by omega), Nat.pow_succ]
  have := (Nat.le_log2 (n := d) (k := d.log2) (by omega)).1 (Nat.le_refl _)
  omega

/-- Places of the highest digits, told by lengths alone; and the power of two that is in it. -/
def topN (a d : Nat) : Int := (bitsN a : Int) - (bitsN d : Int)
noncomputable def topF (a d : Nat) : Int := by
  classical exact if lt2 a d (topN a d) then topN a d - 1 else topN a d
theorem topN_lt {a d : Nat} (h : 0 < d) : lt2 a d (topN a d + 1) := by
  have h1 := lt_bitsN a
  have h2 := two_pow_bits h
  refine (lt2_iff (bitsN d) (bitsN a + 1) (by unfold topN; omega)).2 ?_
  rw [Nat.pow_succ]
  calc a * 2 ^ bitsN d ≤ a * (2 * d) := Nat.mul_le_mul_left _ h2
    _ = d * (a * 2) := by ac_rfl
    _ < d * (2 ^ bitsN a * 2) := Nat.mul_lt_mul_of_pos_left (by omega) h
theorem topF_lt {a d : Nat} (h : 0 < d) : lt2 a d (topF a d + 1) := by
  unfold topF
  split
  · rename_i h1; rwa [Int.sub_add_cancel]
  · exact topN_lt h
theorem topF_of_lt {a d : Nat} (h : lt2 a d (topN a d)) : topF a d = topN a d - 1 := by unfold topF; rw [if_pos h]
theorem topF_of_not {a d : Nat} (h : ¬ lt2 a d (topN a d)) : topF a d = topN a d := by unfold topF; rw [if_neg h]
noncomputable def placeF (a d : Nat) : Int := max (topF a d - 52) (-1074)
noncomputable def intF (a d : Nat) : Nat := rne (a * 2 ^ (-placeF a d).toNat) (d * 2 ^ (placeF a d).toNat)
/-- The float nearest to a/d. -/
noncomputable def nearF (a d : Nat) : Nat := if 1024 < topN a d then 9218868437227405312 else if topN a d < -1075 then 0 else Ieee.double.nearest false (intF a d) (placeF a d)
theorem quot_lt {a d : Nat} (h : 0 < d) : a * 2 ^ (-placeF a d).toNat < d * 2 ^ (placeF a d).toNat * 9007199254740992 := by
  have h1 := lt2_mono (topF_lt (a := a) h) (s := placeF a d + 53) (by unfold placeF; omega)
  generalize placeF a d = p at *
  have h2 := (lt2_iff (-p).toNat (p.toNat + 53) (by omega)).1 h1
  rw [Nat.pow_add, ← Nat.mul_assoc] at h2
  exact h2
theorem quot_div {a d : Nat} (h : 0 < d) : (a * 2 ^ (-placeF a d).toNat) / (d * 2 ^ (placeF a d).toNat) < 9007199254740992 :=
  Nat.div_lt_of_lt_mul (quot_lt h)
theorem rne_le {a d : Nat} (h : a / d < 9007199254740992) : rne a d ≤ 9007199254740992 := by
  unfold rne; split <;> omega
theorem intF_le {a d : Nat} (h : 0 < d) : intF a d ≤ 9007199254740992 := rne_le (quot_div h)

/-- A whole number of at most 53 digits is a float. -/
theorem int_norm {I : Nat} (h0 : 0 < I) (h1 : I ≤ 9007199254740992) : ∃ E F, Norm (Ieee.double.nearest false I 0) E F ∧ ∀ p : Int, Ieee.double.nearest false (4503599627370496 + F) (p + E - 1074) = Ieee.double.nearest false I p := by
  by_cases h2 : I = 9007199254740992
  · subst h2
    have key : ∀ p : Int, Ieee.double.nearest false 4503599627370496 (p + 1) = Ieee.double.nearest false 9007199254740992 p := fun p => by
      have := nearest_scale false 4503599627370496 (p + 1) 1
      rw [show p + 1 - ((1 : Nat) : Int) = p by omega] at this
      exact this.symm
    refine ⟨1075, 0, ?_, fun p => ?_⟩
    · have := key 0
      rw [← this]
      have h3 := nearest_norm false (F := 0) (by decide) (p := 1) (by decide) (by decide)
      rw [show (0 : Int) + 1 = 1 from rfl]
      rw [Nat.add_zero] at h3
      exact ⟨h3, by decide, by decide⟩
    · rw [show p + ((1075 : Nat) : Int) - 1074 = p + 1 by omega]
      exact key p
  · have hl := (Nat.log2_eq_iff (n := I) (k := I.log2) (by omega)).1 rfl
    have hk : I.log2 ≤ 52 := by
      have : I.log2 < 53 := (Nat.log2_lt (by omega)).2 (by show I < 9007199254740992; omega)
      omega
    generalize I.log2 = k at *
    have e1 : (2 : Nat) ^ k * 2 ^ (52 - k) = 4503599627370496 := by rw [← Nat.pow_add, show k + (52 - k) = 52 by omega]
    have lo : 4503599627370496 ≤ I * 2 ^ (52 - k) := by rw [← e1]; exact Nat.mul_le_mul_right _ hl.1
    have hi : I * 2 ^ (52 - k) < 9007199254740992 := by
      have : I * 2 ^ (52 - k) < 2 ^ (k + 1) * 2 ^ (52 - k) := Nat.mul_lt_mul_of_pos_right hl.2 (Nat.two_pow_pos _)
      rw [Nat.pow_succ, Nat.mul_right_comm, e1] at this
      omega
    obtain ⟨F, hF⟩ : ∃ F, I * 2 ^ (52 - k) = 4503599627370496 + F := ⟨I * 2 ^ (52 - k) - 4503599627370496, by omega⟩
    have key : ∀ p : Int, Ieee.double.nearest false (4503599627370496 + F) (p + k - 52) = Ieee.double.nearest false I p := fun p => by
      have := nearest_scale false I p (52 - k)
      rw [hF, show p - ((52 - k : Nat) : Int) = p + k - 52 by omega] at this
      exact this
    refine ⟨k + 1022, F, ⟨?_, by omega, by omega⟩, fun p => ?_⟩
    · have := key 0
      rw [← this, nearest_norm false (by omega) (by omega) (by omega)]
      rw [show (0 + (k : Int) - 52 + 1075).toNat = k + 1022 + 1 by omega]
      rfl
    · rw [show p + ((k + 1022 : Nat) : Int) - 1074 = p + k - 52 by omega]
      exact key p
theorem bits_len {l : List Nat} (h : Ok l) : bitsN (val l) ≤ 32 * l.length := by
  have h1 := val_lt h
  rw [pow_limbs'] at h1
  unfold bitsN
  split
  · omega
  · rename_i h0
    have := (Nat.log2_lt h0).2 h1
    omega
end Go.Proofs.YtjnbonellgpjnaaGreat

set_option linter.unusedVariables false
set_option linter.unusedSimpArgs false
namespace Go.Proofs.YtjnbonellgpjnaaGreat
open Go.RowKit

theorem cmpI_neg (x y : Nat) : decide (cmpI x y < 0) = decide (x < y) := by
  unfold cmpI
  by_cases h : x < y
  · rw [if_pos h]; simp [h]
  · rw [if_neg h]; split <;> simp [h]

/-- Ldexp of a whole number. -/
theorem math_Ldexp_int {I : Nat} (h : I ≤ 9007199254740992) {n : Int} (h1 : -1000000 ≤ n) (h2 : n ≤ 1000000) (w : World) :
    Calls Tryz.prog 41 #[.float .f64 (Ieee.double.nearest false I 0), .int .i64 n] w fun e w' => e = .returned (.float .f64 (Ieee.double.nearest false I n)) ∧ w = w' := by
  rcases Nat.eq_zero_or_pos I with h0 | h0
  · subst h0
    have e : ∀ p, Ieee.double.nearest false 0 p = 0 := fun p => rfl
    rw [e, e]
    exact math_Ldexp (math_ldexp_zero n w)
  · obtain ⟨E, F, hn, hk⟩ := int_norm h0 h
    rw [← hk n]
    exact math_Ldexp (math_ldexp hn h1 h2 w)

theorem float_int (I : Nat) : floatOfInt .f64 (I : Int) = Ieee.double.nearest false I 0 := by
  unfold floatOfInt FloatKind.nearest FloatKind.encode
  have : decide ((I : Int) < 0) = false := decide_eq_false (by omega)
  rw [this]
  rfl

set_option maxRecDepth 100000 in
set_option maxHeartbeats 2000000 in
theorem ap_nearest_over {a b : Value} {l m : List Nat} {w : World} (ha : Sees w a l) (hb : Sees w b m) (hl : l.length ≤ 1000) (hm : m.length ≤ 1000) (h : 1024 < topN (val l) (val m)) :
    Calls Tryz.prog 29 #[a, b] w fun e w' => e = .returned (.float .f64 9218868437227405312) ∧ w = w' := by
  have bl := bits_len ha.ok; have bm := bits_len hb.ok
  have HC1 := hid (nat_bits' ha); have HC2 := hid (nat_bits' hb)
  obtain ⟨aa, ca, rfl, -, -, -, -, -⟩ := ha
  obtain ⟨ab, cb, rfl, -, -, -, -, -⟩ := hb
  unfold topN at h
  generalize bitsN (val l) = x at *
  generalize bitsN (val m) = y at *
  obtain ⟨T, hT⟩ : ∃ T, wrap64 ((x : Int) - (y : Int)) = T := ⟨_, rfl⟩
  have hT2 : T = (x : Int) - (y : Int) := by rw [← hT, wrap_id (by omega) (by omega)]
  have t1 : decide (T > 1024) = true := decide_eq_true (by omega)
  have HI := hid (math_inf 1 w)
  rw [if_pos (by decide)] at HI
  clear hT2 h bl bm
  go_enter Tryz.func29, Tryz.ntmps29
  go_wp2_with fail
  refine HC1.out.mono ?_
  rintro e w' ⟨rfl, rfl⟩
  go_wp2_with fail
  refine HC2.out.mono ?_
  rintro e w' ⟨rfl, rfl⟩
  go_wp2_with fail
  refine HI.out.mono ?_
  rintro e w' ⟨rfl, rfl⟩
  go_wp2_with fail
  go_ret
  exact ⟨rfl, rfl⟩

set_option maxRecDepth 100000 in
set_option maxHeartbeats 2000000 in
theorem ap_nearest_under {a b : Value} {l m : List Nat} {w : World} (ha : Sees w a l) (hb : Sees w b m) (hl : l.length ≤ 1000) (hm : m.length ≤ 1000) (h : topN (val l) (val m) < -1075) :
    Calls Tryz.prog 29 #[a, b] w fun e w' => e = .returned (.float .f64 0) ∧ w = w' := by
  have bl := bits_len ha.ok; have bm := bits_len hb.ok
  have HC1 := hid (nat_bits' ha); have HC2 := hid (nat_bits' hb)
  obtain ⟨aa, ca, rfl, -, -, -, -, -⟩ := ha
  obtain ⟨ab, cb, rfl, -, -, -, -, -⟩ := hb
  unfold topN at h
  generalize bitsN (val l) = x at *
  generalize bitsN (val m) = y at *
  obtain ⟨T, hT⟩ : ∃ T, wrap64 ((x : Int) - (y : Int)) = T := ⟨_, rfl⟩
  have hT2 : T = (x : Int) - (y : Int) := by rw [← hT, wrap_id (by omega) (by omega)]
  have t1 : decide (T > 1024) = false := decide_eq_false (by omega)
  have t2 : decide (T < -1075) = true := decide_eq_true (by omega)
  clear hT2 h bl bm
  go_enter Tryz.func29, Tryz.ntmps29
  go_wp2_with fail
  refine HC1.out.mono ?_
  rintro e w' ⟨rfl, rfl⟩
  go_wp2_with fail
  refine HC2.out.mono ?_
  rintro e w' ⟨rfl, rfl⟩
  go_wp2_with fail
  go_ret
  exact ⟨rfl, rfl⟩

set_option maxRecDepth 100000 in
set_option maxHeartbeats 2000000 in
theorem ap_nearest_in {a b : Value} {l m : List Nat} {w : World} (ha : Sees w a l) (hb : Sees w b m) (hl : l.length ≤ 1000) (hm : m.length ≤ 1000) (h0 : 0 < val m) (g1 : topN (val l) (val m) ≤ 1024) (g2 : -1075 ≤ topN (val l) (val m)) :
    Calls Tryz.prog 29 #[a, b] w fun e w' => e = .returned (.float .f64 (Ieee.double.nearest false (intF (val l) (val m)) (placeF (val l) (val m)))) ∧ Below w.heap.size w w' := by
  have HC1 := hid (nat_bits' ha); have HC2 := hid (nat_bits' hb)
  have HA := hid ha; have HB := hid hb
  obtain ⟨aa, ca, rfl, -, -, -, -, -⟩ := ha
  obtain ⟨ab, cb, rfl, -, -, -, -, -⟩ := hb
  have hTn : topN (val l) (val m) = (bitsN (val l) : Int) - (bitsN (val m) : Int) := rfl
  obtain ⟨T, hT⟩ : ∃ T, topN (val l) (val m) = T := ⟨_, rfl⟩
  have HP1 : Hid (placeF (val l) (val m) ≤ 1000 ∧ -1074 ≤ placeF (val l) (val m)) := hid (by
    have : topF (val l) (val m) ≤ 1024 := by
      by_cases hc : lt2 (val l) (val m) (topN (val l) (val m))
      · rw [topF_of_lt hc]; omega
      · rw [topF_of_not hc]; omega
    unfold placeF; omega)
  have HI := hid (intF_le (a := val l) h0)
  have HQ := hid (quot_div (a := val l) h0)
  have HIV : Hid (intF (val l) (val m) = rne (val l * 2 ^ (-placeF (val l) (val m)).toNat) (val m * 2 ^ (placeF (val l) (val m)).toNat)) := hid rfl
  have e0 : wrap64 ((bitsN (val l) : Int) - (bitsN (val m) : Int)) = T := by rw [← hTn, hT, wrap_id (by omega) (by omega)]
  have e1 : wrap64 (-T) = -T := wrap_id (by omega) (by omega)
  have t1 : decide (T > 1024) = false := decide_eq_false (by omega)
  have t2 : decide (T < -1075) = false := decide_eq_false (by omega)
  have HG : Hid (-1075 ≤ T ∧ T ≤ 1024) := hid (by omega)
  generalize bitsN (val l) = x at *
  generalize bitsN (val m) = y at *
  clear hTn g1 g2
  by_cases hc : lt2 (val l) (val m) T
  · have htop : topF (val l) (val m) = T - 1 := by rw [← hT] at hc ⊢; exact topF_of_lt hc
    have hplace : max (T - 1 - 52) (-1074) = placeF (val l) (val m) := by unfold placeF; rw [htop]
    obtain ⟨p, hp⟩ : ∃ p, placeF (val l) (val m) = p := ⟨_, rfl⟩
    have ew1 : wrap64 (T - 1) = T - 1 := wrap_id (by have := HG.out; omega) (by have := HG.out; omega)
    have ew2 : wrap64 (T - 1 - 53) = T - 1 - 53 := wrap_id (by have := HG.out; omega) (by have := HG.out; omega)
    have ew3 : wrap64 (T - 1 - 53 + 1) = T - 1 - 52 := by rw [wrap_id (by have := HG.out; omega) (by have := HG.out; omega)]; omega
    have HCC := hid hc
    rw [hp] at hplace HP1 HQ HIV ⊢
    have ew4 : wrap64 (-p) = -p := wrap_id (by have := HP1.out; omega) (by have := HP1.out; omega)
    obtain ⟨I, hI⟩ : ∃ I, intF (val l) (val m) = I := ⟨_, rfl⟩
    rw [hI] at HI HIV ⊢
    have hfl := float_int I
    obtain ⟨Q, hQ⟩ : ∃ Q, Ieee.double.nearest false I 0 = Q := ⟨_, rfl⟩
    have HLD := hid (fun w => math_Ldexp_int HI.out (n := p) (by have := HP1.out; omega) (by have := HP1.out; omega) w)
    rw [hQ] at hfl HLD
    obtain ⟨R, hR⟩ : ∃ R, Ieee.double.nearest false I p = R := ⟨_, rfl⟩
    rw [hR] at HLD ⊢
    clear hT hc htop hp hI hQ hR
    go_enter Tryz.func29, Tryz.ntmps29
    go_wp2_with fail
    refine HC1.out.mono ?_
    rintro e w' ⟨rfl, rfl⟩
    go_wp2_with fail
    refine HC2.out.mono ?_
    rintro e w' ⟨rfl, rfl⟩
    go_wp2_with fail
    refine (ap_scale HA.out HB.out (by omega) (by omega) (by have := HG.out; omega) (by have := HG.out; omega)).mono ?_
    rintro e w1 ⟨v, u, l', m', rfl, hs1, hs2, hv1, hv2, hl1, hl2, hb⟩
    have HS1 := hid hs1; have HS2 := hid hs2; have HB1 := hid hb; have HV1 := hid hv1; have HV2 := hid hv2
    have HA1 := hid (HA.out.below hb); have HBB1 := hid (HB.out.below hb)
    obtain ⟨so, sc, rfl, -, -, -, -, -⟩ := hs1
    obtain ⟨qo, qc, rfl, -, -, -, -, -⟩ := hs2
    have hcmp : decide (cmpI (val l') (val m') < 0) = true := by
      rw [cmpI_neg, hv1, hv2, Int.neg_neg]
      exact decide_eq_true HCC.out
    obtain ⟨c, hcv⟩ : ∃ c, cmpI (val l') (val m') = c := ⟨_, rfl⟩
    rw [hcv] at hcmp
    have HCV := hid hcv
    clear hb hv1 hv2 hcv
    go_wp2_with fail
    refine (nat_cmp' HS1.out HS2.out).mono ?_
    rw [HCV.out]
    rintro e w2 ⟨rfl, hb⟩
    have HB2 := hid (HB1.out.trans (hb.mono HB1.out.size))
    have HA2 := hid (HA1.out.below hb); have HBB2 := hid (HBB1.out.below hb)
    clear hb HA HB HA1 HBB1 HS1 HS2 HB1 hl1 hl2
    go_wp2_with fail
    refine (ap_scale HA2.out HBB2.out (by omega) (by omega) (by have := HP1.out; omega) (by have := HP1.out; omega)).mono ?_
    rintro e w3 ⟨v, u, l2, m2, rfl, hs1, hs2, hv1, hv2, hl1, hl2, hb⟩
    have HS1 := hid hs1; have HS2 := hid hs2; have HB3 := hid (HB2.out.trans (hb.mono HB2.out.size))
    rw [Int.neg_neg] at hv2
    have hpos : 0 < val m2 := by rw [hv2]; exact Nat.mul_pos h0 (Nat.two_pow_pos _)
    have hqq : val l2 / val m2 < 4611686018427387904 := by rw [hv1, hv2]; have := HQ.out; omega
    have hie : rne (val l2) (val m2) = I := by rw [hv1, hv2]; exact HIV.out.symm
    have HPOS := hid hpos; have HQQ := hid hqq; have HIE := hid hie
    obtain ⟨so, sc, rfl, -, -, -, -, -⟩ := hs1
    obtain ⟨qo, qc, rfl, -, -, -, -, -⟩ := hs2
    clear hb hv1 hv2 hpos hqq hie
    go_wp2_with fail
    refine (ap_nearestInteger HS1.out HS2.out (by omega) (by omega) HPOS.out HQQ.out).mono ?_
    rw [HIE.out]
    rintro e w4 ⟨rfl, hb⟩
    have HB4 := hid (HB3.out.trans (hb.mono HB3.out.size))
    clear hb HS1 HS2 HB2 HB3
    go_wp2_with fail
    refine (HLD.out _).mono ?_
    rintro e w' ⟨rfl, rfl⟩
    go_wp2_with fail
    go_ret
    exact ⟨rfl, HB4.out⟩
  · have htop : topF (val l) (val m) = T := by rw [← hT] at hc ⊢; exact topF_of_not hc
    have hplace : max (T - 52) (-1074) = placeF (val l) (val m) := by unfold placeF; rw [htop]
    obtain ⟨p, hp⟩ : ∃ p, placeF (val l) (val m) = p := ⟨_, rfl⟩
    have ew2 : wrap64 (T - 53) = T - 53 := wrap_id (by have := HG.out; omega) (by have := HG.out; omega)
    have ew3 : wrap64 (T - 53 + 1) = T - 52 := by rw [wrap_id (by have := HG.out; omega) (by have := HG.out; omega)]; omega
    have HCC := hid hc
    rw [hp] at hplace HP1 HQ HIV ⊢
    have ew4 : wrap64 (-p) = -p := wrap_id (by have := HP1.out; omega) (by have := HP1.out; omega)
    obtain ⟨I, hI⟩ : ∃ I, intF (val l) (val m) = I := ⟨_, rfl⟩
    rw [hI] at HI HIV ⊢
    have hfl := float_int I
    obtain ⟨Q, hQ⟩ : ∃ Q, Ieee.double.nearest false I 0 = Q := ⟨_, rfl⟩
    have HLD := hid (fun w => math_Ldexp_int HI.out (n := p) (by have := HP1.out; omega) (by have := HP1.out; omega) w)
    rw [hQ] at hfl HLD
    obtain ⟨R, hR⟩ : ∃ R, Ieee.double.nearest false I p = R := ⟨_, rfl⟩
    rw [hR] at HLD ⊢
    clear hT hc htop hp hI hQ hR
    go_enter Tryz.func29, Tryz.ntmps29
    go_wp2_with fail
    refine HC1.out.mono ?_
    rintro e w' ⟨rfl, rfl⟩
    go_wp2_with fail
    refine HC2.out.mono ?_
    rintro e w' ⟨rfl, rfl⟩
    go_wp2_with fail
    refine (ap_scale HA.out HB.out (by omega) (by omega) (by have := HG.out; omega) (by have := HG.out; omega)).mono ?_
    rintro e w1 ⟨v, u, l', m', rfl, hs1, hs2, hv1, hv2, hl1, hl2, hb⟩
    have HS1 := hid hs1; have HS2 := hid hs2; have HB1 := hid hb; have HV1 := hid hv1; have HV2 := hid hv2
    have HA1 := hid (HA.out.below hb); have HBB1 := hid (HB.out.below hb)
    obtain ⟨so, sc, rfl, -, -, -, -, -⟩ := hs1
    obtain ⟨qo, qc, rfl, -, -, -, -, -⟩ := hs2
    have hcmp : decide (cmpI (val l') (val m') < 0) = false := by
      rw [cmpI_neg, hv1, hv2, Int.neg_neg]
      exact decide_eq_false HCC.out
    obtain ⟨c, hcv⟩ : ∃ c, cmpI (val l') (val m') = c := ⟨_, rfl⟩
    rw [hcv] at hcmp
    have HCV := hid hcv
    clear hb hv1 hv2 hcv
    go_wp2_with fail
    refine (nat_cmp' HS1.out HS2.out).mono ?_
    rw [HCV.out]
    rintro e w2 ⟨rfl, hb⟩
    have HB2 := hid (HB1.out.trans (hb.mono HB1.out.size))
    have HA2 := hid (HA1.out.below hb); have HBB2 := hid (HBB1.out.below hb)
    clear hb HA HB HA1 HBB1 HS1 HS2 HB1 hl1 hl2
    go_wp2_with fail
    refine (ap_scale HA2.out HBB2.out (by omega) (by omega) (by have := HP1.out; omega) (by have := HP1.out; omega)).mono ?_
    rintro e w3 ⟨v, u, l2, m2, rfl, hs1, hs2, hv1, hv2, hl1, hl2, hb⟩
    have HS1 := hid hs1; have HS2 := hid hs2; have HB3 := hid (HB2.out.trans (hb.mono HB2.out.size))
    rw [Int.neg_neg] at hv2
    have hpos : 0 < val m2 := by rw [hv2]; exact Nat.mul_pos h0 (Nat.two_pow_pos _)
    have hqq : val l2 / val m2 < 4611686018427387904 := by rw [hv1, hv2]; have := HQ.out; omega
    have hie : rne (val l2) (val m2) = I := by rw [hv1, hv2]; exact HIV.out.symm
    have HPOS := hid hpos; have HQQ := hid hqq; have HIE := hid hie
    obtain ⟨so, sc, rfl, -, -, -, -, -⟩ := hs1
    obtain ⟨qo, qc, rfl, -, -, -, -, -⟩ := hs2
    clear hb hv1 hv2 hpos hqq hie
    go_wp2_with fail
    refine (ap_nearestInteger HS1.out HS2.out (by omega) (by omega) HPOS.out HQQ.out).mono ?_
    rw [HIE.out]
    rintro e w4 ⟨rfl, hb⟩
    have HB4 := hid (HB3.out.trans (hb.mono HB3.out.size))
    clear hb HS1 HS2 HB2 HB3
    go_wp2_with fail
    refine (HLD.out _).mono ?_
    rintro e w' ⟨rfl, rfl⟩
    go_wp2_with fail
    go_ret
    exact ⟨rfl, HB4.out⟩
end Go.Proofs.YtjnbonellgpjnaaGreat

set_option linter.unusedVariables false
set_option linter.unusedSimpArgs false
namespace Go.Proofs.YtjnbonellgpjnaaGreat
open Go.RowKit

theorem nearest_false_le (m : Nat) (p : Int) : Ieee.double.nearest false m p ≤ 9218868437227405312 := by
  unfold Ieee.Format.nearest
  split
  · rw [word_eq]; simp
  · dsimp only
    rw [word_eq, infRung_d]
    simp only [Bool.false_eq_true, if_false]
    exact Nat.min_le_right _ _
theorem nearF_le (a d : Nat) : nearF a d ≤ 9218868437227405312 := by
  unfold nearF
  split
  · exact Nat.le_refl _
  · split
    · exact Nat.zero_le _
    · exact nearest_false_le _ _
theorem ap_nearest {a b : Value} {l m : List Nat} {w : World} (ha : Sees w a l) (hb : Sees w b m) (hl : l.length ≤ 1000) (hm : m.length ≤ 1000) (h0 : 0 < val m) :
    Calls Tryz.prog 29 #[a, b] w fun e w' => e = .returned (.float .f64 (nearF (val l) (val m))) ∧ Below w.heap.size w w' := by
  unfold nearF
  by_cases g1 : 1024 < topN (val l) (val m)
  · rw [if_pos g1]
    refine (ap_nearest_over ha hb hl hm g1).mono ?_
    rintro e w' ⟨rfl, rfl⟩
    exact ⟨rfl, Below.refl _ _⟩
  · rw [if_neg g1]
    by_cases g2 : topN (val l) (val m) < -1075
    · rw [if_pos g2]
      refine (ap_nearest_under ha hb hl hm g2).mono ?_
      rintro e w' ⟨rfl, rfl⟩
      exact ⟨rfl, Below.refl _ _⟩
    · rw [if_neg g2]
      exact ap_nearest_in ha hb hl hm h0 (by omega) (by omega)

/-- The float that a fraction becomes. -/
noncomputable def toF (n : Bool) (a d : Nat) : Nat := if d = 0 ∨ a = 0 then 0 else wordOf n (nearF a d)
theorem toF_lt (n : Bool) (a d : Nat) : toF n a d < 18446744073709551616 := by
  unfold toF
  split
  · decide
  · have := nearF_le a d
    unfold wordOf
    split <;> omega
theorem float_one : floatOfInt .f64 1 = 4607182418800017408 := by decide
theorem float_minus : floatOfInt .f64 (-1) = 13830554455654793216 := by decide

set_option maxRecDepth 100000 in
set_option maxHeartbeats 2000000 in
theorem ap_to {v : Value} {n : Bool} {l d : List Nat} {w : World} (h : SeesQ w v n l d) (hl : l.length ≤ 1000) (hm : d.length ≤ 1000) :
    Calls Tryz.prog 11 #[v] w fun e w' => e = .returned (.float .f64 (toF n (val l) (val d))) ∧ Below w.heap.size w w' := by
  obtain ⟨m, u, rfl, hm', hu⟩ := h
  obtain ⟨w0, hw0⟩ : ∃ x, x = w.alloc (.cells #[.bool n, m, u] 26) := ⟨_, rfl⟩
  have hb0 : Below w.heap.size w w0 := by rw [hw0]; exact (Below.refl _ w).alloc (Nat.le_refl _) _
  have hx0 : Blk w0 w.heap.size #[.bool n, m, u] := by rw [hw0]; exact Blk.new ..
  have HM := hid (hm'.below hb0); have HU := hid (hu.below hb0)
  have HB := hid hb0
  obtain ⟨ao, cap, rfl, -, -, -, -, -⟩ := hm'
  obtain ⟨bo, dap, rfl, -, -, -, -, -⟩ := hu
  have HX := hid hx0
  have HW := hid hw0.symm
  obtain ⟨g, hg⟩ : ∃ g, g = w.heap.size := ⟨_, rfl⟩
  rw [← hg] at HX
  have HG := hid hg.symm
  have HSG := hid (fr_sign (w := w0) (v := .agg #[.bool n, .slice ao l.length cap, .slice bo d.length dap]) ⟨_, _, rfl, HM.out, HU.out⟩)
  clear hb0 hx0 hw0 hg
  obtain ⟨c0, c1, c2, f0, f1, f2⟩ := HX.out.open3
  obtain ⟨s, hs⟩ : ∃ s, sgnQ n l d = s := ⟨_, rfl⟩
  rw [hs] at HSG
  unfold sgnQ at hs
  rw [sgnI_zval] at hs
  by_cases h0 : val d = 0 ∨ val l = 0
  · have e : toF n (val l) (val d) = 0 := if_pos h0
    rw [e]
    have hs0 : (s == (0 : Int)) = true := by
      rcases h0 with h0 | h0
      · rw [if_pos h0] at hs; subst hs; rfl
      · rw [h0] at hs; simp at hs; subst hs; rfl
    clear e hs h0
    go_enter Tryz.func11, Tryz.ntmps11
    go_wp2_with fail
    rw [HW.out, HG.out]
    refine HSG.out.mono ?_
    rintro e w' ⟨rfl, hb⟩
    have HB1 := hid (HB.out.trans (hb.mono HB.out.size))
    clear hb
    go_wp2_with fail
    go_ret
    exact ⟨rfl, HB1.out⟩
  · have e : toF n (val l) (val d) = wordOf n (nearF (val l) (val d)) := if_neg h0
    rw [e]
    rw [if_neg (by omega), if_neg (by omega)] at hs
    have hle := nearF_le (val l) (val d)
    have HN := hid (fun w (ha : Sees w (.slice ao l.length cap) l) (hb : Sees w (.slice bo d.length dap) d) => ap_nearest ha hb hl hm (by omega))
    obtain ⟨F, hF⟩ : ∃ F, nearF (val l) (val d) = F := ⟨_, rfl⟩
    rw [hF] at hle HN ⊢
    have HLE := hid hle
    clear e h0 hF hle
    cases n
    · simp only [Bool.false_eq_true, if_false] at hs
      subst hs
      have hfl := float_one
      have HCS := hid (fun w => math_copysign (b := F) (c := 4607182418800017408) (by have := HLE.out; omega) (by decide) w)
      rw [rung_self (by have := HLE.out; omega), show fneg 4607182418800017408 = false from by decide] at HCS
      go_enter Tryz.func11, Tryz.ntmps11
      go_wp2_with fail
      rw [HW.out, HG.out]
      refine HSG.out.mono ?_
      rintro e w1 ⟨rfl, hb⟩
      have HB1 := hid (HB.out.trans (hb.mono HB.out.size)); have HX1 := hid (HX.out.below hb); have HM1 := hid (HM.out.below hb); have HU1 := hid (HU.out.below hb)
      clear hb c0 c1 c2 f0 f1 f2 HB HX HM HU HW HSG
      obtain ⟨c0, c1, c2, f0, f1, f2⟩ := HX1.out.open3
      go_wp2_with fail
      refine (HN.out _ HM1.out HU1.out).mono ?_
      rintro e w2 ⟨rfl, hb⟩
      have HB2 := hid (HB1.out.trans (hb.mono HB1.out.size))
      clear hb
      go_wp2_with fail
      refine (HCS.out _).mono ?_
      rintro e w' ⟨rfl, rfl⟩
      go_wp2_with fail
      go_ret
      exact ⟨rfl, HB2.out⟩
    · simp only [if_true] at hs
      subst hs
      have hfl := float_minus
      have HCS := hid (fun w => math_copysign (b := F) (c := 13830554455654793216) (by have := HLE.out; omega) (by decide) w)
      rw [rung_self (by have := HLE.out; omega), show fneg 13830554455654793216 = true from by decide] at HCS
      go_enter Tryz.func11, Tryz.ntmps11
      go_wp2_with fail
      rw [HW.out, HG.out]
      refine HSG.out.mono ?_
      rintro e w1 ⟨rfl, hb⟩
      have HB1 := hid (HB.out.trans (hb.mono HB.out.size)); have HX1 := hid (HX.out.below hb); have HM1 := hid (HM.out.below hb); have HU1 := hid (HU.out.below hb)
      clear hb c0 c1 c2 f0 f1 f2 HB HX HM HU HW HSG
      obtain ⟨c0, c1, c2, f0, f1, f2⟩ := HX1.out.open3
      go_wp2_with fail
      refine (HN.out _ HM1.out HU1.out).mono ?_
      rintro e w2 ⟨rfl, hb⟩
      have HB2 := hid (HB1.out.trans (hb.mono HB1.out.size))
      clear hb
      go_wp2_with fail
      refine (HCS.out _).mono ?_
      rintro e w' ⟨rfl, rfl⟩
      go_wp2_with fail
      go_ret
      exact ⟨rfl, HB2.out⟩
end Go.Proofs.YtjnbonellgpjnaaGreat

set_option linter.unusedVariables false
set_option linter.unusedSimpArgs false
namespace Go.Proofs.YtjnbonellgpjnaaGreat
open Go.RowKit

/-- A subnormal number's digits. -/
theorem sub_norm {b : Nat} (h0 : 0 < b) (h1 : b < 4503599627370496) : ∃ k F, k ≤ 51 ∧ F < 4503599627370496 ∧ b * 4503599627370496 = (4503599627370496 + F) * 2 ^ k := by
  have hl := (Nat.log2_eq_iff (n := b) (k := b.log2) (by omega)).1 rfl
  have hk : b.log2 ≤ 51 := by
    have : b.log2 < 52 := (Nat.log2_lt (by omega)).2 (by show b < 4503599627370496; omega)
    omega
  generalize b.log2 = k at *
  have e1 : (2 : Nat) ^ k * 2 ^ (52 - k) = 4503599627370496 := by rw [← Nat.pow_add, show k + (52 - k) = 52 by omega]
  have lo : 4503599627370496 ≤ b * 2 ^ (52 - k) := by rw [← e1]; exact Nat.mul_le_mul_right _ hl.1
  have hi : b * 2 ^ (52 - k) < 9007199254740992 := by
    have : b * 2 ^ (52 - k) < 2 ^ (k + 1) * 2 ^ (52 - k) := Nat.mul_lt_mul_of_pos_right hl.2 (Nat.two_pow_pos _)
    rw [Nat.pow_succ, Nat.mul_right_comm, e1] at this
    omega
  obtain ⟨F, hF⟩ : ∃ F, b * 2 ^ (52 - k) = 4503599627370496 + F := ⟨b * 2 ^ (52 - k) - 4503599627370496, by omega⟩
  refine ⟨k, F, hk, by omega, ?_⟩
  rw [← hF, ← e1]
  generalize (2 : Nat) ^ k = p
  generalize (2 : Nat) ^ (52 - k) = q
  ac_rfl
theorem big_word : 4841369599423283200 = 1074 * 4503599627370496 + 4503599627370496 := by decide
theorem mul_sub {b k F : Nat} (h0 : 0 < b) (h1 : b < 4503599627370496) (hk : k ≤ 51) (hF : F < 4503599627370496) (h : b * 4503599627370496 = (4503599627370496 + F) * 2 ^ k) : Ieee.double.mul b 4841369599423283200 = some ((k + 1) * 4503599627370496 + F) := by
  have mx : mag b = b := if_pos h1
  have my : mag 4841369599423283200 = 4503599627370496 * 2 ^ 1074 := by rw [big_word]; exact mag_pow 1074
  have r1 : rung b = b := rung_self (by omega)
  have r2 : rung 4841369599423283200 = 4841369599423283200 := rung_self (by decide)
  have s1 : fneg b = false := fneg_low (by omega)
  have s2 : fneg 4841369599423283200 = false := fneg_low (by decide)
  have h2 := product_fin (x := b) (y := 4841369599423283200) (by rw [r1]; omega) (by rw [r2]; decide)
  rw [r1, r2, s1, s2, mx, my] at h2
  have h3 := nearest_scale false (4503599627370496 + F) ((k : Int) - 1074) (k + 1074)
  have e1 : ((k : Int) - 1074 - ((k + 1074 : Nat) : Int)) = -2148 := by omega
  have e2 : (4503599627370496 + F) * 2 ^ (k + 1074) = b * (4503599627370496 * 2 ^ 1074) := by
    rw [Nat.pow_add, ← Nat.mul_assoc, ← h]
    generalize (2 : Nat) ^ 1074 = p
    ac_rfl
  rw [e1, e2] at h3
  rw [h2]
  refine congrArg some ?_
  refine Eq.trans h3 ?_
  rw [nearest_norm false hF (by omega) (by omega), word_eq]
  simp only [Bool.false_eq_true, if_false]
  rw [show ((k : Int) - 1074 + 1075).toNat = k + 1 by omega]

set_option maxRecDepth 100000 in
theorem math_normalize_small {b k F : Nat} (h0 : 0 < b) (h1 : b < 4503599627370496) (hk : k ≤ 51) (hF : F < 4503599627370496) (h : b * 4503599627370496 = (4503599627370496 + F) * 2 ^ k) (w : World) :
    Calls Tryz.prog 106 #[.float .f64 b] w fun e w' => e = .returned (.tuple #[.float .f64 ((k + 1) * 4503599627370496 + F), .int .i64 (-52)]) ∧ w = w' := by
  have HC := hid (math_abs (b := b) (by omega) w)
  rw [rung_self (by omega)] at HC
  have ht : (FloatKind.f64.format.order b 4503599627370496 == some .lt) = true := by
    have := order_lt b 4503599627370496
    rw [srung_low (by omega)] at this
    refine this.trans ?_
    have e : srung 4503599627370496 = 4503599627370496 := by decide
    rw [e]
    unfold fnum
    rw [isNan_low (by omega), show isNan 4503599627370496 = false by decide]
    simp
    omega
  have hm := run_mul 30 w (mul_sub h0 h1 hk hF h)
  obtain ⟨R, hR⟩ : ∃ R, (k + 1) * 4503599627370496 + F = R := ⟨_, rfl⟩
  rw [hR] at hm ⊢
  clear hR h hF hk h1 h0
  go_enter Tryz.func106, Tryz.ntmps106
  go_wp2_with fail
  refine HC.out.mono ?_
  rintro e w' ⟨rfl, rfl⟩
  go_wp2_with fail
  go_ret2
  exact ⟨rfl, rfl⟩

theorem fx_nums {E : Nat} (h : E < 2048) : ∃ (d x : Int), wrap64 (E : Int) = (E : Int) ∧ wrap64 ((E : Int) - 1023) = (E : Int) - 1023 ∧ wrap64 ((E : Int) - 1023 + 1) = d ∧ wrap64 (-52 + d) = x ∧ x = (E : Int) - 1074 ∧ d = (E : Int) - 1022 := by
  refine ⟨(E : Int) - 1022, (E : Int) - 1074, wrap_id (by omega) (by omega), wrap_id (by omega) (by omega), ?_, ?_, rfl, rfl⟩
  · rw [wrap_id (by omega) (by omega)]; omega
  · rw [wrap_id (by omega) (by omega)]; omega

set_option maxRecDepth 100000 in
theorem math_frexp_small {b k F : Nat} (h0 : 0 < b) (h1 : b < 4503599627370496) (hk : k ≤ 51) (hF : F < 4503599627370496) (h : b * 4503599627370496 = (4503599627370496 + F) * 2 ^ k) (w : World) :
    Calls Tryz.prog 82 #[.float .f64 b] w fun e w' => e = .returned (.tuple #[.float .f64 (4602678819172646912 + F), .int .i64 ((k : Int) - 1073)]) ∧ w = w' := by
  have HM := hid (math_normalize_small h0 h1 hk hF h w)
  obtain ⟨R, hR⟩ : ∃ R, (k + 1) * 4503599627370496 + F = R := ⟨_, rfl⟩
  rw [hR] at HM
  obtain ⟨E, hE⟩ : ∃ E, k + 1 = E := ⟨_, rfl⟩
  obtain ⟨d, x, w1, w2, w3, w4, hx, hd0⟩ := fx_nums (E := E) (by omega)
  have HX : Hid (x = (k : Int) - 1073) := hid (by omega)
  have hd : (R : Int) / 4503599627370496 = (E : Int) := by omega
  have h3 := and_2047 (e := E) (by omega)
  have hm : R % 4503599627370496 = F := by omega
  have ha := andNot_exp (b := R) (by omega)
  rw [hm] at ha
  have ho : bits .or .u64 (F : Int) 4602678819172646912 = ((4602678819172646912 + F : Nat) : Int) := or_exp (f := F) (e := 1022) (by omega) (by omega)
  have HN := hid (math_isNaN b w)
  have HI := hid (math_isInf0 (b := b) (Nat.lt_trans h1 (by decide)) w)
  rw [isNan_low (Nat.lt_trans h1 (by decide))] at HN
  rw [isInf_low (Nat.lt_trans h1 (by decide))] at HI
  have hz : (FloatKind.f64.format.order b 0 == some .eq) = false := by
    refine (eq_zero b).trans ?_
    unfold isZ0; rw [rung_self (Nat.lt_trans h1 (by decide))]; exact decide_eq_false (Nat.ne_of_gt h0)
  have hb := run_bits R w
  have hf := run_frombits (4602678819172646912 + F) w
  obtain ⟨S, hS⟩ : ∃ S, 4602678819172646912 + F = S := ⟨_, rfl⟩
  rw [hS] at ho hf ⊢
  rw [← HX.out]
  clear hR hE hF h1 h0 hx hd0 hm hS h hk
  go_enter Tryz.func82, Tryz.ntmps82
  go_wp2_with fail
  refine HI.out.mono ?_
  rintro e w' ⟨rfl, rfl⟩
  go_wp2_with fail
  refine HN.out.mono ?_
  rintro e w' ⟨rfl, rfl⟩
  go_wp2_with fail
  refine HM.out.mono ?_
  rintro e w' ⟨rfl, rfl⟩
  go_wp2_with fail
  go_ret2
  exact ⟨by simp [w4], rfl⟩

/-- Frexp of a finite float above 0. -/
theorem math_Frexp_pos {b : Nat} (h0 : 0 < b) (h1 : b < 9218868437227405312) : ∃ (F : Nat) (x : Int), F < 4503599627370496 ∧ -1073 ≤ x ∧ x ≤ 1024 ∧ mag b * 4503599627370496 = (4503599627370496 + F) * 2 ^ (x + 1073).toNat ∧
    ∀ w, Calls Tryz.prog 39 #[.float .f64 b] w fun e w' => e = .returned (.tuple #[.float .f64 (4602678819172646912 + F), .int .i64 x]) ∧ w = w' := by
  by_cases h2 : b < 4503599627370496
  · obtain ⟨k, F, hk, hF, h⟩ := sub_norm h0 h2
    refine ⟨F, (k : Int) - 1073, hF, by omega, by omega, ?_, fun w => ?_⟩
    · rw [show mag b = b from if_pos h2, show ((k : Int) - 1073 + 1073).toNat = k by omega]; exact h
    · refine math_Frexp ((math_frexp_small h0 h2 hk hF h w).mono ?_)
      rintro e w' ⟨rfl, rfl⟩
      exact ⟨_, _, rfl, rfl, rfl⟩
  · refine ⟨b % 4503599627370496, ((b / 4503599627370496 : Nat) : Int) - 1022, Nat.mod_lt _ (by decide), by omega, by omega, ?_, fun w => ?_⟩
    · unfold mag
      rw [if_neg h2, show (((b / 4503599627370496 : Nat) : Int) - 1022 + 1073).toNat = (b / 4503599627370496 - 1) + 52 by omega, Nat.pow_add, show (2 : Nat) ^ 52 = 4503599627370496 from rfl, Nat.mul_assoc]
    · refine math_Frexp ((math_frexp_big rfl rfl (by omega) h1 w).mono ?_)
      rintro e w' ⟨rfl, rfl⟩
      exact ⟨_, _, rfl, rfl, rfl⟩
theorem math_Frexp_zero (w : World) : Calls Tryz.prog 39 #[.float .f64 0] w fun e w' => e = .returned (.tuple #[.float .f64 0, .int .i64 0]) ∧ w = w' := by
  refine math_Frexp ((math_frexp_zero w).mono ?_)
  rintro e w' ⟨rfl, rfl⟩
  exact ⟨_, _, rfl, rfl, rfl⟩

/-- A whole number's float, as an int, is that number. -/
theorem to_int {b E F j : Nat} (h : Norm b E F) (I : Nat) (hI : 4503599627370496 + F = I * 2 ^ j) (hE : E + j = 1074) (hl : I < 9223372036854775808) : floatToIntVal .f64 b .i64 = some (I : Int) := by
  have hw := h.word; have hF := h.frac; have ht := h.top
  have hr : Ieee.double.read b = .number false (4503599627370496 + F) ((E : Int) - 1074) := by
    unfold Ieee.Format.read
    rw [signWeight_d, binade_d, infRung_d, least_d]
    dsimp only
    have e0 : b % 9223372036854775808 = b := Nat.mod_eq_of_lt (by omega)
    have e1 : b / 9223372036854775808 = 0 := Nat.div_eq_of_lt (by omega)
    rw [e0, e1, if_neg (by omega), if_pos (by omega), h.mod, h.div]
    simp
    omega
  have hp : ((E : Int) - 1074) = -(j : Int) := by omega
  unfold floatToIntVal FloatKind.decode
  rw [show FloatKind.f64.format = Ieee.double from rfl, hr, hp, hI]
  have hcut : Ieee.Toward.zero.cut false (I * 2 ^ j) j = I := by
    unfold Ieee.Toward.cut
    dsimp only
    have hI0 : I ≠ 0 := by rintro rfl; rw [Nat.zero_mul] at hI; omega
    have : min j ((I * 2 ^ j).log2 + 2) = j := by rw [log2_scale hI0]; omega
    rw [this, Nat.shiftLeft_eq, Nat.one_mul, Nat.mul_div_cancel _ (Nat.two_pow_pos j)]
    rfl
  unfold Ieee.Datum.toInt Ieee.Datum.integral
  dsimp only
  rw [show (-(j : Int)).toNat = 0 by omega, show (- -(j : Int)).toNat = j by omega, Nat.shiftLeft_zero, hcut]
  dsimp only [Ieee.signed]
  simp [IntKind.min, IntKind.max, IntKind.signed, IntKind.bits]
  omega
end Go.Proofs.YtjnbonellgpjnaaGreat

set_option linter.unusedVariables false
set_option linter.unusedSimpArgs false
namespace Go.Proofs.YtjnbonellgpjnaaGreat
open Go.RowKit

/-- Equal fractions have one plain form. -/
theorem q_scale (z : Int) (d k : Nat) (hd : 0 < d) (hk : 0 < k) : qnum (z * k) (d * k) = qnum z d ∧ qden (z * k) (d * k) = qden z d := by
  have h1 : d * k ≠ 0 := Nat.ne_of_gt (Nat.mul_pos hd hk)
  have e : Nat.gcd (z * (k : Int)).natAbs (d * k) = Nat.gcd z.natAbs d * k := by
    rw [Int.natAbs_mul, Int.natAbs_natCast, Nat.gcd_mul_right]
  constructor
  · rw [qnum_pos h1, qnum_pos (by omega), e, Int.natCast_mul]
    exact Int.mul_ediv_mul_of_pos_left _ _ (by omega)
  · rw [qden_pos h1, qden_pos (by omega), e]
    exact Nat.mul_div_mul_right _ _ hk
theorem q_eq {z y : Int} {d c : Nat} (hd : 0 < d) (hc : 0 < c) (h : z * c = y * d) : qnum z d = qnum y c ∧ qden z d = qden y c := by
  have h1 := q_scale z d c hd hc
  have h2 := q_scale y c d hc hd
  rw [h, Nat.mul_comm d c] at h1
  exact ⟨h1.1.symm.trans h2.1, h1.2.symm.trans h2.2⟩

/-- So many units are 1. -/
def unitsK : Nat := 1074
def units : Nat := 2 ^ unitsK
theorem units_eq : ∃ K : Nat, (K = 1074) ∧ units = 2 ^ K := ⟨unitsK, rfl, by unfold units; rfl⟩
theorem units_pos : 0 < units := by obtain ⟨K, -, h⟩ := units_eq; rw [h]; exact Nat.two_pow_pos K
/-- The fraction that a finite float is. -/
def fnumer (b : Nat) : Int := qnum (smag b) units
def fdenom (b : Nat) : Nat := qden (smag b) units
theorem from_parts {b I : Nat} {x : Int} {s : Bool} (hs : s = fneg b) (h1 : -1073 ≤ x) (h : mag (rung b) * 4503599627370496 = I * 2 ^ (x + 1073).toNat) {l d : List Nat} (hl : val l = I * 2 ^ (x - 53).toNat) (hd : val d = 1 * 2 ^ (-(x - 53)).toNat) :
    qnum (zval s l) (val d) = fnumer b ∧ qden (zval s l) (val d) = fdenom b := by
  have key : val l * units = mag (rung b) * val d := by
    obtain ⟨K, hK, hu⟩ := units_eq
    rw [hu]
    have p52 : (4503599627370496 : Nat) = 2 ^ 52 := rfl
    rw [hl, hd, Nat.one_mul]
    refine Nat.eq_of_mul_eq_mul_right (show 0 < 2 ^ 52 from Nat.two_pow_pos 52) ?_
    rw [p52] at h
    rw [Nat.mul_right_comm (mag (rung b)), h, Nat.mul_assoc I, Nat.mul_assoc I, Nat.mul_assoc I, ← Nat.pow_add, ← Nat.pow_add, ← Nat.pow_add]
    refine congrArg (fun n => I * 2 ^ n) ?_
    omega
  have hdp : 0 < val d := by rw [hd, Nat.one_mul]; exact Nat.two_pow_pos _
  refine q_eq hdp units_pos ?_
  unfold smag
  rw [← hs]
  generalize units = P at *
  generalize mag (rung b) = M at *
  generalize val d = D at *
  unfold zval
  generalize val l = L at *
  have k2 : (L : Int) * P = (M : Int) * D := by exact_mod_cast key
  cases s
  · simpa using k2
  · simp only [if_true, Int.neg_mul]; rw [k2]
theorem from_zero {b : Nat} (h : rung b = 0) {s : Bool} {l d : List Nat} (hl : val l = 0) (hd : 0 < val d) : qnum (zval s l) (val d) = fnumer b ∧ qden (zval s l) (val d) = fdenom b := by
  have e1 : zval s l = 0 := (zval_zero_iff s l).2 hl
  have e2 : smag b = 0 := by unfold smag; rw [h, mag_zero]; simp
  refine q_eq hd units_pos ?_
  rw [e1, e2]; simp

set_option maxRecDepth 100000 in
set_option maxHeartbeats 2000000 in
theorem ap_from_bad {b : Nat} (hb : b < 18446744073709551616) (h : isNan b = true ∨ isInf b = true) (w : World) :
    Calls Tryz.prog 17 #[.float .f64 b] w fun e w' => e = .returned (.tuple #[.agg #[.bool false, .slice none 0 0, .slice none 0 0], .int .i64 40]) ∧ Below w.heap.size w w' := by
  obtain ⟨w0, hw0⟩ : ∃ x, x = w.alloc (.cells #[.bool false, .slice none 0 0, .slice none 0 0] 26) := ⟨_, rfl⟩
  have hb0 : Below w.heap.size w w0 := by rw [hw0]; exact (Below.refl _ w).alloc (Nat.le_refl _) _
  have hx0 : Blk w0 w.heap.size #[.bool false, .slice none 0 0, .slice none 0 0] := by rw [hw0]; exact Blk.new ..
  have HB0 := hid hb0
  have HX0 := hid hx0
  have HW := hid hw0.symm
  obtain ⟨g, hg⟩ : ∃ g, g = w.heap.size := ⟨_, rfl⟩
  rw [← hg] at HX0
  have HG := hid hg.symm
  have HN := hid (math_isNaN b w0)
  have HI := hid (math_isInf0 hb w0)
  clear hb0 hx0 hw0 hg
  have hq0 : IsQ w0 (.agg #[.bool false, .slice none 0 0, .slice none 0 0]) 0 0 := ⟨_, _, rfl, Sees.nil _, Sees.nil _⟩
  obtain ⟨w7, hw7, hq7, hb7, k0, k1, k2⟩ := store3 HB0.out (by rw [HG.out]; exact Nat.le_refl _) HX0.out hq0
  have HB7 := hid hb7; have HW7 := hid hw7
  obtain ⟨c0, c1, c2, f0, f1, f2⟩ := HX0.out.open3
  have hlt := HX0.out.lt
  clear hw7 hq7 hb7 hq0
  cases hn : isNan b
  · rw [hn] at h
    have hi : isInf b = true := by simpa using h
    rw [hi] at HI
    rw [hn] at HN
    clear h hn hi
    go_enter Tryz.func17, Tryz.ntmps17
    go_wp2_with fail
    rw [HW.out, HG.out]
    refine HN.out.mono ?_
    rintro e w' ⟨rfl, rfl⟩
    go_wp2_with fail
    refine HI.out.mono ?_
    rintro e w' ⟨rfl, rfl⟩
    go_wp2
    rw [HW7.out]
    exact bodyPost_ret (v := .tuple #[.agg #[.bool false, .slice none 0 0, .slice none 0 0], .int .i64 40]) (by simp [results, Tryz.results17, go_sem, k0, k1, k2]) rfl ⟨rfl, HB7.out⟩
  · rw [hn] at HN
    clear h hn
    go_enter Tryz.func17, Tryz.ntmps17
    go_wp2_with fail
    rw [HW.out, HG.out]
    refine HN.out.mono ?_
    rintro e w' ⟨rfl, rfl⟩
    go_wp2
    rw [HW7.out]
    exact bodyPost_ret (v := .tuple #[.agg #[.bool false, .slice none 0 0, .slice none 0 0], .int .i64 40]) (by simp [results, Tryz.results17, go_sem, k0, k1, k2]) rfl ⟨rfl, HB7.out⟩
end Go.Proofs.YtjnbonellgpjnaaGreat

set_option linter.unusedVariables false
set_option linter.unusedSimpArgs false
namespace Go.Proofs.YtjnbonellgpjnaaGreat
open Go.RowKit

/-- What From hands back of a finite float. -/
def FromIs (w : World) (z : Int) (d : Nat) (e : Ending) (w' : World) : Prop := ∃ v, e = .returned (.tuple #[v, .int .i64 0]) ∧ IsQ w' v z d ∧ Below w.heap.size w w'

set_option maxRecDepth 100000 in
set_option maxHeartbeats 2000000 in
theorem from_walk {b r S L I : Nat} {x : Int} {s : Bool} {z : Int} {dn : Nat} (hb : b < 18446744073709551616) (hr : rung b = r) (hn : isNan b = false) (hi : isInf b = false) (hs : (FloatKind.f64.format.order b 0 == some .lt) = s)
    (hF : ∀ w, Calls Tryz.prog 39 #[.float .f64 r] w fun e w' => e = .returned (.tuple #[.float .f64 S, .int .i64 x]) ∧ w = w')
    (hL : ∀ w, Calls Tryz.prog 41 #[.float .f64 S, .int .i64 53] w fun e w' => e = .returned (.float .f64 L) ∧ w = w')
    (hI : floatToIntVal .f64 L .i64 = some (I : Int)) (hI2 : I < 9223372036854775808) (hx1 : -1073 ≤ x) (hx2 : x ≤ 1024)
    (spec : ∀ l d, val l = I * 2 ^ (x - 53).toNat → val d = 1 * 2 ^ (-(x - 53)).toNat → qnum (zval s l) (val d) = z ∧ qden (zval s l) (val d) = dn) (w : World) :
    Calls Tryz.prog 17 #[.float .f64 b] w fun e w' => FromIs w z dn e w' := by
  obtain ⟨w0, hw0⟩ : ∃ x, x = w.alloc (.cells #[.bool false, .slice none 0 0, .slice none 0 0] 26) := ⟨_, rfl⟩
  have hb0 : Below w.heap.size w w0 := by rw [hw0]; exact (Below.refl _ w).alloc (Nat.le_refl _) _
  have hx0 : Blk w0 w.heap.size #[.bool false, .slice none 0 0, .slice none 0 0] := by rw [hw0]; exact Blk.new ..
  have HB0 := hid hb0
  have HX0 := hid hx0
  have HW := hid hw0.symm
  obtain ⟨g, hg⟩ : ∃ g, g = w.heap.size := ⟨_, rfl⟩
  rw [← hg] at HX0
  have HG := hid hg.symm
  have HN := hid (math_isNaN b w0)
  have HI := hid (math_isInf0 hb w0)
  have HA := hid (math_abs hb w0)
  rw [hn] at HN; rw [hi] at HI; rw [hr] at HA
  have HF := hid (hF w0); have HL := hid (hL w0)
  have hcv := run_convert_float_int (P := Tryz.prog) w0 30 3 .f64 .i64 L (I : Int) (by kernel_rfl) (by kernel_rfl) hI
  have HO := hid (nat_of (I : Int) (by omega) (by omega) w0)
  rw [Int.toNat_natCast] at HO
  have hIl : (limbs I).length ≤ 2 := limbs_length_le (by show I < 18446744073709551616; omega)
  have h1l : (limbs 1).length ≤ 1 := limbs_length_le (by decide)
  have w1 : wrap64 (x - 53) = x - 53 := wrap_id (by omega) (by omega)
  have HSP := hid spec
  have HX12 : Hid (-1073 ≤ x ∧ x ≤ 1024) := hid (by omega)
  clear hb0 hx0 hw0 hg hr hn hi hF hL hI hI2 hx1 hx2 spec hb
  go_enter Tryz.func17, Tryz.ntmps17
  go_wp2_with fail
  rw [HW.out, HG.out]
  refine HN.out.mono ?_
  rintro e w' ⟨rfl, rfl⟩
  go_wp2_with fail
  refine HI.out.mono ?_
  rintro e w' ⟨rfl, rfl⟩
  go_wp2_with fail
  refine HA.out.mono ?_
  rintro e w' ⟨rfl, rfl⟩
  go_wp2_with fail
  refine HF.out.mono ?_
  rintro e w' ⟨rfl, rfl⟩
  go_wp2_with fail
  refine HL.out.mono ?_
  rintro e w' ⟨rfl, rfl⟩
  go_wp2_with fail
  refine HO.out.mono ?_
  rintro e wa ⟨va, rfl, hsa, hb⟩
  have HBa := hid (HB0.out.trans (hb.mono HB0.out.size)); have HXa := hid (HX0.out.below hb)
  have HSa := hid hsa
  obtain ⟨ao, ac, rfl, -, -, -, -, -⟩ := hsa
  clear hb HB0 HX0 HN HI HA HF HL HO hcv HW
  go_wp2_with fail
  refine (nat_of 1 (by omega) (by omega) _).mono ?_
  rintro e wb ⟨vb, rfl, hsb, hb⟩
  change Sees wb vb (limbs 1) at hsb
  have HBb := hid (HBa.out.trans (hb.mono HBa.out.size)); have HXb := hid (HXa.out.below hb)
  have HSab := hid (HSa.out.below hb); have HSb := hid hsb
  obtain ⟨bo, bc, rfl, -, -, -, -, -⟩ := hsb
  clear hb HBa HXa HSa
  go_wp2_with fail
  refine (ap_scale HSab.out HSb.out (by omega) (by omega) (by have := HX12.out; omega) (by have := HX12.out; omega)).mono ?_
  rintro e wc ⟨vc, uc, lc, dc, rfl, hs1, hs2, hv1, hv2, hl1, hl2, hb⟩
  rw [val_limbs] at hv1 hv2
  have HZ := hid (HSP.out lc dc hv1 hv2)
  have HBc := hid (HBb.out.trans (hb.mono HBb.out.size)); have HXc := hid (HXb.out.below hb)
  have HS1 := hid hs1; have HS2 := hid hs2
  obtain ⟨co, cc, rfl, -, -, -, -, -⟩ := hs1
  obtain ⟨eo, ec, rfl, -, -, -, -, -⟩ := hs2
  clear hb HBb HXb HSab HSb hv1 hv2 HSP
  obtain ⟨wd, hwd⟩ : ∃ y, y = wc.alloc (.cells #[.bool s, .slice co lc.length cc, .slice eo dc.length ec] 26) := ⟨_, rfl⟩
  have hbd : Below wc.heap.size wc wd := by rw [hwd]; exact (Below.refl _ wc).alloc (Nat.le_refl _) _
  have hxd : Blk wd wc.heap.size #[.bool s, .slice co lc.length cc, .slice eo dc.length ec] := by rw [hwd]; exact Blk.new ..
  have HBd := hid (HBc.out.trans (hbd.mono HBc.out.size)); have HXd := hid (HXc.out.below hbd)
  have HP := hid (fr_plain (w := wd) (n := s) (a := .agg #[.bool s, .slice co lc.length cc, .slice eo dc.length ec]) ⟨_, _, rfl, HS1.out.below hbd, HS2.out.below hbd⟩ (by omega) (by omega))
  rw [HZ.out.1, HZ.out.2] at HP
  have HWd := hid hwd.symm
  have HYd := hid hxd
  clear hwd hbd hxd HBc HXc HS1 HS2 HZ
  go_wp2_with fail
  rw [HWd.out]
  refine HP.out.mono ?_
  rintro e w2 ⟨v2, rfl, hq, hb⟩
  have HB2 := hid (HBd.out.trans (hb.mono HBd.out.size)); have HX2 := hid (HXd.out.below hb)
  obtain ⟨po, pc, qo, qc, rfl⟩ := hq.form
  obtain ⟨w7, hw7, hq7, hb7, k0, k1, k2⟩ := store3 HB2.out (by rw [HG.out]; exact Nat.le_refl _) HX2.out hq
  have HQ := hid hq7; have HB7 := hid hb7; have HW7 := hid hw7
  obtain ⟨c0, c1, c2, f0, f1, f2⟩ := HX2.out.open3
  have hlt := HX2.out.lt
  clear hw7 hq7 hb7 hq hb HBd HXd HB2 HP HWd HYd
  generalize zneg z = nb at *
  generalize zlim z = lb at *
  generalize limbs dn = ld at *
  go_wp2
  rw [HW7.out]
  exact bodyPost_ret (v := .tuple #[.agg #[.bool nb, .slice po lb.length pc, .slice qo ld.length qc], .int .i64 0]) (by simp [results, Tryz.results17, go_sem, k0, k1, k2]) rfl ⟨_, rfl, HQ.out, HB7.out⟩

theorem lt_zero {b : Nat} (hn : isNan b = false) : (FloatKind.f64.format.order b 0 == some .lt) = (fneg b && !isZ0 b) := by
  refine (order_lt b 0).trans ?_
  unfold fnum
  rw [hn, show isNan 0 = false by decide, show srung 0 = 0 by decide]
  unfold srung isZ0
  cases fneg b
  · simp
  · by_cases h : rung b = 0
    · simp [h]
    · simp [h]; omega

theorem ap_from {b : Nat} (hb : b < 18446744073709551616) (h : rung b < 9218868437227405312) (w : World) :
    Calls Tryz.prog 17 #[.float .f64 b] w fun e w' => FromIs w (fnumer b) (fdenom b) e w' := by
  have hn : isNan b = false := by unfold isNan; exact decide_eq_false (by omega)
  have hi : isInf b = false := by unfold isInf; exact decide_eq_false (by omega)
  have hlt := lt_zero hn
  rcases Nat.eq_zero_or_pos (rung b) with h0 | h0
  · refine from_walk (S := 0) (L := 0) (I := 0) (x := 0) (s := false) hb h0 hn hi ?_ math_Frexp_zero (fun w => math_Ldexp (math_ldexp_zero 53 w)) (by decide) (by decide) (by decide) (by decide) ?_ w
    · rw [hlt, show isZ0 b = true from decide_eq_true h0]; simp
    · intro l d hl hd
      exact from_zero h0 (by rw [hl, Nat.zero_mul]) (by rw [hd, Nat.one_mul]; exact Nat.two_pow_pos _)
  · obtain ⟨F, x, hF, hx1, hx2, hm, hfr⟩ := math_Frexp_pos h0 h
    have hS : Norm (4602678819172646912 + F) 1021 F := ⟨by omega, hF, by decide⟩
    have hw : Ieee.double.nearest false (4503599627370496 + F) (53 + (1021 : Nat) - 1074) = (1075 : Nat) * 4503599627370496 + F := by
      rw [show (53 : Int) + (1021 : Nat) - 1074 = 0 by decide, nearest_norm false hF (by decide) (by decide)]; rfl
    have hN : Norm ((1075 : Nat) * 4503599627370496 + F) 1074 F := ⟨rfl, hF, by decide⟩
    refine from_walk (S := 4602678819172646912 + F) (L := 1075 * 4503599627370496 + F) (I := 4503599627370496 + F) (x := x) (s := fneg b) hb rfl hn hi ?_ hfr (fun w => ?_) (to_int hN _ (j := 0) (by simp) (by decide) (by omega)) (by omega) hx1 hx2 ?_ w
    · rw [hlt, show isZ0 b = false from decide_eq_false (by omega)]; simp
    · have := math_ldexp hS (n := 53) (by decide) (by decide) w
      rw [hw] at this
      exact math_Ldexp this
    · intro l d hl hd
      exact from_parts rfl hx1 hm hl hd
end Go.Proofs.YtjnbonellgpjnaaGreat
