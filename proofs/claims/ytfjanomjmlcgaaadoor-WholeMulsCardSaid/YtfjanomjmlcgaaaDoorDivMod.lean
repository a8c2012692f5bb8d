/- nat.DivMod, whole, by its contract. -/
import Derived.Test.YtfjanomjmlcgaaaDoorLong
import Derived.Test.YtfjanomjmlcgaaaDoorDiv2
import Derived.Test.YtfjanomjmlcgaaaDoorInt1
set_option linter.unusedVariables false
set_option linter.unusedSimpArgs false
namespace Go.Proofs.YtfjanomjmlcgaaaDoor
open Go.RowKit

set_option maxHeartbeats 1000000 in
theorem nat_div_less (a b : Option Addr) (la ca lb cb : Nat) (l m : List Nat) (w : World) (ha : Sees w (.slice a la ca) l) (hb : Sees w (.slice b lb cb) m) (hl : l.length ≤ 35184372088832) (hlt : val l < val m) :
    Calls Tryd.prog 14 #[.slice a la ca, .slice b lb cb] w fun e w' => IsDiv w (val l) (val m) e w' := by
  have hlen1 := (limbs_prefix ha.ok).2
  have hmp : 0 < (limbs (val m)).length := (limbs_last (by omega)).1
  go_enter Tryd.func14, Tryd.ntmps14
  go_wp2_with fail
  refine (trim_sees _ _ _ _ _ ha).mono ?_
  rintro e w' ⟨⟨A, rfl, hA, -⟩, rfl⟩
  have HA := hid hA; clear hA
  go_wp2_with fail
  refine (trim_sees _ _ _ _ _ hb).mono ?_
  rintro e w' ⟨⟨B, rfl, hB, -⟩, rfl⟩
  have HB := hid hB; clear hB ha hb
  obtain ⟨q, hq⟩ : ∃ q, limbs (val m) = q := ⟨_, rfl⟩
  obtain ⟨p, hp⟩ : ∃ p, limbs (val l) = p := ⟨_, rfl⟩
  have hvp : val p = val l := by rw [← hp, val_limbs]
  have hvq : val q = val m := by rw [← hq, val_limbs]
  rw [hp] at HA hlen1
  rw [hq] at HB hmp
  simp only [hp, hq]
  have HP := hid hp; have HLT := hid hlt
  have hpl : p.length ≤ 35184372088832 := by omega
  have hc : cmpI (val p) (val q) = -1 := by rw [hvp, hvq]; exact cmpI_lt hlt
  have HVP := hid hvp
  clear hp hq hlt hvp hvq hl hlen1
  go_wp2_with fail
  refine (nat_cmp _ _ _ _ _ _ _ _ _ HA.out HB.out).mono ?_
  rw [hc]
  rintro e w1 ⟨rfl, hb1⟩
  have HA1 := hid (HA.out.below hb1)
  have HB1 := hid hb1
  clear HA HB hb1 hc
  go_wp2_with fail
  refine (nat_plain' HA1.out hpl).mono ?_
  rintro e w2 ⟨v, rfl, hs, hb2⟩
  have HS := hid hs; have HB2 := hid hb2
  clear hs hb2
  go_wp2
  go_ret3
  refine ⟨_, _, rfl, ?_, ?_, ?_⟩
  · rw [Nat.div_eq_of_lt HLT.out]; exact Sees.nil _
  · rw [Nat.mod_eq_of_lt HLT.out]; have := HS.out; rwa [HVP.out] at this
  · exact HB1.out.trans (HB2.out.mono HB1.out.size)

set_option maxRecDepth 100000 in
set_option maxHeartbeats 400000 in
theorem nat_div_two (a b : Option Addr) (la ca lb cb : Nat) (l m : List Nat) (w : World) (ha : Sees w (.slice a la ca) l) (hb : Sees w (.slice b lb cb) m) (h0 : 0 < val m) (hle : val m ≤ val l) (h2 : (limbs (val l)).length ≤ 2) :
    Calls Tryd.prog 14 #[.slice a la ca, .slice b lb cb] w fun e w' => IsDiv w (val l) (val m) e w' := by
  have hmp : 0 < (limbs (val m)).length := (limbs_last h0).1
  have hx64 : val l < 18446744073709551616 := by
    have h3 := lt_pow_length (val l)
    have h4 : 4294967296 ^ (limbs (val l)).length ≤ 4294967296 ^ 2 := Nat.pow_le_pow_right (by decide) h2
    have h5 : (4294967296 : Nat) ^ 2 = 18446744073709551616 := by decide
    omega
  go_enter Tryd.func14, Tryd.ntmps14
  go_wp2_with fail
  refine (trim_sees _ _ _ _ _ ha).mono ?_
  rintro e w' ⟨⟨A, rfl, hA, -⟩, rfl⟩
  have HA := hid hA; clear hA
  go_wp2_with fail
  refine (trim_sees _ _ _ _ _ hb).mono ?_
  rintro e w' ⟨⟨B, rfl, hB, -⟩, rfl⟩
  have HB := hid hB; clear hB ha hb
  obtain ⟨x, hx⟩ : ∃ x, val l = x := ⟨_, rfl⟩
  obtain ⟨y, hy⟩ : ∃ y, val m = y := ⟨_, rfl⟩
  rw [hx] at HA h2 hle hx64
  rw [hy] at HB hmp hle h0
  simp only [hx, hy]
  have HXX := hid hx; have HYY := hid hy
  clear hx hy
  have hz : 0 ≤ cmpI (val (limbs x)) (val (limbs y)) := by rw [val_limbs, val_limbs]; unfold cmpI; rw [if_neg (by omega)]; split <;> decide
  go_wp2_with fail
  refine (nat_cmp _ _ _ _ _ _ _ _ _ HA.out HB.out).mono ?_
  generalize cmpI (val (limbs x)) (val (limbs y)) = z at hz ⊢
  rintro e w1 ⟨rfl, hb1⟩
  have HA1 := hid (HA.out.below hb1)
  have HB1 := hid (HB.out.below hb1)
  have HBEL := hid hb1
  clear hb1 HA HB
  have ex : x % 4294967296 + x / 4294967296 % 4294967296 * 4294967296 = x := by omega
  have ey : y % 4294967296 + y / 4294967296 % 4294967296 * 4294967296 = y := by omega
  have C1 := nat_wordAt0 _ _ _ _ w1 HA1.out (limb_zero x) (limb_one x)
  have C2 := nat_wordAt0 _ _ _ _ w1 HB1.out (limb_zero y) (limb_one y)
  rw [ex] at C1
  rw [ey] at C2
  have HC1 := hid C1; have HC2 := hid C2
  clear C1 C2 ex ey
  obtain ⟨q, hq⟩ : ∃ q, q = x / y := ⟨_, rfl⟩
  obtain ⟨r, hr⟩ : ∃ r, r = x % y := ⟨_, rfl⟩
  have hq64 : q < 18446744073709551616 := by rw [hq]; exact Nat.lt_of_le_of_lt (Nat.div_le_self _ _) hx64
  have hr64 : r < 18446744073709551616 := by rw [hr]; exact Nat.lt_of_le_of_lt (Nat.mod_le _ _) hx64
  have eq1 : (x : Int) / (y : Int) = (q : Int) := by rw [hq]; exact (Int.natCast_ediv _ _).symm
  have er1 : (x : Int) % (y : Int) = (r : Int) := by rw [hr]; exact (Int.natCast_emod _ _).symm
  have eq2 : Int.tdiv (x : Int) (y : Int) = (q : Int) := by rw [Int.tdiv_eq_ediv_of_nonneg (by omega)]; exact eq1
  have er2 : Int.tmod (x : Int) (y : Int) = (r : Int) := by rw [Int.tmod_eq_emod_of_nonneg (by omega)]; exact er1
  have HQ := hid hq; have HR := hid hr
  have HC3 := hid (fun w => nat_fromWord q hq64 w)
  have HC4 := hid (fun w => nat_fromWord r hr64 w)
  have hy0 : ¬ (y : Int) = 0 := by omega
  have ew1 : IntKind.u64.wrap (q : Int) = (q : Int) := by rw [IntKind.wrap_u64]; omega
  have ew2 : IntKind.u64.wrap (r : Int) = (r : Int) := by rw [IntKind.wrap_u64]; omega
  clear hq hr
  go_wp2_with fail
  refine HC1.out.mono ?_
  rintro e w2 ⟨rfl, rfl⟩
  go_wp2_with fail
  refine HC2.out.mono ?_
  rintro e w2 ⟨rfl, rfl⟩
  clear HC1 HC2
  go_wp2
  go_region_with (go_at_call 52; refine (nat_fromWord _ (by assumption) _).mono ?_; rintro e w' ⟨v, rfl, hs, hb⟩; have HS := hid hs; have HB := hid hb; clear hs hb)
  all_goals
    rename_i wq vq HSQ HBF
    go_wp2
    go_ret3
    refine ⟨vq, v, rfl, ?_, ?_, ?_⟩
    · have h := HSQ.out.below HB.out
      have e := HQ.out
      rw [e] at h
      rw [HXX.out, HYY.out]
      exact h
    · have h := HS.out
      have e := HR.out
      rw [e] at h
      rw [HXX.out, HYY.out]
      exact h
    · exact HBEL.out.drew.trans ((HBF.out.trans (HB.out.mono HBF.out.size)).mono HBEL.out.drew.size)

set_option maxRecDepth 100000 in
set_option maxHeartbeats 2000000 in
theorem nat_div_long (a b : Option Addr) (la ca lb cb : Nat) (l m : List Nat) (w : World) (ha : Sees w (.slice a la ca) l) (hb : Sees w (.slice b lb cb) m) (hl : l.length ≤ 17592186044416) (hle : val m ≤ val l) (h3 : 2 < (limbs (val l)).length) (h2 : 2 ≤ (limbs (val m)).length) :
    Calls Tryd.prog 14 #[.slice a la ca, .slice b lb cb] w fun e w' => IsDiv w (val l) (val m) e w' := by
  have hlen1 := (limbs_prefix ha.ok).2
  go_enter Tryd.func14, Tryd.ntmps14
  go_wp2_with fail
  refine (trim_sees _ _ _ _ _ ha).mono ?_
  rintro e w' ⟨⟨A, rfl, hA, -⟩, rfl⟩
  have HA := hid hA; clear hA
  go_wp2_with fail
  refine (trim_sees _ _ _ _ _ hb).mono ?_
  rintro e w' ⟨⟨B, rfl, hB, -⟩, rfl⟩
  have HB := hid hB; clear hB ha hb
  obtain ⟨X, hX⟩ : ∃ X, val l = X := ⟨_, rfl⟩
  obtain ⟨Y, hY⟩ : ∃ Y, val m = Y := ⟨_, rfl⟩
  rw [hX] at HA hlen1 h3 hle
  rw [hY] at HB hle h2
  simp only [hX, hY]
  have HXX := hid hX; have HYY := hid hY
  clear hX hY
  have hz : 0 ≤ cmpI (val (limbs X)) (val (limbs Y)) := by rw [val_limbs, val_limbs]; unfold cmpI; rw [if_neg (by omega)]; split <;> decide
  have HLE := hid hle
  have hpl : (limbs X).length ≤ 17592186044416 := by omega
  clear hle hlen1 hl
  go_wp2_with fail
  refine (nat_cmp _ _ _ _ _ _ _ _ _ HA.out HB.out).mono ?_
  generalize cmpI (val (limbs X)) (val (limbs Y)) = z at hz ⊢
  rintro e w1 ⟨rfl, hb1⟩
  have HC := hid (nat_divideLong A B _ _ X Y (limbs X) (limbs Y) w1 (HA.out.below hb1) (HB.out.below hb1) rfl rfl HLE.out h2 hpl)
  have HB1 := hid hb1
  clear hb1 HA HB
  go_wp2_with fail
  refine HC.out.mono ?_
  rintro e w2 ⟨q, r, rfl, hq, hr, hb2⟩
  have HQ := hid hq; have HR := hid hr; have HB2 := hid hb2
  clear hq hr hb2 HC
  go_wp2
  go_ret3
  exact ⟨q, r, rfl, by rw [HXX.out, HYY.out]; exact HQ.out, by rw [HXX.out, HYY.out]; exact HR.out, HB1.out.trans (HB2.out.mono HB1.out.size)⟩

/-- nat.DivMod by any number but 0. -/
theorem nat_divmod' {a b : Value} {l m : List Nat} {w : World} (ha : Sees w a l) (hb : Sees w b m) (hl : l.length ≤ 17592186044416) (h0 : 0 < val m) :
    Calls Tryd.prog 14 #[a, b] w fun e w' => ∃ q r, e = .returned (.tuple #[q, r, .bool true]) ∧ Sees w' q (limbs (val l / val m)) ∧ Sees w' r (limbs (val l % val m)) ∧ Below w.heap.size w w' := by
  have hA := ha; have hB := hb
  obtain ⟨A, ca, rfl, -, -, -, -, -⟩ := ha
  obtain ⟨B, cb, rfl, -, -, -, -, -⟩ := hb
  rcases Nat.lt_or_ge (val l) (val m) with h | h
  · exact nat_div_less _ _ _ _ _ _ _ _ _ hA hB (by omega) h
  · rcases Nat.lt_or_ge 2 (limbs (val l)).length with h2 | h2
    · rcases Nat.lt_or_ge 1 (limbs (val m)).length with h1 | h1
      · exact nat_div_long _ _ _ _ _ _ _ _ _ hA hB hl h h2 h1
      · exact nat_div_limb _ _ _ _ _ _ _ _ _ hA hB (by omega) (by have := (limbs_last h0).1; omega) h2
    · exact nat_div_two _ _ _ _ _ _ _ _ _ hA hB h0 h h2
theorem nat_divmod0' {a b : Value} {l m : List Nat} {w : World} (ha : Sees w a l) (hb : Sees w b m) (h0 : val m = 0) :
    Calls Tryd.prog 14 #[a, b] w fun e w' => e = .returned (.tuple #[.slice none 0 0, .slice none 0 0, .bool false]) ∧ w = w' := by
  have hA := ha; have hB := hb
  obtain ⟨A, ca, rfl, -, -, -, -, -⟩ := ha
  obtain ⟨B, cb, rfl, -, -, -, -, -⟩ := hb
  exact nat_div_zero _ _ _ _ _ _ _ _ _ hA hB h0
end Go.Proofs.YtfjanomjmlcgaaaDoor
