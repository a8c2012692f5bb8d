/- nat.Gcd by its contract. -/
import Derived.Test.YtfjanomjmlcgaaaDoorGcd4
import Derived.Test.YtfjanomjmlcgaaaDoorDivMod
set_option linter.unusedVariables false
set_option linter.unusedSimpArgs false
namespace Go.Proofs.YtfjanomjmlcgaaaDoor
open Go.RowKit

theorem limbs_length_mono {x y : Nat} (h : x ≤ y) : (limbs x).length ≤ (limbs y).length := by
  rcases Nat.lt_or_ge (limbs y).length (limbs x).length with h1 | h1
  · have := limbs_length_lt h1; omega
  · exact h1

/-- What holds at the head of each round. -/
structure GcdAt (w wr : World) (X Y M p q : Nat) (a b : Option Addr) (la ca lb cb : Nat) : Prop where
  seesA : Sees wr (.slice a la ca) (limbs p)
  seesB : Sees wr (.slice b lb cb) (limbs q)
  le : q ≤ p
  len : (limbs p).length ≤ M
  gcd : Nat.gcd p q = Nat.gcd X Y
  bel : Below w.heap.size w wr

set_option maxRecDepth 100000 in
set_option maxHeartbeats 4000000 in
theorem nat_gcd {a b : Value} {l m : List Nat} {w : World} (ha : Sees w a l) (hb : Sees w b m) (hl : l.length ≤ 1000000000) (hm : m.length ≤ 1000000000) :
    Calls Tryd.prog 18 #[a, b] w fun e w' => IsNum w (Nat.gcd (val l) (val m)) e w' := by
  have hA := ha; have hB := hb
  obtain ⟨A0, cA0, rfl, -, -, -, -, -⟩ := ha
  obtain ⟨B0, cB0, rfl, -, -, -, -, -⟩ := hb
  have hlx := (limbs_prefix hA.ok).2
  have hly := (limbs_prefix hB.ok).2
  go_enter Tryd.func18, Tryd.ntmps18
  go_wp2_with fail
  refine (trim_sees _ _ _ _ _ hA).mono ?_
  rintro e w' ⟨⟨A, rfl, hA1, -⟩, rfl⟩
  go_wp2_with fail
  refine (trim_sees _ _ _ _ _ hB).mono ?_
  rintro e w' ⟨⟨B, rfl, hB1, -⟩, rfl⟩
  obtain ⟨X, hX⟩ : ∃ X, val l = X := ⟨_, rfl⟩
  obtain ⟨Y, hY⟩ : ∃ Y, val m = Y := ⟨_, rfl⟩
  rw [hX] at hA1 hlx
  rw [hY] at hB1 hly
  simp only [hX, hY]
  have HA := hid hA1; have HB := hid hB1
  have hlx : (limbs X).length ≤ 1000000000 := by omega
  have hly : (limbs Y).length ≤ 1000000000 := by omega
  have HCMP := hid (nat_cmp _ _ _ _ _ _ _ _ w hA1 hB1)
  rw [val_limbs, val_limbs] at HCMP
  have HXE := hid hX; have HYE := hid hY
  clear hX hY hA hB hA1 hB1 hl hm
  go_wp2_with fail
  refine HCMP.out.mono ?_
  have hz : (cmpI X Y < 0 ↔ X < Y) := by
    unfold cmpI
    by_cases h : X < Y
    · simp [h]
    · rw [if_neg h]; split <;> simp [h]
  generalize cmpI X Y = z at hz ⊢
  have HZ := hid hz
  clear hz HCMP
  rintro e w1 ⟨rfl, hb1⟩
  have HA1 := hid (HA.out.below hb1)
  have HB1 := hid (HB.out.below hb1)
  have HBEL := hid hb1
  clear hb1 HA HB
  by_cases hlt : z < 0
  · have I0 : Hid (GcdAt w w1 X Y 1000000000 Y X B A (limbs Y).length (limbs Y).length (limbs X).length (limbs X).length) := ⟨HB1.out, HA1.out, by have := (HZ.out).1 hlt; omega, hly, Nat.gcd_comm _ _, HBEL.out⟩
    clear HA1 HB1 HZ HBEL
    obtain ⟨n0, hn0⟩ : ∃ n, n = X := ⟨_, rfl⟩
    have I1 : Hid (X = n0) := hn0.symm
    clear hn0
    go_wp2
    go_loopg [0, 1] n0 (fun gh v0 v1 wr => ∃ (p q : Nat) (a b : Option Addr) (la ca lb cb : Nat), Hid (GcdAt w wr X Y 1000000000 p q a b la ca lb cb) ∧ v0 = .slice a la ca ∧ v1 = .slice b lb cb ∧ Hid (q = gh))
    case atStart => exact ⟨_, _, _, _, _, _, _, _, I0, rfl, rfl, I1⟩
    case round =>
      clear I0 I1
      obtain ⟨p, q, a, b, la, ca, lb, cb, hI, rfl, rfl, hgk⟩ := hrel
      have hpl := hI.out.len
      have hqp := limbs_length_mono hI.out.le
      obtain rfl : lb = (limbs q).length := hI.out.seesB.len_eq.1
      by_cases h2 : 2 < (limbs q).length
      · have HLK := hid (nat_lookAhead a b la ca _ cb p q wr hI.out.seesA hI.out.seesB (by omega) hI.out.le (by omega))
        clear hlx hly
        go_wp2_with fail
        refine HLK.out.mono ?_
        rintro e w2 ⟨aa, ab, ba, bb, o, rfl, hsm, hst, hb2⟩
        have HSM := hid hsm; have HST := hid hst
        have HA2 := hid (hI.out.seesA.below hb2); have HB2 := hid (hI.out.seesB.below hb2)
        have hab : ab < 4294967296 := hsm.2.1
        obtain ⟨g, hg⟩ : ∃ g, g = w2.heap.size := ⟨_, rfl⟩
        obtain ⟨w3, hw3⟩ : ∃ x, x = w2.alloc (.cells #[.int .u64 (aa : Nat), .int .u64 (ab : Nat), .int .u64 (ba : Nat), .int .u64 (bb : Nat), .bool o] 68) := ⟨_, rfl⟩
        have hb3 : Below w2.heap.size w2 w3 := by rw [hw3]; exact (Below.refl _ w2).alloc (Nat.le_refl _) _
        have HX3 : Hid (Box5 w3 g (.int .u64 (aa : Nat)) (.int .u64 (ab : Nat)) (.int .u64 (ba : Nat)) (.int .u64 (bb : Nat)) (.bool o)) := by rw [hw3, hg]; exact Box5.new w2 _ _ _ _ _ _
        have B3 := hid (step_below (step_below hI.out.bel hb2) hb3)
        replace HA2 := hid (HA2.out.below hb3); replace HB2 := hid (HB2.out.below hb3)
        have HW3 := hid hw3.symm; have HG := hid hg.symm
        have HLE := hid hI.out.le; have HGC := hid hI.out.gcd
        clear hsm hst hb2 hw3 hg hb3 HLK hI
        by_cases h0 : 0 < ab
        · obtain ⟨p2, q2, hs2⟩ := HST.out h0
          have HAP := hid (nat_apply HA2.out HB2.out hs2 HSM.out hqp (by omega))
          have HS2 := hid hs2
          obtain ⟨c0, c1, c2, c3, c4, -⟩ := HX3.out.cells
          clear HST HSM hs2
          go_wp2_with fail
          rw [HW3.out, HG.out]
          refine HAP.out.mono ?_
          rintro e w4 ⟨u, v, rfl, hu, hv, hb4⟩
          have HU := hid hu; have HV := hid hv
          have B4 := hid (step_below B3.out hb4)
          obtain ⟨ua, uc, rfl, -, -, -, -, -⟩ := hu
          obtain ⟨va, vc, rfl, -, -, -, -, -⟩ := hv
          have hlen : (limbs p2).length ≤ 1000000000 := by
            have := limbs_length_mono (Nat.le_trans HS2.out.le HLE.out)
            omega
          have HLEN := hid hlen
          clear hb4 HAP HW3 HG HX3 c0 c1 c2 c3 c4 HA2 HB2 B3 hlen hpl hqp h2
          go_wp2
          go_roundg q2
          case rel => exact ⟨p2, q2, _, _, _, _, _, _, ⟨HU.out, HV.out, Nat.le_of_lt HS2.out.lt, HLEN.out, HS2.out.gcd.trans HGC.out, B4.out⟩, rfl, rfl, rfl⟩
          case measure => have h3 := hgk.out; have h4 := HS2.out.lt; have h5 := HS2.out.le; omega
        · obtain ⟨c0, c1, c2, c3, c4, -⟩ := HX3.out.cells
          have hq0 : 0 < val (limbs q) := by
            rw [val_limbs]
            rcases Nat.eq_zero_or_pos q with h0 | h0
            · subst h0; simp [limbs_zero] at h2
            · exact h0
          have CD := nat_divmod' HA2.out HB2.out (by omega) hq0
          rw [val_limbs, val_limbs] at CD
          rw [val_limbs] at hq0
          have HCD := hid CD
          have HQ0 := hid hq0
          clear HST HSM CD hq0
          go_wp2_with fail
          rw [HW3.out, HG.out]
          refine HCD.out.mono ?_
          rintro e w4 ⟨qq, v, rfl, hqq, hv, hb4⟩
          have HV := hid hv
          have B4 := hid (step_below B3.out hb4)
          have HB4 := hid (HB2.out.below hb4)
          obtain ⟨ta, tc, rfl, -, -, -, -, -⟩ := hqq
          obtain ⟨va, vc, rfl, -, -, -, -, -⟩ := hv
          have HLEN : Hid ((limbs q).length ≤ 1000000000) := by show _ ≤ _; omega
          clear hb4 HCD HW3 HG HX3 c0 c1 c2 c3 c4 HA2 HB2 B3 hpl hqp h2
          go_wp2
          go_roundg (p % q)
          case rel => exact ⟨q, p % q, _, _, _, _, _, _, ⟨HB4.out, HV.out, Nat.le_of_lt (Nat.mod_lt _ HQ0.out), HLEN.out, by rw [Nat.gcd_comm, ← Nat.gcd_rec, Nat.gcd_comm]; exact HGC.out, B4.out⟩, rfl, rfl, rfl⟩
          case measure => have h3 := hgk.out; have h4 := Nat.mod_lt p HQ0.out; omega
      · clear hlx hly
        have HA2 := hid hI.out.seesA; have HB2 := hid hI.out.seesB
        have HLE := hid hI.out.le; have HGC := hid hI.out.gcd; have B3 := hid hI.out.bel
        clear hI
        rcases Nat.eq_zero_or_pos q with h0 | h0
        · subst h0
          have hg0 := HGC.out
          rw [Nat.gcd_zero_right] at hg0
          have HG0 := hid hg0
          have CP := nat_plain' HA2.out (by omega)
          rw [val_limbs] at CP
          have HCP := hid CP
          have e0 : (limbs 0).length = 0 := rfl
          clear hg0 CP HGC
          go_wp2_with fail
          refine HCP.out.mono ?_
          rintro e w4 ⟨v, rfl, hv, hb4⟩
          have HV := hid hv; have B4 := hid (step_below B3.out hb4)
          clear hv hb4 HCP
          go_wp2
          go_ret
          refine ⟨_, rfl, ?_, B4.out⟩
          have := HV.out
          rw [HG0.out] at this
          rw [HXE.out, HYE.out]
          exact this
        · have hq64 : q < 18446744073709551616 := by
            have h3 := lt_pow_length q
            have h4 : 4294967296 ^ (limbs q).length ≤ 4294967296 ^ 2 := Nat.pow_le_pow_right (by decide) (by omega)
            have h5 : (4294967296 : Nat) ^ 2 = 18446744073709551616 := by decide
            omega
          obtain ⟨s, hs⟩ : ∃ s, s = p % q := ⟨_, rfl⟩
          have hsq : s < q := by rw [hs]; exact Nat.mod_lt _ h0
          have CD := nat_divmod' HA2.out HB2.out (by omega) (by rw [val_limbs]; exact h0)
          rw [val_limbs, val_limbs, ← hs] at CD
          have HCD := hid CD
          have hg2 : Nat.gcd q s = Nat.gcd X Y := by rw [hs, Nat.gcd_comm, ← Nat.gcd_rec, Nat.gcd_comm]; exact HGC.out
          have HG2 := hid hg2
          have ex : q % 4294967296 + q / 4294967296 % 4294967296 * 4294967296 = q := by omega
          have ey : s % 4294967296 + s / 4294967296 % 4294967296 * 4294967296 = s := by omega
          have C1 := fun w' (h : Sees w' (.slice b (limbs q).length cb) (limbs q)) => nat_wordAt0 _ _ _ _ w' h (limb_zero q) (limb_one q)
          have C2 := fun w' v (h : Sees w' v (limbs s)) => nat_wordAt0 _ _ _ _ w' h (limb_zero s) (limb_one s)
          rw [ex] at C1
          rw [ey] at C2
          have HC1 := hid C1; have HC2 := hid C2
          have hgl : Nat.gcd q s < 18446744073709551616 := by
            have := Nat.gcd_le_left s h0
            omega
          have HC3 := hid (fun w' => nat_wordGcd q s hq64 (by omega) w')
          have HC4 := hid (fun w' => nat_fromWord _ hgl w')
          obtain ⟨G, hG⟩ : ∃ G, Nat.gcd q s = G := ⟨_, rfl⟩
          rw [hG] at HC4 HC3 HG2
          have hbl : ¬ ((limbs q).length : Int) = 0 := by have := (limbs_last h0).1; omega
          clear hs CD hg2 ex ey C1 C2 hgl hG HGC
          go_wp2_with fail
          refine HCD.out.mono ?_
          rintro e w4 ⟨qq, v, rfl, hqq, hv, hb4⟩
          have HV := hid hv
          have B4 := hid (step_below B3.out hb4)
          have HB4 := hid (HB2.out.below hb4)
          obtain ⟨ta, tc, rfl, -, -, -, -, -⟩ := hqq
          obtain ⟨va, vc, rfl, -, -, -, -, -⟩ := hv
          clear hb4 HCD HA2 HB2 B3
          go_wp2_with fail
          refine (HC1.out _ HB4.out).mono ?_
          rintro e w5 ⟨rfl, rfl⟩
          go_wp2_with fail
          refine (HC2.out _ _ HV.out).mono ?_
          rintro e w6 ⟨rfl, rfl⟩
          go_wp2_with fail
          refine (HC3.out _).mono ?_
          rintro e w7 ⟨rfl, hb7⟩
          have B7 := hid (step_below B4.out hb7)
          clear hb7
          go_wp2_with fail
          refine (HC4.out _).mono ?_
          rintro e w8 ⟨v, rfl, hv8, hb8⟩
          have HV8 := hid hv8; have B8 := hid (step_below B7.out hb8)
          clear hv8 hb8
          go_wp2
          go_ret
          refine ⟨_, rfl, ?_, B8.out⟩
          have := HV8.out
          rw [HG2.out] at this
          rw [HXE.out, HYE.out]
          exact this
  · have I0 : Hid (GcdAt w w1 X Y 1000000000 X Y A B (limbs X).length (limbs X).length (limbs Y).length (limbs Y).length) := ⟨HA1.out, HB1.out, Nat.le_of_not_lt (fun h => hlt (HZ.out.2 h)), hlx, rfl, HBEL.out⟩
    obtain ⟨n0, hn0⟩ : ∃ n, n = Y := ⟨_, rfl⟩
    have I1 : Hid (Y = n0) := hn0.symm
    clear HA1 HB1 HZ HBEL hn0
    go_wp2
    go_loopg [0, 1] n0 (fun gh v0 v1 wr => ∃ (p q : Nat) (a b : Option Addr) (la ca lb cb : Nat), Hid (GcdAt w wr X Y 1000000000 p q a b la ca lb cb) ∧ v0 = .slice a la ca ∧ v1 = .slice b lb cb ∧ Hid (q = gh))
    case atStart => exact ⟨_, _, _, _, _, _, _, _, I0, rfl, rfl, I1⟩
    case round =>
      clear I0 I1
      obtain ⟨p, q, a, b, la, ca, lb, cb, hI, rfl, rfl, hgk⟩ := hrel
      have hpl := hI.out.len
      have hqp := limbs_length_mono hI.out.le
      obtain rfl : lb = (limbs q).length := hI.out.seesB.len_eq.1
      by_cases h2 : 2 < (limbs q).length
      · have HLK := hid (nat_lookAhead a b la ca _ cb p q wr hI.out.seesA hI.out.seesB (by omega) hI.out.le (by omega))
        clear hlx hly
        go_wp2_with fail
        refine HLK.out.mono ?_
        rintro e w2 ⟨aa, ab, ba, bb, o, rfl, hsm, hst, hb2⟩
        have HSM := hid hsm; have HST := hid hst
        have HA2 := hid (hI.out.seesA.below hb2); have HB2 := hid (hI.out.seesB.below hb2)
        have hab : ab < 4294967296 := hsm.2.1
        obtain ⟨g, hg⟩ : ∃ g, g = w2.heap.size := ⟨_, rfl⟩
        obtain ⟨w3, hw3⟩ : ∃ x, x = w2.alloc (.cells #[.int .u64 (aa : Nat), .int .u64 (ab : Nat), .int .u64 (ba : Nat), .int .u64 (bb : Nat), .bool o] 68) := ⟨_, rfl⟩
        have hb3 : Below w2.heap.size w2 w3 := by rw [hw3]; exact (Below.refl _ w2).alloc (Nat.le_refl _) _
        have HX3 : Hid (Box5 w3 g (.int .u64 (aa : Nat)) (.int .u64 (ab : Nat)) (.int .u64 (ba : Nat)) (.int .u64 (bb : Nat)) (.bool o)) := by rw [hw3, hg]; exact Box5.new w2 _ _ _ _ _ _
        have B3 := hid (step_below (step_below hI.out.bel hb2) hb3)
        replace HA2 := hid (HA2.out.below hb3); replace HB2 := hid (HB2.out.below hb3)
        have HW3 := hid hw3.symm; have HG := hid hg.symm
        have HLE := hid hI.out.le; have HGC := hid hI.out.gcd
        clear hsm hst hb2 hw3 hg hb3 HLK hI
        by_cases h0 : 0 < ab
        · obtain ⟨p2, q2, hs2⟩ := HST.out h0
          have HAP := hid (nat_apply HA2.out HB2.out hs2 HSM.out hqp (by omega))
          have HS2 := hid hs2
          obtain ⟨c0, c1, c2, c3, c4, -⟩ := HX3.out.cells
          clear HST HSM hs2
          go_wp2_with fail
          rw [HW3.out, HG.out]
          refine HAP.out.mono ?_
          rintro e w4 ⟨u, v, rfl, hu, hv, hb4⟩
          have HU := hid hu; have HV := hid hv
          have B4 := hid (step_below B3.out hb4)
          obtain ⟨ua, uc, rfl, -, -, -, -, -⟩ := hu
          obtain ⟨va, vc, rfl, -, -, -, -, -⟩ := hv
          have hlen : (limbs p2).length ≤ 1000000000 := by
            have := limbs_length_mono (Nat.le_trans HS2.out.le HLE.out)
            omega
          have HLEN := hid hlen
          clear hb4 HAP HW3 HG HX3 c0 c1 c2 c3 c4 HA2 HB2 B3 hlen hpl hqp h2
          go_wp2
          go_roundg q2
          case rel => exact ⟨p2, q2, _, _, _, _, _, _, ⟨HU.out, HV.out, Nat.le_of_lt HS2.out.lt, HLEN.out, HS2.out.gcd.trans HGC.out, B4.out⟩, rfl, rfl, rfl⟩
          case measure => have h3 := hgk.out; have h4 := HS2.out.lt; have h5 := HS2.out.le; omega
        · obtain ⟨c0, c1, c2, c3, c4, -⟩ := HX3.out.cells
          have hq0 : 0 < val (limbs q) := by
            rw [val_limbs]
            rcases Nat.eq_zero_or_pos q with h0 | h0
            · subst h0; simp [limbs_zero] at h2
            · exact h0
          have CD := nat_divmod' HA2.out HB2.out (by omega) hq0
          rw [val_limbs, val_limbs] at CD
          rw [val_limbs] at hq0
          have HCD := hid CD
          have HQ0 := hid hq0
          clear HST HSM CD hq0
          go_wp2_with fail
          rw [HW3.out, HG.out]
          refine HCD.out.mono ?_
          rintro e w4 ⟨qq, v, rfl, hqq, hv, hb4⟩
          have HV := hid hv
          have B4 := hid (step_below B3.out hb4)
          have HB4 := hid (HB2.out.below hb4)
          obtain ⟨ta, tc, rfl, -, -, -, -, -⟩ := hqq
          obtain ⟨va, vc, rfl, -, -, -, -, -⟩ := hv
          have HLEN : Hid ((limbs q).length ≤ 1000000000) := by show _ ≤ _; omega
          clear hb4 HCD HW3 HG HX3 c0 c1 c2 c3 c4 HA2 HB2 B3 hpl hqp h2
          go_wp2
          go_roundg (p % q)
          case rel => exact ⟨q, p % q, _, _, _, _, _, _, ⟨HB4.out, HV.out, Nat.le_of_lt (Nat.mod_lt _ HQ0.out), HLEN.out, by rw [Nat.gcd_comm, ← Nat.gcd_rec, Nat.gcd_comm]; exact HGC.out, B4.out⟩, rfl, rfl, rfl⟩
          case measure => have h3 := hgk.out; have h4 := Nat.mod_lt p HQ0.out; omega
      · clear hlx hly
        have HA2 := hid hI.out.seesA; have HB2 := hid hI.out.seesB
        have HLE := hid hI.out.le; have HGC := hid hI.out.gcd; have B3 := hid hI.out.bel
        clear hI
        rcases Nat.eq_zero_or_pos q with h0 | h0
        · subst h0
          have hg0 := HGC.out
          rw [Nat.gcd_zero_right] at hg0
          have HG0 := hid hg0
          have CP := nat_plain' HA2.out (by omega)
          rw [val_limbs] at CP
          have HCP := hid CP
          have e0 : (limbs 0).length = 0 := rfl
          clear hg0 CP HGC
          go_wp2_with fail
          refine HCP.out.mono ?_
          rintro e w4 ⟨v, rfl, hv, hb4⟩
          have HV := hid hv; have B4 := hid (step_below B3.out hb4)
          clear hv hb4 HCP
          go_wp2
          go_ret
          refine ⟨_, rfl, ?_, B4.out⟩
          have := HV.out
          rw [HG0.out] at this
          rw [HXE.out, HYE.out]
          exact this
        · have hq64 : q < 18446744073709551616 := by
            have h3 := lt_pow_length q
            have h4 : 4294967296 ^ (limbs q).length ≤ 4294967296 ^ 2 := Nat.pow_le_pow_right (by decide) (by omega)
            have h5 : (4294967296 : Nat) ^ 2 = 18446744073709551616 := by decide
            omega
          obtain ⟨s, hs⟩ : ∃ s, s = p % q := ⟨_, rfl⟩
          have hsq : s < q := by rw [hs]; exact Nat.mod_lt _ h0
          have CD := nat_divmod' HA2.out HB2.out (by omega) (by rw [val_limbs]; exact h0)
          rw [val_limbs, val_limbs, ← hs] at CD
          have HCD := hid CD
          have hg2 : Nat.gcd q s = Nat.gcd X Y := by rw [hs, Nat.gcd_comm, ← Nat.gcd_rec, Nat.gcd_comm]; exact HGC.out
          have HG2 := hid hg2
          have ex : q % 4294967296 + q / 4294967296 % 4294967296 * 4294967296 = q := by omega
          have ey : s % 4294967296 + s / 4294967296 % 4294967296 * 4294967296 = s := by omega
          have C1 := fun w' (h : Sees w' (.slice b (limbs q).length cb) (limbs q)) => nat_wordAt0 _ _ _ _ w' h (limb_zero q) (limb_one q)
          have C2 := fun w' v (h : Sees w' v (limbs s)) => nat_wordAt0 _ _ _ _ w' h (limb_zero s) (limb_one s)
          rw [ex] at C1
          rw [ey] at C2
          have HC1 := hid C1; have HC2 := hid C2
          have hgl : Nat.gcd q s < 18446744073709551616 := by
            have := Nat.gcd_le_left s h0
            omega
          have HC3 := hid (fun w' => nat_wordGcd q s hq64 (by omega) w')
          have HC4 := hid (fun w' => nat_fromWord _ hgl w')
          obtain ⟨G, hG⟩ : ∃ G, Nat.gcd q s = G := ⟨_, rfl⟩
          rw [hG] at HC4 HC3 HG2
          have hbl : ¬ ((limbs q).length : Int) = 0 := by have := (limbs_last h0).1; omega
          clear hs CD hg2 ex ey C1 C2 hgl hG HGC
          go_wp2_with fail
          refine HCD.out.mono ?_
          rintro e w4 ⟨qq, v, rfl, hqq, hv, hb4⟩
          have HV := hid hv
          have B4 := hid (step_below B3.out hb4)
          have HB4 := hid (HB2.out.below hb4)
          obtain ⟨ta, tc, rfl, -, -, -, -, -⟩ := hqq
          obtain ⟨va, vc, rfl, -, -, -, -, -⟩ := hv
          clear hb4 HCD HA2 HB2 B3
          go_wp2_with fail
          refine (HC1.out _ HB4.out).mono ?_
          rintro e w5 ⟨rfl, rfl⟩
          go_wp2_with fail
          refine (HC2.out _ _ HV.out).mono ?_
          rintro e w6 ⟨rfl, rfl⟩
          go_wp2_with fail
          refine (HC3.out _).mono ?_
          rintro e w7 ⟨rfl, hb7⟩
          have B7 := hid (step_below B4.out hb7)
          clear hb7
          go_wp2_with fail
          refine (HC4.out _).mono ?_
          rintro e w8 ⟨v, rfl, hv8, hb8⟩
          have HV8 := hid hv8; have B8 := hid (step_below B7.out hb8)
          clear hv8 hb8
          go_wp2
          go_ret
          refine ⟨_, rfl, ?_, B8.out⟩
          have := HV8.out
          rw [HG2.out] at this
          rw [HXE.out, HYE.out]
          exact this
end Go.Proofs.YtfjanomjmlcgaaaDoor
