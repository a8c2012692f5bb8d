/- The document's magnitude of layer 4. -/
import Derived.Test.YtjnbonellgpjnaaGreatTb
import Derived.Test.YtjnbonellgpjnaaGreatRa1
set_option linter.unusedVariables false
set_option linter.unusedSimpArgs false
namespace Go.Proofs.YtjnbonellgpjnaaGreat
open Go.RowKit

theorem one_near : Ieee.double.nearest false 1 0 = 4607182418800017408 := by decide +kernel
theorem inf_near : Ieee.double.nearest false 1 2000 = 9218868437227405312 := by
  rcases at_place (I := 1) (by decide) (p := 1024) (by decide) with ⟨h1, h2⟩ | ⟨h0, h1⟩
  · have := nearest_over false (F := 0) (by decide) (p := 972) (by decide)
    have k := nearest_scale false 1 1024 52
    rw [show (1 : Nat) * 2 ^ 52 = 4503599627370496 + 0 by decide, show (1024 : Int) - ((52 : Nat) : Int) = 972 by decide, this] at k
    rw [← k] at h1
    exact absurd h1 (by decide)
  · exact h1 2000 (by decide)
/-- The place that the document takes. -/
theorem place_low {a d : Nat} {n : Int} (hT : topN a d = n + 53) (h : lt2 a d (n + 53)) (hn : ¬ n < -1074) : placeF a d = n := by
  unfold placeF; rw [topF_of_lt (by rw [hT]; exact h), hT]; omega
theorem place_high {a d : Nat} {n : Int} (hT : topN a d = n + 53) (h : ¬ lt2 a d (n + 53) ∨ n < -1074) : placeF a d = max (n + 1) (-1074) := by
  unfold placeF
  by_cases hc : lt2 a d (n + 53)
  · rw [topF_of_lt (by rw [hT]; exact hc), hT]
    rcases h with h | h
    · exact absurd hc h
    · omega
  · rw [topF_of_not (by rw [hT]; exact hc), hT]; omega
theorem bits_test {a d : Nat} (hd : 0 < d) {n : Int} : (53 < bitsN (a * 2 ^ (-n).toNat / (d * 2 ^ n.toNat))) ↔ ¬ lt2 a d (n + 53) := by
  have hD : 0 < d * 2 ^ n.toNat := Nat.mul_pos hd (Nat.two_pow_pos _)
  rw [lt2_iff (-n).toNat (n.toNat + 53) (by omega), Nat.pow_add, ← Nat.mul_assoc]
  generalize d * 2 ^ n.toNat = D at *
  generalize a * 2 ^ (-n).toNat = N at *
  have h1 : 53 < bitsN (N / D) ↔ 9007199254740992 ≤ N / D := by
    unfold bitsN
    by_cases h0 : N / D = 0
    · rw [if_pos h0, h0]; omega
    · rw [if_neg h0]
      have := @Nat.le_log2 (N / D) 53 h0
      constructor
      · intro h; exact this.1 (by omega)
      · intro h; have := this.2 h; omega
  rw [h1, Nat.le_div_iff_mul_le hD, Nat.mul_comm, show (2 : Nat) ^ 53 = 9007199254740992 by decide]
  omega

theorem limbs_mono {x y : Nat} (h : x ≤ y) : (limbs x).length ≤ (limbs y).length := limbs_length_le (Nat.lt_of_le_of_lt h (by have := val_lt (limbs_ok y); rwa [val_limbs] at this))

set_option maxRecDepth 100000 in
set_option maxHeartbeats 8000000 in
theorem ref_magnitude {a b : Value} {l m : List Nat} {w : World} (ha : Sees w a l) (hb : Sees w b m) (hl : l.length ≤ 300) (hm : m.length ≤ 300) (ha0 : 0 < val l) (h0 : 0 < val m) :
    Calls Tryz.prog 30 #[a, b] w fun e w' => e = .returned (.float .f64 (nearF (val l) (val m))) ∧ Below w.heap.size w w' := by
  have bl := bits_len ha.ok; have bm := bits_len hb.ok
  have HC1 := hid (fun (w' : World) (h : Below w.heap.size w w') => ref_bits a l w' (ha.below h) (by omega))
  have HC2 := hid (fun (w' : World) (h : Below w.heap.size w w') => ref_bits b m w' (hb.below h) (by omega))
  have HSP := hid (fun (n : Int) (h1 : -2000 ≤ n) (h2 : n ≤ 2000) (w' : World) (h : Below w.heap.size w w') => ref_split (ha.below h) (hb.below h) hl hm h0 n h1 h2)
  have HA0 := hid ha0; have H00 := hid h0; have HOK := hid ha.ok
  have hTn : topN (val l) (val m) = (bitsN (val l) : Int) - (bitsN (val m) : Int) := rfl
  have hbt := fun n => bits_test (a := val l) h0 (n := n)
  generalize bitsN (val l) = x at *
  generalize bitsN (val m) = y at *
  obtain ⟨T, hT⟩ : ∃ T, (x : Int) - (y : Int) = T := ⟨_, rfl⟩
  have e0 : wrap64 ((x : Int) - (y : Int)) = T := by rw [wrap_id (by omega) (by omega)]; exact hT
  obtain ⟨n, hn⟩ : ∃ n, T - 53 = n := ⟨_, rfl⟩
  have e1 : wrap64 (T - 53) = n := by rw [wrap_id (by omega) (by omega)]; exact hn
  have hTT : topN (val l) (val m) = n + 53 := by rw [hTn, hT]; omega
  have HTT := hid hTT
  obtain ⟨ao, ac, rfl, -, -, -, -, -⟩ := id ha
  obtain ⟨bo, bc, rfl, -, -, -, -, -⟩ := id hb
  clear ha hb hTn hT hn ha0 h0 hTT bl bm
  by_cases k1 : n > 1100
  · have HT1 := hid (fun w => ref_times (I := 1) (by decide) 2000 (by decide) (by decide) w)
    rw [one_near, inf_near] at HT1
    have HRES : Hid (nearF (val l) (val m) = 9218868437227405312) := hid (by unfold nearF; rw [if_pos (by rw [HTT.out]; omega)])
    clear hbt
    go_enter Tryz.func30, Tryz.ntmps30
    go_wp2_with fail
    refine (HC1.out _ (Below.refl _ _)).mono ?_
    rintro e w1 ⟨rfl, hb1⟩
    have HB1 := hid hb1
    clear hb1
    go_wp2_with fail
    refine (HC2.out _ HB1.out).mono ?_
    rintro e w2 ⟨rfl, hb2⟩
    have HB2 := hid (step_below HB1.out hb2)
    clear hb2
    go_wp2_with fail
    refine (HT1.out _).mono ?_
    rintro e w3 ⟨rfl, rfl⟩
    go_wp2_with fail
    go_ret
    exact ⟨by rw [HRES.out]; rfl, HB2.out⟩
  by_cases k2 : n < -1200
  · have HRES : Hid (nearF (val l) (val m) = 0) := hid (by unfold nearF; rw [if_neg (by rw [HTT.out]; omega), if_pos (by rw [HTT.out]; omega)])
    clear hbt
    go_enter Tryz.func30, Tryz.ntmps30
    go_wp2_with fail
    refine (HC1.out _ (Below.refl _ _)).mono ?_
    rintro e w1 ⟨rfl, hb1⟩
    have HB1 := hid hb1
    clear hb1
    go_wp2_with fail
    refine (HC2.out _ HB1.out).mono ?_
    rintro e w2 ⟨rfl, hb2⟩
    have HB2 := hid (step_below HB1.out hb2)
    clear hb2
    go_wp2_with fail
    go_ret
    exact ⟨by rw [HRES.out]; rfl, HB2.out⟩
  have hbn := hbt n
  have hpl := fun h k => place_low (a := val l) (d := val m) (n := n) HTT.out h k
  have hph := fun h => place_high (a := val l) (d := val m) (n := n) HTT.out h
  obtain ⟨N1, hN1⟩ : ∃ N, val l * 2 ^ (-n).toNat = N := ⟨_, rfl⟩
  obtain ⟨D1, hD1⟩ : ∃ N, val m * 2 ^ n.toNat = N := ⟨_, rfl⟩
  have HS1 := hid (HSP.out n (by omega) (by omega))
  have HLN : Hid ((limbs (N1 / D1)).length ≤ 363) := hid (Nat.le_trans (limbs_mono (Nat.div_le_self N1 D1)) (by rw [← hN1]; exact shift_len HOK.out hl (by omega)))
  have hD10 : 0 < D1 := by rw [← hD1]; exact Nat.mul_pos H00.out (Nat.two_pow_pos _)
  rw [hN1, hD1] at hbn HS1
  obtain ⟨bq, hbq⟩ : ∃ bq, bitsN (N1 / D1) = bq := ⟨_, rfl⟩
  obtain ⟨Q1, hQ1⟩ : ∃ Q, N1 / D1 = Q := ⟨_, rfl⟩
  obtain ⟨R1, hR1⟩ : ∃ R, N1 % D1 = R := ⟨_, rfl⟩
  rw [hbq] at hbn
  simp only [IsSplit] at HS1
  rw [hQ1, hR1] at HS1
  rw [hQ1] at hbq HLN
  have HQV := hid hQ1; have HRV := hid hR1
  have HBQ := hid hbq; have HBN := hid hbn; have HPLL := hid hpl; have HPH := hid hph; have HN1 := hid hN1; have HD1 := hid hD1
  clear hbt hbn hpl hph hbq hN1 hD1 hD10 hQ1 hR1
  go_enter Tryz.func30, Tryz.ntmps30
  go_wp2_with fail
  refine (HC1.out _ (Below.refl _ _)).mono ?_
  rintro e w1 ⟨rfl, hb1⟩
  have HB1 := hid hb1
  clear hb1
  go_wp2_with fail
  refine (HC2.out _ HB1.out).mono ?_
  rintro e w2 ⟨rfl, hb2⟩
  have HB2 := hid (step_below HB1.out hb2)
  clear hb2
  go_wp2_with fail
  refine (HS1.out _ HB2.out).mono ?_
  rintro e w3 ⟨q3, r3, d3, dl3, rfl, hq3, hr3, hd3, hdv3, hdl3, hb3⟩
  have HB3 := hid (step_below HB2.out hb3)
  have hqlen : (limbs Q1).length ≤ 35184372088832 := by
    have h1 := HLN.out
    omega
  have HBT := hid (ref_bits q3 _ _ hq3 hqlen)
  rw [val_limbs, HBQ.out] at HBT
  obtain ⟨qo3, qc3, rfl, -, -, -, -, -⟩ := id hq3
  obtain ⟨ro3, rc3, rfl, -, -, -, -, -⟩ := id hr3
  obtain ⟨do3, dc3, rfl, -, -, -, -, -⟩ := id hd3
  have HQ3 := hid hq3; have HR3 := hid hr3; have HD3 := hid hd3; have HDV := hid hdv3; have HDL := hid hdl3
  clear hb3 hq3 hr3 hd3 hdv3 hdl3 hqlen HS1
  go_wp2_with fail
  refine HBT.out.mono ?_
  rintro e w4 ⟨rfl, hb4⟩
  have HB4 := hid (step_below HB3.out hb4)
  have HQ := hid (HQ3.out.below hb4); have HR := hid (HR3.out.below hb4); have HD := hid (HD3.out.below hb4)
  clear hb4 HBT HQ3 HR3 HD3 HB3 HC1 HC2
  by_cases k3 : (bq : Int) > 53 ∨ n < -1074
  · have hpl := HPH.out (by
      rcases k3 with k | k
      · exact .inl (HBN.out.1 (by omega))
      · exact .inr k)
    obtain ⟨p, hmx⟩ : ∃ p, max (n + 1) (-1074) = p := ⟨_, rfl⟩
    rw [hmx] at hpl
    have HPL := hid hpl
    have hpr : -1074 ≤ p ∧ p ≤ 1101 := by omega
    clear hpl
    have HS2 := hid (HSP.out p (by omega) (by omega))
    obtain ⟨Nn, hNn⟩ : ∃ N, val l * 2 ^ (-p).toNat = N := ⟨_, rfl⟩
    obtain ⟨Dn, hDn⟩ : ∃ N, val m * 2 ^ p.toNat = N := ⟨_, rfl⟩
    obtain ⟨Q, hQ2⟩ : ∃ Q, Nn / Dn = Q := ⟨_, rfl⟩
    obtain ⟨R, hR2⟩ : ∃ R, Nn % Dn = R := ⟨_, rfl⟩
    rw [hNn, hDn] at HS2
    simp only [IsSplit] at HS2
    rw [hQ2, hR2] at HS2
    have HNN := hid hNn; have HDN := hid hDn
    have HP := hid hpr
    clear HQV HRV
    have HQV := hid hQ2; have HRV := hid hR2
    clear hNn hDn hpr HQ HR HD HDV HDL HSP HPLL HPH HN1 HD1 HBQ HBN hQ2 hR2 HLN
    rcases (show ((bq : Int) > 53 ∨ (¬ (bq : Int) > 53 ∧ n < -1074)) by omega) with k4 | ⟨k4, k5⟩
    · clear k3
      go_wp2_with fail
      refine (HS2.out _ HB4.out).mono ?_
      rintro e wS ⟨qS, rS, dS, dl, rfl, hq, hr, hd, hdv, hdl, hbS⟩
      have HBS := hid (step_below HB4.out hbS)
      obtain ⟨qo, qc, rfl, -, -, -, -, -⟩ := id hq
      obtain ⟨ro, rc, rfl, -, -, -, -, -⟩ := id hr
      obtain ⟨do3, dc, rfl, -, -, -, -, -⟩ := id hd
      have HQ := hid hq; have HR := hid hr; have HD := hid hd; have HDV := hid hdv; have HDL := hid hdl
      clear hbS hq hr hd hdv hdl HS2 hmx
      have HIN : Hid (intF (val l) (val m) = rne Nn Dn) := hid (by unfold intF; rw [HPL.out, HNN.out, HDN.out])
      have HIL : Hid (rne Nn Dn ≤ 9007199254740992) := hid (by rw [← HIN.out]; exact intF_le H00.out)
      have hQs : Nn / Dn < 9007199254740992 := by rw [← HNN.out, ← HDN.out, ← HPL.out]; exact quot_div H00.out
      have hDp : 0 < Dn := by rw [← HDN.out]; exact Nat.mul_pos H00.out (Nat.two_pow_pos _)
      have hRl : (limbs (Nn % Dn)).length ≤ 1000 := by
        have h8 := HDL.out
        refine Nat.le_trans (show (limbs (Nn % Dn)).length ≤ dl.length from limbs_length_le ?_) h8
        have h9 := val_lt HD.out.ok
        rw [HDV.out] at h9
        exact Nat.lt_trans (Nat.mod_lt _ hDp) h9
      have HRL := hid hRl
      have hQ := HQV.out
      have hR := HRV.out
      obtain ⟨c, hcv⟩ : ∃ c, cmpI (R + R) Dn = c := ⟨_, rfl⟩
      have hround : (c > 0 ∧ rne Nn Dn = Q + 1) ∨ (c = 0 ∧ Q % 2 = 1 ∧ rne Nn Dn = Q + 1) ∨ (c = 0 ∧ Q % 2 = 0 ∧ rne Nn Dn = Q) ∨ (c < 0 ∧ rne Nn Dn = Q) := by
        have hc2 := hcv
        unfold cmpI at hc2
        unfold rne
        rw [hQ, hR]
        rcases Nat.lt_trichotomy (R + R) Dn with h | h | h
        · rw [if_pos h] at hc2; right; right; right; exact ⟨by omega, by rw [if_neg (by omega), Nat.add_zero]⟩
        · rw [if_neg (by omega), if_neg (by omega)] at hc2
          rcases Nat.mod_two_eq_zero_or_one Q with ho | ho
          · right; right; left; exact ⟨by omega, ho, by rw [if_neg (by omega), Nat.add_zero]⟩
          · right; left; exact ⟨by omega, ho, by rw [if_pos (by omega)]⟩
        · rw [if_neg (by omega), if_pos h] at hc2; left; exact ⟨by omega, by rw [if_pos (by omega)]⟩
      rw [hQ] at hQs
      rw [hR] at HRL
      have HCV := hid hcv
      have HSM := hid (ref_small_ok HQ.out (by have h9 : (limbs Q).length ≤ 2 := limbs_length_le (show Q < 18446744073709551616 by omega); omega) (by rw [val_limbs]; omega))
      rw [val_limbs] at HSM
      clear hDp hRl hQ hR hcv HQV HRV
      rcases hround with ⟨hc, hI⟩ | ⟨hc, ho, hI⟩ | ⟨hc, ho, hI⟩ | ⟨hc, hI⟩
      · have t1 : c > 0 := hc
        obtain ⟨J, hJ⟩ : ∃ J, Q + 1 = J := ⟨_, rfl⟩
        have ew : wrap64 ((Q : Int) + 1) = (J : Int) := by rw [wrap_id (by omega) (by omega)]; omega
        rw [hJ] at hI
        have hX : J ≤ 9007199254740992 := by rw [← hI]; exact HIL.out
        have hfl := float_int J
        rw [show (J : Int) = (Q : Int) + 1 by omega] at hfl
        have HTM := hid (fun w => ref_times hX p (by have := HP.out; omega) (by have := HP.out; omega) w)
        have HRES := hid (show Ieee.double.nearest false J p = nearF (val l) (val m) by rw [near_canon HA0.out H00.out]; unfold nearC; rw [HPL.out, HIN.out, hI])
        obtain ⟨Wd, hWd⟩ : ∃ Wd, Ieee.double.nearest false J 0 = Wd := ⟨_, rfl⟩
        rw [hWd] at hfl HTM
        clear hWd hI hX hJ
        obtain ⟨RS, hRS⟩ : ∃ RS, nearF (val l) (val m) = RS := ⟨_, rfl⟩
        rw [hRS] at HRES
        rw [HRES.out] at HTM
        have HRS := hid hRS
        clear hRS
        go_wp2_with fail
        refine HSM.out.mono ?_
        rintro e w5 ⟨rfl, hb5⟩
        have HB5 := hid (step_below HBS.out hb5)
        have HR5 := HR.out.below hb5; have HD5 := hid (HD.out.below hb5)
        have HAD := hid (ref_addV HR5 HR5 (by have := HRL.out; omega) (by have := HRL.out; omega))
        rw [val_limbs] at HAD
        clear hb5 HSM HR5
        go_wp2_with fail
        refine HAD.out.mono ?_
        rintro e w6 ⟨v6, rfl, hs6, hb6⟩
        have HB6 := hid (step_below HB5.out hb6)
        have HD6 := HD5.out.below hb6
        obtain ⟨so, sc, rfl, -, -, -, -, -⟩ := id hs6
        have HCM := hid (ref_cmp _ _ _ _ _ _ _ hs6 HD6)
        rw [val_limbs, HDV.out, HCV.out] at HCM
        clear hb6 hs6 HAD HD6 HD5
        go_wp2_with fail
        refine HCM.out.mono ?_
        rintro e w7 ⟨rfl, rfl⟩
        clear HCM
        go_wp2_with fail
        refine (HTM.out _).mono ?_
        rintro e w8 ⟨rfl, rfl⟩
        go_wp2_with fail
        go_ret
        exact ⟨by rw [HRS.out]; rfl, HB6.out⟩
      · have t1 : ¬ c > 0 := by omega
        have t2 : (c == 0) = true := by simp; omega
        have t3 : ((Q : Int) % 2 == 1) = true := by simp; omega
        obtain ⟨J, hJ⟩ : ∃ J, Q + 1 = J := ⟨_, rfl⟩
        have ew : wrap64 ((Q : Int) + 1) = (J : Int) := by rw [wrap_id (by omega) (by omega)]; omega
        rw [hJ] at hI
        have hX : J ≤ 9007199254740992 := by rw [← hI]; exact HIL.out
        have hfl := float_int J
        rw [show (J : Int) = (Q : Int) + 1 by omega] at hfl
        have HTM := hid (fun w => ref_times hX p (by have := HP.out; omega) (by have := HP.out; omega) w)
        have HRES := hid (show Ieee.double.nearest false J p = nearF (val l) (val m) by rw [near_canon HA0.out H00.out]; unfold nearC; rw [HPL.out, HIN.out, hI])
        obtain ⟨Wd, hWd⟩ : ∃ Wd, Ieee.double.nearest false J 0 = Wd := ⟨_, rfl⟩
        rw [hWd] at hfl HTM
        clear hWd hI hX hJ ho hc
        obtain ⟨RS, hRS⟩ : ∃ RS, nearF (val l) (val m) = RS := ⟨_, rfl⟩
        rw [hRS] at HRES
        rw [HRES.out] at HTM
        have HRS := hid hRS
        clear hRS
        go_wp2_with fail
        refine HSM.out.mono ?_
        rintro e w5 ⟨rfl, hb5⟩
        have HB5 := hid (step_below HBS.out hb5)
        have HR5 := HR.out.below hb5; have HD5 := hid (HD.out.below hb5)
        have HAD := hid (ref_addV HR5 HR5 (by have := HRL.out; omega) (by have := HRL.out; omega))
        rw [val_limbs] at HAD
        clear hb5 HSM HR5
        go_wp2_with fail
        refine HAD.out.mono ?_
        rintro e w6 ⟨v6, rfl, hs6, hb6⟩
        have HB6 := hid (step_below HB5.out hb6)
        have HD6 := HD5.out.below hb6
        obtain ⟨so, sc, rfl, -, -, -, -, -⟩ := id hs6
        have HCM := hid (ref_cmp _ _ _ _ _ _ _ hs6 HD6)
        rw [val_limbs, HDV.out, HCV.out] at HCM
        clear hb6 hs6 HAD HD6 HD5
        go_wp2_with fail
        refine HCM.out.mono ?_
        rintro e w7 ⟨rfl, rfl⟩
        clear HCM
        go_wp2_with fail
        refine (HTM.out _).mono ?_
        rintro e w8 ⟨rfl, rfl⟩
        go_wp2_with fail
        go_ret
        exact ⟨by rw [HRS.out]; rfl, HB6.out⟩
      · have t1 : ¬ c > 0 := by omega
        have t2 : (c == 0) = true := by simp; omega
        have t3 : ((Q : Int) % 2 == 1) = false := by simp; omega
        have hX : Q ≤ 9007199254740992 := by rw [← hI]; exact HIL.out
        have hfl := float_int Q
        have HTM := hid (fun w => ref_times hX p (by have := HP.out; omega) (by have := HP.out; omega) w)
        have HRES := hid (show Ieee.double.nearest false Q p = nearF (val l) (val m) by rw [near_canon HA0.out H00.out]; unfold nearC; rw [HPL.out, HIN.out, hI])
        obtain ⟨Wd, hWd⟩ : ∃ Wd, Ieee.double.nearest false Q 0 = Wd := ⟨_, rfl⟩
        rw [hWd] at hfl HTM
        clear hWd hI hX ho hc
        obtain ⟨RS, hRS⟩ : ∃ RS, nearF (val l) (val m) = RS := ⟨_, rfl⟩
        rw [hRS] at HRES
        rw [HRES.out] at HTM
        have HRS := hid hRS
        clear hRS
        go_wp2_with fail
        refine HSM.out.mono ?_
        rintro e w5 ⟨rfl, hb5⟩
        have HB5 := hid (step_below HBS.out hb5)
        have HR5 := HR.out.below hb5; have HD5 := hid (HD.out.below hb5)
        have HAD := hid (ref_addV HR5 HR5 (by have := HRL.out; omega) (by have := HRL.out; omega))
        rw [val_limbs] at HAD
        clear hb5 HSM HR5
        go_wp2_with fail
        refine HAD.out.mono ?_
        rintro e w6 ⟨v6, rfl, hs6, hb6⟩
        have HB6 := hid (step_below HB5.out hb6)
        have HD6 := HD5.out.below hb6
        obtain ⟨so, sc, rfl, -, -, -, -, -⟩ := id hs6
        have HCM := hid (ref_cmp _ _ _ _ _ _ _ hs6 HD6)
        rw [val_limbs, HDV.out, HCV.out] at HCM
        clear hb6 hs6 HAD HD6 HD5
        go_wp2_with fail
        refine HCM.out.mono ?_
        rintro e w7 ⟨rfl, rfl⟩
        clear HCM
        go_wp2_with fail
        refine (HTM.out _).mono ?_
        rintro e w8 ⟨rfl, rfl⟩
        go_wp2_with fail
        go_ret
        exact ⟨by rw [HRS.out]; rfl, HB6.out⟩
      · have t1 : ¬ c > 0 := by omega
        have t2 : (c == 0) = false := by simp; omega
        have hX : Q ≤ 9007199254740992 := by rw [← hI]; exact HIL.out
        have hfl := float_int Q
        have HTM := hid (fun w => ref_times hX p (by have := HP.out; omega) (by have := HP.out; omega) w)
        have HRES := hid (show Ieee.double.nearest false Q p = nearF (val l) (val m) by rw [near_canon HA0.out H00.out]; unfold nearC; rw [HPL.out, HIN.out, hI])
        obtain ⟨Wd, hWd⟩ : ∃ Wd, Ieee.double.nearest false Q 0 = Wd := ⟨_, rfl⟩
        rw [hWd] at hfl HTM
        clear hWd hI hX hc
        obtain ⟨RS, hRS⟩ : ∃ RS, nearF (val l) (val m) = RS := ⟨_, rfl⟩
        rw [hRS] at HRES
        rw [HRES.out] at HTM
        have HRS := hid hRS
        clear hRS
        go_wp2_with fail
        refine HSM.out.mono ?_
        rintro e w5 ⟨rfl, hb5⟩
        have HB5 := hid (step_below HBS.out hb5)
        have HR5 := HR.out.below hb5; have HD5 := hid (HD.out.below hb5)
        have HAD := hid (ref_addV HR5 HR5 (by have := HRL.out; omega) (by have := HRL.out; omega))
        rw [val_limbs] at HAD
        clear hb5 HSM HR5
        go_wp2_with fail
        refine HAD.out.mono ?_
        rintro e w6 ⟨v6, rfl, hs6, hb6⟩
        have HB6 := hid (step_below HB5.out hb6)
        have HD6 := HD5.out.below hb6
        obtain ⟨so, sc, rfl, -, -, -, -, -⟩ := id hs6
        have HCM := hid (ref_cmp _ _ _ _ _ _ _ hs6 HD6)
        rw [val_limbs, HDV.out, HCV.out] at HCM
        clear hb6 hs6 HAD HD6 HD5
        go_wp2_with fail
        refine HCM.out.mono ?_
        rintro e w7 ⟨rfl, rfl⟩
        clear HCM
        go_wp2_with fail
        refine (HTM.out _).mono ?_
        rintro e w8 ⟨rfl, rfl⟩
        go_wp2_with fail
        go_ret
        exact ⟨by rw [HRS.out]; rfl, HB6.out⟩
    · clear k3
      go_wp2_with fail
      refine (HS2.out _ HB4.out).mono ?_
      rintro e wS ⟨qS, rS, dS, dl, rfl, hq, hr, hd, hdv, hdl, hbS⟩
      have HBS := hid (step_below HB4.out hbS)
      obtain ⟨qo, qc, rfl, -, -, -, -, -⟩ := id hq
      obtain ⟨ro, rc, rfl, -, -, -, -, -⟩ := id hr
      obtain ⟨do3, dc, rfl, -, -, -, -, -⟩ := id hd
      have HQ := hid hq; have HR := hid hr; have HD := hid hd; have HDV := hid hdv; have HDL := hid hdl
      clear hbS hq hr hd hdv hdl HS2 hmx
      have HIN : Hid (intF (val l) (val m) = rne Nn Dn) := hid (by unfold intF; rw [HPL.out, HNN.out, HDN.out])
      have HIL : Hid (rne Nn Dn ≤ 9007199254740992) := hid (by rw [← HIN.out]; exact intF_le H00.out)
      have hQs : Nn / Dn < 9007199254740992 := by rw [← HNN.out, ← HDN.out, ← HPL.out]; exact quot_div H00.out
      have hDp : 0 < Dn := by rw [← HDN.out]; exact Nat.mul_pos H00.out (Nat.two_pow_pos _)
      have hRl : (limbs (Nn % Dn)).length ≤ 1000 := by
        have h8 := HDL.out
        refine Nat.le_trans (show (limbs (Nn % Dn)).length ≤ dl.length from limbs_length_le ?_) h8
        have h9 := val_lt HD.out.ok
        rw [HDV.out] at h9
        exact Nat.lt_trans (Nat.mod_lt _ hDp) h9
      have HRL := hid hRl
      have hQ := HQV.out
      have hR := HRV.out
      obtain ⟨c, hcv⟩ : ∃ c, cmpI (R + R) Dn = c := ⟨_, rfl⟩
      have hround : (c > 0 ∧ rne Nn Dn = Q + 1) ∨ (c = 0 ∧ Q % 2 = 1 ∧ rne Nn Dn = Q + 1) ∨ (c = 0 ∧ Q % 2 = 0 ∧ rne Nn Dn = Q) ∨ (c < 0 ∧ rne Nn Dn = Q) := by
        have hc2 := hcv
        unfold cmpI at hc2
        unfold rne
        rw [hQ, hR]
        rcases Nat.lt_trichotomy (R + R) Dn with h | h | h
        · rw [if_pos h] at hc2; right; right; right; exact ⟨by omega, by rw [if_neg (by omega), Nat.add_zero]⟩
        · rw [if_neg (by omega), if_neg (by omega)] at hc2
          rcases Nat.mod_two_eq_zero_or_one Q with ho | ho
          · right; right; left; exact ⟨by omega, ho, by rw [if_neg (by omega), Nat.add_zero]⟩
          · right; left; exact ⟨by omega, ho, by rw [if_pos (by omega)]⟩
        · rw [if_neg (by omega), if_pos h] at hc2; left; exact ⟨by omega, by rw [if_pos (by omega)]⟩
      rw [hQ] at hQs
      rw [hR] at HRL
      have HCV := hid hcv
      have HSM := hid (ref_small_ok HQ.out (by have h9 : (limbs Q).length ≤ 2 := limbs_length_le (show Q < 18446744073709551616 by omega); omega) (by rw [val_limbs]; omega))
      rw [val_limbs] at HSM
      clear hDp hRl hQ hR hcv HQV HRV
      rcases hround with ⟨hc, hI⟩ | ⟨hc, ho, hI⟩ | ⟨hc, ho, hI⟩ | ⟨hc, hI⟩
      · have t1 : c > 0 := hc
        obtain ⟨J, hJ⟩ : ∃ J, Q + 1 = J := ⟨_, rfl⟩
        have ew : wrap64 ((Q : Int) + 1) = (J : Int) := by rw [wrap_id (by omega) (by omega)]; omega
        rw [hJ] at hI
        have hX : J ≤ 9007199254740992 := by rw [← hI]; exact HIL.out
        have hfl := float_int J
        rw [show (J : Int) = (Q : Int) + 1 by omega] at hfl
        have HTM := hid (fun w => ref_times hX p (by have := HP.out; omega) (by have := HP.out; omega) w)
        have HRES := hid (show Ieee.double.nearest false J p = nearF (val l) (val m) by rw [near_canon HA0.out H00.out]; unfold nearC; rw [HPL.out, HIN.out, hI])
        obtain ⟨Wd, hWd⟩ : ∃ Wd, Ieee.double.nearest false J 0 = Wd := ⟨_, rfl⟩
        rw [hWd] at hfl HTM
        clear hWd hI hX hJ
        obtain ⟨RS, hRS⟩ : ∃ RS, nearF (val l) (val m) = RS := ⟨_, rfl⟩
        rw [hRS] at HRES
        rw [HRES.out] at HTM
        have HRS := hid hRS
        clear hRS
        go_wp2_with fail
        refine HSM.out.mono ?_
        rintro e w5 ⟨rfl, hb5⟩
        have HB5 := hid (step_below HBS.out hb5)
        have HR5 := HR.out.below hb5; have HD5 := hid (HD.out.below hb5)
        have HAD := hid (ref_addV HR5 HR5 (by have := HRL.out; omega) (by have := HRL.out; omega))
        rw [val_limbs] at HAD
        clear hb5 HSM HR5
        go_wp2_with fail
        refine HAD.out.mono ?_
        rintro e w6 ⟨v6, rfl, hs6, hb6⟩
        have HB6 := hid (step_below HB5.out hb6)
        have HD6 := HD5.out.below hb6
        obtain ⟨so, sc, rfl, -, -, -, -, -⟩ := id hs6
        have HCM := hid (ref_cmp _ _ _ _ _ _ _ hs6 HD6)
        rw [val_limbs, HDV.out, HCV.out] at HCM
        clear hb6 hs6 HAD HD6 HD5
        go_wp2_with fail
        refine HCM.out.mono ?_
        rintro e w7 ⟨rfl, rfl⟩
        clear HCM
        go_wp2_with fail
        refine (HTM.out _).mono ?_
        rintro e w8 ⟨rfl, rfl⟩
        go_wp2_with fail
        go_ret
        exact ⟨by rw [HRS.out]; rfl, HB6.out⟩
      · have t1 : ¬ c > 0 := by omega
        have t2 : (c == 0) = true := by simp; omega
        have t3 : ((Q : Int) % 2 == 1) = true := by simp; omega
        obtain ⟨J, hJ⟩ : ∃ J, Q + 1 = J := ⟨_, rfl⟩
        have ew : wrap64 ((Q : Int) + 1) = (J : Int) := by rw [wrap_id (by omega) (by omega)]; omega
        rw [hJ] at hI
        have hX : J ≤ 9007199254740992 := by rw [← hI]; exact HIL.out
        have hfl := float_int J
        rw [show (J : Int) = (Q : Int) + 1 by omega] at hfl
        have HTM := hid (fun w => ref_times hX p (by have := HP.out; omega) (by have := HP.out; omega) w)
        have HRES := hid (show Ieee.double.nearest false J p = nearF (val l) (val m) by rw [near_canon HA0.out H00.out]; unfold nearC; rw [HPL.out, HIN.out, hI])
        obtain ⟨Wd, hWd⟩ : ∃ Wd, Ieee.double.nearest false J 0 = Wd := ⟨_, rfl⟩
        rw [hWd] at hfl HTM
        clear hWd hI hX hJ ho hc
        obtain ⟨RS, hRS⟩ : ∃ RS, nearF (val l) (val m) = RS := ⟨_, rfl⟩
        rw [hRS] at HRES
        rw [HRES.out] at HTM
        have HRS := hid hRS
        clear hRS
        go_wp2_with fail
        refine HSM.out.mono ?_
        rintro e w5 ⟨rfl, hb5⟩
        have HB5 := hid (step_below HBS.out hb5)
        have HR5 := HR.out.below hb5; have HD5 := hid (HD.out.below hb5)
        have HAD := hid (ref_addV HR5 HR5 (by have := HRL.out; omega) (by have := HRL.out; omega))
        rw [val_limbs] at HAD
        clear hb5 HSM HR5
        go_wp2_with fail
        refine HAD.out.mono ?_
        rintro e w6 ⟨v6, rfl, hs6, hb6⟩
        have HB6 := hid (step_below HB5.out hb6)
        have HD6 := HD5.out.below hb6
        obtain ⟨so, sc, rfl, -, -, -, -, -⟩ := id hs6
        have HCM := hid (ref_cmp _ _ _ _ _ _ _ hs6 HD6)
        rw [val_limbs, HDV.out, HCV.out] at HCM
        clear hb6 hs6 HAD HD6 HD5
        go_wp2_with fail
        refine HCM.out.mono ?_
        rintro e w7 ⟨rfl, rfl⟩
        clear HCM
        go_wp2_with fail
        refine (HTM.out _).mono ?_
        rintro e w8 ⟨rfl, rfl⟩
        go_wp2_with fail
        go_ret
        exact ⟨by rw [HRS.out]; rfl, HB6.out⟩
      · have t1 : ¬ c > 0 := by omega
        have t2 : (c == 0) = true := by simp; omega
        have t3 : ((Q : Int) % 2 == 1) = false := by simp; omega
        have hX : Q ≤ 9007199254740992 := by rw [← hI]; exact HIL.out
        have hfl := float_int Q
        have HTM := hid (fun w => ref_times hX p (by have := HP.out; omega) (by have := HP.out; omega) w)
        have HRES := hid (show Ieee.double.nearest false Q p = nearF (val l) (val m) by rw [near_canon HA0.out H00.out]; unfold nearC; rw [HPL.out, HIN.out, hI])
        obtain ⟨Wd, hWd⟩ : ∃ Wd, Ieee.double.nearest false Q 0 = Wd := ⟨_, rfl⟩
        rw [hWd] at hfl HTM
        clear hWd hI hX ho hc
        obtain ⟨RS, hRS⟩ : ∃ RS, nearF (val l) (val m) = RS := ⟨_, rfl⟩
        rw [hRS] at HRES
        rw [HRES.out] at HTM
        have HRS := hid hRS
        clear hRS
        go_wp2_with fail
        refine HSM.out.mono ?_
        rintro e w5 ⟨rfl, hb5⟩
        have HB5 := hid (step_below HBS.out hb5)
        have HR5 := HR.out.below hb5; have HD5 := hid (HD.out.below hb5)
        have HAD := hid (ref_addV HR5 HR5 (by have := HRL.out; omega) (by have := HRL.out; omega))
        rw [val_limbs] at HAD
        clear hb5 HSM HR5
        go_wp2_with fail
        refine HAD.out.mono ?_
        rintro e w6 ⟨v6, rfl, hs6, hb6⟩
        have HB6 := hid (step_below HB5.out hb6)
        have HD6 := HD5.out.below hb6
        obtain ⟨so, sc, rfl, -, -, -, -, -⟩ := id hs6
        have HCM := hid (ref_cmp _ _ _ _ _ _ _ hs6 HD6)
        rw [val_limbs, HDV.out, HCV.out] at HCM
        clear hb6 hs6 HAD HD6 HD5
        go_wp2_with fail
        refine HCM.out.mono ?_
        rintro e w7 ⟨rfl, rfl⟩
        clear HCM
        go_wp2_with fail
        refine (HTM.out _).mono ?_
        rintro e w8 ⟨rfl, rfl⟩
        go_wp2_with fail
        go_ret
        exact ⟨by rw [HRS.out]; rfl, HB6.out⟩
      · have t1 : ¬ c > 0 := by omega
        have t2 : (c == 0) = false := by simp; omega
        have hX : Q ≤ 9007199254740992 := by rw [← hI]; exact HIL.out
        have hfl := float_int Q
        have HTM := hid (fun w => ref_times hX p (by have := HP.out; omega) (by have := HP.out; omega) w)
        have HRES := hid (show Ieee.double.nearest false Q p = nearF (val l) (val m) by rw [near_canon HA0.out H00.out]; unfold nearC; rw [HPL.out, HIN.out, hI])
        obtain ⟨Wd, hWd⟩ : ∃ Wd, Ieee.double.nearest false Q 0 = Wd := ⟨_, rfl⟩
        rw [hWd] at hfl HTM
        clear hWd hI hX hc
        obtain ⟨RS, hRS⟩ : ∃ RS, nearF (val l) (val m) = RS := ⟨_, rfl⟩
        rw [hRS] at HRES
        rw [HRES.out] at HTM
        have HRS := hid hRS
        clear hRS
        go_wp2_with fail
        refine HSM.out.mono ?_
        rintro e w5 ⟨rfl, hb5⟩
        have HB5 := hid (step_below HBS.out hb5)
        have HR5 := HR.out.below hb5; have HD5 := hid (HD.out.below hb5)
        have HAD := hid (ref_addV HR5 HR5 (by have := HRL.out; omega) (by have := HRL.out; omega))
        rw [val_limbs] at HAD
        clear hb5 HSM HR5
        go_wp2_with fail
        refine HAD.out.mono ?_
        rintro e w6 ⟨v6, rfl, hs6, hb6⟩
        have HB6 := hid (step_below HB5.out hb6)
        have HD6 := HD5.out.below hb6
        obtain ⟨so, sc, rfl, -, -, -, -, -⟩ := id hs6
        have HCM := hid (ref_cmp _ _ _ _ _ _ _ hs6 HD6)
        rw [val_limbs, HDV.out, HCV.out] at HCM
        clear hb6 hs6 HAD HD6 HD5
        go_wp2_with fail
        refine HCM.out.mono ?_
        rintro e w7 ⟨rfl, rfl⟩
        clear HCM
        go_wp2_with fail
        refine (HTM.out _).mono ?_
        rintro e w8 ⟨rfl, rfl⟩
        go_wp2_with fail
        go_ret
        exact ⟨by rw [HRS.out]; rfl, HB6.out⟩
  · have hpl := HPLL.out (Classical.byContradiction fun h => k3 (.inl (by have := HBN.out.2 h; omega))) (by omega)
    have HPL := hid hpl
    have k4 : ¬ (bq : Int) > 53 := fun h => k3 (.inl h)
    have k5 : ¬ n < -1074 := fun h => k3 (.inr h)
    have HP : Hid (-1074 ≤ n ∧ n ≤ 1101) := hid (by omega)
    have HNN := HN1; have HDN := HD1; have HBS := HB4
    clear hpl k3 HSP HPLL HPH HBQ HBN
    have HIN : Hid (intF (val l) (val m) = rne N1 D1) := hid (by unfold intF; rw [HPL.out, HNN.out, HDN.out])
    have HIL : Hid (rne N1 D1 ≤ 9007199254740992) := hid (by rw [← HIN.out]; exact intF_le H00.out)
    have hQs : N1 / D1 < 9007199254740992 := by rw [← HNN.out, ← HDN.out, ← HPL.out]; exact quot_div H00.out
    have hDp : 0 < D1 := by rw [← HDN.out]; exact Nat.mul_pos H00.out (Nat.two_pow_pos _)
    have hRl : (limbs (N1 % D1)).length ≤ 1000 := by
      have h8 := HDL.out
      refine Nat.le_trans (show (limbs (N1 % D1)).length ≤ dl3.length from limbs_length_le ?_) h8
      have h9 := val_lt HD.out.ok
      rw [HDV.out] at h9
      exact Nat.lt_trans (Nat.mod_lt _ hDp) h9
    have HRL := hid hRl
    have hQ := HQV.out
    have hR := HRV.out
    obtain ⟨c, hcv⟩ : ∃ c, cmpI (R1 + R1) D1 = c := ⟨_, rfl⟩
    have hround : (c > 0 ∧ rne N1 D1 = Q1 + 1) ∨ (c = 0 ∧ Q1 % 2 = 1 ∧ rne N1 D1 = Q1 + 1) ∨ (c = 0 ∧ Q1 % 2 = 0 ∧ rne N1 D1 = Q1) ∨ (c < 0 ∧ rne N1 D1 = Q1) := by
      have hc2 := hcv
      unfold cmpI at hc2
      unfold rne
      rw [hQ, hR]
      rcases Nat.lt_trichotomy (R1 + R1) D1 with h | h | h
      · rw [if_pos h] at hc2; right; right; right; exact ⟨by omega, by rw [if_neg (by omega), Nat.add_zero]⟩
      · rw [if_neg (by omega), if_neg (by omega)] at hc2
        rcases Nat.mod_two_eq_zero_or_one Q1 with ho | ho
        · right; right; left; exact ⟨by omega, ho, by rw [if_neg (by omega), Nat.add_zero]⟩
        · right; left; exact ⟨by omega, ho, by rw [if_pos (by omega)]⟩
      · rw [if_neg (by omega), if_pos h] at hc2; left; exact ⟨by omega, by rw [if_pos (by omega)]⟩
    rw [hQ] at hQs
    rw [hR] at HRL
    have HCV := hid hcv
    have HSM := hid (ref_small_ok HQ.out (by have h9 : (limbs Q1).length ≤ 2 := limbs_length_le (show Q1 < 18446744073709551616 by omega); omega) (by rw [val_limbs]; omega))
    rw [val_limbs] at HSM
    clear hDp hRl hQ hR hcv HQV HRV
    rcases hround with ⟨hc, hI⟩ | ⟨hc, ho, hI⟩ | ⟨hc, ho, hI⟩ | ⟨hc, hI⟩
    · have t1 : c > 0 := hc
      obtain ⟨J, hJ⟩ : ∃ J, Q1 + 1 = J := ⟨_, rfl⟩
      have ew : wrap64 ((Q1 : Int) + 1) = (J : Int) := by rw [wrap_id (by omega) (by omega)]; omega
      rw [hJ] at hI
      have hX : J ≤ 9007199254740992 := by rw [← hI]; exact HIL.out
      have hfl := float_int J
      rw [show (J : Int) = (Q1 : Int) + 1 by omega] at hfl
      have HTM := hid (fun w => ref_times hX n (by have := HP.out; omega) (by have := HP.out; omega) w)
      have HRES := hid (show Ieee.double.nearest false J n = nearF (val l) (val m) by rw [near_canon HA0.out H00.out]; unfold nearC; rw [HPL.out, HIN.out, hI])
      obtain ⟨Wd, hWd⟩ : ∃ Wd, Ieee.double.nearest false J 0 = Wd := ⟨_, rfl⟩
      rw [hWd] at hfl HTM
      clear hWd hI hX hJ
      obtain ⟨RS, hRS⟩ : ∃ RS, nearF (val l) (val m) = RS := ⟨_, rfl⟩
      rw [hRS] at HRES
      rw [HRES.out] at HTM
      have HRS := hid hRS
      clear hRS
      go_wp2_with fail
      refine HSM.out.mono ?_
      rintro e w5 ⟨rfl, hb5⟩
      have HB5 := hid (step_below HBS.out hb5)
      have HR5 := HR.out.below hb5; have HD5 := hid (HD.out.below hb5)
      have HAD := hid (ref_addV HR5 HR5 (by have := HRL.out; omega) (by have := HRL.out; omega))
      rw [val_limbs] at HAD
      clear hb5 HSM HR5
      go_wp2_with fail
      refine HAD.out.mono ?_
      rintro e w6 ⟨v6, rfl, hs6, hb6⟩
      have HB6 := hid (step_below HB5.out hb6)
      have HD6 := HD5.out.below hb6
      obtain ⟨so, sc, rfl, -, -, -, -, -⟩ := id hs6
      have HCM := hid (ref_cmp _ _ _ _ _ _ _ hs6 HD6)
      rw [val_limbs, HDV.out, HCV.out] at HCM
      clear hb6 hs6 HAD HD6 HD5
      go_wp2_with fail
      refine HCM.out.mono ?_
      rintro e w7 ⟨rfl, rfl⟩
      clear HCM
      go_wp2_with fail
      refine (HTM.out _).mono ?_
      rintro e w8 ⟨rfl, rfl⟩
      go_wp2_with fail
      go_ret
      exact ⟨by rw [HRS.out]; rfl, HB6.out⟩
    · have t1 : ¬ c > 0 := by omega
      have t2 : (c == 0) = true := by simp; omega
      have t3 : ((Q1 : Int) % 2 == 1) = true := by simp; omega
      obtain ⟨J, hJ⟩ : ∃ J, Q1 + 1 = J := ⟨_, rfl⟩
      have ew : wrap64 ((Q1 : Int) + 1) = (J : Int) := by rw [wrap_id (by omega) (by omega)]; omega
      rw [hJ] at hI
      have hX : J ≤ 9007199254740992 := by rw [← hI]; exact HIL.out
      have hfl := float_int J
      rw [show (J : Int) = (Q1 : Int) + 1 by omega] at hfl
      have HTM := hid (fun w => ref_times hX n (by have := HP.out; omega) (by have := HP.out; omega) w)
      have HRES := hid (show Ieee.double.nearest false J n = nearF (val l) (val m) by rw [near_canon HA0.out H00.out]; unfold nearC; rw [HPL.out, HIN.out, hI])
      obtain ⟨Wd, hWd⟩ : ∃ Wd, Ieee.double.nearest false J 0 = Wd := ⟨_, rfl⟩
      rw [hWd] at hfl HTM
      clear hWd hI hX hJ ho hc
      obtain ⟨RS, hRS⟩ : ∃ RS, nearF (val l) (val m) = RS := ⟨_, rfl⟩
      rw [hRS] at HRES
      rw [HRES.out] at HTM
      have HRS := hid hRS
      clear hRS
      go_wp2_with fail
      refine HSM.out.mono ?_
      rintro e w5 ⟨rfl, hb5⟩
      have HB5 := hid (step_below HBS.out hb5)
      have HR5 := HR.out.below hb5; have HD5 := hid (HD.out.below hb5)
      have HAD := hid (ref_addV HR5 HR5 (by have := HRL.out; omega) (by have := HRL.out; omega))
      rw [val_limbs] at HAD
      clear hb5 HSM HR5
      go_wp2_with fail
      refine HAD.out.mono ?_
      rintro e w6 ⟨v6, rfl, hs6, hb6⟩
      have HB6 := hid (step_below HB5.out hb6)
      have HD6 := HD5.out.below hb6
      obtain ⟨so, sc, rfl, -, -, -, -, -⟩ := id hs6
      have HCM := hid (ref_cmp _ _ _ _ _ _ _ hs6 HD6)
      rw [val_limbs, HDV.out, HCV.out] at HCM
      clear hb6 hs6 HAD HD6 HD5
      go_wp2_with fail
      refine HCM.out.mono ?_
      rintro e w7 ⟨rfl, rfl⟩
      clear HCM
      go_wp2_with fail
      refine (HTM.out _).mono ?_
      rintro e w8 ⟨rfl, rfl⟩
      go_wp2_with fail
      go_ret
      exact ⟨by rw [HRS.out]; rfl, HB6.out⟩
    · have t1 : ¬ c > 0 := by omega
      have t2 : (c == 0) = true := by simp; omega
      have t3 : ((Q1 : Int) % 2 == 1) = false := by simp; omega
      have hX : Q1 ≤ 9007199254740992 := by rw [← hI]; exact HIL.out
      have hfl := float_int Q1
      have HTM := hid (fun w => ref_times hX n (by have := HP.out; omega) (by have := HP.out; omega) w)
      have HRES := hid (show Ieee.double.nearest false Q1 n = nearF (val l) (val m) by rw [near_canon HA0.out H00.out]; unfold nearC; rw [HPL.out, HIN.out, hI])
      obtain ⟨Wd, hWd⟩ : ∃ Wd, Ieee.double.nearest false Q1 0 = Wd := ⟨_, rfl⟩
      rw [hWd] at hfl HTM
      clear hWd hI hX ho hc
      obtain ⟨RS, hRS⟩ : ∃ RS, nearF (val l) (val m) = RS := ⟨_, rfl⟩
      rw [hRS] at HRES
      rw [HRES.out] at HTM
      have HRS := hid hRS
      clear hRS
      go_wp2_with fail
      refine HSM.out.mono ?_
      rintro e w5 ⟨rfl, hb5⟩
      have HB5 := hid (step_below HBS.out hb5)
      have HR5 := HR.out.below hb5; have HD5 := hid (HD.out.below hb5)
      have HAD := hid (ref_addV HR5 HR5 (by have := HRL.out; omega) (by have := HRL.out; omega))
      rw [val_limbs] at HAD
      clear hb5 HSM HR5
      go_wp2_with fail
      refine HAD.out.mono ?_
      rintro e w6 ⟨v6, rfl, hs6, hb6⟩
      have HB6 := hid (step_below HB5.out hb6)
      have HD6 := HD5.out.below hb6
      obtain ⟨so, sc, rfl, -, -, -, -, -⟩ := id hs6
      have HCM := hid (ref_cmp _ _ _ _ _ _ _ hs6 HD6)
      rw [val_limbs, HDV.out, HCV.out] at HCM
      clear hb6 hs6 HAD HD6 HD5
      go_wp2_with fail
      refine HCM.out.mono ?_
      rintro e w7 ⟨rfl, rfl⟩
      clear HCM
      go_wp2_with fail
      refine (HTM.out _).mono ?_
      rintro e w8 ⟨rfl, rfl⟩
      go_wp2_with fail
      go_ret
      exact ⟨by rw [HRS.out]; rfl, HB6.out⟩
    · have t1 : ¬ c > 0 := by omega
      have t2 : (c == 0) = false := by simp; omega
      have hX : Q1 ≤ 9007199254740992 := by rw [← hI]; exact HIL.out
      have hfl := float_int Q1
      have HTM := hid (fun w => ref_times hX n (by have := HP.out; omega) (by have := HP.out; omega) w)
      have HRES := hid (show Ieee.double.nearest false Q1 n = nearF (val l) (val m) by rw [near_canon HA0.out H00.out]; unfold nearC; rw [HPL.out, HIN.out, hI])
      obtain ⟨Wd, hWd⟩ : ∃ Wd, Ieee.double.nearest false Q1 0 = Wd := ⟨_, rfl⟩
      rw [hWd] at hfl HTM
      clear hWd hI hX hc
      obtain ⟨RS, hRS⟩ : ∃ RS, nearF (val l) (val m) = RS := ⟨_, rfl⟩
      rw [hRS] at HRES
      rw [HRES.out] at HTM
      have HRS := hid hRS
      clear hRS
      go_wp2_with fail
      refine HSM.out.mono ?_
      rintro e w5 ⟨rfl, hb5⟩
      have HB5 := hid (step_below HBS.out hb5)
      have HR5 := HR.out.below hb5; have HD5 := hid (HD.out.below hb5)
      have HAD := hid (ref_addV HR5 HR5 (by have := HRL.out; omega) (by have := HRL.out; omega))
      rw [val_limbs] at HAD
      clear hb5 HSM HR5
      go_wp2_with fail
      refine HAD.out.mono ?_
      rintro e w6 ⟨v6, rfl, hs6, hb6⟩
      have HB6 := hid (step_below HB5.out hb6)
      have HD6 := HD5.out.below hb6
      obtain ⟨so, sc, rfl, -, -, -, -, -⟩ := id hs6
      have HCM := hid (ref_cmp _ _ _ _ _ _ _ hs6 HD6)
      rw [val_limbs, HDV.out, HCV.out] at HCM
      clear hb6 hs6 HAD HD6 HD5
      go_wp2_with fail
      refine HCM.out.mono ?_
      rintro e w7 ⟨rfl, rfl⟩
      clear HCM
      go_wp2_with fail
      refine (HTM.out _).mono ?_
      rintro e w8 ⟨rfl, rfl⟩
      go_wp2_with fail
      go_ret
      exact ⟨by rw [HRS.out]; rfl, HB6.out⟩
end Go.Proofs.YtjnbonellgpjnaaGreat
