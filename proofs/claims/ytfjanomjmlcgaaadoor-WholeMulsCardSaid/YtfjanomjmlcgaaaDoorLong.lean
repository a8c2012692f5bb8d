/- nat.divideLong by its contract. -/
import Derived.Test.YtfjanomjmlcgaaaDoorEst
import Derived.Test.YtfjanomjmlcgaaaDoorAdd
import Derived.Test.YtfjanomjmlcgaaaDoorShift2
import Derived.Test.YtfjanomjmlcgaaaDoorCmp
set_option linter.unusedVariables false
set_option linter.unusedSimpArgs false
namespace Go.Proofs.YtfjanomjmlcgaaaDoor
open Go.RowKit

/-- A quotient and a rest. -/
def Quots (w : World) (x y : Nat) (e : Ending) (w' : World) : Prop := ∃ q r, e = .returned (.tuple #[q, r]) ∧ Sees w' q (limbs (x / y)) ∧ Sees w' r (limbs (x % y)) ∧ Below w.heap.size w w'

set_option maxRecDepth 100000 in
set_option maxHeartbeats 4000000 in
theorem nat_divideLong (a b : Option Addr) (ca cb X Y : Nat) (p q : List Nat) (w : World) (ha : Sees w (.slice a p.length ca) p) (hb : Sees w (.slice b q.length cb) q) (hp : p = limbs X) (hq : q = limbs Y) (hXY : Y ≤ X) (h2 : 2 ≤ q.length) (hl : p.length ≤ 17592186044416) :
    Calls Tryd.prog 55 #[.slice a p.length ca, .slice b q.length cb] w fun e w' => Quots w X Y e w' := by
  have HA := hid ha; have HB := hid hb
  have hql : q.length ≤ p.length := by
    rw [hp, hq]
    rcases Nat.lt_or_ge (limbs X).length (limbs Y).length with h1 | h1
    · have := limbs_length_lt h1; omega
    · exact h1
  obtain ⟨bb, ob, rfl, hcb⟩ := hb.at (by omega)
  have hcb1 := hcb (q.length - 1) (by omega)
  have htb := hb.ok.getD (q.length - 1)
  clear hcb ha hb
  have htop : q.getD (q.length - 1) 0 ≠ 0 := by
    rw [hq]
    rcases Nat.eq_zero_or_pos Y with h0 | h0
    · subst h0; rw [hq] at h2; simp [limbs_zero] at h2
    · exact (limbs_last h0).2
  generalize hz : q.getD (q.length - 1) 0 = z at *
  -- how many bits its highest limb lacks
  obtain ⟨s, k, hsk, hs32, hlz⟩ : ∃ s k : Nat, s + k = 32 ∧ 0 < k ∧ bitsN z = k := by
    have h3 := bitsN_le htb
    have h4 : 0 < bitsN z := by unfold bitsN; rw [if_neg htop]; omega
    exact ⟨32 - bitsN z, bitsN z, by omega, h4, rfl⟩
  have hcall : ∀ w, Calls Tryd.prog 89 #[.int .u32 (z : Nat)] w fun e w' => e = .returned (.int .i64 (s : Nat)) ∧ w' = w := fun w => by
    refine (Tryd.bits_LeadingZeros32 (z : Nat) w (by omega) (by omega)).mono ?_
    rintro e w' ⟨rfl, rfl⟩
    refine ⟨?_, rfl⟩
    rw [Int.toNat_natCast, bitLen_eq z htb, hlz]
    have : (32 : Int) - (k : Int) = (s : Int) := by omega
    rw [this]
  have HCALL := hid hcall
  have HZ := hid hz; have HP := hid hp; have HQ := hid hq; have HXY := hid hXY; have HLZ := hid hlz
  have e1 : IntKind.i64.wrap ((q.length : Int) - 1) = ((q.length - 1 : Nat) : Int) := by rw [IntKind.wrap_i64]; omega
  have es : IntKind.u64.wrap (s : Int) = (s : Int) := by rw [IntKind.wrap_u64]; omega
  have hmk1 := run_make_row' (P := Tryd.prog) 22 57 (.int .u32 0) 4 Tryd.underlying22 info_u32 rfl .i64 .i64 (p.length + 1) (by omega) (by omega)
  have hmk2 := run_make_row' (P := Tryd.prog) 22 57 (.int .u32 0) 4 Tryd.underlying22 info_u32 rfl .i64 .i64 (q.length + 1) (by omega) (by omega)
  rw [show ((p.length + 1 : Nat) : Int) = (p.length : Int) + 1 by omega] at hmk1
  rw [show ((q.length + 1 : Nat) : Int) = (q.length : Int) + 1 by omega] at hmk2
  have ec1 : IntKind.i64.wrap ((p.length : Int) + 1) = (p.length : Int) + 1 := by rw [IntKind.wrap_i64]; omega
  have ec2 : IntKind.i64.wrap ((q.length : Int) + 1) = (q.length : Int) + 1 := by rw [IntKind.wrap_i64]; omega
  clear hcall hz hp hq hXY hlz htop
  go_enter Tryd.func55, Tryd.ntmps55
  go_wp2
  go_step3
  go_wp2_with fail
  refine (HCALL.out _).mono ?_
  rintro e w' ⟨rfl, rfl⟩
  clear HCALL
  go_wp2
  go_region
  all_goals first
    | (obtain ⟨gR, hgR⟩ : ∃ g, g = w'.heap.size + 1 := ⟨_, rfl⟩
       obtain ⟨gD, hgD⟩ : ∃ g, g = w'.heap.size := ⟨_, rfl⟩
       obtain ⟨w1, hw1⟩ : ∃ x, x = ((w'.alloc (.cells (madeCells #[Value.int .u32 0] (q.length + 1)) 57)).alloc (.cells (madeCells #[Value.int .u32 0] (p.length + 1)) 57)).drew := ⟨_, rfl⟩
       have F1 : Hid (Row w1 gR (List.replicate (p.length + 1) 0)) := by
         rw [hw1, hgR]
         have := Row.made (w'.alloc (.cells (madeCells #[Value.int .u32 0] (q.length + 1)) 57)) (p.length + 1)
         rw [Deep.nblk_alloc] at this
         exact this.drew
       have F2 : Hid (Row w1 gD (List.replicate (q.length + 1) 0)) := by rw [hw1, hgD]; exact ((Row.made w' _).alloc _).drew
       have F3 : Hid (Below w'.heap.size w' w1) := by rw [hw1]; exact (((Below.refl _ w').alloc (Nat.le_refl _) _).alloc (by simp) _).drew
       have F4 : Hid (gR ≠ gD ∧ w'.heap.size ≤ gR ∧ w'.heap.size ≤ gD) := by refine ⟨?_, ?_, ?_⟩ <;> omega
       rw [← hw1, ← hgR, ← hgD]
       clear hw1 hgR hgD)
    | (obtain ⟨gR, hgR⟩ : ∃ g, g = w'.heap.size := ⟨_, rfl⟩
       obtain ⟨gD, hgD⟩ : ∃ g, g = w'.heap.size + 1 := ⟨_, rfl⟩
       obtain ⟨w1, hw1⟩ : ∃ x, x = ((w'.alloc (.cells (madeCells #[Value.int .u32 0] (p.length + 1)) 57)).alloc (.cells (madeCells #[Value.int .u32 0] (q.length + 1)) 57)).drew := ⟨_, rfl⟩
       have F1 : Hid (Row w1 gR (List.replicate (p.length + 1) 0)) := by rw [hw1, hgR]; exact ((Row.made w' _).alloc _).drew
       have F2 : Hid (Row w1 gD (List.replicate (q.length + 1) 0)) := by
         rw [hw1, hgD]
         have := Row.made (w'.alloc (.cells (madeCells #[Value.int .u32 0] (p.length + 1)) 57)) (q.length + 1)
         rw [Deep.nblk_alloc] at this
         exact this.drew
       have F3 : Hid (Below w'.heap.size w' w1) := by rw [hw1]; exact (((Below.refl _ w').alloc (Nat.le_refl _) _).alloc (by simp) _).drew
       have F4 : Hid (gR ≠ gD ∧ w'.heap.size ≤ gR ∧ w'.heap.size ≤ gD) := by refine ⟨?_, ?_, ?_⟩ <;> omega
       rw [← hw1, ← hgD, ← hgR]
       clear hw1 hgR hgD)
  all_goals
    have HAL := hid (fun (h : 0 < p.length) (a' : Addr) (e : a = some a') => (e ▸ HA.out : Sees w' (.slice (some a') p.length ca) p).lt h)
    have HBL : Hid (bb < w'.heap.size) := HB.out.lt (by omega)
    have HA1 := hid (HA.out.below F3.out)
    have HB1 := hid (HB.out.below F3.out)
    clear hcb1 hmk1 hmk2 ec1 ec2 e1 es HA HB
    -- the dividend, shifted
    have C1 := hid (nat_shiftUp gR 0 (p.length + 1) (p.length + 1) a ca (List.replicate (p.length + 1) 0) p s k w1 F1.out (Ok.replicate _) (fun j _ => by rw [List.getD_eq_getElem?_getD, List.getElem?_replicate]; split <;> rfl) HA1.out (fun h a' e => by have := HAL.out h a' e; have := F4.out; omega) (by omega) (by simp) (by simp; omega) hsk)
    go_wp2_with fail
    refine C1.out.mono ?_
    rintro e w2 ⟨t, c, rfl, ham, hrow2, hg2⟩
    obtain ⟨hv1, hok1, hl1⟩ := up_val ham
    rw [Nat.zero_add] at hrow2
    obtain ⟨R0, hR0⟩ : ∃ R, R = t.set p.length c := ⟨_, rfl⟩
    rw [← hR0] at hrow2 hv1 hok1 hl1
    have G1 := hid hrow2
    have G2 := hid (F2.out.grown hg2 (by simp; have := F4.out; omega))
    have G3 : Hid (Below w'.heap.size w' w2) := F3.out.grown hg2 F3.out.size (fun k' e => by simp at e; have := F4.out; omega)
    have HB2 : Hid (Sees w2 (.slice (some ⟨bb, ob, none⟩) q.length cb) q) := HB1.out.grown hg2 (fun a' e => by cases e; have := F4.out; have := HBL.out; simp; omega)
    have HV1 := hid hv1; have HO1 := hid hok1; have HL1 := hid hl1
    clear ham hrow2 hg2 hR0 hv1 hok1 hl1 C1 F1 F2 F3 HA1 HB1 HAL
    -- the divisor, shifted
    have C2 := hid (nat_shiftUp gD 0 (q.length + 1) (q.length + 1) (some ⟨bb, ob, none⟩) cb (List.replicate (q.length + 1) 0) q s k w2 G2.out (Ok.replicate _) (fun j _ => by rw [List.getD_eq_getElem?_getD, List.getElem?_replicate]; split <;> rfl) HB2.out (fun h a' e => by cases e; have := F4.out; have := HBL.out; simp; omega) (by omega) (by simp) (by simp; omega) hsk)
    go_wp2_with fail
    refine C2.out.mono ?_
    rintro e w3 ⟨t', c', rfl, ham, hrow3, hg3⟩
    obtain ⟨hv2, hok2, hl2⟩ := up_val ham
    rw [Nat.zero_add] at hrow3
    obtain ⟨D0, hD0⟩ : ∃ R, R = t'.set q.length c' := ⟨_, rfl⟩
    rw [← hD0] at hrow3 hv2 hok2 hl2
    have hD0s : Sees w3 (.slice (some ⟨gD, 0, none⟩) (q.length + 1) (q.length + 1)) D0 := by
      have := hrow3.sees hok2 0 (q.length + 1) (q.length + 1) (by omega) (Nat.le_refl _) (by omega)
      rwa [List.drop_zero, List.take_of_length_le (by omega)] at this
    have K1 := hid (G1.out.grown hg3 (by simp; have := F4.out; omega))
    have K3 : Hid (Below w'.heap.size w' w3) := G3.out.grown hg3 G3.out.size (fun k' e => by simp at e; have := F4.out; omega)
    have KD := hid hD0s; have HV2 := hid hv2
    clear ham hrow3 hg3 hD0 hv2 hok2 hl2 C2 G1 G2 G3 HB2 hD0s
    go_wp2_with fail
    refine (trim_sees _ _ _ _ _ KD.out).mono ?_
    rintro e w4 ⟨⟨A, rfl, hA, hAe⟩, rfl⟩
    -- the numbers
    obtain ⟨D, hD⟩ : ∃ D, D = Y * 2 ^ s := ⟨_, rfl⟩
    have hvD : val D0 = D := by rw [HV2.out, HQ.out, val_limbs, hD]
    obtain ⟨v, hv⟩ : ∃ v, v = limbs (val D0) := ⟨_, rfl⟩
    simp only [← hv] at hA hAe ⊢
    have hzk : 2 ^ (k - 1) ≤ z ∧ z < 2 ^ k := by
      have h3 := HLZ.out
      unfold bitsN at h3
      by_cases hz0 : z = 0
      · rw [if_pos hz0] at h3; omega
      · rw [if_neg hz0] at h3
        have h4 : k - 1 = Nat.log2 z := by omega
        have h5 : k = Nat.log2 z + 1 := by omega
        refine ⟨by rw [h4]; exact Nat.log2_self_le hz0, by rw [h5]; exact Nat.lt_log2_self⟩
    have hnorm := norm (Y := Y) (z := z) (s := s) (k := k) (n := q.length - 1) (by rw [← HQ.out]; omega) (by rw [← HQ.out]; exact HZ.out) hsk hs32 hzk.1 hzk.2
    rw [← hD, show q.length - 1 + 1 = q.length by omega] at hnorm
    obtain ⟨n1, n2, n3⟩ := hnorm
    rw [← hvD, ← hv] at n1 n2
    have hvv : val v = D := by rw [hv, val_limbs, hvD]
    have hAs : A = some ⟨gD, 0, none⟩ := hAe (by omega)
    subst hAs
    have HVS := hid hA; have N1 := hid n1; have N2 := hid n2; have N3 := hid n3; have HVV := hid hvv; have HDD := hid hD
    have hvl : 2 ≤ v.length := by omega
    clear hA hAe hv hvD hzk KD n1 n2 n3 hvv hD HV2 HLZ HZ
    obtain ⟨N, hN⟩ : ∃ N, N = p.length - q.length + 1 := ⟨_, rfl⟩
    have hmk3 := run_make_row' (P := Tryd.prog) 22 57 (.int .u32 0) 4 Tryd.underlying22 info_u32 rfl .i64 .i64 N (by omega) (by omega)
    have eN : (p.length : Int) - (q.length : Int) + 1 = (N : Int) := by omega
    rw [← eN] at hmk3
    clear eN
    obtain ⟨gQ, hgQ⟩ : ∃ g, g = w3.heap.size := ⟨_, rfl⟩
    obtain ⟨w5, hw5⟩ : ∃ x, x = w3.alloc (.cells (madeCells #[Value.int .u32 0] N) 57) := ⟨_, rfl⟩
    have Q1 : Hid (Row w5 gQ (List.replicate N 0)) := by rw [hw5, hgQ]; exact Row.made w3 N
    have Q2 : Hid (Row w5 gR R0) := by rw [hw5]; exact K1.out.alloc _
    have Q3 : Hid (Below w'.heap.size w' w5) := by rw [hw5]; exact K3.out.alloc K3.out.size _
    have Q4 : Hid (Sees w5 (.slice (some ⟨gD, 0, none⟩) v.length v.length) v) := by rw [hw5]; exact HVS.out.below ((Below.refl _ _).alloc (Nat.le_refl _) _)
    have Q5 : Hid (gR ≠ gQ ∧ gD ≠ gQ ∧ w'.heap.size ≤ gQ) := by
      have h1 := K1.out.lt
      have h2 := HVS.out.lt (by omega)
      have h3 := K3.out.size
      refine ⟨?_, ?_, ?_⟩ <;> simp at * <;> omega
    have HW5 := hid hw5.symm; have HGQ := hid hgQ.symm; have HN := hid hN
    clear hw5 hgQ hN K1 K3 HVS
    go_wp2
    rw [HW5.out, HGQ.out]
    clear HW5 HGQ hmk3
    have hD0 : 0 < D := by
      have h1 := N3.out
      have h2 := Nat.pow_pos (n := q.length) (show 0 < 4294967296 by decide)
      omega
    have hDn : D < 4294967296 ^ v.length := by have := val_lt Q4.out.ok; rwa [HVV.out] at this
    have L0 : Hid (LongTo (X * 2 ^ s) D N R0 (List.replicate N 0)) := by
      refine LongTo.start HO1.out (by rw [HV1.out, HP.out, val_limbs]) ?_
      have h1 := long_fits (a := X) (b := Y) (la := p.length) (n := q.length) (p := 2 ^ s) (by rw [HP.out]; exact lt_pow_length X) (by
        have : 2 ^ s ≤ 2 ^ 31 := Nat.pow_le_pow_right (by decide) (by omega)
        simpa using this) (by rw [← HDD.out]; exact N3.out) hql
      rw [← HDD.out, ← HN.out] at h1
      exact h1
    have HD0 := hid hD0; have HDN := hid hDn
    clear hD0 hDn
    go_step3
    go_wp2
    go_loopg [49] N (fun g v49 wr => ∃ (k2 : Nat) (t qs : List Nat), k2 + g = N ∧ v49 = .int .i64 k2 ∧ Hid (LongTo (X * 2 ^ s) D g t qs) ∧ Hid (t.length = p.length + 1) ∧ Hid (qs.length = N) ∧ Hid (Row wr gR t) ∧ Hid (Row wr gQ qs) ∧ Hid (Sees wr (.slice (some ⟨gD, 0, none⟩) v.length v.length) v) ∧ Hid (Below w'.heap.size w' wr))
    case atStart => exact ⟨0, R0, _, by omega, rfl, L0, HL1, by show _ = _; simp, Q2, Q1, Q4, Q3⟩
    case round =>
      clear Q1 Q2 Q3 Q4 L0 HV1 HO1 HL1
      obtain ⟨k2, t2, qs, hk2, rfl, hlong, htl, hqsl, hrR, hrQ, hsD, hbel⟩ := hrel
      cases gk with
      | zero =>
        obtain rfl : k2 = N := by omega
        have htot := hlong.out.total HD0.out
        have hqs : Sees wr (.slice (some ⟨gQ, 0, none⟩) k2 k2) qs := by
          have hq1 := hqsl.out
          have := hrQ.out.sees hlong.out.okq 0 k2 k2 (by omega) (Nat.le_refl _) (by have := HN.out; omega)
          rwa [List.drop_zero, List.take_of_length_le (by omega)] at this
        have hts : Sees wr (.slice (some ⟨gR, 0, none⟩) t2.length t2.length) t2 := by
          have ht1 := htl.out
          have := hrR.out.sees hlong.out.okt 0 t2.length t2.length (by omega) (Nat.le_refl _) (by omega)
          rwa [List.drop_zero, List.take_of_length_le (by omega)] at this
        have C4 := nat_shiftDown _ _ t2 s k wr hts hsk (by have := htl.out; omega)
        rw [htl.out] at C4
        have HC4 := hid C4; have HT := hid htot; have HQS := hid hqs
        clear hlong htot hqs hts C4 hrQ hrR hsD
        go_wp2_with fail
        refine (trim_sees _ _ _ _ _ HQS.out).mono ?_
        rintro e w6 ⟨⟨Q, rfl, hQ, -⟩, rfl⟩
        have HQQ := hid hQ
        clear hQ HQS
        go_wp2_with fail
        refine HC4.out.mono ?_
        rintro e w7 ⟨t3, rfl, hl3, ho3, hv3, hr3, hb3⟩
        have h3s : Sees w7 (.slice (some ⟨wr.heap.size, 0, none⟩) (p.length + 1) (p.length + 1)) t3 := by
          have := hr3.sees ho3 0 (p.length + 1) (p.length + 1) (by omega) (Nat.le_refl _) (by omega)
          rwa [List.drop_zero, List.take_of_length_le (by omega)] at this
        have H3 := hid h3s; have HV3 := hid hv3; have HB3 := hid hb3
        clear h3s hl3 ho3 hv3 hr3 hb3 HC4
        go_wp2_with fail
        refine (trim_sees _ _ _ _ _ H3.out).mono ?_
        rintro e w8 ⟨⟨R, rfl, hR, -⟩, rfl⟩
        have HRR := hid hR
        clear hR H3
        go_wp2
        try rw [Exit.noGoto_ret]
        go_ret2
        have hsd := shifted_div X Y (2 ^ s) (Nat.two_pow_pos s)
        refine ⟨_, _, rfl, ?_, ?_, ?_⟩
        · have h1 := HQQ.out.below HB3.out
          have h2 := HT.out.1
          rw [HDD.out, hsd.1] at h2
          rw [h2] at h1 ⊢
          exact h1
        · have h1 := HRR.out
          have h2 := HT.out.2
          rw [HDD.out] at h2
          have h3 := HV3.out
          rw [h2, hsd.2] at h3
          rw [h3] at h1 ⊢
          exact h1
        · exact hbel.out.trans (HB3.out.mono hbel.out.size)
      | succ i =>
        have ei : (N : Int) - 1 - (k2 : Int) = (i : Int) := by omega
        have hile : i + (v.length + 1) ≤ p.length + 1 := by have := HN.out; have := N1.out; omega
        have hNb : N ≤ 17592186044417 := by have := HN.out; omega
        have hvb : v.length ≤ 17592186044416 := by have := N1.out; omega
        have e5 : ((i : Int) + (v.length : Int) + 1).toNat - i = v.length + 1 := by omega
        have e6 : ¬ (p.length + 1 = i) := by omega
        have hwin := hlong.out.window HDN.out (by rw [htl.out]; exact hile)
        obtain ⟨W, hW⟩ : ∃ W, W = seg t2 i (v.length + 1) := ⟨_, rfl⟩
        rw [← hW] at hwin
        have hu : Sees wr (.slice (some ⟨gR, i, none⟩) (v.length + 1) (p.length + 1 - i)) ((t2.drop i).take (v.length + 1)) :=
          hrR.out.sees hlong.out.okt i (v.length + 1) (p.length + 1 - i) (by rw [htl.out]; exact hile) (by omega) (by omega)
        have hvu : val ((t2.drop i).take (v.length + 1)) = W := by rw [seg_val, hW]
        have C5 := hid (nat_estimateLimb _ _ _ _ v.length (W / D) _ _ wr hu hsD.out hvl (by rw [N1.out]; exact N2.out) (by rw [hvu, HVV.out]; exact Nat.div_mul_le_self _ _) (by rw [hvu, HVV.out]; exact hwin.1) (Nat.div_lt_of_lt_mul hwin.1))
        have HWIN := hid hwin; have HW := hid hW
        clear hu hvu hwin hW
        go_wp2_with fail
        refine C5.out.mono ?_
        rintro e w6 ⟨x, rfl, hx1, hx2, hgr⟩
        have R6 := hid (hrR.out.grown (hgr none) (by simp))
        have Q6 := hid (hrQ.out.grown (hgr none) (by simp))
        have S6 : Hid (Sees w6 (.slice (some ⟨gD, 0, none⟩) v.length v.length) v) := hsD.out.grown' (hgr none) (fun a' n' c' e => by simp)
        have B6 : Hid (Below w'.heap.size w' w6) := hbel.out.grown (hgr none) hbel.out.size (fun k' e => by simp at e)
        have HX1 := hid hx1
        have hgDR : ∀ a' : Addr, some (⟨gD, 0, none⟩ : Addr) = some a' → a'.block ≠ gR := fun a' e => by cases e; have := F4.out; simp; omega
        have C6 := hid (nat_takeTimes gR i (v.length + 1) (p.length + 1 - i) (some ⟨gD, 0, none⟩) v.length t2 v x w6 R6.out hlong.out.okt S6.out (fun _ => hgDR) (by omega) (by rw [htl.out]; exact hile) (by rw [htl.out]; omega) hx2)
        have HGDR := hid hgDR
        clear hgr C5 hrR hrQ hsD hbel R6 hx1 hgDR e5 e6 ei
        go_wp2_with fail
        refine C6.out.mono ?_
        rintro e w7 ⟨t3, c3, rfl, htf, hr7, hg7⟩
        have Q7 := hid (Q6.out.grown hg7 (by simp; have := Q5.out; omega))
        have S7 : Hid (Sees w7 (.slice (some ⟨gD, 0, none⟩) v.length v.length) v) := S6.out.grown hg7 HGDR.out
        have B7 : Hid (Below w'.heap.size w' w7) := B6.out.grown hg7 B6.out.size (fun k' e => by simp at e; have := F4.out; omega)
        have hc3 := htf.le
        have LF0 : Hid (Left W D (4294967296 ^ (v.length + 1)) x (seg t3 i (v.length + 1)) c3) := ⟨HX1.out, htf.le, seg_lt htf.part.ok _ _, by
          have := htf.sum
          rw [HVV.out, ← HW.out] at this
          exact this⟩
        have PT0 := hid htf.part
        have R7 := hid hr7
        clear htf hr7 hg7 C6 Q6 S6 B6 HX1
        go_wp2
        go_loopw [12, 13] (fun v12 v13 wy => ∃ (e c : Nat) (t4 : List Nat), v12 = .int .u32 e ∧ v13 = .int .u32 c ∧ c ≤ 1 ∧ e < 4294967296 ∧ Hid (Left W D (4294967296 ^ (v.length + 1)) e (seg t4 i (v.length + 1)) c) ∧ Hid (Part t2 t4 i (v.length + 1)) ∧ Hid (Row wy gR t4) ∧ Hid (w7.grownBy wy (some gR))) (fun v12 _ _ => (intOf v12).toNat)
        case atStart => exact ⟨x, c3, t3, rfl, rfl, hc3, hx2, LF0, PT0, R7, World.grownBy.refl _ _⟩
        case round =>
          clear LF0 PT0 R7 hc3 hx2
          obtain ⟨e, c4, t4, rfl, rfl, hc4, he4, hleft, hpart, hr8, hg8⟩ := hrel
          rcases Nat.eq_zero_or_pos c4 with h0 | h0
          · subst h0
            have hdone := hleft.out.done HD0.out
            have hQ8 := Q7.out.grown hg8.out (by simp; have := Q5.out; omega)
            have hca := hQ8.cell (i := i) (by rw [hqsl.out]; omega)
            have hfr := hQ8.frozen i
            have hset := grownBy_set (World.grownBy.refl wr (some gQ)) i (.int .u32 (e : Nat))
            have HRQ := hid (hQ8.set i e)
            have HS8 : Hid (Sees (wr.setCell ⟨gQ, i, none⟩ (.int .u32 (e : Nat))) (.slice (some ⟨gD, 0, none⟩) v.length v.length) v) :=
              (S7.out.grown hg8.out HGDR.out).grown hset (fun a' e => by cases e; have := Q5.out; simp; omega)
            have HB8 : Hid (Below w'.heap.size w' (wr.setCell ⟨gQ, i, none⟩ (.int .u32 (e : Nat)))) :=
              (B7.out.grown hg8.out B7.out.size (fun k' e => by simp at e; have := F4.out; omega)).grown hset (by have := (B7.out.grown hg8.out B7.out.size (fun k' e => by simp at e; have := F4.out; omega)).size; exact this) (fun k' e => by simp at e; have := Q5.out; omega)
            have HR8 := hid (hr8.out.setOther (a := ⟨gQ, i, none⟩) (by have := Q5.out; simp; omega) (.int .u32 (e : Nat)))
            have HL8 := hid (hlong.out.step (e := e) (t' := t4) HD0.out HDN.out (by rw [htl.out]; exact hile) (by rw [hqsl.out]; omega) hpart.out (by rw [hdone.1, HW.out]) (by rw [hdone.2, HW.out]))
            have HT8 : Hid (t4.length = p.length + 1) := by have h1 := hpart.out.len; have h2 := htl.out; show _ = _; omega
            have HQ8 : Hid ((qs.set i e).length = N) := by show _ = _; rw [List.length_set]; exact hqsl.out
            clear hdone hQ8 hset hleft hpart hr8 hg8 Q7 S7 B7 hlong htl hqsl
            go_wp2
            go_roundg i
            case rel => exact ⟨k2 + 1, t4, qs.set i e, by omega, by go_num, HL8, HT8, HQ8, HR8, HRQ, HS8, HB8⟩
            case measure => omega
          · obtain rfl : c4 = 1 := by omega
            have he0 := hleft.out.pos
            have S8 := S7.out.grown hg8.out HGDR.out
            have C8 := hid (nat_addTo gR i (v.length + 1) (p.length + 1 - i) (some ⟨gD, 0, none⟩) v.length t4 v wr hr8.out hpart.out.ok S8 (fun _ => HGDR.out) (by omega) (by have h1 := hpart.out.len; have h2 := htl.out; omega) (by have h1 := hpart.out.len; have h2 := htl.out; omega))
            clear S8
            go_wp2_with (go_at_call 72; refine C8.out.mono ?_; rintro e' w8 ⟨t5, c5, rfl, hat, hr9, hg9⟩; have hc5 := hat.le; have HAT := hid hat; have HR9 := hid hr9; have HG9 := hid hg9; clear hat hr9 hg9)
            have hP : D ≤ 4294967296 ^ (v.length + 1) := by
              have h1 := HDN.out
              rw [Nat.pow_succ]
              omega
            have hsum := HAT.out.sum
            rw [HVV.out] at hsum
            obtain ⟨_, hback⟩ := hleft.out.back HD0.out hP (seg t5 i (v.length + 1)) c5 hc5 (seg_lt HAT.out.part.ok _ _) hsum
            have HBK := hid hback
            have HPT := hid (hpart.out.trans HAT.out.part)
            have HGR := hid (grownBy_trans hg8.out HG9.out)
            clear hP hsum hback
            go_roundw
            case rel => exact ⟨e - 1, 1 - c5, t5, by go_num, by go_num, by omega, by omega, HBK, HPT, HR9, HGR⟩
            case measure => simp [intOf]; omega
end Go.Proofs.YtfjanomjmlcgaaaDoor
