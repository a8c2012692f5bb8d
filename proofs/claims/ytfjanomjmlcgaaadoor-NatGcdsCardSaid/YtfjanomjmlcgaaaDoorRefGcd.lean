/- The document's Gcd of layer 1 by its contract. -/
import Derived.Test.YtfjanomjmlcgaaaDoorRefDiv
import Derived.Test.YtfjanomjmlcgaaaDoorFrame
set_option linter.unusedVariables false
set_option linter.unusedSimpArgs false
namespace Go.Proofs.YtfjanomjmlcgaaaDoor
open Go.RowKit

theorem limbs_length_mono' {x y : Nat} (h : x ≤ y) : (limbs x).length ≤ (limbs y).length := by
  rcases Nat.lt_or_ge (limbs y).length (limbs x).length with h1 | h1
  · have := limbs_length_lt h1; omega
  · exact h1

structure RefGcdAt (w wr : World) (X Y p q : Nat) (a b : Option Addr) (la ca lb cb : Nat) : Prop where
  seesA : Sees wr (.slice a la ca) (limbs p)
  seesB : Sees wr (.slice b lb cb) (limbs q)
  lenA : (limbs p).length ≤ 100000
  lenB : (limbs q).length ≤ 100000
  gcd : Nat.gcd p q = Nat.gcd X Y
  bel : Below w.heap.size w wr

set_option maxRecDepth 100000 in
set_option maxHeartbeats 4000000 in
theorem ref_gcd {a b : Value} {l m : List Nat} {w : World} (ha : Sees w a l) (hb : Sees w b m) (hl : l.length ≤ 100000) (hm : m.length ≤ 100000) :
    Calls Tryd.prog 19 #[a, b] w fun e w' => IsNum w (Nat.gcd (val l) (val m)) e w' := by
  have hlp := (limbs_prefix ha.ok).2
  have hlq := (limbs_prefix hb.ok).2
  have HA := hid ha; have HB := hid hb
  clear ha hb
  go_enter Tryd.func19, Tryd.ntmps19
  go_wp2_with fail
  refine (ref_plain' HA.out (by omega)).mono ?_
  rintro e w1 ⟨va, rfl, hs1, hb1⟩
  have HB1 := hid (HB.out.below hb1); have B1 := hid hb1; have HS1 := hid hs1
  clear hs1 hb1 HA HB
  go_wp2_with fail
  refine (ref_plain' HB1.out (by omega)).mono ?_
  rintro e w2 ⟨vb, rfl, hs2, hb2⟩
  have B2 := hid (step_below B1.out hb2)
  have HS2 := hid (HS1.out.below hb2); have HT2 := hid hs2
  clear hb2 HB1 B1 HS1 hs2
  obtain ⟨X, hX⟩ : ∃ X, val l = X := ⟨_, rfl⟩
  obtain ⟨Y, hY⟩ : ∃ Y, val m = Y := ⟨_, rfl⟩
  rw [hX] at HS2 hlp
  rw [hY] at HT2 hlq
  have HX := hid hX; have HY := hid hY
  obtain ⟨A, cA, rfl, -, -, -, -, -⟩ := id HS2.out
  obtain ⟨B, cB, rfl, -, -, -, -, -⟩ := id HT2.out
  have I0 : Hid (RefGcdAt w w2 X Y X Y A B (limbs X).length cA (limbs Y).length cB) := ⟨HS2.out, HT2.out, by omega, by omega, rfl, B2.out⟩
  clear hX hY hl hm hlp hlq HS2 HT2 B2
  go_wp2
  go_loopg [0, 1] Y (fun gh v0 v1 wr => ∃ (p q : Nat) (a b : Option Addr) (la ca lb cb : Nat), Hid (RefGcdAt w wr X Y p q a b la ca lb cb) ∧ v0 = .slice a la ca ∧ v1 = .slice b lb cb ∧ Hid (q = gh))
  case atStart => exact ⟨_, _, _, _, _, _, _, _, I0, rfl, rfl, rfl⟩
  case round =>
    clear I0
    obtain ⟨p, q, a, b, la, ca, lb, cb, hI, rfl, rfl, hgk⟩ := hrel
    obtain rfl : lb = (limbs q).length := hI.out.seesB.len_eq.1
    have hpl := hI.out.lenA
    have hql := hI.out.lenB
    have HA2 := hid hI.out.seesA; have HB2 := hid hI.out.seesB
    have HGC := hid hI.out.gcd; have B3 := hid hI.out.bel
    clear hI
    rcases Nat.eq_zero_or_pos q with h0 | h0
    · subst h0
      have hg0 := HGC.out
      rw [Nat.gcd_zero_right] at hg0
      have HG0 := hid hg0
      have e0 : (limbs 0).length = 0 := rfl
      clear hg0 HGC
      go_wp2
      go_ret
      refine ⟨_, rfl, ?_, B3.out⟩
      have := HA2.out
      rw [HG0.out] at this
      rw [HX.out, HY.out]
      exact this
    · have hbl : 0 < (limbs q).length := (limbs_last h0).1
      go_wp2_with fail
      refine (ref_small_any HA2.out (by omega)).mono ?_
      rintro e w3 ⟨x, bx, rfl, hx1, hx2, hb3⟩
      have B4 := hid (step_below B3.out hb3)
      have HS3 := hid (HA2.out.below hb3); have HT3 := hid (HB2.out.below hb3)
      rw [val_limbs] at hx1 hx2
      clear hb3 HA2 HB2 B3 hx2
      go_wp2_with fail
      refine (ref_small_any HT3.out (by omega)).mono ?_
      rintro e w4 ⟨y, bY, rfl, hy1, hy2, hb4⟩
      have B5 := hid (step_below B4.out hb4)
      have HS4 := hid (HS3.out.below hb4); have HT4 := hid (HT3.out.below hb4)
      rw [val_limbs] at hy1 hy2
      clear hb4 HS3 HT3 B4 hy2
      by_cases hboth : bx = true ∧ bY = true
      · obtain ⟨rfl, rfl⟩ := hboth
        obtain ⟨rfl, hxl⟩ := hx1.out rfl
        obtain ⟨rfl, hyl⟩ := hy1.out rfl
        clear hx1 hy1 HS4 HT4 hbl hpl hql
        go_wp2
        go_loopg [5, 7] y (fun gh v5 v7 ws => ∃ s t : Nat, v5 = .int .i64 s ∧ v7 = .int .i64 t ∧ Hid (t = gh) ∧ s < 9223372036854775808 ∧ t < 9223372036854775808 ∧ Hid (Nat.gcd s t = Nat.gcd X Y) ∧ Hid (Below w.heap.size w ws))
        case atStart => exact ⟨x, y, rfl, rfl, rfl, hxl, hyl, HGC, B5⟩
        case round =>
          clear hgk HGC B5 hxl hyl h0
          obtain ⟨s, t, rfl, rfl, hgk, hs, ht, hgc, hbel⟩ := hrel
          rcases Nat.eq_zero_or_pos t with h0 | h0
          · subst h0
            have hg0 := hgc.out
            rw [Nat.gcd_zero_right] at hg0
            have HG0 := hid hg0
            have CO := ref_of (s : Int) (by omega) (by omega)
            rw [Int.toNat_natCast] at CO
            have HCO := hid CO
            clear CO hg0 hgc hgk
            go_wp2_with fail
            refine (HCO.out _).mono ?_
            rintro e w5 ⟨v, rfl, hv, hb5⟩
            have HV := hid hv; have B6 := hid (step_below hbel.out hb5)
            clear hv hb5 HCO
            go_wp2
            try rw [Exit.noGoto_ret]
            go_ret
            refine ⟨_, rfl, ?_, B6.out⟩
            have := HV.out
            rw [HG0.out] at this
            rw [HX.out, HY.out]
            exact this
          · obtain ⟨r, hr⟩ : ∃ r, r = s % t := ⟨_, rfl⟩
            have er1 : (s : Int) % (t : Int) = (r : Int) := by rw [hr]; exact (Int.natCast_emod _ _).symm
            have er2 : Int.tmod (s : Int) (t : Int) = (r : Int) := by rw [Int.tmod_eq_emod_of_nonneg (by omega)]; exact er1
            have hrq : r < t := by rw [hr]; exact Nat.mod_lt _ h0
            have ew2 : IntKind.i64.wrap (r : Int) = (r : Int) := by rw [IntKind.wrap_i64]; omega
            have hy0 : ¬ (t : Int) = 0 := by omega
            have hg2 : Nat.gcd t r = Nat.gcd X Y := by rw [hr, Nat.gcd_comm, ← Nat.gcd_rec, Nat.gcd_comm]; exact hgc.out
            have HG := hid hg2
            clear hr hg2 hgc
            go_wp2
            go_region
            all_goals
              go_wp2
              go_roundg r
              case rel => exact ⟨t, r, rfl, rfl, rfl, ht, by omega, HG, by first | exact hbel | exact hbel.out.drew⟩
              case measure => have := hgk.out; omega
      · have CD := ref_div_pos HS4.out HT4.out (by omega) (by omega) (by rw [val_limbs]; exact h0)
        rw [val_limbs, val_limbs] at CD
        have HCD := hid CD
        have HNOT := hid hboth
        clear hx1 hy1 CD hboth
        cases bx <;> cases bY
        all_goals first
          | (exact absurd ⟨rfl, rfl⟩ HNOT.out)
          | skip
        all_goals
          clear HNOT
          go_wp2_with fail
          refine HCD.out.mono ?_
          rintro e w5 ⟨qq, v, rfl, hqq, hv, hb5⟩
          have HV := hid hv
          have B6 := hid (step_below B5.out hb5)
          have HB5 := hid (HT4.out.below hb5)
          obtain ⟨ta, tc, rfl, -, -, -, -, -⟩ := hqq
          obtain ⟨va, vc, rfl, -, -, -, -, -⟩ := hv
          have HQ0 := hid h0
          have hrl : (limbs (p % q)).length ≤ (limbs q).length := limbs_length_mono' (Nat.le_of_lt (Nat.mod_lt _ h0))
          have HLA : Hid ((limbs q).length ≤ 100000) := hql
          have HLB : Hid ((limbs (p % q)).length ≤ 100000) := by show _ ≤ _; omega
          clear hb5 HCD HS4 HT4 B5 hpl hql hrl
          go_wp2
          go_roundg (p % q)
          case rel => exact ⟨q, p % q, _, _, _, _, _, _, ⟨HB5.out, HV.out, HLA.out, HLB.out, by rw [Nat.gcd_comm, ← Nat.gcd_rec, Nat.gcd_comm]; exact HGC.out, B6.out⟩, rfl, rfl, rfl⟩
          case measure => have h3 := hgk.out; have h4 := Nat.mod_lt p HQ0.out; omega
end Go.Proofs.YtfjanomjmlcgaaaDoor
