/- The document's bit and Shift by their contracts. The float nearest to a fraction that is a float: that float. How long a float's fraction is; a float less itself. Halving and doubling floats; a float cut to a whole number. The document's Make of layer 3, From. The document's Make of layer 3; its From of layer 4. The document's From of layer 4. The document's From of zeros, NaN and the infinities; Same of equal fractions. The document's From of NaN and the infinities; Same of equal fractions. -/
import Derived.Test.YtjnbonellgpjnaaGreatKM
import Derived.Test.YtjnbonellgpjnaaGreatKC
import Derived.Test.YtjnbonellgpjnaaGreatKJ
import Derived.Test.YtjnbonellgpjnaaGreatKO
import Derived.Test.YtjnbonellgpjnaaGreatKP
import Derived.Test.YtjnbonellgpjnaaGreatKQ
set_option linter.unusedVariables false
set_option linter.unusedSimpArgs false
namespace Go.Proofs.YtjnbonellgpjnaaGreat
open Go.RowKit

theorem enc_set (l : List Nat) (i x : Nat) : (enc l).set i (.int .u32 (x : Nat)) = enc (l.set i x) := by
  simp [enc, List.map_set]

theorem ref_shift_no {a : Value} (n : Int) (w : World) (h : n < -1048576 ∨ 1048576 < n) :
    Calls Tryz.prog 74 #[a, .int .i64 n] w fun e w' => e = .returned (.tuple #[.slice none 0 0, .bool false]) ∧ w = w' := by
  go_enter Tryz.func74, Tryz.ntmps74
  rcases h with h | h
  · have h' : ¬ 1048576 < n := by omega
    go_wp2
    go_ret2
    exact ⟨rfl, rfl⟩
  · go_wp2
    go_ret2
    exact ⟨rfl, rfl⟩

set_option maxRecDepth 100000 in
set_option maxHeartbeats 8000000 in
theorem ref_shift_ok {a : Value} {l : List Nat} (n : Int) {w : World} (ha : Sees w a l) (hl : l.length ≤ 1000) (h1 : -1048576 ≤ n) (h2 : n ≤ 1048576) :
    Calls Tryz.prog 74 #[a, .int .i64 n] w fun e w' => ∃ v, e = .returned (.tuple #[v, .bool true]) ∧ Sees w' v (limbs (shiftZ (val l) n)) ∧ Below w.heap.size w w' := by
  have hlen := (limbs_prefix ha.ok).2
  have HA := hid ha
  clear ha
  obtain ⟨i0, hi, hz0, hz1, hz2⟩ := info_parts info_u32
  go_enter Tryz.func74, Tryz.ntmps74
  go_wp2_with fail
  refine (ref_plain _ _ _ HA.out (by omega)).mono ?_
  intro e w1 hp
  obtain ⟨v', rfl, hs, hbel⟩ := hp.sees (by omega)
  obtain ⟨V, hV⟩ : ∃ V, val l = V := ⟨_, rfl⟩
  rw [hV] at hs hlen
  have HVL := hid hV
  obtain ⟨p, hpe⟩ : ∃ p, p = limbs V := ⟨_, rfl⟩
  rw [← hpe] at hs hlen
  have hvp : val p = V := by rw [hpe, val_limbs]
  have HVP := hid hvp
  have hpl : p.length ≤ 1000 := by omega
  have hnb : bitsN V ≤ 32 * p.length := by
    rcases Nat.eq_zero_or_pos V with h0 | h0
    · rw [h0]; unfold bitsN; simp
    · have h3 := bitsN_limbs h0
      have h4 := bitsN_le ((limbs_ok V).getD ((limbs V).length - 1))
      have h5 := (limbs_last h0).1
      rw [hpe]
      omega
  have hlt := fun k h => shiftZ_lt V k n h
  have hbit := fun k j h => shiftZ_bit V k j n h
  have hbit0 := fun k h => shiftZ_bit0 V k n h
  obtain ⟨X, hX⟩ : ∃ X, X = shiftZ V n := ⟨_, rfl⟩
  have HX := hid hX
  rw [← hX] at hlt hbit hbit0
  have HLT := hid hlt; have HBIT := hid hbit; have HBIT0 := hid hbit0
  obtain ⟨nb, hnbe⟩ : ∃ nb, nb = bitsN V := ⟨_, rfl⟩
  rw [← hnbe] at hnb HLT
  have HNB := hid hnbe
  have HS := hid hs; have HB := hid hbel
  obtain ⟨A, cA, rfl, -, -, -, -, -⟩ := hs
  obtain ⟨K, hK⟩ : ∃ K : Nat, K = ((nb : Int) + n).toNat := ⟨_, rfl⟩
  have HK := hid hK
  clear hp hbel hpe hvp hlt hbit hbit0 hX hnbe hK hlen hl hV HA
  go_wp2
  go_loopg [6, 7] K (fun g v6 v7 wr => ∃ (k c : Nat) (t : List Nat), v7 = .int .i64 k ∧ g = K - k ∧ k ≤ K ∧ c = (k + 31) / 32 ∧ Hid (BitsTo X k c t) ∧ Hid (wr.ownsRow w1.heap.size 98 1 v6 c (enc t)) ∧ Hid (Below w1.heap.size w1 wr))
  case atStart => exact ⟨0, 0, [], rfl, by omega, by omega, by omega, BitsTo.start _, World.ownsRow_nil _ _ _ _, Below.refl _ _⟩
  case round =>
    obtain ⟨k, c, t, rfl, hg, hkK, hc, hbt, hown, hbel⟩ := hrel
    have HG := hid hg; have HC := hid hc; have HKK := hid hkK
    have hk1 : k ≤ 2000000 := by have := HK.out; omega
    clear hg hc hkK
    go_wp2_with fail
    refine (ref_bits _ _ _ (HS.out.below hbel.out) (by omega)).mono ?_
    rintro e w2 ⟨rfl, hb2⟩
    rw [HVP.out, ← HNB.out]
    replace hown := hid (owns_below hown.out hb2)
    replace hbel := hid (hbel.out.trans (hb2.mono hbel.out.size))
    clear hb2
    by_cases hkn : (k : Int) < (nb : Int) + n
    · obtain ⟨q, s, hqs, hs⟩ : ∃ q s, k = 32 * q + s ∧ s < 32 := ⟨k / 32, k % 32, by omega, by omega⟩
      have HQS := hid hqs
      have eq1 : (k : Int) / 32 = (q : Int) := by omega
      have eq2 : (k : Int) % 32 = (s : Int) := by omega
      clear hqs
      by_cases hs0 : s = 0
      · subst hs0
        have hcq : c = q := by have := HC.out; have := HQS.out; omega
        subst hcq
        have hcl : c ≤ 100000 := by have := HQS.out; omega
        have hnews : ∀ j u, (enc [0])[j]? = some u → (w2.alloc (.cells #[.int .u32 0] 98)).cell? ((⟨w2.heap.size, 0, none⟩ : Addr).add j) = some u :=
          (sees_lit w2 [0] (Ok.cons (by decide) Ok.nil) (by simp)).news
        have HN := hid hnews; have HW := hid hown.out.lt
        clear hnews
        go_wp2_with (at_builtin; refine wpList_append_own _ rfl _ _ 22 rfl w1.heap.size 98 i0 (.int .u32 0) 1 4 Tryz.underlying22 hi hz0 hz1 hz2 rfl (by decide) _ _ _ rfl (hown.out.alloc _) ⟨w2.heap.size, 0, none⟩ 1 1 (enc [0]) rfl ?ga1 ?gb1 ?gc1 ?gd1 ?ge1 ?gf1 ?_)
        case ga1 => simp [enc_length]
        case gb1 => exact HN.out
        case gc1 => exact enc_one _
        case gd1 => unfold maxLen; omega
        case ge1 => omega
        case gf1 => have := hbel.out.size; simp; omega
        intro v5 w4 hown4 hgrow _
        rw [enc_append] at hown4
        have hb4 : Below w1.heap.size w1 w4 := (hbel.out.alloc hbel.out.size _).grown hgrow (by rw [Deep.nblk_alloc]; have := hbel.out.size; omega) (fun k e => (HW.out k e).1)
        have HO := hid hown4; have HB4 := hid hb4
        have HBT1 := hid hbt.out.more
        clear hown4 hgrow hb4 hown hbel hbt HN HW
        by_cases hd : 0 ≤ (k : Int) - n
        · obtain ⟨j, hj⟩ := Int.eq_ofNat_of_zero_le hd
          have hjl : j ≤ 3000000 := by omega
          have hbj := HBIT.out k j hj
          obtain ⟨b, hb⟩ : ∃ b, X / 2 ^ k % 2 = b := ⟨_, rfl⟩
          have hb1 : b ≤ 1 := by omega
          have HBJ : Hid (val p / 2 ^ j % 2 = b) := by show _ = _; rw [HVP.out, ← hbj, hb]
          have hdig := HBT1.out.digit (q := c) (s := 0) (by omega) (by have := HQS.out; omega)
          have hstep := HBT1.out.step (x := (t ++ [0]).getD c 0 + b * 2 ^ 0) (q := c) (s := 0) (b := b) (by omega) (by have := HQS.out; omega) (by omega) hs hb rfl
          have hps : 2 ^ 0 ≤ 2147483648 := (Nat.pow_le_pow_right (by decide) (by omega) : 2 ^ 0 ≤ 2 ^ 31)
          have hbs : b * 2 ^ 0 ≤ 1 * 2 ^ 0 := Nat.mul_le_mul_right _ hb1
          have hvn : v5 ≠ .slice none 0 0 := fun e => by
            rcases HO.out.2 with ⟨_, h2⟩ | ⟨g2, cap2, cur2, h2, _⟩
            · omega
            · rw [e] at h2; cases h2
          obtain ⟨g, cg, hve, hrow, hgb, hlc, hcm⟩ := owns_some HO.out hvn
          have htlen := HBT1.out.len
          rw [htlen] at hlc hve
          subst hve
          have hcell := hrow.cell (i := c) (by omega)
          have hfr := hrow.frozen c
          have hst := fun u => HO.out.stored c u
          have hstx := hst (.int .u32 ((t ++ [0]).getD c 0 + b * 2 ^ 0 : Nat))
          rw [enc_set] at hstx
          have HBT := hid hstep
          have HCALL := hid (ref_bit A cA p j (j / 32) (j % 32) b w4.drew (HS.out.below HB4.out.drew) (by omega) (by omega) (by omega) HBJ.out)
          clear hst
          have hval : (t ++ [0]).getD c 0 + b * 2 ^ 0 < 4294967296 := by omega
          obtain ⟨u, hu⟩ : ∃ u, (t ++ [0]).getD c 0 = u := ⟨_, rfl⟩
          rw [hu] at hval hcell hstx HBT
          clear hu
          obtain ⟨x, hx⟩ : ∃ x, x = u + b * 2 ^ 0 := ⟨_, rfl⟩
          rw [← hx] at hval hstx HBT
          have HX1 := hid hstx.1
          have HX2 := hid (HB4.out.grown hstx.2 HB4.out.size (fun k' e => by simp at e; omega))
          clear hstx
          have t1 : Int.tdiv (k : Int) 32 = (c : Int) := by rw [Int.tdiv_eq_ediv_of_nonneg (by omega)]; omega
          have t2 : IntKind.i64.wrap (c : Int) = (c : Int) := by rw [IntKind.wrap_i64]; omega
          have t3 : Int.tmod (k : Int) 32 = (0 : Int) := by rw [Int.tmod_eq_emod_of_nonneg (by omega)]; omega
          have t4 : IntKind.i64.wrap ((k : Int) - n) = (j : Int) := by rw [IntKind.wrap_i64]; omega
          have t7 : IntKind.i64.wrap (j : Int) = (j : Int) := by rw [IntKind.wrap_i64]; omega
          have t5 : (0 : Int) ≤ (c : Int) := by omega
          have t6 : (c : Int) < (c + 1 : Nat) := by omega
          have EX : ((x : Nat) : Int) = (u : Int) + (b : Int) := by rw [hx]; omega
          clear hj hdig hb hbj hjl hrow hbs hps hvn hx
          go_wp2
          go_region_with (go_at_call 104; refine HCALL.out.mono ?_; rintro e w' ⟨rfl, rfl⟩)
          all_goals go_wp2
          all_goals
            go_roundg (K - (k + 1))
            case rel => exact ⟨k + 1, c + 1, (t ++ [0]).set c x, by go_num, rfl, by have := HK.out; omega, by have := HQS.out; omega, HBT, by have h := HX1.out; rw [EX] at h; exact h, by have h := HX2.out.drew; rw [EX] at h; exact h⟩
            case measure => have := HG.out; have := HK.out; omega
        · have hz := HBIT0.out k (by omega)
          have HBT := hid (HBT1.out.zero hz)
          clear hz
          go_wp2
          go_roundg (K - (k + 1))
          case rel => exact ⟨k + 1, c + 1, (t ++ [0]), by go_num, rfl, by have := HK.out; omega, by have := HQS.out; omega, HBT, HO, HB4⟩
          case measure => have := HG.out; have := HK.out; omega
      · have hcq : c = q + 1 := by have := HC.out; have := HQS.out; omega
        subst hcq
        have hcl : q ≤ 100000 := by have := HQS.out; omega
        by_cases hd : 0 ≤ (k : Int) - n
        · obtain ⟨j, hj⟩ := Int.eq_ofNat_of_zero_le hd
          have hjl : j ≤ 3000000 := by omega
          have hbj := HBIT.out k j hj
          obtain ⟨b, hb⟩ : ∃ b, X / 2 ^ k % 2 = b := ⟨_, rfl⟩
          have hb1 : b ≤ 1 := by omega
          have HBJ : Hid (val p / 2 ^ j % 2 = b) := by show _ = _; rw [HVP.out, ← hbj, hb]
          have hdig := hbt.out.digit (q := q) (s := s) (by omega) (by have := HQS.out; omega)
          have hstep := hbt.out.step (x := t.getD q 0 + b * 2 ^ s) (q := q) (s := s) (b := b) (by omega) (by have := HQS.out; omega) (by omega) hs hb rfl
          have hps : 2 ^ s ≤ 2147483648 := (Nat.pow_le_pow_right (by decide) (by omega) : 2 ^ s ≤ 2 ^ 31)
          have hbs : b * 2 ^ s ≤ 1 * 2 ^ s := Nat.mul_le_mul_right _ hb1
          have hvn : u6 ≠ .slice none 0 0 := fun e => by
            rcases hown.out.2 with ⟨_, h2⟩ | ⟨g2, cap2, cur2, h2, _⟩
            · omega
            · rw [e] at h2; cases h2
          obtain ⟨g, cg, hve, hrow, hgb, hlc, hcm⟩ := owns_some hown.out hvn
          have htlen := hbt.out.len
          rw [htlen] at hlc hve
          subst hve
          have hcell := hrow.cell (i := q) (by omega)
          have hfr := hrow.frozen q
          have hst := fun u => hown.out.stored q u
          have hstx := hst (.int .u32 (t.getD q 0 + b * 2 ^ s : Nat))
          rw [enc_set] at hstx
          have HBT := hid hstep
          have HCALL := hid (ref_bit A cA p j (j / 32) (j % 32) b w2.drew (HS.out.below hbel.out.drew) (by omega) (by omega) (by omega) HBJ.out)
          clear hst
          have hval : t.getD q 0 + b * 2 ^ s < 4294967296 := by omega
          obtain ⟨u, hu⟩ : ∃ u, t.getD q 0 = u := ⟨_, rfl⟩
          rw [hu] at hval hcell hstx HBT
          clear hu
          obtain ⟨x, hx⟩ : ∃ x, x = u + b * 2 ^ s := ⟨_, rfl⟩
          rw [← hx] at hval hstx HBT
          have HX1 := hid hstx.1
          have HX2 := hid (hbel.out.grown hstx.2 hbel.out.size (fun k' e => by simp at e; omega))
          clear hstx
          have t1 : Int.tdiv (k : Int) 32 = (q : Int) := by rw [Int.tdiv_eq_ediv_of_nonneg (by omega)]; omega
          have t2 : IntKind.i64.wrap (q : Int) = (q : Int) := by rw [IntKind.wrap_i64]; omega
          have t3 : Int.tmod (k : Int) 32 = (s : Int) := by rw [Int.tmod_eq_emod_of_nonneg (by omega)]; omega
          have t4 : IntKind.i64.wrap ((k : Int) - n) = (j : Int) := by rw [IntKind.wrap_i64]; omega
          have t7 : IntKind.i64.wrap (j : Int) = (j : Int) := by rw [IntKind.wrap_i64]; omega
          have t5 : (0 : Int) ≤ (q : Int) := by omega
          have t6 : (q : Int) < (q + 1 : Nat) := by omega
          have EX : ((x : Nat) : Int) = ((u : Int) + (b : Int) * 2 ^ s % 4294967296) % 4294967296 := by rw [hx]; rw [hx] at hval; rw [show (b : Int) * 2 ^ s = ((b * 2 ^ s : Nat) : Int) by rw [Int.natCast_mul, Int.natCast_pow]; rfl]; generalize b * 2 ^ s = m at *; omega
          clear hj hdig hb hbj hjl hrow hbs hps hvn hx
          go_wp2
          go_region_with (go_at_call 104; refine HCALL.out.mono ?_; rintro e w' ⟨rfl, rfl⟩)
          all_goals go_wp2
          all_goals
            go_roundg (K - (k + 1))
            case rel => exact ⟨k + 1, q + 1, t.set q x, by go_num, rfl, by have := HK.out; omega, by have := HQS.out; omega, HBT, by have h := HX1.out; rw [EX] at h; exact h, by have h := HX2.out.drew; rw [EX] at h; exact h⟩
            case measure => have := HG.out; have := HK.out; omega
        · have hz := HBIT0.out k (by omega)
          have HBT := hid (hbt.out.zero hz)
          clear hz
          go_wp2
          go_roundg (K - (k + 1))
          case rel => exact ⟨k + 1, q + 1, t, by go_num, rfl, by have := HK.out; omega, by have := HQS.out; omega, HBT, hown, hbel⟩
          case measure => have := HG.out; have := HK.out; omega
    · have hv := hbt.out.sum
      have hXk := HLT.out k (by omega)
      rw [Nat.mod_eq_of_lt hXk] at hv
      have hlk : t.length ≤ 100000 := by have := hbt.out.len; have := HC.out; omega
      have hsee := owns_sees hown.out hbt.out.ok (by omega)
      have hlk2 := Nat.le_trans (limbs_prefix hsee.ok).2 hlk
      have HS2 := hid hsee; have HV := hid hv; have HLK := hid hlk
      clear hv hXk hlk hsee hown hbt
      go_wp2_with fail
      refine (ref_plain _ _ _ HS2.out (by have := HLK.out; omega)).mono ?_
      intro e w4 hp
      obtain ⟨v4, rfl, hs4, hb4⟩ := hp.sees (by omega)
      have HB4 := hid (HB.out.trans ((hbel.out.trans (hb4.mono hbel.out.size)).mono HB.out.size))
      have HS4 := hid hs4
      clear hp hs4 hb4
      go_wp2
      go_ret2
      exact ⟨_, rfl, by have := HS4.out; rw [HV.out, HX.out] at this; rw [HVL.out]; exact this, HB4.out⟩
end Go.Proofs.YtjnbonellgpjnaaGreat

set_option linter.unusedVariables false
set_option linter.unusedSimpArgs false
namespace Go.Proofs.YtjnbonellgpjnaaGreat

theorem bits_low {a : Nat} (h : 0 < a) : 2 ^ bitsN a ≤ 2 * a := two_pow_bits h
/-- The power of two told is in the fraction. -/
theorem topN_ge {a d : Nat} (h : 0 < a) : ¬ lt2 a d (topN a d - 1) := by
  intro hl
  have h1 := lt_bitsN d
  have h2 := two_pow_bits h
  have h3 := (lt2_iff (bitsN d + 1) (bitsN a) (by unfold topN; omega)).1 hl
  rw [Nat.pow_succ] at h3
  have h4 : d * 2 ^ bitsN a ≤ a * (2 ^ bitsN d * 2) := by
    calc d * 2 ^ bitsN a ≤ d * (2 * a) := Nat.mul_le_mul_left _ h2
      _ = a * (d * 2) := by ac_rfl
      _ ≤ a * (2 ^ bitsN d * 2) := Nat.mul_le_mul_left _ (by omega)
  omega
theorem topF_ge {a d : Nat} (h : 0 < a) : ¬ lt2 a d (topF a d) := by
  by_cases hc : lt2 a d (topN a d)
  · rw [topF_of_lt hc]; exact topN_ge h
  · rw [topF_of_not hc]; exact hc
/-- It is the only one. -/
theorem topF_unique {a d : Nat} {t : Int} (h0 : 0 < a) (hd : 0 < d) (h1 : ¬ lt2 a d t) (h2 : lt2 a d (t + 1)) : topF a d = t := by
  have g1 := topF_ge (d := d) h0
  have g2 := topF_lt (a := a) hd
  rcases Int.lt_trichotomy (topF a d) t with h | h | h
  · exact absurd (lt2_mono g2 (by omega)) h1
  · exact h
  · exact absurd (lt2_mono h2 (by omega)) g1
theorem topN_near (a d : Nat) : topF a d ≤ topN a d ∧ topN a d ≤ topF a d + 1 := by
  by_cases hc : lt2 a d (topN a d)
  · rw [topF_of_lt hc]; omega
  · rw [topF_of_not hc]; omega

/-- a/d is N * 2^j: then below a power of two just if N is. -/
theorem lt2_of {a d N : Nat} {j : Int} (hd : 0 < d) (K : Nat) (hK : 0 ≤ (K : Int) + j) (h : a * 2 ^ K = N * 2 ^ (K + j).toNat * d) (e : Nat) (he : 0 ≤ (K : Int) + j + e) : lt2 a d (j + e) ↔ N < 2 ^ e := by
  rw [lt2_iff K ((K + j).toNat + e) (by omega), h, Nat.mul_comm d, Nat.pow_add]
  have hp : 0 < 2 ^ ((K : Int) + j).toNat := Nat.two_pow_pos _
  generalize 2 ^ ((K : Int) + j).toNat = p at *
  constructor
  · intro h1
    have h2 := Nat.lt_of_mul_lt_mul_right h1
    rw [Nat.mul_comm N] at h2
    exact Nat.lt_of_mul_lt_mul_left h2
  · intro h1
    refine Nat.mul_lt_mul_of_pos_right ?_ hd
    rw [Nat.mul_comm N]
    exact Nat.mul_lt_mul_of_pos_left h1 hp

theorem rne_exact {q d : Nat} (hd : 0 < d) : rne (q * d) d = q := by
  unfold rne
  rw [Nat.mul_div_cancel _ hd, Nat.mul_mod_left, if_neg (by omega)]
  rfl
theorem rne_of {a d q : Nat} (hd : 0 < d) (h : a = q * d) : rne a d = q := by rw [h]; exact rne_exact hd

/-- Where the place is j, and N whole numbers of it: N. -/
theorem intF_exact {a d N : Nat} {j : Int} (hd : 0 < d) (K : Nat) (hK : 0 ≤ (K : Int) + j) (h : a * 2 ^ K = N * 2 ^ (K + j).toNat * d) (hp : placeF a d = j) : intF a d = N := by
  unfold intF
  rw [hp]
  refine rne_of (Nat.mul_pos hd (Nat.two_pow_pos _)) ?_
  have hk : 0 < 2 ^ K := Nat.two_pow_pos K
  refine Nat.eq_of_mul_eq_mul_right hk ?_
  rw [Nat.mul_right_comm, h]
  have e : 2 ^ ((K : Int) + j).toNat * 2 ^ (-j).toNat = 2 ^ j.toNat * 2 ^ K := by
    rw [← Nat.pow_add, ← Nat.pow_add]
    refine congrArg (fun n => 2 ^ n) ?_
    omega
  generalize 2 ^ ((K : Int) + j).toNat = p at *
  generalize 2 ^ (-j).toNat = q at *
  generalize 2 ^ j.toNat = r at *
  generalize 2 ^ K = s at *
  calc N * p * d * q = N * d * (p * q) := by ac_rfl
    _ = N * d * (r * s) := by rw [e]
    _ = N * (d * r) * s := by ac_rfl

theorem near_exact {a d r : Nat} (hd : 0 < d) (hr0 : 0 < r) (hr : r < 9218868437227405312) (h : a * units = mag r * d) : nearF a d = r := by
  obtain ⟨K, hK, hu⟩ := units_eq
  rw [hu] at h
  have hm : 0 < mag r := by have := mag_lt hr0; rw [mag_zero] at this; exact this
  have ha : 0 < a := by
    rcases Nat.eq_zero_or_pos a with h0 | h0
    · rw [h0, Nat.zero_mul] at h
      have := Nat.mul_pos hm hd
      omega
    · exact h0
  by_cases h1 : r < 4503599627370496
  · -- a subnormal number: its own whole number
    have hmr : mag r = r := if_pos h1
    rw [hmr] at h
    have h' : a * 2 ^ K = r * 2 ^ ((K : Int) + (-1074)).toNat * d := by
      rw [show ((K : Int) + (-1074)).toNat = 0 by omega, Nat.pow_zero, Nat.mul_one]; exact h
    have hlt : lt2 a d (-1074 + (52 : Nat)) := (lt2_of hd K (by omega) h' 52 (by omega)).2 h1
    have hge : ¬ lt2 a d (-1074 + (0 : Nat)) := fun g => by
      have := (lt2_of hd K (by omega) h' 0 (by omega)).1 g
      rw [Nat.pow_zero] at this; omega
    have t1 : topF a d < -1074 + (52 : Nat) := by
      rcases Int.lt_or_le (topF a d) (-1074 + (52 : Nat)) with g | g
      · exact g
      · exact absurd (lt2_mono hlt g) (topF_ge ha)
    have t2 : -1074 ≤ topF a d := by
      rcases Int.lt_or_le (topF a d) (-1074) with g | g
      · exact absurd (lt2_mono (topF_lt hd) (by omega)) hge
      · exact g
    have hpl : placeF a d = -1074 := by unfold placeF; omega
    have hi := intF_exact hd K (by omega) h' hpl
    have hn := topN_near a d
    unfold nearF
    rw [if_neg (by omega), if_neg (by omega), hi, hpl]
    have := nearest_mag false hr
    rw [hmr] at this
    rw [this]; rfl
  · have hmr : mag r = (4503599627370496 + r % 4503599627370496) * 2 ^ (r / 4503599627370496 - 1) := if_neg h1
    have hF : r % 4503599627370496 < 4503599627370496 := Nat.mod_lt _ (by decide)
    have hE : r / 4503599627370496 - 1 ≤ 2045 := by omega
    obtain ⟨E, hEe⟩ : ∃ E, r / 4503599627370496 - 1 = E := ⟨_, rfl⟩
    obtain ⟨F, hFe⟩ : ∃ F, r % 4503599627370496 = F := ⟨_, rfl⟩
    rw [hEe, hFe] at hmr
    rw [hmr] at h
    have hrw : r = (E + 1) * 4503599627370496 + F := by omega
    have h' : a * 2 ^ K = (4503599627370496 + F) * 2 ^ ((K : Int) + ((E : Int) - 1074)).toNat * d := by
      rw [show ((K : Int) + ((E : Int) - 1074)).toNat = E by omega]; exact h
    have hlt : lt2 a d ((E : Int) - 1074 + (53 : Nat)) := (lt2_of hd K (by omega) h' 53 (by omega)).2 (by show 4503599627370496 + F < 9007199254740992; omega)
    have hge : ¬ lt2 a d ((E : Int) - 1074 + (52 : Nat)) := fun g => by
      have := (lt2_of hd K (by omega) h' 52 (by omega)).1 g
      have : 4503599627370496 + F < 4503599627370496 := this
      omega
    have ht : topF a d = (E : Int) - 1074 + (52 : Nat) := topF_unique ha hd hge (by rw [show (E : Int) - 1074 + (52 : Nat) + 1 = (E : Int) - 1074 + (53 : Nat) by omega]; exact hlt)
    have hpl : placeF a d = (E : Int) - 1074 := by unfold placeF; omega
    have hi := intF_exact hd K (by omega) h' hpl
    have hn := topN_near a d
    unfold nearF
    rw [if_neg (by omega), if_neg (by omega), hi, hpl, nearest_norm false (by omega) (by omega) (by omega), word_eq]
    simp only [Bool.false_eq_true, if_false]
    rw [show ((E : Int) - 1074 + 1075).toNat = E + 1 by omega, hrw]

/-- A float comes back. -/
theorem q_cross (z : Int) {d : Nat} (hd : 0 < d) : qnum z d * (d : Int) = z * (qden z d : Int) ∧ 0 < qden z d := by
  have hg : 0 < Nat.gcd z.natAbs d := Nat.gcd_pos_of_pos_right _ hd
  rw [qnum_pos (by omega), qden_pos (by omega)]
  obtain ⟨k, hk⟩ := Nat.gcd_dvd_right z.natAbs d
  have h1 : ((Nat.gcd z.natAbs d : Nat) : Int) ∣ z := Int.ofNat_dvd_left.2 (Nat.gcd_dvd_left _ _)
  obtain ⟨y, hy⟩ := h1
  generalize Nat.gcd z.natAbs d = g at *
  have e1 : z / (g : Int) = y := by rw [hy]; exact Int.mul_ediv_cancel_left y (by omega)
  have e2 : d / g = k := by rw [hk]; exact Nat.mul_div_cancel_left k hg
  rw [e1, e2]
  refine ⟨?_, ?_⟩
  · rw [hk, hy, Int.natCast_mul]
    generalize (g : Int) = G
    generalize (k : Int) = L
    ac_rfl
  · rcases Nat.eq_zero_or_pos k with h | h
    · rw [h, Nat.mul_zero] at hk; omega
    · exact h
theorem back {b : Nat} (hb : b < 18446744073709551616) (h : rung b < 9218868437227405312) (h0 : 0 < rung b) : toF (zneg (fnumer b)) (val (zlim (fnumer b))) (val (limbs (fdenom b))) = b := by
  have hc := q_cross (smag b) units_pos
  have hm : 0 < mag (rung b) := by have := mag_lt h0; rw [mag_zero] at this; exact this
  change fnumer b * (units : Int) = smag b * (fdenom b : Int) ∧ 0 < fdenom b at hc
  rw [val_zlim, val_limbs]
  have hnat : (fnumer b).natAbs * units = mag (rung b) * fdenom b := by
    have := congrArg Int.natAbs hc.1
    rw [Int.natAbs_mul, Int.natAbs_mul, Int.natAbs_natCast, Int.natAbs_natCast] at this
    rw [this]
    unfold smag
    cases fneg b <;> simp
  have hsg : zneg (fnumer b) = fneg b := by
    have hu : (0 : Int) < units := by have := units_pos; omega
    have hd : (0 : Int) < fdenom b := by have := hc.2; omega
    have h1 := hc.1
    unfold smag at h1
    unfold zneg
    cases hs : fneg b
    · rw [hs] at h1
      simp only [Bool.false_eq_true, if_false] at h1
      refine decide_eq_false ?_
      intro hn
      have h2 : fnumer b * (units : Int) < 0 := Int.mul_neg_of_neg_of_pos hn hu
      have h3 : (0 : Int) ≤ (mag (rung b) : Int) * (fdenom b : Int) := Int.mul_nonneg (by omega) (by omega)
      omega
    · rw [hs] at h1
      simp only [if_true] at h1
      refine decide_eq_true ?_
      rcases Int.lt_or_le (fnumer b) 0 with g | g
      · exact g
      · have h2 : 0 ≤ fnumer b * (units : Int) := Int.mul_nonneg g (by omega)
        have h3 : (0 : Int) < (mag (rung b) : Int) * (fdenom b : Int) := Int.mul_pos (by omega) hd
        rw [Int.neg_mul] at h1
        omega
  have hne : ¬ (fdenom b = 0 ∨ (fnumer b).natAbs = 0) := by
    rintro (g | g)
    · have := hc.2; omega
    · rw [g, Nat.zero_mul] at hnat
      have := Nat.mul_pos hm hc.2
      omega
  unfold toF
  rw [if_neg hne, near_exact hc.2 h0 h hnat, hsg]
  exact word_self hb
end Go.Proofs.YtjnbonellgpjnaaGreat

set_option linter.unusedVariables false
set_option linter.unusedSimpArgs false
namespace Go.Proofs.YtjnbonellgpjnaaGreat
open Go.RowKit

theorem mag_bound {r m : Nat} (h : r < 9218868437227405312) (hm : 66 ≤ m) : mag r < 4294967296 ^ m := by
  obtain ⟨n, hn⟩ : ∃ n : Nat, n = 2045 := ⟨_, rfl⟩
  have h1 : mag r < 9007199254740992 * 2 ^ n := by
    unfold mag
    split
    · have : 0 < 2 ^ n := Nat.two_pow_pos _
      generalize 2 ^ n = p at *
      calc r < 9007199254740992 := by omega
        _ = 9007199254740992 * 1 := by omega
        _ ≤ 9007199254740992 * p := Nat.mul_le_mul_left _ this
    · have h2 : (4503599627370496 + r % 4503599627370496) < 9007199254740992 := by omega
      have h3 : (2 : Nat) ^ (r / 4503599627370496 - 1) ≤ 2 ^ n := Nat.pow_le_pow_right (by decide) (by omega)
      exact Nat.mul_lt_mul_of_lt_of_le h2 h3 (Nat.two_pow_pos _)
  refine Nat.lt_of_lt_of_le h1 ?_
  rw [pow_limbs', show (9007199254740992 : Nat) = 2 ^ 53 from rfl, ← Nat.pow_add]
  exact Nat.pow_le_pow_right (by decide) (by omega)
theorem smag_abs (b : Nat) : (smag b).natAbs = mag (rung b) := by unfold smag; cases fneg b <;> simp
theorem qnum_le (z : Int) (d : Nat) : (qnum z d).natAbs ≤ z.natAbs := by
  unfold qnum
  split
  · simp
  · have h1 : ((Nat.gcd z.natAbs d : Nat) : Int) ∣ z := Int.ofNat_dvd_left.2 (Nat.gcd_dvd_left _ _)
    rw [Int.natAbs_ediv_of_dvd h1]
    exact Nat.div_le_self _ _
theorem qden_le (z : Int) {d : Nat} (h : 0 < d) : qden z d ≤ d := by
  unfold qden
  rw [if_neg (by omega)]
  exact Nat.div_le_self _ _
theorem from_len {b : Nat} (h : rung b < 9218868437227405312) : (zlim (fnumer b)).length ≤ 66 ∧ (limbs (fdenom b)).length ≤ 34 := by
  constructor
  · refine limbs_length_le ?_
    refine Nat.lt_of_le_of_lt (qnum_le _ _) ?_
    rw [smag_abs]
    exact mag_bound h (Nat.le_refl _)
  · refine limbs_length_le ?_
    refine Nat.lt_of_le_of_lt (qden_le _ units_pos) ?_
    obtain ⟨K, hK, hu⟩ := units_eq
    have h34 : K < 32 * 34 := by omega
    generalize 34 = m at *
    rw [hu, pow_limbs']
    exact Nat.pow_lt_pow_right (by decide) h34
theorem from_zero_parts {b : Nat} (h : rung b = 0) : fnumer b = 0 ∧ fdenom b = 1 := by
  have e : smag b = 0 := by unfold smag; rw [h, mag_zero]; simp
  unfold fnumer fdenom
  rw [e]
  constructor
  · unfold qnum; split <;> simp
  · unfold qden
    rw [if_neg (by have := units_pos; omega)]
    simp
    exact Nat.div_self units_pos
end Go.Proofs.YtjnbonellgpjnaaGreat

set_option linter.unusedVariables false
set_option linter.unusedSimpArgs false
namespace Go.Proofs.YtjnbonellgpjnaaGreat
open Go.RowKit

theorem two_word : 4611686018427387904 = 1023 * 4503599627370496 + 4503599627370496 := by decide
theorem two_read : Ieee.double.read 4611686018427387904 = .number false 4503599627370496 (-51) := by decide +kernel
/-- Half of a float, rounded. -/
theorem div_two {b : Nat} (h : b < 9218868437227405312) : Ieee.double.div b 4611686018427387904 = some (Ieee.double.nearest false (mag b) (-1075)) := by
  have hr : rung b = b := rung_self (by omega)
  obtain ⟨m, i, e1, e2⟩ := read_fin (b := b) (by rw [hr]; exact h)
  rw [hr] at e2
  rw [fneg_low (by omega)] at e1
  unfold Ieee.Format.div
  rw [e1, two_read]
  by_cases hm : m = 0
  · subst hm
    rw [Nat.zero_mul] at e2
    rw [← e2]
    unfold Ieee.Datum.quotient
    dsimp only
    rw [if_neg (by decide)]
    simp [Ieee.Format.write, Ieee.Format.nearest]
  · have hl : m.log2 ≤ 1000 ∨ True := .inr trivial
    unfold Ieee.Datum.quotient
    dsimp only
    rw [if_neg (by decide)]
    have hlog : (4503599627370496 : Nat).log2 = 52 := by decide
    have hfb : Ieee.double.fractionBits + 2 = 54 := by decide
    rw [hlog, hfb]
    obtain ⟨k, hk⟩ : ∃ k, 54 + 52 - m.log2 = k := ⟨_, rfl⟩
    rw [hk]
    by_cases hb : m.log2 ≤ 52
    · have e3 : m <<< k = m * 2 ^ (k - 52) * 4503599627370496 := by
        rw [Nat.shiftLeft_eq, Nat.mul_assoc, show (4503599627370496 : Nat) = 2 ^ 52 from rfl, ← Nat.pow_add]
        refine congrArg (fun n => m * 2 ^ n) ?_
        omega
      rw [e3, Nat.mul_div_cancel _ (by decide), Nat.mul_mod_left]
      have e4 : (2 * (m * 2 ^ (k - 52)) + ((0 : Nat) != 0).toNat) = m * 2 ^ (k - 51) := by
        rw [show k - 51 = (k - 52) + 1 by omega, Nat.pow_succ]
        simp
        rw [Nat.mul_comm 2, Nat.mul_assoc]
      rw [e4]
      refine congrArg some ?_
      have h1 := nearest_scale false m ((i : Int) - 1075) (k - 51)
      have h2 := nearest_scale false m ((i : Int) - 1075) i
      rw [e2, show (i : Int) - 1075 - (i : Int) = -1075 by omega] at h2
      rw [show ((i : Int) - 1074 - -51 - (k : Int) - 1) = (i : Int) - 1075 - ((k - 51 : Nat) : Int) by omega]
      exact h1.trans h2.symm
    · exfalso
      -- a word's whole number has 53 digits at most
      have hlt : m < 9007199254740992 := by
        have e5 := e1
        unfold Ieee.Format.read at e5
        rw [signWeight_d, binade_d, infRung_d, least_d] at e5
        dsimp only at e5
        split at e5
        · simp only [Ieee.Datum.number.injEq] at e5; omega
        · split at e5
          · simp only [Ieee.Datum.number.injEq] at e5
            have := Nat.mod_lt (b % 9223372036854775808) (show 0 < 4503599627370496 by decide)
            omega
          · split at e5 <;> cases e5
      have : m.log2 < 53 := (Nat.log2_lt hm).2 hlt
      omega
/-- Twice a float, rounded. -/
theorem mul_two {b : Nat} (h : b < 9218868437227405312) : Ieee.double.mul b 4611686018427387904 = some (Ieee.double.nearest false (mag b) (-1073)) := by
  have hr : rung b = b := rung_self (by omega)
  have h2 := product_fin (x := b) (y := 4611686018427387904) (by rw [hr]; exact h) (by decide)
  obtain ⟨c, hc, my⟩ : ∃ c : Nat, c = 1023 ∧ mag 4611686018427387904 = 4503599627370496 * 2 ^ c := ⟨1023, rfl, by rw [two_word]; exact mag_pow 1023⟩
  rw [hr, show rung 4611686018427387904 = 4611686018427387904 by decide, fneg_low (b := b) (by omega), show fneg 4611686018427387904 = false by decide, my] at h2
  rw [h2]
  refine congrArg some ?_
  have h3 := nearest_scale false (mag b) (-1073) (52 + c)
  rw [Nat.pow_add, show (2 : Nat) ^ 52 = 4503599627370496 from rfl, show ((-1073 : Int) - ((52 + c : Nat) : Int)) = -2148 by omega] at h3
  exact h3
/-- The float of a whole half. -/
theorem half_is {b r : Nat} (h : b < 9218868437227405312) (hr : r < 9218868437227405312) (e : mag b = mag r * 2) : Ieee.double.div b 4611686018427387904 = some r := by
  rw [div_two h, e]
  have h1 := nearest_scale false (mag r) (-1074) 1
  rw [Nat.pow_one, show ((-1074 : Int) - ((1 : Nat) : Int)) = -1075 by decide, nearest_mag false hr, word_eq] at h1
  rw [h1]; rfl
theorem double_is {b r : Nat} (h : b < 9218868437227405312) (hr : r < 9218868437227405312) (e : mag b * 2 = mag r) : Ieee.double.mul b 4611686018427387904 = some r := by
  rw [mul_two h]
  have h1 := nearest_scale false (mag b) (-1073) 1
  rw [Nat.pow_one, show ((-1073 : Int) - ((1 : Nat) : Int)) = -1074 by decide, e, nearest_mag false hr, word_eq] at h1
  rw [← h1]; rfl

theorem cut_zero (n drop : Nat) : Ieee.Toward.zero.cut false n drop = n / 2 ^ drop := by
  unfold Ieee.Toward.cut
  dsimp only
  rw [Nat.shiftLeft_eq, Nat.one_mul]
  simp only [Bool.toNat_false, Nat.add_zero]
  by_cases h : drop ≤ n.log2 + 2
  · rw [Nat.min_eq_left h]
  · rw [Nat.min_eq_right (by omega)]
    have h1 : n < 2 ^ (n.log2 + 2) := Nat.lt_of_lt_of_le Nat.lt_log2_self (Nat.pow_le_pow_right (by decide) (by omega))
    have h2 : n < 2 ^ drop := Nat.lt_of_lt_of_le h1 (Nat.pow_le_pow_right (by decide) (by omega))
    rw [Nat.div_eq_of_lt h1, Nat.div_eq_of_lt h2]
/-- A float cut to a whole number. -/
theorem to_floor {b : Nat} (h : b < 9218868437227405312) {k : IntKind} (hk : k = .u64 ∨ k = .i64) (hq : mag b / units < 9223372036854775808) : floatToIntVal .f64 b k = some ((mag b / units : Nat) : Int) := by
  have hr : rung b = b := rung_self (by omega)
  obtain ⟨m, i, e1, e2⟩ := read_fin (b := b) (by rw [hr]; exact h)
  rw [hr] at e2
  rw [fneg_low (by omega)] at e1
  obtain ⟨K, hK, hu⟩ := units_eq
  unfold floatToIntVal FloatKind.decode
  rw [show FloatKind.f64.format = Ieee.double from rfl, e1]
  unfold Ieee.Datum.toInt Ieee.Datum.integral
  dsimp only
  rw [cut_zero, Nat.shiftLeft_eq]
  have e3 : m * 2 ^ ((i : Int) - 1074).toNat / 2 ^ (-((i : Int) - 1074)).toNat = mag b / units := by
    rw [← e2, hu]
    by_cases hi : 1074 ≤ i
    · rw [show (-((i : Int) - 1074)).toNat = 0 by omega, Nat.pow_zero, Nat.div_one]
      rw [show i = ((i : Int) - 1074).toNat + K by omega, Nat.pow_add, ← Nat.mul_assoc, Nat.mul_div_cancel _ (Nat.two_pow_pos K)]
      refine congrArg (fun n => m * 2 ^ n) ?_
      omega
    · rw [show ((i : Int) - 1074).toNat = 0 by omega, Nat.pow_zero, Nat.mul_one]
      have e4 : K = (-((i : Int) - 1074)).toNat + i := by omega
      rw [e4, Nat.pow_add, Nat.mul_div_mul_right _ _ (Nat.two_pow_pos i)]
  rw [e3]
  generalize mag b / units = q at *
  dsimp only [Ieee.signed]
  rcases hk with rfl | rfl
  · simp [IntKind.min, IntKind.max, IntKind.signed, IntKind.bits]; omega
  · simp [IntKind.min, IntKind.max, IntKind.signed, IntKind.bits]; omega
end Go.Proofs.YtjnbonellgpjnaaGreat

set_option linter.unusedVariables false
set_option linter.unusedSimpArgs false
namespace Go.Proofs.YtjnbonellgpjnaaGreat
open Go.RowKit

/-- Twice a rung's number. -/
def fdbl (r : Nat) : Nat := if r < 4503599627370496 then 2 * r else r + 4503599627370496
theorem mag_step {r : Nat} (h : 4503599627370496 ≤ r) : mag (r + 4503599627370496) = mag r * 2 := by
  unfold mag
  rw [if_neg (by omega), if_neg (by omega), show (r + 4503599627370496) % 4503599627370496 = r % 4503599627370496 by omega, show (r + 4503599627370496) / 4503599627370496 - 1 = (r / 4503599627370496 - 1) + 1 by omega, Nat.pow_succ, Nat.mul_assoc]
theorem mag_fdbl (r : Nat) : mag (fdbl r) = mag r * 2 := by
  unfold fdbl
  by_cases h : r < 4503599627370496
  · rw [if_pos h]
    by_cases h2 : 2 * r < 4503599627370496
    · rw [show mag (2 * r) = 2 * r from if_pos h2, show mag r = r from if_pos h]; omega
    · rw [show mag r = r from if_pos h]
      unfold mag
      rw [if_neg h2, show 2 * r / 4503599627370496 - 1 = 0 by omega, show 2 * r % 4503599627370496 = 2 * r - 4503599627370496 by omega, Nat.pow_zero]
      omega
  · rw [if_neg h]; exact mag_step (by omega)
theorem fdbl_lt {r : Nat} (h : r < 4841369599423283200) : fdbl r < 4845873199050653696 := by unfold fdbl; split <;> omega
/-- From 2^52 on floats are whole. -/
theorem whole_big {r : Nat} (h : 4841369599423283200 ≤ r) : mag r % units = 0 := by
  obtain ⟨K, hK, hu⟩ := units_eq
  unfold mag
  rw [if_neg (by omega), hu, show r / 4503599627370496 - 1 = (r / 4503599627370496 - 1 - K) + K by omega, Nat.pow_add, ← Nat.mul_assoc]
  exact Nat.mul_mod_left _ _
theorem int_small {r : Nat} (h : r < 4845873199050653696) : mag r / units < 9007199254740992 := by
  obtain ⟨K, hK, hu⟩ := units_eq
  have h1 := mag_lt h
  have h2 : mag 4845873199050653696 = 4503599627370496 * 2 ^ (K + 1) := by
    have e : (4845873199050653696 : Nat) = (K + 1) * 4503599627370496 + 4503599627370496 := by omega
    rw [e]; exact mag_pow (K + 1)
  rw [h2, Nat.pow_succ] at h1
  rw [hu]
  refine Nat.div_lt_of_lt_mul ?_
  rw [Nat.mul_comm (2 ^ K)]
  omega
theorem whole_shift {m j K : Nat} (hK : units = 2 ^ K) (h : K ≤ j) : m * 2 ^ j % units = 0 := by
  rw [hK, show j = (j - K) + K by omega, Nat.pow_add, ← Nat.mul_assoc]
  exact Nat.mul_mod_left _ _
/-- The word of a whole number: its number. -/
theorem int_exp {I E F W : Nat} (h0 : 0 < I) (h1 : I < 9007199254740992) (hn : Norm W E F) (hW : Ieee.double.nearest false I 0 = W) : (4503599627370496 + F) * 2 ^ E = I * units := by
  obtain ⟨K, hK, hu⟩ := units_eq
  have hl := (Nat.log2_eq_iff (n := I) (k := I.log2) (by omega)).1 rfl
  have hk : I.log2 ≤ 52 := by
    have : I.log2 < 53 := (Nat.log2_lt (by omega)).2 (by show I < 9007199254740992; omega)
    omega
  generalize I.log2 = k at *
  have e1 : (2 : Nat) ^ k * 2 ^ (52 - k) = 4503599627370496 := by rw [← Nat.pow_add, show k + (52 - k) = 52 by omega]
  have lo : 4503599627370496 ≤ I * 2 ^ (52 - k) := by rw [← e1]; exact Nat.mul_le_mul_right _ hl.1
  have hi : I * 2 ^ (52 - k) < 9007199254740992 := by
    have : I * 2 ^ (52 - k) < 2 ^ (k + 1) * 2 ^ (52 - k) := Nat.mul_lt_mul_of_pos_right hl.2 (Nat.two_pow_pos _)
    rw [Nat.pow_succ, Nat.mul_right_comm, e1] at this
    omega
  obtain ⟨G, hG⟩ : ∃ G, I * 2 ^ (52 - k) = 4503599627370496 + G := ⟨I * 2 ^ (52 - k) - 4503599627370496, by omega⟩
  have h2 := nearest_scale false I 0 (52 - k)
  rw [hG, hW, nearest_norm false (by omega) (by omega) (by omega), word_eq] at h2
  simp only [Bool.false_eq_true, if_false] at h2
  rw [show ((0 : Int) - ((52 - k : Nat) : Int) + 1075).toNat = k + 1023 by omega, hn.word] at h2
  have hF := hn.frac
  have h3 : E = k + 1022 ∧ F = G := by omega
  rw [h3.1, h3.2, ← hG, hu, Nat.mul_assoc, ← Nat.pow_add]
  refine congrArg (fun n => I * 2 ^ n) ?_
  omega
/-- A float against what it is cut to. -/
theorem whole_test {R : Nat} (h : R < 4845873199050653696) : (FloatKind.f64.format.order R (Ieee.double.nearest false (mag R / units) 0) != some .eq) = decide (mag R % units ≠ 0) := by
  obtain ⟨K, hK, hu⟩ := units_eq
  have hq := int_small h
  obtain ⟨W, hW⟩ : ∃ W, Ieee.double.nearest false (mag R / units) 0 = W := ⟨_, rfl⟩
  have hWm : W < 9218868437227405312 ∧ mag W = mag R / units * units := by
    rcases Nat.eq_zero_or_pos (mag R / units) with h0 | h0
    · rw [h0] at hW ⊢
      rw [← hW]
      exact ⟨by decide, by rw [Nat.zero_mul]; decide⟩
    · obtain ⟨E, F, hn, hk⟩ := int_norm h0 (by omega)
      rw [hW] at hn
      refine ⟨hn.lt, ?_⟩
      have h1 := hk 0
      rw [hW] at h1
      -- E is so great that nothing is lost
      rw [hn.word, mag_norm hn.frac]
      have hE := int_exp h0 (by omega) hn hW
      exact hE
  rw [hW]
  refine (order_ne R W).trans ?_
  have hRl : R < 9218868437227405312 := by omega
  unfold fnum
  rw [isNan_low hRl, isNan_low hWm.1, srung_low (by omega), srung_low (by omega)]
  simp only [Bool.not_false, Bool.and_self, Bool.true_and]
  have hdm := Nat.div_add_mod (mag R) units
  rw [Nat.mul_comm] at hdm
  by_cases hz : mag R % units = 0
  · have e : R = W := by
      rcases Nat.lt_trichotomy R W with g | g | g
      · have := mag_lt g; omega
      · exact g
      · have := mag_lt g; omega
    have e2 : (R : Int) = (W : Int) := by rw [e]
    rw [decide_eq_true e2]; simp [hz]
  · have e : ¬ R = W := by rintro rfl; omega
    have e2 : ¬ (R : Int) = (W : Int) := by omega
    simp [hz, e2]

/-- What the two loops leave tells the float's fraction. -/
theorem from_loops {b I K j : Nat} {s : Bool} (hs : s = fneg b) (hj : j ≤ 1074) (hK : K ≤ 1000) (h : mag (rung b) * 2 ^ j = I * units * 2 ^ K) {l d : List Nat} (hl : val l = I * 2 ^ ((K : Int) - j).toNat) (hd : val d = 1 * 2 ^ (-((K : Int) - j)).toNat) :
    qnum (zval s l) (val d) = fnumer b ∧ qden (zval s l) (val d) = fdenom b := by
  obtain ⟨U, hU, hu⟩ := units_eq
  refine from_parts (x := (K : Int) - j + 53) (I := I) hs (by omega) ?_ (by rw [hl]; refine congrArg (fun n => I * 2 ^ n) ?_; omega) (by rw [hd]; refine congrArg (fun n => 1 * 2 ^ n) ?_; omega)
  refine Nat.eq_of_mul_eq_mul_right (Nat.two_pow_pos j) ?_
  rw [Nat.mul_right_comm, h, hu, show (4503599627370496 : Nat) = 2 ^ 52 from rfl, Nat.mul_assoc I, Nat.mul_assoc I, Nat.mul_assoc I, ← Nat.pow_add, ← Nat.pow_add, ← Nat.pow_add]
  refine congrArg (fun n => I * 2 ^ n) ?_
  omega
end Go.Proofs.YtjnbonellgpjnaaGreat

set_option linter.unusedVariables false
set_option linter.unusedSimpArgs false
namespace Go.Proofs.YtjnbonellgpjnaaGreat
open Go.RowKit

set_option maxRecDepth 100000 in
set_option maxHeartbeats 2000000 in
theorem ref_MakeQ {a b : Value} {z : Int} {d : Nat} {w : World} (ha : IsZ w a z) (hb : IsZ w b (d : Int)) (hd : 0 < d) (hl : (zlim z).length ≤ 100000) (hm : (zlim (d : Int)).length ≤ 100000) :
    Calls Tryz.prog 75 #[a, b] w fun e w' => FromIs w (qnum z d) (qden z d) e w' := by
  obtain ⟨aa, ca, rfl⟩ := ha.form
  obtain ⟨ab, cb, rfl⟩ := hb.form
  have hv : val (zlim (d : Int)) = d := by rw [val_zlim]; simp
  have hnb : zneg (d : Int) = false := decide_eq_false (by omega)
  have hsd : sgnI (zval (zneg (d : Int)) (zlim (d : Int))) = 1 := by rw [zval_plain]; unfold sgnI; rw [if_neg (by omega), if_neg (by omega)]
  obtain ⟨w0, hw0⟩ : ∃ x, x = ((w.alloc (.cells #[.bool (zneg z), .slice aa (zlim z).length ca] 24)).alloc (.cells #[.bool (zneg (d : Int)), .slice ab (zlim (d : Int)).length cb] 24)).alloc (.cells #[.bool false, .slice none 0 0, .slice none 0 0] 26) := ⟨_, rfl⟩
  have hb0 : Below w.heap.size w w0 := by rw [hw0]; exact (((Below.refl _ w).alloc (Nat.le_refl _) _).alloc (by simp) _).alloc (by simp; omega) _
  have hx0 : Blk w0 w.heap.size #[.bool (zneg z), .slice aa (zlim z).length ca] := by rw [hw0]; exact ((Blk.new w _ _).alloc _).alloc _
  have hy0 : Blk w0 (w.heap.size + 1) #[.bool (zneg (d : Int)), .slice ab (zlim (d : Int)).length cb] := by
    rw [hw0]
    have := (Blk.new (w.alloc (.cells #[.bool (zneg z), .slice aa (zlim z).length ca] 24)) #[.bool (zneg (d : Int)), .slice ab (zlim (d : Int)).length cb] 24).alloc (.cells #[.bool false, .slice none 0 0, .slice none 0 0] 26)
    rwa [Deep.nblk_alloc] at this
  have hr0 : Blk w0 (w.heap.size + 2) #[.bool false, .slice none 0 0, .slice none 0 0] := by
    rw [hw0]
    have := Blk.new ((w.alloc (.cells #[.bool (zneg z), .slice aa (zlim z).length ca] 24)).alloc (.cells #[.bool (zneg (d : Int)), .slice ab (zlim (d : Int)).length cb] 24)) #[.bool false, .slice none 0 0, .slice none 0 0] 26
    rwa [Deep.nblk_alloc, Deep.nblk_alloc] at this
  have HA := hid (ha.below hb0); have HB := hid (hb.below hb0)
  have HB0 := hid hb0; have HX0 := hid hx0; have HY0 := hid hy0; have HR0 := hid hr0; have HW := hid hw0.symm
  obtain ⟨p, hp⟩ : ∃ g, g = w.heap.size := ⟨_, rfl⟩
  obtain ⟨q, hq⟩ : ∃ r, r = w.heap.size + 1 := ⟨_, rfl⟩
  obtain ⟨g, hg⟩ : ∃ r, r = w.heap.size + 2 := ⟨_, rfl⟩
  rw [← hg] at HR0; rw [← hq] at HY0; rw [← hp] at HX0
  have HL : Hid (w.heap.size ≤ g) := hid (by omega)
  have HG := hid hg.symm; have HQ := hid hq.symm; have HP := hid hp.symm
  have HSG := hid (ref_sign (w := w0) HB.out.sees (by omega))
  rw [hsd] at HSG
  have HC := hid (fun w (ha : IsZ w (.agg #[.bool (zneg z), .slice aa (zlim z).length ca]) z) (hb : IsZ w (.agg #[.bool (zneg (d : Int)), .slice ab (zlim (d : Int)).length cb]) (d : Int)) => by
    obtain ⟨m, e, hm2⟩ := hb
    simp only [Value.agg.injEq, Array.mk.injEq, List.cons.injEq, and_true, true_and] at e
    subst e
    have := ref_over (w := w) ha.sees hm2 hl hm (by omega)
    rw [zval_plain, hv] at this
    exact this)
  rw [hnb] at HY0 HB HC HSG
  have HNB := hid hnb
  rw [hnb] at HW
  clear hb0 hx0 hy0 hr0 hw0 hg hq hp hv hsd ha hb hnb
  obtain ⟨Z, hZ⟩ : ∃ Z, qnum z d = Z := ⟨_, rfl⟩
  obtain ⟨D, hD⟩ : ∃ D, qden z d = D := ⟨_, rfl⟩
  rw [hZ, hD] at HC ⊢
  rw [HNB.out]
  clear hZ hD
  obtain ⟨c0, c1, f0, f1⟩ := HX0.out.open2
  obtain ⟨d0, d1, g0, g1⟩ := HY0.out.open2
  generalize zneg z = nb at *
  generalize hlz : zlim z = lb at *
  generalize hlm : zlim (d : Int) = lm at *
  clear hlz hlm
  go_enter Tryz.func75, Tryz.ntmps75
  go_wp2_with fail
  rw [HW.out, HG.out, HQ.out, HP.out]
  refine HSG.out.mono ?_
  rintro e w1 ⟨rfl, hb⟩
  have HB1 := hid (HB0.out.trans (hb.mono HB0.out.size)); have HX1 := hid (HX0.out.below hb); have HY1 := hid (HY0.out.below hb); have HR1 := hid (HR0.out.below hb)
  have HA1 := hid (HA.out.below hb); have HBB1 := hid (HB.out.below hb)
  clear hb c0 c1 f0 f1 d0 d1 g0 g1 HB0 HX0 HY0 HR0 HA HB HW HSG
  obtain ⟨c0, c1, f0, f1⟩ := HX1.out.open2
  obtain ⟨d0, d1, g0, g1⟩ := HY1.out.open2
  go_wp2_with fail
  refine (HC.out _ HA1.out HBB1.out).mono ?_
  rintro e w2 ⟨v2, rfl, hq, hb⟩
  have HB2 := hid (HB1.out.trans (hb.mono HB1.out.size)); have HX2 := hid (HR1.out.below hb)
  obtain ⟨po, pc, qo, qc, rfl⟩ := hq.form
  obtain ⟨w7, hw7, hq7, hb7, k0, k1, k2⟩ := store3 HB2.out HL.out HX2.out hq
  have HQ7 := hid hq7; have HB7 := hid hb7; have HW7 := hid hw7
  clear c0 c1 f0 f1 d0 d1 g0 g1
  obtain ⟨c0, c1, c2, f0, f1, f2⟩ := HX2.out.open3
  have hlt := HX2.out.lt
  clear hw7 hq7 hb7 hq hb HB1 HX1 HY1 HR1 HB2 HC HA1 HBB1
  generalize zneg Z = nz at *
  generalize zlim Z = lz at *
  generalize limbs D = ld at *
  go_wp2
  rw [HW7.out]
  exact bodyPost_ret (v := .tuple #[.agg #[.bool nz, .slice po lz.length pc, .slice qo ld.length qc], .int .i64 0]) (by simp [results, Tryz.results75, go_sem, k0, k1, k2]) rfl ⟨_, rfl, HQ7.out, HB7.out⟩
end Go.Proofs.YtjnbonellgpjnaaGreat

set_option linter.unusedVariables false
set_option linter.unusedSimpArgs false
namespace Go.Proofs.YtjnbonellgpjnaaGreat
open Go.RowKit

theorem neg_word {b : Nat} (hb : b < 18446744073709551616) (h : fneg b = true) : Op.negFloat .f64 b = rung b := by
  have h2 := word_self hb
  rw [h] at h2
  unfold Op.negFloat
  have h3 := rung_lt b
  have h4 : b = 2 ^ 63 + rung b := h2.symm
  show b ^^^ 2 ^ 63 = rung b
  have h5 := Nat.two_pow_add_eq_or_of_lt (show rung b < 2 ^ 63 from h3) 1
  rw [Nat.mul_one] at h5
  replace h5 : b = 2 ^ 63 ||| rung b := h4.trans h5
  apply Nat.eq_of_testBit_eq
  intro i
  rw [Nat.testBit_xor]
  conv => lhs; rw [h5]
  rw [Nat.testBit_or, Nat.testBit_two_pow]
  by_cases hi : 63 = i
  · subst hi
    rw [Nat.testBit_lt_two_pow h3]; simp
  · simp [hi]
theorem geq_big {r : Nat} (h : r < 9218868437227405312) : (FloatKind.f64.format.order r 4845873199050653696 == some .gt || FloatKind.f64.format.order r 4845873199050653696 == some .eq) = decide (4845873199050653696 ≤ r) := by
  rw [show (FloatKind.f64.format.order r 4845873199050653696 == some .gt) = _ from order_gt r 4845873199050653696, show (FloatKind.f64.format.order r 4845873199050653696 == some .eq) = _ from order_eq r 4845873199050653696]
  unfold fnum
  rw [isNan_low h, show isNan 4845873199050653696 = false by decide, srung_low (b := r) (by omega), show srung 4845873199050653696 = 4845873199050653696 by decide]
  simp only [Bool.not_false, Bool.and_self, Bool.true_and]
  by_cases h2 : 4845873199050653696 ≤ r
  · rw [decide_eq_true h2]
    by_cases h3 : (4845873199050653696 : Int) < (r : Int)
    · simp [h3]
    · have : (r : Int) = 4845873199050653696 := by omega
      simp [this]
  · have h3 : ¬ (4845873199050653696 : Int) < (r : Int) := by omega
    have h4 : ¬ (r : Int) = 4845873199050653696 := by omega
    rw [decide_eq_false h2]
    simp [h3, h4]

/-- Halved so often. -/
theorem mag_chain {r r1 K : Nat} (h1 : K * 4503599627370496 ≤ r) (h2 : r - K * 4503599627370496 = r1) (h3 : K = 0 ∨ 4503599627370496 ≤ r1) : mag r = mag r1 * 2 ^ K := by
  rcases h3 with h3 | h3
  · subst h3; simp at h2; subst h2; simp
  · have key : ∀ k, mag (r1 + k * 4503599627370496) = mag r1 * 2 ^ k := by
      intro k
      induction k with
      | zero => simp
      | succ n ih =>
        rw [show r1 + (n + 1) * 4503599627370496 = (r1 + n * 4503599627370496) + 4503599627370496 by omega, mag_step (by omega), ih, Nat.pow_succ, Nat.mul_assoc]
    rw [← key K]
    congr 1
    omega
theorem len_num {I K : Nat} (h : I < 9007199254740992) (hK : K ≤ 1000) (j : Nat) : (limbs (I * 2 ^ ((K : Int) - j).toNat)).length ≤ 100 := by
  have h1 : I < 4294967296 ^ 2 := by show I < 18446744073709551616; omega
  have h2 : (2 : Nat) ^ ((K : Int) - j).toNat ≤ 4294967296 ^ 40 := pow_le_limbs (by omega)
  have h3 := limbs_length_le (n := I * 2 ^ ((K : Int) - j).toNat) (k := 2 + 40) (by rw [Nat.pow_add]; exact Nat.mul_lt_mul_of_lt_of_le h1 h2 (Nat.pow_pos (by decide)))
  omega
theorem len_den {j : Nat} (K : Nat) (hj : j ≤ 1074) : (limbs (1 * 2 ^ (-((K : Int) - j)).toNat)).length ≤ 100 := by
  have h2 : (2 : Nat) ^ (-((K : Int) - j)).toNat ≤ 4294967296 ^ 40 := pow_le_limbs (by omega)
  have h3 := limbs_length_le (n := 1 * 2 ^ (-((K : Int) - j)).toNat) (k := 1 + 40) (by rw [Nat.pow_add]; exact Nat.mul_lt_mul_of_lt_of_le (by decide) h2 (Nat.pow_pos (by decide)))
  omega

theorem box3_mk {a w : World} (hB : Below a.heap.size a w) (x y z : Value) : ∃ w' g, w' = w.alloc (.cells #[x, y, z] 26) ∧ g = w.heap.size ∧ Below w.heap.size w w' ∧ Below a.heap.size a w' ∧ Blk w' g #[x, y, z] := by
  have hb : Below w.heap.size w (w.alloc (.cells #[x, y, z] 26)) := (Below.refl _ w).alloc (Nat.le_refl _) _
  exact ⟨_, _, rfl, rfl, hb, hB.trans (hb.mono hB.size), Blk.new ..⟩
/-- The word of exponent field e and fraction F. -/
def wrd (e F : Nat) : Nat := e * 4503599627370496 + F
theorem wrd_lt {e F : Nat} (hF : F < 4503599627370496) (he : e ≤ 2046) : wrd e F < 9218868437227405312 := by
  unfold wrd
  have h1 : e * 4503599627370496 ≤ 9214364837600034816 := Nat.mul_le_mul_right 4503599627370496 he
  generalize e * 4503599627370496 = p at *
  omega
theorem wrd_big {e F : Nat} (he : 1076 ≤ e) : 4845873199050653696 ≤ wrd e F := by
  unfold wrd
  have h1 : 4845873199050653696 ≤ e * 4503599627370496 := Nat.mul_le_mul_right 4503599627370496 he
  generalize e * 4503599627370496 = p at *
  omega
theorem wrd_small {e F : Nat} (hF : F < 4503599627370496) (he : e ≤ 1075) : wrd e F < 4845873199050653696 := by
  unfold wrd
  have h1 : e * 4503599627370496 ≤ 4841369599423283200 := Nat.mul_le_mul_right 4503599627370496 he
  generalize e * 4503599627370496 = p at *
  omega
theorem wrd_step {e F : Nat} (he : 1 ≤ e) : mag (wrd (e + 1) F) = mag (wrd e F) * 2 := by
  have h1 : wrd (e + 1) F = wrd e F + 4503599627370496 := by unfold wrd; rw [Nat.succ_mul]; generalize e * 4503599627370496 = p; omega
  have h2 : 4503599627370496 ≤ wrd e F := by
    unfold wrd
    have h3 : 4503599627370496 ≤ e * 4503599627370496 := Nat.mul_le_mul_right 4503599627370496 he
    generalize e * 4503599627370496 = p at *
    omega
  rw [h1]; exact mag_step h2
theorem wrd_chain {F e : Nat} (he : 1 ≤ e) (k : Nat) : mag (wrd (e + k) F) = mag (wrd e F) * 2 ^ k := by
  induction k with
  | zero => simp
  | succ n ih => rw [← Nat.add_assoc, wrd_step (by omega), ih, Nat.pow_succ, Nat.mul_assoc]
theorem loop1_step {E F K k : Nat} (hF : F < 4503599627370496) (hE : E ≤ 2046) (hK : K = E - 1075) (hlt : k < K) (w : World) : ∃ x y n, wrd (E - k) F = x ∧ wrd (E - (k + 1)) F = y ∧ (k : Int) + 1 = n ∧ n = ((k + 1 : Nat) : Int) ∧ wrap64 n = n ∧
    (FloatKind.f64.format.order x 4845873199050653696 == some .gt || FloatKind.f64.format.order x 4845873199050653696 == some .eq) = true ∧
    (binOp .quo 30 (.float .f64 x) (.float .f64 4611686018427387904)).run Tryz.prog w = .ok (.float .f64 y) w := by
  have hx := wrd_lt (e := E - k) hF (by omega)
  have hy := wrd_lt (e := E - (k + 1)) hF (by omega)
  have h3 := wrd_step (F := F) (e := E - (k + 1)) (by omega)
  rw [show E - (k + 1) + 1 = E - k by omega] at h3
  have t1 := geq_big hx
  have hb := wrd_big (F := F) (e := E - k) (by omega)
  have hdv := run_quo 30 w (half_is hx hy h3)
  have hw : wrap64 ((k : Int) + 1) = (k : Int) + 1 := wrap_id (by omega) (by omega)
  generalize wrd (E - k) F = x at *
  generalize wrd (E - (k + 1)) F = y at *
  rw [decide_eq_true hb] at t1
  exact ⟨x, y, (k : Int) + 1, rfl, rfl, rfl, by omega, hw, t1, hdv⟩
theorem loop1_end {E F K : Nat} (hF : F < 4503599627370496) (hE : E ≤ 2046) (hK : K = E - 1075) : ∃ r1, wrd (E - K) F = r1 ∧ r1 < 4845873199050653696 ∧ mag (wrd E F) = mag r1 * 2 ^ K ∧
    (FloatKind.f64.format.order r1 4845873199050653696 == some .gt || FloatKind.f64.format.order r1 4845873199050653696 == some .eq) = false := by
  have hs := wrd_small (e := E - K) hF (by omega)
  refine ⟨_, rfl, hs, ?_, ?_⟩
  · rcases Nat.eq_zero_or_pos K with g | g
    · rw [g]; simp
    · have := wrd_chain (F := F) (e := E - K) (by omega) K
      rw [show E - K + K = E by omega] at this
      exact this
  · have hx := wrd_lt (e := E - K) hF (by omega)
    have t1 := geq_big hx
    generalize wrd (E - K) F = x at *
    rw [decide_eq_false (Nat.not_le.2 hs)] at t1
    exact t1
/-- One round of the second loop: what is asked, and what comes next. -/
theorem loop2_test {R : Nat} (hR : R < 4845873199050653696) (w : World) : ∃ I W, mag R / units = I ∧ I < 9007199254740992 ∧ floatOfInt .f64 (I : Int) = W ∧
    (convert 30 77 (.float .f64 R)).run Tryz.prog w = .ok (.int .u64 (I : Int)) w ∧ (convert 30 3 (.float .f64 R)).run Tryz.prog w = .ok (.int .i64 (I : Int)) w ∧
    (FloatKind.f64.format.order R W != some .eq) = decide (mag R % units ≠ 0) := by
  have hq := int_small hR
  refine ⟨_, _, rfl, hq, rfl, run_convert_float_int w _ _ .f64 .u64 R _ (by kernel_rfl) (by kernel_rfl) (to_floor (by omega) (.inl rfl) (by omega)), run_convert_float_int w _ _ .f64 .i64 R _ (by kernel_rfl) (by kernel_rfl) (to_floor (by omega) (.inr rfl) (by omega)), ?_⟩
  rw [float_int]
  exact whole_test hR
theorem loop2_step {R r1 j K : Nat} {n : Int} (hR : R < 4845873199050653696) (hj : j ≤ 1074) (hK : K ≤ 1000) (hn : n = (K : Int) - j) (hm : mag R = mag r1 * 2 ^ j) (hz : mag R % units ≠ 0) (w : World) : ∃ R' n', R' < 4845873199050653696 ∧ j + 1 ≤ 1074 ∧ n - 1 = n' ∧ wrap64 n' = n' ∧ n' = (K : Int) - ((j + 1 : Nat) : Int) ∧ mag R' = mag r1 * 2 ^ (j + 1) ∧
    (binOp .mul 30 (.float .f64 R) (.float .f64 4611686018427387904)).run Tryz.prog w = .ok (.float .f64 R') w := by
  have hR2 : R < 4841369599423283200 := by
    rcases Nat.lt_or_ge R 4841369599423283200 with g | g
    · exact g
    · exact absurd (whole_big g) hz
  have hj2 : j + 1 ≤ 1074 := by
    rcases Nat.lt_or_ge j 1074 with g | g
    · omega
    · obtain ⟨U, hU, hu⟩ := units_eq
      exact absurd (by rw [hm]; exact whole_shift hu (by omega)) hz
  have hl := fdbl_lt hR2
  exact ⟨fdbl R, n - 1, hl, hj2, rfl, wrap_id (by omega) (by omega), by omega, by rw [mag_fdbl, hm, Nat.pow_succ, Nat.mul_assoc], run_mul 30 w (double_is (by omega) (by omega) (mag_fdbl R).symm)⟩
theorem rel_of {r r1 R j K I : Nat} (h1 : mag r = mag r1 * 2 ^ K) (h2 : mag R = mag r1 * 2 ^ j) (h3 : mag R / units = I) (h4 : mag R % units = 0) : mag r * 2 ^ j = I * units * 2 ^ K := by
  have h := Nat.div_add_mod (mag R) units
  rw [h4, Nat.add_zero, h3, Nat.mul_comm, h2] at h
  rw [h, h1, Nat.mul_right_comm]
theorem unary_negf (b : Nat) : Op.unary .neg (.float .f64 b) = pure (.float .f64 (Op.negFloat .f64 b)) := rfl
theorem zval_limbs (s : Bool) (x : Nat) : zval s (limbs x) = if s then -(x : Int) else (x : Int) := by unfold zval; rw [val_limbs]
theorem zlim_if (s : Bool) (x : Nat) : zlim (if s then -(x : Int) else (x : Int)) = limbs x := by unfold zlim; cases s <;> simp
theorem zlim_nat (x : Nat) : zlim (x : Int) = limbs x := by unfold zlim; simp

theorem from_letters {I K j : Nat} {n z : Int} {dn : Nat} {s : Bool} (hn : n = (K : Int) - j) (hI : I < 9007199254740992) (hK : K ≤ 1000) (hj : j ≤ 1074)
    (hsp : ∀ l d, val l = I * 2 ^ ((K : Int) - j).toNat → val d = 1 * 2 ^ (-((K : Int) - j)).toNat → qnum (zval s l) (val d) = z ∧ qden (zval s l) (val d) = dn) :
    ∃ (X D : Nat) (Z : Int), I * 2 ^ n.toNat = X ∧ 1 * 2 ^ (-n).toNat = D ∧ (Z = if s = true then -(X : Int) else (X : Int)) ∧ qnum Z D = z ∧ qden Z D = dn ∧ (limbs X).length ≤ 100 ∧ (limbs D).length ≤ 100 ∧ (zlim Z).length ≤ 100 ∧ (zlim (D : Int)).length ≤ 100 ∧ 0 < D := by
  subst hn
  have h1 := hsp (limbs (I * 2 ^ ((K : Int) - j).toNat)) (limbs (1 * 2 ^ (-((K : Int) - j)).toNat)) (val_limbs _) (val_limbs _)
  rw [val_limbs, zval_limbs] at h1
  have h2 := len_num hI hK j
  have h3 := len_den K hj
  refine ⟨_, _, _, rfl, rfl, rfl, h1.1, h1.2, h2, h3, by rw [zlim_if]; exact h2, by rw [zlim_nat]; exact h3, by rw [Nat.one_mul]; exact Nat.two_pow_pos _⟩

set_option maxRecDepth 100000 in
set_option maxHeartbeats 4000000 in
theorem ref_from_fin {b : Nat} (hb : b < 18446744073709551616) (h : rung b < 9218868437227405312) (h0 : 0 < rung b) (w : World) :
    Calls Tryz.prog 35 #[.float .f64 b] w fun e w' => FromIs w (fnumer b) (fdenom b) e w' := by
  obtain ⟨w0, hw0⟩ : ∃ x, x = w.alloc (.cells #[.bool false, .slice none 0 0, .slice none 0 0] 26) := ⟨_, rfl⟩
  have hb0 : Below w.heap.size w w0 := by rw [hw0]; exact (Below.refl _ w).alloc (Nat.le_refl _) _
  have hx0 : Blk w0 w.heap.size #[.bool false, .slice none 0 0, .slice none 0 0] := by rw [hw0]; exact Blk.new ..
  have HB0 := hid hb0
  have HX0 := hid hx0
  have HW := hid hw0.symm
  obtain ⟨g, hg⟩ : ∃ g, g = w.heap.size := ⟨_, rfl⟩
  rw [← hg] at HX0
  have HG := hid hg.symm
  have hn : isNan b = false := by unfold isNan; exact decide_eq_false (by omega)
  have hn1 : (FloatKind.f64.format.order b b != some .eq) = false := (order_self b).trans hn
  have hs0 := run_sub 30 (w.alloc (.cells #[.bool false, .slice none 0 0, .slice none 0 0] 26)) (sub_self h)
  have h00 : (FloatKind.f64.format.order 0 0 != some .eq) = false := by decide +kernel
  have hl : (FloatKind.f64.format.order b 0 == some .lt) = fneg b := by
    rw [lt_zero hn, show isZ0 b = false from decide_eq_false (by omega)]; simp
  obtain ⟨r, hr⟩ : ∃ r, rung b = r := ⟨_, rfl⟩
  have HSP := hid (fun (I K j : Nat) (hj : j ≤ 1074) (hK : K ≤ 1000) (h : mag r * 2 ^ j = I * units * 2 ^ K) (l d : List Nat) => @from_loops b I K j (fneg b) rfl hj hK (by rw [hr]; exact h) l d)
  have hneg := fun hf => neg_word hb hf
  have hpos : fneg b = false → b = r := fun hf => by
    have := word_self hb
    rw [hf, hr] at this
    exact this.symm
  rw [hr] at h h0 hneg
  obtain ⟨E, F, K, HH, HRW⟩ : ∃ E F K, Hid (F < 4503599627370496 ∧ E ≤ 2046 ∧ K = E - 1075) ∧ r = wrd E F :=
    ⟨r / 4503599627370496, r % 4503599627370496, _, hid ⟨Nat.mod_lt _ (by decide), by omega, rfl⟩, by unfold wrd; omega⟩
  obtain ⟨s, hs⟩ : ∃ s, fneg b = s := ⟨_, rfl⟩
  rw [hs] at hl HSP hneg hpos
  generalize fnumer b = z at *
  generalize fdenom b = dn at *
  clear hb0 hx0 hw0 hg hn hr h h0 hs hb
  subst HRW
  have hun := unary_negf b
  cases s
  · have hbr := (hpos rfl).symm
    clear hneg hpos
    go_enter Tryz.func35, Tryz.ntmps35
    go_wp2_with fail
    rw [HW.out, HG.out, ← hbr]
    clear hn1 hs0 h00 hl hbr HW hun
    go_loop [0, 5] (fun v0 v5 => ∃ k : Nat, k ≤ K ∧ v0 = .float .f64 (wrd (E - k) F) ∧ v5 = .int .i64 k) (fun _ v5 => K - (intOf v5).toNat)
    case atStart => exact ⟨0, Nat.zero_le _, rfl, rfl⟩
    case round =>
      obtain ⟨k, hk, rfl, rfl⟩ := hrel
      by_cases hlt : k < K
      · obtain ⟨x, y, n, hx, hy, hn, hn2, ew, hge, hdv⟩ := loop1_step HH.out.1 HH.out.2.1 HH.out.2.2 hlt w0
        have HY := hid hy; have HN2 := hid hn2
        rw [hx]
        clear hx hy hn2
        go_wp2_with fail
        exact ⟨⟨k + 1, hlt, by rw [HY.out], by rw [ew, HN2.out]⟩, by rw [ew, HN2.out]; simp [intOf]; omega⟩
      · obtain ⟨r1, hr1, hlt1, hmr, hge⟩ := loop1_end HH.out.1 HH.out.2.1 HH.out.2.2
        have hkK : k = K := by omega
        have HR2 := hid hmr; have HR3 := hid hlt1
        rw [hkK, hr1]
        clear hr1 hlt hk hmr hlt1 hkK
        go_wp2_with fail
        clear hge
        go_loop [0, 5] (fun v0 v5 => ∃ (j R : Nat) (n : Int), j ≤ 1074 ∧ R < 4845873199050653696 ∧ v0 = .float .f64 R ∧ v5 = .int .i64 n ∧ Hid (n = (K : Int) - j) ∧ Hid (mag R = mag r1 * 2 ^ j)) (fun _ v5 => 1074 - ((K : Int) - intOf v5).toNat)
        case atStart => exact ⟨0, r1, K, by omega, HR3.out, rfl, rfl, hid (by simp), hid (by rw [Nat.pow_zero, Nat.mul_one])⟩
        case round =>
          obtain ⟨j, R, n, hj, hR, rfl, rfl, hnn, hm⟩ := hrel
          obtain ⟨I, W, hI, hq, hfl, hcv, hcv2, htest⟩ := loop2_test hR w0
          have HIV := hid hI
          clear hI
          by_cases hz : mag R % units = 0
          · have ht := htest.trans (decide_eq_false (by simpa using hz))
            have HREL := hid (rel_of HR2.out hm.out HIV.out hz)
            have HIL : Hid (I < 9007199254740992) := hid hq
            have HJK : Hid (j ≤ 1074 ∧ K ≤ 1000) := hid ⟨hj, (Nat.le_trans (by have := HH.out.2; omega : K ≤ 971) (by decide))⟩
            clear htest hz hq hR hm hj
            have HO := hid (ref_of (I : Int) (by have := HIL.out; omega) (by have := HIL.out; omega) w0)
            rw [Int.toNat_natCast] at HO
            go_wp2_with fail
            refine HO.out.mono ?_
            rintro e wa ⟨va, rfl, hsa, hb⟩
            have HBa := hid (HB0.out.trans (hb.mono HB0.out.size)); have HXa := hid (HX0.out.below hb)
            have HSa := hid hsa
            obtain ⟨ao, ac, rfl, -, -, -, -, -⟩ := hsa
            clear hb HO hcv hcv2 hfl ht
            go_wp2_with fail
            refine (ref_of 1 (by omega) (by omega) _).mono ?_
            rintro e wb ⟨vb, rfl, hsb, hb⟩
            change Sees wb vb (limbs 1) at hsb
            have HBb := hid (HBa.out.trans (hb.mono HBa.out.size)); have HXb := hid (HXa.out.below hb); have HSab := hid (HSa.out.below hb)
            have HSb := hid hsb
            obtain ⟨bo, bc, rfl, -, -, -, -, -⟩ := hsb
            clear hb HBa HXa HSa
            obtain ⟨X, D, Z, hX, hD, hZ, hz1, hz2, hlX, hlD, hlZ, hlE, hD0⟩ := from_letters hnn.out HIL.out HJK.out.2 HJK.out.1 (HSP.out I K j HJK.out.1 HJK.out.2 HREL.out)
            have HXV := hid hX; have HDV := hid hD; have HZV := hid hZ; have HZ1 := hid hz1; have HZ2 := hid hz2; have HD0 := hid hD0
            clear hX hD hZ hz1 hz2 hD0
            have HNB : Hid (-1074 ≤ n ∧ n ≤ 1000) := hid (by have := hnn.out; have := HJK.out; omega)
            have h1l : (limbs 1).length ≤ 1 := limbs_length_le (by decide)
            have hIl : (limbs I).length ≤ 2 := limbs_length_le (by have := HIL.out; show I < 18446744073709551616; omega)
            by_cases hn : 0 ≤ n
            · have tn : decide (n ≥ 0) = true := decide_eq_true hn
              have HSH := hid (ref_shift_ok n HSab.out (by omega) (by have := HNB.out; omega) (by have := HNB.out; omega))
              rw [val_limbs, show shiftZ I n = X from (if_pos hn).trans HXV.out] at HSH
              have HON := hid (show Sees wb (.slice bo (limbs 1).length bc) (limbs D) from by
                rw [← HDV.out, show (-n).toNat = 0 by omega]; exact HSb.out)
              have hle : (limbs D) = limbs 1 := by rw [← HDV.out, show (-n).toNat = 0 by omega]
              have HLE := hid hle
              clear hn hle
              go_wp2_with fail
              refine HSH.out.mono ?_
              rintro e wc ⟨vc, rfl, hsc, hb⟩
              have HBc := hid (HBb.out.trans (hb.mono HBb.out.size)); have HXc := hid (HXb.out.below hb)
              have HSM := hid hsc; have HSO := hid (HON.out.below hb)
              obtain ⟨co, cc, rfl, -, -, -, -, -⟩ := hsc
              clear hb HBb HXb HSab HSb HSH HON
              go_wp2_with fail
              refine (ref_makeQ _ X HSM.out (by omega) Z (by have h := HZV.out; simpa using h)).mono ?_
              rintro e wd ⟨vd, rfl, hzd, hb⟩
              have HBd := hid (HBc.out.trans (hb.mono HBc.out.size)); have HXd := hid (HXc.out.below hb); have HSOd := hid (HSO.out.below hb)
              have HZd := hid hzd
              obtain ⟨zo, zc, rfl⟩ := hzd.form
              clear hb hzd HBc HXc HSM HSO
              go_wp2_with fail
              refine (ref_makeQ false D (HSOd.out) (by omega) (D : Int) rfl).mono ?_
              rintro e we ⟨ve, rfl, hze, hb⟩
              have HBe := hid (HBd.out.trans (hb.mono HBd.out.size)); have HXe := hid (HXd.out.below hb); have HZd2 := hid (HZd.out.below hb)
              have HZe := hid hze
              obtain ⟨yo, yc, rfl⟩ := hze.form
              clear hb hze HBd HXd HZd HSOd
              have HMK := hid (ref_MakeQ HZd2.out HZe.out HD0.out (by omega) (by omega))
              rw [HZ1.out, HZ2.out] at HMK
              go_wp2_with fail
              refine HMK.out.mono ?_
              rintro e wf ⟨vf, rfl, hq, hb⟩
              have hBf := HBe.out.trans (hb.mono HBe.out.size); have HXf := hid (HXe.out.below hb)
              have HQf := hid hq
              obtain ⟨a1, b1, a2, b2, rfl⟩ := hq.form
              obtain ⟨w7, hw7, hq7, hb7, k0, k1, k2⟩ := store3 hBf (by rw [HG.out]; exact Nat.le_refl _) HXf.out hq
              have HW7 := hid hw7; have HQ7 := hid hq7; have HB7 := hid hb7
              obtain ⟨c0, c1, c2, f0, f1, f2⟩ := HXf.out.open3
              have hlt := HXf.out.lt
              have hg7 : g < w7.heap.size := World.block_lt_of_cell? w7 _ k0
              clear hq hb HBe HXe HZd2 HZe hBf HQf HMK hw7 hq7 hb7
              generalize zneg z = nz at *
              generalize zlim z = lz at *
              generalize limbs dn = ld at *
              go_wp2_with fail
              rw [HW7.out]
              exact bodyPost_ret (v := .tuple #[.agg #[.bool nz, .slice a1 lz.length b1, .slice a2 ld.length b2], .int .i64 0]) (by simp [results, Tryz.results35, go_sem, k0, k1, k2, hg7]) rfl ⟨_, rfl, IsQ.below HQ7.out ((Below.refl _ _).alloc (Nat.le_refl _) _), HB7.out.alloc HB7.out.size _⟩
            · have tn : decide (n ≥ 0) = false := decide_eq_false hn
              have ew : wrap64 (-n) = -n := wrap_id (by have := HNB.out; omega) (by have := HNB.out; omega)
              have HSH := hid (ref_shift_ok (-n) HSb.out (by omega) (by have := HNB.out; omega) (by have := HNB.out; omega))
              rw [val_limbs, show shiftZ 1 (-n) = D from (if_pos (by omega)).trans HDV.out] at HSH
              have HMN := hid (show Sees wb (.slice ao (limbs I).length ac) (limbs X) from by
                rw [← HXV.out, show n.toNat = 0 by omega, Nat.pow_zero, Nat.mul_one]; exact HSab.out)
              clear hn
              go_wp2_with fail
              refine HSH.out.mono ?_
              rintro e wc ⟨vc, rfl, hsc, hb⟩
              have HBc := hid (HBb.out.trans (hb.mono HBb.out.size)); have HXc := hid (HXb.out.below hb)
              have HSO := hid hsc; have HSM := hid (HMN.out.below hb)
              obtain ⟨co, cc, rfl, -, -, -, -, -⟩ := hsc
              clear hb HBb HXb HSab HSb HSH HMN
              go_wp2_with fail
              refine (ref_makeQ _ X HSM.out (by omega) Z (by have h := HZV.out; simpa using h)).mono ?_
              rintro e wd ⟨vd, rfl, hzd, hb⟩
              have HBd := hid (HBc.out.trans (hb.mono HBc.out.size)); have HXd := hid (HXc.out.below hb); have HSOd := hid (HSO.out.below hb)
              have HZd := hid hzd
              obtain ⟨zo, zc, rfl⟩ := hzd.form
              clear hb hzd HBc HXc HSM HSO
              go_wp2_with fail
              refine (ref_makeQ false D (HSOd.out) (by omega) (D : Int) rfl).mono ?_
              rintro e we ⟨ve, rfl, hze, hb⟩
              have HBe := hid (HBd.out.trans (hb.mono HBd.out.size)); have HXe := hid (HXd.out.below hb); have HZd2 := hid (HZd.out.below hb)
              have HZe := hid hze
              obtain ⟨yo, yc, rfl⟩ := hze.form
              clear hb hze HBd HXd HZd HSOd
              have HMK := hid (ref_MakeQ HZd2.out HZe.out HD0.out (by omega) (by omega))
              rw [HZ1.out, HZ2.out] at HMK
              go_wp2_with fail
              refine HMK.out.mono ?_
              rintro e wf ⟨vf, rfl, hq, hb⟩
              have hBf := HBe.out.trans (hb.mono HBe.out.size); have HXf := hid (HXe.out.below hb)
              have HQf := hid hq
              obtain ⟨a1, b1, a2, b2, rfl⟩ := hq.form
              obtain ⟨w7, hw7, hq7, hb7, k0, k1, k2⟩ := store3 hBf (by rw [HG.out]; exact Nat.le_refl _) HXf.out hq
              have HW7 := hid hw7; have HQ7 := hid hq7; have HB7 := hid hb7
              obtain ⟨c0, c1, c2, f0, f1, f2⟩ := HXf.out.open3
              have hlt := HXf.out.lt
              have hg7 : g < w7.heap.size := World.block_lt_of_cell? w7 _ k0
              clear hq hb HBe HXe HZd2 HZe hBf HQf HMK hw7 hq7 hb7
              generalize zneg z = nz at *
              generalize zlim z = lz at *
              generalize limbs dn = ld at *
              go_wp2_with fail
              rw [HW7.out]
              exact bodyPost_ret (v := .tuple #[.agg #[.bool nz, .slice a1 lz.length b1, .slice a2 ld.length b2], .int .i64 0]) (by simp [results, Tryz.results35, go_sem, k0, k1, k2, hg7]) rfl ⟨_, rfl, IsQ.below HQ7.out ((Below.refl _ _).alloc (Nat.le_refl _) _), HB7.out.alloc HB7.out.size _⟩
          · have ht := htest.trans (decide_eq_true (by simpa using hz))
            obtain ⟨R', n', hR', hj2, hn1, ew, hn2, hm2, hml⟩ := loop2_step hR hj (Nat.le_trans (by have := HH.out.2; omega : K ≤ 971) (by decide)) hnn.out hm.out hz w0
            have HS2 := hid hm2; have HN2 := hid hn2; have HNN := hid hnn.out
            clear hz htest hm hm2 hn2 hcv2 hq hnn hR hj
            go_wp2_with fail
            exact ⟨⟨j + 1, R', n', hj2, hR', rfl, by rw [ew], HN2, HS2⟩, by have h1 := HNN.out; have h2 := HN2.out; rw [ew]; simp [intOf]; omega⟩
  · have hbr := hneg rfl
    clear hneg hpos
    go_enter Tryz.func35, Tryz.ntmps35
    go_wp2_with fail
    rw [HW.out, HG.out]
    clear hn1 hs0 h00 hl hbr HW hun
    go_loop [0, 5] (fun v0 v5 => ∃ k : Nat, k ≤ K ∧ v0 = .float .f64 (wrd (E - k) F) ∧ v5 = .int .i64 k) (fun _ v5 => K - (intOf v5).toNat)
    case atStart => exact ⟨0, Nat.zero_le _, rfl, rfl⟩
    case round =>
      obtain ⟨k, hk, rfl, rfl⟩ := hrel
      by_cases hlt : k < K
      · obtain ⟨x, y, n, hx, hy, hn, hn2, ew, hge, hdv⟩ := loop1_step HH.out.1 HH.out.2.1 HH.out.2.2 hlt w0
        have HY := hid hy; have HN2 := hid hn2
        rw [hx]
        clear hx hy hn2
        go_wp2_with fail
        exact ⟨⟨k + 1, hlt, by rw [HY.out], by rw [ew, HN2.out]⟩, by rw [ew, HN2.out]; simp [intOf]; omega⟩
      · obtain ⟨r1, hr1, hlt1, hmr, hge⟩ := loop1_end HH.out.1 HH.out.2.1 HH.out.2.2
        have hkK : k = K := by omega
        have HR2 := hid hmr; have HR3 := hid hlt1
        rw [hkK, hr1]
        clear hr1 hlt hk hmr hlt1 hkK
        go_wp2_with fail
        clear hge
        go_loop [0, 5] (fun v0 v5 => ∃ (j R : Nat) (n : Int), j ≤ 1074 ∧ R < 4845873199050653696 ∧ v0 = .float .f64 R ∧ v5 = .int .i64 n ∧ Hid (n = (K : Int) - j) ∧ Hid (mag R = mag r1 * 2 ^ j)) (fun _ v5 => 1074 - ((K : Int) - intOf v5).toNat)
        case atStart => exact ⟨0, r1, K, by omega, HR3.out, rfl, rfl, hid (by simp), hid (by rw [Nat.pow_zero, Nat.mul_one])⟩
        case round =>
          obtain ⟨j, R, n, hj, hR, rfl, rfl, hnn, hm⟩ := hrel
          obtain ⟨I, W, hI, hq, hfl, hcv, hcv2, htest⟩ := loop2_test hR w0
          have HIV := hid hI
          clear hI
          by_cases hz : mag R % units = 0
          · have ht := htest.trans (decide_eq_false (by simpa using hz))
            have HREL := hid (rel_of HR2.out hm.out HIV.out hz)
            have HIL : Hid (I < 9007199254740992) := hid hq
            have HJK : Hid (j ≤ 1074 ∧ K ≤ 1000) := hid ⟨hj, (Nat.le_trans (by have := HH.out.2; omega : K ≤ 971) (by decide))⟩
            clear htest hz hq hR hm hj
            have HO := hid (ref_of (I : Int) (by have := HIL.out; omega) (by have := HIL.out; omega) w0)
            rw [Int.toNat_natCast] at HO
            go_wp2_with fail
            refine HO.out.mono ?_
            rintro e wa ⟨va, rfl, hsa, hb⟩
            have HBa := hid (HB0.out.trans (hb.mono HB0.out.size)); have HXa := hid (HX0.out.below hb)
            have HSa := hid hsa
            obtain ⟨ao, ac, rfl, -, -, -, -, -⟩ := hsa
            clear hb HO hcv hcv2 hfl ht
            go_wp2_with fail
            refine (ref_of 1 (by omega) (by omega) _).mono ?_
            rintro e wb ⟨vb, rfl, hsb, hb⟩
            change Sees wb vb (limbs 1) at hsb
            have HBb := hid (HBa.out.trans (hb.mono HBa.out.size)); have HXb := hid (HXa.out.below hb); have HSab := hid (HSa.out.below hb)
            have HSb := hid hsb
            obtain ⟨bo, bc, rfl, -, -, -, -, -⟩ := hsb
            clear hb HBa HXa HSa
            obtain ⟨X, D, Z, hX, hD, hZ, hz1, hz2, hlX, hlD, hlZ, hlE, hD0⟩ := from_letters hnn.out HIL.out HJK.out.2 HJK.out.1 (HSP.out I K j HJK.out.1 HJK.out.2 HREL.out)
            have HXV := hid hX; have HDV := hid hD; have HZV := hid hZ; have HZ1 := hid hz1; have HZ2 := hid hz2; have HD0 := hid hD0
            clear hX hD hZ hz1 hz2 hD0
            have HNB : Hid (-1074 ≤ n ∧ n ≤ 1000) := hid (by have := hnn.out; have := HJK.out; omega)
            have h1l : (limbs 1).length ≤ 1 := limbs_length_le (by decide)
            have hIl : (limbs I).length ≤ 2 := limbs_length_le (by have := HIL.out; show I < 18446744073709551616; omega)
            by_cases hn : 0 ≤ n
            · have tn : decide (n ≥ 0) = true := decide_eq_true hn
              have HSH := hid (ref_shift_ok n HSab.out (by omega) (by have := HNB.out; omega) (by have := HNB.out; omega))
              rw [val_limbs, show shiftZ I n = X from (if_pos hn).trans HXV.out] at HSH
              have HON := hid (show Sees wb (.slice bo (limbs 1).length bc) (limbs D) from by
                rw [← HDV.out, show (-n).toNat = 0 by omega]; exact HSb.out)
              have hle : (limbs D) = limbs 1 := by rw [← HDV.out, show (-n).toNat = 0 by omega]
              have HLE := hid hle
              clear hn hle
              go_wp2_with fail
              refine HSH.out.mono ?_
              rintro e wc ⟨vc, rfl, hsc, hb⟩
              have HBc := hid (HBb.out.trans (hb.mono HBb.out.size)); have HXc := hid (HXb.out.below hb)
              have HSM := hid hsc; have HSO := hid (HON.out.below hb)
              obtain ⟨co, cc, rfl, -, -, -, -, -⟩ := hsc
              clear hb HBb HXb HSab HSb HSH HON
              go_wp2_with fail
              refine (ref_makeQ _ X HSM.out (by omega) Z (by have h := HZV.out; simpa using h)).mono ?_
              rintro e wd ⟨vd, rfl, hzd, hb⟩
              have HBd := hid (HBc.out.trans (hb.mono HBc.out.size)); have HXd := hid (HXc.out.below hb); have HSOd := hid (HSO.out.below hb)
              have HZd := hid hzd
              obtain ⟨zo, zc, rfl⟩ := hzd.form
              clear hb hzd HBc HXc HSM HSO
              go_wp2_with fail
              refine (ref_makeQ false D (HSOd.out) (by omega) (D : Int) rfl).mono ?_
              rintro e we ⟨ve, rfl, hze, hb⟩
              have HBe := hid (HBd.out.trans (hb.mono HBd.out.size)); have HXe := hid (HXd.out.below hb); have HZd2 := hid (HZd.out.below hb)
              have HZe := hid hze
              obtain ⟨yo, yc, rfl⟩ := hze.form
              clear hb hze HBd HXd HZd HSOd
              have HMK := hid (ref_MakeQ HZd2.out HZe.out HD0.out (by omega) (by omega))
              rw [HZ1.out, HZ2.out] at HMK
              go_wp2_with fail
              refine HMK.out.mono ?_
              rintro e wf ⟨vf, rfl, hq, hb⟩
              have hBf := HBe.out.trans (hb.mono HBe.out.size); have HXf := hid (HXe.out.below hb)
              have HQf := hid hq
              obtain ⟨a1, b1, a2, b2, rfl⟩ := hq.form
              obtain ⟨w7, hw7, hq7, hb7, k0, k1, k2⟩ := store3 hBf (by rw [HG.out]; exact Nat.le_refl _) HXf.out hq
              have HW7 := hid hw7; have HQ7 := hid hq7; have HB7 := hid hb7
              obtain ⟨c0, c1, c2, f0, f1, f2⟩ := HXf.out.open3
              have hlt := HXf.out.lt
              have hg7 : g < w7.heap.size := World.block_lt_of_cell? w7 _ k0
              clear hq hb HBe HXe HZd2 HZe hBf HQf HMK hw7 hq7 hb7
              generalize zneg z = nz at *
              generalize zlim z = lz at *
              generalize limbs dn = ld at *
              go_wp2_with fail
              rw [HW7.out]
              exact bodyPost_ret (v := .tuple #[.agg #[.bool nz, .slice a1 lz.length b1, .slice a2 ld.length b2], .int .i64 0]) (by simp [results, Tryz.results35, go_sem, k0, k1, k2, hg7]) rfl ⟨_, rfl, IsQ.below HQ7.out ((Below.refl _ _).alloc (Nat.le_refl _) _), HB7.out.alloc HB7.out.size _⟩
            · have tn : decide (n ≥ 0) = false := decide_eq_false hn
              have ew : wrap64 (-n) = -n := wrap_id (by have := HNB.out; omega) (by have := HNB.out; omega)
              have HSH := hid (ref_shift_ok (-n) HSb.out (by omega) (by have := HNB.out; omega) (by have := HNB.out; omega))
              rw [val_limbs, show shiftZ 1 (-n) = D from (if_pos (by omega)).trans HDV.out] at HSH
              have HMN := hid (show Sees wb (.slice ao (limbs I).length ac) (limbs X) from by
                rw [← HXV.out, show n.toNat = 0 by omega, Nat.pow_zero, Nat.mul_one]; exact HSab.out)
              clear hn
              go_wp2_with fail
              refine HSH.out.mono ?_
              rintro e wc ⟨vc, rfl, hsc, hb⟩
              have HBc := hid (HBb.out.trans (hb.mono HBb.out.size)); have HXc := hid (HXb.out.below hb)
              have HSO := hid hsc; have HSM := hid (HMN.out.below hb)
              obtain ⟨co, cc, rfl, -, -, -, -, -⟩ := hsc
              clear hb HBb HXb HSab HSb HSH HMN
              go_wp2_with fail
              refine (ref_makeQ _ X HSM.out (by omega) Z (by have h := HZV.out; simpa using h)).mono ?_
              rintro e wd ⟨vd, rfl, hzd, hb⟩
              have HBd := hid (HBc.out.trans (hb.mono HBc.out.size)); have HXd := hid (HXc.out.below hb); have HSOd := hid (HSO.out.below hb)
              have HZd := hid hzd
              obtain ⟨zo, zc, rfl⟩ := hzd.form
              clear hb hzd HBc HXc HSM HSO
              go_wp2_with fail
              refine (ref_makeQ false D (HSOd.out) (by omega) (D : Int) rfl).mono ?_
              rintro e we ⟨ve, rfl, hze, hb⟩
              have HBe := hid (HBd.out.trans (hb.mono HBd.out.size)); have HXe := hid (HXd.out.below hb); have HZd2 := hid (HZd.out.below hb)
              have HZe := hid hze
              obtain ⟨yo, yc, rfl⟩ := hze.form
              clear hb hze HBd HXd HZd HSOd
              have HMK := hid (ref_MakeQ HZd2.out HZe.out HD0.out (by omega) (by omega))
              rw [HZ1.out, HZ2.out] at HMK
              go_wp2_with fail
              refine HMK.out.mono ?_
              rintro e wf ⟨vf, rfl, hq, hb⟩
              have hBf := HBe.out.trans (hb.mono HBe.out.size); have HXf := hid (HXe.out.below hb)
              have HQf := hid hq
              obtain ⟨a1, b1, a2, b2, rfl⟩ := hq.form
              obtain ⟨w7, hw7, hq7, hb7, k0, k1, k2⟩ := store3 hBf (by rw [HG.out]; exact Nat.le_refl _) HXf.out hq
              have HW7 := hid hw7; have HQ7 := hid hq7; have HB7 := hid hb7
              obtain ⟨c0, c1, c2, f0, f1, f2⟩ := HXf.out.open3
              have hlt := HXf.out.lt
              have hg7 : g < w7.heap.size := World.block_lt_of_cell? w7 _ k0
              clear hq hb HBe HXe HZd2 HZe hBf HQf HMK hw7 hq7 hb7
              generalize zneg z = nz at *
              generalize zlim z = lz at *
              generalize limbs dn = ld at *
              go_wp2_with fail
              rw [HW7.out]
              exact bodyPost_ret (v := .tuple #[.agg #[.bool nz, .slice a1 lz.length b1, .slice a2 ld.length b2], .int .i64 0]) (by simp [results, Tryz.results35, go_sem, k0, k1, k2, hg7]) rfl ⟨_, rfl, IsQ.below HQ7.out ((Below.refl _ _).alloc (Nat.le_refl _) _), HB7.out.alloc HB7.out.size _⟩
          · have ht := htest.trans (decide_eq_true (by simpa using hz))
            obtain ⟨R', n', hR', hj2, hn1, ew, hn2, hm2, hml⟩ := loop2_step hR hj (Nat.le_trans (by have := HH.out.2; omega : K ≤ 971) (by decide)) hnn.out hm.out hz w0
            have HS2 := hid hm2; have HN2 := hid hn2; have HNN := hid hnn.out
            clear hz htest hm hm2 hn2 hcv2 hq hnn hR hj
            go_wp2_with fail
            exact ⟨⟨j + 1, R', n', hj2, hR', rfl, by rw [ew], HN2, HS2⟩, by have h1 := HNN.out; have h2 := HN2.out; rw [ew]; simp [intOf]; omega⟩
end Go.Proofs.YtjnbonellgpjnaaGreat

set_option linter.unusedVariables false
set_option linter.unusedSimpArgs false
namespace Go.Proofs.YtjnbonellgpjnaaGreat
open Go.RowKit

set_option maxRecDepth 100000 in
set_option maxHeartbeats 4000000 in
theorem zero_walk {b : Nat} (hn1 : (FloatKind.f64.format.order b b != some .eq) = false) (hsub : Ieee.double.sub b b = some 0) (hl : (FloatKind.f64.format.order b 0 == some .lt) = false)
    (hge : (FloatKind.f64.format.order b 4845873199050653696 == some .gt || FloatKind.f64.format.order b 4845873199050653696 == some .eq) = false)
    (hu : floatToIntVal .f64 b .u64 = some 0) (hi : floatToIntVal .f64 b .i64 = some 0) (ht : (FloatKind.f64.format.order b 0 != some .eq) = false) (w : World) :
    Calls Tryz.prog 35 #[.float .f64 b] w fun e w' => FromIs w 0 1 e w' := by
  obtain ⟨w0, hw0⟩ : ∃ x, x = w.alloc (.cells #[.bool false, .slice none 0 0, .slice none 0 0] 26) := ⟨_, rfl⟩
  have hb0 : Below w.heap.size w w0 := by rw [hw0]; exact (Below.refl _ w).alloc (Nat.le_refl _) _
  have hx0 : Blk w0 w.heap.size #[.bool false, .slice none 0 0, .slice none 0 0] := by rw [hw0]; exact Blk.new ..
  have HB0 := hid hb0
  have HX0 := hid hx0
  have HW := hid hw0.symm
  obtain ⟨g, hg⟩ : ∃ g, g = w.heap.size := ⟨_, rfl⟩
  rw [← hg] at HX0
  have HG := hid hg.symm
  have hs0 := run_sub 30 (w.alloc (.cells #[.bool false, .slice none 0 0, .slice none 0 0] 26)) hsub
  have h00 : (FloatKind.f64.format.order 0 0 != some .eq) = false := by decide +kernel
  have hcv := run_convert_float_int (P := Tryz.prog) w0 30 77 .f64 .u64 b 0 (by kernel_rfl) (by kernel_rfl) hu
  have hcv2 := run_convert_float_int (P := Tryz.prog) w0 30 3 .f64 .i64 b 0 (by kernel_rfl) (by kernel_rfl) hi
  have hfl : floatOfInt .f64 0 = 0 := by decide +kernel
  obtain ⟨X, hX⟩ : ∃ X : Nat, X = 0 := ⟨_, rfl⟩
  obtain ⟨D, hD⟩ : ∃ D : Nat, D = 1 := ⟨_, rfl⟩
  obtain ⟨Z, hZ⟩ : ∃ Z : Int, Z = 0 := ⟨_, rfl⟩
  obtain ⟨z, hz⟩ : ∃ z : Int, z = 0 := ⟨_, rfl⟩
  obtain ⟨dn, hdn⟩ : ∃ d : Nat, d = 1 := ⟨_, rfl⟩
  rw [← hz, ← hdn]
  have HZV : Hid (Z = if false = true then -(X : Int) else (X : Int)) := hid (by rw [hX, hZ]; decide)
  have HZ1 : Hid (qnum Z D = z) := hid (by rw [hZ, hD, hz]; decide)
  have HZ2 : Hid (qden Z D = dn) := hid (by rw [hZ, hD, hdn]; decide)
  have HD0 : Hid (0 < D) := hid (by omega)
  have hlX : (limbs X).length ≤ 100 := by rw [hX]; decide
  have hlD : (limbs D).length ≤ 100 := by rw [hD]; decide
  have hlZ : (zlim Z).length ≤ 100 := by rw [hZ]; decide
  have hlE : (zlim (D : Int)).length ≤ 100 := by rw [hD]; decide
  have HO := hid (ref_of 0 (by omega) (by omega) w0)
  rw [show Int.toNat 0 = X by rw [hX]; rfl] at HO
  have HDV := hid hD; have HXV := hid hX
  clear hb0 hx0 hw0 hg hX hD hZ hz hdn hu hi hsub
  go_enter Tryz.func35, Tryz.ntmps35
  go_wp2_with fail
  rw [HW.out, HG.out]
  clear hn1 hs0 h00 hl HW
  go_loop [0, 5] (fun v0 v5 => v0 = .float .f64 b ∧ v5 = .int .i64 0) (fun _ _ => 0)
  case atStart => exact ⟨rfl, rfl⟩
  case round =>
    obtain ⟨rfl, rfl⟩ := hrel
    go_wp2_with fail
    clear hge
    go_loop [0, 5] (fun v0 v5 => v0 = .float .f64 b ∧ v5 = .int .i64 0) (fun _ _ => 0)
    case atStart => exact ⟨rfl, rfl⟩
    case round =>
      obtain ⟨rfl, rfl⟩ := hrel
      go_wp2_with fail
      refine HO.out.mono ?_
      rintro e wa ⟨va, rfl, hsa, hb⟩
      have HBa := hid (HB0.out.trans (hb.mono HB0.out.size)); have HXa := hid (HX0.out.below hb)
      have HSa := hid hsa
      obtain ⟨ao, ac, rfl, -, -, -, -, -⟩ := hsa
      clear hb HO hcv hcv2 hfl ht
      go_wp2_with fail
      refine (ref_of 1 (by omega) (by omega) _).mono ?_
      rintro e wb ⟨vb, rfl, hsb, hb⟩
      change Sees wb vb (limbs 1) at hsb
      rw [← HDV.out] at hsb
      have HBb := hid (HBa.out.trans (hb.mono HBa.out.size)); have HXb := hid (HXa.out.below hb); have HSab := hid (HSa.out.below hb)
      have HSb := hid hsb
      obtain ⟨bo, bc, rfl, -, -, -, -, -⟩ := hsb
      clear hb HBa HXa HSa
      have HSH := hid (ref_shift_ok 0 HSab.out (by omega) (by omega) (by omega))
      rw [val_limbs, show shiftZ X 0 = X by rw [HXV.out]; decide] at HSH
      go_wp2_with fail
      refine HSH.out.mono ?_
      rintro e wc ⟨vc, rfl, hsc, hb⟩
      have HBc := hid (HBb.out.trans (hb.mono HBb.out.size)); have HXc := hid (HXb.out.below hb)
      have HSM := hid hsc; have HSO := hid (HSb.out.below hb)
      obtain ⟨co, cc, rfl, -, -, -, -, -⟩ := hsc
      clear hb HBb HXb HSab HSb HSH
      go_wp2_with fail
      refine (ref_makeQ _ X HSM.out (by omega) Z (by have h := HZV.out; simpa using h)).mono ?_
      rintro e wd ⟨vd, rfl, hzd, hb⟩
      have HBd := hid (HBc.out.trans (hb.mono HBc.out.size)); have HXd := hid (HXc.out.below hb); have HSOd := hid (HSO.out.below hb)
      have HZd := hid hzd
      obtain ⟨zo, zc, rfl⟩ := hzd.form
      clear hb hzd HBc HXc HSM HSO
      go_wp2_with fail
      refine (ref_makeQ false D (HSOd.out) (by omega) (D : Int) rfl).mono ?_
      rintro e we ⟨ve, rfl, hze, hb⟩
      have HBe := hid (HBd.out.trans (hb.mono HBd.out.size)); have HXe := hid (HXd.out.below hb); have HZd2 := hid (HZd.out.below hb)
      have HZe := hid hze
      obtain ⟨yo, yc, rfl⟩ := hze.form
      clear hb hze HBd HXd HZd HSOd
      have HMK := hid (ref_MakeQ HZd2.out HZe.out HD0.out (by omega) (by omega))
      rw [HZ1.out, HZ2.out] at HMK
      go_wp2_with fail
      refine HMK.out.mono ?_
      rintro e wf ⟨vf, rfl, hq, hb⟩
      have hBf := HBe.out.trans (hb.mono HBe.out.size); have HXf := hid (HXe.out.below hb)
      have HQf := hid hq
      obtain ⟨a1, b1, a2, b2, rfl⟩ := hq.form
      obtain ⟨w7, hw7, hq7, hb7, k0, k1, k2⟩ := store3 hBf (by rw [HG.out]; exact Nat.le_refl _) HXf.out hq
      have HW7 := hid hw7; have HQ7 := hid hq7; have HB7 := hid hb7
      obtain ⟨c0, c1, c2, f0, f1, f2⟩ := HXf.out.open3
      have hlt := HXf.out.lt
      have hg7 : g < w7.heap.size := World.block_lt_of_cell? w7 _ k0
      clear hq hb HBe HXe HZd2 HZe hBf HQf HMK hw7 hq7 hb7
      generalize zneg z = nz at *
      generalize zlim z = lz at *
      generalize limbs dn = ld at *
      go_wp2_with fail
      rw [HW7.out]
      exact bodyPost_ret (v := .tuple #[.agg #[.bool nz, .slice a1 lz.length b1, .slice a2 ld.length b2], .int .i64 0]) (by simp [results, Tryz.results35, go_sem, k0, k1, k2, hg7]) rfl ⟨_, rfl, IsQ.below HQ7.out ((Below.refl _ _).alloc (Nat.le_refl _) _), HB7.out.alloc HB7.out.size _⟩

theorem ref_from_zero {b : Nat} (hb : b < 18446744073709551616) (h : rung b = 0) (w : World) : Calls Tryz.prog 35 #[.float .f64 b] w fun e w' => FromIs w (fnumer b) (fdenom b) e w' := by
  obtain ⟨e1, e2⟩ := from_zero_parts h
  rw [e1, e2]
  have hw := zero_words hb (decide_eq_true h)
  cases ef : fneg b <;> rw [ef] at hw <;> simp only [Bool.false_eq_true, if_false, if_true] at hw <;> subst hw
  · exact zero_walk (by decide +kernel) (by decide +kernel) (by decide +kernel) (by decide +kernel) (by decide +kernel) (by decide +kernel) (by decide +kernel) w
  · exact zero_walk (by decide +kernel) (by decide +kernel) (by decide +kernel) (by decide +kernel) (by decide +kernel) (by decide +kernel) (by decide +kernel) w

end Go.Proofs.YtjnbonellgpjnaaGreat

set_option linter.unusedVariables false
set_option linter.unusedSimpArgs false
namespace Go.Proofs.YtjnbonellgpjnaaGreat
open Go.RowKit

set_option maxRecDepth 100000 in
set_option maxHeartbeats 4000000 in
theorem ref_from_bad {b : Nat} (h : isNan b = true ∨ isInf b = true) (w : World) :
    Calls Tryz.prog 35 #[.float .f64 b] w fun e w' => e = .returned (.tuple #[.agg #[.bool false, .slice none 0 0, .slice none 0 0], .int .i64 40]) ∧ Below w.heap.size w w' := by
  have hn : (FloatKind.f64.format.order b b != some .eq) = isNan b := order_self b
  have HB0 := hid ((Below.refl w.heap.size w).alloc (Nat.le_refl _) (.cells #[.bool false, .slice none 0 0, .slice none 0 0] 26))
  cases en : isNan b
  · rw [en] at h hn
    have hi : isInf b = true := by simpa using h
    obtain ⟨r, hs, hrn, -⟩ := run_nan_sub 30 (w.alloc (.cells #[.bool false, .slice none 0 0, .slice none 0 0] 26)) (sub_none hi)
    have h0 := ne_nan hrn
    clear h en hi hrn
    go_enter Tryz.func35, Tryz.ntmps35
    go_wp2_with fail
    exact bodyPost_ret (v := .tuple #[.agg #[.bool false, .slice none 0 0, .slice none 0 0], .int .i64 40]) (by simp [results, Tryz.results35, go_sem]) rfl ⟨rfl, HB0.out.drew⟩
  · rw [en] at hn
    clear h en
    go_enter Tryz.func35, Tryz.ntmps35
    go_wp2_with fail
    exact bodyPost_ret (v := .tuple #[.agg #[.bool false, .slice none 0 0, .slice none 0 0], .int .i64 40]) (by simp [results, Tryz.results35, go_sem]) rfl ⟨rfl, HB0.out⟩

end Go.Proofs.YtjnbonellgpjnaaGreat
