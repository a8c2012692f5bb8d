/- The document's bit and Shift by their contracts. -/
import Derived.Test.YtgcgifehpbjglaaDoorShiftB
import Derived.Test.YtgcgifehpbjglaaDoorRefText
set_option linter.unusedVariables false
set_option linter.unusedSimpArgs false
namespace Go.Proofs.YtgcgifehpbjglaaDoor
open Go.RowKit

theorem enc_set (l : List Nat) (i x : Nat) : (enc l).set i (.int .u32 (x : Nat)) = enc (l.set i x) := by
  simp [enc, List.map_set]

theorem and_one (c : Nat) (h : c < 4294967296) : bits .and .u32 (c : Int) 1 = ((c % 2 : Nat) : Int) := by
  have := u32_and_nat c 1 h (by decide)
  rw [Nat.and_one_is_mod] at this
  exact this

set_option maxRecDepth 100000 in
set_option maxHeartbeats 800000 in
theorem ref_bit (a : Option Addr) (ca : Nat) (l : List Nat) (k q h b : Nat) (w : World) (ha : Sees w (.slice a l.length ca) l) (hkq : k = 32 * q + h) (hh : h < 32) (hk : k ≤ 70368744177664) (hb : val l / 2 ^ k % 2 = b) :
    Calls Tryd.prog 57 #[.slice a l.length ca, .int .i64 k] w fun e w' => e = .returned (.int .u32 (b : Nat)) ∧ w = w' := by
  have hlen := ha.len
  have hbit := bit_limb ha.ok q h hh
  rw [← hkq, hb] at hbit
  have e1 : (k : Int) / 32 = (q : Int) := by omega
  have e2 : (k : Int) % 32 = (h : Int) := by omega
  have hok := ha.ok.getD q
  have HA := hid ha
  clear ha hkq hb
  go_enter Tryd.func57, Tryd.ntmps57
  by_cases hq : q < l.length
  · obtain ⟨b1, o1, rfl, hcell⟩ := HA.out.at (by omega)
    have hca := hcell q hq
    generalize l.getD q 0 = x at *
    obtain ⟨c, hc⟩ : ∃ c, c = x / 2 ^ h := ⟨_, rfl⟩
    have hc32 : c < 4294967296 := by rw [hc]; exact Nat.lt_of_le_of_lt (Nat.div_le_self _ _) hok
    have f1 : (x : Int) / 2 ^ h = (c : Int) := by rw [hc, Int.natCast_ediv, Int.natCast_pow]; rfl
    have f2 : bits .and .u32 (c : Int) 1 = (b : Int) := by rw [and_one c hc32, hc, hbit]
    clear hbit hc hcell
    go_wp2
    go_ret
    exact ⟨rfl, rfl⟩
  · have hz : l.getD q 0 = 0 := by rw [List.getD_eq_getElem?_getD, List.getElem?_eq_none (by omega)]; rfl
    rw [hz, Nat.zero_div] at hbit
    obtain rfl : b = 0 := by omega
    clear hbit hz
    go_wp2
    go_ret
    exact ⟨rfl, rfl⟩

theorem ref_shift_no {a : Value} (n : Int) (w : World) (h : n < -1048576 ∨ 1048576 < n) :
    Calls Tryd.prog 35 #[a, .int .i64 n] w fun e w' => e = .returned (.tuple #[.slice none 0 0, .bool false]) ∧ w = w' := by
  go_enter Tryd.func35, Tryd.ntmps35
  rcases h with h | h
  · have h' : ¬ 1048576 < n := by omega
    go_wp2
    go_ret2
    exact ⟨rfl, rfl⟩
  · go_wp2
    go_ret2
    exact ⟨rfl, rfl⟩

set_option maxRecDepth 100000 in
set_option maxHeartbeats 8000000 in
theorem ref_shift_ok {a : Value} {l : List Nat} (n : Int) {w : World} (ha : Sees w a l) (hl : l.length ≤ 1000) (h1 : -1048576 ≤ n) (h2 : n ≤ 1048576) :
    Calls Tryd.prog 35 #[a, .int .i64 n] w fun e w' => ∃ v, e = .returned (.tuple #[v, .bool true]) ∧ Sees w' v (limbs (shiftZ (val l) n)) ∧ Below w.heap.size w w' := by
  have hlen := (limbs_prefix ha.ok).2
  have HA := hid ha
  clear ha
  obtain ⟨i0, hi, hz0, hz1, hz2⟩ := info_parts info_u32
  go_enter Tryd.func35, Tryd.ntmps35
  go_wp2_with fail
  refine (ref_plain _ _ _ HA.out (by omega)).mono ?_
  intro e w1 hp
  obtain ⟨v', rfl, hs, hbel⟩ := hp.sees (by omega)
  obtain ⟨V, hV⟩ : ∃ V, val l = V := ⟨_, rfl⟩
  rw [hV] at hs hlen
  have HVL := hid hV
  obtain ⟨p, hpe⟩ : ∃ p, p = limbs V := ⟨_, rfl⟩
  rw [← hpe] at hs hlen
  have hvp : val p = V := by rw [hpe, val_limbs]
  have HVP := hid hvp
  have hpl : p.length ≤ 1000 := by omega
  have hnb : bitsN V ≤ 32 * p.length := by
    rcases Nat.eq_zero_or_pos V with h0 | h0
    · rw [h0]; unfold bitsN; simp
    · have h3 := bitsN_limbs h0
      have h4 := bitsN_le ((limbs_ok V).getD ((limbs V).length - 1))
      have h5 := (limbs_last h0).1
      rw [hpe]
      omega
  have hlt := fun k h => shiftZ_lt V k n h
  have hbit := fun k j h => shiftZ_bit V k j n h
  have hbit0 := fun k h => shiftZ_bit0 V k n h
  obtain ⟨X, hX⟩ : ∃ X, X = shiftZ V n := ⟨_, rfl⟩
  have HX := hid hX
  rw [← hX] at hlt hbit hbit0
  have HLT := hid hlt; have HBIT := hid hbit; have HBIT0 := hid hbit0
  obtain ⟨nb, hnbe⟩ : ∃ nb, nb = bitsN V := ⟨_, rfl⟩
  rw [← hnbe] at hnb HLT
  have HNB := hid hnbe
  have HS := hid hs; have HB := hid hbel
  obtain ⟨A, cA, rfl, -, -, -, -, -⟩ := hs
  obtain ⟨K, hK⟩ : ∃ K : Nat, K = ((nb : Int) + n).toNat := ⟨_, rfl⟩
  have HK := hid hK
  clear hp hbel hpe hvp hlt hbit hbit0 hX hnbe hK hlen hl hV HA
  go_wp2
  go_loopg [6, 7] K (fun g v6 v7 wr => ∃ (k c : Nat) (t : List Nat), v7 = .int .i64 k ∧ g = K - k ∧ k ≤ K ∧ c = (k + 31) / 32 ∧ Hid (BitsTo X k c t) ∧ Hid (wr.ownsRow w1.heap.size 47 1 v6 c (enc t)) ∧ Hid (Below w1.heap.size w1 wr))
  case atStart => exact ⟨0, 0, [], rfl, by omega, by omega, by omega, BitsTo.start _, World.ownsRow_nil _ _ _ _, Below.refl _ _⟩
  case round =>
    obtain ⟨k, c, t, rfl, hg, hkK, hc, hbt, hown, hbel⟩ := hrel
    have HG := hid hg; have HC := hid hc; have HKK := hid hkK
    have hk1 : k ≤ 2000000 := by have := HK.out; omega
    clear hg hc hkK
    go_wp2_with fail
    refine (ref_bits _ _ _ (HS.out.below hbel.out) (by omega)).mono ?_
    rintro e w2 ⟨rfl, hb2⟩
    rw [HVP.out, ← HNB.out]
    replace hown := hid (owns_below hown.out hb2)
    replace hbel := hid (hbel.out.trans (hb2.mono hbel.out.size))
    clear hb2
    by_cases hkn : (k : Int) < (nb : Int) + n
    · obtain ⟨q, s, hqs, hs⟩ : ∃ q s, k = 32 * q + s ∧ s < 32 := ⟨k / 32, k % 32, by omega, by omega⟩
      have HQS := hid hqs
      have eq1 : (k : Int) / 32 = (q : Int) := by omega
      have eq2 : (k : Int) % 32 = (s : Int) := by omega
      clear hqs
      by_cases hs0 : s = 0
      · subst hs0
        have hcq : c = q := by have := HC.out; have := HQS.out; omega
        subst hcq
        have hcl : c ≤ 100000 := by have := HQS.out; omega
        have hnews : ∀ j u, (enc [0])[j]? = some u → (w2.alloc (.cells #[.int .u32 0] 47)).cell? ((⟨w2.heap.size, 0, none⟩ : Addr).add j) = some u :=
          (sees_lit w2 [0] (Ok.cons (by decide) Ok.nil) (by simp)).news
        have HN := hid hnews; have HW := hid hown.out.lt
        clear hnews
        go_wp2_with (at_builtin; refine wpList_append_own _ rfl _ _ 22 rfl w1.heap.size 47 i0 (.int .u32 0) 1 4 Tryd.underlying22 hi hz0 hz1 hz2 rfl (by decide) _ _ _ rfl (hown.out.alloc _) ⟨w2.heap.size, 0, none⟩ 1 1 (enc [0]) rfl ?ga1 ?gb1 ?gc1 ?gd1 ?ge1 ?gf1 ?_)
        case ga1 => simp [enc_length]
        case gb1 => exact HN.out
        case gc1 => exact enc_one _
        case gd1 => unfold maxLen; omega
        case ge1 => omega
        case gf1 => have := hbel.out.size; simp; omega
        intro v5 w4 hown4 hgrow _
        rw [enc_append] at hown4
        have hb4 : Below w1.heap.size w1 w4 := (hbel.out.alloc hbel.out.size _).grown hgrow (by rw [Deep.nblk_alloc]; have := hbel.out.size; omega) (fun k e => (HW.out k e).1)
        have HO := hid hown4; have HB4 := hid hb4
        have HBT1 := hid hbt.out.more
        clear hown4 hgrow hb4 hown hbel hbt HN HW
        by_cases hd : 0 ≤ (k : Int) - n
        · obtain ⟨j, hj⟩ := Int.eq_ofNat_of_zero_le hd
          have hjl : j ≤ 3000000 := by omega
          have hbj := HBIT.out k j hj
          obtain ⟨b, hb⟩ : ∃ b, X / 2 ^ k % 2 = b := ⟨_, rfl⟩
          have hb1 : b ≤ 1 := by omega
          have HBJ : Hid (val p / 2 ^ j % 2 = b) := by show _ = _; rw [HVP.out, ← hbj, hb]
          have hdig := HBT1.out.digit (q := c) (s := 0) (by omega) (by have := HQS.out; omega)
          have hstep := HBT1.out.step (x := (t ++ [0]).getD c 0 + b * 2 ^ 0) (q := c) (s := 0) (b := b) (by omega) (by have := HQS.out; omega) (by omega) hs hb rfl
          have hps : 2 ^ 0 ≤ 2147483648 := (Nat.pow_le_pow_right (by decide) (by omega) : 2 ^ 0 ≤ 2 ^ 31)
          have hbs : b * 2 ^ 0 ≤ 1 * 2 ^ 0 := Nat.mul_le_mul_right _ hb1
          have hvn : v5 ≠ .slice none 0 0 := fun e => by
            rcases HO.out.2 with ⟨_, h2⟩ | ⟨g2, cap2, cur2, h2, _⟩
            · omega
            · rw [e] at h2; cases h2
          obtain ⟨g, cg, hve, hrow, hgb, hlc, hcm⟩ := owns_some HO.out hvn
          have htlen := HBT1.out.len
          rw [htlen] at hlc hve
          subst hve
          have hcell := hrow.cell (i := c) (by omega)
          have hfr := hrow.frozen c
          have hst := fun u => HO.out.stored c u
          have hstx := hst (.int .u32 ((t ++ [0]).getD c 0 + b * 2 ^ 0 : Nat))
          rw [enc_set] at hstx
          have HBT := hid hstep
          have HCALL := hid (ref_bit A cA p j (j / 32) (j % 32) b w4.drew (HS.out.below HB4.out.drew) (by omega) (by omega) (by omega) HBJ.out)
          clear hst
          have hval : (t ++ [0]).getD c 0 + b * 2 ^ 0 < 4294967296 := by omega
          obtain ⟨u, hu⟩ : ∃ u, (t ++ [0]).getD c 0 = u := ⟨_, rfl⟩
          rw [hu] at hval hcell hstx HBT
          clear hu
          obtain ⟨x, hx⟩ : ∃ x, x = u + b * 2 ^ 0 := ⟨_, rfl⟩
          rw [← hx] at hval hstx HBT
          have HX1 := hid hstx.1
          have HX2 := hid (HB4.out.grown hstx.2 HB4.out.size (fun k' e => by simp at e; omega))
          clear hstx
          have t1 : Int.tdiv (k : Int) 32 = (c : Int) := by rw [Int.tdiv_eq_ediv_of_nonneg (by omega)]; omega
          have t2 : IntKind.i64.wrap (c : Int) = (c : Int) := by rw [IntKind.wrap_i64]; omega
          have t3 : Int.tmod (k : Int) 32 = (0 : Int) := by rw [Int.tmod_eq_emod_of_nonneg (by omega)]; omega
          have t4 : IntKind.i64.wrap ((k : Int) - n) = (j : Int) := by rw [IntKind.wrap_i64]; omega
          have t7 : IntKind.i64.wrap (j : Int) = (j : Int) := by rw [IntKind.wrap_i64]; omega
          have t5 : (0 : Int) ≤ (c : Int) := by omega
          have t6 : (c : Int) < (c + 1 : Nat) := by omega
          have EX : ((x : Nat) : Int) = (u : Int) + (b : Int) := by rw [hx]; omega
          clear hj hdig hb hbj hjl hrow hbs hps hvn hx
          go_wp2
          go_region_with (go_at_call 57; refine HCALL.out.mono ?_; rintro e w' ⟨rfl, rfl⟩)
          all_goals go_wp2
          all_goals
            go_roundg (K - (k + 1))
            case rel => exact ⟨k + 1, c + 1, (t ++ [0]).set c x, by go_num, rfl, by have := HK.out; omega, by have := HQS.out; omega, HBT, by have h := HX1.out; rw [EX] at h; exact h, by have h := HX2.out.drew; rw [EX] at h; exact h⟩
            case measure => have := HG.out; have := HK.out; omega
        · have hz := HBIT0.out k (by omega)
          have HBT := hid (HBT1.out.zero hz)
          clear hz
          go_wp2
          go_roundg (K - (k + 1))
          case rel => exact ⟨k + 1, c + 1, (t ++ [0]), by go_num, rfl, by have := HK.out; omega, by have := HQS.out; omega, HBT, HO, HB4⟩
          case measure => have := HG.out; have := HK.out; omega
      · have hcq : c = q + 1 := by have := HC.out; have := HQS.out; omega
        subst hcq
        have hcl : q ≤ 100000 := by have := HQS.out; omega
        by_cases hd : 0 ≤ (k : Int) - n
        · obtain ⟨j, hj⟩ := Int.eq_ofNat_of_zero_le hd
          have hjl : j ≤ 3000000 := by omega
          have hbj := HBIT.out k j hj
          obtain ⟨b, hb⟩ : ∃ b, X / 2 ^ k % 2 = b := ⟨_, rfl⟩
          have hb1 : b ≤ 1 := by omega
          have HBJ : Hid (val p / 2 ^ j % 2 = b) := by show _ = _; rw [HVP.out, ← hbj, hb]
          have hdig := hbt.out.digit (q := q) (s := s) (by omega) (by have := HQS.out; omega)
          have hstep := hbt.out.step (x := t.getD q 0 + b * 2 ^ s) (q := q) (s := s) (b := b) (by omega) (by have := HQS.out; omega) (by omega) hs hb rfl
          have hps : 2 ^ s ≤ 2147483648 := (Nat.pow_le_pow_right (by decide) (by omega) : 2 ^ s ≤ 2 ^ 31)
          have hbs : b * 2 ^ s ≤ 1 * 2 ^ s := Nat.mul_le_mul_right _ hb1
          have hvn : u6 ≠ .slice none 0 0 := fun e => by
            rcases hown.out.2 with ⟨_, h2⟩ | ⟨g2, cap2, cur2, h2, _⟩
            · omega
            · rw [e] at h2; cases h2
          obtain ⟨g, cg, hve, hrow, hgb, hlc, hcm⟩ := owns_some hown.out hvn
          have htlen := hbt.out.len
          rw [htlen] at hlc hve
          subst hve
          have hcell := hrow.cell (i := q) (by omega)
          have hfr := hrow.frozen q
          have hst := fun u => hown.out.stored q u
          have hstx := hst (.int .u32 (t.getD q 0 + b * 2 ^ s : Nat))
          rw [enc_set] at hstx
          have HBT := hid hstep
          have HCALL := hid (ref_bit A cA p j (j / 32) (j % 32) b w2.drew (HS.out.below hbel.out.drew) (by omega) (by omega) (by omega) HBJ.out)
          clear hst
          have hval : t.getD q 0 + b * 2 ^ s < 4294967296 := by omega
          obtain ⟨u, hu⟩ : ∃ u, t.getD q 0 = u := ⟨_, rfl⟩
          rw [hu] at hval hcell hstx HBT
          clear hu
          obtain ⟨x, hx⟩ : ∃ x, x = u + b * 2 ^ s := ⟨_, rfl⟩
          rw [← hx] at hval hstx HBT
          have HX1 := hid hstx.1
          have HX2 := hid (hbel.out.grown hstx.2 hbel.out.size (fun k' e => by simp at e; omega))
          clear hstx
          have t1 : Int.tdiv (k : Int) 32 = (q : Int) := by rw [Int.tdiv_eq_ediv_of_nonneg (by omega)]; omega
          have t2 : IntKind.i64.wrap (q : Int) = (q : Int) := by rw [IntKind.wrap_i64]; omega
          have t3 : Int.tmod (k : Int) 32 = (s : Int) := by rw [Int.tmod_eq_emod_of_nonneg (by omega)]; omega
          have t4 : IntKind.i64.wrap ((k : Int) - n) = (j : Int) := by rw [IntKind.wrap_i64]; omega
          have t7 : IntKind.i64.wrap (j : Int) = (j : Int) := by rw [IntKind.wrap_i64]; omega
          have t5 : (0 : Int) ≤ (q : Int) := by omega
          have t6 : (q : Int) < (q + 1 : Nat) := by omega
          have EX : ((x : Nat) : Int) = ((u : Int) + (b : Int) * 2 ^ s % 4294967296) % 4294967296 := by rw [hx]; rw [hx] at hval; rw [show (b : Int) * 2 ^ s = ((b * 2 ^ s : Nat) : Int) by rw [Int.natCast_mul, Int.natCast_pow]; rfl]; generalize b * 2 ^ s = m at *; omega
          clear hj hdig hb hbj hjl hrow hbs hps hvn hx
          go_wp2
          go_region_with (go_at_call 57; refine HCALL.out.mono ?_; rintro e w' ⟨rfl, rfl⟩)
          all_goals go_wp2
          all_goals
            go_roundg (K - (k + 1))
            case rel => exact ⟨k + 1, q + 1, t.set q x, by go_num, rfl, by have := HK.out; omega, by have := HQS.out; omega, HBT, by have h := HX1.out; rw [EX] at h; exact h, by have h := HX2.out.drew; rw [EX] at h; exact h⟩
            case measure => have := HG.out; have := HK.out; omega
        · have hz := HBIT0.out k (by omega)
          have HBT := hid (hbt.out.zero hz)
          clear hz
          go_wp2
          go_roundg (K - (k + 1))
          case rel => exact ⟨k + 1, q + 1, t, by go_num, rfl, by have := HK.out; omega, by have := HQS.out; omega, HBT, hown, hbel⟩
          case measure => have := HG.out; have := HK.out; omega
    · have hv := hbt.out.sum
      have hXk := HLT.out k (by omega)
      rw [Nat.mod_eq_of_lt hXk] at hv
      have hlk : t.length ≤ 100000 := by have := hbt.out.len; have := HC.out; omega
      have hsee := owns_sees hown.out hbt.out.ok (by omega)
      have hlk2 := Nat.le_trans (limbs_prefix hsee.ok).2 hlk
      have HS2 := hid hsee; have HV := hid hv; have HLK := hid hlk
      clear hv hXk hlk hsee hown hbt
      go_wp2_with fail
      refine (ref_plain _ _ _ HS2.out (by have := HLK.out; omega)).mono ?_
      intro e w4 hp
      obtain ⟨v4, rfl, hs4, hb4⟩ := hp.sees (by omega)
      have HB4 := hid (HB.out.trans ((hbel.out.trans (hb4.mono hbel.out.size)).mono HB.out.size))
      have HS4 := hid hs4
      clear hp hs4 hb4
      go_wp2
      go_ret2
      exact ⟨_, rfl, by have := HS4.out; rw [HV.out, HX.out] at this; rw [HVL.out]; exact this, HB4.out⟩
end Go.Proofs.YtgcgifehpbjglaaDoor
