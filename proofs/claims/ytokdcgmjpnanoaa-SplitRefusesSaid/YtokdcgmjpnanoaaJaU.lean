/- The document's Plain by any number, up, Add, Scale, Sub and Mul by their contracts. -/
import Derived.Test.YtokdcgmjpnanoaaJaT

set_option linter.unusedVariables false
set_option linter.unusedSimpArgs false
namespace Go.Proofs.Ytokdcgmjpnanoaa
open Go.RowKit

/-- The plain form by any number: by what is no prime there is none. -/
def nfZ (p : Int) (f : List Int) : List Int := if isP p then nf p.toNat f else []
theorem nfZ_prime {q : Nat} (hq : IsP q) (f : List Int) : nfZ q f = nf q f := by unfold nfZ; rw [isP_of hq]; rfl
theorem nfZ_none {p : Int} (h : isP p = false) (f : List Int) : nfZ p f = [] := by unfold nfZ; rw [h]; rfl
theorem nfZ_len (p : Int) (f : List Int) : (nfZ p f).length ≤ f.length := by
  unfold nfZ; split
  · exact nf_len _ f
  · simp
theorem nfZ_range (p : Int) (f : List Int) (i : Nat) : 0 ≤ (nfZ p f).getD i 0 ∧ (nfZ p f).getD i 0 < 2147483648 := by
  cases h : isP p with
  | true =>
    obtain ⟨q, rfl, hq⟩ := isP_true h
    rw [nfZ_prime hq]
    have := res_nf (isP_bounds hq).1 f i
    have := (isP_bounds hq).2
    omega
  | false => rw [nfZ_none h]; simp
theorem nfZ_add (p : Int) (f g : List Int) : nfZ p (padd (nfZ p f) (nfZ p g)) = nfZ p (padd f g) := by
  cases h : isP p with
  | true =>
    obtain ⟨q, rfl, hq⟩ := isP_true h
    simp only [nfZ_prime hq]
    exact nf_eq ((nf_E q f).add (nf_E q g))
  | false => rw [nfZ_none h, nfZ_none h]

set_option maxRecDepth 100000 in
theorem ref_PlainZ {vf : Value} {p : Int} {f : List Int} {w : World} (hf : SeesI w vf f) (hlf : f.length ≤ 65536) (h1 : -9223372036854775808 ≤ p) (h2 : p < 9223372036854775808) :
    Calls Try.prog 43 #[vf, .int .i64 p] w fun e w' => Tells (nfZ p f) w e w' := by
  cases h : isP p with
  | true =>
    obtain ⟨q, rfl, hq⟩ := isP_true h
    rw [nfZ_prime hq]
    exact ref_Plain hf hlf hq
  | false =>
    have IS := hidP (ref_not_prime h1 h2 h)
    rw [nfZ_none h]
    clear h h1 h2 hf
    go_enter Try.func43, Try.ntmps43
    go_wp2_with fail
    refine (IS.out _).mono ?_
    rintro e w1 ⟨rfl, hb1⟩
    have B1 := hidP hb1
    clear hb1
    go_wp2_with fail
    go_ret
    exact ⟨_, rfl, SeesF.nil _, B1.out⟩

theorem take_succ_vI {l : List Int} {k : Nat} (hk : k < l.length) : (l.take k).map vI ++ [vI (l.getD k 0)] = (l.take (k + 1)).map vI := by
  rw [take_last hk, List.map_append]; rfl

set_option maxRecDepth 100000 in
set_option maxHeartbeats 4000000 in
theorem ref_Add {vf vg : Value} {p : Int} {f g : List Int} {w : World} (hf : SeesI w vf f) (hg : SeesI w vg g) (hlf : f.length ≤ 65536) (hlg : g.length ≤ 65536) (h1 : -9223372036854775808 ≤ p) (h2 : p < 9223372036854775808) :
    Calls Try.prog 54 #[vf, vg, .int .i64 p] w fun e w' => Tells (nfZ p (padd f g)) w e w' := by
  have PL : Hid (∀ v l w, SeesI w v l → l.length ≤ 65536 → Calls Try.prog 43 #[v, .int .i64 p] w fun e w' => Tells (nfZ p l) w e w') := fun v l w h hl => ref_PlainZ h hl h1 h2
  have HVf : Hid (∀ w1, Below w.heap.size w w1 → SeesI w1 vg g) := fun w1 h => SeesI.below hg h
  have C1 := hidP (PL.out vf f w hf hlf)
  rw [← nfZ_add]
  have HlF := nfZ_len p f
  have HlG := nfZ_len p g
  have HrF := hidP (nfZ_range p f)
  have HrG := hidP (nfZ_range p g)
  obtain ⟨F, hF⟩ : ∃ F, nfZ p f = F := ⟨_, rfl⟩
  obtain ⟨G, hG⟩ : ∃ G, nfZ p g = G := ⟨_, rfl⟩
  rw [hF] at HlF HrF C1 ⊢
  rw [hG] at HlG HrG ⊢
  have HGe := hidP hG
  obtain ⟨i0, hi, hz0, hz1, hz2⟩ := info_parts info_int
  have HI := hidP hi
  have HI0 := hidP hz0
  have HI1 := hidP hz1
  have HI2 := hidP hz2
  clear hi hz0 hz1 hz2
  clear hf hg h1 h2 hF hG
  go_enter Try.func54, Try.ntmps54
  go_wp2_with fail
  refine C1.out.mono ?_
  rintro e w1 ⟨v1, rfl, hs1, hb1⟩
  have B1 := hidP hb1
  have C2 := hidP (PL.out vg g w1 (HVf.out w1 hb1) hlg)
  rw [HGe.out] at C2
  have HS1 := hidP hs1
  clear hs1 hb1
  go_wp2_with fail
  refine C2.out.mono ?_
  rintro e w2 ⟨v2, rfl, hs2, hb2⟩
  have B2 := hidP (step_below B1.out hb2)
  have HA : Hid (∀ w1, Below w2.heap.size w2 w1 → SeesI w1 v1 F) := fun w1 h => SeesI.below (HS1.out.below hb2) h
  have HB : Hid (∀ w1, Below w2.heap.size w2 w1 → SeesI w1 v2 G) := fun w1 h => SeesI.below hs2 h
  obtain ⟨A, ca, rfl, hcap⟩ := SeesF.form HS1.out
  obtain ⟨B, cb, rfl, hcap2⟩ := SeesF.form hs2
  have B2s := B2.out.size
  clear hs2 hb2 HS1 C1 C2
  go_wp2_with fail
  go_loopw [7, 8, 9] (fun v7 v v9 wr => ∃ k : Nat, k ≤ max F.length G.length ∧ v = .int .i64 k ∧ Hid (wr.ownsRow w2.heap.size 3 1 v7 k (((padd F G).take k).map vI)) ∧ Hid (Below w2.heap.size w2 wr)) (fun _ v _ _ => max F.length G.length - (intOf v).toNat)
  case atStart => exact ⟨0, Nat.zero_le _, rfl, World.ownsRow_nil _ _ _ _, Below.refl _ _⟩
  case round =>
    obtain ⟨k, hk, rfl, hown, hB⟩ := hrel
    have hpl := padd_len F G
    by_cases hlt : k < max F.length G.length
    · have HT := hidP (take_succ_vI (l := padd F G) (k := k) (by omega))
      have hgd := getD_padd F G k
      have f0 := HrF.out k
      have g0 := HrG.out k
      have HSz : Hid (w2.heap.size ≤ wr.heap.size) := hB.out.size
      have hk1 : IntKind.i64.wrap ((k : Int) + 1) = (k : Int) + 1 := by rw [IntKind.wrap_i64]; omega
      have hdF : F.length ≤ k → F.getD k 0 = 0 := fun h => getD_over' F k h
      have hdG : G.length ≤ k → G.getD k 0 = 0 := fun h => getD_over' G k h
      obtain ⟨X, hX⟩ : ∃ X, ((padd F G).take k).map vI = X := ⟨_, rfl⟩
      rw [hX] at hown HT
      obtain ⟨x, hx⟩ : ∃ x, F.getD k 0 = x := ⟨_, rfl⟩
      obtain ⟨y, hy⟩ : ∃ y, G.getD k 0 = y := ⟨_, rfl⟩
      rw [hx] at hgd f0 hdF
      rw [hy] at hgd g0 hdG
      rw [hgd] at HT
      have hx0 : (0 : Int) + x = x := by omega
      have hy0 : (0 : Int) + y = y := by omega
      have hwx : IntKind.i64.wrap x = x := by rw [IntKind.wrap_i64]; omega
      have hwy : IntKind.i64.wrap y = y := by rw [IntKind.wrap_i64]; omega
      obtain ⟨z, hz⟩ : ∃ z, x + y = z := ⟨_, rfl⟩
      have hwz : IntKind.i64.wrap z = z := by rw [IntKind.wrap_i64]; omega
      rw [hz] at HT
      by_cases hkF : k < F.length
      · obtain ⟨b1, o1, e2, hc1'⟩ := (HA.out _ hB.out).at (by omega)
        subst e2
        have hc1 := hc1' k hkF
        rw [hx] at hc1
        have iF : (k : Int) < (F.length : Int) := by omega
        by_cases hkG : k < G.length
        · obtain ⟨b2, o2, e3, hc2'⟩ := (HB.out _ hB.out).at (by omega)
          subst e3
          have hc2 := hc2' k hkG
          rw [hy] at hc2
          have iG : (k : Int) < (G.length : Int) := by omega
          clear hc1' hc2' hx hy hX hdF hdG hgd f0 g0
          go_wp2_with (at_builtin; refine wpList_append_own _ rfl _ _ 22 rfl w2.heap.size 3 i0 (.int .i64 0) 1 8 Try.underlying22 HI.out HI0.out HI1.out HI2.out rfl (by decide) _ _ _ rfl (hown.out.alloc _) ⟨wr.heap.size, 0, none⟩ 1 1 [.int .i64 z] rfl rfl (news_one wr z) (one_cell z) (by unfold maxLen; omega) (by omega) (by simp; exact Nat.le_trans HSz.out (Nat.le_succ _)) ?_)
          · intro v' w3 hown' hgrow _
            have HO : Hid (w3.ownsRow w2.heap.size 3 1 v' (k + 1) (((padd F G).take (k + 1)).map vI)) := by
              have := hown'
              rw [show [Value.int IntKind.i64 z] = [vI z] from rfl, HT.out] at this
              exact this
            have HB3 := hidP (owns_step hB.out HSz.out hown.out hgrow)
            clear hown' hgrow hown HT
            go_wp2_with fail
            go_roundw
            case rel => exact ⟨k + 1, by omega, by go_num, HO, HB3⟩
            case measure => simp [intOf]; omega
        · have iG : ¬ (k : Int) < (G.length : Int) := by omega
          have hy1 := hdG (by omega)
          have hzx : z = x := by omega
          subst hzx
          clear hc1' hx hy hX hdF hdG hgd f0 g0 hz hy1 hwy hy0
          go_wp2_with (at_builtin; refine wpList_append_own _ rfl _ _ 22 rfl w2.heap.size 3 i0 (.int .i64 0) 1 8 Try.underlying22 HI.out HI0.out HI1.out HI2.out rfl (by decide) _ _ _ rfl (hown.out.alloc _) ⟨wr.heap.size, 0, none⟩ 1 1 [.int .i64 z] rfl rfl (news_one wr z) (one_cell z) (by unfold maxLen; omega) (by omega) (by simp; exact Nat.le_trans HSz.out (Nat.le_succ _)) ?_)
          · intro v' w3 hown' hgrow _
            have HO : Hid (w3.ownsRow w2.heap.size 3 1 v' (k + 1) (((padd F G).take (k + 1)).map vI)) := by
              have := hown'
              rw [show [Value.int IntKind.i64 z] = [vI z] from rfl, HT.out] at this
              exact this
            have HB3 := hidP (owns_step hB.out HSz.out hown.out hgrow)
            clear hown' hgrow hown HT
            go_wp2_with fail
            go_roundw
            case rel => exact ⟨k + 1, by omega, by go_num, HO, HB3⟩
            case measure => simp [intOf]; omega
      · have iF : ¬ (k : Int) < (F.length : Int) := by omega
        have hkG : k < G.length := by omega
        obtain ⟨b2, o2, e3, hc2'⟩ := (HB.out _ hB.out).at (by omega)
        subst e3
        have hc2 := hc2' k hkG
        rw [hy] at hc2
        have iG : (k : Int) < (G.length : Int) := by omega
        have hx1 := hdF (by omega)
        have hzy : z = y := by omega
        subst hzy
        clear hc2' hx hy hX hdF hdG hgd f0 g0 hz hx1 hwx hx0
        go_wp2_with (at_builtin; refine wpList_append_own _ rfl _ _ 22 rfl w2.heap.size 3 i0 (.int .i64 0) 1 8 Try.underlying22 HI.out HI0.out HI1.out HI2.out rfl (by decide) _ _ _ rfl (hown.out.alloc _) ⟨wr.heap.size, 0, none⟩ 1 1 [.int .i64 z] rfl rfl (news_one wr z) (one_cell z) (by unfold maxLen; omega) (by omega) (by simp; exact Nat.le_trans HSz.out (Nat.le_succ _)) ?_)
        · intro v' w3 hown' hgrow _
          have HO : Hid (w3.ownsRow w2.heap.size 3 1 v' (k + 1) (((padd F G).take (k + 1)).map vI)) := by
            have := hown'
            rw [show [Value.int IntKind.i64 z] = [vI z] from rfl, HT.out] at this
            exact this
          have HB3 := hidP (owns_step hB.out HSz.out hown.out hgrow)
          clear hown' hgrow hown HT
          go_wp2_with fail
          go_roundw
          case rel => exact ⟨k + 1, by omega, by go_num, HO, HB3⟩
          case measure => simp [intOf]; omega
    · have hkm : k = (padd F G).length := by omega
      have ho := hown.out
      rw [List.take_of_length_le (by omega)] at ho
      obtain ⟨gg, hg, hm⟩ := Mine.of_owns ho (by omega)
      have CP := hidP (PL.out _ _ wr hm.sees (by omega))
      have iF : ¬ (k : Int) < (F.length : Int) := by omega
      have iG : ¬ (k : Int) < (G.length : Int) := by omega
      clear ho hg hm hown hpl hkm
      go_wp2_with fail
      refine CP.out.mono ?_
      rintro e w3 ⟨v3, rfl, hs3, hb3⟩
      have HS3 := hidP hs3
      have HB3 := hidP (step_below B2.out (step_below hB.out hb3))
      clear hs3 hb3
      go_wp2_with fail
      go_ret
      exact ⟨_, rfl, HS3.out, HB3.out⟩
end Go.Proofs.Ytokdcgmjpnanoaa
