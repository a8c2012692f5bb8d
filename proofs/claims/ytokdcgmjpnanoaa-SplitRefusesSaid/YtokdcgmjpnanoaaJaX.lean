/- The document's Deriv and Eval by their contracts, by a prime. -/
import Derived.Test.YtokdcgmjpnanoaaJaW
import Derived.Test.YtokdcgmjpnanoaaJaL

set_option linter.unusedVariables false
set_option linter.unusedSimpArgs false
namespace Go.Proofs.Ytokdcgmjpnanoaa
open Go.RowKit

/-- What the document appends, k of them. -/
def derR (q : Nat) (F : List Int) (k : Nat) : List Int := (List.range k).map (fun j => F.getD (j + 1) 0 * (((j : Int) + 1) % (q : Int)))
theorem derR_succ (q : Nat) (F : List Int) (k : Nat) : (derR q F k).map vI ++ [vI (F.getD (k + 1) 0 * (((k : Int) + 1) % (q : Int)))] = (derR q F (k + 1)).map vI := by
  unfold derR; rw [List.range_succ, List.map_append, List.map_append]; rfl
theorem derR_der {q : Nat} {f : List Int} {n : Nat} (hn : (nf q f).length ≤ n + 1) : nf q (derR q (nf q f) n) = nf q (pder f) := by
  refine nf_eq (cf_E fun i => ?_)
  unfold derR
  rw [getD_map_range, getD_pder]
  split
  · rw [getD_nf, ← Int.mul_emod]
  · have h1 := getD_nf q f (i + 1)
    rw [getD_over' (nf q f) (i + 1) (by omega)] at h1
    rw [Int.mul_emod, ← h1]; simp

set_option maxRecDepth 100000 in
set_option maxHeartbeats 2000000 in
theorem ref_Deriv {vf : Value} {q : Nat} {f : List Int} {w : World} (hf : SeesI w vf f) (hlf : f.length ≤ 65536) (hq : IsP q) :
    Calls Try.prog 47 #[vf, .int .i64 q] w fun e w' => Tells (nf q (pder f)) w e w' := by
  obtain ⟨hq0, hq2⟩ := isP_bounds hq
  have C1 := hidP (ref_Plain hf hlf hq)
  have PL : Hid (∀ v l w, SeesI w v l → l.length ≤ 65536 → Calls Try.prog 43 #[v, .int .i64 q] w fun e w' => Tells (nf q l) w e w') := fun v l w h hl => ref_Plain h hl hq
  have hlf2 := nf_len q f
  have HRf := hidP (res_nf hq0 f)
  have HD : Hid (∀ n, (nf q f).length ≤ n + 1 → nf q (derR q (nf q f) n) = nf q (pder f)) := fun n h => derR_der h
  obtain ⟨F, hF⟩ : ∃ F, nf q f = F := ⟨_, rfl⟩
  rw [hF] at C1 hlf2 HRf HD
  obtain ⟨i0, hi, hz0, hz1, hz2⟩ := info_parts info_int
  have HI := hidP hi
  have HI0 := hidP hz0
  have HI1 := hidP hz1
  have HI2 := hidP hz2
  clear hi hz0 hz1 hz2 hf hq hF
  go_enter Try.func47, Try.ntmps47
  go_wp2_with fail
  refine C1.out.mono ?_
  rintro e w1 ⟨v1, rfl, hs1, hb1⟩
  have B1 := hidP hb1
  have HA : Hid (∀ w2, Below w1.heap.size w1 w2 → SeesI w2 v1 F) := fun w2 h => SeesI.below hs1 h
  obtain ⟨A, ca, rfl, hcap⟩ := SeesF.form hs1
  clear hs1 hb1 C1
  go_wp2_with fail
  go_loopw [5, 6] (fun v5 v wr => ∃ k : Nat, k ≤ F.length - 1 ∧ v = .int .i64 ((k : Int) + 1) ∧ Hid (wr.ownsRow w1.heap.size 3 1 v5 k ((derR q F k).map vI)) ∧ Hid (Below w1.heap.size w1 wr)) (fun _ v _ => F.length - (intOf v).toNat)
  case atStart => exact ⟨0, Nat.zero_le _, by go_num, World.ownsRow_nil _ _ _ _, Below.refl _ _⟩
  case round =>
    obtain ⟨k, hk, rfl, hown, hB⟩ := hrel
    by_cases hlt : k + 1 < F.length
    · obtain ⟨b1, o1, e2, hc1'⟩ := (HA.out _ hB.out).at (by omega)
      subst e2
      have hc1 := hc1' (k + 1) hlt
      have HT := hidP (derR_succ q F k)
      have hx0 := HRf.out (k + 1)
      have m3 := Int.emod_nonneg ((k : Int) + 1) (show (q : Int) ≠ 0 by omega)
      have m4 := Int.emod_lt_of_pos ((k : Int) + 1) (show (0 : Int) < q by omega)
      have ht : Int.tmod ((k : Int) + 1) (q : Int) = ((k : Int) + 1) % (q : Int) := Int.tmod_eq_emod_of_nonneg (by omega)
      obtain ⟨x, hx⟩ : ∃ x, F.getD (k + 1) 0 = x := ⟨_, rfl⟩
      rw [hx] at hc1 hx0
      simp only [hx] at HT
      obtain ⟨u, hu⟩ : ∃ u, ((k : Int) + 1) % (q : Int) = u := ⟨_, rfl⟩
      rw [hu] at m3 m4 HT ht
      have hbd := prod_bound hx0.1 hx0.2 m3 m4 hq2
      obtain ⟨z, hz⟩ : ∃ z, x * u = z := ⟨_, rfl⟩
      rw [hz] at HT hbd
      have hwz : IntKind.i64.wrap (x * u) = z := by rw [hz, IntKind.wrap_i64]; omega
      have hwu : IntKind.i64.wrap u = u := by rw [IntKind.wrap_i64]; omega
      have hwu2 : IntKind.i64.wrap (Int.tmod ((k : Int) + 1) (q : Int)) = u := by rw [ht, hwu]
      have hwz2 : IntKind.i64.wrap (x * IntKind.i64.wrap (Int.tmod ((k : Int) + 1) (q : Int))) = z := by rw [hwu2, hwz]
      have HSz : Hid (w1.heap.size ≤ wr.heap.size) := hB.out.size
      have hk1 : IntKind.i64.wrap ((k : Int) + 1 + 1) = (k : Int) + 1 + 1 := by rw [IntKind.wrap_i64]; omega
      have kF : (k : Int) + 1 < (F.length : Int) := by omega
      have hk0 : (0 : Int) ≤ (k : Int) + 1 := by omega
      have hqn0 : ¬ q = 0 := by omega
      have hq00 : ¬ (q : Int) = 0 := by omega
      obtain ⟨X, hX⟩ : ∃ X, (derR q F k).map vI = X := ⟨_, rfl⟩
      rw [hX] at hown HT
      have HW : Hid ((wr.drew.alloc (.cells #[.int .i64 z] 3)).ownsRow w1.heap.size 3 1 u5 k X) := hown.out.alloc _
      have HNw : Hid (∀ j u, [Value.int .i64 z][j]? = some u → (wr.drew.alloc (.cells #[.int .i64 z] 3)).cell? ((⟨wr.heap.size, 0, none⟩ : Addr).add j) = some u) := news_one wr.drew z
      have HSz2 : Hid (w1.heap.size ≤ (wr.drew.alloc (.cells #[.int .i64 z] 3)).heap.size) := by show _ ≤ _; exact Nat.le_trans HSz.out (by simp)
      clear hc1' hx hX hx0 hbd hu m3 m4 hz
      go_wp2_with fail
      go_region_law (refine step_append_own rfl (.tmp 16) (.tmp 25) 22 rfl w1.heap.size 3 i0 (.int .i64 0) 1 8 Try.underlying22 HI.out HI0.out HI1.out HI2.out rfl (by decide) u5 k X (by simp [Act.eval, Act.put]) HW.out ⟨wr.heap.size, 0, none⟩ 1 1 [.int .i64 z] (by simp [Act.eval, Act.put]) rfl HNw.out (one_cell z) (by unfold maxLen; omega) (by omega) HSz2.out ?_; intro v' w4 hown4 hgrow; have HO4 := hidP hown4; have HG4 := hidP hgrow; clear hown4 hgrow)
      all_goals
        have HO : Hid (w4.ownsRow w1.heap.size 3 1 v' (k + 1) ((derR q F (k + 1)).map vI)) := by
          have := HO4.out
          rw [show [Value.int IntKind.i64 z] = [vI z] from rfl, HT.out] at this
          exact this
        have HB3 := hidP (owns_step_d hB.out HSz.out hown.out HG4.out)
        clear HO4 HG4 HW HNw HSz2 HSz HT hown hc1
        go_wp2_with fail
        go_roundw
        case rel => exact ⟨k + 1, by omega, by go_num, HO, HB3⟩
        case measure => simp [intOf]; omega
    · have ho := hown.out
      have hlen : (derR q F k).length ≤ 65536 := by unfold derR; rw [List.length_map, List.length_range]; omega
      have HE := hidP (HD.out k (by omega))
      obtain ⟨gg, hg, hm⟩ := Mine.of_owns ho (by omega)
      have CP := hidP (PL.out _ _ wr hm.sees hlen)
      rw [HE.out] at CP
      have kF : ¬ (k : Int) + 1 < (F.length : Int) := by omega
      clear ho hg hm hown hlen
      go_wp2_with fail
      refine CP.out.mono ?_
      rintro e w3 ⟨v3, rfl, hs3, hb3⟩
      have HS3 := hidP hs3
      have HB3 := hidP (step_below B1.out (step_below hB.out hb3))
      clear hs3 hb3
      go_wp2_with fail
      go_ret
      exact ⟨_, rfl, HS3.out, HB3.out⟩

theorem horner_plain {q : Nat} {F : List Int} (hF : Res q F) (x y : Int) (n : Nat) (hn : n < F.length) (hy : y = ev (F.drop (n + 1)) x % (q : Int)) : (y * (x % (q : Int)) + F.getD n 0) % (q : Int) = ev (F.drop n) x % (q : Int) := by
  have h := horner F x y n hn hy
  rwa [Int.emod_eq_of_lt (hF n).1 (hF n).2] at h

end Go.Proofs.Ytokdcgmjpnanoaa
