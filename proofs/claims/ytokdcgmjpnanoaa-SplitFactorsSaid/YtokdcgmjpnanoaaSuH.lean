/- The document's Factor by its contract. -/
import Derived.Test.YtokdcgmjpnanoaaSuG

set_option linter.unusedVariables false
set_option linter.unusedSimpArgs false
namespace Go.Proofs.Ytokdcgmjpnanoaa
open Go.RowKit

set_option maxRecDepth 100000 in
set_option maxHeartbeats 2000000 in
theorem ref_Factor0 {vf : Value} {q : Nat} {f : List Int} {w : World} (hf : SeesI w vf f) (hlf : f.length ≤ 60) (hq : IsP q) (hz : nf q f = []) :
    Calls Try.prog 9 #[vf, .int .i64 q] w fun e w' => e = .returned (.tuple #[.slice none 0 0, .int .i64 30]) ∧ Below w.heap.size w w' := by
  have IS := hidP (fun w => ref_is_prime hq w)
  have CM : Hid (∀ w1, Below w.heap.size w w1 → Calls Try.prog 22 #[vf, .int .i64 q] w1 fun e w' => Tells [] w1 e w') := fun w1 h => by
    have h2 := ref_Monic (SeesI.below hf h) (by omega) hq
    have e := monF_zero hq hz
    unfold monF at e
    rwa [e] at h2
  obtain ⟨A, ca, rfl, hcap⟩ := SeesF.form hf
  clear hf hlf hq hz hcap
  go_enter Try.func9, Try.ntmps9
  go_wp2_with fail
  refine (IS.out _).mono ?_
  rintro e w1 ⟨rfl, hb1⟩
  have B1 := hidP hb1
  clear hb1
  go_wp2_with fail
  refine (CM.out _ B1.out).mono ?_
  rintro e w2 ⟨v2, rfl, hs2, hb2⟩
  obtain ⟨a2, c2, e2, -⟩ := SeesF.form hs2
  subst e2
  have B2 := hidP (step_below B1.out hb2)
  clear hs2 hb2
  go_wp2_with fail
  go_ret2
  exact ⟨rfl, B2.out⟩
set_option maxRecDepth 100000 in
set_option maxHeartbeats 2000000 in
theorem ref_Factor {vf : Value} {q : Nat} {f : List Int} {w : World} (hf : SeesI w vf f) (hlf : f.length ≤ 60) (hq : IsP q) (hq7 : q ≤ 7) (hz : nf q f ≠ []) :
    Calls Try.prog 9 #[vf, .int .i64 q] w fun e w' => FactorTells q f w e w' := by
  have IS := hidP (fun w => ref_is_prime hq w)
  have CM : Hid (∀ w1, Below w.heap.size w w1 → Calls Try.prog 22 #[vf, .int .i64 q] w1 fun e w' => Tells (monF q f) w1 e w') := fun w1 h => ref_Monic (SeesI.below hf h) (by omega) hq
  obtain ⟨mF, hFl⟩ := monF_mo hq hz
  have hnl := nf_len q f
  have HM := hidP mF
  have HQ := hidP hq
  have hl60 : (monF q f).length ≤ 60 := by omega
  obtain ⟨F, hF⟩ : ∃ F, monF q f = F := ⟨_, rfl⟩
  have HFe := hidP hF
  rw [hF] at CM HM hl60
  have hp := List.length_pos_iff.2 HM.out.ne
  have hb0 : ((F.length : Int) == 0) = false := by rw [beq_eq_false_iff_ne]; omega
  obtain ⟨A, ca, rfl, hcap⟩ := SeesF.form hf
  clear hf hlf hq hz hcap mF hFl hnl hF
  go_enter Try.func9, Try.ntmps9
  go_wp2_with fail
  refine (IS.out _).mono ?_
  rintro e w1 ⟨rfl, hb1⟩
  have B1 := hidP hb1
  clear hb1
  go_wp2_with fail
  refine (CM.out _ B1.out).mono ?_
  rintro e w2 ⟨v2, rfl, hs2, hb2⟩
  have CP := hidP (ref_pieces HQ.out hq7 F.length v2 F w2 (Nat.le_refl _) hl60 hs2 HM.out)
  obtain ⟨a2, c2, e2, -⟩ := SeesF.form hs2
  subst e2
  have B2 := hidP (step_below B1.out hb2)
  clear hs2 hb2
  go_wp2_with fail
  refine CP.out.mono ?_
  rintro e w3 ⟨v3, L, rfl, hs3, hf3, hb3⟩
  have B3 := hidP (step_below B2.out hb3)
  have CS := hidP (ref_Sorted hs3 (by have := hf3.len HQ.out HM.out; omega))
  have HF3 := hidP hf3
  clear hs3 hf3 hb3 CP
  go_wp2_with fail
  refine CS.out.mono ?_
  rintro e w4 ⟨v4, L', rfl, hs4, hp4, hso4, hb4⟩
  have HR : Hid (FactorTells q f w (.returned (.tuple #[v4, .int .i64 0])) w4) := ⟨_, L', rfl, hs4, by rw [HFe.out]; exact HF3.out.of_perm hp4, hso4, step_below B3.out hb4⟩
  clear hs4 hp4 hso4 hb4 CS
  go_wp2_with fail
  go_ret2
  exact HR.out
end Go.Proofs.Ytokdcgmjpnanoaa
