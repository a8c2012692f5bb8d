/- The quotient alone; the root by the prime: for the code and for the document. -/
import Derived.Test.YtokdcgmjpnanoaaSqR
import Derived.Test.YtokdcgmjpnanoaaJb2

set_option linter.unusedVariables false
set_option linter.unusedSimpArgs false
namespace Go.Proofs.Ytokdcgmjpnanoaa
open Go.RowKit

/-- The quotient by what is not 0. -/
def Quot (q : Nat) (f g : List Int) (w : World) (e : Ending) (w' : World) : Prop := ∃ vq Q R, e = .returned vq ∧ SeesI w' vq Q ∧ DivIs q f g Q R ∧ Below w.heap.size w w'
theorem root_next (q : Nat) (f : List Int) {k : Nat} (h : q * k < f.length) (hq : 0 < q) : ((rootL q f).take k).map vI ++ [vI (f.getD (q * k) 0)] = ((rootL q f).take (k + 1)).map vI := by
  have hk : k < (rootL q f).length := by
    unfold rootL
    rw [List.length_map, List.length_range]
    have h1 : q * (k + 1) ≤ f.length + (q - 1) := by rw [Nat.mul_add]; omega
    have := (Nat.le_div_iff_mul_le hq).2 (show (k + 1) * q ≤ f.length + (q - 1) by rw [Nat.mul_comm]; exact h1)
    omega
  rw [take_last hk, List.map_append]
  have : (rootL q f).getD k 0 = f.getD (q * k) 0 := by
    unfold rootL; rw [getD_map_range]
    unfold rootL at hk
    rw [List.length_map, List.length_range] at hk
    rw [if_pos hk]
  rw [this]; rfl
theorem root_all (q : Nat) (f : List Int) {k : Nat} (h : f.length ≤ q * k) (hq : 0 < q) : (rootL q f).take k = rootL q f := by
  apply List.take_of_length_le
  unfold rootL
  rw [List.length_map, List.length_range]
  have h1 : f.length + (q - 1) < (k + 1) * q := by rw [Nat.add_mul, Nat.mul_comm]; omega
  have := (Nat.div_lt_iff_lt_mul hq).2 h1
  omega
theorem rootL_len (q : Nat) (f : List Int) (hq : 0 < q) : (rootL q f).length ≤ f.length := by
  unfold rootL
  rw [List.length_map, List.length_range]
  rcases Nat.eq_zero_or_pos f.length with h | h
  · rw [h]
    have : (0 + (q - 1)) / q = 0 := Nat.div_eq_of_lt (by omega)
    omega
  · have h1 : f.length + (q - 1) < (f.length + 1) * q := by
      rw [Nat.add_mul]
      have : f.length * 1 ≤ f.length * q := Nat.mul_le_mul_left _ hq
      omega
    have := (Nat.div_lt_iff_lt_mul hq).2 h1
    omega

set_option maxRecDepth 100000 in
theorem mod_quot {va vb : Value} {q : Nat} {f g : List Int} {w : World} (hf : SeesI w va f) (hg : SeesI w vb g) (hlf : f.length ≤ 16384) (hlg : g.length ≤ 16384) (hq : IsP q) (hz : nf q g ≠ []) :
    Calls Try.prog 36 #[va, vb, .int .i64 q] w fun e w' => Quot q f g w e w' := by
  have C := hidP (mod_DM hf hg hlf hlg hq hz)
  clear hf hg hlf hlg hq hz
  go_enter Try.func36, Try.ntmps36
  go_wp2_with fail
  refine C.out.mono ?_
  rintro e w1 ⟨vq, vr, Q, R, rfl, h1, h2, h3, h4⟩
  have H1 := hidP h1
  have H3 := hidP h3
  have H4 := hidP h4
  clear h1 h2 h3 h4 C
  go_wp2_with fail
  go_ret
  exact ⟨_, Q, R, rfl, H1.out, H3.out, H4.out⟩

set_option maxRecDepth 100000 in
theorem ref_quot {va vb : Value} {q : Nat} {f g : List Int} {w : World} (hf : SeesI w va f) (hg : SeesI w vb g) (hlf : f.length ≤ 16384) (hlg : g.length ≤ 16384) (hq : IsP q) (hz : nf q g ≠ []) :
    Calls Try.prog 50 #[va, vb, .int .i64 q] w fun e w' => Quot q f g w e w' := by
  have C := hidP (ref_DM hf hg hlf hlg hq hz)
  clear hf hg hlf hlg hq hz
  go_enter Try.func50, Try.ntmps50
  go_wp2_with fail
  refine C.out.mono ?_
  rintro e w1 ⟨vq, vr, Q, R, rfl, h1, h2, h3, h4⟩
  have H1 := hidP h1
  have H3 := hidP h3
  have H4 := hidP h4
  clear h1 h2 h3 h4 C
  go_wp2_with fail
  go_ret
  exact ⟨_, Q, R, rfl, H1.out, H3.out, H4.out⟩

set_option maxRecDepth 100000 in
set_option maxHeartbeats 2000000 in
theorem mod_root {vf : Value} {q : Nat} {f : List Int} {w : World} (hf : SeesI w vf f) (hlf : f.length ≤ 65536) (hq : IsP q) :
    Calls Try.prog 60 #[vf, .int .i64 q] w fun e w' => Tells (rootL q f) w e w' := by
  obtain ⟨hq0, hq2⟩ := isP_bounds hq
  have HF : Hid (∀ w1, Below w.heap.size w w1 → SeesI w1 vf f) := fun w1 h => SeesI.below hf h
  obtain ⟨A, ca, rfl, hcap⟩ := SeesF.form hf
  obtain ⟨i0, hi, hz0, hz1, hz2⟩ := info_parts info_int
  have HI := hidP hi
  have HI0 := hidP hz0
  have HI1 := hidP hz1
  have HI2 := hidP hz2
  clear hf hq hi hz0 hz1 hz2
  go_enter Try.func60, Try.ntmps60
  go_wp2_with fail
  go_loopw [5, 6] (fun v5 v wr => ∃ k j : Nat, v = .int .i64 j ∧ j ≤ f.length + q ∧ Hid (j = q * k) ∧ k ≤ 131072 + 2147483648 ∧ Hid (wr.ownsRow w.heap.size 3 1 v5 k (((rootL q f).take k).map vI)) ∧ Hid (Below w.heap.size w wr)) (fun _ v _ => f.length + q - (intOf v).toNat)
  case atStart => exact ⟨0, 0, rfl, Nat.zero_le _, (Nat.mul_zero q).symm, Nat.zero_le _, World.ownsRow_nil _ _ _ _, Below.refl _ _⟩
  case round =>
    obtain ⟨k, j, rfl, hj, hjk, hkb, hown, hB⟩ := hrel
    by_cases hlt : j < f.length
    · obtain ⟨b1, o1, e2, hc1'⟩ := (HF.out _ hB.out).at (by omega)
      subst e2
      have hc1 := hc1' j hlt
      have HT := hidP (root_next q f (k := k) (by rw [← hjk.out]; exact hlt) hq0)
      rw [← hjk.out] at HT
      obtain ⟨z, hz⟩ : ∃ z, f.getD j 0 = z := ⟨_, rfl⟩
      rw [hz] at hc1
      simp only [hz] at HT
      have HSz : Hid (w.heap.size ≤ wr.heap.size) := hB.out.size
      have hkl : k ≤ j := by rw [hjk.out]; exact Nat.le_mul_of_pos_left k hq0
      have hk1 : IntKind.i64.wrap ((j : Int) + (q : Int)) = ((j + q : Nat) : Int) := by rw [IntKind.wrap_i64]; omega
      have hJ : Hid (j + q = q * (k + 1)) := by show _ = _; rw [Nat.mul_add, ← hjk.out]; omega
      obtain ⟨X, hX⟩ : ∃ X, ((rootL q f).take k).map vI = X := ⟨_, rfl⟩
      rw [hX] at hown HT
      clear hc1' hz hX hjk
      go_wp2_with (at_builtin; refine wpList_append_own _ rfl _ _ 22 rfl w.heap.size 3 i0 (.int .i64 0) 1 8 Try.underlying22 HI.out HI0.out HI1.out HI2.out rfl (by decide) _ _ _ rfl (hown.out.alloc _) ⟨wr.heap.size, 0, none⟩ 1 1 [.int .i64 z] rfl rfl ?qc1 ?qc2 ?qc3 ?qc4 ?qc5 ?_)
      case qc1 => exact news_one wr z
      case qc2 => exact one_cell z
      case qc3 => unfold maxLen; omega
      case qc4 => omega
      case qc5 => simp; exact Nat.le_trans HSz.out (Nat.le_succ _)
      · intro v' w3 hown' hgrow _
        have HO : Hid (w3.ownsRow w.heap.size 3 1 v' (k + 1) (((rootL q f).take (k + 1)).map vI)) := by
          have := hown'
          rw [show [Value.int IntKind.i64 z] = [vI z] from rfl, HT.out] at this
          exact this
        have HB3 := hidP (owns_step hB.out HSz.out hown.out hgrow)
        clear hown' hgrow hown HT
        go_wp2_with fail
        go_roundw
        case rel => exact ⟨k + 1, j + q, by first | rfl | go_num, by omega, hJ, by omega, HO, HB3⟩
        case measure => simp [intOf]; omega
    · have ho := hown.out
      rw [root_all q f (by rw [← hjk.out]; omega) hq0] at ho
      have hLl := rootL_len q f hq0
      have HS := hidP (ownsI_sees ho (by omega))
      clear ho hown hLl
      go_wp2_with fail
      go_ret
      exact ⟨_, rfl, HS.out, hB.out⟩

set_option maxRecDepth 100000 in
set_option maxHeartbeats 2000000 in
theorem ref_root {vf : Value} {q : Nat} {f : List Int} {w : World} (hf : SeesI w vf f) (hlf : f.length ≤ 65536) (hq : IsP q) :
    Calls Try.prog 48 #[vf, .int .i64 q] w fun e w' => Tells (rootL q f) w e w' := by
  obtain ⟨hq0, hq2⟩ := isP_bounds hq
  have HF : Hid (∀ w1, Below w.heap.size w w1 → SeesI w1 vf f) := fun w1 h => SeesI.below hf h
  obtain ⟨A, ca, rfl, hcap⟩ := SeesF.form hf
  obtain ⟨i0, hi, hz0, hz1, hz2⟩ := info_parts info_int
  have HI := hidP hi
  have HI0 := hidP hz0
  have HI1 := hidP hz1
  have HI2 := hidP hz2
  clear hf hq hi hz0 hz1 hz2
  go_enter Try.func48, Try.ntmps48
  go_wp2_with fail
  go_loopw [5, 6] (fun v5 v wr => ∃ k j : Nat, v = .int .i64 j ∧ j ≤ f.length + q ∧ Hid (j = q * k) ∧ k ≤ 131072 + 2147483648 ∧ Hid (wr.ownsRow w.heap.size 3 1 v5 k (((rootL q f).take k).map vI)) ∧ Hid (Below w.heap.size w wr)) (fun _ v _ => f.length + q - (intOf v).toNat)
  case atStart => exact ⟨0, 0, rfl, Nat.zero_le _, (Nat.mul_zero q).symm, Nat.zero_le _, World.ownsRow_nil _ _ _ _, Below.refl _ _⟩
  case round =>
    obtain ⟨k, j, rfl, hj, hjk, hkb, hown, hB⟩ := hrel
    by_cases hlt : j < f.length
    · obtain ⟨b1, o1, e2, hc1'⟩ := (HF.out _ hB.out).at (by omega)
      subst e2
      have hc1 := hc1' j hlt
      have HT := hidP (root_next q f (k := k) (by rw [← hjk.out]; exact hlt) hq0)
      rw [← hjk.out] at HT
      obtain ⟨z, hz⟩ : ∃ z, f.getD j 0 = z := ⟨_, rfl⟩
      rw [hz] at hc1
      simp only [hz] at HT
      have HSz : Hid (w.heap.size ≤ wr.heap.size) := hB.out.size
      have hkl : k ≤ j := by rw [hjk.out]; exact Nat.le_mul_of_pos_left k hq0
      have hk1 : IntKind.i64.wrap ((j : Int) + (q : Int)) = ((j + q : Nat) : Int) := by rw [IntKind.wrap_i64]; omega
      have hJ : Hid (j + q = q * (k + 1)) := by show _ = _; rw [Nat.mul_add, ← hjk.out]; omega
      obtain ⟨X, hX⟩ : ∃ X, ((rootL q f).take k).map vI = X := ⟨_, rfl⟩
      rw [hX] at hown HT
      clear hc1' hz hX hjk
      go_wp2_with (at_builtin; refine wpList_append_own _ rfl _ _ 22 rfl w.heap.size 3 i0 (.int .i64 0) 1 8 Try.underlying22 HI.out HI0.out HI1.out HI2.out rfl (by decide) _ _ _ rfl (hown.out.alloc _) ⟨wr.heap.size, 0, none⟩ 1 1 [.int .i64 z] rfl rfl ?qc1 ?qc2 ?qc3 ?qc4 ?qc5 ?_)
      case qc1 => exact news_one wr z
      case qc2 => exact one_cell z
      case qc3 => unfold maxLen; omega
      case qc4 => omega
      case qc5 => simp; exact Nat.le_trans HSz.out (Nat.le_succ _)
      · intro v' w3 hown' hgrow _
        have HO : Hid (w3.ownsRow w.heap.size 3 1 v' (k + 1) (((rootL q f).take (k + 1)).map vI)) := by
          have := hown'
          rw [show [Value.int IntKind.i64 z] = [vI z] from rfl, HT.out] at this
          exact this
        have HB3 := hidP (owns_step hB.out HSz.out hown.out hgrow)
        clear hown' hgrow hown HT
        go_wp2_with fail
        go_roundw
        case rel => exact ⟨k + 1, j + q, by first | rfl | go_num, by omega, hJ, by omega, HO, HB3⟩
        case measure => simp [intOf]; omega
    · have ho := hown.out
      rw [root_all q f (by rw [← hjk.out]; omega) hq0] at ho
      have hLl := rootL_len q f hq0
      have HS := hidP (ownsI_sees ho (by omega))
      clear ho hown hLl
      go_wp2_with fail
      go_ret
      exact ⟨_, rfl, HS.out, hB.out⟩
end Go.Proofs.Ytokdcgmjpnanoaa
