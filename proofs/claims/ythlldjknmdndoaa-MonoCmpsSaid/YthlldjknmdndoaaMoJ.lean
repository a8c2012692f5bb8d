/- mono.areNames, mono.Check, mono.Right: by their contracts. -/
import Derived.Test.YthlldjknmdndoaaMoC
import Derived.Test.YthlldjknmdndoaaMoI
set_option linter.unusedVariables false
set_option linter.unusedSimpArgs false
namespace Go.Proofs.Ythlldjknmdndoaa
open Go.RowKit

/-- A valid ring's names. -/
def namesB (l : List ByteArray) : Bool := decide (1 ≤ l.length ∧ l.length ≤ 6 ∧ ∀ i, i < l.length → nameB (l.getD i ByteArray.empty) = true ∧ memB (l.take i) (l.getD i ByteArray.empty) = false)

set_option maxHeartbeats 1000000 in
theorem mono_areNames {a : Value} {l : List ByteArray} {w : World} (ha : SeesS w a l) :
    Calls Try.prog 31 #[a] w fun e w' => e = .returned (.bool (namesB l)) ∧ w = w' := by
  have hlen := ha.len
  have HA := hidP ha
  obtain ⟨A, ca, rfl, hcap⟩ := SeesF.form ha
  clear ha
  obtain ⟨r, hr⟩ : ∃ r, namesB l = r := ⟨_, rfl⟩
  have HR : Hid (decide (1 ≤ l.length ∧ l.length ≤ 6 ∧ ∀ i, i < l.length → nameB (l.getD i ByteArray.empty) = true ∧ memB (l.take i) (l.getD i ByteArray.empty) = false) = r) := hr
  rw [hr]
  clear hr
  by_cases h1 : 1 ≤ l.length
  · have g1 : ((l.length : Int) == 0) = false := by rw [beq_eq_false_iff_ne]; omega
    by_cases h6 : l.length ≤ 6
    · go_enter Try.func31, Try.ntmps31
      go_wp2
      go_loop [15] (fun v => ∃ k : Nat, k ≤ l.length ∧ v = .int .i64 k ∧ Hid (∀ i, i < k → nameB (l.getD i ByteArray.empty) = true ∧ memB (l.take i) (l.getD i ByteArray.empty) = false)) (fun v => l.length - (intOf v).toNat)
      case atStart => exact ⟨0, Nat.zero_le _, rfl, fun i hi => absurd hi (by omega)⟩
      case round =>
        obtain ⟨k, hk, rfl, hz⟩ := hrel
        by_cases hlt : k < l.length
        · obtain ⟨b1, o1, rfl, hc'⟩ := HA.out.at (by omega)
          have hc := hc' k hlt
          have C1 := hidP (mono_isName (l.getD k ByteArray.empty) w)
          have C2 := hidP (slices_Contains (l.getD k ByteArray.empty) (SeesF.take HA.out k hk))
          have HZ : Hid (nameB (l.getD k ByteArray.empty) = true → memB (l.take k) (l.getD k ByteArray.empty) = false → ∀ i, i < k + 1 → nameB (l.getD i ByteArray.empty) = true ∧ memB (l.take i) (l.getD i ByteArray.empty) = false) := fun h1 h2 i hi => by
            by_cases e : i = k
            · subst e; exact ⟨h1, h2⟩
            · exact hz.out i (by omega)
          have HF : Hid (¬ (nameB (l.getD k ByteArray.empty) = true ∧ memB (l.take k) (l.getD k ByteArray.empty) = false) → r = false) := fun h => by
            rw [← HR.out, decide_eq_false]
            rintro ⟨-, -, h2⟩
            exact h (h2 k hlt)
          clear hc' hz
          obtain ⟨s, hs⟩ : ∃ s, l.getD k ByteArray.empty = s := ⟨_, rfl⟩
          rw [hs] at hc HZ HF C1 C2
          clear hs
          obtain ⟨p, hp⟩ : ∃ p, nameB s = p := ⟨_, rfl⟩
          obtain ⟨q, hq⟩ : ∃ q, memB (l.take k) s = q := ⟨_, rfl⟩
          rw [hp] at HZ HF C1
          rw [hq] at HZ HF C2
          clear hp hq
          cases p with
          | false =>
            have HF2 := hidP (HF.out (by simp))
            clear HZ HF C2
            go_wp2_with fail
            refine C1.out.mono ?_
            rintro e w0 ⟨rfl, rfl⟩
            go_wp2
            go_ret
            exact ⟨ret_bool HF2.out.symm, rfl⟩
          | true =>
            cases q with
            | true =>
              have HF2 := hidP (HF.out (by simp))
              clear HZ HF
              go_wp2_with fail
              refine C1.out.mono ?_
              rintro e w0 ⟨rfl, rfl⟩
              go_wp2_with fail
              refine C2.out.mono ?_
              rintro e w0 ⟨rfl, rfl⟩
              go_wp2
              go_ret
              exact ⟨ret_bool HF2.out.symm, rfl⟩
            | false =>
              have HZ2 := hidP (HZ.out rfl rfl)
              clear HZ HF
              go_wp2_with fail
              refine C1.out.mono ?_
              rintro e w0 ⟨rfl, rfl⟩
              go_wp2_with fail
              refine C2.out.mono ?_
              rintro e w0 ⟨rfl, rfl⟩
              go_wp2
              go_round
              case rel => exact ⟨k + 1, by omega, by go_num, HZ2⟩
              case measure => simp [intOf]; omega
        · have HT : Hid (r = true) := by
            show r = true
            rw [← HR.out, decide_eq_true]
            exact ⟨h1, h6, fun i hi => hz.out i (by omega)⟩
          clear hz
          go_wp2
          go_ret
          exact ⟨ret_bool HT.out.symm, rfl⟩
    · have hf : r = false := by
        rw [← HR.out, decide_eq_false]
        rintro ⟨-, h, -⟩
        omega
      subst hf
      clear HR HA
      go_enter Try.func31, Try.ntmps31
      go_wp2
      go_ret
      exact ⟨rfl, rfl⟩
  · have hf : r = false := by
      rw [← HR.out, decide_eq_false]
      rintro ⟨h, -, -⟩
      omega
    subst hf
    have g1 : ((l.length : Int) == 0) = true := by rw [beq_iff_eq]; omega
    clear HR HA
    go_enter Try.func31, Try.ntmps31
    go_wp2
    go_ret
    exact ⟨rfl, rfl⟩
end Go.Proofs.Ythlldjknmdndoaa
