/- The document's Named; slices.Index and slices.Contains of texts; mono.areNames, mono.isOrder: by their contracts. -/
import Derived.Test.YthlldjknmdndoaaMoG
set_option linter.unusedVariables false
set_option linter.unusedSimpArgs false
namespace Go.Proofs.Ythlldjknmdndoaa
open Go.RowKit

set_option maxHeartbeats 1000000 in
theorem ref_Named (t : ByteArray) (w : World) :
    Calls Try.prog 33 #[.string t] w fun e w' => e = .returned (.bool (nameB t)) ∧ w = w' := by
  obtain ⟨r, hr⟩ : ∃ r, nameB t = r := ⟨_, rfl⟩
  have HR : Hid (decide (1 ≤ t.size ∧ t.size ≤ 8 ∧ isLet (let8 t 0) = true ∧ ∀ i, i < t.size → isLet (let8 t i) = true ∨ isDig (let8 t i) = true) = r) := hr
  rw [hr]
  clear hr
  by_cases h0 : 0 < t.size
  · have hE := not_empty h0
    have hE2 : ((t.size : Int) == 0) = false := by simp; omega
    by_cases h8 : t.size ≤ 8
    · have C0 := hidP (ref_letter (let8 t 0))
      have hx0 := let8_at t 0 h0
      have h8' : ¬ (t.size : Int) > 8 := by omega
      cases hl0 : isLet (let8 t 0) with
      | true =>
        rw [hl0] at C0
        have HL0 := hidP hl0
        clear hl0
        obtain ⟨x0, hx0e⟩ : ∃ x0, let8 t 0 = x0 := ⟨_, rfl⟩
        rw [hx0e] at hx0 C0
        clear hx0e
        go_enter Try.func33, Try.ntmps33
        go_wp2_with fail
        refine (C0.out _).mono ?_
        rintro e w0 ⟨rfl, rfl⟩
        go_wp2
        go_loop [3] (fun v => ∃ k : Nat, k ≤ t.size ∧ v = .int .i64 k ∧ Hid (∀ i, i < k → isLet (let8 t i) = true ∨ isDig (let8 t i) = true)) (fun v => t.size - (intOf v).toNat)
        case atStart => exact ⟨1, h0, rfl, fun i hi => by
            obtain rfl : i = 0 := by omega
            exact .inl HL0.out⟩
        case round =>
          obtain ⟨k, hk, rfl, hz⟩ := hrel
          by_cases hlt : k < t.size
          · have hx := let8_at t k hlt
            have C1 := hidP (ref_letter (let8 t k))
            have HD : Hid (isDig (let8 t k) = decide (48 ≤ let8 t k ∧ let8 t k ≤ 57)) := rfl
            have HZ : Hid (isLet (let8 t k) = true ∨ isDig (let8 t k) = true → ∀ i, i < k + 1 → isLet (let8 t i) = true ∨ isDig (let8 t i) = true) := fun h i hi => by
              by_cases e : i = k
              · subst e; exact h
              · exact hz.out i (by omega)
            have HF : Hid (isLet (let8 t k) = false → isDig (let8 t k) = false → r = false) := fun h1 h2 => by
              rw [← HR.out, decide_eq_false]
              rintro ⟨-, -, -, h⟩
              have := h k hlt
              rw [h1, h2] at this
              simp at this
            obtain ⟨x, hxe⟩ : ∃ x, let8 t k = x := ⟨_, rfl⟩
            obtain ⟨p, hp⟩ : ∃ p, isLet (let8 t k) = p := ⟨_, rfl⟩
            obtain ⟨q, hq⟩ : ∃ q, isDig (let8 t k) = q := ⟨_, rfl⟩
            rw [hp, hq] at HZ HF
            rw [hp, hxe] at C1
            rw [hq, hxe] at HD
            rw [hxe] at hx
            clear hxe hp hq hz
            cases p with
            | true =>
              have HZ2 := hidP (HZ.out (.inl rfl))
              clear HZ HF HD
              go_wp2_with fail
              refine (C1.out _).mono ?_
              rintro e w0 ⟨rfl, rfl⟩
              go_wp2
              go_round
              case rel => exact ⟨k + 1, by omega, by go_num, HZ2⟩
              case measure => simp [intOf]; omega
            | false =>
              by_cases d1 : 48 ≤ x
              · by_cases d2 : x ≤ 57
                · have hq := HD.out
                  rw [decide_eq_true ⟨d1, d2⟩] at hq
                  have HZ2 := hidP (HZ.out (.inr hq))
                  have e1 : ¬ x < 48 := by omega
                  have e2 : ¬ x > 57 := by omega
                  clear HZ HF hq HD d1 d2
                  go_wp2_with fail
                  refine (C1.out _).mono ?_
                  rintro e w0 ⟨rfl, rfl⟩
                  go_wp2
                  go_round
                  case rel => exact ⟨k + 1, by omega, by go_num, HZ2⟩
                  case measure => simp [intOf]; omega
                · have hq := HD.out
                  rw [decide_eq_false (by omega)] at hq
                  have HF2 := hidP (HF.out rfl hq)
                  have e1 : ¬ x < 48 := by omega
                  have e2 : x > 57 := by omega
                  clear HZ HF hq HD d1 d2
                  go_wp2_with fail
                  refine (C1.out _).mono ?_
                  rintro e w0 ⟨rfl, rfl⟩
                  go_wp2
                  go_ret
                  exact ⟨ret_bool HF2.out.symm, rfl⟩
              · have hq := HD.out
                rw [decide_eq_false (by omega)] at hq
                have HF2 := hidP (HF.out rfl hq)
                have e1 : x < 48 := by omega
                clear HZ HF hq HD d1
                go_wp2_with fail
                refine (C1.out _).mono ?_
                rintro e w0 ⟨rfl, rfl⟩
                go_wp2
                go_ret
                exact ⟨ret_bool HF2.out.symm, rfl⟩
          · have HT : Hid (r = true) := by
              show r = true
              rw [← HR.out, decide_eq_true]
              exact ⟨h0, h8, HL0.out, fun i hi => hz.out i (by omega)⟩
            clear hz
            go_wp2
            go_ret
            exact ⟨ret_bool HT.out.symm, rfl⟩
      | false =>
        have hf : r = false := by
          rw [← HR.out, decide_eq_false]
          rintro ⟨-, -, h, -⟩
          rw [hl0] at h; cases h
        rw [hl0] at C0
        subst hf
        clear HR hl0
        obtain ⟨x0, hx0e⟩ : ∃ x0, let8 t 0 = x0 := ⟨_, rfl⟩
        rw [hx0e] at hx0 C0
        clear hx0e
        go_enter Try.func33, Try.ntmps33
        go_wp2_with fail
        refine (C0.out _).mono ?_
        rintro e w0 ⟨rfl, rfl⟩
        go_wp2
        go_ret
        exact ⟨rfl, rfl⟩
    · have hf : r = false := by
        rw [← HR.out, decide_eq_false]
        rintro ⟨-, h, -, -⟩
        omega
      subst hf
      clear HR
      go_enter Try.func33, Try.ntmps33
      go_wp2
      go_ret
      exact ⟨rfl, rfl⟩
  · have hf : r = false := by
      rw [← HR.out, decide_eq_false]
      rintro ⟨h, -, -, -⟩
      omega
    subst hf
    obtain rfl := is_empty h0
    clear HR h0
    go_enter Try.func33, Try.ntmps33
    go_wp2
    go_ret
    exact ⟨rfl, rfl⟩
end Go.Proofs.Ythlldjknmdndoaa
