/- Names of variables: mono.isLetter, isDigit, isName; the document's letter, Named: by their contracts. -/
import Derived.Test.YthlldjknmdndoaaMoM
set_option linter.unusedVariables false
set_option linter.unusedSimpArgs false
namespace Go.Proofs.Ythlldjknmdndoaa
open Go.RowKit

/-- The i-th letter's number. -/
def let8 (t : ByteArray) (i : Nat) : Nat := (t.data.toList.getD i 0).toNat
theorem let8_at (t : ByteArray) (i : Nat) (h : i < t.size) : (t[i]'h).toNat = let8 t i := by
  have h2 : i < t.data.size := h
  unfold let8
  rw [List.getD_eq_getElem?_getD, Array.getElem?_toList, Array.getElem?_eq_getElem h2]
  rfl
theorem let8_lt (t : ByteArray) (i : Nat) : let8 t i < 256 := by
  unfold let8
  exact (t.data.toList.getD i 0).toNat_lt

def isLet (c : Nat) : Bool := decide ((97 ≤ c ∧ c ≤ 122) ∨ (65 ≤ c ∧ c ≤ 90))
def isDig (c : Nat) : Bool := decide (48 ≤ c ∧ c ≤ 57)
/-- A text may be a variable's name. -/
def nameB (t : ByteArray) : Bool := decide (1 ≤ t.size ∧ t.size ≤ 8 ∧ isLet (let8 t 0) = true ∧ ∀ i, i < t.size → isLet (let8 t i) = true ∨ isDig (let8 t i) = true)

theorem mono_isLetter (c : Nat) (w : World) :
    Calls Try.prog 54 #[.int .u8 c] w fun e w' => e = .returned (.bool (isLet c)) ∧ w = w' := by
  obtain ⟨r, hr⟩ : ∃ r, isLet c = r := ⟨_, rfl⟩
  have HR : Hid (decide ((97 ≤ c ∧ c ≤ 122) ∨ (65 ≤ c ∧ c ≤ 90)) = r) := hr
  rw [hr]
  clear hr
  by_cases h1 : 97 ≤ c
  · by_cases h2 : c ≤ 122
    · have e := HR.out; rw [decide_eq_true (by omega)] at e; subst e; clear HR
      go_enter Try.func54, Try.ntmps54
      go_wp2
      go_ret
      exact ⟨ret_bool (by first | rfl | (simp; done) | (simp; omega)), rfl⟩
    · have e := HR.out; rw [decide_eq_false (by omega)] at e; subst e; clear HR
      have h3 : ¬ c ≤ 90 := by omega
      have h4 : 65 ≤ c := by omega
      go_enter Try.func54, Try.ntmps54
      go_wp2
      go_ret
      exact ⟨ret_bool (by first | rfl | (simp; done) | (simp; omega)), rfl⟩
  · by_cases h2 : 65 ≤ c
    · by_cases h3 : c ≤ 90
      · have e := HR.out; rw [decide_eq_true (by omega)] at e; subst e; clear HR
        go_enter Try.func54, Try.ntmps54
        go_wp2
        go_ret
        exact ⟨ret_bool (by first | rfl | (simp; done) | (simp; omega)), rfl⟩
      · have e := HR.out; rw [decide_eq_false (by omega)] at e; subst e; clear HR
        go_enter Try.func54, Try.ntmps54
        go_wp2
        go_ret
        exact ⟨ret_bool (by first | rfl | (simp; done) | (simp; omega)), rfl⟩
    · have e := HR.out; rw [decide_eq_false (by omega)] at e; subst e; clear HR
      go_enter Try.func54, Try.ntmps54
      go_wp2
      go_ret
      exact ⟨ret_bool (by first | rfl | (simp; done) | (simp; omega)), rfl⟩

theorem ref_letter (c : Nat) (w : World) :
    Calls Try.prog 50 #[.int .u8 c] w fun e w' => e = .returned (.bool (isLet c)) ∧ w = w' := by
  obtain ⟨r, hr⟩ : ∃ r, isLet c = r := ⟨_, rfl⟩
  have HR : Hid (decide ((97 ≤ c ∧ c ≤ 122) ∨ (65 ≤ c ∧ c ≤ 90)) = r) := hr
  rw [hr]
  clear hr
  by_cases h1 : 65 ≤ c
  · by_cases h2 : c ≤ 90
    · have e := HR.out; rw [decide_eq_true (by omega)] at e; subst e; clear HR
      go_enter Try.func50, Try.ntmps50
      go_wp2
      go_ret
      exact ⟨ret_bool (by first | rfl | (simp; done) | (simp; omega)), rfl⟩
    · by_cases h3 : 97 ≤ c
      · by_cases h4 : c ≤ 122
        · have e := HR.out; rw [decide_eq_true (by omega)] at e; subst e; clear HR
          go_enter Try.func50, Try.ntmps50
          go_wp2
          go_ret
          exact ⟨ret_bool (by first | rfl | (simp; done) | (simp; omega)), rfl⟩
        · have e := HR.out; rw [decide_eq_false (by omega)] at e; subst e; clear HR
          go_enter Try.func50, Try.ntmps50
          go_wp2
          go_ret
          exact ⟨ret_bool (by first | rfl | (simp; done) | (simp; omega)), rfl⟩
      · have e := HR.out; rw [decide_eq_false (by omega)] at e; subst e; clear HR
        go_enter Try.func50, Try.ntmps50
        go_wp2
        go_ret
        exact ⟨ret_bool (by first | rfl | (simp; done) | (simp; omega)), rfl⟩
  · have e := HR.out; rw [decide_eq_false (by omega)] at e; subst e; clear HR
    have h3 : ¬ 97 ≤ c := by omega
    go_enter Try.func50, Try.ntmps50
    go_wp2
    go_ret
    exact ⟨ret_bool (by first | rfl | (simp; done) | (simp; omega)), rfl⟩

theorem mono_isDigit (c : Nat) (w : World) :
    Calls Try.prog 55 #[.int .u8 c] w fun e w' => e = .returned (.bool (isDig c)) ∧ w = w' := by
  obtain ⟨r, hr⟩ : ∃ r, isDig c = r := ⟨_, rfl⟩
  have HR : Hid (decide (48 ≤ c ∧ c ≤ 57) = r) := hr
  rw [hr]
  clear hr
  by_cases h1 : 48 ≤ c
  · by_cases h2 : c ≤ 57
    · have e := HR.out; rw [decide_eq_true (by omega)] at e; subst e; clear HR
      go_enter Try.func55, Try.ntmps55
      go_wp2
      go_ret
      exact ⟨ret_bool (by first | rfl | (simp; done) | (simp; omega)), rfl⟩
    · have e := HR.out; rw [decide_eq_false (by omega)] at e; subst e; clear HR
      go_enter Try.func55, Try.ntmps55
      go_wp2
      go_ret
      exact ⟨ret_bool (by first | rfl | (simp; done) | (simp; omega)), rfl⟩
  · have e := HR.out; rw [decide_eq_false (by omega)] at e; subst e; clear HR
    go_enter Try.func55, Try.ntmps55
    go_wp2
    go_ret
    exact ⟨ret_bool (by first | rfl | (simp; done) | (simp; omega)), rfl⟩

theorem size_list (t : ByteArray) : t.toList.length = t.size := by rw [ByteArray.toList_eq]; cases t; rfl
theorem empty_iff (t : ByteArray) (h : 0 < t.size) : ¬ t.toList = [] ∧ t.toList.isEmpty = false := by
  have hE : ¬ t.toList = [] := fun e => by have := size_list t; rw [e] at this; simp at this; omega
  exact ⟨hE, by rw [List.isEmpty_eq_false_iff]; exact hE⟩

theorem not_empty {t : ByteArray} (h : 0 < t.size) : ¬ t = ByteArray.empty := fun e => by rw [e] at h; simp at h
theorem is_empty {t : ByteArray} (h : ¬ 0 < t.size) : t = ByteArray.empty := by
  have h2 : t.data.size = 0 := by have : t.data.size = t.size := rfl; omega
  cases t with
  | mk d => simp only [ByteArray.empty, ByteArray.emptyWithCapacity]; congr 1; exact Array.eq_empty_of_size_eq_zero h2

set_option maxHeartbeats 1000000 in
theorem mono_isName (t : ByteArray) (w : World) :
    Calls Try.prog 48 #[.string t] w fun e w' => e = .returned (.bool (nameB t)) ∧ w = w' := by
  obtain ⟨r, hr⟩ : ∃ r, nameB t = r := ⟨_, rfl⟩
  have HR : Hid (decide (1 ≤ t.size ∧ t.size ≤ 8 ∧ isLet (let8 t 0) = true ∧ ∀ i, i < t.size → isLet (let8 t i) = true ∨ isDig (let8 t i) = true) = r) := hr
  rw [hr]
  clear hr
  by_cases h0 : 0 < t.size
  · have hE := not_empty h0
    have hE2 : ((t.size : Int) == 0) = false := by simp; omega
    by_cases h8 : t.size ≤ 8
    · have C0 := hidP (mono_isLetter (let8 t 0))
      have hx0 := let8_at t 0 h0
      have h8' : ¬ (t.size : Int) > 8 := by omega
      cases hl0 : isLet (let8 t 0) with
      | true =>
        rw [hl0] at C0
        have HL0 := hidP hl0
        clear hl0
        obtain ⟨x0, hx0e⟩ : ∃ x0, let8 t 0 = x0 := ⟨_, rfl⟩
        rw [hx0e] at hx0 C0
        clear hx0e
        go_enter Try.func48, Try.ntmps48
        go_wp2_with fail
        refine (C0.out _).mono ?_
        rintro e w0 ⟨rfl, rfl⟩
        go_wp2
        go_loop [20] (fun v => ∃ k : Nat, k ≤ t.size ∧ v = .int .i64 k ∧ Hid (∀ i, i < k → isLet (let8 t i) = true ∨ isDig (let8 t i) = true)) (fun v => t.size - (intOf v).toNat)
        case atStart => exact ⟨0, Nat.zero_le _, rfl, fun i hi => absurd hi (by omega)⟩
        case round =>
          obtain ⟨k, hk, rfl, hz⟩ := hrel
          by_cases hlt : k < t.size
          · have hx := let8_at t k hlt
            have C1 := hidP (mono_isLetter (let8 t k))
            have C2 := hidP (mono_isDigit (let8 t k))
            have HZ : Hid (isLet (let8 t k) = true ∨ isDig (let8 t k) = true → ∀ i, i < k + 1 → isLet (let8 t i) = true ∨ isDig (let8 t i) = true) := fun h i hi => by
              by_cases e : i = k
              · subst e; exact h
              · exact hz.out i (by omega)
            have HF : Hid (isLet (let8 t k) = false → isDig (let8 t k) = false → r = false) := fun h1 h2 => by
              rw [← HR.out, decide_eq_false]
              rintro ⟨-, -, -, h⟩
              have := h k hlt
              rw [h1, h2] at this
              simp at this
            obtain ⟨x, hxe⟩ : ∃ x, let8 t k = x := ⟨_, rfl⟩
            obtain ⟨p, hp⟩ : ∃ p, isLet (let8 t k) = p := ⟨_, rfl⟩
            obtain ⟨q, hq⟩ : ∃ q, isDig (let8 t k) = q := ⟨_, rfl⟩
            rw [hp, hq] at HZ HF
            rw [hp, hxe] at C1
            rw [hq, hxe] at C2
            rw [hxe] at hx
            clear hxe hp hq hz
            cases p with
            | true =>
              have HZ2 := hidP (HZ.out (.inl rfl))
              clear HZ HF C2
              go_wp2_with fail
              refine (C1.out _).mono ?_
              rintro e w0 ⟨rfl, rfl⟩
              go_wp2
              go_round
              case rel => exact ⟨k + 1, by omega, by go_num, HZ2⟩
              case measure => simp [intOf]; omega
            | false =>
              cases q with
              | true =>
                have HZ2 := hidP (HZ.out (.inr rfl))
                clear HZ HF
                go_wp2_with fail
                refine (C1.out _).mono ?_
                rintro e w0 ⟨rfl, rfl⟩
                go_wp2_with fail
                refine (C2.out _).mono ?_
                rintro e w0 ⟨rfl, rfl⟩
                go_wp2
                go_round
                case rel => exact ⟨k + 1, by omega, by go_num, HZ2⟩
                case measure => simp [intOf]; omega
              | false =>
                have HF2 := hidP (HF.out rfl rfl)
                clear HZ HF
                go_wp2_with fail
                refine (C1.out _).mono ?_
                rintro e w0 ⟨rfl, rfl⟩
                go_wp2_with fail
                refine (C2.out _).mono ?_
                rintro e w0 ⟨rfl, rfl⟩
                go_wp2
                go_ret
                exact ⟨ret_bool HF2.out.symm, rfl⟩
          · have HT : Hid (r = true) := by
              show r = true
              rw [← HR.out, decide_eq_true]
              exact ⟨h0, h8, HL0.out, fun i hi => hz.out i (by omega)⟩
            clear hz
            go_wp2
            go_ret
            exact ⟨ret_bool HT.out.symm, rfl⟩
      | false =>
        have hf : r = false := by
          rw [← HR.out, decide_eq_false]
          rintro ⟨-, -, h, -⟩
          rw [hl0] at h; cases h
        rw [hl0] at C0
        subst hf
        clear HR hl0
        obtain ⟨x0, hx0e⟩ : ∃ x0, let8 t 0 = x0 := ⟨_, rfl⟩
        rw [hx0e] at hx0 C0
        clear hx0e
        go_enter Try.func48, Try.ntmps48
        go_wp2_with fail
        refine (C0.out _).mono ?_
        rintro e w0 ⟨rfl, rfl⟩
        go_wp2
        go_ret
        exact ⟨rfl, rfl⟩
    · have hf : r = false := by
        rw [← HR.out, decide_eq_false]
        rintro ⟨-, h, -, -⟩
        omega
      subst hf
      clear HR
      go_enter Try.func48, Try.ntmps48
      go_wp2
      go_ret
      exact ⟨rfl, rfl⟩
  · have hf : r = false := by
      rw [← HR.out, decide_eq_false]
      rintro ⟨h, -, -, -⟩
      omega
    subst hf
    obtain rfl := is_empty h0
    clear HR h0
    go_enter Try.func48, Try.ntmps48
    go_wp2
    go_ret
    exact ⟨rfl, rfl⟩
end Go.Proofs.Ythlldjknmdndoaa
