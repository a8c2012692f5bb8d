/- The document's Parse by its contract. -/
import Derived.Test.YtjnibefigglcjaaDoorParse3
set_option linter.unusedVariables false
set_option linter.unusedSimpArgs false
namespace Go.Proofs.YtjnibefigglcjaaDoor
open Go.RowKit

/-- A list of as many limbs as its number needs is the number's own. -/
theorem limbs_of_ge {t : List Nat} (hok : Ok t) (h : 0 < t.length → 4294967296 ^ (t.length - 1) ≤ val t) : limbs (val t) = t := by
  obtain ⟨h1, h2⟩ := limbs_prefix hok
  have h3 := val_lt (limbs_ok (val t))
  rw [val_limbs] at h3
  have h4 : t.length ≤ (limbs (val t)).length := by
    rcases Nat.eq_zero_or_pos t.length with h0 | h0
    · omega
    · have h5 := Nat.lt_of_le_of_lt (h h0) h3
      have h6 := (Nat.pow_lt_pow_iff_right (by decide)).1 h5
      omega
  rw [h1, List.take_of_length_le h4]
theorem limbs_ge {x : Nat} (h : 0 < x) : 4294967296 ^ ((limbs x).length - 1) ≤ x := by
  have hp := (limbs_last h).1
  have e := val_split (limbs x) ((limbs x).length - 1) (by omega)
  rw [val_limbs, val_drop _ _ (by omega)] at e
  have hn := (limbs_last h).2
  have : 4294967296 ^ ((limbs x).length - 1) * 1 ≤ 4294967296 ^ ((limbs x).length - 1) * ((limbs x).getD ((limbs x).length - 1) 0 + 4294967296 * val ((limbs x).drop ((limbs x).length - 1 + 1))) := Nat.mul_le_mul_left _ (by omega)
  omega
/-- Ten times a number and a digit, in place: the carry is appended if there is one. -/
theorem times_limbs {x d c : Nat} {t : List Nat} (h : TimesTo (limbs x) 10 d (limbs x).length t c) (hd : x = 0 → True) :
    (c = 0 → limbs (x * 10 + d) = t) ∧ (0 < c → limbs (x * 10 + d) = t ++ [c]) := by
  obtain ⟨h1, h2, h3⟩ := h.total
  rw [val_limbs] at h3
  constructor
  · intro hc
    rw [hc, Nat.mul_zero, Nat.add_zero] at h3
    rw [← h3]
    apply limbs_of_ge h2
    intro hl
    rw [h1] at hl ⊢
    have hx : 0 < x := by
      rcases Nat.eq_zero_or_pos x with h0 | h0
      · rw [h0] at hl; simp [limbs_zero] at hl
      · exact h0
    have := limbs_ge hx
    omega
  · intro hc
    have hv : val (t ++ [c]) = x * 10 + d := by
      rw [val_append, val_cons, val_nil, Nat.mul_zero, Nat.add_zero, h1]; exact h3
    rw [← hv]
    apply limbs_of_ge (h2.append (Ok.cons h.lt Ok.nil))
    intro _
    rw [hv, List.length_append, h1]
    simp only [List.length_cons, List.length_nil, Nat.zero_add, Nat.add_sub_cancel]
    have : 4294967296 ^ (limbs x).length * 1 ≤ 4294967296 ^ (limbs x).length * c := Nat.mul_le_mul_left _ hc
    omega

theorem ref_parse_first (t : ByteArray) (w : World) (ht : t.size ≤ 140737488355328) (h : t.size = 0 ∨ (0 < t.size ∧ let8 t 0 = 48 ∧ 1 < t.size)) :
    Calls Tryd.prog 87 #[.string t] w fun e w' => e = .returned (.tuple #[.slice none 0 0, .int .i64 10]) ∧ w = w' := by
  rcases h with h | ⟨h0, h1, h2⟩
  · have hE : t.toList = [] := List.eq_nil_of_length_eq_zero (by rw [size_list]; omega)
    have hE2 : t.toList.isEmpty = true := by rw [hE]; rfl
    clear h
    go_enter Tryd.func87, Tryd.ntmps87
    go_wp2
    go_ret2
    exact ⟨rfl, rfl⟩
  · have hE : ¬ t.toList = [] := fun e => by have := size_list t; rw [e] at this; simp at this; omega
    have hE2 : t.toList.isEmpty = false := by rw [List.isEmpty_eq_false_iff]; exact hE
    have hx0 := let8_at t 0 h0
    rw [h1] at hx0
    have H1 := hid h1
    clear h1
    go_enter Tryd.func87, Tryd.ntmps87
    go_wp2
    go_ret2
    exact ⟨rfl, rfl⟩


set_option maxRecDepth 100000 in
set_option maxHeartbeats 3000000 in
theorem ref_parse_bad (t : ByteArray) (w : World) (ht : t.size ≤ 140737488355328) (h0 : 0 < t.size) (h1 : ¬ (let8 t 0 = 48 ∧ 1 < t.size)) (hq : ¬ AllDig t t.size) :
    Calls Tryd.prog 87 #[.string t] w fun e w' => e = .returned (.tuple #[.slice none 0 0, .int .i64 10]) ∧ w = w' := by
  have hE : ¬ t.toList = [] := fun e => by have := size_list t; rw [e] at this; simp at this; omega
  have hE2 : t.toList.isEmpty = false := by rw [List.isEmpty_eq_false_iff]; exact hE
  have hx0 := let8_at t 0 h0
  obtain ⟨x0, hx0e⟩ : ∃ x0, let8 t 0 = x0 := ⟨_, rfl⟩
  rw [hx0e] at hx0 h1
  have HX0 := hid hx0e
  clear hx0e
  have HHYP := hid hq
  clear hq
  by_cases h48 : x0 = 48
  · have hs1 : t.size = 1 := by omega
    subst h48
    clear h1
    go_enter Tryd.func87, Tryd.ntmps87
    go_wp2
    go_loop [4] (fun v => ∃ k : Nat, k ≤ t.size ∧ v = .int .i64 k ∧ Hid (AllDig t k)) (fun v => t.size - (intOf v).toNat)
    case atStart => exact ⟨0, Nat.zero_le _, rfl, fun i hi => absurd hi (by omega)⟩
    case round =>
      obtain ⟨k, hk, rfl, hd⟩ := hrel
      by_cases hks : k < t.size
      · have hx := let8_at t k hks
        have hxl := let8_lt t k
        have hall := hd.out.succ
        have HALL := hid hall
        obtain ⟨x, hxe⟩ : ∃ x, let8 t k = x := ⟨_, rfl⟩
        rw [hxe] at hx hxl HALL
        have HXE := hid hxe
        clear hxe hall
        by_cases hlo : x < 48
        · go_wp2
          go_ret2
          exact ⟨rfl, rfl⟩
        · by_cases hhi : 57 < x
          · go_wp2
            go_ret2
            exact ⟨rfl, rfl⟩
          · have HD := hid (HALL.out (by omega) (by omega))
            go_wp2
            go_round
            case rel => exact ⟨k + 1, by omega, by go_num, HD⟩
            case measure => simp [intOf]; omega
      · obtain rfl : k = t.size := by omega
        exact absurd hd.out HHYP.out
  · clear h1
    go_enter Tryd.func87, Tryd.ntmps87
    go_wp2
    go_loop [4] (fun v => ∃ k : Nat, k ≤ t.size ∧ v = .int .i64 k ∧ Hid (AllDig t k)) (fun v => t.size - (intOf v).toNat)
    case atStart => exact ⟨0, Nat.zero_le _, rfl, fun i hi => absurd hi (by omega)⟩
    case round =>
      obtain ⟨k, hk, rfl, hd⟩ := hrel
      by_cases hks : k < t.size
      · have hx := let8_at t k hks
        have hxl := let8_lt t k
        have hall := hd.out.succ
        have HALL := hid hall
        obtain ⟨x, hxe⟩ : ∃ x, let8 t k = x := ⟨_, rfl⟩
        rw [hxe] at hx hxl HALL
        have HXE := hid hxe
        clear hxe hall
        by_cases hlo : x < 48
        · go_wp2
          go_ret2
          exact ⟨rfl, rfl⟩
        · by_cases hhi : 57 < x
          · go_wp2
            go_ret2
            exact ⟨rfl, rfl⟩
          · have HD := hid (HALL.out (by omega) (by omega))
            go_wp2
            go_round
            case rel => exact ⟨k + 1, by omega, by go_num, HD⟩
            case measure => simp [intOf]; omega
      · obtain rfl : k = t.size := by omega
        exact absurd hd.out HHYP.out

set_option maxRecDepth 100000 in
set_option maxHeartbeats 3000000 in
theorem ref_parse_long (t : ByteArray) (w : World) (ht : t.size ≤ 140737488355328) (h0 : 0 < t.size) (h1 : ¬ (let8 t 0 = 48 ∧ 1 < t.size)) (hq : AllDig t t.size ∧ 10000 < t.size) :
    Calls Tryd.prog 87 #[.string t] w fun e w' => e = .returned (.tuple #[.slice none 0 0, .int .i64 2]) ∧ w = w' := by
  have hE : ¬ t.toList = [] := fun e => by have := size_list t; rw [e] at this; simp at this; omega
  have hE2 : t.toList.isEmpty = false := by rw [List.isEmpty_eq_false_iff]; exact hE
  have hx0 := let8_at t 0 h0
  obtain ⟨x0, hx0e⟩ : ∃ x0, let8 t 0 = x0 := ⟨_, rfl⟩
  rw [hx0e] at hx0 h1
  have HX0 := hid hx0e
  clear hx0e
  have HHYP := hid hq
  clear hq
  by_cases h48 : x0 = 48
  · have hs1 : t.size = 1 := by omega
    subst h48
    clear h1
    go_enter Tryd.func87, Tryd.ntmps87
    go_wp2
    go_loop [4] (fun v => ∃ k : Nat, k ≤ t.size ∧ v = .int .i64 k ∧ Hid (AllDig t k)) (fun v => t.size - (intOf v).toNat)
    case atStart => exact ⟨0, Nat.zero_le _, rfl, fun i hi => absurd hi (by omega)⟩
    case round =>
      obtain ⟨k, hk, rfl, hd⟩ := hrel
      by_cases hks : k < t.size
      · have hx := let8_at t k hks
        have hxl := let8_lt t k
        have hall := hd.out.succ
        have HALL := hid hall
        obtain ⟨x, hxe⟩ : ∃ x, let8 t k = x := ⟨_, rfl⟩
        rw [hxe] at hx hxl HALL
        have HXE := hid hxe
        clear hxe hall
        by_cases hlo : x < 48
        · exact absurd (HHYP.out.1 k hks).1 (by have := HXE.out; omega)
        · by_cases hhi : 57 < x
          · exact absurd (HHYP.out.1 k hks).2 (by have := HXE.out; omega)
          · have HD := hid (HALL.out (by omega) (by omega))
            go_wp2
            go_round
            case rel => exact ⟨k + 1, by omega, by go_num, HD⟩
            case measure => simp [intOf]; omega
      · obtain rfl : k = t.size := by omega
        have hlong := HHYP.out.2
        first | (exfalso; omega) | (go_wp2; go_ret2; exact ⟨rfl, rfl⟩)
  · clear h1
    go_enter Tryd.func87, Tryd.ntmps87
    go_wp2
    go_loop [4] (fun v => ∃ k : Nat, k ≤ t.size ∧ v = .int .i64 k ∧ Hid (AllDig t k)) (fun v => t.size - (intOf v).toNat)
    case atStart => exact ⟨0, Nat.zero_le _, rfl, fun i hi => absurd hi (by omega)⟩
    case round =>
      obtain ⟨k, hk, rfl, hd⟩ := hrel
      by_cases hks : k < t.size
      · have hx := let8_at t k hks
        have hxl := let8_lt t k
        have hall := hd.out.succ
        have HALL := hid hall
        obtain ⟨x, hxe⟩ : ∃ x, let8 t k = x := ⟨_, rfl⟩
        rw [hxe] at hx hxl HALL
        have HXE := hid hxe
        clear hxe hall
        by_cases hlo : x < 48
        · exact absurd (HHYP.out.1 k hks).1 (by have := HXE.out; omega)
        · by_cases hhi : 57 < x
          · exact absurd (HHYP.out.1 k hks).2 (by have := HXE.out; omega)
          · have HD := hid (HALL.out (by omega) (by omega))
            go_wp2
            go_round
            case rel => exact ⟨k + 1, by omega, by go_num, HD⟩
            case measure => simp [intOf]; omega
      · obtain rfl : k = t.size := by omega
        have hlong := HHYP.out.2
        first | (exfalso; omega) | (go_wp2; go_ret2; exact ⟨rfl, rfl⟩)
end Go.Proofs.YtjnibefigglcjaaDoor
