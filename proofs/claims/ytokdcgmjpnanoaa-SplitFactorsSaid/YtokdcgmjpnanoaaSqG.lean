/- The order of polynomials: split.compare, the document's Before and Same of lists. -/
import Derived.Test.YtokdcgmjpnanoaaSpC
import Derived.Test.YtokdcgmjpnanoaaSqM
import Derived.Test.YtokdcgmjpnanoaaJaT

set_option linter.unusedVariables false
set_option linter.unusedSimpArgs false
namespace Go.Proofs.Ytokdcgmjpnanoaa
open Go.RowKit

def sg (x : Int) : Int := if x < 0 then -1 else if x = 0 then 0 else 1
theorem cmp_isNaN (x : Int) (w : World) :
    Calls Try.prog 82 #[.int .i64 x] w fun e w' => e = .returned (.bool false) ∧ w = w' := by
  go_enter Try.func82, Try.ntmps82
  go_wp2
  go_ret
  exact ⟨ret_bool (by simp), rfl⟩
theorem cmp_Compare (x y : Int) (w : World) :
    Calls Try.prog 42 #[.int .i64 x, .int .i64 y] w fun e w' => e = .returned (.int .i64 (sg (x - y))) ∧ w = w' := by
  have C1 := hidP (cmp_isNaN x); have C2 := hidP (cmp_isNaN y)
  rcases Int.lt_trichotomy x y with h | h | h
  · have HS : Hid (sg (x - y) = -1) := by show sg _ = _; unfold sg; rw [if_pos (by omega)]
    go_enter Try.func42, Try.ntmps42
    go_wp2_with fail
    refine (C1.out _).mono ?_
    rintro e w0 ⟨rfl, rfl⟩
    go_wp2_with fail
    refine (C2.out _).mono ?_
    rintro e w0 ⟨rfl, rfl⟩
    go_wp2
    go_ret
    exact ⟨ret_int HS.out.symm, rfl⟩
  · subst h
    have HS : Hid (sg (x - x) = 0) := by show sg _ = _; unfold sg; rw [if_neg (by omega), if_pos (by omega)]
    go_enter Try.func42, Try.ntmps42
    go_wp2_with fail
    refine (C1.out _).mono ?_
    rintro e w0 ⟨rfl, rfl⟩
    go_wp2_with fail
    refine (C2.out _).mono ?_
    rintro e w0 ⟨rfl, rfl⟩
    go_wp2
    go_ret
    exact ⟨ret_int HS.out.symm, rfl⟩
  · have HS : Hid (sg (x - y) = 1) := by show sg _ = _; unfold sg; rw [if_neg (by omega), if_neg (by omega)]
    have h2 : ¬ x < y := by omega
    go_enter Try.func42, Try.ntmps42
    go_wp2_with fail
    refine (C1.out _).mono ?_
    rintro e w0 ⟨rfl, rfl⟩
    go_wp2_with fail
    refine (C2.out _).mono ?_
    rintro e w0 ⟨rfl, rfl⟩
    go_wp2
    go_ret
    exact ⟨ret_int HS.out.symm, rfl⟩

/-- How f compares with g. -/
def cmpF (f g : List Int) : Int := if bef f g then -1 else if bef g f then 1 else 0
theorem cmpF_neg (f g : List Int) : cmpF f g < 0 ↔ bef f g = true := by
  unfold cmpF
  split
  · rename_i h; simp [h]
  · rename_i h
    split <;> simp [h]
theorem befAt_top (f g : List Int) (k : Nat) : ∀ n, k ≤ n → (∀ j, k ≤ j → j < n → f.getD j 0 = g.getD j 0) → befAt f g n = befAt f g k
  | 0, h, _ => by rw [show k = 0 by omega]
  | n + 1, h, e => by
    by_cases hk : k = n + 1
    · rw [hk]
    · have h1 : befAt f g (n + 1) = befAt f g n := by
        show (if f.getD n 0 = g.getD n 0 then befAt f g n else _) = _
        rw [if_pos (e n (by omega) (by omega))]
      rw [h1]; exact befAt_top f g k n (by omega) (fun j a b => e j a (by omega))
theorem bef_len {f g : List Int} (h : f.length ≠ g.length) : bef f g = decide (f.length < g.length) := by unfold bef; rw [if_neg h]
theorem bef_at {f g : List Int} {n k : Nat} (hf : f.length = n) (hg : g.length = n) (hk : k < n) (he : ∀ j, k + 1 ≤ j → j < n → f.getD j 0 = g.getD j 0) (hne : f.getD k 0 ≠ g.getD k 0) : bef f g = decide (f.getD k 0 < g.getD k 0) := by
  unfold bef
  rw [if_pos (by omega), hf, befAt_top f g (k + 1) n (by omega) he]
  show (if f.getD k 0 = g.getD k 0 then befAt f g k else _) = _
  rw [if_neg hne]
theorem bef_eq {f g : List Int} {n : Nat} (hf : f.length = n) (hg : g.length = n) (he : ∀ j, 0 ≤ j → j < n → f.getD j 0 = g.getD j 0) : bef f g = false := by
  unfold bef
  rw [if_pos (by omega), hf, befAt_top f g 0 n (by omega) he]; rfl
theorem cmpF_of {f g : List Int} {x y : Int} (h1 : bef f g = decide (x < y)) (h2 : bef g f = decide (y < x)) : cmpF f g = sg (x - y) := by
  unfold cmpF sg
  rw [h1, h2]
  rcases Int.lt_trichotomy x y with h | h | h
  · rw [if_pos (decide_eq_true h), if_pos (by omega)]
  · subst h; simp
  · have e1 : ¬ (decide (x < y) = true) := by simp; omega
    rw [if_neg e1, if_pos (decide_eq_true h), if_neg (by omega), if_neg (by omega)]

set_option maxRecDepth 100000 in
set_option maxHeartbeats 2000000 in
theorem mod_compare {a b : Value} {f g : List Int} {w : World} (ha : SeesI w a f) (hb : SeesI w b g) :
    Calls Try.prog 21 #[a, b] w fun e w' => Reads (Value.int .i64 (cmpF f g)) w e w' := by
  have hlen := ha.len
  have hlen2 := hb.len
  have HA := hidP ha
  have HB := hidP hb
  obtain ⟨A, ca, rfl, hcap⟩ := SeesF.form ha
  obtain ⟨B, cb, rfl, hcap2⟩ := SeesF.form hb
  clear ha hb
  by_cases hl : f.length = g.length
  · obtain ⟨n, hn⟩ : ∃ n, g.length = n := ⟨_, rfl⟩
    have HL := hidP hl
    have HN := hidP hn
    rw [hn] at hl hlen2 hcap2 ⊢
    rw [hl] at hlen hcap ⊢
    have HLn := hidP hl
    have w1 : IntKind.i64.wrap ((n : Int) - 1) = (n : Int) - 1 := by rw [IntKind.wrap_i64]; omega
    clear hl hn
    go_enter Try.func21, Try.ntmps21
    go_wp2
    go_loopw [5] (fun v wr => ∃ (k d : Nat) (z : Int), k ≤ n ∧ v = .int .i64 z ∧ Hid (z + 1 = k) ∧ wr = w.drewN d ∧ Hid (∀ j, k ≤ j → j < n → f.getD j 0 = g.getD j 0)) (fun v _ => (intOf v + 1).toNat)
    case atStart => exact ⟨n, 0, (n : Int) - 1, Nat.le_refl _, rfl, by show _ = _; omega, rfl, fun j a b => by omega⟩
    case round =>
      obtain ⟨k, d, z, hk, rfl, hz, rfl, he⟩ := hrel
      rcases Nat.eq_zero_or_pos k with h0 | h0
      · subst h0
        have hz0 : ¬ z ≥ 0 := by have := hz.out; omega
        have HE := hidP (bef_eq HLn.out HN.out he.out)
        have HE2 := hidP (bef_eq HN.out HLn.out (fun j a b => (he.out j a b).symm))
        have HR : Hid (Value.int .i64 (cmpF f g) = Value.int .i64 0) := by show _ = _; simp [cmpF, HE.out, HE2.out]
        clear he
        go_wp2
        go_ret
        exact ⟨by rw [HR.out]; rfl, ⟨_, rfl⟩⟩
      · obtain ⟨m, rfl⟩ : ∃ m, k = m + 1 := ⟨k - 1, by omega⟩
        obtain rfl : z = (m : Int) := by have := hz.out; omega
        obtain ⟨b1, o1, rfl, hc1'⟩ := HA.out.at (by have := HLn.out; omega)
        obtain ⟨b2, o2, rfl, hc2'⟩ := HB.out.at (by have := HN.out; omega)
        have hc1 := hc1' m (by have := HLn.out; omega)
        have hc2 := hc2' m (by have := HN.out; omega)
        have HNE : Hid (f.getD m 0 ≠ g.getD m 0 → bef f g = decide (f.getD m 0 < g.getD m 0) ∧ bef g f = decide (g.getD m 0 < f.getD m 0)) := fun hne => ⟨bef_at HLn.out HN.out (by omega) he.out hne, bef_at HN.out HLn.out (by omega) (fun j a b => (he.out j a b).symm) (Ne.symm hne)⟩
        have HEq : Hid (f.getD m 0 = g.getD m 0 → ∀ j, m ≤ j → j < n → f.getD j 0 = g.getD j 0) := fun h j a b => by
          by_cases e : j = m
          · subst e; exact h
          · exact he.out j (by omega) b
        have hm0 : (m : Int) ≥ 0 := by omega
        have hmn : (m : Int) < (n : Int) := by omega
        have hw2 : IntKind.i64.wrap ((m : Int) - 1) = (m : Int) - 1 := by rw [IntKind.wrap_i64]; omega
        clear hc1' hc2' he hz
        obtain ⟨x, hx⟩ : ∃ x, f.getD m 0 = x := ⟨_, rfl⟩
        obtain ⟨y, hy⟩ : ∃ y, g.getD m 0 = y := ⟨_, rfl⟩
        rw [hx] at hc1
        rw [hy] at hc2
        rw [hx, hy] at HNE HEq
        clear hx hy
        by_cases he : x = y
        · have HZ2 := hidP (HEq.out he)
          subst he
          clear HNE HEq
          go_wp2
          go_quiet (fail)
          go_wp2
          go_roundw
          case rel => exact ⟨m, d + nq, (m : Int) - 1, by omega, by first | rfl | go_num, by show _ = _; omega, by first | rfl | exact World.drewN_drewN _ _ _, HZ2⟩
          case measure => first | (simp [intOf]; done) | (simp [intOf]; omega)
        · have HN2 := hidP (HNE.out he)
          have hxy : (x != y) = true := by simpa using he
          clear HNE HEq
          have HV : Hid (cmpF f g = sg (x - y)) := cmpF_of HN2.out.1 HN2.out.2
          have CC := hidP (cmp_Compare x y)
          go_wp2
          go_quiet (fail)
          go_wp2
          go_quiet ((go_at_call 42; exact (cmp_Compare _ _ _).mono fun _ _ ⟨h1, h2⟩ => ⟨h1, _, h2.symm⟩))
          go_wp2
          go_ret
          exact ⟨ret_int HV.out.symm, ⟨_, by rw [World.drewN_drewN, World.drewN_drewN]⟩⟩
  · have hl2 : ((f.length : Int) != (g.length : Int)) = true := by simp; omega
    have HV : Hid (cmpF f g = sg ((f.length : Int) - (g.length : Int))) := cmpF_of (by rw [bef_len hl]; congr 1; simp) (by rw [bef_len (Ne.symm hl)]; congr 1; simp)
    have CC := hidP (cmp_Compare (f.length : Int) (g.length : Int))
    obtain ⟨lf, hlf⟩ : ∃ lf, f.length = lf := ⟨_, rfl⟩
    obtain ⟨lg, hlg⟩ : ∃ lg, g.length = lg := ⟨_, rfl⟩
    rw [hlf, hlg] at CC hl2 HV
    rw [hlf, hlg]
    clear HA HB hl hlen hlen2 hcap hcap2 hlf hlg
    go_enter Try.func21, Try.ntmps21
    go_wp2_with fail
    refine (CC.out _).mono ?_
    rintro e w0 ⟨rfl, rfl⟩
    go_wp2_with fail
    go_ret
    exact ⟨ret_int HV.out.symm, ⟨0, rfl⟩⟩

set_option maxRecDepth 100000 in
set_option maxHeartbeats 2000000 in
theorem ref_Before {a b : Value} {f g : List Int} {w : World} (ha : SeesI w a f) (hb : SeesI w b g) :
    Calls Try.prog 46 #[a, b] w fun e w' => Reads (Value.bool (bef f g)) w e w' := by
  have hlen := ha.len
  have hlen2 := hb.len
  have HA := hidP ha
  have HB := hidP hb
  obtain ⟨A, ca, rfl, hcap⟩ := SeesF.form ha
  obtain ⟨B, cb, rfl, hcap2⟩ := SeesF.form hb
  clear ha hb
  by_cases hl : f.length = g.length
  · obtain ⟨n, hn⟩ : ∃ n, g.length = n := ⟨_, rfl⟩
    have HL := hidP hl
    have HN := hidP hn
    rw [hn] at hl hlen2 hcap2 ⊢
    rw [hl] at hlen hcap ⊢
    have HLn := hidP hl
    have w1 : IntKind.i64.wrap ((n : Int) - 1) = (n : Int) - 1 := by rw [IntKind.wrap_i64]; omega
    clear hl hn
    go_enter Try.func46, Try.ntmps46
    go_wp2
    go_loopw [5] (fun v wr => ∃ (k d : Nat) (z : Int), k ≤ n ∧ v = .int .i64 z ∧ Hid (z + 1 = k) ∧ wr = w.drewN d ∧ Hid (∀ j, k ≤ j → j < n → f.getD j 0 = g.getD j 0)) (fun v _ => (intOf v + 1).toNat)
    case atStart => exact ⟨n, 0, (n : Int) - 1, Nat.le_refl _, rfl, by show _ = _; omega, rfl, fun j a b => by omega⟩
    case round =>
      obtain ⟨k, d, z, hk, rfl, hz, rfl, he⟩ := hrel
      rcases Nat.eq_zero_or_pos k with h0 | h0
      · subst h0
        have hz0 : ¬ z ≥ 0 := by have := hz.out; omega
        have HE := hidP (bef_eq HLn.out HN.out he.out)
        have HE2 := hidP (bef_eq HN.out HLn.out (fun j a b => (he.out j a b).symm))
        have HR : Hid (Value.bool (bef f g) = Value.bool false) := by show _ = _; rw [HE.out]
        clear he
        go_wp2
        go_ret
        exact ⟨by rw [HR.out]; rfl, ⟨_, rfl⟩⟩
      · obtain ⟨m, rfl⟩ : ∃ m, k = m + 1 := ⟨k - 1, by omega⟩
        obtain rfl : z = (m : Int) := by have := hz.out; omega
        obtain ⟨b1, o1, rfl, hc1'⟩ := HA.out.at (by have := HLn.out; omega)
        obtain ⟨b2, o2, rfl, hc2'⟩ := HB.out.at (by have := HN.out; omega)
        have hc1 := hc1' m (by have := HLn.out; omega)
        have hc2 := hc2' m (by have := HN.out; omega)
        have HNE : Hid (f.getD m 0 ≠ g.getD m 0 → bef f g = decide (f.getD m 0 < g.getD m 0) ∧ bef g f = decide (g.getD m 0 < f.getD m 0)) := fun hne => ⟨bef_at HLn.out HN.out (by omega) he.out hne, bef_at HN.out HLn.out (by omega) (fun j a b => (he.out j a b).symm) (Ne.symm hne)⟩
        have HEq : Hid (f.getD m 0 = g.getD m 0 → ∀ j, m ≤ j → j < n → f.getD j 0 = g.getD j 0) := fun h j a b => by
          by_cases e : j = m
          · subst e; exact h
          · exact he.out j (by omega) b
        have hm0 : (m : Int) ≥ 0 := by omega
        have hmn : (m : Int) < (n : Int) := by omega
        have hw2 : IntKind.i64.wrap ((m : Int) - 1) = (m : Int) - 1 := by rw [IntKind.wrap_i64]; omega
        clear hc1' hc2' he hz
        obtain ⟨x, hx⟩ : ∃ x, f.getD m 0 = x := ⟨_, rfl⟩
        obtain ⟨y, hy⟩ : ∃ y, g.getD m 0 = y := ⟨_, rfl⟩
        rw [hx] at hc1
        rw [hy] at hc2
        rw [hx, hy] at HNE HEq
        clear hx hy
        by_cases he : x = y
        · have HZ2 := hidP (HEq.out he)
          subst he
          clear HNE HEq
          go_wp2
          go_quiet (fail)
          go_wp2
          go_roundw
          case rel => exact ⟨m, d + nq, (m : Int) - 1, by omega, by first | rfl | go_num, by show _ = _; omega, by first | rfl | exact World.drewN_drewN _ _ _, HZ2⟩
          case measure => first | (simp [intOf]; done) | (simp [intOf]; omega)
        · have HN2 := hidP (HNE.out he)
          have hxy : (x != y) = true := by simpa using he
          clear HNE HEq
          have HV : Hid (bef f g = decide (x < y)) := HN2.out.1
          go_wp2
          go_quiet (fail)
          go_wp2
          go_quiet (fail)
          go_wp2
          go_ret
          exact ⟨ret_bool HV.out.symm, ⟨_, by rw [World.drewN_drewN, World.drewN_drewN]⟩⟩
  · have hl2 : ((f.length : Int) != (g.length : Int)) = true := by simp; omega
    have HV : Hid (bef f g = decide (f.length < g.length)) := by show _ = _; rw [bef_len hl]
    obtain ⟨lf, hlf⟩ : ∃ lf, f.length = lf := ⟨_, rfl⟩
    obtain ⟨lg, hlg⟩ : ∃ lg, g.length = lg := ⟨_, rfl⟩
    rw [hlf, hlg] at hl2 HV
    rw [hlf, hlg]
    clear HA HB hl hlen hlen2 hcap hcap2 hlf hlg
    go_enter Try.func46, Try.ntmps46
    go_wp2
    go_ret
    exact ⟨ret_bool HV.out.symm, ⟨0, rfl⟩⟩
end Go.Proofs.Ytokdcgmjpnanoaa
