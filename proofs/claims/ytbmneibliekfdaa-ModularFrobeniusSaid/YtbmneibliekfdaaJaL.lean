/- modular.Eval by its contract, by a prime; all of modular's calls by what is no prime. -/
import Derived.Test.YtbmneibliekfdaaJaK
set_option linter.unusedVariables false
set_option linter.unusedSimpArgs false
namespace Go.Proofs.Ytbmneibliekfdaa
open Go.RowKit

theorem horner {q : Nat} (f : List Int) (x y : Int) (n : Nat) (hn : n < f.length) (hy : y = ev (f.drop (n + 1)) x % (q : Int)) : (y * (x % (q : Int)) + f.getD n 0 % (q : Int)) % (q : Int) = ev (f.drop n) x % (q : Int) := by
  have e : f.drop n = f.getD n 0 :: f.drop (n + 1) := by
    rw [List.drop_eq_getElem_cons hn, List.getD_eq_getElem?_getD, List.getElem?_eq_getElem hn]; rfl
  rw [e, ev_cons, hy, Int.add_emod, ← Int.mul_emod, Int.emod_emod_of_dvd _ (Int.dvd_refl _), ← Int.add_emod, Int.add_comm, Int.mul_comm]

set_option maxRecDepth 100000 in
set_option maxHeartbeats 2000000 in
theorem mod_Eval {vf : Value} {q : Nat} {f : List Int} (x : Int) {w : World} (hf : SeesI w vf f) (hlf : f.length ≤ 65536) (hq : IsP q) :
    Calls Try.prog 31 #[vf, .int .i64 x, .int .i64 q] w fun e w' => e = .returned (.int .i64 (ev f x % (q : Int))) ∧ Below w.heap.size w w' := by
  obtain ⟨hq0, hq2⟩ := isP_bounds hq
  have IS := hidP (fun w => is_prime hq w)
  have HR : Hid (∀ (z : Int) w, Calls Try.prog 50 #[.int .i64 z, .int .i64 q] w fun e w' => e = .returned (.int .i64 (z % (q : Int))) ∧ w = w') := fun z w => mod_residue z q (by omega) (by omega) w
  have HF : Hid (∀ w1, Below w.heap.size w w1 → SeesI w1 vf f) := fun w1 h => SeesI.below hf h
  obtain ⟨A, ca, rfl, hcap⟩ := SeesF.form hf
  have CX := hidP fun w => HR.out x w
  have x0 := Int.emod_nonneg x (show (q : Int) ≠ 0 by omega)
  have x1 := Int.emod_lt_of_pos x (show (0 : Int) < q by omega)
  have HH : Hid (∀ (y : Int) (n : Nat), n < f.length → y = ev (f.drop (n + 1)) x % (q : Int) → (y * (x % (q : Int)) + f.getD n 0 % (q : Int)) % (q : Int) = ev (f.drop n) x % (q : Int)) := fun y n h1 h2 => horner f x y n h1 h2
  have HE0 : Hid (ev (f.drop f.length) x % (q : Int) = 0) := by show _ = _; rw [List.drop_length]; rfl
  have HEn : Hid (ev f x % (q : Int) = ev (f.drop 0) x % (q : Int)) := rfl
  rw [HEn.out]
  obtain ⟨X, hX⟩ : ∃ X, x % (q : Int) = X := ⟨_, rfl⟩
  rw [hX] at x0 x1
  simp only [hX] at CX HH
  have hw0 : IntKind.i64.wrap ((f.length : Int) - 1) = (f.length : Int) - 1 := by rw [IntKind.wrap_i64]; omega
  clear hf hq hX
  go_enter Try.func31, Try.ntmps31
  go_wp2_with fail
  refine (IS.out _).mono ?_
  rintro e w1 ⟨rfl, hb1⟩
  have B1 := hidP hb1
  clear hb1
  go_wp2_with fail
  refine (CX.out _).mono ?_
  rintro e w2 ⟨rfl, rfl⟩
  go_wp2_with fail
  go_loopg [7, 8] f.length (fun gm v7 v8 wr => ∃ (n : Nat) (y : Int), n = gm ∧ n ≤ f.length ∧ v7 = .int .i64 y ∧ v8 = .int .i64 ((n : Int) - 1) ∧ 0 ≤ y ∧ y < (q : Int) ∧ Hid (y = ev (f.drop n) x % (q : Int)) ∧ Hid (Below w.heap.size w wr))
  case atStart => exact ⟨f.length, 0, rfl, Nat.le_refl _, rfl, by go_num, Int.le_refl _, by omega, HE0.out.symm, B1⟩
  case round =>
    obtain ⟨n, y, rfl, hn, rfl, rfl, y0, y1, hy, hB⟩ := hrel
    rcases Nat.eq_zero_or_pos n with h0 | h0
    · subst h0
      go_wp2_with fail
      go_ret
      exact ⟨by rw [← hy.out]; rfl, hB.out⟩
    · obtain ⟨m, rfl⟩ : ∃ m, n = m + 1 := ⟨n - 1, by omega⟩
      have e1 : ((m + 1 : Nat) : Int) - 1 = (m : Int) := by omega
      rw [e1]
      obtain ⟨b1, o1, e2, hc1'⟩ := (HF.out _ hB.out).at (by omega)
      subst e2
      have hc1 := hc1' m (by omega)
      have hh := HH.out y m (by omega) hy.out
      have f0 := Int.emod_nonneg (f.getD m 0) (show (q : Int) ≠ 0 by omega)
      have f1 := Int.emod_lt_of_pos (f.getD m 0) (show (0 : Int) < q by omega)
      have C1 := hidP fun w => HR.out (f.getD m 0) w
      have hbd := prod_bound y0 y1 x0 x1 hq2
      obtain ⟨c, hc⟩ : ∃ c, f.getD m 0 = c := ⟨_, rfl⟩
      rw [hc] at hc1 hh f0 f1
      simp only [hc] at C1
      obtain ⟨r, hr⟩ : ∃ r, c % (q : Int) = r := ⟨_, rfl⟩
      rw [hr] at hh f0 f1
      simp only [hr] at C1
      obtain ⟨z, hz⟩ : ∃ z, y * X = z := ⟨_, rfl⟩
      rw [hz] at hh hbd
      obtain ⟨s, hs⟩ : ∃ s, z + r = s := ⟨_, rfl⟩
      rw [hs] at hh
      have s0 := Int.emod_nonneg s (show (q : Int) ≠ 0 by omega)
      have s1 := Int.emod_lt_of_pos s (show (0 : Int) < q by omega)
      have ht : Int.tmod s (q : Int) = s % (q : Int) := Int.tmod_eq_emod_of_nonneg (by omega)
      obtain ⟨t, ht2⟩ : ∃ t, s % (q : Int) = t := ⟨_, rfl⟩
      rw [ht2] at hh s0 s1 ht
      have HY := hidP hh
      have wz : IntKind.i64.wrap z = z := by rw [IntKind.wrap_i64]; omega
      have ws : IntKind.i64.wrap s = s := by rw [IntKind.wrap_i64]; omega
      have wt : IntKind.i64.wrap t = t := by rw [IntKind.wrap_i64]; omega
      have hm1 : IntKind.i64.wrap ((m : Int) - 1) = (m : Int) - 1 := by rw [IntKind.wrap_i64]; omega
      have hmf : (m : Int) < (f.length : Int) := by omega
      have hq00 : ¬ (q : Int) = 0 := by omega
      clear hc1' hh hc hr hy f0 f1 hbd e1 ht2
      go_wp2_with fail
      refine (C1.out _).mono ?_
      rintro e w3 ⟨rfl, rfl⟩
      go_wp2_with fail
      go_roundg m
      case rel => exact ⟨m, t, rfl, by omega, rfl, by go_num, s0, s1, HY, hB⟩
      case measure => omega

theorem not_prime {p : Int} (h1 : -9223372036854775808 ≤ p) (h2 : p < 9223372036854775808) (hp : isP p = false) (w : World) : Calls Try.prog 43 #[.int .i64 p] w fun e w' => e = .returned (.bool false) ∧ Below w.heap.size w w' := by
  have := prime_is p h1 h2 w
  rwa [hp] at this

theorem none_Plain {vf : Value} {p : Int} {w : World} (h1 : -9223372036854775808 ≤ p) (h2 : p < 9223372036854775808) (hp : isP p = false) :
    Calls Try.prog 16 #[vf, .int .i64 p] w fun e w' => e = .returned (.slice none 0 0) ∧ Below w.heap.size w w' := by
  have IS := hidP (not_prime h1 h2 hp)
  clear h1 h2 hp
  go_enter Try.func16, Try.ntmps16
  go_wp2_with fail
  refine (IS.out _).mono ?_
  rintro e w1 ⟨rfl, hb1⟩
  have B1 := hidP hb1
  clear hb1
  go_wp2_with fail
  go_ret
  exact ⟨rfl, B1.out⟩

theorem none_Add {vf vg : Value} {p : Int} {w : World} (h1 : -9223372036854775808 ≤ p) (h2 : p < 9223372036854775808) (hp : isP p = false) :
    Calls Try.prog 18 #[vf, vg, .int .i64 p] w fun e w' => e = .returned (.slice none 0 0) ∧ Below w.heap.size w w' := by
  have IS := hidP (not_prime h1 h2 hp)
  clear h1 h2 hp
  go_enter Try.func18, Try.ntmps18
  go_wp2_with (go_at_call 46; go_in)
  refine (IS.out _).mono ?_
  rintro e w1 ⟨rfl, hb1⟩
  have B1 := hidP hb1
  clear hb1
  go_wp2_with fail
  go_ret
  exact ⟨rfl, B1.out⟩

theorem none_Sub {vf vg : Value} {p : Int} {w : World} (h1 : -9223372036854775808 ≤ p) (h2 : p < 9223372036854775808) (hp : isP p = false) :
    Calls Try.prog 20 #[vf, vg, .int .i64 p] w fun e w' => e = .returned (.slice none 0 0) ∧ Below w.heap.size w w' := by
  have IS := hidP (not_prime h1 h2 hp)
  clear h1 h2 hp
  go_enter Try.func20, Try.ntmps20
  go_wp2_with (go_at_call 46; go_in)
  refine (IS.out _).mono ?_
  rintro e w1 ⟨rfl, hb1⟩
  have B1 := hidP hb1
  clear hb1
  go_wp2_with fail
  go_ret
  exact ⟨rfl, B1.out⟩

theorem none_Scale {vf : Value} {c : Int} {p : Int} {w : World} (h1 : -9223372036854775808 ≤ p) (h2 : p < 9223372036854775808) (hp : isP p = false) :
    Calls Try.prog 22 #[vf, .int .i64 c, .int .i64 p] w fun e w' => e = .returned (.slice none 0 0) ∧ Below w.heap.size w w' := by
  have IS := hidP (not_prime h1 h2 hp)
  clear h1 h2 hp
  go_enter Try.func22, Try.ntmps22
  go_wp2_with fail
  refine (IS.out _).mono ?_
  rintro e w1 ⟨rfl, hb1⟩
  have B1 := hidP hb1
  clear hb1
  go_wp2_with fail
  go_ret
  exact ⟨rfl, B1.out⟩

theorem none_Mul {vf vg : Value} {p : Int} {w : World} (h1 : -9223372036854775808 ≤ p) (h2 : p < 9223372036854775808) (hp : isP p = false) :
    Calls Try.prog 27 #[vf, vg, .int .i64 p] w fun e w' => e = .returned (.slice none 0 0) ∧ Below w.heap.size w w' := by
  have IS := hidP (not_prime h1 h2 hp)
  clear h1 h2 hp
  go_enter Try.func27, Try.ntmps27
  go_wp2_with fail
  refine (IS.out _).mono ?_
  rintro e w1 ⟨rfl, hb1⟩
  have B1 := hidP hb1
  clear hb1
  go_wp2_with fail
  go_ret
  exact ⟨rfl, B1.out⟩

theorem none_DivMod {vf vg : Value} {p : Int} {w : World} (h1 : -9223372036854775808 ≤ p) (h2 : p < 9223372036854775808) (hp : isP p = false) :
    Calls Try.prog 25 #[vf, vg, .int .i64 p] w fun e w' => e = .returned (.tuple #[.slice none 0 0, .slice none 0 0, .int .i64 50]) ∧ Below w.heap.size w w' := by
  have IS := hidP (not_prime h1 h2 hp)
  clear h1 h2 hp
  go_enter Try.func25, Try.ntmps25
  go_wp2_with fail
  refine (IS.out _).mono ?_
  rintro e w1 ⟨rfl, hb1⟩
  have B1 := hidP hb1
  clear hb1
  go_wp2_with fail
  go_ret3
  exact ⟨rfl, B1.out⟩

theorem none_Monic {vf : Value} {p : Int} {w : World} (h1 : -9223372036854775808 ≤ p) (h2 : p < 9223372036854775808) (hp : isP p = false) :
    Calls Try.prog 33 #[vf, .int .i64 p] w fun e w' => e = .returned (.slice none 0 0) ∧ Below w.heap.size w w' := by
  have IS := hidP (not_prime h1 h2 hp)
  clear h1 h2 hp
  go_enter Try.func33, Try.ntmps33
  go_wp2_with fail
  refine (IS.out _).mono ?_
  rintro e w1 ⟨rfl, hb1⟩
  have B1 := hidP hb1
  clear hb1
  go_wp2_with fail
  go_ret
  exact ⟨rfl, B1.out⟩

theorem none_Gcd {vf vg : Value} {p : Int} {w : World} (h1 : -9223372036854775808 ≤ p) (h2 : p < 9223372036854775808) (hp : isP p = false) :
    Calls Try.prog 32 #[vf, vg, .int .i64 p] w fun e w' => e = .returned (.slice none 0 0) ∧ Below w.heap.size w w' := by
  have IS := hidP (not_prime h1 h2 hp)
  clear h1 h2 hp
  go_enter Try.func32, Try.ntmps32
  go_wp2_with fail
  refine (IS.out _).mono ?_
  rintro e w1 ⟨rfl, hb1⟩
  have B1 := hidP hb1
  clear hb1
  go_wp2_with fail
  go_ret
  exact ⟨rfl, B1.out⟩

theorem none_Deriv {vf : Value} {p : Int} {w : World} (h1 : -9223372036854775808 ≤ p) (h2 : p < 9223372036854775808) (hp : isP p = false) :
    Calls Try.prog 34 #[vf, .int .i64 p] w fun e w' => e = .returned (.slice none 0 0) ∧ Below w.heap.size w w' := by
  have IS := hidP (not_prime h1 h2 hp)
  clear h1 h2 hp
  go_enter Try.func34, Try.ntmps34
  go_wp2_with fail
  refine (IS.out _).mono ?_
  rintro e w1 ⟨rfl, hb1⟩
  have B1 := hidP hb1
  clear hb1
  go_wp2_with fail
  go_ret
  exact ⟨rfl, B1.out⟩

theorem none_Eval {vf : Value} {x : Int} {p : Int} {w : World} (h1 : -9223372036854775808 ≤ p) (h2 : p < 9223372036854775808) (hp : isP p = false) :
    Calls Try.prog 31 #[vf, .int .i64 x, .int .i64 p] w fun e w' => e = .returned (.int .i64 0) ∧ Below w.heap.size w w' := by
  have IS := hidP (not_prime h1 h2 hp)
  clear h1 h2 hp
  go_enter Try.func31, Try.ntmps31
  go_wp2_with fail
  refine (IS.out _).mono ?_
  rintro e w1 ⟨rfl, hb1⟩
  have B1 := hidP hb1
  clear hb1
  go_wp2_with fail
  go_ret
  exact ⟨rfl, B1.out⟩
end Go.Proofs.Ytbmneibliekfdaa
