/- modular.power of lists by its contract. -/
import Derived.Test.YtokdcgmjpnanoaaJaP

set_option linter.unusedVariables false
set_option linter.unusedSimpArgs false
namespace Go.Proofs.Ytokdcgmjpnanoaa
open Go.RowKit

theorem RestIs.of_mul {q : Nat} {m A B H K R : List Int} (h : RestIs q A m H) (k : RestIs q B m K) (hr : RestIs q (pmul H K) m R) : RestIs q (pmul A B) m R :=
  ⟨((h.eq.mul k.eq)).trans hr.eq, hr.pr, hr.lt⟩
theorem RestIs.of_ev {q : Nat} {m A B R : List Int} (h : RestIs q A m R) (e : ∀ x, ev B x = ev A x) : RestIs q B m R :=
  ⟨(M.of_ev e).trans h.eq, h.pr, h.lt⟩

set_option maxRecDepth 100000 in
set_option maxHeartbeats 2000000 in
theorem pow_list {q : Nat} {m f A O : List Int} {B b6 b7 b10 : Nat} (hq : IsP q) (hm : nf q m ≠ []) (hlm : m.length ≤ 16384) (hA : RestIs q f m A) (hO : RestIs q [1] m O) : ∀ (k n : Nat) (va vo : Value) (w : World), n ≤ k → n < 9223372036854775808 → Env q m B b6 b7 b10 w → SeesI w va A → SeesI w vo O →
    Calls Try.prog 65 #[va, .int .i64 n, vo, .func (.func 63) #[] #[.pointer (some ⟨b10, 0, none⟩), .pointer (some ⟨b7, 0, none⟩)]] w fun e w' => ∃ v' R, e = .returned v' ∧ SeesI w' v' R ∧ RestIs q (ppow f n) m R ∧ Below w.heap.size w w' := by
  have hlr : ∀ {X R : List Int}, RestIs q X m R → R.length ≤ 16384 := fun h => by have := h.lt; have := nf_len q m; omega
  intro k
  induction k with
  | zero =>
    intro n va vo w hk hn hE ha ho
    obtain rfl : n = 0 := by omega
    have HO := hidP ho
    clear hE ha ho
    go_enter Try.func65, Try.ntmps65
    go_wp2_with fail
    go_ret
    exact ⟨_, _, rfl, HO.out, hO, Below.refl _ _⟩
  | succ k ih =>
    intro n va vo w hk hn hE ha ho
    rcases Nat.eq_zero_or_pos n with h0 | h0
    · subst h0
      have HO := hidP ho
      clear hE ha ho ih
      go_enter Try.func65, Try.ntmps65
      go_wp2_with fail
      go_ret
      exact ⟨_, _, rfl, HO.out, hO, Below.refl _ _⟩
    · have C1 := hidP (ih (n / 2) va vo w (by omega) (by omega) hE ha ho)
      have HE : Hid (∀ w1, Below w.heap.size w w1 → Env q m B b6 b7 b10 w1) := fun w1 h => hE.below (h.mono hE.hB)
      have HA : Hid (∀ w1, Below w.heap.size w w1 → SeesI w1 va A) := fun w1 h => SeesI.below ha h
      have CT : Hid (∀ w1 v u X Y S T, Env q m B b6 b7 b10 w1 → SeesI w1 v X → SeesI w1 u Y → RestIs q S m X → RestIs q T m Y → Calls Try.prog 63 #[v, u, .pointer (some ⟨b10, 0, none⟩), .pointer (some ⟨b7, 0, none⟩)] w1 fun e w' => ∃ v' R, e = .returned v' ∧ SeesI w' v' R ∧ RestIs q (pmul S T) m R ∧ Below w1.heap.size w1 w') := by
        intro w1 v u X Y S T h1 h2 h3 h4 h5
        refine (times_op h1 h2 h3 h4.pr.1 h5.pr.1 hq hm (hlr h4) (hlr h5) (by omega)).mono ?_
        rintro e w2 ⟨v', R, he, k1, k2, k3⟩
        exact ⟨v', R, he, k1, h4.of_mul h5 k2, k3⟩
      have HAr := hidP hA
      have hn0 : ((n : Int) == 0) = false := by rw [beq_eq_false_iff_ne]; omega
      have q1 : Int.tdiv (n : Int) 2 = ((n / 2 : Nat) : Int) := by rw [Int.tdiv_eq_ediv_of_nonneg (by omega)]; omega
      obtain ⟨h, hh⟩ : ∃ h, n / 2 = h := ⟨_, rfl⟩
      have q2 : (n : Int) / 2 = (h : Int) := by omega
      have q3 : Int.tdiv (n : Int) 2 = (h : Int) := by rw [q1, hh]
      have q4 : IntKind.i64.wrap (h : Int) = (h : Int) := by rw [IntKind.wrap_i64]; omega
      rw [hh] at C1
      rcases Nat.mod_two_eq_zero_or_one n with h2 | h2
      · have HV : Hid (∀ x, ev (ppow f n) x = ev (pmul (ppow f h) (ppow f h)) x) := fun x => by rw [← ppow_add]; congr 2; omega
        have o1 : Int.tmod (n : Int) 2 = 0 := by rw [Int.tmod_eq_emod_of_nonneg (by omega)]; omega
        have o2 : (n : Int) % 2 = 0 := by omega
        clear ih hE ha ho hA hh h2 q1 h0
        go_enter Try.func65, Try.ntmps65
        go_wp2_with fail
        refine C1.out.mono ?_
        rintro e w1 ⟨v1, H, rfl, hs1, hr1, hb1⟩
        have B1 := hidP hb1
        have C2 := hidP (CT.out w1 v1 v1 H H _ _ (HE.out w1 hb1) hs1 hs1 hr1 hr1)
        clear hs1 hr1 hb1
        go_wp2_with fail
        refine C2.out.mono ?_
        rintro e w2 ⟨v2, S, rfl, hs2, hr2, hb2⟩
        have B2 := hidP (step_below B1.out hb2)
        have HS := hidP hs2
        have HR := hidP (hr2.of_ev HV.out)
        clear hs2 hr2 hb2
        go_wp2_with fail
        go_ret
        exact ⟨_, _, rfl, HS.out, HR.out, B2.out⟩
      · have HV : Hid (∀ x, ev (ppow f n) x = ev (pmul (pmul (ppow f h) (ppow f h)) f) x) := fun x => by
          obtain ⟨j, hj⟩ : ∃ j, n = j + 1 := ⟨n - 1, by omega⟩
          rw [ev_pmul, ← ppow_add, hj, show h + h = j by omega, ppow, ev_pmul, Int.mul_comm]
        have o1 : Int.tmod (n : Int) 2 = 1 := by rw [Int.tmod_eq_emod_of_nonneg (by omega)]; omega
        have o2 : (n : Int) % 2 = 1 := by omega
        clear ih hE ha ho hA hh h2 q1 h0
        go_enter Try.func65, Try.ntmps65
        go_wp2_with fail
        refine C1.out.mono ?_
        rintro e w1 ⟨v1, H, rfl, hs1, hr1, hb1⟩
        have B1 := hidP hb1
        have C2 := hidP (CT.out w1 v1 v1 H H _ _ (HE.out w1 hb1) hs1 hs1 hr1 hr1)
        clear hs1 hr1 hb1
        go_wp2_with fail
        refine C2.out.mono ?_
        rintro e w2 ⟨v2, S, rfl, hs2, hr2, hb2⟩
        have B2 := hidP (step_below B1.out hb2)
        have C3 := hidP (CT.out w2 v2 va S A _ f (HE.out w2 B2.out) hs2 (HA.out w2 B2.out) hr2 HAr.out)
        clear hs2 hr2 hb2
        go_wp2_with fail
        refine C3.out.mono ?_
        rintro e w3 ⟨v3, T, rfl, hs3, hr3, hb3⟩
        have B3 := hidP (step_below B2.out hb3)
        have HS := hidP hs3
        have HR := hidP (hr3.of_ev HV.out)
        clear hs3 hr3 hb3
        go_wp2_with fail
        go_ret
        exact ⟨_, _, rfl, HS.out, HR.out, B3.out⟩
end Go.Proofs.Ytokdcgmjpnanoaa
