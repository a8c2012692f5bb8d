/- Merged: SqT SqU SqV SqW. -/
import Derived.Test.YtokdcgmjpnanoaaSpC
import Derived.Test.YtokdcgmjpnanoaaSqM
import Derived.BigRegion
import Derived.Test.YtokdcgmjpnanoaaSqB
import Derived.Deep.Cut
import Derived.Deep.CutRange
import Derived.Laws.EntriesVeiled
import Derived.Deep.RegionHeld3
/- Traces by a prime: a power of x and a number tell two factors of one degree apart. No function of the program in it. -/
set_option linter.unusedVariables false
set_option linter.unusedSimpArgs false
namespace Go.Proofs.Ytokdcgmjpnanoaa

def trq (q : Nat) (v : List Int) : Nat → List Int
  | 0 => []
  | d + 1 => padd (trq q v d) (ppow v (q ^ d))
/-- y + y^q + .. as a monic polynomial over polynomials: d + 1 summands. -/
def trlq (q : Nat) : Nat → List (List Int)
  | 0 => [[]]
  | d + 1 => trlq q d ++ ([1] :: List.replicate (q ^ (d + 1) - q ^ d - 1) [])
section
variable {q : Nat}
theorem pow_lt_next (hq : IsP q) (d : Nat) : 1 ≤ q ^ d ∧ q ^ d + 1 ≤ q ^ (d + 1) := by
  have h1 : 1 ≤ q ^ d := Nat.pow_pos hq.pos
  have h2 : q ^ d * 2 ≤ q ^ d * q := Nat.mul_le_mul_left _ hq.1
  rw [Nat.pow_succ]; omega
theorem trlq_len (hq : IsP q) : ∀ d, (trlq q d).length = q ^ d
  | 0 => rfl
  | d + 1 => by
    have := pow_lt_next hq d
    simp only [trlq, List.length_append, trlq_len hq d, List.length_cons, List.length_replicate]; omega
theorem mpe_trlq (hq : IsP q) (y : List Int) (x : Int) : ∀ d, ev (mpe (trlq q d) y) x = ev (trq q y (d + 1)) x
  | 0 => by simp [trlq, mpe, trq, ev_padd, ev_pmul, ev_ppow, ev, padd, ppow, Int.pow_succ]
  | d + 1 => by
    have ih := mpe_trlq hq y x d
    have h1 := pow_lt_next hq d
    have e1 : ev y x ^ q ^ (d + 1) = ev y x ^ q ^ d * (ev y x * ev y x ^ (q ^ (d + 1) - q ^ d - 1)) := by
      have e : q ^ (d + 1) = q ^ d + (1 + (q ^ (d + 1) - q ^ d - 1)) := by omega
      calc ev y x ^ q ^ (d + 1) = ev y x ^ (q ^ d + (1 + (q ^ (d + 1) - q ^ d - 1))) := by rw [← e]
        _ = _ := by rw [Int.pow_add, Int.pow_add, Int.pow_succ, Int.pow_zero, Int.one_mul]
    have e2 : trq q y (d + 1 + 1) = padd (trq q y (d + 1)) (ppow y (q ^ (d + 1))) := rfl
    simp only [trlq]
    rw [mpe_app, ih, trlq_len hq, e2, ev_padd, ev_ppow, e1]
    simp only [mpe, ev_padd, ev_pmul, mpe_rep]
    simp only [ev]
    grind
/-- Some polynomial has a trace that is not 0. -/
theorem traceq_ex {g : List Int} (hq : IsP q) (hg : Irr q g) {d : Nat} (hd : g.length = d + 1) : ∃ y, ¬ Dv q g (trq q y d) := by
  have two := hg.two
  by_cases h : ∃ y, ¬ Dv q g (trq q y d)
  · exact h
  · exfalso
    obtain ⟨k, rfl⟩ : ∃ k, d = k + 1 := ⟨d - 1, by omega⟩
    have h1 := roots_le hq hg (trlq q k) (resL q (g.length - 1)) (resL_pair hq hg.mo) (fun a _ => by
      have : Dv q g (trq q a (k + 1)) := Classical.byContradiction fun n => h ⟨a, n⟩
      exact this.congr (.of_ev fun x => mpe_trlq hq a x k))
    rw [resL_len, trlq_len hq, hd, Nat.add_sub_cancel] at h1
    have := pow_lt_next hq k
    omega
theorem trq_M {m v w : List Int} (h : M q m v w) : ∀ d, M q m (trq q v d) (trq q w d)
  | 0 => M.refl m _
  | d + 1 => (trq_M h d).add (h.pow _)
theorem trq_E {v w : List Int} (h : E q v w) : ∀ d, E q (trq q v d) (trq q w d)
  | 0 => E.refl q _
  | d + 1 => (trq_E h d).add (h.pow _)
theorem trq_nil (hq : IsP q) (x : Int) : ∀ d, ev (trq q [] d) x = 0
  | 0 => rfl
  | d + 1 => by
    have := pow_lt_next hq d
    obtain ⟨k, hk⟩ : ∃ k, q ^ d = k + 1 := ⟨q ^ d - 1, by omega⟩
    simp only [trq, ev_padd, trq_nil hq x d, ev_ppow, hk, ev, Int.pow_succ]; simp
theorem trq_add (hq : IsP q) (f g : List Int) : ∀ d, E q (trq q (padd f g) d) (padd (trq q f d) (trq q g d))
  | 0 => .of_ev fun x => by simp [trq, ev_padd, ev]
  | d + 1 => ((trq_add hq f g d).add (frobs hq f g d)).trans (.of_ev fun x => by simp only [trq, ev_padd]; omega)
theorem trq_sc (hq : IsP q) (a : Int) (f : List Int) : ∀ d, E q (trq q (psc a f) d) (psc a (trq q f d))
  | 0 => .of_ev fun x => by simp [trq, ev_psc, ev]
  | d + 1 => by
    have h1 : E q (ppow (psc a f) (q ^ d)) (psc a (ppow f (q ^ d))) := by
      refine E.trans (g := pmul (ppow [a] (q ^ d)) (ppow f (q ^ d))) (.of_ev fun x => ?_) (((con_fermats hq a d).mul (E.refl q _)).trans (.of_ev fun x => ?_))
      · simp only [ev_ppow, ev_psc, ev_pmul, ev]; rw [← Int.mul_pow]; congr 1; grind
      · simp only [ev_psc, ev_pmul, ev]; grind
    exact ((trq_sc hq a f d).add h1).trans (.of_ev fun x => by simp only [trq, ev_padd, ev_psc]; grind)
theorem trq_pow (hq : IsP q) (f : List Int) : ∀ d, E q (padd (ppow (trq q f d) q) f) (padd (trq q f d) (ppow f (q ^ d)))
  | 0 => by
    obtain ⟨k, hk⟩ : ∃ k, q = k + 1 := ⟨q - 1, by have := hq.1; omega⟩
    exact .of_ev fun x => by simp only [trq, ev_padd, ev_ppow, Nat.pow_zero, ev]; rw [hk]; simp [Int.pow_succ]
  | d + 1 => by
    have h1 := frobenius hq (trq q f d) (ppow f (q ^ d))
    have h2 := trq_pow hq f d
    have h3 : E q (padd (ppow (trq q f (d + 1)) q) f) (padd (padd (ppow (trq q f d) q) f) (ppow f (q ^ (d + 1)))) :=
      (E.add (show E q (ppow (trq q f (d + 1)) q) _ from h1) (E.refl q f)).trans (.of_ev fun x => by
        simp only [ev_padd, ev_ppow, Nat.pow_succ, Int.pow_mul]; omega)
    exact h3.trans ((h2.add (E.refl q _)).trans (.of_ev fun x => by simp only [trq, ev_padd]))
/-- A trace is a constant by each irreducible polynomial of its degree. -/
theorem trq_con (hq : IsP q) {g : List Int} (hg : Irr q g) {d : Nat} (hd : g.length = d + 1) (f : List Int) : ∃ s : Nat, s < q ∧ M q g (trq q f d) [(s : Int)] := by
  refine fixed_con hq hg ?_
  have h1 := (trq_pow hq f d).m g
  have h2 := field_fermat hq hg f
  rw [hd, Nat.add_sub_cancel] at h2
  have h3 := h1.trans ((M.refl g (trq q f d)).add h2)
  have h4 := h3.add (M.refl g (psc (-1) f))
  exact (M.of_ev fun x => by simp only [ev_padd, ev_psc]; omega).trans (h4.trans (.of_ev fun x => by simp only [ev_padd, ev_psc]; omega))
/-- Multiples of the traces of powers. -/
def tsum (q d : Nat) : Nat → List Int → List Int
  | _, [] => []
  | k, a :: r => padd (psc a (trq q (ppow pX k) d)) (tsum q d (k + 1) r)
theorem tsum_is (hq : IsP q) (d : Nat) : ∀ (r : List Int) (k : Nat), E q (trq q (pmul (ppow pX k) r) d) (tsum q d k r)
  | [], k => (trq_E (q := q) (w := []) (.of_ev fun x => by simp [ev_pmul, ev]) d).trans (.of_ev fun x => by rw [trq_nil hq]; rfl)
  | a :: r, k => by
    have e1 : E q (pmul (ppow pX k) (a :: r)) (padd (psc a (ppow pX k)) (pmul (ppow pX (k + 1)) r)) := .of_ev fun x => by
      simp only [ev_pmul, ev_padd, ev_psc, ev_ppow, ev_pX, ev, Int.pow_succ]; grind
    exact (trq_E e1 d).trans ((trq_add hq _ _ d).trans ((trq_sc hq a _ d).add (tsum_is hq d r (k + 1))))
theorem tsum_con {g h : List Int} {d n : Nat} {s : Nat → Int} (hg : ∀ k, k < n → M q g (trq q (ppow pX k) d) [s k]) (hh : ∀ k, k < n → M q h (trq q (ppow pX k) d) [s k]) : ∀ (r : List Int) (k : Nat), k + r.length ≤ n → ∃ S : Int, M q g (tsum q d k r) [S] ∧ M q h (tsum q d k r) [S]
  | [], k, _ => ⟨0, .of_ev fun x => by simp [tsum, ev], .of_ev fun x => by simp [tsum, ev]⟩
  | a :: r, k, hk => by
    simp only [List.length_cons] at hk
    obtain ⟨S, h1, h2⟩ := tsum_con hg hh r (k + 1) (by omega)
    have step : ∀ {m : List Int}, M q m (trq q (ppow pX k) d) [s k] → M q m (tsum q d (k + 1) r) [S] → M q m (tsum q d k (a :: r)) [a * s k + S] := fun {m} u v => by
      have := (M.mul (M.refl m [a]) u).add v
      exact (M.of_ev fun x => by simp only [tsum, ev_padd, ev_psc, ev_pmul, ev]; grind).trans (this.trans (.of_ev fun x => by simp only [ev_padd, ev_pmul, ev]; grind))
    exact ⟨_, step (hg k (by omega)) h1, step (hh k (by omega)) h2⟩
theorem con_zero (hq : IsP q) {g : List Int} (hg : Irr q g) {S : Int} (h : M q g [S] []) : S % (q : Int) = 0 := by
  have h1 := small_zero hq hg.mo (dv_M.2 h) (by
    have := nf_len q [S]; have := hg.two; unfold dg
    have h2 : ([S] : List Int).length = 1 := rfl
    omega)
  have h2 := E_cf h1 0
  simpa using h2
theorem con_E {S T : Int} (h : S % (q : Int) = T % (q : Int)) : E q [S] [T] := cf_E fun i => by
  cases i with
  | zero => exact h
  | succ i => simp
theorem Splits.congr {w w' f : List Int} (h : Splits q w f) (e : M q f w w') : Splits q w' f := by
  obtain ⟨g, k, h1, h2, h3, h4, h5, h6⟩ := h
  exact ⟨g, k, h1, h2, h3, h4, dv_M.2 ((e.dv h3).symm.trans (dv_M.1 h5)), fun d => h6 (dv_M.2 ((e.dv h4).trans (dv_M.1 d)))⟩
/-- A power of x and a number: the trace of the one and the other split. -/
theorem choice_splits (hq : IsP q) {f : List Int} {d : Nat} (hf : Mo q f) (hs : SqF q f) (ha : AllD q f d) (hl : d + 1 < f.length) : ∃ k c : Nat, k < f.length - 1 ∧ c < q ∧ Splits q (padd (trq q (ppow pX k) d) [(c : Int)]) f := by
  obtain ⟨g, h, hg, hh, hne, gf, hf'⟩ := two_factors hq hf hs ha hl
  have gl := ha g hg gf
  have hhl := ha h hh hf'
  have h0 := hq.pos
  by_cases hex : ∃ k, k < f.length - 1 ∧ ∃ s t : Nat, s < q ∧ t < q ∧ s ≠ t ∧ M q g (trq q (ppow pX k) d) [(s : Int)] ∧ M q h (trq q (ppow pX k) d) [(t : Int)]
  · obtain ⟨k, hk, s, t, hs1, ht1, hst, ms, mt⟩ := hex
    refine ⟨k, (q - s) % q, hk, Nat.mod_lt _ h0, g, h, hg, hh, gf, hf', dv_M.2 ?_, fun dd => ?_⟩
    · have h1 := ms.add (M.refl g [(((q - s) % q : Nat) : Int)])
      refine h1.trans (E.m g (E.trans (g := [((s + (q - s) % q : Nat) : Int)]) (.of_ev fun x => by simp only [ev_padd, ev]; push_cast; omega) ((con_E (T := 0) ?_).trans (.of_ev fun x => by simp [ev]))))
      have e : (s + (q - s) % q) % q = 0 := by rw [Nat.add_mod_mod, show s + (q - s) = q by omega, Nat.mod_self]
      rw [← Int.natCast_emod, e]; rfl
    · have h1 := mt.add (M.refl h [(((q - s) % q : Nat) : Int)])
      have h2 : M q h [((t + (q - s) % q : Nat) : Int)] [] := (M.of_ev fun x => by simp only [ev_padd, ev]; push_cast; omega).trans (h1.symm.trans (dv_M.1 dd))
      have h3 := con_zero hq hh h2
      rw [← Int.natCast_emod] at h3
      have h4 : (t + (q - s) % q) % q = 0 := by exact_mod_cast h3
      rw [Nat.add_mod_mod] at h4
      obtain ⟨j, hj⟩ := Nat.dvd_of_mod_eq_zero h4
      have : j = 1 := by
        rcases Nat.lt_trichotomy j 1 with z | z | z
        · obtain rfl : j = 0 := by omega
          omega
        · exact z
        · have := Nat.mul_le_mul_left q (show 2 ≤ j from z); omega
      subst this; omega
  · exfalso
    have hall : ∀ k, ∃ s : Int, k < f.length - 1 → M q g (trq q (ppow pX k) d) [s] ∧ M q h (trq q (ppow pX k) d) [s] := fun k => by
      obtain ⟨s, hs1, ms⟩ := trq_con hq hg gl (ppow pX k)
      obtain ⟨t, ht1, mt⟩ := trq_con hq hh hhl (ppow pX k)
      refine ⟨s, fun hk => ⟨ms, ?_⟩⟩
      by_cases e : s = t
      · rw [e]; exact mt
      · exact absurd ⟨k, hk, s, t, hs1, ht1, e, ms, mt⟩ hex
    obtain ⟨s, hs2⟩ := Classical.axiomOfChoice hall
    obtain ⟨y, hy⟩ := traceq_ex hq hh hhl
    obtain ⟨v, vg, vh⟩ := crt hq (hg.cop hq hh hne) [] y
    obtain ⟨r, hr, hrl, hrv⟩ := rest_small hq hf v
    have rg := (hrv.dv gf).symm.trans vg
    have rh := (hrv.dv hf').symm.trans vh
    obtain ⟨S, k1, k2⟩ := tsum_con (n := f.length - 1) (s := s) (fun k hk => (hs2 k hk).1) (fun k hk => (hs2 k hk).2) r 0 (by omega)
    have e1 : E q (trq q r d) (tsum q d 0 r) := (trq_E (.of_ev fun x => by simp [ev_pmul, ppow, ev]) d).trans (tsum_is hq d r 0)
    have z1 : M q g [S] [] := k1.symm.trans ((e1.symm.m g).trans ((trq_M rg d).trans (.of_ev fun x => by rw [trq_nil hq]; rfl)))
    have z2 := con_zero hq hg z1
    have z3 : E q [S] [] := (con_E (T := 0) (by rw [z2]; rfl)).trans (.of_ev fun x => by simp [ev])
    exact hy (dv_M.2 ((trq_M rh d).symm.trans ((e1.m h).trans (k2.trans (z3.m h)))))
end
end Go.Proofs.Ytokdcgmjpnanoaa
/- split.trace by its contract; the memory of a splitter. -/
set_option linter.unusedVariables false
set_option linter.unusedSimpArgs false
namespace Go.Proofs.Ytokdcgmjpnanoaa
open Go.RowKit

set_option maxRecDepth 100000 in
set_option maxHeartbeats 2000000 in
theorem mod_trace {vh vf : Value} {q : Nat} {h f : List Int} {D : Nat} {w : World} (hh : SeesI w vh h) (hf : SeesI w vf f) (hlh : h.length ≤ 4096) (hlf : f.length ≤ 4096) (hD : D < 4096) (hq : IsP q) (mf : Mo q f) :
    Calls Try.prog 69 #[vh, .int .i64 ((D : Int) + 1), vf, .int .i64 q] w fun e w' => ∃ v T, e = .returned v ∧ SeesI w' v T ∧ M q f T (trq q h (D + 1)) ∧ T.length ≤ 4096 ∧ Below w.heap.size w w' := by
  obtain ⟨hq0, hq2⟩ := isP_bounds hq
  have HFv : Hid (∀ w1, Below w.heap.size w w1 → SeesI w1 vf f) := fun w1 h => SeesI.below hf h
  have HQ := hidP hq
  have HM := hidP mf
  have HLf := hidP hlf
  have HI : Hid (∃ H S : List Int, SeesI w vh H ∧ SeesI w vh S ∧ H.length ≤ 4096 ∧ S.length ≤ 4096 ∧ M q f H (ppow h (q ^ 0)) ∧ M q f S (trq q h (0 + 1))) :=
    ⟨h, h, hh, hh, hlh, hlh, .of_ev fun x => by rw [Nat.pow_zero, ev_ppow, Int.pow_succ, Int.pow_zero, Int.one_mul], .of_ev fun x => by simp only [trq, ev_padd, ev_ppow, Nat.pow_zero, ev]; rw [Int.pow_succ, Int.pow_zero]; omega⟩
  have hw1 : IntKind.i64.wrap (D : Int) = (D : Int) := by rw [IntKind.wrap_i64]; omega
  have e1 : (D : Int) + 1 - 1 = (D : Int) := by omega
  clear hh hf hlh hq mf
  go_enter Try.func69, Try.ntmps69
  go_wp2_with fail
  go_loopw [0, 9, 13] (fun v0 v9 v13 wr => ∃ k : Nat, v13 = .int .i64 k ∧ k ≤ D ∧ Hid (∃ H S : List Int, SeesI wr v0 H ∧ SeesI wr v9 S ∧ H.length ≤ 4096 ∧ S.length ≤ 4096 ∧ M q f H (ppow h (q ^ k)) ∧ M q f S (trq q h (k + 1))) ∧ Hid (Below w.heap.size w wr)) (fun _ _ v _ => D - (intOf v).toNat)
  case atStart => exact ⟨0, rfl, Nat.zero_le _, HI, Below.refl _ _⟩
  case round =>
    clear HI
    obtain ⟨k, rfl, hk, hX, hB⟩ := hrel
    obtain ⟨H, S, x1, x2, x3, x4, x5, x6⟩ := hX.out
    by_cases hlt : k < D
    · have CP := hidP (mod_PW (n := q) x1 (HFv.out wr hB.out) (by omega) x3 hlf HQ.out HM.out.nf_ne)
      have HS : Hid (∀ w1, Below wr.heap.size wr w1 → SeesI w1 u9 S) := fun w1 h => SeesI.below x2 h
      have HS4 := hidP x4
      have HS5 := hidP x5
      have HS6 := hidP x6
      have hk1 : IntKind.i64.wrap ((k : Int) + 1) = (k : Int) + 1 := by rw [IntKind.wrap_i64]; omega
      clear hX x1 x2 x3 x4 x5 x6
      go_wp2_with fail
      refine CP.out.mono ?_
      rintro e w1 ⟨v1, H', rfl, hs1, hr1, hb1⟩
      have B1 := hidP (step_below hB.out hb1)
      have hl1 : H'.length ≤ 4096 := by have := hr1.lt; have := nf_len q f; have := HLf.out; omega
      have HM1 : Hid (M q f H' (ppow h (q ^ (k + 1)))) := hr1.eq.symm.trans ((HS5.out.pow q).trans (.of_ev fun x => by rw [Nat.pow_succ, ppow_mul]))
      have CA := hidP (modT_Add (HS.out w1 hb1) hs1 (by have := HS4.out; omega) (by omega) HQ.out)
      have HH1 : Hid (∀ w2, Below w1.heap.size w1 w2 → SeesI w2 v1 H') := fun w2 h => SeesI.below hs1 h
      have HL1 := hidP hl1
      clear hs1 hr1 hb1 CP HS hl1
      go_wp2_with fail
      refine CA.out.mono ?_
      rintro e w2 ⟨v2, rfl, hs2, hb2⟩
      have B2 := hidP (step_below B1.out hb2)
      have HXn : Hid (∃ H S : List Int, SeesI w2 v1 H ∧ SeesI w2 v2 S ∧ H.length ≤ 4096 ∧ S.length ≤ 4096 ∧ M q f H (ppow h (q ^ (k + 1))) ∧ M q f S (trq q h (k + 1 + 1))) := by
        refine ⟨H', _, HH1.out w2 hb2, hs2, HL1.out, ?_, HM1.out, ((nf_E q _).m f).trans (HS6.out.add HM1.out)⟩
        have := nf_len q (padd S H'); rw [padd_len] at this
        have := HS4.out; have := HL1.out; omega
      clear hs2 hb2 CA HH1 HL1 HM1 HS4 HS5 HS6
      go_wp2_with fail
      go_roundw
      case rel => exact ⟨k + 1, by go_num, by omega, HXn, B2⟩
      case measure => simp [intOf]; omega
    · obtain rfl : k = D := by omega
      have HS := hidP x2
      have HS4 := hidP x4
      have HS6 := hidP x6
      clear hX x1 x2 x3 x4 x5 x6
      go_wp2_with fail
      go_ret
      exact ⟨_, S, rfl, HS.out, HS6.out, HS4.out, hB.out⟩

/-! ### A world that changes in two blocks alone -/
structure KeepX (c s : Nat) (a w : World) : Prop where
  os : w.os = a.os
  tape : w.tape = a.tape
  output : w.output = a.output
  size : a.heap.size ≤ w.heap.size
  block : ∀ k, k < a.heap.size → k ≠ c → k ≠ s → w.heap[k]? = a.heap[k]?
namespace KeepX
variable {c s : Nat} {a b w : World}
theorem refl (w : World) : KeepX c s w w := ⟨rfl, rfl, rfl, Nat.le_refl _, fun _ _ _ _ => rfl⟩
theorem trans (h : KeepX c s a b) (k : KeepX c s b w) : KeepX c s a w :=
  ⟨k.os.trans h.os, k.tape.trans h.tape, k.output.trans h.output, Nat.le_trans h.size k.size, fun i hi h1 h2 => (k.block i (Nat.lt_of_lt_of_le hi h.size) h1 h2).trans (h.block i hi h1 h2)⟩
theorem of_below (h : Below a.heap.size a w) : KeepX c s a w := ⟨h.os, h.tape, h.output, h.size, fun k hk _ _ => h.block k hk⟩
theorem set_c (h : KeepX c s a w) (i : Nat) (v : Value) : KeepX c s a (w.setCell ⟨c, i, none⟩ v) :=
  h.trans ⟨rfl, rfl, rfl, by rw [Deep.nblk_setCell]; exact Nat.le_refl _, fun k _ h1 _ => Below.heap_setCell w ⟨c, i, none⟩ v k h1⟩
theorem set_s (h : KeepX c s a w) (i : Nat) (v : Value) : KeepX c s a (w.setCell ⟨s, i, none⟩ v) :=
  h.trans ⟨rfl, rfl, rfl, by rw [Deep.nblk_setCell]; exact Nat.le_refl _, fun k _ _ h2 => Below.heap_setCell w ⟨s, i, none⟩ v k h2⟩
theorem below (h : KeepX c s a w) {B : Nat} (h1 : B ≤ c) (h2 : B ≤ s) (h3 : B ≤ a.heap.size) : Below B a w :=
  ⟨h.os, h.tape, h.output, h.size, fun k hk => h.block k (by omega) (by omega) (by omega)⟩
theorem cell (h : KeepX c s a w) {k i : Nat} (hk : k < a.heap.size) (h1 : k ≠ c) (h2 : k ≠ s) : w.cell? ⟨k, i, none⟩ = a.cell? ⟨k, i, none⟩ := by
  simp only [World.cell?, h.block k hk h1 h2]
end KeepX
/-- What a splitter's choices lie in: the count, the prime, the draws and the state. -/
structure Spl (q bc bp bd bs : Nat) (n : Nat) (w : World) : Prop where
  c : w.heap[bc]? = some (.cells #[.int .i64 n] 3 (0, 0))
  p : w.heap[bp]? = some (.cells #[.int .i64 q] 3 (0, 0))
  d : ∃ vd D, w.heap[bd]? = some (.cells #[vd] 22 (0, 0)) ∧ SeesI w vd D ∧ (D = [] ∨ ∃ b o l k, vd = .slice (some ⟨b, o, none⟩) l k ∧ b ≠ bc)
  s : ∃ z : Int, 0 ≤ z ∧ z < 18446744073709551616 ∧ w.heap[bs]? = some (.cells #[.int .u64 z] 49 (0, 0))
  ne1 : bc ≠ bs
  ne2 : bp ≠ bc
  ne3 : bd ≠ bc
theorem lt_of_block {w : World} {k : Nat} {o : Obj} (h : w.heap[k]? = some o) : k < w.heap.size := (Array.getElem?_eq_some_iff.1 h).1
/-- What is read of the heap keeps where the count and the state change. -/
theorem SeesI.keep2 {q bc bp bd bs n : Nat} {a w : World} {v : Value} {l : List Int} (h : SeesI a v l) (S : Spl q bc bp bd bs n a) (k : KeepX bc bs a w) (hl : l.length ≠ 1) : SeesI w v l := by
  obtain ⟨ao, cap, h1, h2, h3, h4, h5⟩ := h
  refine ⟨ao, cap, h1, h2, h3, h4, fun hp => ?_⟩
  obtain ⟨b, o, ha, hc⟩ := h5 hp
  refine ⟨b, o, ha, fun i hi => ?_⟩
  have h0 := hc i hi
  obtain ⟨z, -, -, hz⟩ := S.s
  have nb : b ≠ bc := by
    rintro rfl
    have h10 := hc 0 (by omega)
    have h11 := hc 1 (by omega)
    simp only [World.cell?, S.c] at h10 h11
    have e0 : o + 0 < 1 := by
      rcases Nat.lt_or_ge (o + 0) 1 with x | x
      · exact x
      · rw [Array.getElem?_eq_none (by simpa using x)] at h10; cases h10
    rw [Array.getElem?_eq_none (by simp)] at h11; cases h11
  have ns : b ≠ bs := by
    rintro rfl
    simp only [World.cell?, hz] at h0
    rcases Nat.eq_zero_or_pos (o + i) with x | x
    · rw [x] at h0; simp [vI] at h0
    · rw [Array.getElem?_eq_none (by simp; omega)] at h0; cases h0
  have hlt := World.block_lt_of_cell? a _ h0
  rw [k.cell hlt nb ns]; exact h0
/-- .. a row of the call's own. -/
theorem keepV {q bc bp bd bs n : Nat} {a w : World} {v : Value} {L : List (List Int)} (h : SeesL a v L) (S : Spl q bc bp bd bs n a) (k : KeepX bc bs a w) : ∃ vs : List Value, vs.length = L.length ∧ SeesF id vNil w v vs ∧ ∀ i, i < L.length → SeesI a (vs.getD i vNil) (L.getD i []) := by
  obtain ⟨vs, h1, ⟨ao, cap, e1, e2, e3, e4, e5⟩, h3⟩ := h
  refine ⟨vs, h1, ⟨ao, cap, e1, e2, e3, e4, fun hp => ?_⟩, h3⟩
  obtain ⟨b, o, ha, hc⟩ := e5 hp
  refine ⟨b, o, ha, fun i hi => ?_⟩
  have h0 := hc i hi
  obtain ⟨x, y, ez, -⟩ := SeesF.form (h3 i (by omega))
  have h0' : a.cell? ⟨b, o + i, none⟩ = some (.slice x (L.getD i []).length y) := by rw [h0]; exact congrArg some ez
  obtain ⟨z, -, -, hz⟩ := S.s
  have nb : b ≠ bc := by
    rintro rfl
    simp only [World.cell?, S.c] at h0'
    rcases Nat.eq_zero_or_pos (o + i) with x | x
    · rw [x] at h0'; simp at h0'
    · rw [Array.getElem?_eq_none (by simp; omega)] at h0'; cases h0'
  have ns : b ≠ bs := by
    rintro rfl
    simp only [World.cell?, hz] at h0'
    rcases Nat.eq_zero_or_pos (o + i) with x | x
    · rw [x] at h0'; simp at h0'
    · rw [Array.getElem?_eq_none (by simp; omega)] at h0'; cases h0'
  rw [k.cell (World.block_lt_of_cell? a _ h0) nb ns]; exact h0
end Go.Proofs.Ytokdcgmjpnanoaa
/- The choices of a splitter. -/
set_option linter.unusedVariables false
set_option linter.unusedSimpArgs false
namespace Go.Proofs.Ytokdcgmjpnanoaa
open Go.RowKit

theorem Spl.cells {q bc bp bd bs n : Nat} {w : World} (S : Spl q bc bp bd bs n w) : w.cell? ⟨bc, 0, none⟩ = some (.int .i64 n) ∧ w.cell? ⟨bp, 0, none⟩ = some (.int .i64 q) ∧ w.frozen? ⟨bc, 0, none⟩ = false ∧ bc < w.heap.size ∧ bp < w.heap.size := by
  refine ⟨by simp only [World.cell?, S.c]; rfl, by simp only [World.cell?, S.p]; rfl, by simp [World.frozen?, S.c], lt_of_block S.c, lt_of_block S.p⟩
theorem Spl.of_keep {q bc bp bd bs n n' : Nat} {w w' : World} (S : Spl q bc bp bd bs n w) (k : KeepX bc bs w w') (hc : w'.heap[bc]? = some (.cells #[.int .i64 n'] 3 (0, 0))) (hs : ∃ z : Int, 0 ≤ z ∧ z < 18446744073709551616 ∧ w'.heap[bs]? = some (.cells #[.int .u64 z] 49 (0, 0))) : Spl q bc bp bd bs n' w' := by
  obtain ⟨z, z1, z2, hz⟩ := S.s
  obtain ⟨vd, D, d1, d2, d3⟩ := S.d
  have np : bp ≠ bs := by rintro rfl; have := S.p.symm.trans hz; simp at this
  have nd : bd ≠ bs := by
    rintro rfl
    obtain ⟨a, b, e, -⟩ := SeesF.form d2
    have := d1.symm.trans hz
    rw [e] at this; simp at this
  refine ⟨hc, (k.block bp (lt_of_block S.p) S.ne2 np).trans S.p, ⟨vd, D, (k.block bd (lt_of_block d1) S.ne3 nd).trans d1, ?_, d3⟩, hs, S.ne1, S.ne2, S.ne3⟩
  obtain ⟨ao, cap, h1, h2, h3, h4, h5⟩ := d2
  refine ⟨ao, cap, h1, h2, h3, h4, fun hp => ?_⟩
  obtain ⟨b, o, ha, hcl⟩ := h5 hp
  refine ⟨b, o, ha, fun i hi => ?_⟩
  have h0 := hcl i hi
  have nb : b ≠ bc := by
    rcases d3 with e | ⟨b', o', l', k', e, hne⟩
    · rw [e] at hp; simp at hp
    · rw [e, ha] at h1
      simp only [Value.slice.injEq, Option.some.injEq, Addr.mk.injEq] at h1
      rw [← h1.1.1]; exact hne
  have ns : b ≠ bs := by
    rintro rfl
    simp only [World.cell?, hz] at h0
    rcases Nat.eq_zero_or_pos (o + i) with x | x
    · rw [x] at h0; simp [vI] at h0
    · rw [Array.getElem?_eq_none (by simp; omega)] at h0; cases h0
  rw [k.cell (World.block_lt_of_cell? w _ h0) nb ns]; exact h0
theorem Spl.below {q bc bp bd bs n : Nat} {w w' : World} (S : Spl q bc bp bd bs n w) (hb : Below w.heap.size w w') : Spl q bc bp bd bs n w' := by
  obtain ⟨z, z1, z2, hz⟩ := S.s
  exact S.of_keep (KeepX.of_below hb) ((hb.block bc (lt_of_block S.c)).trans S.c) ⟨z, z1, z2, (hb.block bs (lt_of_block hz)).trans hz⟩
theorem heap_set_self {w : World} {b : Nat} {v x : Value} {t : TypeId} {r : Nat × Nat} (h : w.heap[b]? = some (.cells #[v] t r)) : (w.setCell ⟨b, 0, none⟩ x).heap[b]? = some (.cells #[x] t r) := by
  simp only [World.setCell, Array.getElem?_modify, h, if_true, Option.map_some]; rfl
theorem KeepX.set_new {c s : Nat} {a w : World} (h : KeepX c s a w) {g : Nat} (hg : a.heap.size ≤ g) (i : Nat) (v : Value) : KeepX c s a (w.setCell ⟨g, i, none⟩ v) :=
  ⟨h.os, h.tape, h.output, by rw [Deep.nblk_setCell]; exact h.size, fun k hk h1 h2 => (Below.heap_setCell w ⟨g, i, none⟩ v k (by show k ≠ g; omega)).trans (h.block k hk h1 h2)⟩
theorem u64_range (n : Int) : 0 ≤ IntKind.u64.wrap n ∧ IntKind.u64.wrap n < 18446744073709551616 := by rw [IntKind.wrap_u64]; omega
theorem bits_range (o : BinOp) (x y : Int) : 0 ≤ bits o .u64 x y ∧ bits o .u64 x y < 18446744073709551616 := u64_range _
/-- One at place k, noughts elsewhere: n in all. -/
def unitL (k n : Nat) : List Int := (List.replicate n (0 : Int)).set k 1

set_option maxRecDepth 100000 in
set_option maxHeartbeats 2000000 in
theorem next_odd {q bc bp bd bs t n : Nat} {w : World} (S : Spl q bc bp bd bs (2 * t + 1) w) (hq : IsP q) (hn0 : 1 ≤ n) (hn : n ≤ 4096) (ht : t < 1152921504606846976) :
    Calls Try.prog 37 #[.int .i64 n, .pointer (some ⟨bc, 0, none⟩), .pointer (some ⟨bp, 0, none⟩), .pointer (some ⟨bd, 0, none⟩), .pointer (some ⟨bs, 0, none⟩)] w fun e w' =>
      ∃ v, e = .returned (.tuple #[v, .int .i64 ((t / n % q : Nat) : Int)]) ∧ SeesI w' v (unitL (n - 1 - t % n) n) ∧ Spl q bc bp bd bs (2 * t + 2) w' ∧ KeepX bc bs w w' := by
  obtain ⟨hq0, hq2⟩ := isP_bounds hq
  obtain ⟨c1, c2, c3, c4, c5⟩ := S.cells
  have hmk := run_make_row' (P := Try.prog) 22 3 (.int .i64 0) 8 Try.underlying22 info_int rfl .i64 .i64 n (by omega) (by omega)
  have HS := hidP S
  obtain ⟨K, hK⟩ : ∃ K : Nat, K = 2 * t + 1 := ⟨_, rfl⟩
  have HK := hidP hK
  rw [← hK] at c1
  have q1 : Int.tdiv (K : Int) 2 = (t : Int) := by rw [Int.tdiv_eq_ediv_of_nonneg (by omega)]; omega
  have q2 : (K : Int) / 2 = (t : Int) := by omega
  have q3 : IntKind.i64.wrap (t : Int) = (t : Int) := by rw [IntKind.wrap_i64]; omega
  have q4 : IntKind.i64.wrap ((K : Int) + 1) = (K : Int) + 1 := by rw [IntKind.wrap_i64]; omega
  have q5 : Int.tmod ((K : Int) + 1) 2 = 0 := by rw [Int.tmod_eq_emod_of_nonneg (by omega)]; omega
  have q6 : ((K : Int) + 1) % 2 = 0 := by omega
  have n1 : ((n : Int) == 0) = false := by rw [beq_eq_false_iff_ne]; omega
  have hNe : Hid (bc ≠ w.heap.size) := by show _ ≠ _; omega
  clear S hq hK
  go_enter Try.func37, Try.ntmps37
  -- the world behind the make and the count
  have hnb : bc ≠ w.heap.size := hNe.out
  obtain ⟨W1, hW1⟩ : ∃ W1, W1 = w.setCell ⟨bc, 0, none⟩ (.int .i64 ((K : Int) + 1)) := ⟨_, rfl⟩
  have hK2 : ((K : Int) + 1) = ((2 * t + 2 : Nat) : Int) := by have := HK.out; omega
  have s1 : Spl q bc bp bd bs (2 * t + 2) (w.setCell ⟨bc, 0, none⟩ (.int .i64 ((K : Int) + 1))) := by
    obtain ⟨z, z1, z2, hz⟩ := HS.out.s
    refine HS.out.of_keep ((KeepX.refl w).set_c 0 _) ?_ ⟨z, z1, z2, (Below.heap_setCell w ⟨bc, 0, none⟩ _ bs (fun e => HS.out.ne1 e.symm)).trans hz⟩
    rw [hK2]; exact heap_set_self HS.out.c
  have k1 : KeepX bc bs w W1 := by rw [hW1]; exact (KeepX.refl w).set_c 0 _
  rw [← hW1] at s1
  obtain ⟨G, hG⟩ : ∃ G, G = w.heap.size := ⟨_, rfl⟩
  have hz1 : W1.heap.size = G := by rw [hW1, hG, Deep.nblk_setCell]
  have hb2 : Below W1.heap.size W1 (W1.alloc (.cells (madeCells #[.int .i64 0] n) 3)).drew := (((Below.refl _ W1).alloc (Nat.le_refl _) _)).drew
  have HR : Hid (RowW (W1.alloc (.cells (madeCells #[.int .i64 0] n) 3)).drew G (List.replicate n 0)) := by
    have h := RowW.made W1 n
    rw [hz1] at h
    exact h.of_block rfl
  have HS2 := hidP (s1.below hb2)
  have HK2 : Hid (KeepX bc bs w (W1.alloc (.cells (madeCells #[.int .i64 0] n) 3)).drew) := k1.trans (KeepX.of_below hb2)
  obtain ⟨Y, hY⟩ : ∃ Y, Y = (W1.alloc (.cells (madeCells #[.int .i64 0] n) 3)).drew := ⟨_, rfl⟩
  rw [← hY] at HR HS2 HK2
  rw [hW1] at hY
  have HY := hidP hY
  have HGe := hidP hG
  have e1 := HS2.out.cells.2.1
  have r1 : Int.tmod (t : Int) (n : Int) = ((t % n : Nat) : Int) := by rw [Int.tmod_eq_emod_of_nonneg (by omega)]; rfl
  have r2 : (t : Int) % (n : Int) = ((t % n : Nat) : Int) := rfl
  have hrn := Nat.mod_lt t (show 0 < n by omega)
  obtain ⟨r, hr⟩ : ∃ r, t % n = r := ⟨_, rfl⟩
  rw [hr] at r1 r2 hrn
  obtain ⟨j, hj⟩ : ∃ j, n - 1 - r = j := ⟨_, rfl⟩
  have r3 : (n : Int) - 1 - (r : Int) = (j : Int) := by omega
  have r4 : IntKind.i64.wrap (j : Int) = (j : Int) := by rw [IntKind.wrap_i64]; omega
  have r5 : (j : Int) < (n : Int) := by omega
  have u1 : Int.tdiv (t : Int) (n : Int) = ((t / n : Nat) : Int) := by rw [Int.tdiv_eq_ediv_of_nonneg (by omega)]; rfl
  have u2 : (t : Int) / (n : Int) = ((t / n : Nat) : Int) := rfl
  have hun : t / n ≤ t := Nat.div_le_self t n
  obtain ⟨u, hu⟩ : ∃ u, t / n = u := ⟨_, rfl⟩
  rw [hu] at u1 u2 hun
  have u3 : IntKind.i64.wrap (u : Int) = (u : Int) := by rw [IntKind.wrap_i64]; omega
  have v1 : Int.tmod (u : Int) (q : Int) = ((u % q : Nat) : Int) := by rw [Int.tmod_eq_emod_of_nonneg (by omega)]; rfl
  have v2 : (u : Int) % (q : Int) = ((u % q : Nat) : Int) := rfl
  have z1 : ((q : Int) == 0) = false := by rw [beq_eq_false_iff_ne]; omega
  have HL : Hid ((u % q : Nat) = t / n % q ∧ unitL (n - 1 - t % n) n = (List.replicate n (0 : Int)).set j 1) := ⟨by rw [hu], by unfold unitL; rw [hr, hj]⟩
  obtain ⟨cc, hcc⟩ : ∃ cc, u % q = cc := ⟨_, rfl⟩
  rw [hcc] at v1 v2 HL
  have hjl : j < (List.replicate n (0 : Int)).length := by rw [List.length_replicate]; omega
  have f1 := HR.out.frozen j
  have f2 := HR.out.cell hjl
  have f3 := HR.out.lt
  have HE : Hid (SeesI (Y.setCell ⟨G, j, none⟩ (.int .i64 1)) (.slice (some ⟨G, 0, none⟩) n n) ((List.replicate n (0 : Int)).set j 1)) := by
    have h := HR.out.set hjl 1
    exact ⟨_, n, by rw [List.length_set, List.length_replicate], by rw [List.length_set, List.length_replicate]; exact Nat.le_refl _, by rw [List.length_set, List.length_replicate]; omega, (fun e => by cases e), fun _ => ⟨G, 0, rfl, fun i hi => by rw [Nat.zero_add]; exact h.cell hi⟩⟩
  have hgs : w.heap.size ≤ G := by rw [hG]; exact Nat.le_refl _
  have HE2 : Hid (Spl q bc bp bd bs (2 * t + 2) (Y.setCell ⟨G, j, none⟩ (.int .i64 1))) := by
    obtain ⟨z, z1, z2, hz⟩ := HS2.out.s
    obtain ⟨z', -, -, hz'⟩ := HS.out.s
    have l1 := lt_of_block HS.out.c
    have l2 := lt_of_block hz'
    exact HS.out.of_keep (HK2.out.set_new hgs _ _) ((Below.heap_setCell Y ⟨G, j, none⟩ _ bc (by show bc ≠ G; omega)).trans HS2.out.c) ⟨z, z1, z2, (Below.heap_setCell Y ⟨G, j, none⟩ _ bs (by show bs ≠ G; omega)).trans hz⟩
  have HE3 : Hid (KeepX bc bs w (Y.setCell ⟨G, j, none⟩ (.int .i64 1))) := HK2.out.set_new hgs _ _
  obtain ⟨y, hy⟩ : ∃ y, (List.replicate n (0 : Int)).getD j 0 = y := ⟨_, rfl⟩
  obtain ⟨Y2, hY2⟩ : ∃ Y2, Y2 = Y.setCell ⟨G, j, none⟩ (.int .i64 1) := ⟨_, rfl⟩
  have HY2 := hidP hY2
  rw [← hY2] at HE HE2 HE3
  have e2 := HE2.out.cells.2.1
  clear hY2
  rw [hy] at f2
  clear hnb hK2 s1 k1 hz1 hb2 hY hG hr hj hu hcc hjl hgs hy hun hrn hW1 W1
  go_wp2
  go_region
  all_goals
    go_upto_region 4 with fail
    rw [← HGe.out, ← HY.out]
    go_upto_region 5 with fail
    rw [← HY2.out]
    go_region
    all_goals
      go_wp2_with fail
      go_ret2
      rw [← HL.out.1, HL.out.2]
      exact ⟨_, rfl, HE.out, HE2.out.below ((Below.refl _ _).drew), HE3.out.trans (KeepX.of_below ((Below.refl _ _).drew))⟩
set_option maxRecDepth 100000 in
set_option maxHeartbeats 2000000 in
theorem next_even {q bc bp bd bs t n : Nat} {w : World} (S : Spl q bc bp bd bs (2 * t) w) (hq : IsP q) (hn0 : 1 ≤ n) (hn : n ≤ 4096) (ht : t < 1152921504606846976) :
    Calls Try.prog 37 #[.int .i64 n, .pointer (some ⟨bc, 0, none⟩), .pointer (some ⟨bp, 0, none⟩), .pointer (some ⟨bd, 0, none⟩), .pointer (some ⟨bs, 0, none⟩)] w fun e w' =>
      ∃ v H, e = .returned (.tuple #[v, .int .i64 0]) ∧ SeesI w' v H ∧ H.length = n ∧ Spl q bc bp bd bs (2 * t + 1) w' ∧ KeepX bc bs w w' := by
  obtain ⟨hq0, hq2⟩ := isP_bounds hq
  obtain ⟨c1, c2, c3, c4, c5⟩ := S.cells
  have hmk := run_make_row' (P := Try.prog) 22 3 (.int .i64 0) 8 Try.underlying22 info_int rfl .i64 .i64 n (by omega) (by omega)
  have HS := hidP S
  obtain ⟨K, hK⟩ : ∃ K : Nat, K = 2 * t := ⟨_, rfl⟩
  have HK := hidP hK
  rw [← hK] at c1
  have q1 : Int.tdiv (K : Int) 2 = (t : Int) := by rw [Int.tdiv_eq_ediv_of_nonneg (by omega)]; omega
  have q2 : (K : Int) / 2 = (t : Int) := by omega
  have q3 : IntKind.i64.wrap (t : Int) = (t : Int) := by rw [IntKind.wrap_i64]; omega
  have q4 : IntKind.i64.wrap ((K : Int) + 1) = (K : Int) + 1 := by rw [IntKind.wrap_i64]; omega
  have q5 : Int.tmod ((K : Int) + 1) 2 = 1 := by rw [Int.tmod_eq_emod_of_nonneg (by omega)]; omega
  have q6 : ((K : Int) + 1) % 2 = 1 := by omega
  have n1 : ((n : Int) == 0) = false := by rw [beq_eq_false_iff_ne]; omega
  have hNe : Hid (bc ≠ w.heap.size) := by show _ ≠ _; omega
  clear S hq hK
  go_enter Try.func37, Try.ntmps37
  -- the world behind the make and the count
  have hnb : bc ≠ w.heap.size := hNe.out
  obtain ⟨W1, hW1⟩ : ∃ W1, W1 = w.setCell ⟨bc, 0, none⟩ (.int .i64 ((K : Int) + 1)) := ⟨_, rfl⟩
  have hK2 : ((K : Int) + 1) = ((2 * t + 1 : Nat) : Int) := by have := HK.out; omega
  have s1 : Spl q bc bp bd bs (2 * t + 1) (w.setCell ⟨bc, 0, none⟩ (.int .i64 ((K : Int) + 1))) := by
    obtain ⟨z, z1, z2, hz⟩ := HS.out.s
    refine HS.out.of_keep ((KeepX.refl w).set_c 0 _) ?_ ⟨z, z1, z2, (Below.heap_setCell w ⟨bc, 0, none⟩ _ bs (fun e => HS.out.ne1 e.symm)).trans hz⟩
    rw [hK2]; exact heap_set_self HS.out.c
  have k1 : KeepX bc bs w W1 := by rw [hW1]; exact (KeepX.refl w).set_c 0 _
  rw [← hW1] at s1
  obtain ⟨G, hG⟩ : ∃ G, G = w.heap.size := ⟨_, rfl⟩
  have hz1 : W1.heap.size = G := by rw [hW1, hG, Deep.nblk_setCell]
  have hb2 : Below W1.heap.size W1 (W1.alloc (.cells (madeCells #[.int .i64 0] n) 3)).drew := (((Below.refl _ W1).alloc (Nat.le_refl _) _)).drew
  have HR : Hid (RowW (W1.alloc (.cells (madeCells #[.int .i64 0] n) 3)).drew G (List.replicate n 0)) := by
    have h := RowW.made W1 n
    rw [hz1] at h
    exact h.of_block rfl
  have HS2 := hidP (s1.below hb2)
  have HK2 : Hid (KeepX bc bs w (W1.alloc (.cells (madeCells #[.int .i64 0] n) 3)).drew) := k1.trans (KeepX.of_below hb2)
  obtain ⟨Y, hY⟩ : ∃ Y, Y = (W1.alloc (.cells (madeCells #[.int .i64 0] n) 3)).drew := ⟨_, rfl⟩
  rw [← hY] at HR HS2 HK2
  rw [hW1] at hY
  have HY := hidP hY
  have HGe := hidP hG
  obtain ⟨z, z1, z2, hz⟩ := HS2.out.s
  obtain ⟨vd, D, d1, d2, d3⟩ := HS2.out.d
  have c6 : Y.cell? ⟨bs, 0, none⟩ = some (.int .u64 z) := by simp only [World.cell?, hz]; rfl
  have c7 : Y.frozen? ⟨bs, 0, none⟩ = false := by simp [World.frozen?, hz]
  have c8 := lt_of_block hz
  have c9 : Y.cell? ⟨bd, 0, none⟩ = some vd := by simp only [World.cell?, d1]; rfl
  obtain ⟨ad, cd, rfl, -⟩ := SeesF.form d2
  clear hnb hK2 s1 k1 hz1 hb2 hY hG hW1 W1
  go_wp2
  go_region
  all_goals
    go_upto_region 6 with fail
    rw [← HGe.out, ← HY.out]
  all_goals
    by_cases hlt : t < D.length
    · obtain ⟨b0, o0, e0, hc0⟩ := d2.at (by omega)
      subst e0
      have hc := hc0 t hlt
      obtain ⟨x, hx⟩ : ∃ x, D.getD t 0 = x := ⟨_, rfl⟩
      rw [hx] at hc
      clear hx hc0 d2 d3 d1
      have hlt' : (t : Int) < (D.length : Int) := by omega
      obtain ⟨Z, hZ⟩ : ∃ Z, bits BinOp.xor IntKind.u64 z (IntKind.u64.wrap x) = Z := ⟨_, rfl⟩
      have hZr := bits_range BinOp.xor z (IntKind.u64.wrap x)
      rw [hZ] at hZr
      obtain ⟨WW, hWW⟩ : ∃ WW, WW = (Y.setCell ⟨bs, 0, none⟩ (.int .u64 Z)).drew := ⟨_, rfl⟩
      have HWW := hidP hWW
      have hGn : G ≠ bs := by
        rintro rfl
        have h0 := HR.out.cell (i := 0) (by rw [List.length_replicate]; omega)
        rw [h0] at c6; cases c6
      have HRW : Hid (RowW WW G (List.replicate n 0)) := by rw [hWW]; exact HR.out.of_block (Below.heap_setCell Y ⟨bs, 0, none⟩ _ G hGn)
      have HKW : Hid (KeepX bc bs w WW) := by rw [hWW]; exact (HK2.out.set_s 0 _).trans (KeepX.of_below ((Below.refl _ _).drew))
      have HSW : Hid (Spl q bc bp bd bs (2 * t + 1) WW) := by
        rw [hWW]
        have hb : Below (Y.setCell ⟨bs, 0, none⟩ (.int .u64 Z)).heap.size (Y.setCell ⟨bs, 0, none⟩ (.int .u64 Z)) (Y.setCell ⟨bs, 0, none⟩ (.int .u64 Z)).drew := (Below.refl _ _).drew
        refine Spl.below ?_ hb
        exact HS2.out.of_keep ((KeepX.refl Y).set_s 0 _) ((Below.heap_setCell Y ⟨bs, 0, none⟩ _ bc HS2.out.ne1).trans HS2.out.c) ⟨Z, hZr.1, hZr.2, heap_set_self hz⟩
      have HZ := hidP hZ
      clear hZ hZr hWW hGn HR HS2 HK2 z1 z2 hz
      go_wp2_with fail
      go_region
      all_goals
        go_wp2_with fail
        rw [HZ.out, ← HWW.out]
        clear c6 c7 c8 c9 hc

        have HI0 : Hid (∃ l, RowW WW G l ∧ l.length = n) := ⟨_, HRW.out, List.length_replicate⟩
        clear HRW
        go_loopw [47] (fun v wr => ∃ k : Nat, v = .int .i64 k ∧ k ≤ n ∧ Hid (∃ l, RowW wr G l ∧ l.length = n) ∧ Hid (Spl q bc bp bd bs (2 * t + 1) wr) ∧ Hid (KeepX bc bs w wr)) (fun v _ => n - (intOf v).toNat)
        case atStart => exact ⟨0, rfl, Nat.zero_le _, HI0, HSW, HKW⟩
        case round =>
          clear HI0 HSW HKW
          obtain ⟨k, rfl, hk, hR, hS, hKp⟩ := hrel
          by_cases hlt2 : k < n
          · obtain ⟨l, l1, l2⟩ := hR.out
            obtain ⟨z3, z4, z5, hz3⟩ := hS.out.s
            have d6 : wr.cell? ⟨bs, 0, none⟩ = some (.int .u64 z3) := by simp only [World.cell?, hz3]; rfl
            have d7 : wr.frozen? ⟨bs, 0, none⟩ = false := by simp [World.frozen?, hz3]
            have d8 := hS.out.cells.2.1
            have l3 := l1.frozen k
            have l4 := l1.cell (i := k) (by omega)
            have l5 := l1.lt
            obtain ⟨y0, hy0⟩ : ∃ y0, l.getD k 0 = y0 := ⟨_, rfl⟩
            rw [hy0] at l4
            obtain ⟨x1, hx1⟩ : ∃ x1, IntKind.u64.wrap (z3 * 6364136223846793005) = x1 := ⟨_, rfl⟩
            obtain ⟨x2, hx2⟩ : ∃ x2, IntKind.u64.wrap (x1 + 1442695040888963407) = x2 := ⟨_, rfl⟩
            have hr2 := u64_range (x1 + 1442695040888963407)
            rw [hx2] at hr2
            have hGn : G ≠ bs := by
              rintro rfl
              have h0 := l1.cell (i := 0) (by omega)
              simp only [World.cell?, hz3] at h0
              simp at h0
            obtain ⟨W3, hW3⟩ : ∃ W3, W3 = wr.setCell ⟨bs, 0, none⟩ (.int .u64 x2) := ⟨_, rfl⟩
            have l6 : RowW W3 G l := by rw [hW3]; exact l1.of_block (Below.heap_setCell wr ⟨bs, 0, none⟩ _ G hGn)
            have hK3 : KeepX bc bs w W3 := by rw [hW3]; exact hKp.out.set_s 0 _
            have hS3 : Spl q bc bp bd bs (2 * t + 1) W3 := by
              rw [hW3]
              exact hS.out.of_keep ((KeepX.refl wr).set_s 0 _) ((Below.heap_setCell wr ⟨bs, 0, none⟩ _ bc hS.out.ne1).trans hS.out.c) ⟨x2, hr2.1, hr2.2, heap_set_self hz3⟩
            have g6 : W3.cell? ⟨bs, 0, none⟩ = some (.int .u64 x2) := by
              have := heap_set_self (x := .int .u64 x2) hz3
              rw [← hW3] at this
              simp only [World.cell?, this]; rfl
            have g8 := hS3.cells.2.1
            have g3 := l6.frozen k
            have g4 := l6.cell (i := k) (by omega)
            have g5 := l6.lt
            rw [hy0] at g4
            have HW3 := hidP hW3
            clear hR hy0 hW3 hGn hz3 z4 z5
            obtain ⟨y1, hy1⟩ : ∃ y1, x2 / 8589934592 % (q : Int) = y1 := ⟨_, rfl⟩
            have hgs : w.heap.size ≤ G := by rw [HGe.out]; exact Nat.le_refl _
            have HKn : Hid (KeepX bc bs w (W3.setCell ⟨G, k, none⟩ (.int .i64 y1))) := hK3.set_new hgs _ _
            have HRn : Hid (∃ l, RowW (W3.setCell ⟨G, k, none⟩ (.int .i64 y1)) G l ∧ l.length = n) := ⟨_, l6.set (by omega) y1, by rw [List.length_set]; exact l2⟩
            have HSn : Hid (Spl q bc bp bd bs (2 * t + 1) (W3.setCell ⟨G, k, none⟩ (.int .i64 y1))) := by
              obtain ⟨z', z1', z2', hz'⟩ := hS3.s
              obtain ⟨z'', -, -, hz''⟩ := HS.out.s
              have l1' := lt_of_block HS.out.c
              have l2' := lt_of_block hz''
              exact HS.out.of_keep HKn.out ((Below.heap_setCell W3 ⟨G, k, none⟩ _ bc (by show bc ≠ G; omega)).trans hS3.c) ⟨z', z1', z2', (Below.heap_setCell W3 ⟨G, k, none⟩ _ bs (by show bs ≠ G; omega)).trans hz'⟩
            have hk1 : IntKind.i64.wrap ((k : Int) + 1) = (k : Int) + 1 := by rw [IntKind.wrap_i64]; omega
            have HY1 := hidP hy1
            clear hy1 hS3 hK3 l6 l1 l2 hgs
            go_upto_region 12 with fail
            rw [← HW3.out]
            go_wp2_with fail
            rw [HY1.out]
            go_roundw
            case rel => exact ⟨k + 1, by go_num, by omega, HRn, HSn, HKn⟩
            case measure => simp [intOf]; omega
          · obtain rfl : k = n := by omega
            obtain ⟨l, l1, l2⟩ := hR.out
            have HSe : Hid (SeesI wr (.slice (some ⟨G, 0, none⟩) k k) l) := ⟨_, k, by rw [l2], by omega, by omega, (fun e => by cases e), fun _ => ⟨G, 0, rfl, fun i hi => by rw [Nat.zero_add]; exact l1.cell hi⟩⟩
            have Hl2 := hidP l2
            clear hR l1 l2
            go_wp2_with fail
            go_ret2
            exact ⟨_, l, rfl, HSe.out, Hl2.out, hS.out, hKp.out⟩
    · have hlt' : ¬ (t : Int) < (D.length : Int) := by omega
      have HR2 := hidP HR.out
      clear HR d2 d3 d1 z1 z2 hz c6 c7
      go_wp2_with fail
      clear c8 c9

      have HI0 : Hid (∃ l, RowW Y G l ∧ l.length = n) := ⟨_, HR2.out, List.length_replicate⟩
      clear HR2
      go_loopw [47] (fun v wr => ∃ k : Nat, v = .int .i64 k ∧ k ≤ n ∧ Hid (∃ l, RowW wr G l ∧ l.length = n) ∧ Hid (Spl q bc bp bd bs (2 * t + 1) wr) ∧ Hid (KeepX bc bs w wr)) (fun v _ => n - (intOf v).toNat)
      case atStart => exact ⟨0, rfl, Nat.zero_le _, HI0, HS2, HK2⟩
      case round =>
        clear HI0 HS2 HK2
        obtain ⟨k, rfl, hk, hR, hS, hKp⟩ := hrel
        by_cases hlt2 : k < n
        · obtain ⟨l, l1, l2⟩ := hR.out
          obtain ⟨z3, z4, z5, hz3⟩ := hS.out.s
          have d6 : wr.cell? ⟨bs, 0, none⟩ = some (.int .u64 z3) := by simp only [World.cell?, hz3]; rfl
          have d7 : wr.frozen? ⟨bs, 0, none⟩ = false := by simp [World.frozen?, hz3]
          have d8 := hS.out.cells.2.1
          have l3 := l1.frozen k
          have l4 := l1.cell (i := k) (by omega)
          have l5 := l1.lt
          obtain ⟨y0, hy0⟩ : ∃ y0, l.getD k 0 = y0 := ⟨_, rfl⟩
          rw [hy0] at l4
          obtain ⟨x1, hx1⟩ : ∃ x1, IntKind.u64.wrap (z3 * 6364136223846793005) = x1 := ⟨_, rfl⟩
          obtain ⟨x2, hx2⟩ : ∃ x2, IntKind.u64.wrap (x1 + 1442695040888963407) = x2 := ⟨_, rfl⟩
          have hr2 := u64_range (x1 + 1442695040888963407)
          rw [hx2] at hr2
          have hGn : G ≠ bs := by
            rintro rfl
            have h0 := l1.cell (i := 0) (by omega)
            simp only [World.cell?, hz3] at h0
            simp at h0
          obtain ⟨W3, hW3⟩ : ∃ W3, W3 = wr.setCell ⟨bs, 0, none⟩ (.int .u64 x2) := ⟨_, rfl⟩
          have l6 : RowW W3 G l := by rw [hW3]; exact l1.of_block (Below.heap_setCell wr ⟨bs, 0, none⟩ _ G hGn)
          have hK3 : KeepX bc bs w W3 := by rw [hW3]; exact hKp.out.set_s 0 _
          have hS3 : Spl q bc bp bd bs (2 * t + 1) W3 := by
            rw [hW3]
            exact hS.out.of_keep ((KeepX.refl wr).set_s 0 _) ((Below.heap_setCell wr ⟨bs, 0, none⟩ _ bc hS.out.ne1).trans hS.out.c) ⟨x2, hr2.1, hr2.2, heap_set_self hz3⟩
          have g6 : W3.cell? ⟨bs, 0, none⟩ = some (.int .u64 x2) := by
            have := heap_set_self (x := .int .u64 x2) hz3
            rw [← hW3] at this
            simp only [World.cell?, this]; rfl
          have g8 := hS3.cells.2.1
          have g3 := l6.frozen k
          have g4 := l6.cell (i := k) (by omega)
          have g5 := l6.lt
          rw [hy0] at g4
          have HW3 := hidP hW3
          clear hR hy0 hW3 hGn hz3 z4 z5
          obtain ⟨y1, hy1⟩ : ∃ y1, x2 / 8589934592 % (q : Int) = y1 := ⟨_, rfl⟩
          have hgs : w.heap.size ≤ G := by rw [HGe.out]; exact Nat.le_refl _
          have HKn : Hid (KeepX bc bs w (W3.setCell ⟨G, k, none⟩ (.int .i64 y1))) := hK3.set_new hgs _ _
          have HRn : Hid (∃ l, RowW (W3.setCell ⟨G, k, none⟩ (.int .i64 y1)) G l ∧ l.length = n) := ⟨_, l6.set (by omega) y1, by rw [List.length_set]; exact l2⟩
          have HSn : Hid (Spl q bc bp bd bs (2 * t + 1) (W3.setCell ⟨G, k, none⟩ (.int .i64 y1))) := by
            obtain ⟨z', z1', z2', hz'⟩ := hS3.s
            obtain ⟨z'', -, -, hz''⟩ := HS.out.s
            have l1' := lt_of_block HS.out.c
            have l2' := lt_of_block hz''
            exact HS.out.of_keep HKn.out ((Below.heap_setCell W3 ⟨G, k, none⟩ _ bc (by show bc ≠ G; omega)).trans hS3.c) ⟨z', z1', z2', (Below.heap_setCell W3 ⟨G, k, none⟩ _ bs (by show bs ≠ G; omega)).trans hz'⟩
          have hk1 : IntKind.i64.wrap ((k : Int) + 1) = (k : Int) + 1 := by rw [IntKind.wrap_i64]; omega
          have HY1 := hidP hy1
          clear hy1 hS3 hK3 l6 l1 l2 hgs
          go_upto_region 12 with fail
          rw [← HW3.out]
          go_wp2_with fail
          rw [HY1.out]
          go_roundw
          case rel => exact ⟨k + 1, by go_num, by omega, HRn, HSn, HKn⟩
          case measure => simp [intOf]; omega
        · obtain rfl : k = n := by omega
          obtain ⟨l, l1, l2⟩ := hR.out
          have HSe : Hid (SeesI wr (.slice (some ⟨G, 0, none⟩) k k) l) := ⟨_, k, by rw [l2], by omega, by omega, (fun e => by cases e), fun _ => ⟨G, 0, rfl, fun i hi => by rw [Nat.zero_add]; exact l1.cell hi⟩⟩
          have Hl2 := hidP l2
          clear hR l1 l2
          go_wp2_with fail
          go_ret2
          exact ⟨_, l, rfl, HSe.out, Hl2.out, hS.out, hKp.out⟩
end Go.Proofs.Ytokdcgmjpnanoaa
/- split.newSplitter; part, by its contract. -/
set_option linter.unusedVariables false
set_option linter.unusedSimpArgs false
namespace Go.Proofs.Ytokdcgmjpnanoaa
open Go.RowKit

theorem ev_unitL (x : Int) : ∀ (n k : Nat), k < n → ev (unitL k n) x = x ^ k
  | 0, k, h => by omega
  | n + 1, 0, _ => by
    have : unitL 0 (n + 1) = 1 :: List.replicate n 0 := by unfold unitL; rw [List.replicate_succ]; rfl
    rw [this]; simp only [ev, ev_zeros]; simp
  | n + 1, k + 1, h => by
    have : unitL (k + 1) (n + 1) = 0 :: unitL k n := by unfold unitL; rw [List.replicate_succ]; rfl
    rw [this]; simp only [ev, ev_unitL x n k (by omega), Int.pow_succ]; grind
theorem unitL_len (k n : Nat) : (unitL k n).length = n := by unfold unitL; rw [List.length_set, List.length_replicate]
/-- A choice: a polynomial of n coefficients and a number; each second one is a power of x with a number. -/
def NextTells (q bc bp bd bs K n : Nat) (w : World) (e : Ending) (w' : World) : Prop :=
  ∃ v H, ∃ c : Nat, e = .returned (.tuple #[v, .int .i64 c]) ∧ SeesI w' v H ∧ H.length = n ∧ c < 2147483648 ∧ Spl q bc bp bd bs (K + 1) w' ∧ KeepX bc bs w w' ∧ (K % 2 = 1 → H = unitL (n - 1 - K / 2 % n) n ∧ c = K / 2 / n % q)
theorem next_any {q bc bp bd bs K n : Nat} {w : World} (S : Spl q bc bp bd bs K w) (hq : IsP q) (hn0 : 1 ≤ n) (hn : n ≤ 4096) (hK : K < 1152921504606846976) :
    Calls Try.prog 37 #[.int .i64 n, .pointer (some ⟨bc, 0, none⟩), .pointer (some ⟨bp, 0, none⟩), .pointer (some ⟨bd, 0, none⟩), .pointer (some ⟨bs, 0, none⟩)] w fun e w' => NextTells q bc bp bd bs K n w e w' := by
  have hq2 := isP_bounds hq
  rcases Nat.mod_two_eq_zero_or_one K with h | h
  · obtain ⟨t, rfl⟩ : ∃ t, K = 2 * t := ⟨K / 2, by omega⟩
    refine (next_even S hq hn0 hn (by omega)).mono ?_
    rintro e w' ⟨v, H, he, h1, h2, h3, h4⟩
    exact ⟨v, H, 0, he, h1, h2, by omega, h3, h4, fun h => by omega⟩
  · obtain ⟨t, rfl⟩ : ∃ t, K = 2 * t + 1 := ⟨K / 2, by omega⟩
    refine (next_odd S hq hn0 hn (by omega)).mono ?_
    rintro e w' ⟨v, he, h1, h3, h4⟩
    have e2 : (2 * t + 1) / 2 = t := by omega
    refine ⟨v, _, t / n % q, he, h1, unitL_len _ _, ?_, h3, h4, fun _ => ⟨by rw [e2], by rw [e2]⟩⟩
    have := Nat.mod_lt (t / n) hq2.1; omega
/-- When a power of x and a number are chosen, at the latest. -/
theorem turn_ex {q n k c : Nat} (hk : k < n) (hc : c < q) (K0 : Nat) : ∃ T, K0 ≤ 2 * T + 1 ∧ 2 * T + 1 ≤ K0 + 2 * (n * q) + 1 ∧ n - 1 - T % n = k ∧ T / n % q = c := by
  have hn : 0 < n := by omega
  have hq : 0 < q := by omega
  have hnq : 0 < n * q := Nat.mul_pos hn hq
  obtain ⟨r, hr⟩ : ∃ r, r = n * c + (n - 1 - k) := ⟨_, rfl⟩
  have hrl : r < n * q := by
    have h1 : n * (c + 1) ≤ n * q := Nat.mul_le_mul_left n hc
    rw [Nat.mul_add] at h1; omega
  obtain ⟨m, hm⟩ : ∃ m, m = n * q := ⟨_, rfl⟩
  have hmod : (K0 / 2 + (r + m - K0 / 2 % m) % m) % m = r := by
    have h1 := Nat.mod_lt (K0 / 2) (show 0 < m by omega)
    rw [Nat.add_mod_mod]
    have h2 : K0 / 2 + (r + m - K0 / 2 % m) = r + m * (K0 / 2 / m + 1) := by
      have := Nat.div_add_mod (K0 / 2) m
      rw [Nat.mul_add]; omega
    rw [h2, Nat.add_mul_mod_self_left, Nat.mod_eq_of_lt (by omega)]
  obtain ⟨T, hT⟩ : ∃ T, T = K0 / 2 + (r + m - K0 / 2 % m) % m := ⟨_, rfl⟩
  rw [← hT] at hmod
  have hlt := Nat.mod_lt (r + m - K0 / 2 % m) (show 0 < m by omega)
  refine ⟨T, by omega, by omega, ?_, ?_⟩
  · have h1 : T % n = r % n := by rw [← hmod, hm, Nat.mod_mul_right_mod]
    have h2 : r % n = n - 1 - k := by rw [hr, Nat.mul_add_mod, Nat.mod_eq_of_lt (by omega)]
    omega
  · rw [← Nat.mod_mul_right_div_self, ← hm, hmod, hr, Nat.mul_add_div hn, Nat.div_eq_of_lt (by omega), Nat.add_zero]

theorem lit_c {y wx : World} {c : Int} (hb : Below (y.alloc (.cells #[.int .i64 c] 3)).heap.size (y.alloc (.cells #[.int .i64 c] 3)) wx) : SeesI wx (.slice (some ⟨y.heap.size, 0, none⟩) 1 1) [c] :=
  SeesI.below (show SeesI (y.alloc (.cells #[.int .i64 c] 3)) _ [c] from SeesF.lit (f := vI) (d := 0) y 3 [c] (by simp)) hb
theorem lit_cd {y wx : World} {c : Int} (hb : Below (y.alloc (.cells #[.int .i64 c] 3)).drew.heap.size (y.alloc (.cells #[.int .i64 c] 3)).drew wx) : SeesI wx (.slice (some ⟨y.heap.size, 0, none⟩) 1 1) [c] :=
  SeesI.below (show SeesI (y.alloc (.cells #[.int .i64 c] 3)).drew _ [c] from SeesF.lit (f := vI) (d := 0) y 3 [c] (by simp)) hb
theorem lit_now (y : World) (c : Int) : SeesI (y.alloc (.cells #[.int .i64 c] 3)) (.slice (some ⟨y.heap.size, 0, none⟩) 1 1) [c] := SeesF.lit (f := vI) (d := 0) y 3 [c] (by simp)
theorem keep1 {y w : World} {b : Nat} {x : Value} (h : y.cell? ⟨b, 0, none⟩ = some x) (l : b < y.heap.size) (k : Below y.heap.size y w) : w.cell? ⟨b, 0, none⟩ = some x ∧ Hid (Below y.heap.size y w) := ⟨(k.cell (p := ⟨b, 0, none⟩) l).trans h, k⟩
/-- The box of a splitter. -/
def vNext (bc bp bd bs : Nat) : Value := .func (.func 37) #[] #[.pointer (some ⟨bc, 0, none⟩), .pointer (some ⟨bp, 0, none⟩), .pointer (some ⟨bd, 0, none⟩), .pointer (some ⟨bs, 0, none⟩)]
def vSpl (q bc bp bd bs : Nat) : Value := .agg #[.int .i64 q, vNext bc bp bd bs]

/-- What a part tells: a divisor that is neither 1 nor all. -/
def PartTells (q bc bp bd bs K m : Nat) (f : List Int) (w : World) (e : Ending) (w' : World) : Prop :=
  ∃ ao cap P, ∃ K' : Nat, e = .returned (.slice ao P.length cap) ∧ SeesI w' (.slice ao P.length cap) P ∧ Mo q P ∧ Dv q P f ∧ 2 ≤ P.length ∧ P.length < f.length ∧ Spl q bc bp bd bs K' w' ∧ K' ≤ K + m ∧ KeepX bc bs w w'

set_option maxRecDepth 100000 in
set_option maxHeartbeats 4000000 in
theorem mod_part {vf : Value} {q bc bp bd bs K D : Nat} {f : List Int} {w : World} (S : Spl q bc bp bd bs K w) (hf : SeesI w vf f) (hlf : f.length ≤ 4096) (hq : IsP q) (mf : Mo q f) (sf : SqF q f) (af : AllD q f (D + 1)) (hD : D < 4096) (hl : D + 2 < f.length) (hK : K + (2 * (f.length * q) + 2) < 1152921504606846976) :
    Calls Try.prog 38 #[vSpl q bc bp bd bs, vf, .int .i64 ((D : Int) + 1)] w fun e w' => PartTells q bc bp bd bs K (2 * (f.length * q) + 2) f w e w' := by
  obtain ⟨hq0, hq2⟩ := isP_bounds hq
  have HQ := hidP hq
  have HM := hidP mf
  have HSf := hidP sf
  obtain ⟨k0, c0, hk0, hc0, hsp⟩ := choice_splits hq mf sf af (by omega)
  obtain ⟨T, t1, t2, t3, t4⟩ := turn_ex hk0 hc0 K
  have HSp : Hid (Splits q (padd (trq q (ppow pX k0) (D + 1)) [(c0 : Int)]) f) := hsp
  have HT : Hid (f.length - 1 - 1 - T % (f.length - 1) = k0 ∧ T / (f.length - 1) % q = c0) := ⟨by omega, t4⟩
  have hlm : (f.length - 1) * q ≤ f.length * q := Nat.mul_le_mul_right q (by omega)
  obtain ⟨F, hF⟩ : ∃ F, f.length = F := ⟨_, rfl⟩
  have HFl := hidP hF
  obtain ⟨ao, cap, rfl, -⟩ := SeesF.form hf
  have HS := hidP S
  have HFs := hidP hf
  rw [hF] at hl hlf
  rw [hF] at hK t2 hlm HFs
  obtain ⟨B, hB⟩ : ∃ B, 2 * (f.length * q) + 2 = B := ⟨_, rfl⟩
  have hB2 : 2 * T + 1 + 1 ≤ K + B := by rw [← hB, hF]; omega
  rw [hF] at hB
  rw [hB] at hK
  rw [hF, hB]
  have n1 : (F : Int) - 1 = ((F - 1 : Nat) : Int) := by omega
  have n2 : IntKind.i64.wrap ((F - 1 : Nat) : Int) = ((F - 1 : Nat) : Int) := by rw [IntKind.wrap_i64]; omega
  have hFl1 : 1 ≤ F - 1 := by omega
  obtain ⟨N, hN⟩ : ∃ N, F - 1 = N := ⟨_, rfl⟩
  rw [hN] at n1 n2 hFl1
  have HN := hidP hN
  clear S hf hq mf sf af hk0 hc0 hsp t2 t3 t4 hlm hF hB hN
  -- the box
  obtain ⟨b0, hb0⟩ : ∃ b0, b0 = w.heap.size := ⟨_, rfl⟩
  have hY : Below w.heap.size w (w.alloc (.cells #[.int .i64 q, vNext bc bp bd bs] 36)) := (Below.refl _ w).alloc (Nat.le_refl _) _
  have hY1 : (w.alloc (.cells #[.int .i64 q, vNext bc bp bd bs] 36)).cell? ⟨b0, 0, none⟩ = some (.int .i64 q) := by rw [hb0, World.cell?_alloc_at _ _ _ _ rfl]; rfl
  have hY2 : (w.alloc (.cells #[.int .i64 q, vNext bc bp bd bs] 36)).cell? ⟨b0, 1, none⟩ = some (vNext bc bp bd bs) := by rw [hb0, World.cell?_alloc_at _ _ _ _ rfl]; rfl
  obtain ⟨Y, hYe⟩ : ∃ Y, Y = w.alloc (.cells #[.int .i64 q, vNext bc bp bd bs] 36) := ⟨_, rfl⟩
  have hYs : b0 < Y.heap.size := by rw [hYe, hb0]; simp
  rw [← hYe] at hY hY1 hY2
  have HKw : Hid (KeepX bc bs w Y) := KeepX.of_below hY
  have HSY := hidP (HS.out.below hY)
  have hne : b0 ≠ bc ∧ b0 ≠ bs := by
    obtain ⟨z, -, -, hz⟩ := HS.out.s
    have := lt_of_block HS.out.c; have := lt_of_block hz
    omega
  have HCell : Hid (∀ wr, KeepX bc bs Y wr → wr.cell? ⟨b0, 0, none⟩ = some (.int .i64 q) ∧ wr.cell? ⟨b0, 1, none⟩ = some (vNext bc bp bd bs) ∧ b0 < wr.heap.size) := fun wr h => ⟨(h.cell hYs hne.1 hne.2).trans hY1, (h.cell hYs hne.1 hne.2).trans hY2, Nat.lt_of_lt_of_le hYs h.size⟩
  have HFv : Hid (∀ wr, KeepX bc bs Y wr → SeesI wr (.slice ao F cap) f) := fun wr h => HFs.out.keep2 HS.out (HKw.out.trans h) (by have := HFl.out; omega)
  have HB0 := hidP hb0
  have HYe := hidP hYe
  clear hY hY1 hY2 hYe hYs hne hb0
  unfold vSpl
  go_enter Try.func38, Try.ntmps38
  go_wp2
  rw [← HB0.out, ← HYe.out]
  go_step3
  go_wp2
  go_step3
  go_wp2
  go_loopg [7] (2 * T + 1 - K) (fun gm v7 wr => ∃ κ : Nat, κ + gm = 2 * T + 1 ∧ Hid (Spl q bc bp bd bs κ wr) ∧ Hid (KeepX bc bs Y wr))
  case atStart => exact ⟨K, by omega, HSY, KeepX.refl Y⟩
  case round =>
    obtain ⟨κ, hκ, hS, hKp⟩ := hrel
    obtain ⟨p1, p2, p3⟩ := HCell.out wr hKp.out
    have CN := hidP (next_any (n := N) hS.out HQ.out hFl1 (by omega) (by omega))
    unfold vNext at p2
    go_wp2_with fail
    refine CN.out.mono ?_
    rintro e w1 ⟨v1, H, c, rfl, hs1, hH1, hc1, hS1, hk1, hodd⟩
    have HKp1 : Hid (KeepX bc bs Y w1) := hKp.out.trans hk1
    have HS1 := hidP hS1
    obtain ⟨g1, g2, g3⟩ := HCell.out w1 HKp1.out
    have HG3 := hidP g3
    have HO := hidP hodd
    have HF1 : Hid (∀ w2, Below w1.heap.size w1 w2 → SeesI w2 (.slice ao F cap) f) := fun w2 h => (HFv.out w1 HKp1.out).below h
    have CT : Hid (∀ w2, Below w1.heap.size w1 w2 → Calls Try.prog 69 #[v1, .int .i64 ((D : Int) + 1), .slice ao F cap, .int .i64 q] w2 fun e w' => ∃ v T, e = .returned v ∧ SeesI w' v T ∧ M q f T (trq q H (D + 1)) ∧ T.length ≤ 4096 ∧ Below w2.heap.size w2 w') :=
      fun w2 h => mod_trace (SeesI.below hs1 h) (HF1.out w2 h) (by have := HN.out; omega) (by have := HFl.out; omega) hD HQ.out HM.out
    have HD := hidP ((Below.refl w1.heap.size w1).drew)
    clear CN hs1 hS1 hk1 hodd g2 g3 hH1 p1 p2 p3 hS
    go_upto_region 3 with fail
    go_cut [10] from 15 to 74 (fun v10 wx => Hid (∃ V, SeesI wx v10 V ∧ V.length ≤ 4096 ∧ M q f V (padd (trq q H (D + 1)) [(c : Int)]) ∧ Below w1.heap.size w1 wx))
    case first =>
      go_region_held3 (fun w' => w'.cell? ⟨b0, 0, none⟩ = some (.int .i64 q) ∧ Hid (Below w1.heap.size w1 w')) (first | exact ⟨by assumption, by assumption⟩ | (refine keep1 g1 HG3.out ?_; repeat' (first | with_reducible exact HD.out | with_reducible exact hbx.out | with_reducible exact hby.out | with_reducible exact Below.refl _ _ | with_reducible refine below_al ?_ _ | with_reducible refine below_dr ?_))) (first
        | (go_at_call 69
           refine (CT.out _ (by repeat' (first | with_reducible exact HD.out | with_reducible exact hbx.out | with_reducible exact hby.out | with_reducible exact Below.refl _ _ | with_reducible refine below_al ?_ _ | with_reducible refine below_dr ?_))).mono ?_
           rintro e wx ⟨vT, TT, rfl, hsT, hmT, hlT, hbT⟩
           have hbx : Hid (Below w1.heap.size w1 wx) := by refine step_below ?_ hbT; repeat' (first | with_reducible exact HD.out | with_reducible exact hbx.out | with_reducible exact hby.out | with_reducible exact Below.refl _ _ | with_reducible refine below_al ?_ _ | with_reducible refine below_dr ?_)
           obtain ⟨x1, -⟩ := keep1 g1 HG3.out hbx.out
           first | (have HLt := hidP (lit_c hbT)) | (have HLt := hidP (lit_cd hbT)) | skip
           have HsT := hidP hsT
           have HmT := hidP hmT
           have HlT := hidP hlT
           clear hsT hmT hlT hbT)
        | (go_at_call 68
           first
           | (refine (modT_Add HsT.out HLt.out (by have := HlT.out; omega) (by simp) HQ.out).mono ?_)
           | (refine (modT_Add (HsT.out.below ((Below.refl _ _).alloc (Nat.le_refl _) _)) (lit_now _ _) (by have := HlT.out; omega) (by simp) HQ.out).mono ?_)
           | (refine (modT_Add (HsT.out.below (((Below.refl _ _).alloc (Nat.le_refl _) _).drew)) (lit_now _ _) (by have := HlT.out; omega) (by simp) HQ.out).mono ?_)
           rintro e wy ⟨vA, rfl, hsA, hbA⟩
           have hby : Hid (Below w1.heap.size w1 wy) := by refine step_below ?_ hbA; repeat' (first | with_reducible exact HD.out | with_reducible exact hbx.out | with_reducible exact hby.out | with_reducible exact Below.refl _ _ | with_reducible refine below_al ?_ _ | with_reducible refine below_dr ?_)
           obtain ⟨y1, -⟩ := keep1 g1 HG3.out hby.out
           have HsA := hidP hsA
           clear hsA hbA)
        | fail)
      all_goals
        go_wp2_with fail
        go_meet
        case rel =>
          refine ⟨_, HsA.out, ?_, ((nf_E q _).m f).trans (HmT.out.add (M.refl f _)), hby.out⟩
          have := nf_len q (padd TT [(c : Int)])
          rw [padd_len] at this
          have := HlT.out
          have h1 : ([(c : Int)] : List Int).length = 1 := rfl
          omega
    case rest =>
      obtain ⟨V, x1, x2, x3, x4⟩ := hcut.out
      have HV : Hid (∀ w2, Below wc.heap.size wc w2 → SeesI w2 u10 V) := fun w2 h => SeesI.below x1 h
      have HVl := hidP x2
      have HVm := hidP x3
      have Bc : Hid (Below w1.heap.size w1 wc) := x4
      obtain ⟨av, cv, ev', -⟩ := SeesF.form x1
      subst ev'
      obtain ⟨lv, hlv⟩ : ∃ lv, V.length = lv := ⟨_, rfl⟩
      rw [hlv] at x1 HV
      have q1 : IntKind.i64.wrap ((q : Int) - 1) = (q : Int) - 1 := by rw [IntKind.wrap_i64]; omega
      have q2 : Int.tdiv ((q : Int) - 1) 2 = (((q - 1) / 2 : Nat) : Int) := by rw [Int.tdiv_eq_ediv_of_nonneg (by omega)]; omega
      have q2' : ((q : Int) - 1) / 2 = (((q - 1) / 2 : Nat) : Int) := by omega
      obtain ⟨ee, hee⟩ : ∃ ee, (q - 1) / 2 = ee := ⟨_, rfl⟩
      rw [hee] at q2 q2'
      have q3 : IntKind.i64.wrap (ee : Int) = (ee : Int) := by rw [IntKind.wrap_i64]; omega
      have CP := hidP (mod_PW (n := ee) x1 (HF1.out wc x4) (by omega) (by omega) (by have := HFl.out; omega) HQ.out HM.out.nf_ne)
      obtain ⟨g1c, -⟩ := keep1 g1 HG3.out x4
      rw [hlv]
      clear hcut x1 x2 x3 hlv hee CT
      go_wp2_with fail
      refine CP.out.mono ?_
      rintro e w2 ⟨v2, R2, rfl, hs2, hr2, hb2⟩
      have Bc2 := hidP hb2
      have B2 := hidP (step_below Bc.out hb2)
      obtain ⟨g12, -⟩ := keep1 g1 HG3.out B2.out
      have hsz2 : b0 < w2.heap.size := Nat.lt_of_lt_of_le HG3.out B2.out.size
      have hR2l : R2.length ≤ 4096 := by have := hr2.lt; have := nf_len q f; have := HFl.out; omega
      have hbl : Below w2.heap.size w2 (w2.alloc (.cells #[.int .i64 1] 3)) := (Below.refl _ w2).alloc (Nat.le_refl _) _
      have CS := hidP (modT_Sub (SeesI.below hs2 hbl) (lit_now w2 1) (by omega) (by simp) HQ.out)
      have HR2l := hidP hR2l
      have Bl2 := hidP hbl
      clear hs2 hr2 hb2 hbl CP hR2l x4 g1c
      go_wp2_with fail
      refine CS.out.mono ?_
      rintro e w3 ⟨v3, rfl, hs3, hb3⟩
      have Bl3 := hidP (step_below Bl2.out hb3)
      have B3 := hidP (step_below B2.out Bl3.out)
      have hV3 := HV.out w3 (step_below Bc2.out Bl3.out)
      have hS3l : (nf q (padd R2 (psc (-1) [1]))).length ≤ 4097 := by
        have := nf_len q (padd R2 (psc (-1) [1])); rw [padd_len, psc_len] at this
        have := HR2l.out
        have h1 : ([1] : List Int).length = 1 := rfl
        omega
      obtain ⟨S3, hS3⟩ : ∃ S3, nf q (padd R2 (psc (-1) [1])) = S3 := ⟨_, rfl⟩
      rw [hS3] at hs3 hS3l
      obtain ⟨a3, c3, e3, -⟩ := SeesF.form hs3
      subst e3
      obtain ⟨l3, hl3⟩ : ∃ l3, S3.length = l3 := ⟨_, rfl⟩
      rw [hl3] at hs3
      rw [hl3]
      -- both in a row
      obtain ⟨g5, hg5⟩ : ∃ g5, g5 = w3.heap.size := ⟨_, rfl⟩
      have hb5 : Below w3.heap.size w3 (w3.alloc (.cells #[.slice av lv cv, .slice a3 l3 c3] 22)) := (Below.refl _ w3).alloc (Nat.le_refl _) _
      have hc50 : (w3.alloc (.cells #[.slice av lv cv, .slice a3 l3 c3] 22)).cell? ⟨g5, 0, none⟩ = some (.slice av lv cv) := by rw [hg5, World.cell?_alloc_at _ _ _ _ rfl]; rfl
      have hc51 : (w3.alloc (.cells #[.slice av lv cv, .slice a3 l3 c3] 22)).cell? ⟨g5, 1, none⟩ = some (.slice a3 l3 c3) := by rw [hg5, World.cell?_alloc_at _ _ _ _ rfl]; rfl
      obtain ⟨w5, hw5⟩ : ∃ w5, w5 = w3.alloc (.cells #[.slice av lv cv, .slice a3 l3 c3] 22) := ⟨_, rfl⟩
      have hg5l : g5 < w5.heap.size := by rw [hw5, hg5]; simp
      rw [← hw5] at hb5 hc50 hc51
      have HEl : Hid (∀ wy, Below w5.heap.size w5 wy → ∀ j : Nat, j < 2 → ∃ v X, wy.cell? ⟨g5, j, none⟩ = some v ∧ SeesI wy v X ∧ X.length ≤ 4097 ∧ (j = 0 → X = V)) := by
        intro wy h j hj
        have hb := step_below hb5 h
        rcases (show j = 0 ∨ j = 1 by omega) with rfl | rfl
        · exact ⟨_, V, (h.cell (p := ⟨g5, 0, none⟩) hg5l).trans hc50, SeesI.below hV3 hb, Nat.le_succ_of_le HVl.out, fun _ => rfl⟩
        · exact ⟨_, S3, (h.cell (p := ⟨g5, 1, none⟩) hg5l).trans hc51, SeesI.below hs3 hb, hS3l, fun h => by omega⟩
      have B5 := hidP (step_below B3.out hb5)
      have HW5 := hidP hw5
      have HG5 := hidP hg5
      have hx5 : Below w1.heap.size w1 w5 := B5.out
      clear hs3 hb3 hV3 hS3l hS3 hl3 hb5 hc50 hc51 hw5 hg5l hg5 CS Bl2 Bl3 HR2l Bc2 HV
      go_wp2_with fail
      rw [← HG5.out, ← HW5.out]
      go_loopg [7, 14, 55] 2 (fun g2 s7 s14 s55 wy => ∃ j : Nat, j + g2 = 2 ∧ s55 = .int .i64 j ∧ Hid (Below w5.heap.size w5 wy) ∧ Hid (1 ≤ j → κ ≠ 2 * T + 1))
      case atStart => exact ⟨0, rfl, rfl, Below.refl _ _, fun h => by omega⟩
      case round =>
        obtain ⟨j, hj, rfl, hB, hJ⟩ := hrel
        have By := hidP (step_below B5.out hB.out)
        obtain ⟨y1, -⟩ := keep1 g1 HG3.out By.out
        by_cases hlt : j < 2
        · obtain ⟨vx, X, e1, e2, e3, e4⟩ := HEl.out wr hB.out j hlt
          have CG := hidP (mod_Gcd (HF1.out wr By.out) e2 (by have := HFl.out; omega) (by omega) HQ.out)
          have HX := hidP e4
          have hj2 : (j : Int) < 2 := by omega
          have hk1 : IntKind.i64.wrap ((j : Int) + 1) = (j : Int) + 1 := by rw [IntKind.wrap_i64]; omega
          have h0j : 0 + j = j := Nat.zero_add j
          clear e2 e3 e4
          go_wp2_with fail
          refine CG.out.mono ?_
          rintro e w6 ⟨v6, P, rfl, hs6, hg6, hl6, hb6⟩
          have B6 := hidP (step_below By.out hb6)
          have BB6 := hidP (step_below hB.out hb6)
          have mP := hg6.mo HQ.out HM.out.nf_ne
          obtain ⟨a6, c6, e6, -⟩ := SeesF.form hs6
          subst e6
          have HDv : Hid (Dv q P f) := hg6.dvF
          have HG6 := hidP hg6
          obtain ⟨l, hl⟩ : ∃ l, P.length = l := ⟨_, rfl⟩
          have Hl := hidP hl
          rw [hl] at hs6
          rw [hl]
          have HMp := hidP mP
          have Hs6 := hidP hs6
          have hlb : l < 9223372036854775808 := by have := hs6.len; omega
          clear hs6 hg6 hl6 hb6 mP hl CG e1
          by_cases hok : 1 < l ∧ l < F
          · have o1 : (l : Int) > 1 := by omega
            have o2 : (l : Int) < (F : Int) := by omega
            have HR : Hid (PartTells q bc bp bd bs K B f w (.returned (.slice a6 l c6)) w6) := by
              refine ⟨a6, c6, P, κ + 1, by rw [Hl.out], by rw [Hl.out]; exact Hs6.out, HMp.out, HDv.out, by rw [Hl.out]; omega, by rw [Hl.out, HFl.out]; omega, HS1.out.below B6.out, by omega, HKw.out.trans (HKp1.out.trans (KeepX.of_below B6.out))⟩
            go_wp2_with fail
            try rw [Exit.noGoto_ret]
            go_ret
            exact HR.out
          · have HJn : Hid (1 ≤ j + 1 → κ ≠ 2 * T + 1) := by
              intro _
              by_cases hj0 : j = 0
              · intro hκT
                have hX := HX.out hj0
                obtain ⟨o1, o2⟩ := HO.out (by omega)
                have eT : κ / 2 = T := by omega
                have eN : f.length - 1 = N := by have := HFl.out; have := HN.out; omega
                have hT1 := HT.out.1
                have hT2 := HT.out.2
                rw [eN] at hT1 hT2
                rw [eT] at o1 o2
                have hk0N : k0 < N := by omega
                have eH : E q (ppow pX k0) H := .of_ev fun x => by
                  rw [ev_ppow, ev_pX, o1, ev_unitL x N _ (by omega), hT1]
                have hc : (c : Int) = (c0 : Int) := by rw [o2, hT2]
                have sp : Splits q V f := HSp.out.congr (((((trq_E eH (D + 1)).m f).add (M.refl f _))).trans (by rw [← hc]; exact HVm.out.symm))
                rw [← hX] at sp
                have := sp.gcd HQ.out HM.out HG6.out.swap
                have := Hl.out; have := HFl.out
                omega
              · exact hJ.out (by omega)
            clear HDv HG6 HMp Hs6 Hl HX
            by_cases o1 : 1 < l
            · have o1' : (l : Int) > 1 := by omega
              have o2 : ¬ (l : Int) < (F : Int) := by omega
              go_wp2_with fail
              go_roundg (1 - j)
              case rel => exact ⟨j + 1, by omega, by go_num, BB6, HJn⟩
              case measure => omega
            · have o1' : ¬ (l : Int) > 1 := by omega
              go_wp2_with fail
              go_roundg (1 - j)
              case rel => exact ⟨j + 1, by omega, by go_num, BB6, HJn⟩
              case measure => omega
        · obtain rfl : j = 2 := by omega
          have hj2 : ¬ ((2 : Nat) : Int) < 2 := by omega
          have hne := hJ.out (by omega)
          have HSn := hidP (HS1.out.below By.out)
          have HKn : Hid (KeepX bc bs Y wr) := HKp1.out.trans (KeepX.of_below By.out)
          clear y1
          go_wp2_with fail
          go_roundg (2 * T - κ)
          case rel => exact ⟨κ + 1, by omega, HSn, HKn⟩
          case measure => omega
end Go.Proofs.Ytokdcgmjpnanoaa
