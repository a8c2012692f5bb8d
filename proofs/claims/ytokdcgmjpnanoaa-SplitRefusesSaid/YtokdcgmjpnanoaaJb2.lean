/- More contracts in the form that the laws of layer 10 want. -/
import Derived.Test.YtokdcgmjpnanoaaJb1

set_option linter.unusedVariables false
set_option linter.unusedSimpArgs false
namespace Go.Proofs.Ytokdcgmjpnanoaa
open Go.RowKit

theorem div_len {q : Nat} (hq : IsP q) {f g Q R : List Int} (h : DivIs q f g Q R) : Q.length ≤ f.length := by
  have hq0 := (isP_bounds hq).1
  by_cases hQ : Q = []
  · subst hQ; simp
  have hg0 : nf q g ≠ [] := by intro e; have := h.lt; rw [e] at this; simp at this
  have hp := nf_plain hq0 g
  have ht := top_mul (nf q g) hg0 Q hQ
  have e1 : E q f (padd (pmul Q (nf q g)) R) := h.eq.trans (((E.refl q Q).mul (nf_E q g).symm).add (E.refl q R))
  have h1 := E_cf e1 (Q.length + (nf q g).length - 2)
  have hQl := List.length_pos_iff.2 hQ
  have hGl := List.length_pos_iff.2 hg0
  rw [getD_padd, ht, getD_over' R _ (by have := h.lt; omega), Int.add_zero] at h1
  rcases Nat.lt_or_ge (Q.length + (nf q g).length - 2) f.length with h2 | h2
  · omega
  · exfalso
    rw [getD_over' f _ h2] at h1
    rcases prime_dvd hq (h.pq.1 _) (hp.1 _) (by rw [← h1]; simp) with h3 | h3
    · exact h.pq.2 hQ h3
    · exact hp.2 hg0 h3

theorem mod_DMl {va vb : Value} {q : Nat} {f g : List Int} {w : World} (hf : SeesI w va f) (hg : SeesI w vb g) (hlf : f.length ≤ 65536) (hlg : g.length ≤ 65536) (hq : IsP q) (hz : nf q g ≠ []) :
    Calls Try.prog 39 #[va, vb, .int .i64 q] w fun e w' => ∃ vq ao cap Q R, e = .returned (.tuple #[vq, .slice ao R.length cap, .int .i64 0]) ∧ SeesI w' vq Q ∧ SeesI w' (.slice ao R.length cap) R ∧ DivIs q f g Q R ∧ Below w.heap.size w w' :=
  (mod_DivMod hf hg hlf hlg hq).mono fun e w' h => by
    rcases h with ⟨h, -, -⟩ | ⟨vq, vr, Q, R, he, hd, h1, h2, h3⟩
    · exact absurd h hz
    · obtain ⟨ao, cap, rfl, -⟩ := SeesF.form h2
      exact ⟨vq, ao, cap, Q, R, he, h1, h2, hd, h3⟩
/-- .. by a divisor. -/
theorem mod_DMn {va vb : Value} {q : Nat} {f g : List Int} {w : World} (hf : SeesI w va f) (hg : SeesI w vb g) (hlf : f.length ≤ 65536) (hlg : g.length ≤ 65536) (hq : IsP q) (hz : nf q g ≠ []) (ha : ∃ a, E q f (pmul a g)) :
    Calls Try.prog 39 #[va, vb, .int .i64 q] w fun e w' => ∃ vq ao cap, e = .returned (.tuple #[vq, .slice ao 0 cap, .int .i64 0]) ∧ Below w.heap.size w w' :=
  (mod_DMl hf hg hlf hlg hq hz).mono fun e w' ⟨vq, ao, cap, Q, R, he, h1, h2, hd, hb⟩ => by
    have := rest_nil hq hz ha hd
    subst this
    exact ⟨vq, ao, cap, he, hb⟩
theorem mod_Gcds {vf vg : Value} {q : Nat} {f g : List Int} {w : World} (hf : SeesI w vf f) (hg : SeesI w vg g) (hlf : f.length ≤ 65536) (hlg : g.length ≤ 65536) (hq : IsP q) :
    Calls Try.prog 34 #[vf, vg, .int .i64 q] w fun e w' => ∃ ao cap d, e = .returned (.slice ao d.length cap) ∧ SeesI w' (.slice ao d.length cap) d ∧ GcdIs q f g d ∧ d.length ≤ 65536 ∧ Below w.heap.size w w' :=
  (mod_Gcd hf hg hlf hlg hq).mono fun e w' ⟨v, d, he, hs, h1, h2, hb⟩ => by
    obtain ⟨ao, cap, rfl, -⟩ := SeesF.form hs
    exact ⟨ao, cap, d, he, hs, h1, h2, hb⟩
theorem rest_short {q : Nat} {X m R : List Int} (h : RestIs q X m R) (hm : m.length ≤ 4096) : R.length ≤ 4096 := by
  have := h.lt; have := nf_len q m; omega
theorem lits21 (w : World) (a b x : Int) : ∃ Y, Y = (w.alloc (.cells #[.int .i64 a, .int .i64 b] 3)).alloc (.cells #[.int .i64 x] 3) ∧ Below w.heap.size w Y ∧ SeesI Y (.slice (some ⟨w.heap.size, 0, none⟩) 2 2) [a, b] ∧ SeesI Y (.slice (some ⟨w.heap.size + 1, 0, none⟩) 1 1) [x] := by
  refine ⟨_, rfl, ((Below.refl _ w).alloc (Nat.le_refl _) _).alloc (by simp) _, ?_, ?_⟩
  · have h := SeesF.lit (f := vI) (d := 0) w 3 [a, b] (by simp)
    exact SeesF.below h ((Below.refl _ _).alloc (Nat.le_refl _) _)
  · have h := SeesF.lit (f := vI) (d := 0) (w.alloc (.cells #[.int .i64 a, .int .i64 b] 3)) 3 [x] (by simp)
    rw [Deep.nblk_alloc] at h
    exact h
theorem line_len (q : Nat) (x : Int) : (nf q (padd [0, 1] (psc (-1) [x]))).length ≤ 65536 := by
  refine Nat.le_trans (nf_len q _) ?_
  rw [show (padd [0, 1] (psc (-1) [x])).length = 2 from rfl]; decide
/-- two exponents and their sum. -/
theorem exp_nums {n k : Int} (h0 : ¬ n < 0) (h1 : ¬ k < 0) (h2 : ¬ n > 1099511627776) (h3 : ¬ k > 1099511627776) :
    ∃ N K T : Nat, n = N ∧ k = K ∧ N + K = T ∧ N < 9223372036854775808 ∧ K < 9223372036854775808 ∧ T < 9223372036854775808 ∧ (N : Int) + (K : Int) = (T : Int) ∧ IntKind.i64.wrap (T : Int) = (T : Int) := by
  refine ⟨n.toNat, k.toNat, n.toNat + k.toNat, by omega, by omega, rfl, by omega, by omega, by omega, by omega, ?_⟩
  rw [IntKind.wrap_i64]; omega
end Go.Proofs.Ytokdcgmjpnanoaa
