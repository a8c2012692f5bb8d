/- modular.power of ints, modular.inverse, modular.monic by their contracts. -/
import Derived.Test.YtokdcgmjpnanoaaJaF

set_option linter.unusedVariables false
set_option linter.unusedSimpArgs false
namespace Go.Proofs.Ytokdcgmjpnanoaa
open Go.RowKit

theorem inv_op {b q : Nat} {w : World} (x y : Nat) (hx : x < q) (hy : y < q) (hq2 : q < 2147483648) (hc : w.cell? ⟨b, 0, none⟩ = some (.int .i64 q)) :
    Calls Try.prog 93 #[.int .i64 x, .int .i64 y, .pointer (some ⟨b, 0, none⟩)] w fun e w' => e = .returned (.int .i64 (x * y % q : Nat)) ∧ w = w' := by
  obtain ⟨Q, hQ⟩ : ∃ Q, Q = x * y := ⟨_, rfl⟩
  have hQb : Q < 4611686018427387904 := by rw [hQ]; exact prod_fits (by omega) (by omega)
  have eQ' : (x : Int) * (y : Int) = (Q : Int) := by rw [hQ]; exact (Int.natCast_mul x y).symm
  have eQ : IntKind.i64.wrap (Q : Int) = (Q : Int) := by rw [IntKind.wrap_i64]; omega
  rw [← hQ]
  clear hQ
  obtain ⟨r, hr⟩ : ∃ r, r = Q % q := ⟨_, rfl⟩
  have d1 : (Q : Int) % (q : Int) = (r : Int) := by rw [hr]; exact (Int.natCast_emod _ _).symm
  have d2 : Int.tmod (Q : Int) (q : Int) = (r : Int) := by rw [Int.tmod_eq_emod_of_nonneg (by omega)]; exact d1
  have l1 : r < q := by rw [hr]; exact Nat.mod_lt _ (by omega)
  have w1 : IntKind.i64.wrap (r : Int) = (r : Int) := by rw [IntKind.wrap_i64]; omega
  have hp0 : ¬ (q : Int) = 0 := by omega
  rw [← hr]
  clear hr hQb hx hy
  go_enter Try.func93, Try.ntmps93
  go_wp2
  go_ret
  exact ⟨rfl, rfl⟩

theorem pow_half (x m q : Nat) (h : m % 2 = 0) : (x ^ (m / 2) % q) * (x ^ (m / 2) % q) % q = x ^ m % q := by
  rw [← Nat.mul_mod, ← Nat.pow_add]; congr 2; omega
theorem pow_half1 (x m q : Nat) (h : m % 2 = 1) : ((x ^ (m / 2) % q) * (x ^ (m / 2) % q) % q) * x % q = x ^ m % q := by
  rw [← Nat.mul_mod, ← Nat.pow_add, Nat.mul_mod, Nat.mod_mod, ← Nat.mul_mod, ← Nat.pow_succ]; congr 2; omega

set_option maxRecDepth 100000 in
set_option maxHeartbeats 1000000 in
theorem pow_int {b q : Nat} (hq1 : 2 ≤ q) (hq2 : q < 2147483648) : ∀ (k x n : Nat) (w : World), n ≤ k → x < q → n < 9223372036854775808 → w.cell? ⟨b, 0, none⟩ = some (.int .i64 q) →
    Calls Try.prog 92 #[.int .i64 x, .int .i64 n, .int .i64 1, .func (.func 93) #[] #[.pointer (some ⟨b, 0, none⟩)]] w fun e w' => e = .returned (.int .i64 (x ^ n % q : Nat)) ∧ w = w' := by
  intro k
  induction k with
  | zero =>
    intro x n w hk hx hn hc
    obtain rfl : n = 0 := by omega
    have HE : Hid (x ^ 0 % q = 1) := by show _ = _; rw [Nat.pow_zero, Nat.mod_eq_of_lt (by omega)]
    go_enter Try.func92, Try.ntmps92
    go_wp2_with fail
    go_ret
    exact ⟨by rw [HE.out]; rfl, rfl⟩
  | succ k ih =>
    intro x n w hk hx hn hc
    rcases Nat.eq_zero_or_pos n with h0 | h0
    · subst h0
      have HE : Hid (x ^ 0 % q = 1) := by show _ = _; rw [Nat.pow_zero, Nat.mod_eq_of_lt (by omega)]
      clear ih
      go_enter Try.func92, Try.ntmps92
      go_wp2_with fail
      go_ret
      exact ⟨by rw [HE.out]; rfl, rfl⟩
    · have C1 := hidP (ih x (n / 2) w (by omega) hx (by omega) hc)
      have hh2 : x ^ (n / 2) % q < q := Nat.mod_lt _ (by omega)
      have C2 := hidP (inv_op (x ^ (n / 2) % q) (x ^ (n / 2) % q) hh2 hh2 hq2 hc)
      have hn0 : ((n : Int) == 0) = false := by simp; omega
      have q1 : Int.tdiv (n : Int) 2 = ((n / 2 : Nat) : Int) := by rw [Int.tdiv_eq_ediv_of_nonneg (by omega)]; omega
      obtain ⟨h, hh⟩ : ∃ h, n / 2 = h := ⟨_, rfl⟩
      have q2 : (n : Int) / 2 = (h : Int) := by omega
      have q3 : Int.tdiv (n : Int) 2 = (h : Int) := by rw [q1, hh]
      have q4 : IntKind.i64.wrap (h : Int) = (h : Int) := by rw [IntKind.wrap_i64]; omega
      rw [hh] at C1 C2
      obtain ⟨y, hy⟩ : ∃ y, x ^ h % q = y := ⟨_, rfl⟩
      obtain ⟨s, hs⟩ : ∃ s, y * y % q = s := ⟨_, rfl⟩
      rw [hy] at C1 C2
      rw [hs] at C2
      have hs2 : s < q := by rw [← hs]; exact Nat.mod_lt _ (by omega)
      rcases Nat.mod_two_eq_zero_or_one n with h2 | h2
      · have HE : Hid (x ^ n % q = s) := by show _ = _; rw [← hs, ← hy, ← hh]; exact (pow_half x n q h2).symm
        have o1 : Int.tmod (n : Int) 2 = 0 := by rw [Int.tmod_eq_emod_of_nonneg (by omega)]; omega
        have o2 : (n : Int) % 2 = 0 := by omega
        clear ih hh hy hs h2 q1 hh2 h0
        go_enter Try.func92, Try.ntmps92
        go_wp2_with fail
        refine C1.out.mono ?_
        rintro e w1 ⟨rfl, rfl⟩
        go_wp2_with fail
        refine C2.out.mono ?_
        rintro e w1 ⟨rfl, rfl⟩
        go_wp2_with fail
        go_ret
        exact ⟨by rw [HE.out]; rfl, rfl⟩
      · have C3 := hidP (inv_op s x hs2 hx hq2 hc)
        have HE : Hid (x ^ n % q = s * x % q) := by show _ = _; rw [← hs, ← hy, ← hh]; exact (pow_half1 x n q h2).symm
        obtain ⟨u, hu⟩ : ∃ u, s * x % q = u := ⟨_, rfl⟩
        rw [hu] at C3 HE
        have o1 : Int.tmod (n : Int) 2 = 1 := by rw [Int.tmod_eq_emod_of_nonneg (by omega)]; omega
        have o2 : (n : Int) % 2 = 1 := by omega
        clear ih hh hy hs h2 q1 hh2 h0 hu
        go_enter Try.func92, Try.ntmps92
        go_wp2_with fail
        refine C1.out.mono ?_
        rintro e w1 ⟨rfl, rfl⟩
        go_wp2_with fail
        refine C2.out.mono ?_
        rintro e w1 ⟨rfl, rfl⟩
        go_wp2_with fail
        refine C3.out.mono ?_
        rintro e w1 ⟨rfl, rfl⟩
        go_wp2_with fail
        go_ret
        exact ⟨by rw [HE.out]; rfl, rfl⟩

/-- The inverse of a residue. -/
def invR (q : Nat) (a : Int) : Int := ((a.toNat ^ (q - 2) % q : Nat) : Int)
theorem invR_range {q : Nat} (hq : 0 < q) (a : Int) : 0 ≤ invR q a ∧ invR q a < q := by
  unfold invR
  have := Nat.mod_lt (a.toNat ^ (q - 2)) hq
  omega
theorem invR_mul {q : Nat} (hq : IsP q) {a : Int} (ha : 0 ≤ a ∧ a < q) (h0 : a ≠ 0) : (a * invR q a) % (q : Int) = 1 := by
  obtain ⟨x, rfl⟩ : ∃ x : Nat, a = x := ⟨a.toNat, by omega⟩
  have hx : x % q ≠ 0 := by rw [Nat.mod_eq_of_lt (by omega)]; omega
  have h := inverse_mod hq hx
  unfold invR
  rw [Int.toNat_natCast]
  have e : ((x : Int) * ((x ^ (q - 2) % q : Nat) : Int)) % (q : Int) = ((x * (x ^ (q - 2) % q) % q : Nat) : Int) := by norm_cast
  rw [e, Nat.mul_mod, Nat.mod_mod, ← Nat.mul_mod, h]; rfl

theorem mod_inverse {q : Nat} {a : Int} {w : World} (hq : IsP q) (ha : 0 ≤ a ∧ a < q) :
    Calls Try.prog 70 #[.int .i64 a, .int .i64 q] w fun e w' => e = .returned (.int .i64 (invR q a)) ∧ Below w.heap.size w w' := by
  obtain ⟨hq0, hq2⟩ := isP_bounds hq
  have hq1 := hq.1
  obtain ⟨x, rfl⟩ : ∃ x : Nat, a = x := ⟨a.toNat, by omega⟩
  have hx : x < q := by omega
  have HB : Hid (Below w.heap.size w (w.alloc (.cells #[.int .i64 q] 3))) := (Below.refl _ w).alloc (Nat.le_refl _) _
  have hcell : (w.alloc (.cells #[.int .i64 q] 3)).cell? ⟨w.heap.size, 0, none⟩ = some (.int .i64 q) := by rw [World.cell?_alloc_at _ _ _ _ rfl]; rfl
  obtain ⟨Y, hY⟩ : ∃ x, x = w.alloc (.cells #[.int .i64 q] 3) := ⟨_, rfl⟩
  rw [← hY] at HB hcell
  have C := hidP (pow_int hq1 hq2 (q - 2) x (q - 2) Y (Nat.le_refl _) hx (by omega) hcell)
  have HY := hidP hY
  have HE : Hid (invR q (x : Int) = ((x ^ (q - 2) % q : Nat) : Int)) := by show _ = _; unfold invR; rw [Int.toNat_natCast]
  obtain ⟨n, hn⟩ : ∃ n, q - 2 = n := ⟨_, rfl⟩
  rw [hn] at C HE
  obtain ⟨E1, hE1⟩ : ∃ E1, x ^ n % q = E1 := ⟨_, rfl⟩
  rw [hE1] at C HE
  clear hE1
  have e2 : (q : Int) - 2 = (n : Int) := by omega
  have hw : IntKind.i64.wrap (n : Int) = (n : Int) := by rw [IntKind.wrap_i64]; omega
  clear hY hcell hq ha hn
  go_enter Try.func70, Try.ntmps70
  go_wp2_with fail
  rw [← HY.out]
  refine C.out.mono ?_
  rintro e w1 ⟨rfl, rfl⟩
  go_wp2_with fail
  go_ret
  exact ⟨by rw [HE.out]; rfl, HB.out⟩

/-- f divided by its last coefficient. -/
def mon (q : Nat) (f : List Int) : List Int := if f = [] then [] else nf q (psc (invR q (f.getD (f.length - 1) 0)) f)
theorem mon_mon {q : Nat} (hq : IsP q) {f : List Int} (hf : Plain q f) : Mon q (mon q f) ∧ (mon q f).length = f.length := by
  obtain ⟨hq0, hq2⟩ := isP_bounds hq
  unfold mon
  by_cases h : f = []
  · rw [if_pos h, h]; exact ⟨Mon.nil q hq0, rfl⟩
  · rw [if_neg h]
    have hl : 0 < f.length := List.length_pos_iff.2 h
    have hinv := invR_mul hq (hf.1 (f.length - 1)) (hf.2 h)
    have htop : (nf q (psc (invR q (f.getD (f.length - 1) 0)) f)).getD (f.length - 1) 0 = 1 := by rw [getD_nf, getD_psc, Int.mul_comm]; exact hinv
    have hlen : (nf q (psc (invR q (f.getD (f.length - 1) 0)) f)).length = f.length := by
      have h1 := nf_len q (psc (invR q (f.getD (f.length - 1) 0)) f)
      rw [psc_len] at h1
      rcases Nat.lt_or_ge (nf q (psc (invR q (f.getD (f.length - 1) 0)) f)).length f.length with h2 | h2
      · rw [getD_over' _ _ (by omega)] at htop; cases htop
      · omega
    exact ⟨⟨nf_plain hq0 _, fun _ => by rw [hlen]; exact htop⟩, hlen⟩

set_option maxRecDepth 100000 in
theorem mod_monic {v : Value} {g q : Nat} {l : List Int} {w : World} (h : Mine w g v l) (hq : IsP q) (hl : Plain q l) :
    Calls Try.prog 56 #[v, .int .i64 q] w fun e w' => ∃ v', e = .returned v' ∧ Mine w' g v' (mon q l) ∧ w.grownBy w' (some g) := by
  obtain ⟨hq0, hq2⟩ := isP_bounds hq
  by_cases h0 : l = []
  · subst h0
    obtain ⟨ao, cap, rfl, hcap, hlen, hno, hrow⟩ := h
    clear hno hrow hlen hcap hl
    go_enter Try.func56, Try.ntmps56
    go_wp2_with fail
    go_ret
    exact ⟨_, rfl, Mine.nil _ _, grownBy_refl _ _⟩
  · have HM : Hid (mon q l = nf q (psc (invR q (l.getD (l.length - 1) 0)) l)) := by show _ = _; unfold mon; rw [if_neg h0]
    have hpos : 0 < l.length := List.length_pos_iff.2 h0
    have hIR := invR_range hq0 (l.getD (l.length - 1) 0)
    have S : Hid (∀ v w, Mine w g v l → Calls Try.prog 71 #[v, .int .i64 (invR q (l.getD (l.length - 1) 0)), .int .i64 q] w fun e w' => ∃ v', e = .returned v' ∧ Mine w' g v' (nf q (psc (invR q (l.getD (l.length - 1) 0)) l)) ∧ w.grownBy w' (some g)) := fun v w h => mod_scaled h hq0 hq2 hl.1 hIR.1 hIR.2
    have CI := hidP (mod_inverse (w := w) hq (hl.1 (l.length - 1)))
    obtain ⟨N, hN⟩ : ∃ N, l.length = N + 1 := ⟨l.length - 1, by omega⟩
    have HMine := hidP h
    obtain ⟨ao, cap, rfl, hcap, hlen, hno, hrow⟩ := h
    obtain ⟨rfl, hr⟩ := hrow hpos
    have hc1 := hr.cell (i := N) (by omega)
    have e1 : (l.length : Int) - 1 = (N : Int) := by omega
    have hw : IntKind.i64.wrap (N : Int) = (N : Int) := by rw [IntKind.wrap_i64]; omega
    have hlN : (N : Int) < (l.length : Int) := by omega
    have h0N : 0 + N = N := Nat.zero_add N
    have hb : ((l.length : Int) == 0) = false := by simp; omega
    have eN : l.length - 1 = N := by omega
    rw [eN] at CI S HM
    obtain ⟨c, hc⟩ : ∃ c, l.getD N 0 = c := ⟨_, rfl⟩
    rw [hc] at hc1 CI S HM
    obtain ⟨u, hu⟩ : ∃ u, invR q c = u := ⟨_, rfl⟩
    rw [hu] at CI S HM
    clear hu hc hr hno hIR hN eN h0 hl hq
    go_enter Try.func56, Try.ntmps56
    go_wp2_with fail
    refine CI.out.mono ?_
    rintro e w1 ⟨rfl, hb1⟩
    have B1 := hidP hb1
    have CS := hidP (S.out _ w1 (HMine.out.below hb1))
    clear hb1
    go_wp2_with fail
    refine CS.out.mono ?_
    rintro e w2 ⟨v2, rfl, hm2, hgr2⟩
    rw [← HM.out] at hm2
    have HM2 := hidP hm2
    have HG2 := hidP (grownBy_trans (below_grownBy B1.out (some g)) hgr2)
    clear hm2 hgr2
    go_wp2_with fail
    go_ret
    exact ⟨_, rfl, HM2.out, HG2.out⟩
end Go.Proofs.Ytokdcgmjpnanoaa
