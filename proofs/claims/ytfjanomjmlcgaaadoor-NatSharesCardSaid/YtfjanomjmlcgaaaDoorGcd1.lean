/- nat.wordGcd, nat.wordAt at any place by their contracts. -/
import Derived.Test.YtfjanomjmlcgaaaDoorInt1
import Derived.Test.YtfjanomjmlcgaaaDoorGcdN
set_option linter.unusedVariables false
set_option linter.unusedSimpArgs false
namespace Go.Proofs.YtfjanomjmlcgaaaDoor
open Go.RowKit

theorem nat_wordGcd (x y : Nat) (hx : x < 18446744073709551616) (hy : y < 18446744073709551616) (w : World) :
    Calls Tryd.prog 68 #[.int .u64 x, .int .u64 y] w fun e w' => e = .returned (.int .u64 (Nat.gcd x y : Nat)) ∧ Below w.heap.size w w' := by
  go_enter Tryd.func68, Tryd.ntmps68
  go_wp2
  go_loopg [0, 1] y (fun g v0 v1 wr => ∃ p q : Nat, v0 = .int .u64 p ∧ v1 = .int .u64 q ∧ Hid (q = g) ∧ p < 18446744073709551616 ∧ q < 18446744073709551616 ∧ Hid (Nat.gcd p q = Nat.gcd x y) ∧ Hid (Below w.heap.size w wr))
  case atStart => exact ⟨x, y, rfl, rfl, rfl, hx, hy, rfl, Below.refl _ _⟩
  case round =>
    obtain ⟨p, q, rfl, rfl, hgk, hp, hq, hgcd, hbel⟩ := hrel
    rcases Nat.eq_zero_or_pos q with h0 | h0
    · subst h0
      have hg := hgcd.out
      rw [Nat.gcd_zero_right] at hg
      have HG := hid hg
      clear hg hgcd hgk
      go_wp2
      go_ret
      exact ⟨by rw [HG.out]; rfl, hbel.out⟩
    · obtain ⟨r, hr⟩ : ∃ r, r = p % q := ⟨_, rfl⟩
      have er1 : (p : Int) % (q : Int) = (r : Int) := by rw [hr]; exact (Int.natCast_emod _ _).symm
      have er2 : Int.tmod (p : Int) (q : Int) = (r : Int) := by rw [Int.tmod_eq_emod_of_nonneg (by omega)]; exact er1
      have hrq : r < q := by rw [hr]; exact Nat.mod_lt _ h0
      have ew2 : IntKind.u64.wrap (r : Int) = (r : Int) := by rw [IntKind.wrap_u64]; omega
      have hy0 : ¬ (q : Int) = 0 := by omega
      have hg2 : Nat.gcd q r = Nat.gcd x y := by rw [hr, Nat.gcd_comm, ← Nat.gcd_rec, Nat.gcd_comm]; exact hgcd.out
      have HG := hid hg2
      clear hr hg2 hgcd
      go_wp2
      go_region
      all_goals
        go_wp2
        go_roundg r
        case rel => exact ⟨q, r, rfl, rfl, rfl, hq, by omega, HG, by first | exact hbel | exact hbel.out.drew⟩
        case measure => have := hgk.out; omega

set_option maxRecDepth 100000 in
set_option maxHeartbeats 1000000 in
theorem nat_wordAt (v : Value) (l : List Nat) (p i n : Nat) (w : World) (h : Sees w v l) (hp : p = 32 * i + n) (hn : n < 32) (hi : i ≤ 1000000000000) :
    Calls Tryd.prog 51 #[v, .int .i64 p] w fun e w' => e = .returned (.int .u64 (val l / 2 ^ p % 18446744073709551616 : Nat)) ∧ w = w' := by
  obtain ⟨k, hk⟩ : ∃ k, n + k = 64 := ⟨64 - n, by omega⟩
  obtain ⟨l0, h0⟩ : ∃ z, l.getD i 0 = z := ⟨_, rfl⟩
  obtain ⟨l1, h1⟩ : ∃ z, l.getD (i + 1) 0 = z := ⟨_, rfl⟩
  obtain ⟨l2, h2⟩ : ∃ z, l.getD (i + 2) 0 = z := ⟨_, rfl⟩
  have b0 := h.ok.getD i
  have b1 := h.ok.getD (i + 1)
  have b2 := h.ok.getD (i + 2)
  rw [h0] at b0; rw [h1] at b1; rw [h2] at b2
  obtain ⟨c, g, hc, hg, e1, e2, e3⟩ := word_at h.ok i n k l0 l1 l2 hk hn h0 h1 h2
  obtain ⟨R, hR⟩ : ∃ R, val l / 2 ^ p % 18446744073709551616 = R := ⟨_, rfl⟩
  rw [← hp, hR] at e3
  have HC0 := hid (nat_limbAt v l i l0 w h (by omega) h0)
  have C1 := nat_limbAt v l (i + 1) l1 w h (by omega) h1
  have C2 := nat_limbAt v l (i + 2) l2 w h (by omega) h2
  have HC1 := hid C1; have HC2 := hid C2
  have ei : Int.tdiv (p : Int) 32 = (i : Int) := by rw [Int.tdiv_eq_ediv_of_nonneg (by omega)]; omega
  have en : Int.tmod (p : Int) 32 = (n : Int) := by rw [Int.tmod_eq_emod_of_nonneg (by omega)]; omega
  have wi : IntKind.i64.wrap (i : Int) = (i : Int) := by rw [IntKind.wrap_i64]; omega
  have wn : IntKind.i64.wrap (n : Int) = (n : Int) := by rw [IntKind.wrap_i64]; omega
  have wnu : IntKind.u64.wrap (n : Int) = (n : Int) := by rw [IntKind.wrap_u64]; omega
  obtain ⟨Y, hY⟩ : ∃ Y, Y = l1 * 4294967296 := ⟨_, rfl⟩
  obtain ⟨T, hT⟩ : ∃ T, T = l0 + Y := ⟨_, rfl⟩
  have f1 : IntKind.u64.wrap ((l1 : Int) * 4294967296) = (Y : Int) := by rw [IntKind.wrap_u64]; omega
  have f2 : bits .or .u64 (l0 : Int) (Y : Int) = (T : Int) := by
    rw [u64_or_nat l0 Y (by omega) (by omega), hY, or_limbs l0 l1 b0, ← hY, ← hT]
  have f3 : (T : Int) / 2 ^ n = (c : Int) := by
    rw [← e1, hT, hY, Int.natCast_ediv, Int.natCast_pow]; rfl
  have ek : (64 : Int) - (n : Int) = (k : Int) := by omega
  have f4 : IntKind.u64.wrap ((l2 : Int) * 2 ^ k) = (g : Int) := by
    rw [IntKind.wrap_u64, ← e2]
    simp
  have emin : min k 64 = k := Nat.min_eq_left (by omega)
  have f5 : bits .or .u64 (c : Int) (g : Int) = (R : Int) := by
    rw [u64_or_nat c g hc hg, e3]
  have HR := hid hR
  clear h h0 h1 h2 hp e1 e2 e3 hR hY hT C1 C2
  go_enter Tryd.func51, Tryd.ntmps51
  go_wp2_with fail
  refine HC0.out.mono ?_
  rintro e w' ⟨rfl, rfl⟩
  go_wp2_with fail
  refine HC1.out.mono ?_
  rintro e w' ⟨rfl, rfl⟩
  go_wp2_with fail
  refine HC2.out.mono ?_
  rintro e w' ⟨rfl, rfl⟩
  clear HC0 HC1 HC2
  go_wp2
  go_ret
  exact ⟨by rw [HR.out]; rfl, rfl⟩
end Go.Proofs.YtfjanomjmlcgaaaDoor
