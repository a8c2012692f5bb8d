/- A small prime for any number (Low); lists of polynomials, one behind the other. -/
import Derived.Test.YtokdcgmjpnanoaaSqY
import Derived.Laws.AppendOwnNone

set_option linter.unusedVariables false
set_option linter.unusedSimpArgs false
namespace Go.Proofs.Ytokdcgmjpnanoaa
open Go.RowKit

theorem i64_and3 (n : Int) : bits .and .i64 n 3 = n % 4 := by
  have h1 : (BitVec.ofInt 64 3).toNat = 2 ^ 2 - 1 := by decide
  have key : (BitVec.ofInt 64 n &&& BitVec.ofInt 64 3).toNat = (n % ((2 ^ 64 : Nat) : Int)).toNat % 2 ^ 2 := by
    rw [BitVec.toNat_and, BitVec.toNat_ofInt, h1, Nat.and_two_pow_sub_one_eq_mod]
  show IntKind.i64.wrap ((BitVec.ofInt 64 n &&& BitVec.ofInt 64 3).toNat : Nat) = n % 4
  rw [key, IntKind.wrap_i64]
  omega
theorem lows (r : Nat) (h : r ≤ 3) : ∃ q : Nat, IsP q ∧ q ≤ 7 ∧ ([2, 3, 5, 7] : List Int).getD r 0 = (q : Int) := by
  have h8 : r = 0 ∨ r = 1 ∨ r = 2 ∨ r = 3 := by omega
  rcases h8 with rfl | rfl | rfl | rfl
  · exact ⟨2, by decide, by decide, rfl⟩
  · exact ⟨3, by decide, by decide, rfl⟩
  · exact ⟨5, by decide, by decide, rfl⟩
  · exact ⟨7, by decide, by decide, rfl⟩
set_option maxRecDepth 100000 in
set_option maxHeartbeats 2000000 in
theorem law_Low (p : Int) (h1 : -9223372036854775808 ≤ p) (h2 : p < 9223372036854775808) (w : World) :
    Calls Try.prog 7 #[.int .i64 p] w fun e w' => ∃ q : Nat, e = .returned (.int .i64 q) ∧ (IsP q ∧ q ≤ 7) ∧ Below w.heap.size w w' := by
  obtain ⟨r, hr, hr7⟩ : ∃ r : Nat, bits .and .i64 p 3 = r ∧ r ≤ 3 := by
    rw [i64_and3]; exact ⟨(p % 4).toNat, by omega, by omega⟩
  obtain ⟨q, hq, hq7, hv⟩ := lows r hr7
  have HL : Hid (Below w.heap.size w (w.alloc (.cells #[.int .i64 2, .int .i64 3, .int .i64 5, .int .i64 7] 3)) ∧ (w.alloc (.cells #[.int .i64 2, .int .i64 3, .int .i64 5, .int .i64 7] 3)).cell? ⟨w.heap.size, r, none⟩ = some (.int .i64 q)) := by
    refine ⟨(Below.refl _ w).alloc (Nat.le_refl _) _, ?_⟩
    have h := SeesF.lit (f := vI) (d := 0) w 3 [2, 3, 5, 7] (by simp)
    obtain ⟨b, o, ha, hc⟩ := SeesI.at (l := [2, 3, 5, 7]) h (by simp)
    cases ha
    have h3 := hc r (by simp; omega)
    rw [Nat.zero_add, hv] at h3
    exact h3
  have HQ := hidP (And.intro hq hq7)
  have ri : (r : Int) < 4 := by omega
  have z0 : 0 + r = r := Nat.zero_add r
  obtain ⟨Y, hY⟩ : ∃ Y, Y = w.alloc (.cells #[.int .i64 2, .int .i64 3, .int .i64 5, .int .i64 7] 3) := ⟨_, rfl⟩
  have HY := hidP hY
  rw [← hY] at HL
  have hB := hidP HL.out.1
  have hC := HL.out.2
  clear hq hv hY HL hq7
  go_enter Try.func7, Try.ntmps7
  go_upto_region 2 with fail
  rw [← HY.out]
  go_wp2_with fail
  go_ret
  exact ⟨q, rfl, HQ.out, hB.out⟩

/-- append of lists to lists of the call's own. -/
theorem wpList_append_list {w : World} {ops : Array Oper} {rest : List Oper} {o : Oper} {a : Act} {Q : Exit → Act → World → Prop} (hgd : o.guard = none) (s x : Operand)
    (hop : o.op = Op.call { callee := Callee.builtin Builtin.append, args := #[s, x], argTypes := #[25, 25] })
    {base : Nat} {v u : Value} {L M : List (List Int)} (hs : a.eval s = v) (hO : OwnsS base w v L) (hx : a.eval x = u) (hM : SeesL w u M) (hl : L.length + M.length ≤ 2000000) (hbase : base ≤ w.heap.size)
    (h : ∀ v' w', OwnsS base w' v' (L ++ M) → w.grownBy w' v.ownBlock → (v'.ownBlock = v.ownBlock ∨ ∃ g, v'.ownBlock = some g ∧ w.heap.size ≤ g) → wpList Try.prog ops Q rest (a.put o.dst v') w') : wpList Try.prog ops Q (o :: rest) a w := by
  obtain ⟨i0, hi, hz0, hz1, hz2⟩ := info_parts info_list
  obtain ⟨vs, m1, m2, m3⟩ := hM
  obtain ⟨ws, l1, l2, l3, l4⟩ := hO
  obtain ⟨ao, cap, e, hc⟩ := m2.form
  cases ao with
  | none =>
    have h0 : vs.length = 0 ∧ cap = 0 := by
      obtain ⟨ao, cap', z1, z2, z3, z4, z5⟩ := m2
      rw [e] at z1
      simp only [Value.slice.injEq] at z1
      obtain ⟨rfl, -, rfl⟩ := z1
      have := z4 rfl; omega
    obtain ⟨h0, rfl⟩ := h0
    rw [h0] at e
    have hM0 : M = [] := List.eq_nil_of_length_eq_zero (by omega)
    subst hM0
    refine wpList_append_own_none hgd s x _ hop base 22 i0 1 Try.underlying25 hi v L.length ws hs l2 (hx.trans e) ?_
    exact h v w (by rw [List.append_nil]; exact ⟨ws, l1, l2, l3, l4⟩) (grownBy_refl w _) (Or.inl rfl)
  | some ad =>
    rw [m1] at e
    have hn : ∀ j u, vs[j]? = some u → w.cell? (ad.add j) = some u := by
      intro j u hj
      have hjl : j < vs.length := by
        rcases Nat.lt_or_ge j vs.length with h | h
        · exact h
        · rw [List.getElem?_eq_none h] at hj; cases hj
      rw [e, ← m1] at m2
      obtain ⟨b, off, ha, hcell⟩ := m2.at' (by omega)
      cases ha
      have := hcell j hjl
      rw [List.getD_eq_getElem?_getD, hj] at this
      rw [Go.WideShapes.add_plain]; exact this
    refine wpList_append_sl hgd s x _ hop base 22 i0 24 Try.underlying25 hi hz0 hz1 hz2 v L.length ws hs l2 (seesSl l1 l4) l3 ad M.length cap vs (hx.trans e) m1 hn (seesSl m1 m3) (by unfold maxLen; omega) (by omega) hbase ?_
    intro v' w' a1 a2 a3 a4
    exact h v' w' (OwnsS.app l1 l3 l4 m1 m3 a1 a2 a3) a2 a4
def JoinTells (L M : List (List Int)) (w : World) (e : Ending) (w' : World) : Prop := ∃ v, e = .returned v ∧ OwnsS w.heap.size w' v (L ++ M) ∧ Below w.heap.size w w'
set_option maxRecDepth 100000 in
set_option maxHeartbeats 2000000 in
theorem ref_joined {va vb : Value} {L M : List (List Int)} {w : World} (ha : SeesL w va L) (hb : SeesL w vb M) (hl : L.length + M.length ≤ 2000000) :
    Calls Try.prog 49 #[va, vb] w fun e w' => JoinTells L M w e w' := by
  have HA := hidP ha
  have HB : Hid (∀ w1, Below w.heap.size w w1 → SeesL w1 vb M) := fun w1 h => hb.below h
  have HO0 := hidP (OwnsS.nil w.heap.size w)
  obtain ⟨A, ca, rfl, hcap⟩ := ha.form
  obtain ⟨B, cb, rfl, hcap2⟩ := hb.form
  have HL := hidP hl
  clear ha hb hl hcap hcap2
  unfold vNil at HO0
  go_enter Try.func49, Try.ntmps49
  go_wp2_with (at_builtin; refine wpList_append_list rfl _ _ rfl rfl HO0.out rfl HA.out (by simp; have := HL.out; omega) (Nat.le_refl _) ?_)
  intro v1 w1 ho1 hg1 hk1
  have HO1 := hidP ho1
  have HB1 : Hid (Below w.heap.size w w1) := (Below.refl _ w).grown hg1 (Nat.le_refl _) (fun k e => by cases e)
  clear ho1 hg1 hk1
  go_wp2_with (at_builtin; refine wpList_append_list rfl _ _ rfl rfl HO1.out rfl (HB.out _ HB1.out) (by simpa using HL.out) HB1.out.size ?_)
  intro v2 w2 ho2 hg2 hk2
  have HO2 := hidP ho2
  have HB2 : Hid (Below w.heap.size w w2) := HB1.out.grown hg2 HB1.out.size (fun k e => by
    obtain ⟨ws, l1, l2, l3⟩ := HO1.out
    exact (l2.lt k e).1)
  clear ho2 hg2 hk2
  go_wp2_with fail
  go_ret
  exact ⟨_, rfl, by simpa using HO2.out, HB2.out⟩
end Go.Proofs.Ytokdcgmjpnanoaa
