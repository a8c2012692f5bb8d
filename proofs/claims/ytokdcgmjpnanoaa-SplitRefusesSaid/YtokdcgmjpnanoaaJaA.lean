/- modular.residue, modular.settle by their contracts. -/
import Derived.Test.YtokdcgmjpnanoaaJaM

set_option linter.unusedVariables false
set_option linter.unusedSimpArgs false
namespace Go.Proofs.Ytokdcgmjpnanoaa
open Go.RowKit

theorem mod_residue (a p : Int) (hp : 0 < p) (hp2 : p < 2147483648) (w : World) :
    Calls Try.prog 88 #[.int .i64 a, .int .i64 p] w fun e w' => e = .returned (.int .i64 (a % p)) ∧ w = w' := by
  obtain ⟨t, r, ht, hr, t1, t2, r1, r2, h⟩ := rest_letters a p hp hp2
  have wt : IntKind.i64.wrap t = t := by rw [IntKind.wrap_i64]; omega
  have hp0 : ¬ p = 0 := by omega
  have HR := hidP hr
  rw [hr]
  clear hr
  rcases h with ⟨h0, hs⟩ | ⟨h0, hs⟩
  · have ws : IntKind.i64.wrap (t + p) = r := by rw [IntKind.wrap_i64]; omega
    clear hs
    go_enter Try.func88, Try.ntmps88
    go_wp2
    go_ret
    exact ⟨by first | rfl | (simp [ws]), rfl⟩
  · subst hs
    have h1 : ¬ t < 0 := h0
    go_enter Try.func88, Try.ntmps88
    go_wp2
    go_ret
    exact ⟨rfl, rfl⟩

theorem settle_mine {ao : Option Addr} {g cap n q : Nat} {wr : World} {l L : List Int} (hL : L.length = l.length) (hn : n ≤ l.length) (hcap : l.length ≤ cap) (hlen : l.length ≤ 70368744177664) (hno : ao = none → cap = 0) (ha : 0 < n → ao = some ⟨g, 0, none⟩) (hr : 0 < n → RowW wr g L)
    (hT : trim (L.take n) = nf q l) (he : n = 0 ∨ L.getD (n - 1) 0 ≠ 0) : Mine wr g (.slice ao n cap) (nf q l) := by
  have hl : (L.take n).length = n := by rw [List.length_take]; omega
  have e : L.take n = nf q l := by
    rw [← hT]
    refine (trim_self fun h => ?_).symm
    rcases he with h0 | h0
    · subst h0; exact absurd rfl h
    · have hp : 0 < n := by have := List.length_pos_iff.2 h; omega
      rw [hl, List.getD_eq_getElem?_getD, List.getElem?_take_of_lt (by omega), ← List.getD_eq_getElem?_getD]; exact h0
  rw [← e]
  refine ⟨ao, cap, by rw [hl], by omega, by omega, hno, fun hp => ?_⟩
  rw [hl] at hp
  exact ⟨ha hp, (hr hp).take n⟩

set_option maxRecDepth 100000 in
set_option maxHeartbeats 2000000 in
theorem mod_settle {v : Value} {g q : Nat} {l : List Int} {w : World} (h : Mine w g v l) (hq : 0 < q) (hq2 : q < 2147483648) :
    Calls Try.prog 87 #[v, .int .i64 q] w fun e w' => ∃ v', e = .returned v' ∧ Mine w' g v' (nf q l) ∧ w.grownBy w' (some g) := by
  have HR : Hid (∀ (z : Int) w, Calls Try.prog 88 #[.int .i64 z, .int .i64 q] w fun e w' => e = .returned (.int .i64 (z % (q : Int))) ∧ w = w') := fun z w => mod_residue z q (by omega) (by omega) w
  obtain ⟨ao, cap, rfl, hcap, hlen, hno, hrow⟩ := h
  have HRow := hidP hrow
  have HNo := hidP hno
  clear hrow hno
  go_enter Try.func87, Try.ntmps87
  go_wp2
  go_loopw [9] (fun v9 wr => ∃ k : Nat, k ≤ l.length ∧ v9 = .int .i64 k ∧ Hid (0 < l.length → RowW wr g (prog (fun a => a % (q : Int)) l k)) ∧ Hid (w.grownBy wr (some g))) (fun v _ => l.length - (intOf v).toNat)
  case atStart => exact ⟨0, Nat.zero_le _, rfl, fun hp => by rw [prog_zero]; exact (HRow.out hp).2, grownBy_refl _ _⟩
  case round =>
    obtain ⟨k, hk, rfl, hro, hgr⟩ := hrel
    by_cases hlt : k < l.length
    · obtain ⟨ha, -⟩ := HRow.out (by omega)
      subst ha
      have hr := hro.out (by omega)
      have hpl := prog_len (fun a => a % (q : Int)) l k
      have hc1 := hr.cell (i := k) (by rw [hpl]; exact hlt)
      rw [prog_at _ _ _ hlt] at hc1
      have hfr := hr.frozen k
      have HS := hidP (hr.set (i := k) (by rw [hpl]; exact hlt) (l.getD k 0 % (q : Int)))
      have hps : (prog (fun a => a % (q : Int)) l k).set k (l.getD k 0 % (q : Int)) = prog (fun a => a % (q : Int)) l (k + 1) := prog_set (fun a => a % (q : Int)) l k hlt
      rw [hps] at HS
      have HG := hidP (grownBy_set hgr.out k (.int .i64 (l.getD k 0 % (q : Int))))
      have HC := hidP (HR.out (l.getD k 0))
      obtain ⟨x, hx⟩ : ∃ x, l.getD k 0 = x := ⟨_, rfl⟩
      obtain ⟨z, hz⟩ : ∃ z, x % (q : Int) = z := ⟨_, rfl⟩
      rw [hx] at hc1 HC
      simp only [hx, hz] at HS HG HC
      clear hx hz hps hpl hr hro hgr
      have h0 : 0 + k = k := Nat.zero_add k
      go_wp2_with fail
      refine (HC.out _).mono ?_
      rintro e w0 ⟨rfl, rfl⟩
      go_wp2
      go_roundw
      case rel => exact ⟨k + 1, by omega, by go_num, fun _ => HS.out, HG⟩
      case measure => simp [intOf]; omega
    · obtain rfl : k = l.length := by omega
      rw [prog_all] at hro
      go_wp2
      obtain ⟨L, hL⟩ : ∃ L, l.map (fun a => a % (q : Int)) = L := ⟨_, rfl⟩
      have hLl : L.length = l.length := by rw [← hL, List.length_map]
      have HT : Hid (trim L = nf q l) := by show trim L = _; rw [← hL]; rfl
      rw [hL] at hro
      have HLl := hidP hLl
      clear hL hLl
      go_loopg [0] l.length (fun gm v0 wr2 => ∃ n : Nat, n = gm ∧ n ≤ l.length ∧ v0 = .slice ao n cap ∧ Hid (trim (L.take n) = nf q l) ∧ wr2 = wr)
      case atStart => exact ⟨l.length, rfl, Nat.le_refl _, rfl, by show _ = _; rw [← HLl.out, List.take_length]; exact HT.out, rfl⟩
      case round =>
        obtain ⟨n, rfl, hn, rfl, hT, rfl⟩ := hrel
        rcases Nat.eq_zero_or_pos n with h0 | h0
        · subst h0
          go_wp2
          go_ret
          exact ⟨_, rfl, settle_mine HLl.out hn hcap hlen HNo.out (fun h => absurd h (by omega)) (fun h => absurd h (by omega)) hT.out (Or.inl rfl), hgr.out⟩
        · obtain ⟨m, rfl⟩ : ∃ m, n = m + 1 := ⟨n - 1, by omega⟩
          obtain ⟨ha, -⟩ := HRow.out (by omega)
          subst ha
          have hr := hro.out (by omega)
          have hc1 := hr.cell (i := m) (by have := HLl.out; omega)
          have hT2 := hT.out
          rw [take_last (by have := HLl.out; omega)] at hT2
          have e1 : IntKind.i64.wrap (((m + 1 : Nat) : Int) - 1) = (m : Int) := by rw [IntKind.wrap_i64]; omega
          have e2 : ((m + 1 : Nat) : Int) - 1 = (m : Int) := by omega
          have p1 : ((m + 1 : Nat) : Int) > 0 := by omega
          obtain ⟨y, hy⟩ : ∃ y, L.getD m 0 = y := ⟨_, rfl⟩
          rw [hy] at hc1 hT2
          by_cases hy0 : y = 0
          · subst hy0
            rw [trim_zero] at hT2
            have HT2 := hidP hT2
            clear hT2 hT hy
            have h0m : 0 + m = m := Nat.zero_add m
            have lm : (m : Int) < ((m + 1 : Nat) : Int) := by omega
            have lm2 : (m : Int) ≤ (cap : Int) := by omega
            go_wp2
            go_roundg m
            case rel => exact ⟨m, rfl, by omega, by go_num, HT2, rfl⟩
            case measure => omega
          · have HY : Hid (L.getD (m + 1 - 1) 0 ≠ 0) := by show _ ≠ _; rw [Nat.add_sub_cancel, hy]; exact hy0
            have hyb : (y == 0) = false := by simpa using hy0
            clear hT2 hy
            have h0m : 0 + m = m := Nat.zero_add m
            have lm : (m : Int) < ((m + 1 : Nat) : Int) := by omega
            go_wp2
            go_ret
            exact ⟨_, rfl, settle_mine HLl.out hn hcap hlen HNo.out (fun _ => rfl) (fun _ => hr) hT.out (Or.inr HY.out), hgr.out⟩
end Go.Proofs.Ytokdcgmjpnanoaa
