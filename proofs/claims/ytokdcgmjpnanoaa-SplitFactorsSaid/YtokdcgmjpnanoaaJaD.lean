/- The operations of modular's sums; modular.addTimes by its contract. -/
import Derived.Test.YtokdcgmjpnanoaaJaC

set_option linter.unusedVariables false
set_option linter.unusedSimpArgs false
namespace Go.Proofs.Ytokdcgmjpnanoaa
open Go.RowKit

theorem op_add (x y : Int) (h : -9223372036854775808 ≤ x + y) (h2 : x + y < 9223372036854775808) (w : World) :
    Calls Try.prog 91 #[.int .i64 x, .int .i64 y] w fun e w' => e = .returned (.int .i64 (x + y)) ∧ w = w' := by
  have hw : IntKind.i64.wrap (x + y) = x + y := by rw [IntKind.wrap_i64]; omega
  obtain ⟨z, hz⟩ : ∃ z, x + y = z := ⟨_, rfl⟩
  rw [hz] at hw ⊢
  clear h h2
  go_enter Try.func91, Try.ntmps91
  go_wp2
  go_ret
  exact ⟨rfl, rfl⟩
theorem op_sub (x y : Int) (h : -9223372036854775808 ≤ x - y) (h2 : x - y < 9223372036854775808) (w : World) :
    Calls Try.prog 67 #[.int .i64 x, .int .i64 y] w fun e w' => e = .returned (.int .i64 (x - y)) ∧ w = w' := by
  have hw : IntKind.i64.wrap (x - y) = x - y := by rw [IntKind.wrap_i64]; omega
  obtain ⟨z, hz⟩ : ∃ z, x - y = z := ⟨_, rfl⟩
  rw [hz] at hw ⊢
  clear h h2
  go_enter Try.func67, Try.ntmps67
  go_wp2
  go_ret
  exact ⟨rfl, rfl⟩

def tms (c S a b : Int) : Int := if S ≤ a + c * b then a + c * b - S else a + c * b
theorem op_times {b1 b2 : Nat} {c S : Int} {w : World} (x y : Int) (k1 : w.cell? ⟨b1, 0, none⟩ = some (.int .i64 c)) (k2 : w.cell? ⟨b2, 0, none⟩ = some (.int .i64 S))
    (hx : 0 ≤ x ∧ x < S) (hy : 0 ≤ c * y ∧ c * y < S) (hS : S < 4611686018427387905) :
    Calls Try.prog 99 #[.int .i64 x, .int .i64 y, .pointer (some ⟨b1, 0, none⟩), .pointer (some ⟨b2, 0, none⟩)] w fun e w' => e = .returned (.int .i64 (tms c S x y)) ∧ w = w' := by
  obtain ⟨z, hz⟩ : ∃ z, c * y = z := ⟨_, rfl⟩
  have HT : Hid (tms c S x y = if S ≤ x + z then x + z - S else x + z) := by show _ = _; unfold tms; rw [hz]
  rw [hz] at hy
  have w1 : IntKind.i64.wrap z = z := by rw [IntKind.wrap_i64]; omega
  obtain ⟨u, hu⟩ : ∃ u, x + z = u := ⟨_, rfl⟩
  have w2 : IntKind.i64.wrap u = u := by rw [IntKind.wrap_i64]; omega
  rw [hu] at HT
  by_cases h : u ≥ S
  · obtain ⟨s, hs⟩ : ∃ s, u - S = s := ⟨_, rfl⟩
    have w3 : IntKind.i64.wrap s = s := by rw [IntKind.wrap_i64]; omega
    rw [if_pos h, hs] at HT
    clear hx hy hS
    go_enter Try.func99, Try.ntmps99
    go_wp2
    go_ret
    exact ⟨by rw [HT.out]; rfl, rfl⟩
  · rw [if_neg h] at HT
    clear hx hy hS
    go_enter Try.func99, Try.ntmps99
    go_wp2
    go_ret
    exact ⟨by rw [HT.out]; rfl, rfl⟩

/-- Each element is from 0 to q * q - 1. -/
def Low (q : Nat) (l : List Int) : Prop := ∀ i, 0 ≤ l.getD i 0 ∧ l.getD i 0 < (q : Int) * q
theorem times_low {q : Nat} {c : Int} {l g : List Int} {a k : Nat} (hq : 0 < q) (hl : Low q l) (hg : Res q g) (hc : 0 ≤ c) (hc2 : c < q) : 0 ≤ c * g.getD k 0 ∧ c * g.getD k 0 < (q : Int) * q := by
  have h1 := hg k
  refine ⟨Int.mul_nonneg hc h1.1, ?_⟩
  have h2 : c * g.getD k 0 ≤ c * (q : Int) := Int.mul_le_mul_of_nonneg_left (by omega) hc
  have h3 : c * (q : Int) < (q : Int) * q := Int.mul_lt_mul_of_pos_right hc2 (by omega)
  omega
theorem tog_low {q : Nat} {c : Int} {l g : List Int} {a : Nat} (hq : 0 < q) (hl : Low q l) (hg : Res q g) (hc : 0 ≤ c) (hc2 : c < q) (k : Nat) : Low q (tog (tms c ((q : Int) * q)) l g a k) := by
  intro i
  rw [tog_getD]
  split
  · have h1 := times_low (k := i - a) (a := a) hq hl hg hc hc2
    have h2 := hl i
    unfold tms
    split <;> omega
  · exact hl i
theorem tog_E {q : Nat} {c : Int} {l g : List Int} {a : Nat} (hn : a + g.length ≤ l.length) : E q (tog (tms c ((q : Int) * q)) l g a g.length) (padd l (pup a (psc c g))) := by
  refine cf_E fun i => ?_
  rw [tog_getD, getD_padd, getD_pup, getD_psc]
  by_cases h : a ≤ i ∧ i < a + g.length ∧ i < l.length
  · rw [if_pos h, if_neg (by omega)]
    unfold tms
    split
    · rw [← Int.mul_one (a := (l.getD i 0 + c * g.getD (i - a) 0 - (q : Int) * q)), Int.mul_one, Int.sub_mul_emod_self_left]
    · rfl
  · rw [if_neg h]
    by_cases h2 : i < a
    · rw [if_pos h2, Int.add_zero]
    · rw [if_neg h2, getD_over' g _ (by omega), Int.mul_zero, Int.add_zero]

set_option maxRecDepth 100000 in
set_option maxHeartbeats 2000000 in
theorem mod_addTimes {ao bo : Option Addr} {n cap cap2 gf a q : Nat} {l g : List Int} {c : Int} {w : World}
    (ha : 0 < g.length → ao = some ⟨gf, a, none⟩) (hr0 : 0 < l.length → RowW w gf l) (hn : a + g.length ≤ l.length) (hn2 : n = l.length - a) (hl : l.length ≤ 1048576)
    (hg : ∀ w1, w.grownBy w1 (some gf) → SeesI w1 (.slice bo g.length cap2) g) (hq : 0 < q) (hq2 : q < 2147483648) (hlow : Low q l) (hres : Res q g) (hc : 0 ≤ c) (hc2 : c < q) :
    Calls Try.prog 89 #[.slice ao n cap, .int .i64 c, .slice bo g.length cap2, .int .i64 q] w fun e w' =>
      e = .returned (.tuple #[]) ∧ ∃ l', (0 < l.length → RowW w' gf l') ∧ l'.length = l.length ∧ Low q l' ∧ E q l' (padd l (pup a (psc c g))) ∧ w.grownBy w' (some gf) := by
  by_cases h0 : c = 0
  · subst h0
    have HE : Hid (E q l (padd l (pup a (psc 0 g)))) := E.of_ev fun x => by rw [ev_padd, ev_pup, ev_psc]; simp
    have HR := hidP hr0
    have HL := hidP hlow
    clear ha hr0 hg hlow hres hc hc2
    go_enter Try.func89, Try.ntmps89
    go_wp2
    refine bodyPost_ret (results_none rfl _ _ _) rfl ?_
    exact ⟨rfl, l, fun hp => (HR.out hp).below ((Below.refl _ w).alloc (Nat.le_refl _) _), rfl, HL.out, HE.out, World.grownBy_alloc _ _ _⟩
  · have hb : (c == 0) = false := by simpa using h0
    obtain ⟨S, hS⟩ : ∃ S : Int, (q : Int) * (q : Int) = S := ⟨_, rfl⟩
    have hSb := prod_bound (a := (q : Int) - 1) (b := (q : Int) - 1) (q := q) (by omega) (by omega) (by omega) (by omega) hq2
    have hSb2 : S < 4611686018427387905 := by
      have h1 : (q : Int) * q ≤ 2147483647 * q := Int.mul_le_mul_of_nonneg_right (by omega) (by omega)
      omega
    have hS0 : 0 ≤ S := by rw [← hS]; exact Int.mul_nonneg (by omega) (by omega)
    have w1 : IntKind.i64.wrap S = S := by rw [IntKind.wrap_i64]; omega
    clear hSb
    have hgd : ∀ w1, (((w.alloc (.cells #[.int .i64 c] 3)).alloc (.cells #[.int .i64 S] 3)).grownBy w1 (some gf)) → w.grownBy w1 (some gf) := fun w1 h => grownBy_trans (grownBy_trans (World.grownBy_alloc _ _ _) (World.grownBy_alloc _ _ _)) h
    obtain ⟨Y, hY⟩ : ∃ Y, Y = (w.alloc (.cells #[.int .i64 c] 3)).alloc (.cells #[.int .i64 S] 3) := ⟨_, rfl⟩
    have hYb : Below w.heap.size w Y := by rw [hY]; exact ((Below.refl _ w).alloc (Nat.le_refl _) _).alloc (by simp) _
    have hY1 : Y.cell? ⟨w.heap.size, 0, none⟩ = some (.int .i64 c) := by rw [hY]; simp [World.cell?_alloc_past, World.cell?_alloc_at]
    have hY2 : Y.cell? ⟨w.heap.size + 1, 0, none⟩ = some (.int .i64 S) := by rw [hY]; simp [World.cell?_alloc_past, World.cell?_alloc_at]
    rw [← hY] at hgd
    have hcall : ∀ w1 k, Y.grownBy w1 (some gf) → k < g.length → Calls Try.prog 99 #[.int .i64 (l.getD (a + k) 0), .int .i64 (g.getD k 0), .pointer (some ⟨w.heap.size, 0, none⟩), .pointer (some ⟨w.heap.size + 1, 0, none⟩)] w1 fun e w' => e = .returned (.int .i64 (tms c S (l.getD (a + k) 0) (g.getD k 0))) ∧ w1 = w' := by
      intro w1 k hgr hk
      have hgl : gf < w.heap.size := (hr0 (by omega)).lt
      refine op_times _ _ (hgr.cell hY1 (fun e => ?_)) (hgr.cell hY2 (fun e => ?_)) ?_ ?_ hSb2
      · have := Option.some.inj e; simp at this; omega
      · have := Option.some.inj e; simp at this; omega
      · have := hlow (a + k); rw [hS] at this; exact this
      · have := times_low (l := l) (k := k) (a := a) hq hlow hres hc hc2; rw [hS] at this; exact this
    have CT := hidP (mod_together_times (b1 := w.heap.size) (b2 := w.heap.size + 1) (F := tms c S) (w := Y) (cap := cap) ha (fun hp => (hr0 hp).below hYb) hn hn2 hl (fun w1 h => hg w1 (hgd w1 h)) hcall)
    have HLow := hidP (tog_low (a := a) hq hlow hres hc hc2 g.length)
    have HE := hidP (tog_E (q := q) (c := c) hn)
    rw [hS] at HLow HE
    have HGD := hidP hgd
    have HYb := hidP hYb
    have HY := hidP hY
    have HN2 := hidP hn2
    clear ha hr0 hg hlow hres hc hc2 hcall hgd hYb hY1 hY2 hY hn2
    go_enter Try.func89, Try.ntmps89
    go_wp2_with fail
    rw [← HY.out]
    refine CT.out.mono ?_
    rintro e w2 ⟨rfl, hr, hgr⟩
    have HR := hidP hr
    have HGr := hidP (HGD.out _ hgr)
    clear hr hgr
    go_wp2
    go_end0
    exact ⟨rfl, _, HR.out, tog_len _ _ _ _ _, HLow.out, HE.out, HGr.out⟩
end Go.Proofs.Ytokdcgmjpnanoaa
