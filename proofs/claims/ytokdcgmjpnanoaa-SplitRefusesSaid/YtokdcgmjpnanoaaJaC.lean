/- modular.together by its contract, whatever operation it is handed. -/
import Derived.Test.YtokdcgmjpnanoaaJaB

set_option linter.unusedVariables false
set_option linter.unusedSimpArgs false
namespace Go.Proofs.Ytokdcgmjpnanoaa
open Go.RowKit

/-- The list behind k rounds: from index 'at' on what F makes of both. -/
def tog (F : Int → Int → Int) (l g : List Int) (a : Nat) : Nat → List Int
  | 0 => l
  | k + 1 => (tog F l g a k).set (a + k) (F (l.getD (a + k) 0) (g.getD k 0))
theorem tog_len (F : Int → Int → Int) (l g : List Int) (a : Nat) : ∀ k, (tog F l g a k).length = l.length
  | 0 => rfl
  | k + 1 => by rw [tog, List.length_set]; exact tog_len F l g a k
theorem getD_set' (l : List Int) (i j : Nat) (x : Int) : (l.set i x).getD j 0 = if i = j ∧ j < l.length then x else l.getD j 0 := by
  rw [List.getD_eq_getElem?_getD, List.getElem?_set]
  by_cases h : i = j
  · subst h
    rw [if_pos rfl]
    by_cases h2 : i < l.length
    · rw [if_pos h2, if_pos ⟨rfl, h2⟩]; rfl
    · rw [if_neg h2, if_neg (fun h => h2 h.2), getD_over' l i (by omega)]; rfl
  · rw [if_neg h, if_neg (fun k => h k.1), List.getD_eq_getElem?_getD]
theorem tog_getD (F : Int → Int → Int) (l g : List Int) (a : Nat) : ∀ k i, (tog F l g a k).getD i 0 = if a ≤ i ∧ i < a + k ∧ i < l.length then F (l.getD i 0) (g.getD (i - a) 0) else l.getD i 0
  | 0, i => by rw [if_neg (by omega)]; rfl
  | k + 1, i => by
    rw [tog, getD_set', tog_len, tog_getD F l g a k i]
    by_cases h : a + k = i ∧ i < l.length
    · obtain ⟨h1, h2⟩ := h
      subst h1
      rw [if_pos ⟨rfl, h2⟩, if_pos (by omega), Nat.add_sub_cancel_left]
    · rw [if_neg h]
      by_cases h3 : a ≤ i ∧ i < a + k ∧ i < l.length
      · rw [if_pos h3, if_pos (by omega)]
      · rw [if_neg h3, if_neg (by omega)]

set_option maxRecDepth 100000 in
set_option maxHeartbeats 2000000 in
theorem mod_together_add {ao bo : Option Addr} {n cap cap2 gf a : Nat} {l g : List Int} {F : Int → Int → Int} {w : World}
    (ha : 0 < g.length → ao = some ⟨gf, a, none⟩) (hr0 : 0 < l.length → RowW w gf l) (hn : a + g.length ≤ l.length) (hn2 : n = l.length - a) (hl : l.length ≤ 1048576)
    (hg : ∀ w1, w.grownBy w1 (some gf) → SeesI w1 (.slice bo g.length cap2) g)
    (hc : ∀ w1 k, w.grownBy w1 (some gf) → k < g.length → Calls Try.prog 91 #[.int .i64 (l.getD (a + k) 0), .int .i64 (g.getD k 0)] w1 fun e w' => e = .returned (.int .i64 (F (l.getD (a + k) 0) (g.getD k 0))) ∧ w1 = w') :
    Calls Try.prog 90 #[.slice ao n cap, .slice bo g.length cap2, .func (.func 91) #[] #[]] w fun e w' => e = .returned (.tuple #[]) ∧ (0 < l.length → RowW w' gf (tog F l g a g.length)) ∧ w.grownBy w' (some gf) := by
  have HA := hidP ha
  have HN2 := hidP hn2
  clear hn2
  have HG := hidP hg
  have HC := hidP hc
  have HR0 := hidP hr0
  clear ha hg hc hr0
  go_enter Try.func90, Try.ntmps90
  go_wp2
  go_loopw [10] (fun v9 wr => ∃ k : Nat, k ≤ g.length ∧ v9 = .int .i64 k ∧ Hid (0 < l.length → RowW wr gf (tog F l g a k)) ∧ Hid (w.grownBy wr (some gf))) (fun v _ => g.length - (intOf v).toNat)
  case atStart => exact ⟨0, Nat.zero_le _, rfl, fun hp => HR0.out hp, grownBy_refl _ _⟩
  case round =>
    obtain ⟨k, hk, rfl, hro, hgr⟩ := hrel
    by_cases hlt : k < g.length
    · have hao := HA.out (by omega)
      subst hao
      have hr := hro.out (by omega)
      have hpl := tog_len F l g a k
      have hc1 := hr.cell (i := a + k) (by rw [hpl]; omega)
      rw [tog_getD, if_neg (by omega)] at hc1
      have hfr := hr.frozen (a + k)
      have HS : Hid (RowW (wr.setCell ⟨gf, a + k, none⟩ (.int .i64 (F (l.getD (a + k) 0) (g.getD k 0)))) gf (tog F l g a (k + 1))) := hr.set (i := a + k) (by rw [hpl]; omega) _
      have HGr := hidP (grownBy_set hgr.out (a + k) (.int .i64 (F (l.getD (a + k) 0) (g.getD k 0))))
      have HCk := hidP (HC.out wr k hgr.out hlt)
      obtain ⟨b2, o2, e2, hc2'⟩ := (HG.out wr hgr.out).at (by omega)
      subst e2
      have hc2 := hc2' k hlt
      obtain ⟨x, hx⟩ : ∃ x, l.getD (a + k) 0 = x := ⟨_, rfl⟩
      obtain ⟨y, hy⟩ : ∃ y, g.getD k 0 = y := ⟨_, rfl⟩
      obtain ⟨z, hz⟩ : ∃ z, F x y = z := ⟨_, rfl⟩
      rw [hx] at hc1
      rw [hy] at hc2
      simp only [hx, hy, hz] at HS HGr HCk
      clear hx hy hz hpl hr hro hgr hc2'
      have kn : (k : Int) < (n : Int) := by have := HN2.out; omega
      go_wp2_with fail
      refine HCk.out.mono ?_
      rintro e w0 ⟨rfl, rfl⟩
      go_wp2
      go_roundw
      case rel => exact ⟨k + 1, by omega, by go_num, fun _ => HS.out, HGr⟩
      case measure => simp [intOf]; omega
    · obtain rfl : k = g.length := by omega
      go_wp2
      go_end0
      exact ⟨rfl, hro.out, hgr.out⟩

set_option maxRecDepth 100000 in
set_option maxHeartbeats 2000000 in
theorem mod_together_sub {ao bo : Option Addr} {n cap cap2 gf a : Nat} {l g : List Int} {F : Int → Int → Int} {w : World}
    (ha : 0 < g.length → ao = some ⟨gf, a, none⟩) (hr0 : 0 < l.length → RowW w gf l) (hn : a + g.length ≤ l.length) (hn2 : n = l.length - a) (hl : l.length ≤ 1048576)
    (hg : ∀ w1, w.grownBy w1 (some gf) → SeesI w1 (.slice bo g.length cap2) g)
    (hc : ∀ w1 k, w.grownBy w1 (some gf) → k < g.length → Calls Try.prog 67 #[.int .i64 (l.getD (a + k) 0), .int .i64 (g.getD k 0)] w1 fun e w' => e = .returned (.int .i64 (F (l.getD (a + k) 0) (g.getD k 0))) ∧ w1 = w') :
    Calls Try.prog 90 #[.slice ao n cap, .slice bo g.length cap2, .func (.func 67) #[] #[]] w fun e w' => e = .returned (.tuple #[]) ∧ (0 < l.length → RowW w' gf (tog F l g a g.length)) ∧ w.grownBy w' (some gf) := by
  have HA := hidP ha
  have HN2 := hidP hn2
  clear hn2
  have HG := hidP hg
  have HC := hidP hc
  have HR0 := hidP hr0
  clear ha hg hc hr0
  go_enter Try.func90, Try.ntmps90
  go_wp2
  go_loopw [10] (fun v9 wr => ∃ k : Nat, k ≤ g.length ∧ v9 = .int .i64 k ∧ Hid (0 < l.length → RowW wr gf (tog F l g a k)) ∧ Hid (w.grownBy wr (some gf))) (fun v _ => g.length - (intOf v).toNat)
  case atStart => exact ⟨0, Nat.zero_le _, rfl, fun hp => HR0.out hp, grownBy_refl _ _⟩
  case round =>
    obtain ⟨k, hk, rfl, hro, hgr⟩ := hrel
    by_cases hlt : k < g.length
    · have hao := HA.out (by omega)
      subst hao
      have hr := hro.out (by omega)
      have hpl := tog_len F l g a k
      have hc1 := hr.cell (i := a + k) (by rw [hpl]; omega)
      rw [tog_getD, if_neg (by omega)] at hc1
      have hfr := hr.frozen (a + k)
      have HS : Hid (RowW (wr.setCell ⟨gf, a + k, none⟩ (.int .i64 (F (l.getD (a + k) 0) (g.getD k 0)))) gf (tog F l g a (k + 1))) := hr.set (i := a + k) (by rw [hpl]; omega) _
      have HGr := hidP (grownBy_set hgr.out (a + k) (.int .i64 (F (l.getD (a + k) 0) (g.getD k 0))))
      have HCk := hidP (HC.out wr k hgr.out hlt)
      obtain ⟨b2, o2, e2, hc2'⟩ := (HG.out wr hgr.out).at (by omega)
      subst e2
      have hc2 := hc2' k hlt
      obtain ⟨x, hx⟩ : ∃ x, l.getD (a + k) 0 = x := ⟨_, rfl⟩
      obtain ⟨y, hy⟩ : ∃ y, g.getD k 0 = y := ⟨_, rfl⟩
      obtain ⟨z, hz⟩ : ∃ z, F x y = z := ⟨_, rfl⟩
      rw [hx] at hc1
      rw [hy] at hc2
      simp only [hx, hy, hz] at HS HGr HCk
      clear hx hy hz hpl hr hro hgr hc2'
      have kn : (k : Int) < (n : Int) := by have := HN2.out; omega
      go_wp2_with fail
      refine HCk.out.mono ?_
      rintro e w0 ⟨rfl, rfl⟩
      go_wp2
      go_roundw
      case rel => exact ⟨k + 1, by omega, by go_num, fun _ => HS.out, HGr⟩
      case measure => simp [intOf]; omega
    · obtain rfl : k = g.length := by omega
      go_wp2
      go_end0
      exact ⟨rfl, hro.out, hgr.out⟩

set_option maxRecDepth 100000 in
set_option maxHeartbeats 2000000 in
theorem mod_together_times {ao bo : Option Addr} {n cap cap2 gf a : Nat} {l g : List Int} {b1 b2 : Nat} {F : Int → Int → Int} {w : World}
    (ha : 0 < g.length → ao = some ⟨gf, a, none⟩) (hr0 : 0 < l.length → RowW w gf l) (hn : a + g.length ≤ l.length) (hn2 : n = l.length - a) (hl : l.length ≤ 1048576)
    (hg : ∀ w1, w.grownBy w1 (some gf) → SeesI w1 (.slice bo g.length cap2) g)
    (hc : ∀ w1 k, w.grownBy w1 (some gf) → k < g.length → Calls Try.prog 99 #[.int .i64 (l.getD (a + k) 0), .int .i64 (g.getD k 0), .pointer (some ⟨b1, 0, none⟩), .pointer (some ⟨b2, 0, none⟩)] w1 fun e w' => e = .returned (.int .i64 (F (l.getD (a + k) 0) (g.getD k 0))) ∧ w1 = w') :
    Calls Try.prog 90 #[.slice ao n cap, .slice bo g.length cap2, .func (.func 99) #[] #[.pointer (some ⟨b1, 0, none⟩), .pointer (some ⟨b2, 0, none⟩)]] w fun e w' => e = .returned (.tuple #[]) ∧ (0 < l.length → RowW w' gf (tog F l g a g.length)) ∧ w.grownBy w' (some gf) := by
  have HA := hidP ha
  have HN2 := hidP hn2
  clear hn2
  have HG := hidP hg
  have HC := hidP hc
  have HR0 := hidP hr0
  clear ha hg hc hr0
  go_enter Try.func90, Try.ntmps90
  go_wp2
  go_loopw [10] (fun v9 wr => ∃ k : Nat, k ≤ g.length ∧ v9 = .int .i64 k ∧ Hid (0 < l.length → RowW wr gf (tog F l g a k)) ∧ Hid (w.grownBy wr (some gf))) (fun v _ => g.length - (intOf v).toNat)
  case atStart => exact ⟨0, Nat.zero_le _, rfl, fun hp => HR0.out hp, grownBy_refl _ _⟩
  case round =>
    obtain ⟨k, hk, rfl, hro, hgr⟩ := hrel
    by_cases hlt : k < g.length
    · have hao := HA.out (by omega)
      subst hao
      have hr := hro.out (by omega)
      have hpl := tog_len F l g a k
      have hc1 := hr.cell (i := a + k) (by rw [hpl]; omega)
      rw [tog_getD, if_neg (by omega)] at hc1
      have hfr := hr.frozen (a + k)
      have HS : Hid (RowW (wr.setCell ⟨gf, a + k, none⟩ (.int .i64 (F (l.getD (a + k) 0) (g.getD k 0)))) gf (tog F l g a (k + 1))) := hr.set (i := a + k) (by rw [hpl]; omega) _
      have HGr := hidP (grownBy_set hgr.out (a + k) (.int .i64 (F (l.getD (a + k) 0) (g.getD k 0))))
      have HCk := hidP (HC.out wr k hgr.out hlt)
      obtain ⟨b2, o2, e2, hc2'⟩ := (HG.out wr hgr.out).at (by omega)
      subst e2
      have hc2 := hc2' k hlt
      obtain ⟨x, hx⟩ : ∃ x, l.getD (a + k) 0 = x := ⟨_, rfl⟩
      obtain ⟨y, hy⟩ : ∃ y, g.getD k 0 = y := ⟨_, rfl⟩
      obtain ⟨z, hz⟩ : ∃ z, F x y = z := ⟨_, rfl⟩
      rw [hx] at hc1
      rw [hy] at hc2
      simp only [hx, hy, hz] at HS HGr HCk
      clear hx hy hz hpl hr hro hgr hc2'
      have kn : (k : Int) < (n : Int) := by have := HN2.out; omega
      go_wp2_with fail
      refine HCk.out.mono ?_
      rintro e w0 ⟨rfl, rfl⟩
      go_wp2
      go_roundw
      case rel => exact ⟨k + 1, by omega, by go_num, fun _ => HS.out, HGr⟩
      case measure => simp [intOf]; omega
    · obtain rfl : k = g.length := by omega
      go_wp2
      go_end0
      exact ⟨rfl, hro.out, hgr.out⟩

end Go.Proofs.Ytokdcgmjpnanoaa
