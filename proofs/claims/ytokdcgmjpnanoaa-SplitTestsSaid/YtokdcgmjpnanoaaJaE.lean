/- modular.product by its contract. -/
import Derived.Test.YtokdcgmjpnanoaaJaD

set_option linter.unusedVariables false
set_option linter.unusedSimpArgs false
namespace Go.Proofs.Ytokdcgmjpnanoaa
open Go.RowKit

theorem take_mul {q : Nat} {f g l l' : List Int} {k : Nat} (hk : k < f.length) (h : E q l (pmul (f.take k) g)) (h' : E q l' (padd l (pup k (psc (f.getD k 0) g)))) : E q l' (pmul (f.take (k + 1)) g) := by
  have hl : (f.take k).length = k := by rw [List.length_take]; omega
  refine h'.trans ((h.add (E.refl q _)).trans (.of_ev fun x => ?_))
  rw [take_last hk, ev_padd, ev_pmul, ev_pmul, ev_append, ev_pup, ev_psc, hl]
  simp only [ev]; grind
theorem low_zeros (q n : Nat) (hq : 0 < q) : Low q (List.replicate n 0) := fun i => by
  have : (List.replicate n (0 : Int)).getD i 0 = 0 := by
    rw [List.getD_eq_getElem?_getD, List.getElem?_replicate]; split <;> rfl
  rw [this]; exact ⟨Int.le_refl _, Int.mul_pos (by omega) (by omega)⟩

set_option maxRecDepth 100000 in
set_option maxHeartbeats 2000000 in
theorem mod_product {va vb : Value} {q : Nat} {f g : List Int} {w : World} (hf : SeesI w va f) (hg : SeesI w vb g) (hlf : f.length ≤ 65536) (hlg : g.length ≤ 65536) (hq : 0 < q) (hq2 : q < 2147483648) (rf : Res q f) (rg : Res q g) :
    Calls Try.prog 64 #[va, vb, .int .i64 q] w fun e w' => ∃ v' g', e = .returned v' ∧ w.heap.size ≤ g' ∧ Mine w' g' v' (nf q (pmul f g)) ∧ Below w.heap.size w w' := by
  have hw1 : IntKind.i64.wrap ((f.length : Int) + (g.length : Int)) = (f.length : Int) + (g.length : Int) := by rw [IntKind.wrap_i64]; omega
  have S : Hid (∀ v g' l w, Mine w g' v l → Calls Try.prog 87 #[v, .int .i64 q] w fun e w' => ∃ v', e = .returned v' ∧ Mine w' g' v' (nf q l) ∧ w.grownBy w' (some g')) := fun v g' l w h => mod_settle h hq hq2
  by_cases hz : f.length = 0 ∧ g.length = 0
  · obtain ⟨z1, z2⟩ := hz
    have f0 : f = [] := List.eq_nil_of_length_eq_zero z1
    have g0 : g = [] := List.eq_nil_of_length_eq_zero z2
    subst f0 g0
    have hmk := run_make_row' (P := Try.prog) 22 3 (.int .i64 0) 8 Try.underlying22 info_int rfl .i64 .i64 0 (by omega) (by omega)
    simp only [Int.natCast_zero] at hmk
    obtain ⟨A, ca, rfl, hcap⟩ := SeesF.form hf
    obtain ⟨B, cb, rfl, hcap2⟩ := SeesF.form hg
    have HM := hidP (Mine.made w 0 (by omega))
    have HB : Hid (Below w.heap.size w (w.alloc (.cells (madeCells #[.int .i64 0] 0) 3))) := (Below.refl _ w).alloc (Nat.le_refl _) _
    obtain ⟨Y, hY⟩ : ∃ Y, Y = w.alloc (.cells (madeCells #[.int .i64 0] 0) 3) := ⟨_, rfl⟩
    rw [← hY] at HM HB
    have HY := hidP hY
    have CS := hidP (S.out _ _ _ _ HM.out)
    clear hf hg rf rg z1 z2 hw1 hY HM
    go_enter Try.func64, Try.ntmps64
    go_wp2_with fail
    refine wp_loop_rounds 1 ?_
    rw [rounds_succ]
    go_wp2_with fail
    rw [← HY.out]
    refine CS.out.mono ?_
    rintro e w2 ⟨v2, rfl, hm2, hgr2⟩
    have HM2 := hidP hm2
    have HB2 := hidP (below_in HB.out hgr2 (Nat.le_refl _))
    clear hm2 hgr2
    go_wp2
    go_ret
    exact ⟨_, _, rfl, Nat.le_refl _, HM2.out, HB2.out⟩
  obtain ⟨N, hN⟩ : ∃ N : Nat, (f.length : Int) + (g.length : Int) - 1 = (N : Int) := ⟨((f.length : Int) + (g.length : Int) - 1).toNat, by omega⟩
  have hmk := run_make_row' (P := Try.prog) 22 3 (.int .i64 0) 8 Try.underlying22 info_int rfl .i64 .i64 N (by omega) (by omega)
  have hw2 : IntKind.i64.wrap (N : Int) = (N : Int) := by rw [IntKind.wrap_i64]; omega
  have HF : Hid (∀ w1, Below w.heap.size w w1 → SeesI w1 va f) := fun w1 h => SeesI.below hf h
  have HGs : Hid (∀ w1, Below w.heap.size w w1 → SeesI w1 vb g) := fun w1 h => SeesI.below hg h
  obtain ⟨A, ca, rfl, hcap⟩ := SeesF.form hf
  obtain ⟨B, cb, rfl, hcap2⟩ := SeesF.form hg
  have RF := hidP rf
  have RG := hidP rg
  have HNl := hidP hN
  have HRow := hidP (RowW.made w N)
  have HB : Hid (Below w.heap.size w (w.alloc (.cells (madeCells #[.int .i64 0] N) 3))) := (Below.refl _ w).alloc (Nat.le_refl _) _
  obtain ⟨G, hG⟩ : ∃ G, G = w.heap.size := ⟨_, rfl⟩
  rw [← hG] at HRow
  have HGe := hidP hG
  clear hf hg rf rg hz hG
  go_enter Try.func64, Try.ntmps64
  go_wp2
  rw [← HGe.out]
  obtain ⟨W1, hW⟩ : ∃ x, x = w.alloc (.cells (madeCells #[.int .i64 0] N) 3) := ⟨_, rfl⟩
  rw [← hW] at HRow HB ⊢
  clear hmk hW
  go_loopw [20] (fun v wr => ∃ k : Nat, k ≤ f.length ∧ v = .int .i64 k ∧ Hid (∃ l, l.length = N ∧ (0 < N → RowW wr G l) ∧ Low q l ∧ E q l (pmul (f.take k) g)) ∧ Hid (Below w.heap.size w wr)) (fun v _ => f.length - (intOf v).toNat)
  case atStart => exact ⟨0, Nat.zero_le _, rfl, ⟨_, List.length_replicate, fun _ => HRow.out, low_zeros q N hq, E.of_ev fun x => by rw [ev_zeros]; rfl⟩, HB⟩
  case round =>
    clear HRow HB
    obtain ⟨k, hk, rfl, hl, hbel⟩ := hrel
    by_cases hlt : k < f.length
    · obtain ⟨l, l1, l2, l3, l4⟩ := hl.out
      obtain ⟨b1, o1, e1, hc1'⟩ := (HF.out _ hbel.out).at (by omega)
      subst e1
      have hc1 := hc1' k hlt
      have hkN : k ≤ N := by omega
      have hres := RF.out k
      have hgG : ∀ w1, wr.grownBy w1 (some G) → SeesI w1 (.slice B g.length cb) g := fun w1 h => HGs.out w1 (below_in hbel.out h (by rw [HGe.out]; exact Nat.le_refl _))
      have HT : Hid (∀ l', E q l' (padd l (pup k (psc (f.getD k 0) g))) → E q l' (pmul (f.take (k + 1)) g)) := fun l' h => take_mul hlt l4 h
      obtain ⟨x, hx⟩ : ∃ x, f.getD k 0 = x := ⟨_, rfl⟩
      rw [hx] at hc1 hres HT
      have HK : Hid (∀ w2 l', (0 < l.length → RowW w2 G l') → l'.length = l.length → Low q l' → E q l' (padd l (pup k (psc x g))) → ∃ l, l.length = N ∧ (0 < N → RowW w2 G l) ∧ Low q l ∧ E q l (pmul (f.take (k + 1)) g)) := fun w2 l' k1 k2 k3 k4 => ⟨l', k2.trans l1, fun hp => k1 (by omega), k3, HT.out _ k4⟩
      by_cases hkn : k = N
      · have CA := hidP (mod_addTimes (ao := some ⟨G, 0, none⟩) (n := 0) (a := k) (cap := 0) (c := x) (fun h => absurd h (by omega)) (fun hp => l2 (by omega)) (by omega) (by omega) (by omega) hgG hq hq2 l3 RG.out hres.1 hres.2)
        subst hkn
        clear hl l1 l2 l3 l4 hgG hres hc1' hx HT
        go_wp2_with fail
        refine CA.out.mono ?_
        rintro e w2 ⟨rfl, l', k1, k2, k3, k4, k5⟩
        have HL2 := hidP (HK.out w2 l' k1 k2 k3 k4)
        have HB2 : Hid (Below w.heap.size w w2) := below_in hbel.out k5 (by rw [HGe.out]; exact Nat.le_refl _)
        clear k1 k2 k3 k4 k5
        go_wp2
        go_roundw
        case rel => exact ⟨k + 1, by omega, by go_num, HL2, HB2⟩
        case measure => simp [intOf]; omega
      · have CA := hidP (mod_addTimes (ao := some ⟨G, k, none⟩) (n := N - k) (cap := N - k) (c := x) (fun _ => rfl) (fun hp => l2 (by omega)) (by omega) (by omega) (by omega) hgG hq hq2 l3 RG.out hres.1 hres.2)
        have kN : ¬ N = k := fun h => hkn h.symm
        have kN2 : (k : Int) ≤ (N : Int) := by omega
        have h0k : 0 + k = k := Nat.zero_add k
        clear hl l1 l2 l3 l4 hgG hres hc1' hx hkn HT
        go_wp2_with fail
        refine CA.out.mono ?_
        rintro e w2 ⟨rfl, l', k1, k2, k3, k4, k5⟩
        have HL2 := hidP (HK.out w2 l' k1 k2 k3 k4)
        have HB2 : Hid (Below w.heap.size w w2) := below_in hbel.out k5 (by rw [HGe.out]; exact Nat.le_refl _)
        clear k1 k2 k3 k4 k5
        go_wp2
        go_roundw
        case rel => exact ⟨k + 1, by omega, by go_num, HL2, HB2⟩
        case measure => simp [intOf]; omega
    · obtain rfl : k = f.length := by omega
      obtain ⟨l, l1, l2, l3, l4⟩ := hl.out
      rw [List.take_length] at l4
      have CS := hidP (S.out (.slice (some ⟨G, 0, none⟩) N N) G l wr ⟨_, N, by rw [l1], by omega, by omega, (fun e => by cases e), fun hp => ⟨rfl, l2 (by omega)⟩⟩)
      have HN := hidP (nf_eq l4)
      clear hl l1 l2 l3 l4
      go_wp2_with fail
      refine CS.out.mono ?_
      rintro e w2 ⟨v2, rfl, hm2, hgr2⟩
      rw [HN.out] at hm2
      have HM2 := hidP hm2
      have HB2 := hidP (below_in hbel.out hgr2 (by rw [HGe.out]; exact Nat.le_refl _))
      clear hm2 hgr2
      go_wp2
      go_ret
      exact ⟨_, G, rfl, by rw [HGe.out]; exact Nat.le_refl _, HM2.out, HB2.out⟩
end Go.Proofs.Ytokdcgmjpnanoaa
