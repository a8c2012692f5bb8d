/- modular.Pow by its contract. -/
import Derived.Test.YtokdcgmjpnanoaaJaQ
import Derived.Laws.EntriesVeiled
import Derived.Deep.Cut

set_option linter.unusedVariables false
set_option linter.unusedSimpArgs false
namespace Go.Proofs.Ytokdcgmjpnanoaa
open Go.RowKit

theorem cell?_setCell_self {w : World} {b : Nat} {x y : Value} (h : w.cell? ⟨b, 0, none⟩ = some y) : (w.setCell ⟨b, 0, none⟩ x).cell? ⟨b, 0, none⟩ = some x := World.cell?_setCell_same (h := h) ..
/-- The literal [1] in memory. -/
theorem lit_at (y : World) : Mine (y.alloc (.cells #[.int .i64 1] 3)) y.heap.size (.slice (some ⟨y.heap.size, 0, none⟩) 1 1) [1] := by
  refine ⟨_, 1, rfl, Nat.le_refl _, by simp, (fun e => by cases e), fun _ => ⟨rfl, _, Deep.blk_alloc_new y _, Nat.le_refl _, fun i hi => ?_⟩⟩
  obtain rfl : i = 0 := by simp at hi; omega
  rfl
theorem lit_then {y wx : World} {k : Nat} (hb : Below (y.alloc (.cells #[.int .i64 1] 3)).heap.size (y.alloc (.cells #[.int .i64 1] 3)) wx) (hk : (y.alloc (.cells #[.int .i64 1] 3)).heap.size ≤ k) : Mine wx y.heap.size (.slice (some ⟨y.heap.size, 0, none⟩) 1 1) [1] ∧ y.heap.size ≠ k := by
  refine ⟨(lit_at y).below hb, ?_⟩
  have : (y.alloc (.cells #[.int .i64 1] 3)).heap.size = y.heap.size + 1 := by simp
  omega
theorem lit_then_d {y wx : World} {k : Nat} (hb : Below (y.alloc (.cells #[.int .i64 1] 3)).drew.heap.size (y.alloc (.cells #[.int .i64 1] 3)).drew wx) (hk : (y.alloc (.cells #[.int .i64 1] 3)).drew.heap.size ≤ k) : Mine wx y.heap.size (.slice (some ⟨y.heap.size, 0, none⟩) 1 1) [1] ∧ y.heap.size ≠ k := by
  refine ⟨(show Mine (y.alloc (.cells #[.int .i64 1] 3)).drew _ _ _ from lit_at y).below hb, ?_⟩
  have : (y.alloc (.cells #[.int .i64 1] 3)).drew.heap.size = y.heap.size + 1 := by show (y.alloc (.cells #[.int .i64 1] 3)).heap.size = _; simp
  omega
theorem below_al {y w : World} (h : Below y.heap.size y w) (o : Obj) : Below y.heap.size y (w.alloc o) := h.alloc h.size o
theorem below_dr {y w : World} (h : Below y.heap.size y w) : Below y.heap.size y w.drew := h.drew
theorem keep10 {y w : World} {b7 b10 : Nat} {x u : Value} (h7 : y.cell? ⟨b7, 0, none⟩ = some x) (h10 : y.cell? ⟨b10, 0, none⟩ = some u) (l7 : b7 < y.heap.size) (l10 : b10 < y.heap.size) (h : Below y.heap.size y w) : w.cell? ⟨b7, 0, none⟩ = some x ∧ w.cell? ⟨b10, 0, none⟩ = some u ∧ Hid (Below y.heap.size y w) :=
  ⟨(h.cell (p := ⟨b7, 0, none⟩) l7).trans h7, (h.cell (p := ⟨b10, 0, none⟩) l10).trans h10, h⟩
theorem res_one {q : Nat} (hq : IsP q) : Res q [1] := fun i => by
  have := hq.1
  cases i with
  | zero => show 0 ≤ (1 : Int) ∧ (1 : Int) < q; omega
  | succ i => simp; omega
theorem frame_keep {w w' : World} {X A : List Int} {kl k : Nat} {v : Value} (hkk : ∀ g u l, Mine w g u l → (X ≠ [] → g ≠ kl) → Mine w' g u l) (hA : Mine w k v A) (hne : A ≠ [] → k ≠ kl) : SeesI w' v A := by
  by_cases h : A = []
  · subst h
    exact (hkk (kl + 1) v [] (hA.any _) (fun _ => by omega)).sees
  · exact (hkk k v A hA (fun _ => hne h)).sees
theorem two_boxes (w : World) (a b : Value) (t u : TypeId) : ∃ y, y = (w.alloc (.cells #[a] t)).alloc (.cells #[b] u) ∧ Below w.heap.size w y ∧ y.cell? ⟨w.heap.size, 0, none⟩ = some a ∧ y.cell? ⟨w.heap.size + 1, 0, none⟩ = some b ∧ y.frozen? ⟨w.heap.size, 0, none⟩ = false ∧ y.heap.size = w.heap.size + 2 := by
  refine ⟨_, rfl, ((Below.refl _ w).alloc (Nat.le_refl _) _).alloc (by simp) _, ?_, ?_, ?_, ?_⟩
  · simp [World.cell?_alloc_past, World.cell?_alloc_at]
  · simp [World.cell?_alloc_past, World.cell?_alloc_at]
  · have h : Below (w.alloc (.cells #[a] t)).heap.size (w.alloc (.cells #[a] t)) ((w.alloc (.cells #[a] t)).alloc (.cells #[b] u)) := (Below.refl _ _).alloc (Nat.le_refl _) _
    rw [h.frozen (by simp)]
    simp only [World.frozen?, Deep.blk_alloc_new]; rfl
  · simp

set_option maxRecDepth 100000 in
theorem none_Pow {vf : Value} {mo : Option Addr} {ml mc : Nat} {n p : Int} {w : World} (h1 : -9223372036854775808 ≤ p) (h2 : p < 9223372036854775808) (hp : isP p = false) :
    Calls Try.prog 33 #[vf, .int .i64 n, .slice mo ml mc, .int .i64 p] w fun e w' => e = .returned (.tuple #[.slice none 0 0, .int .i64 50]) ∧ Below w.heap.size w w' := by
  have IS := hidP (not_prime h1 h2 hp)
  obtain ⟨y, hy, hb, c6, c7, f6, hsz⟩ := two_boxes w (.slice mo ml mc) (.int .i64 p) 22 3
  have HY := hidP hy
  have HB := hidP hb
  clear h1 h2 hp hy hb c6 c7 f6 hsz
  go_enter Try.func33, Try.ntmps33
  go_wp2_with fail
  rw [← HY.out]
  refine (IS.out _).mono ?_
  rintro e w1 ⟨rfl, hb1⟩
  have B1 := hidP (step_below HB.out hb1)
  clear hb1
  go_wp2_with fail
  go_ret2
  exact ⟨rfl, B1.out⟩

set_option maxRecDepth 100000 in
theorem neg_Pow {vf : Value} {mo : Option Addr} {ml mc : Nat} {n : Int} {q : Nat} {w : World} (hn : n < 0) (hq : IsP q) :
    Calls Try.prog 33 #[vf, .int .i64 n, .slice mo ml mc, .int .i64 q] w fun e w' => e = .returned (.tuple #[.slice none 0 0, .int .i64 1]) ∧ Below w.heap.size w w' := by
  have IS := hidP (fun w => is_prime hq w)
  obtain ⟨y, hy, hb, c6, c7, f6, hsz⟩ := two_boxes w (.slice mo ml mc) (.int .i64 q) 22 3
  have HY := hidP hy
  have HB := hidP hb
  clear hq hy hb c6 c7 f6 hsz
  go_enter Try.func33, Try.ntmps33
  go_wp2_with fail
  rw [← HY.out]
  refine (IS.out _).mono ?_
  rintro e w1 ⟨rfl, hb1⟩
  have B1 := hidP (step_below HB.out hb1)
  clear hb1
  go_wp2_with fail
  go_ret2
  exact ⟨rfl, B1.out⟩

set_option maxRecDepth 100000 in
set_option maxHeartbeats 4000000 in
theorem mod_Pow {vf vm : Value} {n : Nat} {q : Nat} {f m : List Int} {w : World} (hf : SeesI w vf f) (hm : SeesI w vm m) (hn : n < 9223372036854775808) (hlf : f.length ≤ 16384) (hlm : m.length ≤ 16384) (hq : IsP q) :
    Calls Try.prog 33 #[vf, .int .i64 n, vm, .int .i64 q] w fun e w' =>
      (nf q m = [] ∧ e = .returned (.tuple #[.slice none 0 0, .int .i64 30]) ∧ Below w.heap.size w w') ∨
      (∃ v R, e = .returned (.tuple #[v, .int .i64 0]) ∧ SeesI w' v R ∧ RestIs q (ppow f n) m R ∧ Below w.heap.size w w') := by
  obtain ⟨hq0, hq2⟩ := isP_bounds hq
  have IS := hidP (fun w => is_prime hq w)
  have PF := plain_at hq hf (by omega)
  have PM := plain_at hq hm (by omega)
  have CM : Hid (∀ v k w, Mine w k v (nf q m) → Calls Try.prog 56 #[v, .int .i64 q] w fun e w' => ∃ v', e = .returned v' ∧ Mine w' k v' (mon q (nf q m)) ∧ w.grownBy w' (some k)) := fun v k w h => mod_monic h hq (nf_plain hq0 m)
  obtain ⟨mo, mc, rfl, hmc⟩ := SeesF.form hm
  have hmo := hidP (mon_mon hq (nf_plain hq0 m))
  obtain ⟨y, hy, hb, c6, c7, f6, hsz⟩ := two_boxes w (.slice mo m.length mc) (.int .i64 q) 22 3
  have HY := hidP hy
  have HB := hidP hb
  have HSz := hidP hsz
  have n0 : ¬ (n : Int) < 0 := by omega
  have hQ := hidP hq
  clear hf hm hy hb hsz
  obtain ⟨b6, h6⟩ : ∃ b, b = w.heap.size := ⟨_, rfl⟩
  obtain ⟨b7, h7⟩ : ∃ b, b = w.heap.size + 1 := ⟨_, rfl⟩
  rw [← h6] at c6 f6
  rw [← h7] at c7
  have H6 := hidP h6
  have H7 := hidP h7
  clear h6 h7 hq
  go_enter Try.func33, Try.ntmps33
  go_wp2_with fail
  rw [← HY.out, ← H7.out, ← H6.out]
  refine (IS.out _).mono ?_
  rintro e w1 ⟨rfl, hb1⟩
  have hy6 : b6 < y.heap.size := by rw [HSz.out, H6.out]; omega
  have hy7 : b7 < y.heap.size := by rw [HSz.out, H7.out]; omega
  have d6 := (hb1.cell (p := ⟨b6, 0, none⟩) hy6).trans c6
  have d7 := (hb1.cell (p := ⟨b7, 0, none⟩) hy7).trans c7
  have g6 := (hb1.frozen (p := ⟨b6, 0, none⟩) hy6).trans f6
  have L6 : Hid (b6 < w1.heap.size) := Nat.lt_of_lt_of_le hy6 hb1.size
  have L7 : Hid (b7 < w1.heap.size) := Nat.lt_of_lt_of_le hy7 hb1.size
  have B1 := hidP (step_below HB.out hb1)
  clear hb1 c6 c7 f6 hy6 hy7
  go_upto_region 5 with fail
  go_cut [] from 17 (fun wx => Hid (∃ a3 L c3 g2, wx.cell? ⟨b6, 0, none⟩ = some (.slice a3 L c3) ∧ wx.cell? ⟨b7, 0, none⟩ = some (.int .i64 q) ∧ Below w.heap.size w wx ∧ Mine wx g2 (.slice a3 L c3) (mon q (nf q m)) ∧ b6 < wx.heap.size ∧ b7 < wx.heap.size ∧ L = (nf q m).length ∧ (mon q (nf q m)).length = L))
  case first =>
    have HD := hidP ((Below.refl w1.heap.size w1).drew)
    go_region_with (first
      | (go_at_call 57
         refine (PM.out _ B1.out.drew).mono ?_
         rintro e w2 ⟨v2, g2, rfl, hg2, hm2, hb2⟩
         have B2 := hidP (step_below B1.out.drew hb2)
         have i7 := (hb2.cell (p := ⟨b7, 0, none⟩) L7.out).trans d7
         have hG2 : Hid (w1.heap.size ≤ g2) := hg2
         have BB2 : Hid (Below w1.heap.size w1 w2) := step_below HD.out hb2
         have CM2 := hidP (CM.out v2 g2 w2 hm2)
         clear hg2 hm2 hb2)
      | (go_at_call 56
         refine CM2.out.mono ?_
         rintro e w3 ⟨v3, rfl, hm3, hgr3⟩
         have BB3 := hidP (below_in BB2.out hgr3 hG2.out)
         have B3 := hidP (step_below B1.out BB3.out)
         have j7 := (BB3.out.cell (p := ⟨b7, 0, none⟩) L7.out).trans d7
         have j6 := (BB3.out.cell (p := ⟨b6, 0, none⟩) L6.out).trans d6
         have k6 := (BB3.out.frozen (p := ⟨b6, 0, none⟩) L6.out).trans g6
         obtain ⟨a3, c3, e3, hc3⟩ := SeesF.form hm3.sees
         subst e3
         have HM3 := hidP hm3
         clear hm3 hgr3))
    all_goals
      obtain ⟨L, hL⟩ : ∃ L, (mon q (nf q m)).length = L := ⟨_, rfl⟩
      rw [hL]
      rw [hL] at HM3
      obtain ⟨Y5, hY5⟩ : ∃ Y, Y = w3.setCell ⟨b6, 0, none⟩ (.slice a3 L c3) := ⟨_, rfl⟩
      have s6 : Y5.cell? ⟨b6, 0, none⟩ = some (.slice a3 L c3) := by rw [hY5]; exact cell?_setCell_self j6
      have s7 : Y5.cell? ⟨b7, 0, none⟩ = some (.int .i64 q) := by rw [hY5]; exact (World.cell?_of_block (w := w3) (Below.heap_setCell w3 _ _ b7 (by show b7 ≠ b6; have := H6.out; have := H7.out; omega))).trans j7
      have HB5 : Hid (Below w.heap.size w Y5) := by show Below _ _ _; rw [hY5]; exact B3.out.setCell (by show w.heap.size ≤ b6; rw [H6.out]; exact Nat.le_refl _) _
      have HM5 : Hid (Mine Y5 g2 (.slice a3 L c3) (mon q (nf q m))) := by
        show Mine _ _ _ _
        rw [hY5]
        obtain ⟨ao, cap, z1, z2, z3, z4, z5⟩ := HM3.out
        exact ⟨ao, cap, z1, z2, z3, z4, fun hp => ⟨(z5 hp).1, (z5 hp).2.of_block (Below.heap_setCell w3 _ _ g2 (by show g2 ≠ b6; have := hG2.out; have := L6.out; omega))⟩⟩
      have HS5 : Hid (b6 < Y5.heap.size ∧ b7 < Y5.heap.size) := by
        show _ ∧ _
        have h1 := BB3.out.size
        have h2 := L6.out
        have h3 := L7.out
        rw [hY5, Deep.nblk_setCell]; omega
      rw [← hY5]
      have HREL : Hid (∃ a3 L c3 g2, Y5.cell? ⟨b6, 0, none⟩ = some (.slice a3 L c3) ∧ Y5.cell? ⟨b7, 0, none⟩ = some (.int .i64 q) ∧ Below w.heap.size w Y5 ∧ Mine Y5 g2 (.slice a3 L c3) (mon q (nf q m)) ∧ b6 < Y5.heap.size ∧ b7 < Y5.heap.size ∧ L = (nf q m).length ∧ (mon q (nf q m)).length = L) := ⟨a3, L, c3, g2, s6, s7, HB5.out, HM5.out, HS5.out.1, HS5.out.2, hL.symm.trans hmo.out.2, hL⟩
      clear hY5 j6 j7 k6 i7 d6 d7 g6 HM3 BB3 BB2 B3 B2 CM2 CM hL s6 s7 HB5 HM5 HS5
      go_wp2_with fail
      go_meet
      case rel => exact HREL
  case rest =>
    obtain ⟨a3, L, c3, g2, s6, s7, hB5, hM5, hs1, hs2, hLe, hLm⟩ := hcut.out
    clear hcut
    obtain ⟨Y5, hY5⟩ : ∃ Y5, Y5 = wc := ⟨_, rfl⟩
    rw [← hY5] at s6 s7 hB5 hM5 hs1 hs2 ⊢
    clear hY5 d6 d7 g6 CM
    have HB5 := hidP hB5
    have HM5 := hidP hM5
    have HS5 := hidP (And.intro hs1 hs2)
    have HLe := hidP hLe
    have HLm := hidP hLm
    clear hB5 hM5 hs1 hs2 hLe hLm
    by_cases h0 : L = 0
    · subst h0
      have HZ : Hid (nf q m = []) := List.eq_nil_of_length_eq_zero HLe.out.symm
      go_wp2_with fail
      go_ret2
      exact Or.inl ⟨HZ.out, rfl, HB5.out⟩
    · have HNZ : Hid (nf q m ≠ []) := List.length_pos_iff.1 (by have := HLe.out; omega)
      have hb0 : ((L : Int) == 0) = false := by rw [beq_eq_false_iff_ne]; omega
      have HBa : Below Y5.heap.size Y5 (Y5.alloc (.cells #[.func (.func 61) #[] #[.pointer (some ⟨b6, 0, none⟩), .pointer (some ⟨b7, 0, none⟩)]] 40)) := (Below.refl _ Y5).alloc (Nat.le_refl _) _
      have t10 : (Y5.alloc (.cells #[.func (.func 61) #[] #[.pointer (some ⟨b6, 0, none⟩), .pointer (some ⟨b7, 0, none⟩)]] 40)).cell? ⟨Y5.heap.size, 0, none⟩ = some (.func (.func 61) #[] #[.pointer (some ⟨b6, 0, none⟩), .pointer (some ⟨b7, 0, none⟩)]) := by rw [World.cell?_alloc_at _ _ _ _ rfl]; rfl
      have hY6s : (Y5.alloc (.cells #[.func (.func 61) #[] #[.pointer (some ⟨b6, 0, none⟩), .pointer (some ⟨b7, 0, none⟩)]] 40)).heap.size = Y5.heap.size + 1 := by simp
      obtain ⟨Y6, hY6⟩ : ∃ Y, Y = Y5.alloc (.cells #[.func (.func 61) #[] #[.pointer (some ⟨b6, 0, none⟩), .pointer (some ⟨b7, 0, none⟩)]] 40) := ⟨_, rfl⟩
      rw [← hY6] at HBa t10 hY6s
      obtain ⟨b10, h10⟩ : ∃ b, b = Y5.heap.size := ⟨_, rfl⟩
      rw [← h10] at t10
      have t7 := (HBa.cell (p := ⟨b7, 0, none⟩) HS5.out.2).trans s7
      have t6 := (HBa.cell (p := ⟨b6, 0, none⟩) HS5.out.1).trans s6
      have HE : Hid (Env q m Y6.heap.size b6 b7 b10 Y6) := ⟨t7, t10, ⟨_, g2, t6, HM5.out.below HBa, by have := HM5.out.lt (List.length_pos_iff.1 (by have := HLm.out; omega)); omega⟩, by have := HS5.out.1; omega, by have := HS5.out.2; omega, by omega, Nat.le_refl _⟩
      have B6 := hidP (step_below HB5.out HBa)
      have L7' : Hid (b7 < Y6.heap.size) := by have := HS5.out.2; show _ < _; omega
      have L10 : Hid (b10 < Y6.heap.size) := by show _ < _; omega
      have H10 := hidP h10
      have HY6 := hidP hY6
      have CR : Hid (∀ w1 k v X, Below Y6.heap.size Y6 w1 → Y6.heap.size ≤ k → Mine w1 k v X → Res q X → X.length ≤ 65536 → Calls Try.prog 61 #[v, .pointer (some ⟨b6, 0, none⟩), .pointer (some ⟨b7, 0, none⟩)] w1 fun e w' => ∃ v' R, e = .returned v' ∧ Mine w' k v' R ∧ RestIs q X m R ∧ (X = [] → R = []) ∧ Below Y6.heap.size w1 w' ∧ ∀ g u l, Mine w1 g u l → (X ≠ [] → g ≠ k) → Mine w' g u l) :=
        fun w1 k v X h1 h2 h3 h4 h5 => rest_op (HE.out.below h1) h3 h2 h4 hQ.out HNZ.out h5 (by omega)
      have CW : Hid (∀ w1 va vo A O, Below Y6.heap.size Y6 w1 → SeesI w1 va A → SeesI w1 vo O → RestIs q (nf q f) m A → RestIs q [1] m O → Calls Try.prog 65 #[va, .int .i64 n, vo, .func (.func 63) #[] #[.pointer (some ⟨b10, 0, none⟩), .pointer (some ⟨b7, 0, none⟩)]] w1 fun e w' => ∃ v' R, e = .returned v' ∧ SeesI w' v' R ∧ RestIs q (ppow f n) m R ∧ Below w1.heap.size w1 w') :=
        fun w1 va vo A O h1 h2 h3 h4 h5 => pow_list hQ.out HNZ.out hlm ⟨((nf_E q f).symm.m m).trans h4.eq, h4.pr, h4.lt⟩ h5 n n va vo w1 (Nat.le_refl _) hn (HE.out.below h1) h2 h3
      have HLf : Hid ((nf q f).length ≤ 65536) := by have := nf_len q f; show _ ≤ _; omega
      have HRf := hidP (res_nf hq0 f)
      clear HBa t6 hY6s h10 hY6 HE HM5 HS5 HLe HLm h0
      go_wp2_with fail
      rw [← H10.out, ← HY6.out]
      have HD := hidP ((Below.refl Y6.heap.size Y6).drew)
      go_region_held3 (fun w' => w'.cell? ⟨b7, 0, none⟩ = some (.int .i64 q) ∧ w'.cell? ⟨b10, 0, none⟩ = some (.func (.func 61) #[] #[.pointer (some ⟨b6, 0, none⟩), .pointer (some ⟨b7, 0, none⟩)]) ∧ Hid (Below Y6.heap.size Y6 w')) (first | exact ⟨by assumption, by assumption, by assumption⟩ | (refine keep10 t7 t10 L7'.out L10.out ?_; repeat' (first | with_reducible exact HD.out | with_reducible exact hbx.out | with_reducible exact hby.out | with_reducible exact hbz.out | with_reducible exact hbf.out | with_reducible exact Below.refl _ _ | with_reducible refine below_al ?_ _ | with_reducible refine below_dr ?_))) (first
        | (go_at_call 57
           refine (PF.out _ (step_below B6.out (by repeat' (first | with_reducible exact HD.out | with_reducible exact hbx.out | with_reducible exact hby.out | with_reducible exact hbz.out | with_reducible exact hbf.out | with_reducible exact Below.refl _ _ | with_reducible refine below_al ?_ _ | with_reducible refine below_dr ?_)))).mono ?_
           rintro e wx ⟨v1, k1, rfl, hk1, hm1, hb1⟩
           have HK1 : Hid (Y6.heap.size ≤ k1) := by refine Nat.le_trans (Below.size (B := Y6.heap.size) (w := Y6) ?_) hk1; repeat' (first | with_reducible exact HD.out | with_reducible exact hbx.out | with_reducible exact hby.out | with_reducible exact hbz.out | with_reducible exact hbf.out | with_reducible exact Below.refl _ _ | with_reducible refine below_al ?_ _ | with_reducible refine below_dr ?_)
           have hbx : Hid (Below Y6.heap.size Y6 wx) := by refine step_below ?_ hb1; repeat' (first | with_reducible exact HD.out | with_reducible exact hbx.out | with_reducible exact hby.out | with_reducible exact hbz.out | with_reducible exact hbf.out | with_reducible exact Below.refl _ _ | with_reducible refine below_al ?_ _ | with_reducible refine below_dr ?_)
           obtain ⟨x7, x10, -⟩ := keep10 t7 t10 L7'.out L10.out hbx.out
           first | (have ML := hidP (lit_then hb1 hk1)) | (have ML := hidP (lit_then_d hb1 hk1)) | skip
           have HM1 := hidP hm1
           clear hk1 hm1 hb1)
        | (go_at_call_of 61 v1
           refine (CR.out _ k1 v1 (nf q f) (by repeat' (first | with_reducible exact HD.out | with_reducible exact hbx.out | with_reducible exact hby.out | with_reducible exact hbz.out | with_reducible exact hbf.out | with_reducible exact Below.refl _ _ | with_reducible refine below_al ?_ _ | with_reducible refine below_dr ?_)) HK1.out (by first | with_reducible exact HM1.out | exact HM1.out.below ((Below.refl _ wx).alloc (Nat.le_refl _) _)) HRf.out HLf.out).mono ?_
           rintro e wy ⟨v2', A, rfl, hs2, hr2, hn2, hb2, hkk⟩
           have hby : Hid (Below Y6.heap.size Y6 wy) := by refine Below.trans ?_ hb2; repeat' (first | with_reducible exact HD.out | with_reducible exact hbx.out | with_reducible exact hby.out | with_reducible exact hbz.out | with_reducible exact hbf.out | with_reducible exact Below.refl _ _ | with_reducible refine below_al ?_ _ | with_reducible refine below_dr ?_)
           obtain ⟨y7, y10, -⟩ := keep10 t7 t10 L7'.out L10.out hby.out
           have hA1 : A ≠ [] → k1 < wx.heap.size := fun h => HM1.out.lt (fun e => h (hn2 e))
           have HMA := hidP hs2
           have HRA := hidP hr2
           first | (have ML2 := hidP (And.intro (hkk _ _ _ ML.out.1 (fun _ => ML.out.2)) (fun (h : A ≠ []) => ML.out.2.symm))) | (have ML2 := hidP (And.intro (hkk _ _ _ (lit_at wx) (fun h => (Nat.ne_of_lt (HM1.out.lt h)).symm)) (fun (h : A ≠ []) => Nat.ne_of_lt (hA1 h)))) | skip
           clear hs2 hr2 hb2 hkk HM1 hA1 hn2)
        | (go_at_call 61
           first
           | (refine (CR.out _ _ _ [1] (by repeat' (first | with_reducible exact HD.out | with_reducible exact hbx.out | with_reducible exact hby.out | with_reducible exact hbz.out | with_reducible exact hbf.out | with_reducible exact Below.refl _ _ | with_reducible refine below_al ?_ _ | with_reducible refine below_dr ?_)) (by first | exact Nat.le_refl _ | exact hbx.out.size) ML2.out.1 (res_one hQ.out) (by simp)).mono ?_
              rintro e wz ⟨v3', O, rfl, hs3, hr3, -, hb3, hkk3⟩
              have HSA := hidP (frame_keep hkk3 HMA.out ML2.out.2)
              have hbz : Hid (Below Y6.heap.size Y6 wz) := by refine Below.trans ?_ hb3; repeat' (first | with_reducible exact HD.out | with_reducible exact hbx.out | with_reducible exact hby.out | with_reducible exact hbz.out | with_reducible exact hbf.out | with_reducible exact Below.refl _ _ | with_reducible refine below_al ?_ _ | with_reducible refine below_dr ?_)
              have HSO := hidP hs3.sees
              have HRO := hidP hr3
              clear hs3 hr3 hb3 hkk3 HMA)
           | (refine (CR.out _ _ _ [1] (by repeat' (first | with_reducible exact HD.out | with_reducible exact hbx.out | with_reducible exact hby.out | with_reducible exact hbz.out | with_reducible exact hbf.out | with_reducible exact Below.refl _ _ | with_reducible refine below_al ?_ _ | with_reducible refine below_dr ?_)) (by exact hby.out.size) (lit_at wy) (res_one hQ.out) (by simp)).mono ?_
              rintro e wz ⟨v3', O, rfl, hs3, hr3, -, hb3, hkk3⟩
              have HSA := hidP (frame_keep hkk3 (HMA.out.below ((Below.refl _ wy).alloc (Nat.le_refl _) _)) (fun h => Nat.ne_of_lt (HMA.out.lt h)))
              have hbz : Hid (Below Y6.heap.size Y6 wz) := by refine Below.trans ?_ hb3; repeat' (first | with_reducible exact HD.out | with_reducible exact hbx.out | with_reducible exact hby.out | with_reducible exact hbz.out | with_reducible exact hbf.out | with_reducible exact Below.refl _ _ | with_reducible refine below_al ?_ _ | with_reducible refine below_dr ?_)
              have HSO := hidP hs3.sees
              have HRO := hidP hr3
              clear hs3 hr3 hb3 hkk3 HMA)
           obtain ⟨z7, z10, -⟩ := keep10 t7 t10 L7'.out L10.out hbz.out)
        | (go_at_call 65
           refine (CW.out _ v2' v3' A O (by repeat' (first | with_reducible exact HD.out | with_reducible exact hbx.out | with_reducible exact hby.out | with_reducible exact hbz.out | with_reducible exact hbf.out | with_reducible exact Below.refl _ _ | with_reducible refine below_al ?_ _ | with_reducible refine below_dr ?_)) HSA.out HSO.out HRA.out HRO.out).mono ?_
           rintro e wf ⟨v4, R, rfl, hs4, hr4, hb4⟩
           have hbf : Hid (Below Y6.heap.size Y6 wf) := by refine step_below ?_ hb4; repeat' (first | with_reducible exact HD.out | with_reducible exact hbx.out | with_reducible exact hby.out | with_reducible exact hbz.out | with_reducible exact hbf.out | with_reducible exact Below.refl _ _ | with_reducible refine below_al ?_ _ | with_reducible refine below_dr ?_)
           obtain ⟨f7, f10, -⟩ := keep10 t7 t10 L7'.out L10.out hbf.out
           have HSF := hidP hs4
           have HRF := hidP hr4
           clear hs4 hr4 hb4))
      all_goals
        go_wp2_with fail
        go_ret2
        exact Or.inr ⟨_, _, rfl, HSF.out, HRF.out, step_below B6.out hbf.out⟩
end Go.Proofs.Ytokdcgmjpnanoaa
