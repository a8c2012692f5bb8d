/- The document's fixed by its contract. -/
import Derived.Test.YtokdcgmjpnanoaaSuE
import Derived.BigRegion
import Derived.Deep.RegionLaw
import Derived.StillTailTactics

set_option linter.unusedVariables false
set_option linter.unusedSimpArgs false
namespace Go.Proofs.Ytokdcgmjpnanoaa
open Go.RowKit

def FixedTells (q : Nat) (f : List Int) (w : World) (e : Ending) (w' : World) : Prop := ∃ v b, e = .returned (.tuple #[v, .bool b]) ∧
  (b = true → ∃ l, SeesI w' v l ∧ M q f (ppow l q) l ∧ 2 ≤ l.length ∧ l.length < f.length ∧ Plain q l) ∧ (b = false → ∀ u, M q f (ppow u q) u → ∃ c, M q f u [c]) ∧ Below w.heap.size w w'
def Rng (q n : Nat) (m : Nat → Nat → Int) : Prop := ∀ j l, j < n → l < n → 0 ≤ m j l ∧ m j l < (q : Int)
theorem swM_rng {q n a u i : Nat} {m : Nat → Nat → Int} (h : Rng q n m) (ha : a < n) (hu : u < n) : Rng q n (swM m a u i) := fun j l hj hl => by
  unfold swM
  split
  · split
    · exact h _ _ hj hu
    · split
      · exact h _ _ hj ha
      · exact h _ _ hj hl
  · exact h _ _ hj hl
theorem scM_rng {q n u i : Nat} {iv : Int} {m : Nat → Nat → Int} (hq : 0 < q) (h : Rng q n m) : Rng q n (scM q m u iv i) := fun j l hj hl => by
  unfold scM
  split
  · exact ⟨Int.emod_nonneg _ (by omega), Int.emod_lt_of_pos _ (by omega)⟩
  · exact h _ _ hj hl
theorem prod_wrap {q : Nat} {x y : Int} (hq : q < 2147483648) (hx : 0 ≤ x ∧ x < q) (hy : 0 ≤ y ∧ y < q) : 0 ≤ x * y ∧ x * y < 4611686018427387904 := by
  refine ⟨Int.mul_nonneg hx.1 hy.1, ?_⟩
  have h1 : x * y ≤ 2147483647 * 2147483647 := Int.mul_le_mul (by omega) (by omega) hy.1 (by omega)
  omega
theorem lsR_stop {w0 w : World} {gm cm gl n q c u k : Nat} {G : Nat → Nat} {lead : Nat → Int} {m : Nat → Nat → Int} (h : FixSt w0 gm cm gl n G w lead (lsR q m c u k 0)) : FixSt w0 gm cm gl n G w lead (lsM q m c u k) :=
  h.congr fun j l hj hl => by
    unfold lsR
    by_cases e : l = k
    · subst e; rw [if_pos rfl, if_neg (by omega), lsM, if_neg (by omega)]
    · rw [if_neg e]
/-- What is told behind k places. -/
def SolTo (q : Nat) (w : World) (gv n free : Nat) (lead : Nat → Int) (m : Nat → Nat → Int) (k : Nat) : Prop := ∃ l, RowW w gv l ∧ l.length = n ∧ ∀ j, j < n → l.getD j 0 = if j < k ∧ 0 ≤ lead j then (-(m free (lead j).toNat)) % (q : Int) else if j = free then 1 else 0
theorem SolTo.skip {q : Nat} {w : World} {gv n free k : Nat} {lead : Nat → Int} {m : Nat → Nat → Int} (h : SolTo q w gv n free lead m k) (hk : ¬ 0 ≤ lead k) : SolTo q w gv n free lead m (k + 1) := by
  obtain ⟨l, h1, h2, h3⟩ := h
  refine ⟨l, h1, h2, fun j hj => ?_⟩
  have hc : (j < k + 1 ∧ 0 ≤ lead j) ↔ (j < k ∧ 0 ≤ lead j) := by
    constructor
    · rintro ⟨a, b⟩
      refine ⟨?_, b⟩
      by_cases e : j = k
      · subst e; exact absurd b hk
      · omega
    · rintro ⟨a, b⟩; exact ⟨by omega, b⟩
  simp only [hc]
  exact h3 j hj
theorem SolTo.put {q : Nat} {w : World} {gv n free k : Nat} {lead : Nat → Int} {m : Nat → Nat → Int} (h : SolTo q w gv n free lead m k) (hk : k < n) (hl : 0 ≤ lead k) : SolTo q (w.setCell ⟨gv, k, none⟩ (.int .i64 ((-(m free (lead k).toNat)) % (q : Int)))) gv n free lead m (k + 1) := by
  obtain ⟨l, h1, h2, h3⟩ := h
  refine ⟨l.set k _, h1.set (by omega) _, by simpa using h2, fun j hj => ?_⟩
  rw [getD_setG, h2]
  by_cases e : k = j
  · subst e; rw [if_pos ⟨rfl, hj⟩, if_pos ⟨by omega, hl⟩]
  · have hc : (j < k + 1 ∧ 0 ≤ lead j) ↔ (j < k ∧ 0 ≤ lead j) := by
      constructor
      · rintro ⟨a, b⟩; exact ⟨by omega, b⟩
      · rintro ⟨a, b⟩; exact ⟨by omega, b⟩
    rw [if_neg (fun z => e z.1)]
    simp only [hc]
    exact h3 j hj
theorem SolTo.below {q : Nat} {w w' : World} {gv n free k : Nat} {lead : Nat → Int} {m : Nat → Nat → Int} (h : SolTo q w gv n free lead m k) (hb : Below w.heap.size w w') : SolTo q w' gv n free lead m k := by
  obtain ⟨l, h1, h2, h3⟩ := h; exact ⟨l, h1.below hb, h2, h3⟩

set_option maxRecDepth 100000 in
set_option maxHeartbeats 8000000 in
theorem ref_fixed {vf : Value} {q n : Nat} {F : List Int} {w : World} (hf : SeesI w vf F) (hFl : F.length = n + 1) (hn1 : 1 ≤ n) (hn : n ≤ 60) (hq : IsP q) (mF : Mo q F) :
    Calls Try.prog 51 #[vf, .int .i64 q] w fun e w' => FixedTells q F w e w' := by
  obtain ⟨hq0, hq2⟩ := isP_bounds hq
  have C1 := hidP (ref_rows hf hFl hn1 hn hq mF)
  have HQ := hidP hq
  have HM := hidP mF
  have HFn := hidP hFl
  have CR : Hid (∀ (z : Int) w, Calls Try.prog 83 #[.int .i64 z, .int .i64 q] w fun e w' => e = .returned (.int .i64 (z % (q : Int))) ∧ w = w') := fun z w => ref_rest_eq z q (by omega) (by omega) w
  have hmk := run_make_row' (P := Try.prog) 22 3 (.int .i64 0) 8 Try.underlying22 info_int rfl .i64 .i64 n (by omega) (by omega)
  clear hf hq mF hFl
  go_enter Try.func51, Try.ntmps51
  go_upto_region 2 with fail
  refine C1.out.mono ?_
  rintro e w1 ⟨vm, G, m0, rfl, hM, hrs, hb1⟩
  obtain ⟨gm, cm, rfl, hcm⟩ := hM.isRow (by omega)
  have HRs := hidP hrs
  obtain ⟨gl, hgl⟩ : ∃ gl, gl = w1.heap.size := ⟨_, rfl⟩
  have HGl := hidP hgl
  obtain ⟨Y, hY⟩ : ∃ Y, Y = w1.alloc (.cells (madeCells #[.int .i64 0] n) 3) := ⟨_, rfl⟩
  have HY := hidP hY
  have hbY : Below w1.heap.size w1 Y := by rw [hY]; exact (Below.refl _ w1).alloc (Nat.le_refl _) _
  have HX0 : Hid (∃ lead m, FixSt w gm cm gl n G Y lead m ∧ Ech q n 0 0 0 lead m0 m) := by
    refine ⟨fun _ => 0, m0, ⟨hM.below hbY, ⟨List.replicate n 0, by rw [hY, hgl]; exact RowW.made w1 n, List.length_replicate, fun r hr => by rw [List.getD_eq_getElem?_getD, List.getElem?_replicate, if_pos hr]; rfl⟩, by rw [hgl]; exact hb1.size, ?_, fun j hj => ?_, step_below hb1 hbY⟩, Ech.start (fun i k hi hk => (hrs i hi).rng k hk) (fun k hk => (hrs 0 (by omega)).zero rfl k hk)⟩
    · rw [hgl]; have := (hM.own.lt gm rfl).2; omega
    · rw [hgl]; have := hM.lt hj; omega
  clear hM hrs hb1 hgl hY hbY C1
  go_wp2_with fail
  rw [← HGl.out, ← HY.out]
  go_loopg [9, 10, 11, 12, 13, 14, 15, 16, 17, 18, 19] n (fun gz v9 v10 v11 v12 v13 v14 v15 v16 v17 v18 v19 wr => ∃ c used free : Nat, v9 = .int .i64 used ∧ v10 = .int .i64 free ∧ v11 = .int .i64 c ∧ c ≤ n ∧ used ≤ c ∧ free ≤ n ∧ Hid (n - c = gz) ∧ Hid (∃ lead m, FixSt w gm cm gl n G wr lead m ∧ Ech q n c used free lead m0 m))
  case atStart => exact ⟨0, 0, 0, rfl, rfl, rfl, Nat.zero_le _, Nat.le_refl _, Nat.zero_le _, rfl, HX0⟩
  case round =>
    clear HX0 HGl HY
    obtain ⟨c, used, free, rfl, rfl, rfl, hcn, huc, hfn, hgz, hX⟩ := hrel
    obtain ⟨wo, rfl⟩ : ∃ wo, wo = wr := ⟨_, rfl⟩
    by_cases hc : c < n
    · obtain ⟨lead, m, hS, hE⟩ := hX.out
      have HE := hidP hE
      have HRg : Hid (Rng q n m) := fun j l hj hl => hE.rng j l hj hl
      obtain ⟨lc, lf⟩ := hS.lcell hc
      obtain ⟨W1, hW1⟩ : ∃ W1, W1 = wo.setCell ⟨gl, c, none⟩ (.int .i64 (-1)) := ⟨_, rfl⟩
      have HW1 := hidP hW1
      have hS1 := hS.lput hc (-1)
      obtain ⟨lead1, hl1⟩ : ∃ l1 : Nat → Int, l1 = fun j => if j = c then -1 else lead j := ⟨_, rfl⟩
      have HL1 := hidP hl1
      rw [← hW1, ← hl1] at hS1
      have HS1 := hidP hS1
      have p1 : (c : Int) < (n : Int) := by omega
      have z0 : 0 + c = c := Nat.zero_add c
      have q1 : IntKind.i64.wrap ((c : Int) + 1) = (c : Int) + 1 := by rw [IntKind.wrap_i64]; omega
      have hun : used < n := by omega
      clear hX hS hE hW1 hl1 hS1
      go_wp2_with fail
      rw [← HW1.out]
      clear HW1 lc lf
      go_loopg [12, 13] (n - used) (fun g2 v12 v13 wy => ∃ (k : Nat) (z : Int), v12 = .int .i64 z ∧ v13 = .int .i64 k ∧ k ≤ n ∧ used ≤ k ∧ wy = W1 ∧ Hid (n - k = g2) ∧ Hid ((z = -1 ∧ ∀ k', used ≤ k' → k' < k → m c k' = 0) ∨ ∃ a : Nat, z = (a : Int) ∧ used ≤ a ∧ a < n ∧ m c a ≠ 0))
      case atStart => exact ⟨used, -1, rfl, rfl, by omega, Nat.le_refl _, rfl, rfl, Or.inl ⟨rfl, fun k' a b => by omega⟩⟩
      case round =>
        obtain ⟨k, z, rfl, rfl, hk, huk, rfl, hg2, hz⟩ := hrel
        rcases hz.out with ⟨rfl, hz2⟩ | ⟨a, rfl, ha1, ha2, ha3⟩
        · by_cases hkn : k < n
          · obtain ⟨t1, t2, t3⟩ := HS1.out.at_ hc hkn
            have q2 : IntKind.i64.wrap ((k : Int) + 1) = (k : Int) + 1 := by rw [IntKind.wrap_i64]; omega
            have p2 : (k : Int) < (n : Int) := by omega
            have z1 : 0 + k = k := Nat.zero_add k
            have HZ2 := hidP hz2
            obtain ⟨x, hx⟩ : ∃ x, m c k = x := ⟨_, rfl⟩
            have HX := hidP hx
            obtain ⟨gc, hgc⟩ : ∃ gc, G c = gc := ⟨_, rfl⟩
            rw [hx, hgc] at t2
            rw [hgc] at t1
            clear hz hz2 hx t3 hgc
            by_cases hx0 : x = 0
            · subst hx0
              have HN : Hid (∀ k', used ≤ k' → k' < k + 1 → m c k' = 0) := fun k' a b => by
                by_cases e : k' = k
                · subst e; exact HX.out
                · exact HZ2.out k' a (by omega)
              go_wp2_with fail
              go_roundg (n - (k + 1))
              case rel => exact ⟨k + 1, -1, rfl, by go_num, by omega, by omega, rfl, rfl, Or.inl ⟨rfl, HN.out⟩⟩
              case measure => have := hg2.out; omega
            · have hxb : (x != 0) = true := by simpa using hx0
              have HN : Hid (m c k ≠ 0) := by show _ ≠ _; rw [HX.out]; exact hx0
              go_wp2_with fail
              go_roundg (n - (k + 1))
              case rel => exact ⟨k + 1, k, rfl, by go_num, by omega, by omega, rfl, rfl, Or.inr ⟨k, rfl, huk, hkn, HN.out⟩⟩
              case measure => have := hg2.out; omega
          · obtain rfl : k = n := by omega
            have HX' : Hid (∃ lead m, FixSt w gm cm gl k G wr lead m ∧ Ech q k (c + 1) used c lead m0 m) := ⟨lead1, m, HS1.out, HE.out.skip hc hz2 (fun r => by rw [HL1.out])⟩
            have p3 : ¬ (k : Int) < (k : Int) := by omega
            have HG : Hid (k - (c + 1) < k - c) := by show _ < _; omega
            clear hz hz2 HE HS1
            go_wp2_with fail
            go_roundg (k - (c + 1))
            case rel => exact ⟨c + 1, used, c, rfl, rfl, by go_num, by omega, by omega, by omega, rfl, HX'⟩
            case measure => have := hgz.out; have := HG.out; omega
        · have HMa := hidP ha3
          have p3 : ¬ (a : Int) < 0 := by omega
          have HE2 := hidP HE.out
          clear hz hg2 ha3
          rcases Nat.lt_or_ge k n with hkn | hkn
          all_goals
            first | (have p4 : (k : Int) < (n : Int) := by omega) | (have p4 : ¬ (k : Int) < (n : Int) := by omega)
            have HF0 : Hid (FixSt w gm cm gl n G wr lead1 (swM m a used 0)) := swM_zero HS1.out a used
            clear HS1
            go_wp2_with fail
            go_loopg [14] n (fun g3 v14 wy => ∃ i : Nat, v14 = .int .i64 i ∧ i ≤ n ∧ Hid (n - i = g3) ∧ Hid (FixSt w gm cm gl n G wy lead1 (swM m a used i)))
            case atStart => exact ⟨0, rfl, Nat.zero_le _, rfl, HF0⟩
            case round =>
              clear HF0
              obtain ⟨i, rfl, hi, hg3, hF⟩ := hrel
              by_cases hin : i < n
              · obtain ⟨t1, t2, t3⟩ := hF.out.at_ hin hun
                obtain ⟨-, s2, s3⟩ := hF.out.at_ hin ha2
                have v1 : swM m a used i i used = m i used := by unfold swM; rw [if_neg (by omega)]
                have v2 : swM m a used i i a = m i a := by unfold swM; rw [if_neg (by omega)]
                rw [v1] at t2
                rw [v2] at s2
                have HW := hidP (swM_next hF.out hin ha2 hun)
                have t4 : (wr.setCell ⟨G i, a, none⟩ (.int .i64 (m i used))).cell? ⟨G i, used, none⟩ = some (.int .i64 (m i used)) := by
                  have h := ((hF.out.put hin ha2 (m i used)).at_ hin hun).2.1
                  rw [h]
                  split
                  · rfl
                  · rw [v1]
                have t5 : (wr.setCell ⟨G i, a, none⟩ (.int .i64 (m i used))).frozen? ⟨G i, used, none⟩ = false := ((hF.out.put hin ha2 (m i used)).at_ hin hun).2.2
                obtain ⟨x, hx⟩ : ∃ x, m i used = x := ⟨_, rfl⟩
                obtain ⟨y, hy⟩ : ∃ y, m i a = y := ⟨_, rfl⟩
                obtain ⟨gi, hgi⟩ : ∃ gi, G i = gi := ⟨_, rfl⟩
                rw [hx, hy, hgi] at HW
                rw [hx, hgi] at t2 t4 t5
                rw [hy, hgi] at s2
                rw [hgi] at t1 t3 s3
                have q2 : IntKind.i64.wrap ((i : Int) + 1) = (i : Int) + 1 := by rw [IntKind.wrap_i64]; omega
                have p2 : (i : Int) < (n : Int) := by omega
                have p5 : (used : Int) < (n : Int) := by omega
                have p6 : (a : Int) < (n : Int) := by omega
                have z1 : 0 + i = i := Nat.zero_add i
                have z2 : 0 + a = a := Nat.zero_add a
                have z3 : 0 + used = used := Nat.zero_add used
                clear hF v1 v2 hx hy hgi
                go_wp2_with fail
                go_region
                all_goals
                  obtain ⟨WW, hWW⟩ : ∃ WW, WW = (wr.setCell ⟨gi, a, none⟩ (.int .i64 x)).setCell ⟨gi, used, none⟩ (.int .i64 y) := ⟨_, rfl⟩
                  rw [← hWW] at HW ⊢
                  have HWn : Hid (∀ d, FixSt w gm cm gl n G (WW.drewN d) lead1 (swM m a used (i + 1))) := fun d => HW.out.drewN d
                  clear hWW HW t1 t2 t3 s2 s3 t4 t5
                  go_wp2_with fail
                  go_roundg (n - (i + 1))
                  case rel => exact ⟨i + 1, by go_num, by omega, rfl, by first | exact HWn.out 0 | exact HWn.out 1 | exact HWn.out _⟩
                  case measure => have := hg3.out; omega
              · obtain rfl : i = n := by omega
                have HS3 := hidP hF.out
                have vc : swM m a used i c used = m c a := by
                  unfold swM
                  rw [if_pos hc]
                  by_cases e : used = a
                  · rw [if_pos e, e]
                  · rw [if_neg e, if_pos rfl]
                obtain ⟨t1, t2, t3⟩ := hF.out.at_ hc hun
                rw [vc] at t2
                have HR1 : Hid (Rng q i (swM m a used i)) := swM_rng HRg.out ha2 hun
                have hyr := HRg.out c a hc ha2
                obtain ⟨y, hy⟩ : ∃ y, m c a = y := ⟨_, rfl⟩
                have HY := hidP hy
                have hy0 : y ≠ 0 := by rw [← hy]; exact HMa.out
                rw [hy] at t2 hyr
                have CI : Hid (∀ w, Calls Try.prog 45 #[.int .i64 y, .int .i64 q] w fun e w' => e = .returned (.int .i64 (invR q y)) ∧ Below w.heap.size w w') := fun w => ref_inv_at HQ.out hyr hy0 w
                have hivr := invR_range hq0 y
                have hivm := invR_mul HQ.out hyr hy0
                obtain ⟨iv, hiv⟩ : ∃ iv, invR q y = iv := ⟨_, rfl⟩
                rw [hiv] at CI hivr hivm
                have HIv : Hid (0 ≤ iv ∧ iv < (q : Int)) := hivr
                have HIm : Hid ((m c a * iv) % (q : Int) = 1) := by show _ = _; rw [HY.out]; exact hivm
                obtain ⟨gc, hgc⟩ : ∃ gc, G c = gc := ⟨_, rfl⟩
                rw [hgc] at t2
                rw [hgc] at t1
                have p5 : (used : Int) < (i : Int) := by omega
                have p6 : ¬ (i : Int) < (i : Int) := by omega
                have z3 : 0 + used = used := Nat.zero_add used
                clear hF vc hy hy0 hyr hivr hivm hiv hgc t3 HY hg3
                go_wp2_with fail
                refine (CI.out _).mono ?_
                rintro e w4 ⟨rfl, hb4⟩
                obtain ⟨m1, hm1⟩ : ∃ m1, swM m a used i = m1 := ⟨_, rfl⟩
                have HM1 := hidP hm1
                rw [hm1] at HR1 HS3
                have HF0 : Hid (FixSt w gm cm gl i G w4 lead1 (scM q m1 used iv 0)) := scM_zero (HS3.out.below hb4) q used iv
                clear hb4 CI HS3 hm1 t1 t2
                go_wp2_with fail
                go_loopg [16] i (fun g4 v16 wy => ∃ j : Nat, v16 = .int .i64 j ∧ j ≤ i ∧ Hid (i - j = g4) ∧ Hid (FixSt w gm cm gl i G wy lead1 (scM q m1 used iv j)))
                case atStart => exact ⟨0, rfl, Nat.zero_le _, rfl, HF0⟩
                case round =>
                  clear HF0
                  obtain ⟨j, rfl, hj, hg4, hF⟩ := hrel
                  by_cases hjn : j < i
                  · obtain ⟨t1, t2, t3⟩ := hF.out.at_ hjn hun
                    have v1 : scM q m1 used iv j j used = m1 j used := by unfold scM; rw [if_neg (by omega)]
                    rw [v1] at t2
                    obtain ⟨W6, hW6⟩ : ∃ W6, W6 = wr.drew := ⟨_, rfl⟩
                    have HW6 := hidP hW6
                    have hF6 : FixSt w gm cm gl i G W6 lead1 (scM q m1 used iv j) := by rw [hW6]; exact hF.out.below ((Below.refl _ _).drew)
                    obtain ⟨-, r2, r3⟩ := hF6.at_ hjn hun
                    rw [v1] at r2
                    have HW := hidP (scM_next hF6 hjn hun)
                    have hxr := HR1.out j used hjn hun
                    obtain ⟨x, hx⟩ : ∃ x, m1 j used = x := ⟨_, rfl⟩
                    rw [hx] at t2 r2 hxr HW
                    have hpw := prod_wrap hq2 hxr HIv.out
                    obtain ⟨z, hz⟩ : ∃ z, x * iv = z := ⟨_, rfl⟩
                    rw [hz] at HW hpw
                    have q3 : IntKind.i64.wrap (x * iv) = z := by rw [hz, IntKind.wrap_i64]; omega
                    obtain ⟨u, hu⟩ : ∃ u, z % (q : Int) = u := ⟨_, rfl⟩
                    have CRz : Hid (∀ w, Calls Try.prog 83 #[.int .i64 z, .int .i64 q] w fun e w' => e = .returned (.int .i64 u) ∧ w = w') := fun w => by rw [← hu]; exact CR.out z w
                    rw [hu] at HW
                    obtain ⟨gi, hgi⟩ : ∃ gi, G j = gi := ⟨_, rfl⟩
                    rw [hgi] at t1 t2 t3 r2 r3 HW
                    have CRs : Hid (∀ w, Calls Try.prog 83 #[.int .i64 z, .int .i64 q] w fun e w' => e = .returned (.int .i64 u) ∧ w' = w) := fun w => (CRz.out w).mono fun e w' ⟨h1, h2⟩ => ⟨h1, h2.symm⟩
                    obtain ⟨W7, hW7⟩ : ∃ W7, W7 = W6.setCell ⟨gi, used, none⟩ (.int .i64 u) := ⟨_, rfl⟩
                    have HW7 := hidP hW7
                    rw [← hW7] at HW
                    have q2 : IntKind.i64.wrap ((j : Int) + 1) = (j : Int) + 1 := by rw [IntKind.wrap_i64]; omega
                    have p2 : (j : Int) < (i : Int) := by omega
                    have z1 : 0 + j = j := Nat.zero_add j
                    clear hF v1 hx hxr hpw hz hu hgi hW6 hF6 hW7 CRz
                    go_wp2_with fail
                    go_still_tail 17, (by kernel_rfl)
                    still_call (CRs.out _)
                    repeat still_step
                    try refine wpStill_nil ?_
                    change wpList _ _ _ _ _ wr.drew
                    rw [← HW6.out]
                    clear t1 t2 t3
                    go_wp2_with fail
                    rw [← HW7.out]
                    go_roundg (i - (j + 1))
                    case rel => exact ⟨j + 1, by go_num, by omega, rfl, HW⟩
                    case measure => have := hg4.out; omega
                  · obtain rfl : j = i := by omega
                    have HS4 := hidP hF.out
                    have HR2 : Hid (Rng q j (scM q m1 used iv j)) := scM_rng hq0 HR1.out
                    obtain ⟨m2, hm2⟩ : ∃ m2, scM q m1 used iv j = m2 := ⟨_, rfl⟩
                    have HM2 := hidP hm2
                    rw [hm2] at HR2 HS4
                    have HF0 : Hid (FixSt w gm cm gl j G wr lead1 (lsM q m2 c used 0)) := lsM_zero HS4.out q c used
                    clear hF HS4 hm2 hg4 HR1
                    go_wp2_with fail
                    go_loopg [17, 18, 19] j (fun g5 v17 v18 v19 wy => ∃ k : Nat, v17 = .int .i64 k ∧ k ≤ j ∧ Hid (j - k = g5) ∧ Hid (FixSt w gm cm gl j G wy lead1 (lsM q m2 c used k)))
                    case atStart => exact ⟨0, rfl, Nat.zero_le _, rfl, HF0⟩
                    case round =>
                      clear HF0
                      obtain ⟨k, rfl, hk2, hg5, hF⟩ := hrel
                      by_cases hkj : k < j
                      · obtain ⟨t1, t2, t3⟩ := hF.out.at_ hc hkj
                        have v1 : lsM q m2 c used k c k = m2 c k := by unfold lsM; rw [if_neg (by omega)]
                        rw [v1] at t2
                        have hbr := HR2.out c k hc hkj
                        obtain ⟨b, hb⟩ : ∃ b, m2 c k = b := ⟨_, rfl⟩
                        have HB := hidP hb
                        rw [hb] at t2 hbr
                        have HBr := hidP hbr
                        obtain ⟨gc, hgc⟩ : ∃ gc, G c = gc := ⟨_, rfl⟩
                        rw [hgc] at t1 t2
                        have q2 : IntKind.i64.wrap ((k : Int) + 1) = (k : Int) + 1 := by rw [IntKind.wrap_i64]; omega
                        have p2 : (k : Int) < (j : Int) := by omega
                        have z1 : 0 + k = k := Nat.zero_add k
                        have HF6 : Hid (FixSt w gm cm gl j G wr lead1 (lsR q m2 c used k 0)) := lsR_zero hF.out
                        clear hF v1 hb hbr hgc t3
                        go_wp2_with fail
                        clear t1 t2
                        go_loopg [19] j (fun g6 v19 wy => ∃ i : Nat, v19 = .int .i64 i ∧ i ≤ j ∧ (k = used → i = 0) ∧ Hid (j - i = g6) ∧ Hid (FixSt w gm cm gl j G wy lead1 (lsR q m2 c used k i)))
                        case atStart => exact ⟨0, rfl, Nat.zero_le _, fun _ => rfl, rfl, HF6⟩
                        case round =>
                          clear HF6
                          obtain ⟨i, rfl, hi2, hku, hg6, hF⟩ := hrel
                          by_cases hk0 : k = used
                          · obtain rfl : i = 0 := hku hk0
                            have HN : Hid (FixSt w gm cm gl j G wr lead1 (lsM q m2 c used (k + 1))) := by
                              have h := lsR_stop hF.out
                              subst hk0
                              exact lsM_same h
                            have hne : ((k : Int) != (used : Int)) = false := by rw [hk0]; simp
                            have p4 : ((0 : Nat) : Int) < (j : Int) := by omega
                            clear hF hku
                            go_wp2_with fail
                            go_roundg (j - (k + 1))
                            case rel => exact ⟨k + 1, by go_num, by omega, rfl, HN⟩
                            case measure => have := hg5.out; omega
                          · have hne : ((k : Int) != (used : Int)) = true := by simp; omega
                            by_cases hij : i < j
                            · obtain ⟨t1, t2, t3⟩ := hF.out.at_ hij hkj
                              obtain ⟨-, s2, s3⟩ := hF.out.at_ hij hun
                              have v1 : lsR q m2 c used k i i k = m2 i k := by unfold lsR; rw [if_pos rfl, if_neg (by omega)]
                              have v2 : lsR q m2 c used k i i used = m2 i used := by unfold lsR; rw [if_neg (fun z => hk0 z.symm)]; unfold lsM; rw [if_neg (fun z => z.2 rfl)]
                              rw [v1] at t2
                              rw [v2] at s2
                              obtain ⟨W6, hW6⟩ : ∃ W6, W6 = wr.drew := ⟨_, rfl⟩
                              have HW6 := hidP hW6
                              have hF6 : FixSt w gm cm gl j G W6 lead1 (lsR q m2 c used k i) := by rw [hW6]; exact hF.out.below ((Below.refl _ _).drew)
                              obtain ⟨-, r2, r3⟩ := hF6.at_ hij hkj
                              have HW := hidP (lsR_next hF6 hij hkj)
                              have hxr := HR2.out i k hij hkj
                              have hyr := HR2.out i used hij hun
                              rw [HB.out] at HW
                              obtain ⟨x, hx⟩ : ∃ x, m2 i k = x := ⟨_, rfl⟩
                              obtain ⟨y, hy⟩ : ∃ y, m2 i used = y := ⟨_, rfl⟩
                              rw [hx] at t2 hxr
                              rw [hy] at s2 hyr
                              rw [v1, hx] at r2
                              rw [hx, hy] at HW
                              have hpw := prod_wrap hq2 HBr.out hyr
                              obtain ⟨z, hz⟩ : ∃ z, b * y = z := ⟨_, rfl⟩
                              rw [hz] at HW hpw
                              have q3 : IntKind.i64.wrap (b * y) = z := by rw [hz, IntKind.wrap_i64]; omega
                              have q4 : IntKind.i64.wrap (x - z) = x - z := by rw [IntKind.wrap_i64]; omega
                              obtain ⟨u, hu⟩ : ∃ u, (x - z) % (q : Int) = u := ⟨_, rfl⟩
                              have CRz : Hid (∀ w, Calls Try.prog 83 #[.int .i64 (x - z), .int .i64 q] w fun e w' => e = .returned (.int .i64 u) ∧ w = w') := fun w => by rw [← hu]; exact CR.out _ w
                              rw [hu] at HW
                              obtain ⟨gi, hgi⟩ : ∃ gi, G i = gi := ⟨_, rfl⟩
                              rw [hgi] at t1 t2 t3 HW s2 s3 r2 r3
                              have CRs : Hid (∀ w, Calls Try.prog 83 #[.int .i64 (x - z), .int .i64 q] w fun e w' => e = .returned (.int .i64 u) ∧ w' = w) := fun w => (CRz.out w).mono fun e w' ⟨h1, h2⟩ => ⟨h1, h2.symm⟩
                              obtain ⟨W7, hW7⟩ : ∃ W7, W7 = W6.setCell ⟨gi, k, none⟩ (.int .i64 u) := ⟨_, rfl⟩
                              have HW7 := hidP hW7
                              rw [← hW7] at HW
                              have q5 : IntKind.i64.wrap ((i : Int) + 1) = (i : Int) + 1 := by rw [IntKind.wrap_i64]; omega
                              have p7 : (i : Int) < (j : Int) := by omega
                              have z2 : 0 + i = i := Nat.zero_add i
                              clear hF v1 v2 hx hy hxr hyr hpw hz hu hgi hku hW6 hF6 hW7 CRz
                              go_wp2_with fail
                              go_still_tail 25, (by kernel_rfl)
                              still_call (CRs.out _)
                              repeat still_step
                              try refine wpStill_nil ?_
                              change wpList _ _ _ _ _ wr.drew
                              rw [← HW6.out]
                              clear t1 t2 t3 s2 s3
                              go_wp2_with fail
                              rw [← HW7.out]
                              go_roundg (j - (i + 1))
                              case rel => exact ⟨i + 1, by go_num, by omega, fun h => absurd h hk0, rfl, HW⟩
                              case measure => have := hg6.out; omega
                            · obtain rfl : i = j := by omega
                              have HN : Hid (FixSt w gm cm gl i G wr lead1 (lsM q m2 c used (k + 1))) := lsR_all hF.out hk0
                              have p7 : ¬ (i : Int) < (i : Int) := by omega
                              clear hF hku
                              go_wp2_with fail
                              go_roundg (i - (k + 1))
                              case rel => exact ⟨k + 1, by go_num, by omega, rfl, HN⟩
                              case measure => have := hg5.out; omega
                      · obtain rfl : k = j := by omega
                        obtain ⟨lc, lf⟩ := hF.out.lcell hc
                        have hW := hF.out.lput hc used
                        obtain ⟨W5, hW5⟩ : ∃ W5, W5 = wr.setCell ⟨gl, c, none⟩ (.int .i64 used) := ⟨_, rfl⟩
                        rw [← hW5] at hW
                        have HX' : Hid (∃ lead m, FixSt w gm cm gl k G W5 lead m ∧ Ech q k (c + 1) (used + 1) free lead m0 m) := by
                          have e1 : (fun j => if j = c then (used : Int) else lead1 j) = fun r => if r = c then (used : Int) else lead r := by
                            rw [HL1.out]; funext r
                            by_cases e : r = c
                            · simp [e]
                            · simp [e]
                          rw [e1] at hW
                          refine ⟨_, _, hW, ?_⟩
                          have h := Ech.took HQ.out (lead' := fun r => if r = c then (used : Int) else lead r) HE2.out hc ha1 ha2 HMa.out HIm.out (fun r _ => rfl)
                          rw [HM1.out, HM2.out] at h
                          exact h
                        have HW5 := hidP hW5
                        have p7 : ¬ (k : Int) < (k : Int) := by omega
                        have q5 : IntKind.i64.wrap ((used : Int) + 1) = (used : Int) + 1 := by rw [IntKind.wrap_i64]; omega
                        clear hF hW hW5 hg5
                        go_wp2_with fail
                        rw [← HW5.out]
                        go_roundg (k - (c + 1))
                        case rel => exact ⟨c + 1, used + 1, free, by go_num, rfl, by go_num, by omega, by omega, by omega, rfl, HX'⟩
                        case measure => have := hgz.out; omega
    · obtain rfl : c = n := by omega
      have p1 : ¬ (c : Int) < (c : Int) := by omega
      by_cases h0 : free = 0
      · subst h0
        have HR : Hid (FixedTells q F w (.returned (.tuple #[.slice none 0 0, .bool false])) wo) := by
          obtain ⟨lead, m, hS, hE⟩ := hX.out
          exact ⟨_, false, rfl, fun h => absurd h (by simp), fun _ u hu => fixed_none HQ.out HM.out HFn.out HRs.out hE hu, hS.bel⟩
        clear hX hgz
        go_wp2_with fail
        go_ret2
        exact HR.out
      · obtain ⟨lead, m, hS, hE⟩ := hX.out
        obtain ⟨f1, f2⟩ : free < c ∧ lead free = -1 := by
          rcases hE.fre with h | h
          · omega
          · exact h
        have HE := hidP hE
        have HSb := hidP hS.bel
        have hfb : ((free : Int) == 0) = false := by rw [beq_eq_false_iff_ne]; omega
        have HFx : Hid (∀ wy, Below wo.heap.size wo wy → FixSt w gm cm gl c G wy lead m) := fun wy h => hS.below h
        obtain ⟨gv, hgv⟩ : ∃ gv, gv = wo.heap.size := ⟨_, rfl⟩
        have HGv := hidP hgv
        obtain ⟨Yv, hYv⟩ : ∃ Yv, Yv = wo.alloc (.cells (madeCells #[.int .i64 0] c) 3) := ⟨_, rfl⟩
        have HYv := hidP hYv
        have hRv : RowW Yv gv (List.replicate c 0) := by rw [hYv, hgv]; exact RowW.made wo c
        have hbv : Below gv wo Yv := by rw [hYv, hgv]; exact (Below.refl _ wo).alloc (Nat.le_refl _) _
        have hc1 := hRv.cell (i := free) (by simp; omega)
        have hc2 := hRv.frozen free
        obtain ⟨Y2, hY2⟩ : ∃ Y2, Y2 = Yv.setCell ⟨gv, free, none⟩ (.int .i64 1) := ⟨_, rfl⟩
        have HY2 := hidP hY2
        have HS0 : Hid (SolTo q Y2 gv c free lead m 0) := ⟨(List.replicate c 0).set free 1, by rw [hY2]; exact hRv.set (by simp; omega) 1, by simp, fun j hj => by
          rw [if_neg (by omega), getD_setG]
          by_cases e : free = j
          · subst e; rw [if_pos ⟨rfl, by simpa using hj⟩, if_pos rfl]
          · rw [if_neg (fun z => e z.1), if_neg (fun z => e z.symm), List.getD_eq_getElem?_getD, List.getElem?_replicate, if_pos hj]; rfl⟩
        have HB0 : Hid (Below gv wo Y2) := by show Below _ _ _; rw [hY2]; exact hbv.setCell (Nat.le_refl _) _
        obtain ⟨y0, hy0⟩ : ∃ y0, (List.replicate c (0 : Int)).getD free 0 = y0 := ⟨_, rfl⟩
        rw [hy0] at hc1
        rw [← hgv] at HFx
        have p2 : (free : Int) < (c : Int) := by omega
        have z0 : 0 + free = free := Nat.zero_add free
        have HFr := hidP f2
        clear hX hS hE hgv hYv hRv hbv hY2 hy0 hgz f2
        go_upto_region 40 with fail
        rw [← HGv.out, ← HYv.out]
        go_wp2_with fail
        rw [← HY2.out]
        clear hc1 hc2 HY2 HYv
        go_loopg [21] c (fun g7 v21 wy => ∃ k : Nat, v21 = .int .i64 k ∧ k ≤ c ∧ Hid (c - k = g7) ∧ Hid (SolTo q wy gv c free lead m k) ∧ Hid (Below gv wo wy))
        case atStart => exact ⟨0, rfl, Nat.zero_le _, rfl, HS0, HB0⟩
        case round =>
          clear HS0 HB0
          obtain ⟨k, rfl, hk, hg7, hSo, hB⟩ := hrel
          by_cases hkc : k < c
          · obtain ⟨e1, -⟩ := (HFx.out wr hB.out).lcell hkc
            have q2 : IntKind.i64.wrap ((k : Int) + 1) = (k : Int) + 1 := by rw [IntKind.wrap_i64]; omega
            have p3 : (k : Int) < (c : Int) := by omega
            have z1 : 0 + k = k := Nat.zero_add k
            by_cases hz : 0 ≤ lead k
            · rcases HE.out.ld k hkc with h | ⟨j, h1, h2, -, -⟩
              · omega
              · have hjc : j < c := by have := HE.out.ul; omega
                obtain ⟨t1, t2, -⟩ := (HFx.out wr hB.out).at_ f1 hjc
                have hxr := HE.out.rng free j f1 hjc
                have HN := hSo.out.put hkc hz
                obtain ⟨l, l1, l2, l3⟩ := hSo.out
                have s2 := l1.cell (i := k) (by omega)
                have s3 := l1.frozen k
                obtain ⟨W6, hW6⟩ : ∃ W6, W6 = wr.drew := ⟨_, rfl⟩
                have HW6 := hidP hW6
                have hb6 : Below wr.heap.size wr W6 := by rw [hW6]; exact (Below.refl _ _).drew
                have HN := (hSo.out.below hb6).put hkc hz
                have hb7 : Below gv wo W6 := by rw [hW6]; exact hB.out.drew
                have s4 := (l1.below hb6).cell (i := k) (by omega)
                have s5 := (l1.below hb6).frozen k
                rw [h1, Int.toNat_natCast] at HN
                rw [h1] at e1
                obtain ⟨x, hx⟩ : ∃ x, m free j = x := ⟨_, rfl⟩
                rw [hx] at t2 hxr HN
                have q3 : IntKind.i64.wrap (-x) = -x := by rw [IntKind.wrap_i64]; omega
                obtain ⟨u, hu⟩ : ∃ u, (-x) % (q : Int) = u := ⟨_, rfl⟩
                have CRs : Hid (∀ w, Calls Try.prog 83 #[.int .i64 (-x), .int .i64 q] w fun e w' => e = .returned (.int .i64 u) ∧ w' = w) := fun w => (CR.out (-x) w).mono fun e w' ⟨h1, h2⟩ => ⟨by rw [← hu]; exact h1, h2.symm⟩
                rw [hu] at HN
                obtain ⟨W7, hW7⟩ : ∃ W7, W7 = W6.setCell ⟨gv, k, none⟩ (.int .i64 u) := ⟨_, rfl⟩
                have HW7 := hidP hW7
                rw [← hW7] at HN
                have HNw := hidP HN
                have HB7 : Hid (Below gv wo W7) := by show Below _ _ _; rw [hW7]; exact hb7.setCell (Nat.le_refl _) _
                obtain ⟨gf, hgf⟩ : ∃ gf, G free = gf := ⟨_, rfl⟩
                rw [hgf] at t1 t2
                have p4 : (j : Int) ≥ 0 := by omega
                have p5 : (j : Int) < (c : Int) := by omega
                have z2 : 0 + j = j := Nat.zero_add j
                obtain ⟨y1, hy1⟩ : ∃ y1, l.getD k 0 = y1 := ⟨_, rfl⟩
                rw [hy1] at s2 s4
                clear hSo hB h1 h2 hz hx hxr hu HN hW6 hW7 hb6 hb7 hgf l1 l2 l3 hy1
                go_wp2_with fail
                go_still_tail 16, (by kernel_rfl)
                still_call (CRs.out _)
                repeat still_step
                try refine wpStill_nil ?_
                change wpList _ _ _ _ _ wr.drew
                rw [← HW6.out]
                clear t1 t2 s2 s3 e1
                go_wp2_with fail
                rw [← HW7.out]
                go_roundg (c - (k + 1))
                case rel => exact ⟨k + 1, by go_num, by omega, rfl, HNw, HB7⟩
                case measure => have := hg7.out; omega
            · have HN := hidP (hSo.out.skip hz)
              obtain ⟨z, hzz⟩ : ∃ z, lead k = z := ⟨_, rfl⟩
              rw [hzz] at e1 hz
              have p4 : ¬ z ≥ 0 := hz
              clear hSo hzz hz
              go_wp2_with fail
              go_roundg (c - (k + 1))
              case rel => exact ⟨k + 1, by go_num, by omega, rfl, HN, hB⟩
              case measure => have := hg7.out; omega
          · obtain rfl : k = c := by omega
            obtain ⟨l, l1, l2, l3⟩ := hSo.out
            have hs : SeesI wr (.slice (some ⟨gv, 0, none⟩) k k) l := by
              refine ⟨_, k, by rw [l2], by omega, by omega, (fun e => by cases e), fun hp => ⟨_, 0, rfl, fun j hj => ?_⟩⟩
              rw [Nat.zero_add]; exact l1.cell hj
            have CP := hidP (ref_Plain hs (by omega) HQ.out)
            have HFd := hidP (fixed_found HQ.out HM.out HFn.out HRs.out HE.out (by omega) l2 (fun c' hc' => by
              rw [l3 c' hc']
              by_cases e : c' = free
              · subst e
                rw [if_neg (by rw [HFr.out]; omega), if_pos rfl, if_pos rfl]
              · rw [if_neg e, if_neg e]
                by_cases e2 : 0 ≤ lead c'
                · rw [if_pos ⟨hc', e2⟩, if_pos e2, Int.emod_emod]
                · rw [if_neg (fun z => e2 z.2), if_neg e2]))
            have HBw : Hid (Below w.heap.size w wr) := HSb.out.trans (hB.out.mono (by have := HSb.out.size; have := HGv.out; omega))
            clear hSo l1 l2 l3 hs hB hg7
            go_wp2_with fail
            refine CP.out.mono ?_
            rintro e w9 ⟨v9, rfl, hs9, hb9⟩
            have HR : Hid (FixedTells q F w (.returned (.tuple #[v9, .bool true])) w9) :=
              ⟨_, true, rfl, fun _ => ⟨_, hs9, HFd.out.1, HFd.out.2.1, HFd.out.2.2, nf_plain hq0 l⟩, fun h => absurd h (by simp), step_below HBw.out hb9⟩
            clear hs9 hb9
            go_wp2_with fail
            go_ret2
            exact HR.out
end Go.Proofs.Ytokdcgmjpnanoaa
