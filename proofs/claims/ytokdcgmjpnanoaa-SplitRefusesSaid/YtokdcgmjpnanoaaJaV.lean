/- The document's up, Scale, Sub and Mul by their contracts. -/
import Derived.Test.YtokdcgmjpnanoaaJaU

set_option linter.unusedVariables false
set_option linter.unusedSimpArgs false
namespace Go.Proofs.Ytokdcgmjpnanoaa
open Go.RowKit

theorem owns_step_d {base : Nat} {w0 wr w2 : World} {o : Obj} {v : Value} {n : Nat} {xs : List Value} (hb : Below base w0 wr) (hs : base ≤ wr.heap.size) (hown : wr.ownsRow base 3 1 v n xs) (hg : (wr.alloc o).drew.grownBy w2 v.ownBlock) : Below base w0 w2 :=
  ((hb.alloc hs o).drew).grown hg (by show base ≤ (wr.alloc o).heap.size; simp; omega) (fun k e => (hown.lt k e).1)
theorem E.pup {q : Nat} (k : Nat) {f g : List Int} (h : E q f g) : E q (Go.Proofs.Ytokdcgmjpnanoaa.pup k f) (Go.Proofs.Ytokdcgmjpnanoaa.pup k g) := by
  obtain ⟨a, ha⟩ := h
  exact ⟨Go.Proofs.Ytokdcgmjpnanoaa.pup k a, fun x => by simp only [ev_pup, ha x]; grind⟩
theorem rep_succ (k : Nat) : (List.replicate k (0 : Int)).map vI ++ [Value.int .i64 0] = (List.replicate (k + 1) (0 : Int)).map vI := by
  rw [List.map_replicate, List.map_replicate, List.replicate_succ']; rfl

set_option maxRecDepth 100000 in
set_option maxHeartbeats 2000000 in
theorem ref_up {vf : Value} {f : List Int} {n : Nat} {w : World} (hf : SeesI w vf f) (hlf : f.length ≤ 131072) (hn : n ≤ 131072) :
    Calls Try.prog 86 #[vf, .int .i64 n] w fun e w' => Tells (pup n f) w e w' := by
  have HF : Hid (∀ w1, Below w.heap.size w w1 → SeesI w1 vf f) := fun w1 h => SeesI.below hf h
  obtain ⟨A, ca, rfl, hcap⟩ := SeesF.form hf
  obtain ⟨i0, hi, hz0, hz1, hz2⟩ := info_parts info_int
  have HI := hidP hi
  have HI0 := hidP hz0
  have HI1 := hidP hz1
  have HI2 := hidP hz2
  clear hi hz0 hz1 hz2
  clear hf
  go_enter Try.func86, Try.ntmps86
  go_wp2_with fail
  go_loopg [1, 5] n (fun gm v1 v5 wr => ∃ j k : Nat, j = gm ∧ j + k = n ∧ v1 = .int .i64 j ∧ Hid (wr.ownsRow w.heap.size 3 1 v5 k ((List.replicate k (0 : Int)).map vI)) ∧ Hid (Below w.heap.size w wr))
  case atStart => exact ⟨n, 0, rfl, rfl, rfl, World.ownsRow_nil _ _ _ _, Below.refl _ _⟩
  case round =>
    obtain ⟨j, k, rfl, hjk, rfl, hown, hB⟩ := hrel
    have HSz : Hid (w.heap.size ≤ wr.heap.size) := hB.out.size
    rcases Nat.eq_zero_or_pos j with h0 | h0
    · subst h0
      obtain rfl : k = n := by omega
      cases A with
      | none =>
        have hs := HF.out wr hB.out
        have hl0 : f.length = 0 ∧ ca = 0 := by
          obtain ⟨ao, cap, z1, z2, z3, z4, z5⟩ := hs
          simp only [Value.slice.injEq] at z1
          obtain ⟨rfl, -, rfl⟩ := z1
          have := z4 rfl; omega
        obtain ⟨hl0, rfl⟩ := hl0
        have f0 : f = [] := List.eq_nil_of_length_eq_zero hl0
        subst f0
        have HP : Hid (pup k [] = List.replicate k 0) := by show _ = _; simp [pup]
        obtain ⟨g, hg, hm⟩ := Mine.of_owns (l := List.replicate k 0) hown.out (by rw [List.length_replicate]; omega)
        have HM := hidP hm.sees
        clear hs hl0 hg hm
        go_wp2_with (at_builtin; refine wpList_append_own_none rfl _ _ 22 rfl w.heap.size 3 i0 1 Try.underlying22 HI.out _ _ _ rfl hown.out rfl ?_)
        go_wp2_with fail
        go_ret
        exact ⟨_, rfl, by rw [HP.out]; exact HM.out, hB.out⟩
      | some ad =>
        have hs := HF.out wr hB.out
        have HN := hidP hs.news
        clear hs
        obtain ⟨X, hX⟩ : ∃ X, (List.replicate k (0 : Int)).map vI = X := ⟨_, rfl⟩
        rw [hX] at hown
        have HX := hidP hX
        have HOC := hidP (oneCell_ints f)
        have HLm : Hid ((f.map vI).length = f.length * 1) := by show _ = _; rw [List.length_map, Nat.mul_one]
        obtain ⟨Z, hZ⟩ : ∃ Z, f.map vI = Z := ⟨_, rfl⟩
        rw [hZ] at HN HOC HLm
        have HZ := hidP hZ
        clear hX hZ
        go_wp2_with (at_builtin; refine wpList_append_own _ rfl _ _ 22 rfl w.heap.size 3 i0 (.int .i64 0) 1 8 Try.underlying22 HI.out HI0.out HI1.out HI2.out rfl (by decide) _ _ _ rfl hown.out ad f.length ca Z rfl HLm.out HN.out HOC.out (by unfold maxLen; omega) (by omega) HSz.out ?_)
        intro v' w3 hown' hgrow _
        have HO : Hid (SeesI w3 v' (pup k f)) := by
          have h1 := hown'
          rw [← HX.out, ← HZ.out, ← List.map_append] at h1
          obtain ⟨g, hg, hm⟩ := Mine.of_owns (l := pup k f) h1 (by rw [pup_len]; omega)
          exact hm.sees
        have HB3 := hidP (hB.out.grown hgrow HSz.out (fun j e => (hown.out.lt j e).1))
        clear hown' hgrow
        go_wp2_with fail
        go_ret
        exact ⟨_, rfl, HO.out, HB3.out⟩
    · obtain ⟨m, rfl⟩ : ∃ m, j = m + 1 := ⟨j - 1, by omega⟩
      have HT := hidP (rep_succ k)
      obtain ⟨X, hX⟩ : ∃ X, (List.replicate k (0 : Int)).map vI = X := ⟨_, rfl⟩
      rw [hX] at hown HT
      have p1 : ((m + 1 : Nat) : Int) > 0 := by omega
      have e1 : ((m + 1 : Nat) : Int) - 1 = (m : Int) := by omega
      have hw1 : IntKind.i64.wrap (m : Int) = (m : Int) := by rw [IntKind.wrap_i64]; omega
      clear hX
      go_wp2_with (at_builtin; refine wpList_append_own _ rfl _ _ 22 rfl w.heap.size 3 i0 (.int .i64 0) 1 8 Try.underlying22 HI.out HI0.out HI1.out HI2.out rfl (by decide) _ _ _ rfl (hown.out.alloc _) ⟨wr.heap.size, 0, none⟩ 1 1 [.int .i64 0] rfl rfl (news_one wr 0) (one_cell 0) (by unfold maxLen; omega) (by omega) (by simp; exact Nat.le_trans HSz.out (Nat.le_succ _)) ?_)
      intro v' w3 hown' hgrow _
      have HO : Hid (w3.ownsRow w.heap.size 3 1 v' (k + 1) ((List.replicate (k + 1) (0 : Int)).map vI)) := by
        have := hown'
        rw [HT.out] at this
        exact this
      have HB3 := hidP (owns_step hB.out HSz.out hown.out hgrow)
      clear hown' hgrow hown HT
      go_wp2_with fail
      go_roundg m
      case rel => exact ⟨m, k + 1, rfl, by omega, by go_num, HO, HB3⟩
      case measure => omega

theorem nfZ_sc (p c : Int) (f : List Int) : nfZ p (psc c (nfZ p f)) = nfZ p (psc c f) := by
  cases h : isP p with
  | true =>
    obtain ⟨q, rfl, hq⟩ := isP_true h
    simp only [nfZ_prime hq]
    exact nf_eq ((nf_E q f).sc c)
  | false => rw [nfZ_none h, nfZ_none h]
theorem nfZ_right (p : Int) (f g : List Int) : nfZ p (padd f (nfZ p g)) = nfZ p (padd f g) := by
  cases h : isP p with
  | true =>
    obtain ⟨q, rfl, hq⟩ := isP_true h
    simp only [nfZ_prime hq]
    exact nf_eq ((E.refl q f).add (nf_E q g))
  | false => rw [nfZ_none h, nfZ_none h]

set_option maxRecDepth 100000 in
set_option maxHeartbeats 4000000 in
theorem ref_Scale {vf : Value} {p c : Int} {f : List Int} {w : World} (hf : SeesI w vf f) (hlf : f.length ≤ 65536) (h1 : -9223372036854775808 ≤ p) (h2 : p < 9223372036854775808) :
    Calls Try.prog 44 #[vf, .int .i64 c, .int .i64 p] w fun e w' => Tells (nfZ p (psc c f)) w e w' := by
  have PL : Hid (∀ v l w, SeesI w v l → l.length ≤ 65536 → Calls Try.prog 43 #[v, .int .i64 p] w fun e w' => Tells (nfZ p l) w e w') := fun v l w h hl => ref_PlainZ h hl h1 h2
  have C1 := hidP (PL.out vf f w hf hlf)
  have HlF := nfZ_len p f
  cases hp : isP p with
  | false =>
    have HZ : Hid (∀ l, nfZ p l = []) := fun l => nfZ_none hp l
    rw [HZ.out] at C1 ⊢
    clear hf h1 h2 hp HlF
    go_enter Try.func44, Try.ntmps44
    go_wp2_with fail
    refine C1.out.mono ?_
    rintro e w1 ⟨v1, rfl, hs1, hb1⟩
    obtain ⟨A, ca, rfl, hcap⟩ := SeesF.form hs1
    have B1 := hidP hb1
    clear hs1 hb1 C1 hcap
    go_wp2_with fail
    refine wp_loop_rounds 1 ?_
    rw [rounds_succ]
    go_wp2_with fail
    refine (PL.out _ [] w1 (SeesF.nil _) (by simp)).mono ?_
    rintro e w2 ⟨v2, rfl, hs2, hb2⟩
    rw [HZ.out] at hs2
    have HS := hidP hs2
    have B2 := hidP (step_below B1.out hb2)
    clear hs2 hb2
    go_wp2_with fail
    go_ret
    exact ⟨_, rfl, HS.out, B2.out⟩
  | true =>
    obtain ⟨q, rfl, hq⟩ := isP_true hp
    obtain ⟨hq0, hq2⟩ := isP_bounds hq
    have HRf : Hid (Res q (nfZ q f)) := by show Res _ _; rw [nfZ_prime hq]; exact res_nf hq0 f
    have CR := hidP fun w => ref_rest_eq c q (by omega) (by omega) w
    have d0 := Int.emod_nonneg c (show (q : Int) ≠ 0 by omega)
    have d1 := Int.emod_lt_of_pos c (show (0 : Int) < q by omega)
    have HE : Hid (nfZ q (psc (c % (q : Int)) (nfZ q f)) = nfZ q (psc c f)) := by
      show _ = _
      simp only [nfZ_prime hq]
      refine nf_eq (cf_E fun i => ?_)
      rw [getD_psc, getD_psc, getD_nf, ← Int.mul_emod]
    rw [← HE.out]
    obtain ⟨d, hd⟩ : ∃ d, c % (q : Int) = d := ⟨_, rfl⟩
    rw [hd] at d0 d1 ⊢
    simp only [hd] at CR
    clear HE hd
    obtain ⟨F, hF⟩ : ∃ F, nfZ q f = F := ⟨_, rfl⟩
    rw [hF] at HlF HRf C1 ⊢
    obtain ⟨i0, hi, hz0, hz1, hz2⟩ := info_parts info_int
    have HI := hidP hi
    have HI0 := hidP hz0
    have HI1 := hidP hz1
    have HI2 := hidP hz2
    clear hi hz0 hz1 hz2

    clear hf h1 h2 hF hp hq
    go_enter Try.func44, Try.ntmps44
    go_wp2_with fail
    refine C1.out.mono ?_
    rintro e w1 ⟨v1, rfl, hs1, hb1⟩
    have B1 := hidP hb1
    have HA : Hid (∀ w2, Below w1.heap.size w1 w2 → SeesI w2 v1 F) := fun w2 h => SeesI.below hs1 h
    obtain ⟨A, ca, rfl, hcap⟩ := SeesF.form hs1
    clear hs1 hb1 C1
    go_wp2_with fail
    go_loopw [7, 8] (fun v7 v wr => ∃ k : Nat, k ≤ F.length ∧ v = .int .i64 k ∧ Hid (wr.ownsRow w1.heap.size 3 1 v7 k (((F.take k).map (fun a => d * a)).map vI)) ∧ Hid (Below w1.heap.size w1 wr)) (fun _ v _ => F.length - (intOf v).toNat)
    case atStart => exact ⟨0, Nat.zero_le _, rfl, World.ownsRow_nil _ _ _ _, Below.refl _ _⟩
    case round =>
      obtain ⟨k, hk, rfl, hown, hB⟩ := hrel
      by_cases hlt : k < F.length
      · obtain ⟨b1, o1, e2, hc1'⟩ := (HA.out _ hB.out).at (by omega)
        subst e2
        have hc1 := hc1' k hlt
        have HT := hidP (map_take_succ (fun a => d * a) hlt)
        have hx0 := HRf.out k
        obtain ⟨x, hx⟩ : ∃ x, F.getD k 0 = x := ⟨_, rfl⟩
        rw [hx] at hc1 hx0
        simp only [hx] at HT
        have hbd := prod_bound d0 d1 hx0.1 hx0.2 hq2
        have hcm : x * d = d * x := Int.mul_comm _ _
        obtain ⟨z, hz⟩ : ∃ z, d * x = z := ⟨_, rfl⟩
        rw [hz] at HT hbd hcm
        have hwz : IntKind.i64.wrap (x * d) = z := by rw [hcm, IntKind.wrap_i64]; omega
        have HSz : Hid (w1.heap.size ≤ wr.heap.size) := hB.out.size
        have hk1 : IntKind.i64.wrap ((k : Int) + 1) = (k : Int) + 1 := by rw [IntKind.wrap_i64]; omega
        have kF : (k : Int) < (F.length : Int) := by omega
        obtain ⟨X, hX⟩ : ∃ X, ((F.take k).map (fun a => d * a)).map vI = X := ⟨_, rfl⟩
        rw [hX] at hown HT
        have HW : Hid ((wr.drew.alloc (.cells #[.int .i64 z] 3)).ownsRow w1.heap.size 3 1 u7 k X) := hown.out.alloc _
        have HNw : Hid (∀ j u, [Value.int .i64 z][j]? = some u → (wr.drew.alloc (.cells #[.int .i64 z] 3)).cell? ((⟨wr.heap.size, 0, none⟩ : Addr).add j) = some u) := news_one wr.drew z
        have HSz2 : Hid (w1.heap.size ≤ (wr.drew.alloc (.cells #[.int .i64 z] 3)).heap.size) := by show _ ≤ _; exact Nat.le_trans HSz.out (by simp)
        clear hc1' hx hz hX hx0 hbd hcm
        go_wp2_with fail
        go_region_law (first | (refine step_append_own rfl (.tmp 18) (.tmp 27) 22 rfl w1.heap.size 3 i0 (.int .i64 0) 1 8 Try.underlying22 HI.out HI0.out HI1.out HI2.out rfl (by decide) u7 k X (by simp [Act.eval, Act.put]) HW.out ⟨wr.heap.size, 0, none⟩ 1 1 [.int .i64 z] (by simp [Act.eval, Act.put]) rfl HNw.out (one_cell z) (by unfold maxLen; omega) (by omega) HSz2.out ?_; intro v' w4 hown4 hgrow; have HO4 := hidP hown4; have HG4 := hidP hgrow; clear hown4 hgrow) | (go_simp; go_at_call 83; refine (CR.out _).mono ?_; rintro e wx ⟨rfl, rfl⟩))
        all_goals
          have HO : Hid (w4.ownsRow w1.heap.size 3 1 v' (k + 1) (((F.take (k + 1)).map (fun a => d * a)).map vI)) := by
            have := HO4.out
            rw [show [Value.int IntKind.i64 z] = [vI z] from rfl, HT.out] at this
            exact this
          have HB3 := hidP (owns_step_d hB.out HSz.out hown.out HG4.out)
          clear HO4 HG4 HW HNw HSz2 HSz HT hown hc1
          go_wp2_with fail
          go_roundw
          case rel => exact ⟨k + 1, by omega, by go_num, HO, HB3⟩
          case measure => simp [intOf]; omega
      · obtain rfl : k = F.length := by omega
        have ho := hown.out
        rw [List.take_length] at ho
        obtain ⟨gg, hg, hm⟩ := Mine.of_owns (l := psc d F) ho (by rw [psc_len]; omega)
        have CP := hidP (PL.out _ _ wr hm.sees (by rw [psc_len]; omega))
        clear ho hg hm hown
        go_wp2_with fail
        refine CP.out.mono ?_
        rintro e w3 ⟨v3, rfl, hs3, hb3⟩
        have HS3 := hidP hs3
        have HB3 := hidP (step_below B1.out (step_below hB.out hb3))
        clear hs3 hb3
        go_wp2_with fail
        go_ret
        exact ⟨_, rfl, HS3.out, HB3.out⟩

set_option maxRecDepth 100000 in
theorem ref_Sub {vf vg : Value} {p : Int} {f g : List Int} {w : World} (hf : SeesI w vf f) (hg : SeesI w vg g) (hlf : f.length ≤ 65536) (hlg : g.length ≤ 65536) (h1 : -9223372036854775808 ≤ p) (h2 : p < 9223372036854775808) :
    Calls Try.prog 28 #[vf, vg, .int .i64 p] w fun e w' => Tells (nfZ p (padd f (psc (-1) g))) w e w' := by
  have C1 := hidP (ref_Scale (c := -1) hg hlg h1 h2)
  have C2 : Hid (∀ v w1, Below w.heap.size w w1 → SeesI w1 v (nfZ p (psc (-1) g)) → Calls Try.prog 54 #[vf, v, .int .i64 p] w1 fun e w' => Tells (nfZ p (padd f (psc (-1) g))) w1 e w') := fun v w1 hb hv => by
    rw [← nfZ_right]
    exact ref_Add (SeesI.below hf hb) hv hlf (by have := nfZ_len p (psc (-1) g); rw [psc_len] at this; omega) h1 h2
  clear hf hg h1 h2
  go_enter Try.func28, Try.ntmps28
  go_wp2_with fail
  refine C1.out.mono ?_
  rintro e w1 ⟨v1, rfl, hs1, hb1⟩
  have B1 := hidP hb1
  have C3 := hidP (C2.out v1 w1 hb1 hs1)
  clear hs1 hb1
  go_wp2_with fail
  refine C3.out.mono ?_
  rintro e w2 ⟨v2, rfl, hs2, hb2⟩
  have HS := hidP hs2
  have B2 := hidP (step_below B1.out hb2)
  clear hs2 hb2
  go_wp2_with fail
  go_ret
  exact ⟨_, rfl, HS.out, B2.out⟩

theorem mul_next {q : Nat} {f g : List Int} {k : Nat} (hk : k < g.length) : nf q (padd (nf q (pmul (g.take k) f)) (pup k (nf q (psc (g.getD k 0) f)))) = nf q (pmul (g.take (k + 1)) f) := by
  have hl : (g.take k).length = k := by rw [List.length_take]; omega
  refine nf_eq (((nf_E q _).add (E.pup k (nf_E q _))).trans (.of_ev fun x => ?_))
  rw [take_last hk, ev_padd, ev_pmul, ev_pmul, ev_append, ev_pup, ev_psc, hl]
  simp only [ev]; grind

set_option maxRecDepth 100000 in
set_option maxHeartbeats 2000000 in
theorem ref_Mul {vf vg : Value} {q : Nat} {f g : List Int} {w : World} (hf : SeesI w vf f) (hg : SeesI w vg g) (hlf : f.length ≤ 16384) (hlg : g.length ≤ 16384) (hq : IsP q) :
    Calls Try.prog 53 #[vf, vg, .int .i64 q] w fun e w' => Tells (nf q (pmul f g)) w e w' := by
  have hq2 := (isP_bounds hq).2
  have C1 := hidP (ref_Plain hg (by omega) hq)
  have HF : Hid (∀ w1, Below w.heap.size w w1 → SeesI w1 vf f) := fun w1 h => SeesI.below hf h
  have CS : Hid (∀ w1 c, Below w.heap.size w w1 → Calls Try.prog 44 #[vf, .int .i64 c, .int .i64 q] w1 fun e w' => Tells (nf q (psc c f)) w1 e w') := fun w1 c h => by
    have := ref_Scale (p := (q : Int)) (c := c) (SeesI.below hf h) (by omega) (by omega) (by omega)
    rwa [nfZ_prime hq] at this
  have HlG := nf_len q g
  have HEe : Hid (nf q (pmul (nf q g) f) = nf q (pmul f g)) := nf_eq (((nf_E q g).mul (E.refl q f)).trans (.of_ev fun x => by rw [ev_pmul, ev_pmul, Int.mul_comm]))
  have HNx : Hid (∀ G k, k < G.length → nf q (padd (nf q (pmul (List.take k G) f)) (pup k (nf q (psc (G.getD k 0) f)))) = nf q (pmul (G.take (k + 1)) f)) := fun G k h => mul_next h
  have CA : Hid (∀ w1 v u X Y, SeesI w1 v X → SeesI w1 u Y → X.length ≤ 65536 → Y.length ≤ 65536 → Calls Try.prog 54 #[v, u, .int .i64 q] w1 fun e w' => Tells (nf q (padd X Y)) w1 e w') := fun w1 v u X Y h1 h2 h3 h4 => by
    have := ref_Add (p := (q : Int)) h1 h2 h3 h4 (by omega) (by omega)
    rwa [nfZ_prime hq] at this
  obtain ⟨G, hG⟩ : ∃ G, nf q g = G := ⟨_, rfl⟩
  rw [hG] at C1 HlG HEe
  rw [← HEe.out]
  clear hf hg hq hG HEe
  go_enter Try.func53, Try.ntmps53
  go_wp2_with fail
  refine C1.out.mono ?_
  rintro e w1 ⟨v1, rfl, hs1, hb1⟩
  have B1 := hidP hb1
  have HA : Hid (∀ w2, Below w1.heap.size w1 w2 → SeesI w2 v1 G) := fun w2 h => SeesI.below hs1 h
  obtain ⟨A, ca, rfl, hcap⟩ := SeesF.form hs1
  clear hs1 hb1 C1
  go_wp2_with fail
  go_loopw [7, 8] (fun v7 v wr => ∃ k : Nat, k ≤ G.length ∧ v = .int .i64 k ∧ Hid (SeesI wr v7 (nf q (pmul (G.take k) f))) ∧ Hid (Below w1.heap.size w1 wr)) (fun _ v _ => G.length - (intOf v).toNat)
  case atStart => exact ⟨0, Nat.zero_le _, rfl, SeesF.nil _, Below.refl _ _⟩
  case round =>
    obtain ⟨k, hk, rfl, hout, hB⟩ := hrel
    by_cases hlt : k < G.length
    · obtain ⟨b1, o1, e2, hc1'⟩ := (HA.out _ hB.out).at (by omega)
      subst e2
      have hc1 := hc1' k hlt
      have HN := hidP (HNx.out G k hlt)
      have hl1 : (nf q (pmul (G.take k) f)).length ≤ 65536 := by
        have h1 := nf_len q (pmul (G.take k) f)
        have h2 := pmul_len (G.take k) f
        have h3 : (G.take k).length ≤ G.length := by rw [List.length_take]; omega
        omega
      have hl2 : (pup k (nf q (psc (G.getD k 0) f))).length ≤ 65536 := by
        have h1 := nf_len q (psc (G.getD k 0) f)
        rw [psc_len] at h1
        rw [pup_len]; omega
      have hl3 : (nf q (psc (G.getD k 0) f)).length ≤ 131072 := by rw [pup_len] at hl2; omega
      have CSk := hidP (CS.out wr (G.getD k 0) (step_below B1.out hB.out))
      obtain ⟨x, hx⟩ : ∃ x, G.getD k 0 = x := ⟨_, rfl⟩
      rw [hx] at hc1 hl2 hl3 HN CSk
      have hk1 : IntKind.i64.wrap ((k : Int) + 1) = (k : Int) + 1 := by rw [IntKind.wrap_i64]; omega
      have HL1 := hidP hl1
      have HL2 := hidP hl2
      have HL3 := hidP hl3
      clear hc1' hx hl1 hl2 hl3
      go_wp2_with fail
      refine CSk.out.mono ?_
      rintro e w2 ⟨v2, rfl, hs2, hb2⟩
      have B2 := hidP (step_below hB.out hb2)
      have CU := hidP (ref_up (n := k) hs2 HL3.out (by omega))
      have HO2 := hidP (hout.out.below hb2)
      clear hs2 hb2
      go_wp2_with fail
      refine CU.out.mono ?_
      rintro e w3 ⟨v3, rfl, hs3, hb3⟩
      have B3 := hidP (step_below B2.out hb3)
      have CAd := hidP (CA.out w3 _ v3 _ _ (HO2.out.below hb3) hs3 HL1.out HL2.out)
      rw [HN.out] at CAd
      clear hs3 hb3
      go_wp2_with fail
      refine CAd.out.mono ?_
      rintro e w4 ⟨v4, rfl, hs4, hb4⟩
      have B4 := hidP (step_below B3.out hb4)
      have HO4 := hidP hs4
      clear hs4 hb4
      go_wp2_with fail
      go_roundw
      case rel => exact ⟨k + 1, by omega, by go_num, HO4, B4⟩
      case measure => simp [intOf]; omega
    · obtain rfl : k = G.length := by omega
      rw [List.take_length] at hout
      go_wp2_with fail
      go_ret
      exact ⟨_, rfl, hout.out, step_below B1.out hB.out⟩
end Go.Proofs.Ytokdcgmjpnanoaa
