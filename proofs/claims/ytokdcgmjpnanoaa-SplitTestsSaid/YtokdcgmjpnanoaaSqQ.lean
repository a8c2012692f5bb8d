/- split.Factor by its contract. -/
import Derived.Test.YtokdcgmjpnanoaaSqO
import Derived.Test.YtokdcgmjpnanoaaSqS
import Derived.Test.YtokdcgmjpnanoaaSqP

set_option linter.unusedVariables false
set_option linter.unusedSimpArgs false
namespace Go.Proofs.Ytokdcgmjpnanoaa
open Go.RowKit

theorem SeesL.grownSl {w w' : World} {v row : Value} {L : List (List Int)} (h : SeesL w v L) (hall : AllSl w row) (ha : 0 < L.length → ∀ g, row.ownBlock = some g → v.ownBlock ≠ some g) (hg : w.grownBy w' row.ownBlock) : SeesL w' v L := by
  obtain ⟨vs, h1, ⟨ao, cap, e1, e2, e3, e4, e5⟩, h3⟩ := h
  refine ⟨vs, h1, ⟨ao, cap, e1, e2, e3, e4, fun hp => ?_⟩, fun i hi => (h3 i hi).grownSl hall hg⟩
  obtain ⟨b, o, hb, hc⟩ := e5 hp
  refine ⟨b, o, hb, fun i hi => hg.cell (hc i hi) (fun e => ?_)⟩
  exact ha (by omega) b e.symm (by rw [e1, hb]; rfl)
theorem KeepX.grownOwn {c s : Nat} {Y w w' : World} {r : Option Nat} (h : KeepX c s Y w) (hg : w.grownBy w' r) (hr : ∀ g, r = some g → Y.heap.size ≤ g) : KeepX c s Y w' :=
  ⟨hg.os.trans h.os, hg.tape.trans h.tape, hg.output.trans h.output, Nat.le_trans h.size hg.size, fun k hk n1 n2 => (hg.block k (Nat.lt_of_lt_of_le hk h.size) (fun e => by have := hr k e.symm; omega)).trans (h.block k hk n1 n2)⟩
/-- The state of Factor's loops. -/
structure FacSt (q bc bp bd bs κ : Nat) (Y wr : World) (vF v10 : Value) (Fs l : List (List Int)) : Prop where
  S : Spl q bc bp bd bs κ wr
  K : KeepX bc bs Y wr
  O : OwnsS Y.heap.size wr v10 l
  F : SeesL wr vF Fs
  A : 0 < Fs.length → ∀ g, v10.ownBlock = some g → vF.ownBlock ≠ some g
theorem FacSt.below {q bc bp bd bs κ : Nat} {Y wr w' : World} {vF v10 : Value} {Fs l : List (List Int)} (h : FacSt q bc bp bd bs κ Y wr vF v10 Fs l) (hb : Below wr.heap.size wr w') : FacSt q bc bp bd bs κ Y w' vF v10 Fs l :=
  ⟨h.S.below hb, h.K.trans (KeepX.of_below hb), h.O.below hb, h.F.below hb, h.A⟩
theorem FacSt.app {q bc bp bd bs κ n0 : Nat} {Y wr w' : World} {vF v10 v' x : Value} {Fs l : List (List Int)} {g : List Int} {vs : List Value} (h : FacSt q bc bp bd bs κ Y wr vF v10 Fs l) (SY : Spl q bc bp bd bs n0 Y) (h1 : vs.length = l.length) (h3 : AllSl wr v10) (h4 : ∀ i, i < l.length → SeesI wr (vs.getD i vNil) (l.getD i [])) (hown : wr.ownsRow Y.heap.size 22 1 v10 l.length vs) (hx : SeesI wr x g)
    (ho : w'.ownsRow Y.heap.size 22 1 v' (l.length + 1) (vs ++ [x])) (hg : wr.grownBy w' v10.ownBlock) (ha : AllSl w' v') (hb : v'.ownBlock = v10.ownBlock ∨ ∃ g, v'.ownBlock = some g ∧ wr.heap.size ≤ g) : FacSt q bc bp bd bs κ Y w' vF v' Fs (l ++ [g]) := by
  have hr : ∀ g, v10.ownBlock = some g → Y.heap.size ≤ g := fun g e => (hown.lt g e).1
  have k2 := h.K.grownOwn hg hr
  have hF2 := h.F.grownSl h3 h.A hg
  obtain ⟨z, z1, z2, hz⟩ := h.S.s
  obtain ⟨z', -, -, hz'⟩ := SY.s
  have keep : ∀ k, k < Y.heap.size → w'.heap[k]? = wr.heap[k]? := fun k hk => hg.block k (Nat.lt_of_lt_of_le hk h.K.size) (fun e => by have := hr k e.symm; omega)
  refine ⟨SY.of_keep k2 ((keep bc (lt_of_block SY.c)).trans h.S.c) ⟨z, z1, z2, (keep bs (lt_of_block hz')).trans hz⟩, k2, OwnsS.app (M := [g]) (ys := [x]) h1 h3 h4 rfl (fun i hi => ?_) ho hg ha, hF2, fun hp g' e => ?_⟩
  · obtain rfl : i = 0 := by simp at hi; omega
    exact hx
  · rcases hb with hb | ⟨g2, hb, hle⟩
    · rw [hb] at e; exact h.A hp g' e
    · rw [hb] at e
      obtain rfl : g2 = g' := Option.some.inj e
      intro e2
      obtain ⟨vs', a1, ⟨ao, cap, e3, -, -, hno, e5⟩, -⟩ := h.F
      obtain ⟨b, o, hb2, hc⟩ := e5 (by omega)
      have := World.block_lt_of_cell? wr _ (hc 0 (by omega))
      rw [e3, hb2] at e2
      have e6 : b = g2 := Option.some.inj e2
      subst e6
      simp at this
      omega
theorem news_sl (w : World) (z : Value) : ∀ (j : Nat) (u : Value), [z][j]? = some u → (w.alloc (.cells #[z] 22)).cell? ((⟨w.heap.size, 0, none⟩ : Addr).add j) = some u := by
  intro j u hj
  match j, hj with
  | 0, hj =>
    show (w.alloc (.cells #[z] 22)).cell? ⟨w.heap.size, 0, none⟩ = some u
    rw [World.cell?_alloc_at _ _ _ _ rfl]
    simpa using hj
  | j + 1, hj => simp at hj
/-- What Factor tells. -/
def FactorTells (q : Nat) (f : List Int) (w : World) (e : Ending) (w' : World) : Prop := ∃ v L, e = .returned (.tuple #[v, .int .i64 0]) ∧ SeesL w' v L ∧ FactorsOf q (monF q f) L ∧ SortedL L ∧ Below w.heap.size w w'

set_option maxRecDepth 100000 in
theorem none_Factor {vf vd : Value} {p : Int} {w : World} (h1 : -9223372036854775808 ≤ p) (h2 : p < 9223372036854775808) (hp : isP p = false) :
    Calls Try.prog 8 #[vf, .int .i64 p, vd] w fun e w' => e = .returned (.tuple #[.slice none 0 0, .int .i64 50]) ∧ Below w.heap.size w w' := by
  have C := hidP (none_Degrees (vf := vf) (w := w) h1 h2 hp)
  clear h1 h2 hp
  go_enter Try.func8, Try.ntmps8
  go_wp2_with fail
  refine C.out.mono ?_
  rintro e w1 ⟨rfl, hb1⟩
  have B1 := hidP hb1
  clear hb1
  go_wp2_with fail
  go_ret2
  exact ⟨rfl, B1.out⟩
set_option maxRecDepth 100000 in
theorem zero_Factor {vf vd : Value} {q : Nat} {f : List Int} {w : World} (hf : SeesI w vf f) (hlf : f.length ≤ 65536) (hq : IsP q) (hz : nf q f = []) :
    Calls Try.prog 8 #[vf, .int .i64 q, vd] w fun e w' => e = .returned (.tuple #[.slice none 0 0, .int .i64 30]) ∧ Below w.heap.size w w' := by
  have C := hidP (zero_Degrees hf hlf hq hz)
  clear hf hlf hq hz
  go_enter Try.func8, Try.ntmps8
  go_wp2_with fail
  refine C.out.mono ?_
  rintro e w1 ⟨rfl, hb1⟩
  have B1 := hidP hb1
  clear hb1
  go_wp2_with fail
  go_ret2
  exact ⟨rfl, B1.out⟩

set_option maxRecDepth 100000 in
set_option maxHeartbeats 8000000 in
theorem mod_Factor {vf vd : Value} {q : Nat} {f d : List Int} {w : World} (hf : SeesI w vf f) (hd : SeesI w vd d) (hlf : f.length ≤ 12) (hq : IsP q) (hz : nf q f ≠ []) :
    Calls Try.prog 8 #[vf, .int .i64 q, vd] w fun e w' => FactorTells q f w e w' := by
  obtain ⟨hq0, hq2⟩ := isP_bounds hq
  have CD := hidP (mod_Degrees hf (by omega) hq hz)
  have HQ := hidP hq
  obtain ⟨mF, hFl⟩ := monF_mo hq hz
  obtain ⟨L0, hL0⟩ := factors_ex hq _ (monF q f) (Nat.le_refl _) mF
  obtain ⟨c, c', hcc, hcE⟩ : ∃ c c' : Int, (c * c') % (q : Int) = 1 ∧ E q (monF q f) (psc c f) := by
    obtain ⟨c, c', h1, -, -, h4, -⟩ := mon_unit hq (nf_plain hq.pos f)
    refine ⟨c, c', ?_, h4.trans ((nf_E q f).sc c)⟩
    rw [h1]; exact Int.emod_eq_of_lt (by omega) (by have := hq.1; omega)
  have HCount : Hid (∀ (m : Nat) (g h : List Int), Irr q g → E q f (pmul (ppow g m) h) → ¬ Dv q g h → m = L0.count g) := fun m g h hg e n => mult_count hq hcc hcE hL0 hg e n
  have HM := hidP mF
  have HL0 := hidP hL0
  have HZ := hidP hz
  have hnl := nf_len q f
  have HFlen := hidP hFl
  have HFv : Hid (∀ w1, Below w.heap.size w w1 → SeesI w1 vf f) := fun w1 h => SeesI.below hf h
  have HDv : Hid (∀ w1, Below w.heap.size w w1 → SeesI w1 vd d) := fun w1 h => SeesI.below hd h
  have HLf := hidP hlf
  have HNl := hidP hnl
  clear hf hd hz mF hFl hL0 hcc hcE hnl hlf hq
  go_enter Try.func8, Try.ntmps8
  go_wp2_with fail
  refine CD.out.mono ?_
  rintro e w1 ⟨ao, cap, P, rfl, hP, hPl, hPp, hb1⟩
  have B1 := hidP hb1
  have HP1 := hidP hP
  have HPl := hidP hPl
  have HPp := hidP hPp
  obtain ⟨N, hN⟩ : ∃ N, P.length = N := ⟨_, rfl⟩
  have HN := hidP hN
  have CS := hidP (mod_newSplitter (q := q) (HDv.out w1 hb1))
  rw [hN] at HP1
  rw [hN]
  have hN12 : N ≤ 12 := by have := HPl.out; have := HNl.out; have := HLf.out; omega
  clear hP hPl hPp hb1 hN CD
  go_wp2_with fail
  refine CS.out.mono ?_
  rintro e w2 ⟨bc, bp, bd, bs, rfl, hS2, hb2, hc1, hs1⟩
  have B2 := hidP (step_below B1.out hb2)
  have HP2 := hidP (HP1.out.below hb2)
  have HS2 := hidP hS2
  have HBc : Hid (w1.heap.size ≤ bc ∧ w1.heap.size ≤ bs) := ⟨hc1, hs1⟩
  clear hS2 hb2 hc1 hs1 CS HP1
  -- the world behind the splitter's variable
  obtain ⟨bB, hbB⟩ : ∃ bB, bB = w2.heap.size := ⟨_, rfl⟩
  have hYb : Below w2.heap.size w2 (w2.alloc (.cells #[.int .i64 q, vNext bc bp bd bs] 36)) := (Below.refl _ w2).alloc (Nat.le_refl _) _
  have hY1 : (w2.alloc (.cells #[.int .i64 q, vNext bc bp bd bs] 36)).cell? ⟨bB, 0, none⟩ = some (.int .i64 q) := by rw [hbB, World.cell?_alloc_at _ _ _ _ rfl]; rfl
  have hY2 : (w2.alloc (.cells #[.int .i64 q, vNext bc bp bd bs] 36)).cell? ⟨bB, 1, none⟩ = some (vNext bc bp bd bs) := by rw [hbB, World.cell?_alloc_at _ _ _ _ rfl]; rfl
  obtain ⟨Y, hYe⟩ : ∃ Y, Y = w2.alloc (.cells #[.int .i64 q, vNext bc bp bd bs] 36) := ⟨_, rfl⟩
  have hYs : bB < Y.heap.size := by rw [hYe, hbB]; simp
  rw [← hYe] at hYb hY1 hY2
  have SY := hidP (HS2.out.below hYb)
  have hlt : bc < w2.heap.size ∧ bs < w2.heap.size := by
    obtain ⟨z, -, -, hz⟩ := HS2.out.s
    exact ⟨lt_of_block HS2.out.c, lt_of_block hz⟩
  have hne : bB ≠ bc ∧ bB ≠ bs := by omega
  have HLt : Hid (bc < Y.heap.size ∧ bs < Y.heap.size) := by have := hYb.size; show _ ∧ _; omega
  have HCell : Hid (∀ wr, KeepX bc bs Y wr → wr.cell? ⟨bB, 0, none⟩ = some (.int .i64 q) ∧ wr.cell? ⟨bB, 1, none⟩ = some (vNext bc bp bd bs) ∧ bB < wr.heap.size) := fun wr h => ⟨(h.cell hYs hne.1 hne.2).trans hY1, (h.cell hYs hne.1 hne.2).trans hY2, Nat.lt_of_lt_of_le hYs h.size⟩
  have hPY := HP2.out.below hYb
  have HProd : Hid (∀ wr, KeepX bc bs Y wr → ∀ i, i < N → ∃ b o v, ao = some ⟨b, o, none⟩ ∧ wr.cell? ⟨b, o + i, none⟩ = some v ∧ (∃ a c, v = .slice a (P.getD i []).length c) ∧ ((P.getD i []).length ≠ 1 → SeesI wr v (P.getD i []))) := by
    intro wr hk i hi
    obtain ⟨vs, v1, v2, v3⟩ := keepV hPY SY.out hk
    have hNl := HN.out
    obtain ⟨b, o, ha, hc⟩ := v2.at' (by omega)
    have hs := v3 i (by omega)
    obtain ⟨a', c', e, -⟩ := SeesF.form hs
    exact ⟨b, o, _, ha, hc i (by omega), ⟨a', c', e⟩, fun hl => hs.keep2 SY.out hk hl⟩
  have BY : Hid (Below w.heap.size w Y) := step_below B2.out hYb
  have HBel : Hid (∀ wr, KeepX bc bs Y wr → Below w.heap.size w wr) := fun wr h => BY.out.trans (h.below (Nat.le_trans B1.out.size HBc.out.1) (Nat.le_trans B1.out.size HBc.out.2) BY.out.size)
  have HbB := hidP hbB
  have HYe := hidP hYe
  obtain ⟨i0, hi, hz0, hz1, hz2⟩ := info_parts info_list
  have HI := hidP hi
  have HI0 := hidP hz0
  have HI1 := hidP hz1
  have HI2 := hidP hz2
  clear hYb hY1 hY2 hYe hYs hlt hne hPY hbB hi hz0 hz1 hz2
  unfold vSpl vNext
  unfold vNext at HYe
  go_wp2_with fail
  rw [← HbB.out, ← HYe.out]
  go_loopw [10, 30] (fun v10 v30 wr => ∃ i : Nat, v30 = .int .i64 i ∧ i ≤ N ∧ Hid (∃ (l : List (List Int)) (κ : Nat), Spl q bc bp bd bs κ wr ∧ KeepX bc bs Y wr ∧ OwnsS Y.heap.size wr v10 l ∧ Cnt L0 l i [] ∧ l.length ≤ i * 65536 ∧ κ ≤ i * 2748779069460)) (fun _ v _ => N - (intOf v).toNat)
  case atStart => exact ⟨0, rfl, Nat.zero_le _, [], 0, SY.out, KeepX.refl Y, OwnsS.nil _ _, Cnt.start HL0.out.irr, Nat.zero_le _, Nat.zero_le _⟩
  case round =>
    obtain ⟨i, rfl, hi, hX⟩ := hrel
    obtain ⟨l, κ, x1, x2, x3, x4, x5, x6⟩ := hX.out
    by_cases hlt : i < N
    · obtain ⟨bP, oP, vP, p1, p2, ⟨aP, cP, p3⟩, p4⟩ := HProd.out wr x2 i hlt
      subst p1 p3
      have hpart := HPp.out i (by have := HN.out; omega)
      have hPle : (P.getD i []).length ≤ 12 := by
        have h1 := part_le HQ.out HM.out hpart
        have := HFlen.out; have := HNl.out; have := HLf.out; omega
      obtain ⟨q1, q2, q3⟩ := HCell.out wr x2
      unfold vNext at q2
      have CF := hidP (mod_factors HQ.out (D := i) (by omega) _ _ (P.getD i []) κ wr (Nat.le_refl _) (by omega) x1 ⟨aP, cP, rfl⟩ p4 hpart.mo hpart.sq (fun g hg hd => ((hpart.dv g hg).1 hd).2) (by omega))
      have HPart := hidP hpart
      have HX1 := hidP x1
      have HX2 := hidP x2
      have HX3 := hidP x3
      have HX4 := hidP x4
      have HX56 := hidP (And.intro x5 x6)
      have HPle := hidP hPle
      have hk1 : IntKind.i64.wrap ((i : Int) + 1) = (i : Int) + 1 := by rw [IntKind.wrap_i64]; omega
      have hiN : (i : Int) < (N : Int) := by omega
      unfold vSpl vNext at CF
      clear hX x1 x2 x3 x4 x5 x6 p4 hpart hPle
      go_wp2_with fail
      refine CF.out.mono ?_
      rintro e w3 ⟨vF, Fs, κ', rfl, f1, f2, f3, f4, f5⟩
      have hlt2 := HLt.out
      have hoF := f1
      have hsF := f1.owns.sees (by have := f2.len HQ.out HPart.out.mo; have := HPle.out; omega)
      obtain ⟨aF, cF, eF, -⟩ := hsF.form
      have hirr : ∀ g ∈ l, g.length ≠ 1 := fun g hg => by
        have h1 := HX4.out g
        have h2 : 0 < l.count g := List.count_pos_iff.2 hg
        have h3 : g ∈ L0 := by
          rw [h1] at h2
          split at h2
          · exact List.count_pos_iff.1 h2
          · omega
        have := (HL0.out.irr g h3).two; omega
      have hA : 0 < Fs.length → ∀ g, u10.ownBlock = some g → vF.ownBlock ≠ some g := fun hp g hg e => by
        obtain ⟨vs, h1, h2, -⟩ := f1
        obtain ⟨vs', h1', h2', -⟩ := HX3.out
        have := (h2.lt g e).1
        have := (h2'.lt g hg).2
        omega
      have hSt : FacSt q bc bp bd bs κ' Y w3 vF u10 Fs l := ⟨f3, HX2.out.trans f5, HX3.out.keep HX1.out f5 hlt2.1 hlt2.2 hirr, hsF, hA⟩
      have hFl := f2.len HQ.out HPart.out.mo
      have HSt := hidP hSt
      have Hf2 := hidP f2
      have Hκ := hidP f4
      subst eF
      obtain ⟨nF, hnF⟩ : ∃ nF, Fs.length = nF := ⟨_, rfl⟩
      have HnF := hidP hnF
      rw [hnF] at HSt hFl
      rw [hnF]
      have hnF12 : nF ≤ 12 := by have := HPle.out; omega
      have HC0 : Hid (∃ l', FacSt q bc bp bd bs κ' Y w3 (.slice aF nF cF) u10 Fs l' ∧ Cnt L0 l' i (Fs.take 0) ∧ l'.length ≤ i * 65536 + 0 * 4096) := ⟨l, HSt.out, HX4.out, by have := HX56.out; omega⟩
      have HK56 : Hid (κ' ≤ (i + 1) * 2748779069460) := by have := HX56.out; have := HPle.out; show _ ≤ _; omega
      clear f1 f2 f3 f4 f5 hlt2 hoF hsF hirr hA hSt hFl hnF CF HX1 HX2 HX3 HX4 HSt Hκ q1 q2 q3
      go_wp2_with fail
      go_loopw [10, 41] (fun v10 v41 wy => ∃ j : Nat, v41 = .int .i64 j ∧ j ≤ nF ∧ Hid (∃ l', FacSt q bc bp bd bs κ' Y wy (.slice aF nF cF) v10 Fs l' ∧ Cnt L0 l' i (Fs.take j) ∧ l'.length ≤ i * 65536 + j * 4096)) (fun _ v _ => nF - (intOf v).toNat)
      case atStart => exact ⟨0, rfl, Nat.zero_le _, HC0⟩
      case round =>
        clear HC0
        obtain ⟨j, rfl, hj, hX⟩ := hrel
        obtain ⟨l', y1, y2, y3⟩ := hX.out
        by_cases hlt2 : j < nF
        · obtain ⟨b2, o2, v15, r1, r2, r3⟩ := y1.F.at (i := j) (by have := HnF.out; omega)
          subst r1
          have hgm : Fs.getD j [] ∈ Fs := by rw [List.getD_eq_getElem?_getD, List.getElem?_eq_getElem (by have := HnF.out; omega)]; exact List.getElem_mem _
          have hgi := Hf2.out.irr _ hgm
          have hgl := part_len HQ.out HPart.out Hf2.out _ hgm
          have hgn := sqf_nodup HQ.out HPart.out.sq Hf2.out (j := j) (by have := HnF.out; omega)
          have htk : Fs.take (j + 1) = Fs.take j ++ [Fs.getD j []] := by
            rw [List.take_add_one, List.getElem?_eq_getElem (by have := HnF.out; omega), List.getD_eq_getElem?_getD, List.getElem?_eq_getElem (by have := HnF.out; omega)]; rfl
          obtain ⟨g, hg⟩ : ∃ g, Fs.getD j [] = g := ⟨_, rfl⟩
          rw [hg] at r3 hgi hgl hgn htk
          have hfl := HLf.out
          have CM := hidP (mod_multiplicity r3 (HFv.out wr (HBel.out wr y1.K)) (by omega) (by omega) HQ.out hgi HZ.out)
          have HSt := hidP y1
          have HCn := hidP y2
          have HLl := hidP y3
          have HGi := hidP hgi
          have HGl := hidP hgl
          have HGn := hidP hgn
          have HTk := hidP htk
          have Hr3 : Hid (∀ w4, Below wr.heap.size wr w4 → SeesI w4 v15 g) := fun w4 h => SeesI.below r3 h
          have hj1 : (j : Int) < (nF : Int) := by omega
          have hk2 : IntKind.i64.wrap ((j : Int) + 1) = (j : Int) + 1 := by rw [IntKind.wrap_i64]; omega
          obtain ⟨a15, c15, e15, -⟩ := SeesF.form r3
          subst e15
          obtain ⟨lg, hlg⟩ : ∃ lg, g.length = lg := ⟨_, rfl⟩
          rw [hlg] at Hr3 CM r2
          clear hX y1 y2 y3 r3 hgm hgi hgl hgn htk hg hfl hlg
          go_wp2_with fail
          refine CM.out.mono ?_
          rintro e w4 ⟨m, h, rfl, m1, m2, m3, m4⟩
          have Hm : Hid (m = L0.count g) := HCount.out m g h HGi.out m1 m2
          have HSt4 : Hid (FacSt q bc bp bd bs κ' Y w4 (.slice (some ⟨b2, o2, none⟩) nF cF) u10 Fs (l' ++ List.replicate 0 g)) := by
            show FacSt _ _ _ _ _ _ _ _ _ _ _ _
            rw [List.replicate_zero, List.append_nil]; exact HSt.out.below m4
          have Hr4 := hidP (Hr3.out w4 m4)
          clear m1 m2 m4 CM Hr3 HSt r2
          go_wp2_with fail
          go_loopw [10, 49] (fun v10 v49 wz => ∃ t : Nat, v49 = .int .i64 t ∧ t ≤ m ∧ Hid (FacSt q bc bp bd bs κ' Y wz (.slice (some ⟨b2, o2, none⟩) nF cF) v10 Fs (l' ++ List.replicate t g)) ∧ Hid (SeesI wz (.slice a15 lg c15) g)) (fun _ v _ => m - (intOf v).toNat)
          case atStart => exact ⟨0, rfl, Nat.zero_le _, HSt4, Hr4⟩
          case round =>
            clear HSt4 Hr4
            obtain ⟨t, rfl, ht, hX, hr⟩ := hrel
            by_cases hlt3 : t < m
            · have CC := hidP (clone_ints hr.out (by have := HGl.out; omega))
              have Hr : Hid (∀ w5, Below wr.heap.size wr w5 → SeesI w5 (.slice a15 lg c15) g) := fun w5 h => hr.out.below h
              have ht1 : (t : Int) < (m : Int) := by omega
              have hk3 : IntKind.i64.wrap ((t : Int) + 1) = (t : Int) + 1 := by rw [IntKind.wrap_i64]; omega
              have hjN : l'.length + (m + 1) ≤ 2000000 := by have := HLl.out; omega
              clear hr
              go_wp2_with fail
              refine CC.out.mono ?_
              rintro e w5 ⟨vC, gC, rfl, -, hmC, hbC⟩
              have hsC := hmC.sees
              obtain ⟨aC, cC, eC, -⟩ := SeesF.form hsC
              subst eC
              obtain ⟨lC, hlC⟩ : ∃ lC, g.length = lC := ⟨_, rfl⟩
              rw [hlC] at hsC
              rw [hlC]
              have hbW : Below w5.heap.size w5 (w5.alloc (.cells #[.slice aC lC cC] 22)) := (Below.refl _ w5).alloc (Nat.le_refl _) _
              have hStW := (hX.out.below hbC).below hbW
              obtain ⟨vs, s1, s2, s3, s4⟩ := hStW.O
              have hlen : (l' ++ List.replicate t g).length = l'.length + t := by simp
              have HOwn := hidP s2
              have HSl := hidP (seesSl s1 s4)
              have HAll := hidP s3
              have HNw := hidP (news_sl w5 (.slice aC lC cC))
              have HSzW : Hid (Y.heap.size ≤ (w5.alloc (.cells #[.slice aC lC cC] 22)).heap.size) := hStW.K.size
              have HApp : Hid (∀ v' w', w'.ownsRow Y.heap.size 22 1 v' ((l' ++ List.replicate t g).length + 1) (vs ++ [.slice aC lC cC]) → (w5.alloc (.cells #[.slice aC lC cC] 22)).grownBy w' u10.ownBlock → AllSl w' v' → (v'.ownBlock = u10.ownBlock ∨ ∃ g, v'.ownBlock = some g ∧ w5.heap.size + 1 ≤ g) → FacSt q bc bp bd bs κ' Y w' (.slice (some ⟨b2, o2, none⟩) nF cF) v' Fs (l' ++ List.replicate (t + 1) g) ∧ SeesI w' (.slice a15 lg c15) g) := fun v' w' h1 h2 h3 h4 => by
                refine ⟨?_, ?_⟩
                · have := FacSt.app hStW SY.out s1 s3 s4 s2 (SeesI.below hsC hbW) h1 h2 h3 (by
                    rcases h4 with h | ⟨g, e, h⟩
                    · exact Or.inl h
                    · exact Or.inr ⟨g, e, by simpa using h⟩)
                  rw [List.append_assoc, ← List.replicate_succ'] at this
                  exact this
                · exact SeesI.grownSl ((Hr.out w5 hbC).below hbW) s3 h2
              rw [hlen] at HOwn HApp
              have hLn : l'.length + t + 1 ≤ 2000000 := by omega
              clear hX hmC hbC hsC hlC hbW hStW s1 s2 s3 s4 hlen CC Hr
              go_wp2_with (at_builtin; refine wpList_append_sl rfl _ _ 25 rfl Y.heap.size 22 i0 24 Try.underlying25 HI.out HI0.out HI1.out HI2.out u10 (l'.length + t) vs rfl HOwn.out HSl.out HAll.out ⟨w5.heap.size, 0, none⟩ 1 1 [.slice aC lC cC] rfl rfl HNw.out ?qc1 ?qc2 ?qc3 HSzW.out ?_)
              case qc1 => intro u hu; rw [List.mem_singleton] at hu; subst hu; exact ⟨_, _, _, rfl⟩
              case qc2 => unfold maxLen; omega
              case qc3 => omega
              · intro v' w6 hown6 hgrow6 hall6 hblk6
                have HN6 := hidP (HApp.out v' w6 hown6 hgrow6 hall6 hblk6)
                have HN6a := hidP HN6.out.1
                have HN6b := hidP HN6.out.2
                clear hown6 hgrow6 hall6 hblk6 HApp HOwn HSl HAll HNw HSzW HN6
                go_wp2_with fail
                go_roundw
                case rel => exact ⟨t + 1, by go_num, by omega, HN6a, HN6b⟩
                case measure => simp [intOf]; omega
            · obtain rfl : t = m := by omega
              have HXn : Hid (∃ l', FacSt q bc bp bd bs κ' Y wr (.slice (some ⟨b2, o2, none⟩) nF cF) u10 Fs l' ∧ Cnt L0 l' i (Fs.take (j + 1)) ∧ l'.length ≤ i * 65536 + (j + 1) * 4096) := by
                refine ⟨_, hX.out, ?_, ?_⟩
                · rw [HTk.out]; exact HCn.out.next HGl.out HGn.out Hm.out
                · rw [List.length_append, List.length_replicate]; have := HLl.out; omega
              clear hX hr
              go_wp2_with fail
              go_roundw
              case rel => exact ⟨j + 1, by go_num, by omega, HXn⟩
              case measure => simp [intOf]; omega
        · obtain rfl : j = nF := by omega
          have hCa := Cnt.all HQ.out HL0.out HPart.out Hf2.out (l := l') (by
            have h1 := y2
            rw [List.take_of_length_le (by have := HnF.out; omega)] at h1
            exact h1)
          have HXn : Hid (∃ (l : List (List Int)) (κ : Nat), Spl q bc bp bd bs κ wr ∧ KeepX bc bs Y wr ∧ OwnsS Y.heap.size wr u10 l ∧ Cnt L0 l (i + 1) [] ∧ l.length ≤ (i + 1) * 65536 ∧ κ ≤ (i + 1) * 2748779069460) :=
            ⟨l', κ', y1.S, y1.K, y1.O, hCa, by omega, HK56.out⟩
          clear hX y1 y2 y3 hCa
          go_wp2_with fail
          go_roundw
          case rel => exact ⟨i + 1, by go_num, by omega, HXn⟩
          case measure => simp [intOf]; omega
    · obtain rfl : i = N := by omega
      have hpm : l.Perm L0 := Cnt.done HL0.out (N := i) (fun g hg => by
        have hi := HL0.out.irr g hg
        have : ∀ l : List (List Int), g ∈ l → Dv q g (prodL l) := fun l => by
          induction l with
          | nil => intro h; cases h
          | cons a l ih =>
            intro h
            rcases List.mem_cons.1 h with z | z
            · subst z; exact Dv.self_mul g _
            · exact (ih z).mulL a
        have h1 := irr_le HQ.out hi HM.out ((this L0 hg).congr HL0.out.eq.symm)
        have := HFlen.out; have := HPl.out; have := HN.out; omega) x4
      have hl12 : l.length ≤ 12 := by
        have h1 := HL0.out.len HQ.out HM.out
        have h2 := hpm.length_eq
        have := HFlen.out; have := HNl.out; have := HLf.out; omega
      have CSo := hidP (sort_small x3 hl12)
      have HX2 := hidP x2
      have HX3 := hidP x3
      have HPm := hidP hpm
      have Hl12 := hidP hl12
      obtain ⟨a10, c10, e10, -⟩ := (x3.owns.sees (by omega)).form
      subst e10
      obtain ⟨nl, hnl⟩ : ∃ nl, l.length = nl := ⟨_, rfl⟩
      rw [hnl] at CSo HX3
      unfold vCmp at CSo
      clear hX x1 x2 x3 x4 x5 x6 hpm hl12
      rw [hnl]
      clear hnl
      go_wp2_with fail
      refine CSo.out.mono ?_
      rintro e w7 ⟨rfl, L', a1, a2, a3, a4⟩
      have HR : Hid (FactorTells q f w (.returned (.tuple #[.slice a10 nl c10, .int .i64 0])) w7) := by
        refine ⟨_, L', rfl, a1.owns.sees (by have := a2.length_eq; have := Hl12.out; omega), HL0.out.of_perm (a2.trans HPm.out), a3, HBel.out w7 ?_⟩
        obtain ⟨vs, b1, b2, -⟩ := HX3.out
        exact HX2.out.grownOwn a4 (fun g e => (b2.lt g e).1)
      clear a1 a2 a3 a4
      go_wp2_with fail
      go_ret2
      exact HR.out
end Go.Proofs.Ytokdcgmjpnanoaa
