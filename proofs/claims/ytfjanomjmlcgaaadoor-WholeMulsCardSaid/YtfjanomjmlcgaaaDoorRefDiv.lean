/- The document's DivMod by its contract. -/
import Derived.Test.YtfjanomjmlcgaaaDoorRefTake
import Derived.Test.YtfjanomjmlcgaaaDoorRefBit
import Derived.Test.YtfjanomjmlcgaaaDoorRefInt
import Derived.Test.YtfjanomjmlcgaaaDoorSub
set_option linter.unusedVariables false
set_option linter.unusedSimpArgs false
namespace Go.Proofs.YtfjanomjmlcgaaaDoor
open Go.RowKit

theorem ref_plain' {a : Value} {l : List Nat} {w : World} (ha : Sees w a l) (hl : l.length ≤ 35184372088832) :
    Calls Tryd.prog 56 #[a] w fun e w' => ∃ v, e = .returned v ∧ Sees w' v (limbs (val l)) ∧ Below w.heap.size w w' :=
  (ref_plain a l w ha hl).mono fun _ _ h => h.sees (by have := (limbs_prefix ha.ok).2; omega)

/-- The document's Small, whatever the number. -/
theorem ref_small_any {a : Value} {l : List Nat} {w : World} (ha : Sees w a l) (hl : l.length ≤ 35184372088000) :
    Calls Tryd.prog 57 #[a] w fun e w' => ∃ (n : Nat) (b : Bool), e = .returned (.tuple #[.int .i64 n, .bool b]) ∧ Hid (b = true → n = val l ∧ n < 9223372036854775808) ∧ Hid (val l < 9223372036854775808 → b = true) ∧ Below w.heap.size w w' := by
  by_cases h : val l < 9223372036854775808
  · refine (ref_small_ok ha hl h).mono ?_
    rintro e w' ⟨rfl, hb⟩
    exact ⟨_, _, rfl, fun _ => ⟨rfl, h⟩, fun _ => rfl, hb⟩
  · refine (ref_small_no ha hl h).mono ?_
    rintro e w' ⟨rfl, hb⟩
    exact ⟨0, false, rfl, (fun e => by cases e), fun h' => absurd h' h, hb⟩

set_option maxRecDepth 100000 in
set_option maxHeartbeats 4000000 in
theorem ref_div_zero {a b : Value} {l m : List Nat} {w : World} (ha : Sees w a l) (hb : Sees w b m) (hl : l.length ≤ 35184372088000) (hm : m.length ≤ 35184372088000) (h0 : val m = 0) :
    Calls Tryd.prog 15 #[a, b] w fun e w' => e = .returned (.tuple #[.slice none 0 0, .slice none 0 0, .bool false]) ∧ Below w.heap.size w w' := by
  have HA := hid ha; have HB := hid hb
  clear ha hb
  go_enter Tryd.func15, Tryd.ntmps15
  go_wp2_with fail
  refine (ref_plain' HA.out (by omega)).mono ?_
  rintro e w1 ⟨va, rfl, hs1, hb1⟩
  have HB1 := hid (HB.out.below hb1); have B1 := hid hb1
  clear hs1 hb1 HA HB
  go_wp2_with fail
  refine (ref_plain' HB1.out (by omega)).mono ?_
  rintro e w2 ⟨vb, rfl, hs2, hb2⟩
  rw [h0, limbs_zero] at hs2
  have B2 := hid (B1.out.trans (hb2.mono B1.out.size))
  obtain ⟨ao, cap, rfl, -, -, -, -, -⟩ := hs2
  clear hb2 HB1 h0
  go_wp2
  go_ret3
  exact ⟨rfl, B2.out⟩

set_option maxRecDepth 100000 in
set_option maxHeartbeats 4000000 in
theorem ref_div_pos {a b : Value} {l m : List Nat} {w : World} (ha : Sees w a l) (hb : Sees w b m) (hl : l.length ≤ 100000) (hm : m.length ≤ 100000) (h0 : 0 < val m) :
    Calls Tryd.prog 15 #[a, b] w fun e w' => ∃ q r, e = .returned (.tuple #[q, r, .bool true]) ∧ Sees w' q (limbs (val l / val m)) ∧ Sees w' r (limbs (val l % val m)) ∧ Below w.heap.size w w' := by
  have hlp := (limbs_prefix ha.ok).2
  have hlq := (limbs_prefix hb.ok).2
  have HA := hid ha; have HB := hid hb
  clear ha hb
  go_enter Tryd.func15, Tryd.ntmps15
  go_wp2_with fail
  refine (ref_plain' HA.out (by omega)).mono ?_
  rintro e w1 ⟨va, rfl, hs1, hb1⟩
  have HB1 := hid (HB.out.below hb1); have B1 := hid hb1; have HS1 := hid hs1
  clear hs1 hb1 HA HB
  go_wp2_with fail
  refine (ref_plain' HB1.out (by omega)).mono ?_
  rintro e w2 ⟨vb, rfl, hs2, hb2⟩
  have B2 := hid (B1.out.trans (hb2.mono B1.out.size))
  have HS2 := hid (HS1.out.below hb2); have HT2 := hid hs2
  clear hb2 HB1 B1 HS1 hs2
  obtain ⟨X, hX⟩ : ∃ X, val l = X := ⟨_, rfl⟩
  obtain ⟨Y, hY⟩ : ∃ Y, val m = Y := ⟨_, rfl⟩
  rw [hX] at HS2 hlp
  rw [hY] at HT2 h0 hlq
  have HX := hid hX; have HY := hid hY
  have hpl : (limbs X).length ≤ 100000 := by omega
  have hql : (limbs Y).length ≤ 100000 := by omega
  have hq0 : 0 < (limbs Y).length := (limbs_last h0).1
  clear hX hY hl hm hlp hlq
  obtain ⟨A, cA, rfl, -, -, -, -, -⟩ := id HS2.out
  obtain ⟨B, cB, rfl, -, -, -, -, -⟩ := id HT2.out
  go_wp2_with fail
  refine (ref_small_any HS2.out (by omega)).mono ?_
  rintro e w3 ⟨x, bx, rfl, hx1, hx2, hb3⟩
  have B3 := hid (B2.out.trans (hb3.mono B2.out.size))
  have HS3 := hid (HS2.out.below hb3); have HT3 := hid (HT2.out.below hb3)
  rw [val_limbs] at hx1 hx2
  clear hb3 HS2 HT2 B2
  go_wp2_with fail
  refine (ref_small_any HT3.out (by omega)).mono ?_
  rintro e w4 ⟨y, bY, rfl, hy1, hy2, hb4⟩
  have B4 := hid (B3.out.trans (hb4.mono B3.out.size))
  have HS4 := hid (HS3.out.below hb4); have HT4 := hid (HT3.out.below hb4)
  rw [val_limbs] at hy1 hy2
  clear hb4 HS3 HT3 B3
  by_cases hboth : bx = true ∧ bY = true
  · obtain ⟨rfl, rfl⟩ := hboth
    obtain ⟨rfl, hxl⟩ := hx1.out rfl
    obtain ⟨rfl, hyl⟩ := hy1.out rfl
    obtain ⟨q, hq⟩ : ∃ q, q = x / y := ⟨_, rfl⟩
    obtain ⟨r, hr⟩ : ∃ r, r = x % y := ⟨_, rfl⟩
    have hq64 : q < 9223372036854775808 := by rw [hq]; exact Nat.lt_of_le_of_lt (Nat.div_le_self _ _) hxl
    have hr64 : r < 9223372036854775808 := by rw [hr]; exact Nat.lt_of_le_of_lt (Nat.mod_le _ _) hxl
    have eq1 : (x : Int) / (y : Int) = (q : Int) := by rw [hq]; exact (Int.natCast_ediv _ _).symm
    have er1 : (x : Int) % (y : Int) = (r : Int) := by rw [hr]; exact (Int.natCast_emod _ _).symm
    have eq2 : Int.tdiv (x : Int) (y : Int) = (q : Int) := by rw [Int.tdiv_eq_ediv_of_nonneg (by omega)]; exact eq1
    have er2 : Int.tmod (x : Int) (y : Int) = (r : Int) := by rw [Int.tmod_eq_emod_of_nonneg (by omega)]; exact er1
    have ew1 : IntKind.i64.wrap (q : Int) = (q : Int) := by rw [IntKind.wrap_i64]; omega
    have ew2 : IntKind.i64.wrap (r : Int) = (r : Int) := by rw [IntKind.wrap_i64]; omega
    have hy0 : ¬ (y : Int) = 0 := by omega
    have HQ := hid hq; have HR := hid hr
    clear hq hr hx1 hx2 hy1 hy2 hpl hql hq0
    have HC := hid (fun (n : Nat) (hn : n < 9223372036854775808) w => ref_of (n : Int) (by omega) (by omega) w)
    go_wp2
    go_region_with (go_at_call 58; refine (HC.out _ (by assumption) _).mono ?_; rw [Int.toNat_natCast]; rintro e w' ⟨v, rfl, hs, hb⟩; have HS := hid hs; have HB := hid hb; clear hs hb)
    all_goals
      rename_i wq vq HSQ HBF
      go_wp2
      go_ret3
      refine ⟨vq, v, rfl, ?_, ?_, ?_⟩
      · have h := HSQ.out.below HB.out
        have e := HQ.out
        rw [e] at h
        rw [HX.out, HY.out]
        exact h
      · have h := HS.out
        have e := HR.out
        rw [e] at h
        rw [HX.out, HY.out]
        exact h
      · exact B4.out.drew.trans ((HBF.out.trans (HB.out.mono HBF.out.size)).mono B4.out.drew.size)
  · have hnb : bitsN X ≤ 32 * (limbs X).length := by
      rcases Nat.eq_zero_or_pos X with hz | hz
      · rw [hz]; unfold bitsN; simp
      · have h3 := bitsN_limbs hz
        have h4 := bitsN_le ((limbs_ok X).getD ((limbs X).length - 1))
        have h5 := (limbs_last hz).1
        omega
    have hXlt : X < 2 ^ bitsN X := by
      unfold bitsN
      by_cases hz : X = 0
      · subst hz; simp
      · rw [if_neg hz]; exact Nat.lt_log2_self
    obtain ⟨nb, hnbe⟩ : ∃ nb, bitsN X = nb := ⟨_, rfl⟩
    rw [hnbe] at hnb hXlt
    have HNB := hid hnbe; have HXLT := hid hXlt
    obtain ⟨p, hp⟩ : ∃ p, limbs X = p := ⟨_, rfl⟩
    obtain ⟨q, hq⟩ : ∃ q, limbs Y = q := ⟨_, rfl⟩
    have hvp : val p = X := by rw [← hp, val_limbs]
    have hvq : val q = Y := by rw [← hq, val_limbs]
    rw [hp] at HS4 hpl hnb
    rw [hq] at HT4 hql hq0
    simp only [hp, hq]
    have HVP := hid hvp; have HVQ := hid hvq
    have hmk1 := run_make_row' (P := Tryd.prog) 22 57 (.int .u32 0) 4 Tryd.underlying22 info_u32 rfl .i64 .i64 p.length (by omega) (by omega)
    have hmk2 := run_make_row' (P := Tryd.prog) 22 57 (.int .u32 0) 4 Tryd.underlying22 info_u32 rfl .i64 .i64 (q.length + 1) (by omega) (by omega)
    rw [show ((q.length + 1 : Nat) : Int) = (q.length : Int) + 1 by omega] at hmk2
    obtain ⟨gQ, hgQ⟩ : ∃ g, g = w4.heap.size := ⟨_, rfl⟩
    obtain ⟨gR, hgR⟩ : ∃ g, g = w4.heap.size + 1 := ⟨_, rfl⟩
    obtain ⟨w5, hw5⟩ : ∃ x, x = (w4.alloc (.cells (madeCells #[Value.int .u32 0] p.length) 57)).alloc (.cells (madeCells #[Value.int .u32 0] (q.length + 1)) 57) := ⟨_, rfl⟩
    have Q5 : Hid (Row w5 gQ (List.replicate p.length 0)) := by rw [hw5, hgQ]; exact (Row.made w4 _).alloc _
    have R5 : Hid (Row w5 gR (List.replicate (q.length + 1) 0)) := by
      rw [hw5, hgR]
      have := Row.made (w4.alloc (.cells (madeCells #[Value.int .u32 0] p.length) 57)) (q.length + 1)
      rw [Deep.nblk_alloc] at this
      exact this
    have hb5 : Below w4.heap.size w4 w5 := by rw [hw5]; exact ((Below.refl _ w4).alloc (Nat.le_refl _) _).alloc (by simp) _
    have B5 := hid (B4.out.trans (hb5.mono B4.out.size))
    have HS5 := hid (HS4.out.below hb5); have HT5 := hid (HT4.out.below hb5)
    have HG : Hid (gQ ≠ gR ∧ w.heap.size ≤ gQ ∧ w.heap.size ≤ gR) := by have := B4.out.size; refine ⟨?_, ?_, ?_⟩ <;> omega
    have HAL := hid (fun (h : 0 < p.length) (a' : Addr) (e : A = some a') => (e ▸ HS4.out : Sees w4 (.slice (some a') p.length cA) p).lt h)
    have HBL := hid (fun (a' : Addr) (e : B = some a') => (e ▸ HT4.out : Sees w4 (.slice (some a') q.length cB) q).lt hq0)
    have HGS : Hid (w4.heap.size ≤ gQ ∧ w4.heap.size ≤ gR) := by constructor <;> omega
    have HW5 := hid hw5.symm; have HGQ := hid hgQ.symm; have HGR := hid hgR.symm
    have HNOT := hid hboth
    clear hw5 hgQ hgR hb5 hp hq hvp hvq hXlt hnbe hx1 hx2 hy1 hy2 hboth HS4 HT4
    cases bx <;> cases bY
    all_goals first
      | (exact absurd ⟨rfl, rfl⟩ HNOT.out)
      | skip
    all_goals
      clear HNOT
      go_wp2_with fail
      rw [HW5.out, HGR.out, HGQ.out]
      clear HW5 HGR HGQ hmk1 hmk2
      refine (ref_bits _ _ _ HS5.out (by omega)).mono ?_
      rintro e w6 ⟨rfl, hb6⟩
      rw [HVP.out, HNB.out]
      have Q6 := hid (Q5.out.below hb6 Q5.out.lt); have R6 := hid (R5.out.below hb6 R5.out.lt)
      have HS6 := hid (HS5.out.below hb6); have HT6 := hid (HT5.out.below hb6)
      have B6 := hid (B5.out.trans (hb6.mono B5.out.size))
      clear hb6 Q5 R5 HS5 HT5 B5 B4
      go_wp2
      have L0 : Hid (RefTo X Y nb (List.replicate (q.length + 1) 0) (List.replicate p.length 0)) := RefTo.start HXLT.out
      clear HXLT
      go_loopg [13] nb (fun gh v13 wr => ∃ (z : Int) (r qs : List Nat), v13 = .int .i64 z ∧ Hid (z + 1 = gh) ∧ gh ≤ nb ∧ Hid (RefTo X Y gh r qs) ∧ Hid (r.length = q.length + 1) ∧ Hid (qs.length = p.length) ∧ Hid (Row wr gR r) ∧ Hid (Row wr gQ qs) ∧ Hid (Sees wr (.slice A p.length cA) p) ∧ Hid (Sees wr (.slice B q.length cB) q) ∧ Hid (Below w.heap.size w wr))
      case atStart => exact ⟨_, _, _, rfl, (by show _ = _; omega), Nat.le_refl _, L0, (by show _ = _; simp), (by show _ = _; simp), R6, Q6, HS6, HT6, B6⟩
      case round =>
        clear L0 R6 Q6 HS6 HT6 B6
        obtain ⟨z, r, qs, rfl, hz1, hkn, href, hrl, hql2, hrR, hrQ, hsA, hsB, hbel⟩ := hrel
        cases gk with
        | zero =>
          have hz2 : z = -1 := by have := hz1.out; omega
          subst hz2
          have htot := href.out.total
          have hr1 := hrl.out
          have hq1 := hql2.out
          have hqs : Sees wr (.slice (some ⟨gQ, 0, none⟩) p.length p.length) qs := by
            have := hrQ.out.sees href.out.okq 0 p.length p.length (by omega) (Nat.le_refl _) (by omega)
            rwa [List.drop_zero, List.take_of_length_le (by omega)] at this
          have hrs : Sees wr (.slice (some ⟨gR, 0, none⟩) (q.length + 1) (q.length + 1)) r := by
            have := hrR.out.sees href.out.okr 0 (q.length + 1) (q.length + 1) (by omega) (Nat.le_refl _) (by omega)
            rwa [List.drop_zero, List.take_of_length_le (by omega)] at this
          have HQS := hid hqs; have HRS := hid hrs; have HT := hid htot
          have hb1 : qs.length ≤ 100000 := by omega
          have hb2 : r.length ≤ 100001 := by omega
          clear hz1 href hrl hql2 hrR hrQ hsA hsB htot hqs hrs hr1 hq1
          go_wp2_with fail
          refine (ref_plain' HQS.out (by omega)).mono ?_
          rintro e w7 ⟨v7, rfl, hs7, hb7⟩
          have HS7 := hid hs7; have HRS7 := hid (HRS.out.below hb7)
          have B7 := hid (hbel.out.trans (hb7.mono hbel.out.size))
          clear hs7 hb7 HQS HRS
          go_wp2_with fail
          refine (ref_plain' HRS7.out (by omega)).mono ?_
          rintro e w8 ⟨v8, rfl, hs8, hb8⟩
          have HS8 := hid hs8; have HS78 := hid (HS7.out.below hb8)
          have B8 := hid (B7.out.trans (hb8.mono B7.out.size))
          clear hs8 hb8 HS7 HRS7 B7
          go_wp2
          go_ret3
          refine ⟨v7, v8, rfl, ?_, ?_, B8.out⟩
          · have h1 := HS78.out
            have h2 := HT.out.1
            rw [h2] at h1
            rw [HX.out, HY.out]
            exact h1
          · have h1 := HS8.out
            have h2 := HT.out.2
            rw [h2] at h1
            rw [HX.out, HY.out]
            exact h1
        | succ k =>
          have hz2 : z = (k : Int) := by have := hz1.out; omega
          subst hz2
          clear hz1
          obtain ⟨b, hbe⟩ : ∃ b, X / 2 ^ k % 2 = b := ⟨_, rfl⟩
          have hb1 : b ≤ 1 := by omega
          have hrlen := hrl.out
          have hqlen := hql2.out
          have hpush := href.out.pushed h0
          rw [hbe] at hpush
          have hYlt : Y < 4294967296 ^ q.length := by have := val_lt hsB.out.ok; rwa [HVQ.out] at this
          have hfit : 2 * val r + b < 4294967296 ^ r.length := by
            rw [hrlen, Nat.pow_succ]
            omega
          have HFIT := hid hfit; have HBE := hid hbe
          have CB := hid (ref_bit A cA p k (k / 32) (k % 32) b wr hsA.out (by omega) (by omega) (by omega) (by rw [HVP.out]; exact hbe))
          have CP := ref_push gR (q.length + 1) b r wr hrR.out href.out.okr hb1 (by omega)
          rw [hrlen] at CP
          have HCP := hid CP
          clear hbe hpush hYlt hfit CP
          go_wp2_with fail
          refine CB.out.mono ?_
          rintro e w7 ⟨rfl, rfl⟩
          go_wp2_with fail
          refine HCP.out.mono ?_
          rintro e w8 ⟨t, c, rfl, hpt, hr8, hg8⟩
          obtain ⟨hv8, hok8, hl8⟩ := PushTo.total hpt HFIT.out
          have R8 := hid hr8
          have Q8 := hid (hrQ.out.grown hg8 (by simp; have := HG.out; omega))
          have SA8 : Hid (Sees w8 (.slice A p.length cA) p) := by
            by_cases hp0 : 0 < p.length
            · exact hsA.out.grown hg8 (fun a' e => by have := HAL.out hp0 a' e; have := HGS.out; omega)
            · exact hsA.out.any hp0 _
          have SB8 : Hid (Sees w8 (.slice B q.length cB) q) := hsB.out.grown hg8 (fun a' e => by have := HBL.out a' e; have := HGS.out; omega)
          have B8 : Hid (Below w.heap.size w w8) := hbel.out.grown hg8 hbel.out.size (fun k' e => by simp at e; have := HG.out; omega)
          have hl8' : t.length = q.length + 1 := by omega
          have hts : Sees w8 (.slice (some ⟨gR, 0, none⟩) t.length t.length) t := by
            have := hr8.sees hok8 0 t.length t.length (by omega) (Nat.le_refl _) (by omega)
            rwa [List.drop_zero, List.take_of_length_le (by omega)] at this
          have CC := ref_cmp _ _ _ _ _ _ w8 hts SB8.out
          rw [hl8', HVQ.out] at CC
          have HCC := hid CC
          have HV8 := hid hv8; have HO8 := hid hok8; have HL8 := hid hl8'
          clear hpt hr8 hg8 CB HCP hrQ hsA hsB hbel hrR hv8 hok8 hl8 hl8' hts CC HFIT
          rcases Nat.lt_or_ge (val t) Y with hlt | hge
          · rw [cmpI_lt hlt] at HCC
            have HREF := hid (href.out.less h0 HO8.out (by rw [HV8.out, HBE.out]) hlt)
            clear hlt
            go_wp2_with fail
            refine HCC.out.mono ?_
            rintro e w9 ⟨rfl, rfl⟩
            go_wp2
            go_roundg k
            case rel => exact ⟨(k : Int) - 1, t, qs, by go_num, (by show _ = _; omega), by omega, HREF, HL8, hql2, R8, Q8, SA8, SB8, B8⟩
            case measure => omega
          · have hz0 : 0 ≤ cmpI (val t) Y := by unfold cmpI; rw [if_neg (by omega)]; split <;> decide
            generalize cmpI (val t) Y = zc at hz0 HCC
            have HGE := hid hge
            have CT := ref_take gR (q.length + 1) B cB t q w8 R8.out HO8.out SB8.out (fun _ a' e => by have := HBL.out a' e; have := HGS.out; omega) (by have := HL8.out; omega) (by have := HL8.out; omega)
            rw [HL8.out, HVQ.out] at CT
            have HCT := hid CT
            clear hge CT
            go_wp2_with fail
            refine HCC.out.mono ?_
            rintro e w9 ⟨rfl, rfl⟩
            go_wp2_with fail
            refine HCT.out.mono ?_
            rintro e w10 ⟨u, c2, rfl, htk, hr10, hg10⟩
            have hv10 := TakeFrom.total htk rfl HGE.out
            have R10 := hid hr10
            have Q10 := hid (Q8.out.grown hg10 (by simp; have := HG.out; omega))
            have SA10 : Hid (Sees w10 (.slice A p.length cA) p) := by
              by_cases hp0 : 0 < p.length
              · exact SA8.out.grown hg10 (fun a' e => by have := HAL.out hp0 a' e; have := HGS.out; omega)
              · exact SA8.out.any hp0 _
            have SB10 : Hid (Sees w10 (.slice B q.length cB) q) := SB8.out.grown hg10 (fun a' e => by have := HBL.out a' e; have := HGS.out; omega)
            have B10 : Hid (Below w.heap.size w w10) := B8.out.grown hg10 B8.out.size (fun k' e => by simp at e; have := HG.out; omega)
            have HU1 : Hid (u.length = q.length + 1) := by have h1 := htk.part.len; have h2 := HL8.out; show _ = _; omega
            have HUO := hid htk.part.ok
            obtain ⟨j, h, hkj, hh⟩ : ∃ j h, k = 32 * j + h ∧ h < 32 := ⟨k / 32, k % 32, by omega, by omega⟩
            have hjl : j < p.length := by omega
            have hroom := limb_room (m := X / 2 ^ (k + 1) / Y) href.out.okq (by omega : j < qs.length) hh (by rw [href.out.quot, hkj])
            have hca := Q10.out.cell (i := j) (by omega)
            have hfr := Q10.out.frozen j
            have hok2 := href.out.okq.getD j
            have hmore := fun q2 okq hq2 => href.out.more (r2 := u) (q2 := q2) h0 HUO.out okq (by rw [HV8.out, HBE.out]) HGE.out (by rw [hv10]) hq2
            have hset := val_set_add (t := qs) (i := j) (x := 2 ^ h) rfl (by omega)
            rw [limb_pow, ← hkj] at hset
            obtain ⟨P, hP⟩ : ∃ P, 2 ^ h = P := ⟨_, rfl⟩
            have hPl : P ≤ 2147483648 := by
              rw [← hP]
              have : 2 ^ h ≤ 2 ^ 31 := Nat.pow_le_pow_right (by decide) (by omega)
              simpa using this
            have eP : (2 : Int) ^ h = (P : Int) := by rw [← hP, Int.natCast_pow]; rfl
            rw [hP] at hroom hset
            obtain ⟨x2, hx2⟩ : ∃ x2, x2 = qs.getD j 0 + P := ⟨_, rfl⟩
            rw [← hx2] at hroom hset
            have HREF := hid (hmore _ (href.out.okq.set j x2 hroom) hset)
            have HRow := hid (Q10.out.set j x2)
            generalize qs.getD j 0 = u2 at *
            have emin : min h 32 = h := Nat.min_eq_left (by omega)
            have t1 : Int.tdiv (k : Int) 32 = (j : Int) := by rw [Int.tdiv_eq_ediv_of_nonneg (by omega)]; omega
            have t2 : IntKind.i64.wrap (j : Int) = (j : Int) := by rw [IntKind.wrap_i64]; omega
            have t3 : Int.tmod (k : Int) 32 = (h : Int) := by rw [Int.tmod_eq_emod_of_nonneg (by omega)]; omega
            have t4 : IntKind.i64.wrap (h : Int) = (h : Int) := by rw [IntKind.wrap_i64]; omega
            have t5 : (0 : Int) ≤ (j : Int) := by omega
            have t6 : (j : Int) < (p.length : Int) := by omega
            have t7 : (0 : Int) ≤ (h : Int) := by omega
            have t8 : (P : Int) % 4294967296 = (P : Int) := by omega
            have t9 : IntKind.u32.wrap ((u2 : Int) + (P : Int)) = (x2 : Int) := by rw [IntKind.wrap_u32]; omega
            have HKJ := hid hkj
            clear htk hr10 hg10 hmore hset hP hx2 hv10 href HCC HCT hz0 hkj
            go_wp2
            go_region
            have hset2 := grownBy_set (World.grownBy.refl w10 (some gQ)) j (.int .u32 (x2 : Nat))
            have SA11 : Hid (Sees (w10.setCell ⟨gQ, j, none⟩ (.int .u32 (x2 : Nat))) (.slice A p.length cA) p) := by
              by_cases hp0 : 0 < p.length
              · exact SA10.out.grown hset2 (fun a' e => by have := HAL.out hp0 a' e; have := HGS.out; omega)
              · exact SA10.out.any hp0 _
            have SB11 : Hid (Sees (w10.setCell ⟨gQ, j, none⟩ (.int .u32 (x2 : Nat))) (.slice B q.length cB) q) := SB10.out.grown hset2 (fun a' e => by have := HBL.out a' e; have := HGS.out; omega)
            have B11 : Hid (Below w.heap.size w (w10.setCell ⟨gQ, j, none⟩ (.int .u32 (x2 : Nat)))) := B10.out.grown hset2 B10.out.size (fun k' e => by simp at e; have := HG.out; omega)
            have R11 := hid (R10.out.setOther (a := ⟨gQ, j, none⟩) (by have := HG.out; simp; omega) (.int .u32 (x2 : Nat)))
            have HQL : Hid ((qs.set j x2).length = p.length) := by show _ = _; rw [List.length_set]; exact hql2.out
            go_wp2
            go_roundg k
            case rel => exact ⟨(k : Int) - 1, u, qs.set j x2, by go_num, (by show _ = _; omega), by omega, HREF, HU1, HQL, R11.out.drew, HRow.out.drew, SA11.out, SB11.out, B11.out.drew⟩
            case measure => omega
end Go.Proofs.YtfjanomjmlcgaaaDoor
