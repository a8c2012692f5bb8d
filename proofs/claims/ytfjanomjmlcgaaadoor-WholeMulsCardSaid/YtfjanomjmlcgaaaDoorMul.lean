/- nat.addTimes, nat.Mul by their contracts. -/
import Derived.Test.YtfjanomjmlcgaaaDoorArith
import Derived.Test.YtfjanomjmlcgaaaDoorDiv1
set_option linter.unusedVariables false
set_option linter.unusedSimpArgs false
namespace Go.Proofs.YtfjanomjmlcgaaaDoor
open Go.RowKit

/-- A product of two limbs and two limbs more fit into a word. -/
theorem mul_fits (v n u c : Nat) (hv : v < 4294967296) (hn : n < 4294967296) (hu : u < 4294967296) (hc : c < 4294967296) : c + (v * n + u) < 18446744073709551616 := by
  have h : v * n ≤ 4294967295 * 4294967295 := Nat.mul_le_mul (by omega) (by omega)
  omega

theorem wrap_u64 (n : Nat) (h : n < 18446744073709551616) : IntKind.u64.wrap (n : Int) = (n : Int) := by
  rw [IntKind.wrap_u64]; omega

/-- What addTimes leaves. -/
def AddedTimes (w : World) (g o k y : Nat) (s : List Nat) (e : Ending) (w' : World) : Prop :=
  ∃ t c, e = .returned (.int .u32 (c : Nat)) ∧ AddMul s o k y t c ∧ Row w' g t ∧ w.grownBy w' (some g)

set_option maxRecDepth 100000 in
set_option maxHeartbeats 2000000 in
theorem nat_addTimes (g o n cap : Nat) (B : Option Addr) (cb : Nat) (s m : List Nat) (f : Nat) (w : World) (hr : Row w g s) (hs : Ok s) (hb : Sees w (.slice B m.length cb) m) (hne : 0 < m.length → ∀ a, B = some a → a.block ≠ g)
    (hmn : m.length ≤ n) (hn : o + n ≤ s.length) (hsl : s.length ≤ 70368744177664) (hf : f < 4294967296) :
    Calls Tryd.prog 70 #[.slice (some ⟨g, o, none⟩) n cap, .slice B m.length cb, .int .u32 f] w fun e w' => AddedTimes w g o m.length (val m * f) s e w' := by
  have HR := hid hr; have HS := hid hs; have HB := hid hb; have HN := hid hne
  clear hr hs hb hne
  have H0 : Hid (AddMul s o 0 (valF (fun i => m.getD i 0) 0 * f) s 0) := by
    have h0 : valF (fun i => m.getD i 0) 0 * f = 0 := Nat.zero_mul f
    show AddMul s o 0 (valF (fun i => m.getD i 0) 0 * f) s 0
    rw [h0]; exact AddMul.start HS.out o
  have H0 : Hid (AddMul s o 0 (valF (fun i => m.getD i 0) 0 * f) s 0) := by
    have h0 : valF (fun i => m.getD i 0) 0 * f = 0 := Nat.zero_mul f
    show AddMul s o 0 (valF (fun i => m.getD i 0) 0 * f) s 0
    rw [h0]; exact AddMul.start HS.out o
  go_enter Tryd.func70, Tryd.ntmps70
  go_wp2
  go_loopw [7, 11] (fun v7 v wr => ∃ (k c : Nat) (t : List Nat), k ≤ m.length ∧ v = .int .i64 k ∧ v7 = .int .u64 c ∧ c < 4294967296 ∧ Hid (AddMul s o k (valF (fun i => m.getD i 0) k * f) t c) ∧ Hid (Row wr g t) ∧ Hid (w.grownBy wr (some g))) (fun _ v _ => m.length - (intOf v).toNat)
  case atStart => exact ⟨0, 0, s, Nat.zero_le _, rfl, rfl, by omega, H0, HR, World.grownBy.refl _ _⟩
  case round =>
    obtain ⟨k, c, t, hk, rfl, rfl, hc1, ha, hrow, hg⟩ := hrel
    by_cases hlt : k < m.length
    · obtain ⟨b2, o2, rfl, hcb'⟩ := HB.out.at (by omega)
      have hcb := hg.out.cell (hcb' k hlt) (by have := HN.out (by omega) _ rfl; simpa using this)
      have htl := ha.out.part.len
      have hca := hrow.out.cell (i := o + k) (by omega)
      have hfr := hrow.out.frozen (o + k)
      have hox := ha.out.part.ok.getD (o + k)
      have hob := HB.out.ok.getD k
      have hsame := ha.out.part.out (o + k) (.inr (by omega))
      have hstep := ha.out.step (by omega) (m.getD k 0 * f)
      rw [← hsame] at hstep
      have hval : valF (fun i => m.getD i 0) k * f + 4294967296 ^ k * (m.getD k 0 * f) = valF (fun i => m.getD i 0) (k + 1) * f := by
        simp only [valF]; rw [Nat.add_mul, Nat.mul_assoc]
      rw [hval] at hstep
      have HST := hid hstep
      have hkn : k < n := by omega
      clear hstep hsame hcb' hval
      generalize t.getD (o + k) 0 = u at *
      generalize m.getD k 0 = v at *
      have hfit := mul_fits v f u c hob hf hox hc1
      obtain ⟨z, hz⟩ : ∃ z, z = v * f := ⟨_, rfl⟩
      have ez : IntKind.u64.wrap ((v : Int) * (f : Int)) = (z : Int) := by rw [hz, ← Int.natCast_mul]; exact wrap_u64 _ (by omega)
      rw [← hz] at hfit HST
      clear hz
      obtain ⟨T, hT⟩ : ∃ T, T = c + (z + u) := ⟨_, rfl⟩
      have e1 : IntKind.u64.wrap ((z : Int) + (u : Int)) = (z : Int) + u := by have := wrap_u64 (z + u) (by omega); simpa using this
      have e2 : IntKind.u64.wrap ((c : Int) + ((z : Int) + u)) = (T : Int) := by have := wrap_u64 T (by omega); rw [hT] at this ⊢; simpa using this
      obtain ⟨x, d, hx, hd, hxd, em, ed⟩ : ∃ x d : Nat, x < 4294967296 ∧ d < 4294967296 ∧ Hid (u + z + c = x + 4294967296 * d) ∧ (T : Int) % 4294967296 = (x : Int) ∧ (T : Int) / 4294967296 = (d : Int) :=
        ⟨T % 4294967296, T / 4294967296, by omega, by omega, by show _ = _; omega, by omega, by omega⟩
      have HStep := hid (HST.out x d hx hd hxd.out)
      have HRow := hid (hrow.out.set (o + k) x)
      have HG := hid (grownBy_set (i := o + k) (v := .int .u32 (x : Nat)) hg.out)
      have HT := hid hT; have HFIT := hid hfit
      clear hT hfit HST hxd
      go_wp2
      go_quiet (fail)
      go_wp2
      go_roundw
      case rel => exact ⟨k + 1, d, t.set (o + k) x, by omega, by go_num, by first | rfl | rw [ed], hd, HStep, HRow, by first | exact HG | exact grownBy_drewN HG.out _ | exact grownBy_drew HG.out⟩
      case measure => simp [intOf]; omega
    · obtain rfl : k = m.length := by omega
      have hv : valF (fun i => m.getD i 0) m.length = val m := (val_valF m m.length (Nat.le_refl _)).symm
      rw [hv] at ha
      clear hv
      go_wp2
      go_ret
      exact ⟨t, c, rfl, ha.out, hrow.out, hg.out⟩

/-- An empty number is there in every world. -/
theorem Sees.any {w : World} {v : Value} {l : List Nat} (h : Sees w v l) (h0 : ¬ 0 < l.length) (w' : World) : Sees w' v l := by
  obtain ⟨ao, cap, h1, h2, h3, h4, hn0, h5⟩ := h
  exact ⟨ao, cap, h1, h2, h3, h4, hn0, fun hp => absurd hp h0⟩

set_option maxRecDepth 100000 in
set_option maxHeartbeats 4000000 in
theorem nat_mul (a b : Option Addr) (la ca lb cb : Nat) (l m : List Nat) (w : World) (ha : Sees w (.slice a la ca) l) (hb : Sees w (.slice b lb cb) m) (hl : l.length ≤ 17592186044416) (hm : m.length ≤ 17592186044416) :
    Calls Tryd.prog 21 #[.slice a la ca, .slice b lb cb] w fun e w' => IsNum w (val l * val m) e w' := by
  have hlen1 := (limbs_prefix ha.ok).2
  have hlen2 := (limbs_prefix hb.ok).2
  go_enter Tryd.func21, Tryd.ntmps21
  go_wp2_with fail
  refine (trim_sees _ _ _ _ _ ha).mono ?_
  rintro e w' ⟨⟨A, rfl, hA, -⟩, rfl⟩
  have HA := hid hA; clear hA
  go_wp2_with fail
  refine (trim_sees _ _ _ _ _ hb).mono ?_
  rintro e w' ⟨⟨B, rfl, hB, -⟩, rfl⟩
  have HB := hid hB; clear hB ha hb
  obtain ⟨p, hp⟩ : ∃ p, limbs (val l) = p := ⟨_, rfl⟩
  obtain ⟨q, hq⟩ : ∃ q, limbs (val m) = q := ⟨_, rfl⟩
  rw [hp] at HA hlen1
  rw [hq] at HB hlen2
  simp only [hp, hq]
  have hvp : val p = val l := by rw [← hp, val_limbs]
  have hvq : val q = val m := by rw [← hq, val_limbs]
  have HP := hid hvp; have HQ := hid hvq
  have hp1 : p.length ≤ 17592186044416 := by omega
  have hq1 : q.length ≤ 17592186044416 := by omega
  clear hlen1 hlen2 hl hm hp hq hvp hvq
  by_cases h : q.length < p.length
  · have hmk := run_make_row' (P := Tryd.prog) 22 57 (.int .u32 0) 4 Tryd.underlying22 info_u32 rfl .i64 .i64 (q.length + p.length) (by omega) (by omega)
    have ec : ((q.length + p.length : Nat) : Int) = (q.length : Int) + p.length := by omega
    rw [ec] at hmk
    clear ec
    obtain ⟨w1, hw1⟩ : ∃ w1, w1 = w.alloc (.cells (madeCells #[Value.int .u32 0] (q.length + p.length)) 57) := ⟨_, rfl⟩
    have hbel : Below w.heap.size w w1 := by rw [hw1]; exact (Below.refl _ w).alloc (Nat.le_refl _) _
    have hrow0 : Row w1 w.heap.size (List.replicate (q.length + p.length) 0) := by rw [hw1]; exact Row.made w _
    have HW := hid hw1.symm; have HBEL := hid hbel; have HROW0 := hid hrow0
    have HA1 := hid (HB.out.below hbel); have HB1 := hid (HA.out.below hbel)
    have HAL := hid (fun (h : 0 < q.length) (a : Addr) (e : B = some a) => (e ▸ HB.out : Sees w (.slice (some a) q.length q.length) q).lt h)
    have HBL := hid (fun (h : 0 < p.length) (a : Addr) (e : A = some a) => (e ▸ HA.out : Sees w (.slice (some a) p.length p.length) p).lt h)
    clear hw1 hbel hrow0
    go_wp2
    go_loopw [26] (fun v wr => ∃ (i : Nat) (t : List Nat), i ≤ q.length ∧ v = .int .i64 i ∧ Hid (MulTo q p (q.length + p.length) i t) ∧ Hid (Row wr w.heap.size t) ∧ Hid (w1.grownBy wr (some w.heap.size))) (fun v _ => q.length - (intOf v).toNat)
    case atStart => exact ⟨0, _, Nat.zero_le _, rfl, MulTo.start _ _ _, by rw [HW.out]; exact HROW0, by rw [HW.out]; exact World.grownBy.refl _ _⟩
    case round =>
      obtain ⟨i, t, hi, rfl, hm, hrow, hg⟩ := hrel
      by_cases hlt : i < q.length
      · obtain ⟨b1, o1, rfl, hc'⟩ := HA1.out.at (by omega)
        have hne : b1 < w.heap.size := HAL.out (by omega) _ rfl
        have hca := hg.out.cell (hc' i hlt) (by simp; omega)
        have hfk := HA1.out.ok.getD i
        have htl := hm.out.len
        have hstep := fun t' c => @MulTo.step q p t t' (q.length + p.length) i c (q.getD i 0) hm.out (by omega) rfl
        have hbr : Sees wr (.slice A p.length p.length) p := by
          by_cases h0 : 0 < p.length
          · exact HB1.out.grown hg.out (fun a e => by have := HBL.out h0 a e; omega)
          · exact HB1.out.any h0 _
        have HSTEP := hid hstep; have HTL := hid htl
        generalize q.getD i 0 = f at *
        have HCall := hid (nat_addTimes w.heap.size i (q.length + p.length - i) (q.length + p.length - i) A p.length t p f wr.drew hrow.out.drew hm.out.ok hbr (fun h a e => by have := HBL.out h a e; omega) (by omega) (by omega) (by omega) hfk)
        clear hc' hstep htl hne hbr HAL
        go_wp2
        go_region_with (go_at_call 70; refine HCall.out.mono ?_; rintro e w2 ⟨t', c, rfl, ham, hrow2, hg2⟩; have hft := Eq.trans ham.part.len HTL.out; have hcl := ham.lt; have hc2 := hrow2.cell (i := i + p.length) (by omega); have hf2 := hrow2.frozen (i + p.length); have HAM := hid ham; have HRW2 := hid hrow2; have HG2 := hid hg2; clear ham hrow2 hg2)
        all_goals
          have HRS := hid (HRW2.out.set (i + p.length) c)
          have HGS := hid (grownBy_set (grownBy_trans (grownBy_drew hg.out) HG2.out) (i + p.length) (.int .u32 (c : Nat)))
          have HST := hid (HSTEP.out _ _ HAM.out)
          go_wp2
          go_roundw
          case rel => exact ⟨i + 1, t'.set (i + p.length) c, by omega, by go_num, HST, HRS, HGS⟩
          case measure => simp [intOf]; omega
      · obtain rfl : i = q.length := by omega
        have htl := hm.out.len
        have hv := hm.out.total
        have hs3 : Sees wr (.slice (some ⟨w.heap.size, 0, none⟩) (q.length + p.length) (q.length + p.length)) t := by
          have := hrow.out.sees hm.out.ok 0 (q.length + p.length) (q.length + p.length) (by omega) (Nat.le_refl _) (by omega)
          rwa [List.drop_zero, List.take_of_length_le (by omega)] at this
        have HS3 := hid hs3; have HV := hid hv
        have HB5 : Hid (Below w.heap.size w wr) := HBEL.out.grown hg.out (HBEL.out.size) (fun k e => by simp at e; omega)
        clear hs3 hv htl hm
        go_wp2_with fail
        refine (trim_sees _ _ _ _ _ HS3.out).mono ?_
        rintro e w4 ⟨⟨R, rfl, hR, -⟩, rfl⟩
        have HRR := hid hR; clear hR
        go_wp2
        go_ret
        refine ⟨_, rfl, ?_, HB5.out⟩
        have e := HV.out
        rw [HP.out, HQ.out, Nat.mul_comm] at e
        rw [e] at HRR
        rw [e]
        exact HRR.out
  · have hmk := run_make_row' (P := Tryd.prog) 22 57 (.int .u32 0) 4 Tryd.underlying22 info_u32 rfl .i64 .i64 (p.length + q.length) (by omega) (by omega)
    have ec : ((p.length + q.length : Nat) : Int) = (p.length : Int) + q.length := by omega
    rw [ec] at hmk
    clear ec
    obtain ⟨w1, hw1⟩ : ∃ w1, w1 = w.alloc (.cells (madeCells #[Value.int .u32 0] (p.length + q.length)) 57) := ⟨_, rfl⟩
    have hbel : Below w.heap.size w w1 := by rw [hw1]; exact (Below.refl _ w).alloc (Nat.le_refl _) _
    have hrow0 : Row w1 w.heap.size (List.replicate (p.length + q.length) 0) := by rw [hw1]; exact Row.made w _
    have HW := hid hw1.symm; have HBEL := hid hbel; have HROW0 := hid hrow0
    have HA1 := hid (HA.out.below hbel); have HB1 := hid (HB.out.below hbel)
    have HAL := hid (fun (h : 0 < p.length) (a : Addr) (e : A = some a) => (e ▸ HA.out : Sees w (.slice (some a) p.length p.length) p).lt h)
    have HBL := hid (fun (h : 0 < q.length) (a : Addr) (e : B = some a) => (e ▸ HB.out : Sees w (.slice (some a) q.length q.length) q).lt h)
    clear hw1 hbel hrow0
    go_wp2
    go_loopw [26] (fun v wr => ∃ (i : Nat) (t : List Nat), i ≤ p.length ∧ v = .int .i64 i ∧ Hid (MulTo p q (p.length + q.length) i t) ∧ Hid (Row wr w.heap.size t) ∧ Hid (w1.grownBy wr (some w.heap.size))) (fun v _ => p.length - (intOf v).toNat)
    case atStart => exact ⟨0, _, Nat.zero_le _, rfl, MulTo.start _ _ _, by rw [HW.out]; exact HROW0, by rw [HW.out]; exact World.grownBy.refl _ _⟩
    case round =>
      obtain ⟨i, t, hi, rfl, hm, hrow, hg⟩ := hrel
      by_cases hlt : i < p.length
      · obtain ⟨b1, o1, rfl, hc'⟩ := HA1.out.at (by omega)
        have hne : b1 < w.heap.size := HAL.out (by omega) _ rfl
        have hca := hg.out.cell (hc' i hlt) (by simp; omega)
        have hfk := HA1.out.ok.getD i
        have htl := hm.out.len
        have hstep := fun t' c => @MulTo.step p q t t' (p.length + q.length) i c (p.getD i 0) hm.out (by omega) rfl
        have hbr : Sees wr (.slice B q.length q.length) q := by
          by_cases h0 : 0 < q.length
          · exact HB1.out.grown hg.out (fun a e => by have := HBL.out h0 a e; omega)
          · exact HB1.out.any h0 _
        have HSTEP := hid hstep; have HTL := hid htl
        generalize p.getD i 0 = f at *
        have HCall := hid (nat_addTimes w.heap.size i (p.length + q.length - i) (p.length + q.length - i) B q.length t q f wr.drew hrow.out.drew hm.out.ok hbr (fun h a e => by have := HBL.out h a e; omega) (by omega) (by omega) (by omega) hfk)
        clear hc' hstep htl hne hbr HAL
        go_wp2
        go_region_with (go_at_call 70; refine HCall.out.mono ?_; rintro e w2 ⟨t', c, rfl, ham, hrow2, hg2⟩; have hft := Eq.trans ham.part.len HTL.out; have hcl := ham.lt; have hc2 := hrow2.cell (i := i + q.length) (by omega); have hf2 := hrow2.frozen (i + q.length); have HAM := hid ham; have HRW2 := hid hrow2; have HG2 := hid hg2; clear ham hrow2 hg2)
        all_goals
          have HRS := hid (HRW2.out.set (i + q.length) c)
          have HGS := hid (grownBy_set (grownBy_trans (grownBy_drew hg.out) HG2.out) (i + q.length) (.int .u32 (c : Nat)))
          have HST := hid (HSTEP.out _ _ HAM.out)
          go_wp2
          go_roundw
          case rel => exact ⟨i + 1, t'.set (i + q.length) c, by omega, by go_num, HST, HRS, HGS⟩
          case measure => simp [intOf]; omega
      · obtain rfl : i = p.length := by omega
        have htl := hm.out.len
        have hv := hm.out.total
        have hs3 : Sees wr (.slice (some ⟨w.heap.size, 0, none⟩) (p.length + q.length) (p.length + q.length)) t := by
          have := hrow.out.sees hm.out.ok 0 (p.length + q.length) (p.length + q.length) (by omega) (Nat.le_refl _) (by omega)
          rwa [List.drop_zero, List.take_of_length_le (by omega)] at this
        have HS3 := hid hs3; have HV := hid hv
        have HB5 : Hid (Below w.heap.size w wr) := HBEL.out.grown hg.out (HBEL.out.size) (fun k e => by simp at e; omega)
        clear hs3 hv htl hm
        go_wp2_with fail
        refine (trim_sees _ _ _ _ _ HS3.out).mono ?_
        rintro e w4 ⟨⟨R, rfl, hR, -⟩, rfl⟩
        have HRR := hid hR; clear hR
        go_wp2
        go_ret
        refine ⟨_, rfl, ?_, HB5.out⟩
        have e := HV.out
        rw [HP.out, HQ.out] at e
        rw [e] at HRR
        rw [e]
        exact HRR.out

theorem nat_mul' {a b : Value} {l m : List Nat} {w : World} (ha : Sees w a l) (hb : Sees w b m) (hl : l.length ≤ 17592186044416) (hm : m.length ≤ 17592186044416) :
    Calls Tryd.prog 21 #[a, b] w fun e w' => ∃ v, e = .returned v ∧ Sees w' v (limbs (val l * val m)) ∧ Below w.heap.size w w' := by
  have hA := ha; have hB := hb
  obtain ⟨A, ca, rfl, -, -, -, -, -⟩ := ha
  obtain ⟨B, cb, rfl, -, -, -, -, -⟩ := hb
  exact nat_mul _ _ _ _ _ _ _ _ _ hA hB hl hm

/-- A product is no longer than both. -/
theorem mul_length {l m : List Nat} (hl : Ok l) (hm : Ok m) (j k : Nat) (h1 : l.length ≤ j) (h2 : m.length ≤ k) : (limbs (val l * val m)).length ≤ j + k := by
  apply limbs_length_le
  have hj := Nat.lt_of_lt_of_le (val_lt hl) (Nat.pow_le_pow_right (by decide) h1 : 4294967296 ^ l.length ≤ 4294967296 ^ j)
  have hk := Nat.lt_of_lt_of_le (val_lt hm) (Nat.pow_le_pow_right (by decide) h2 : 4294967296 ^ m.length ≤ 4294967296 ^ k)
  rw [Nat.pow_add]
  exact Nat.mul_lt_mul'' hj hk
end Go.Proofs.YtfjanomjmlcgaaaDoor
