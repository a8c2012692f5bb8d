/- nat.addTimes, nat.Mul by their contracts. nat.Of, limbAt, wordAt at the first place, nat.Small by their contracts. Shifts of limbs: the numbers. Long division of limbs: the numbers. No program in it. nat.takeTimes in place. nat.estimateLimb by its contract. nat.shiftUp by its contract. nat.shiftDown by its contract. nat.divideLong by its contract. nat.DivMod, whole, by its contract. -/
import Derived.Test.YtjnbonellgpjnaaGreatKB
import Derived.Test.YtjnbonellgpjnaaGreatKA
set_option linter.unusedVariables false
set_option linter.unusedSimpArgs false
namespace Go.Proofs.YtjnbonellgpjnaaGreat
open Go.RowKit

/-- A product of two limbs and two limbs more fit into a word. -/
theorem mul_fits (v n u c : Nat) (hv : v < 4294967296) (hn : n < 4294967296) (hu : u < 4294967296) (hc : c < 4294967296) : c + (v * n + u) < 18446744073709551616 := by
  have h : v * n ≤ 4294967295 * 4294967295 := Nat.mul_le_mul (by omega) (by omega)
  omega

theorem wrap_u64 (n : Nat) (h : n < 18446744073709551616) : IntKind.u64.wrap (n : Int) = (n : Int) := by
  rw [IntKind.wrap_u64]; omega

/-- What addTimes leaves. -/
def AddedTimes (w : World) (g o k y : Nat) (s : List Nat) (e : Ending) (w' : World) : Prop :=
  ∃ t c, e = .returned (.int .u32 (c : Nat)) ∧ AddMul s o k y t c ∧ Row w' g t ∧ w.grownBy w' (some g)

set_option maxRecDepth 100000 in
set_option maxHeartbeats 2000000 in
theorem nat_addTimes (g o n cap : Nat) (B : Option Addr) (cb : Nat) (s m : List Nat) (f : Nat) (w : World) (hr : Row w g s) (hs : Ok s) (hb : Sees w (.slice B m.length cb) m) (hne : 0 < m.length → ∀ a, B = some a → a.block ≠ g)
    (hmn : m.length ≤ n) (hn : o + n ≤ s.length) (hsl : s.length ≤ 70368744177664) (hf : f < 4294967296) :
    Calls Tryz.prog 135 #[.slice (some ⟨g, o, none⟩) n cap, .slice B m.length cb, .int .u32 f] w fun e w' => AddedTimes w g o m.length (val m * f) s e w' := by
  have HR := hid hr; have HS := hid hs; have HB := hid hb; have HN := hid hne
  clear hr hs hb hne
  have H0 : Hid (AddMul s o 0 (valF (fun i => m.getD i 0) 0 * f) s 0) := by
    have h0 : valF (fun i => m.getD i 0) 0 * f = 0 := Nat.zero_mul f
    show AddMul s o 0 (valF (fun i => m.getD i 0) 0 * f) s 0
    rw [h0]; exact AddMul.start HS.out o
  have H0 : Hid (AddMul s o 0 (valF (fun i => m.getD i 0) 0 * f) s 0) := by
    have h0 : valF (fun i => m.getD i 0) 0 * f = 0 := Nat.zero_mul f
    show AddMul s o 0 (valF (fun i => m.getD i 0) 0 * f) s 0
    rw [h0]; exact AddMul.start HS.out o
  go_enter Tryz.func135, Tryz.ntmps135
  go_wp2
  go_loopw [7, 11] (fun v7 v wr => ∃ (k c : Nat) (t : List Nat), k ≤ m.length ∧ v = .int .i64 k ∧ v7 = .int .u64 c ∧ c < 4294967296 ∧ Hid (AddMul s o k (valF (fun i => m.getD i 0) k * f) t c) ∧ Hid (Row wr g t) ∧ Hid (w.grownBy wr (some g))) (fun _ v _ => m.length - (intOf v).toNat)
  case atStart => exact ⟨0, 0, s, Nat.zero_le _, rfl, rfl, by omega, H0, HR, World.grownBy.refl _ _⟩
  case round =>
    obtain ⟨k, c, t, hk, rfl, rfl, hc1, ha, hrow, hg⟩ := hrel
    by_cases hlt : k < m.length
    · obtain ⟨b2, o2, rfl, hcb'⟩ := HB.out.at (by omega)
      have hcb := hg.out.cell (hcb' k hlt) (by have := HN.out (by omega) _ rfl; simpa using this)
      have htl := ha.out.part.len
      have hca := hrow.out.cell (i := o + k) (by omega)
      have hfr := hrow.out.frozen (o + k)
      have hox := ha.out.part.ok.getD (o + k)
      have hob := HB.out.ok.getD k
      have hsame := ha.out.part.out (o + k) (.inr (by omega))
      have hstep := ha.out.step (by omega) (m.getD k 0 * f)
      rw [← hsame] at hstep
      have hval : valF (fun i => m.getD i 0) k * f + 4294967296 ^ k * (m.getD k 0 * f) = valF (fun i => m.getD i 0) (k + 1) * f := by
        simp only [valF]; rw [Nat.add_mul, Nat.mul_assoc]
      rw [hval] at hstep
      have HST := hid hstep
      have hkn : k < n := by omega
      clear hstep hsame hcb' hval
      generalize t.getD (o + k) 0 = u at *
      generalize m.getD k 0 = v at *
      have hfit := mul_fits v f u c hob hf hox hc1
      obtain ⟨z, hz⟩ : ∃ z, z = v * f := ⟨_, rfl⟩
      have ez : IntKind.u64.wrap ((v : Int) * (f : Int)) = (z : Int) := by rw [hz, ← Int.natCast_mul]; exact wrap_u64 _ (by omega)
      rw [← hz] at hfit HST
      clear hz
      obtain ⟨T, hT⟩ : ∃ T, T = c + (z + u) := ⟨_, rfl⟩
      have e1 : IntKind.u64.wrap ((z : Int) + (u : Int)) = (z : Int) + u := by have := wrap_u64 (z + u) (by omega); simpa using this
      have e2 : IntKind.u64.wrap ((c : Int) + ((z : Int) + u)) = (T : Int) := by have := wrap_u64 T (by omega); rw [hT] at this ⊢; simpa using this
      obtain ⟨x, d, hx, hd, hxd, em, ed⟩ : ∃ x d : Nat, x < 4294967296 ∧ d < 4294967296 ∧ Hid (u + z + c = x + 4294967296 * d) ∧ (T : Int) % 4294967296 = (x : Int) ∧ (T : Int) / 4294967296 = (d : Int) :=
        ⟨T % 4294967296, T / 4294967296, by omega, by omega, by show _ = _; omega, by omega, by omega⟩
      have HStep := hid (HST.out x d hx hd hxd.out)
      have HRow := hid (hrow.out.set (o + k) x)
      have HG := hid (grownBy_set (i := o + k) (v := .int .u32 (x : Nat)) hg.out)
      have HT := hid hT; have HFIT := hid hfit
      clear hT hfit HST hxd
      go_wp2
      go_quiet (fail)
      go_wp2
      go_roundw
      case rel => exact ⟨k + 1, d, t.set (o + k) x, by omega, by go_num, by first | rfl | rw [ed], hd, HStep, HRow, by first | exact HG | exact grownBy_drewN HG.out _ | exact grownBy_drew HG.out⟩
      case measure => simp [intOf]; omega
    · obtain rfl : k = m.length := by omega
      have hv : valF (fun i => m.getD i 0) m.length = val m := (val_valF m m.length (Nat.le_refl _)).symm
      rw [hv] at ha
      clear hv
      go_wp2
      go_ret
      exact ⟨t, c, rfl, ha.out, hrow.out, hg.out⟩

/-- An empty number is there in every world. -/
theorem Sees.any {w : World} {v : Value} {l : List Nat} (h : Sees w v l) (h0 : ¬ 0 < l.length) (w' : World) : Sees w' v l := by
  obtain ⟨ao, cap, h1, h2, h3, h4, hn0, h5⟩ := h
  exact ⟨ao, cap, h1, h2, h3, h4, hn0, fun hp => absurd hp h0⟩

set_option maxRecDepth 100000 in
set_option maxHeartbeats 4000000 in
theorem nat_mul (a b : Option Addr) (la ca lb cb : Nat) (l m : List Nat) (w : World) (ha : Sees w (.slice a la ca) l) (hb : Sees w (.slice b lb cb) m) (hl : l.length ≤ 17592186044416) (hm : m.length ≤ 17592186044416) :
    Calls Tryz.prog 124 #[.slice a la ca, .slice b lb cb] w fun e w' => IsNum w (val l * val m) e w' := by
  have hlen1 := (limbs_prefix ha.ok).2
  have hlen2 := (limbs_prefix hb.ok).2
  go_enter Tryz.func124, Tryz.ntmps124
  go_wp2_with fail
  refine (trim_sees _ _ _ _ _ ha).mono ?_
  rintro e w' ⟨⟨A, rfl, hA, -⟩, rfl⟩
  have HA := hid hA; clear hA
  go_wp2_with fail
  refine (trim_sees _ _ _ _ _ hb).mono ?_
  rintro e w' ⟨⟨B, rfl, hB, -⟩, rfl⟩
  have HB := hid hB; clear hB ha hb
  obtain ⟨p, hp⟩ : ∃ p, limbs (val l) = p := ⟨_, rfl⟩
  obtain ⟨q, hq⟩ : ∃ q, limbs (val m) = q := ⟨_, rfl⟩
  rw [hp] at HA hlen1
  rw [hq] at HB hlen2
  simp only [hp, hq]
  have hvp : val p = val l := by rw [← hp, val_limbs]
  have hvq : val q = val m := by rw [← hq, val_limbs]
  have HP := hid hvp; have HQ := hid hvq
  have hp1 : p.length ≤ 17592186044416 := by omega
  have hq1 : q.length ≤ 17592186044416 := by omega
  clear hlen1 hlen2 hl hm hp hq hvp hvq
  by_cases h : q.length < p.length
  · have hmk := run_make_row' (P := Tryz.prog) 22 98 (.int .u32 0) 4 Tryz.underlying22 info_u32 rfl .i64 .i64 (q.length + p.length) (by omega) (by omega)
    have ec : ((q.length + p.length : Nat) : Int) = (q.length : Int) + p.length := by omega
    rw [ec] at hmk
    clear ec
    obtain ⟨w1, hw1⟩ : ∃ w1, w1 = w.alloc (.cells (madeCells #[Value.int .u32 0] (q.length + p.length)) 98) := ⟨_, rfl⟩
    have hbel : Below w.heap.size w w1 := by rw [hw1]; exact (Below.refl _ w).alloc (Nat.le_refl _) _
    have hrow0 : Row w1 w.heap.size (List.replicate (q.length + p.length) 0) := by rw [hw1]; exact Row.made w _
    have HW := hid hw1.symm; have HBEL := hid hbel; have HROW0 := hid hrow0
    have HA1 := hid (HB.out.below hbel); have HB1 := hid (HA.out.below hbel)
    have HAL := hid (fun (h : 0 < q.length) (a : Addr) (e : B = some a) => (e ▸ HB.out : Sees w (.slice (some a) q.length q.length) q).lt h)
    have HBL := hid (fun (h : 0 < p.length) (a : Addr) (e : A = some a) => (e ▸ HA.out : Sees w (.slice (some a) p.length p.length) p).lt h)
    clear hw1 hbel hrow0
    go_wp2
    go_loopw [26] (fun v wr => ∃ (i : Nat) (t : List Nat), i ≤ q.length ∧ v = .int .i64 i ∧ Hid (MulTo q p (q.length + p.length) i t) ∧ Hid (Row wr w.heap.size t) ∧ Hid (w1.grownBy wr (some w.heap.size))) (fun v _ => q.length - (intOf v).toNat)
    case atStart => exact ⟨0, _, Nat.zero_le _, rfl, MulTo.start _ _ _, by rw [HW.out]; exact HROW0, by rw [HW.out]; exact World.grownBy.refl _ _⟩
    case round =>
      obtain ⟨i, t, hi, rfl, hm, hrow, hg⟩ := hrel
      by_cases hlt : i < q.length
      · obtain ⟨b1, o1, rfl, hc'⟩ := HA1.out.at (by omega)
        have hne : b1 < w.heap.size := HAL.out (by omega) _ rfl
        have hca := hg.out.cell (hc' i hlt) (by simp; omega)
        have hfk := HA1.out.ok.getD i
        have htl := hm.out.len
        have hstep := fun t' c => @MulTo.step q p t t' (q.length + p.length) i c (q.getD i 0) hm.out (by omega) rfl
        have hbr : Sees wr (.slice A p.length p.length) p := by
          by_cases h0 : 0 < p.length
          · exact HB1.out.grown hg.out (fun a e => by have := HBL.out h0 a e; omega)
          · exact HB1.out.any h0 _
        have HSTEP := hid hstep; have HTL := hid htl
        generalize q.getD i 0 = f at *
        have HCall := hid (nat_addTimes w.heap.size i (q.length + p.length - i) (q.length + p.length - i) A p.length t p f wr.drew hrow.out.drew hm.out.ok hbr (fun h a e => by have := HBL.out h a e; omega) (by omega) (by omega) (by omega) hfk)
        clear hc' hstep htl hne hbr HAL
        go_wp2
        go_region_with (go_at_call 135; refine HCall.out.mono ?_; rintro e w2 ⟨t', c, rfl, ham, hrow2, hg2⟩; have hft := Eq.trans ham.part.len HTL.out; have hcl := ham.lt; have hc2 := hrow2.cell (i := i + p.length) (by omega); have hf2 := hrow2.frozen (i + p.length); have HAM := hid ham; have HRW2 := hid hrow2; have HG2 := hid hg2; clear ham hrow2 hg2)
        all_goals
          have HRS := hid (HRW2.out.set (i + p.length) c)
          have HGS := hid (grownBy_set (grownBy_trans (grownBy_drew hg.out) HG2.out) (i + p.length) (.int .u32 (c : Nat)))
          have HST := hid (HSTEP.out _ _ HAM.out)
          go_wp2
          go_roundw
          case rel => exact ⟨i + 1, t'.set (i + p.length) c, by omega, by go_num, HST, HRS, HGS⟩
          case measure => simp [intOf]; omega
      · obtain rfl : i = q.length := by omega
        have htl := hm.out.len
        have hv := hm.out.total
        have hs3 : Sees wr (.slice (some ⟨w.heap.size, 0, none⟩) (q.length + p.length) (q.length + p.length)) t := by
          have := hrow.out.sees hm.out.ok 0 (q.length + p.length) (q.length + p.length) (by omega) (Nat.le_refl _) (by omega)
          rwa [List.drop_zero, List.take_of_length_le (by omega)] at this
        have HS3 := hid hs3; have HV := hid hv
        have HB5 : Hid (Below w.heap.size w wr) := HBEL.out.grown hg.out (HBEL.out.size) (fun k e => by simp at e; omega)
        clear hs3 hv htl hm
        go_wp2_with fail
        refine (trim_sees _ _ _ _ _ HS3.out).mono ?_
        rintro e w4 ⟨⟨R, rfl, hR, -⟩, rfl⟩
        have HRR := hid hR; clear hR
        go_wp2
        go_ret
        refine ⟨_, rfl, ?_, HB5.out⟩
        have e := HV.out
        rw [HP.out, HQ.out, Nat.mul_comm] at e
        rw [e] at HRR
        rw [e]
        exact HRR.out
  · have hmk := run_make_row' (P := Tryz.prog) 22 98 (.int .u32 0) 4 Tryz.underlying22 info_u32 rfl .i64 .i64 (p.length + q.length) (by omega) (by omega)
    have ec : ((p.length + q.length : Nat) : Int) = (p.length : Int) + q.length := by omega
    rw [ec] at hmk
    clear ec
    obtain ⟨w1, hw1⟩ : ∃ w1, w1 = w.alloc (.cells (madeCells #[Value.int .u32 0] (p.length + q.length)) 98) := ⟨_, rfl⟩
    have hbel : Below w.heap.size w w1 := by rw [hw1]; exact (Below.refl _ w).alloc (Nat.le_refl _) _
    have hrow0 : Row w1 w.heap.size (List.replicate (p.length + q.length) 0) := by rw [hw1]; exact Row.made w _
    have HW := hid hw1.symm; have HBEL := hid hbel; have HROW0 := hid hrow0
    have HA1 := hid (HA.out.below hbel); have HB1 := hid (HB.out.below hbel)
    have HAL := hid (fun (h : 0 < p.length) (a : Addr) (e : A = some a) => (e ▸ HA.out : Sees w (.slice (some a) p.length p.length) p).lt h)
    have HBL := hid (fun (h : 0 < q.length) (a : Addr) (e : B = some a) => (e ▸ HB.out : Sees w (.slice (some a) q.length q.length) q).lt h)
    clear hw1 hbel hrow0
    go_wp2
    go_loopw [26] (fun v wr => ∃ (i : Nat) (t : List Nat), i ≤ p.length ∧ v = .int .i64 i ∧ Hid (MulTo p q (p.length + q.length) i t) ∧ Hid (Row wr w.heap.size t) ∧ Hid (w1.grownBy wr (some w.heap.size))) (fun v _ => p.length - (intOf v).toNat)
    case atStart => exact ⟨0, _, Nat.zero_le _, rfl, MulTo.start _ _ _, by rw [HW.out]; exact HROW0, by rw [HW.out]; exact World.grownBy.refl _ _⟩
    case round =>
      obtain ⟨i, t, hi, rfl, hm, hrow, hg⟩ := hrel
      by_cases hlt : i < p.length
      · obtain ⟨b1, o1, rfl, hc'⟩ := HA1.out.at (by omega)
        have hne : b1 < w.heap.size := HAL.out (by omega) _ rfl
        have hca := hg.out.cell (hc' i hlt) (by simp; omega)
        have hfk := HA1.out.ok.getD i
        have htl := hm.out.len
        have hstep := fun t' c => @MulTo.step p q t t' (p.length + q.length) i c (p.getD i 0) hm.out (by omega) rfl
        have hbr : Sees wr (.slice B q.length q.length) q := by
          by_cases h0 : 0 < q.length
          · exact HB1.out.grown hg.out (fun a e => by have := HBL.out h0 a e; omega)
          · exact HB1.out.any h0 _
        have HSTEP := hid hstep; have HTL := hid htl
        generalize p.getD i 0 = f at *
        have HCall := hid (nat_addTimes w.heap.size i (p.length + q.length - i) (p.length + q.length - i) B q.length t q f wr.drew hrow.out.drew hm.out.ok hbr (fun h a e => by have := HBL.out h a e; omega) (by omega) (by omega) (by omega) hfk)
        clear hc' hstep htl hne hbr HAL
        go_wp2
        go_region_with (go_at_call 135; refine HCall.out.mono ?_; rintro e w2 ⟨t', c, rfl, ham, hrow2, hg2⟩; have hft := Eq.trans ham.part.len HTL.out; have hcl := ham.lt; have hc2 := hrow2.cell (i := i + q.length) (by omega); have hf2 := hrow2.frozen (i + q.length); have HAM := hid ham; have HRW2 := hid hrow2; have HG2 := hid hg2; clear ham hrow2 hg2)
        all_goals
          have HRS := hid (HRW2.out.set (i + q.length) c)
          have HGS := hid (grownBy_set (grownBy_trans (grownBy_drew hg.out) HG2.out) (i + q.length) (.int .u32 (c : Nat)))
          have HST := hid (HSTEP.out _ _ HAM.out)
          go_wp2
          go_roundw
          case rel => exact ⟨i + 1, t'.set (i + q.length) c, by omega, by go_num, HST, HRS, HGS⟩
          case measure => simp [intOf]; omega
      · obtain rfl : i = p.length := by omega
        have htl := hm.out.len
        have hv := hm.out.total
        have hs3 : Sees wr (.slice (some ⟨w.heap.size, 0, none⟩) (p.length + q.length) (p.length + q.length)) t := by
          have := hrow.out.sees hm.out.ok 0 (p.length + q.length) (p.length + q.length) (by omega) (Nat.le_refl _) (by omega)
          rwa [List.drop_zero, List.take_of_length_le (by omega)] at this
        have HS3 := hid hs3; have HV := hid hv
        have HB5 : Hid (Below w.heap.size w wr) := HBEL.out.grown hg.out (HBEL.out.size) (fun k e => by simp at e; omega)
        clear hs3 hv htl hm
        go_wp2_with fail
        refine (trim_sees _ _ _ _ _ HS3.out).mono ?_
        rintro e w4 ⟨⟨R, rfl, hR, -⟩, rfl⟩
        have HRR := hid hR; clear hR
        go_wp2
        go_ret
        refine ⟨_, rfl, ?_, HB5.out⟩
        have e := HV.out
        rw [HP.out, HQ.out] at e
        rw [e] at HRR
        rw [e]
        exact HRR.out

theorem nat_mul' {a b : Value} {l m : List Nat} {w : World} (ha : Sees w a l) (hb : Sees w b m) (hl : l.length ≤ 17592186044416) (hm : m.length ≤ 17592186044416) :
    Calls Tryz.prog 124 #[a, b] w fun e w' => ∃ v, e = .returned v ∧ Sees w' v (limbs (val l * val m)) ∧ Below w.heap.size w w' := by
  have hA := ha; have hB := hb
  obtain ⟨A, ca, rfl, -, -, -, -, -⟩ := ha
  obtain ⟨B, cb, rfl, -, -, -, -, -⟩ := hb
  exact nat_mul _ _ _ _ _ _ _ _ _ hA hB hl hm

/-- A product is no longer than both. -/
theorem mul_length {l m : List Nat} (hl : Ok l) (hm : Ok m) (j k : Nat) (h1 : l.length ≤ j) (h2 : m.length ≤ k) : (limbs (val l * val m)).length ≤ j + k := by
  apply limbs_length_le
  have hj := Nat.lt_of_lt_of_le (val_lt hl) (Nat.pow_le_pow_right (by decide) h1 : 4294967296 ^ l.length ≤ 4294967296 ^ j)
  have hk := Nat.lt_of_lt_of_le (val_lt hm) (Nat.pow_le_pow_right (by decide) h2 : 4294967296 ^ m.length ≤ 4294967296 ^ k)
  rw [Nat.pow_add]
  exact Nat.mul_lt_mul'' hj hk
end Go.Proofs.YtjnbonellgpjnaaGreat

set_option linter.unusedVariables false
set_option linter.unusedSimpArgs false
namespace Go.Proofs.YtjnbonellgpjnaaGreat
open Go.RowKit

theorem nat_of (n : Int) (h1 : -9223372036854775808 ≤ n) (h2 : n < 9223372036854775808) (w : World) :
    Calls Tryz.prog 43 #[.int .i64 n] w fun e w' => IsNum w n.toNat e w' := by
  go_enter Tryz.func43, Tryz.ntmps43
  rcases Int.lt_or_le n 0 with h | h
  · have hm : max n 0 = ((0 : Nat) : Int) := by omega
    have hw : IntKind.u64.wrap ((0 : Nat) : Int) = ((0 : Nat) : Int) := by rw [IntKind.wrap_u64]; rfl
    have hc := hid (nat_fromWord 0 (by omega) w)
    have ht : n.toNat = 0 := by omega
    rw [ht]
    go_wp2_with fail
    refine hc.out.mono ?_
    rintro e w' ⟨v, rfl, hs, hb⟩
    have HS := hid hs; have HB := hid hb
    clear hs hb
    go_wp2
    go_ret
    exact ⟨_, rfl, HS.out, HB.out⟩
  · obtain ⟨m, rfl⟩ := Int.eq_ofNat_of_zero_le h
    have hm : max (m : Int) 0 = (m : Int) := by omega
    have hc := hid (nat_fromWord m (by omega) w)
    have ht : ((m : Int)).toNat = m := by omega
    rw [ht]
    go_wp2_with fail
    refine hc.out.mono ?_
    rintro e w' ⟨v, rfl, hs, hb⟩
    have HS := hid hs; have HB := hid hb
    clear hs hb
    go_wp2
    go_ret
    exact ⟨_, rfl, HS.out, HB.out⟩

theorem nat_limbAt (v : Value) (l : List Nat) (k x : Nat) (w : World) (h : Sees w v l) (hk : k ≤ 70368744177664) (hx : l.getD k 0 = x) :
    Calls Tryz.prog 125 #[v, .int .i64 k] w fun e w' => e = .returned (.int .u32 (x : Nat)) ∧ w = w' := by
  have HS := hid h
  have hl := h.len
  obtain ⟨a, c, rfl, -, -, -, -, -⟩ := h
  go_enter Tryz.func125, Tryz.ntmps125
  by_cases hlt : k < l.length
  · obtain ⟨b1, o1, rfl, hc⟩ := HS.out.at (by omega)
    have hca := hc k hlt
    rw [hx] at hca
    clear hc hx
    go_wp2
    go_ret
    exact ⟨rfl, rfl⟩
  · have hz : l.getD k 0 = 0 := by rw [List.getD_eq_getElem?_getD, List.getElem?_eq_none (by omega)]; rfl
    rw [hz] at hx
    subst hx
    clear hz
    go_wp2
    go_ret
    exact ⟨rfl, rfl⟩

/-- Limbs side by side. -/
theorem or_limbs (x y : Nat) (hx : x < 4294967296) : x ||| y * 4294967296 = x + y * 4294967296 := by
  have h := Nat.two_pow_add_eq_or_of_lt (i := 32) (b := x) hx y
  rw [Nat.or_comm, Nat.mul_comm y, Nat.add_comm x]
  exact h.symm

theorem nat_wordAt0 (v : Value) (l : List Nat) (x y : Nat) (w : World) (h : Sees w v l) (hx : l.getD 0 0 = x) (hy : l.getD 1 0 = y) :
    Calls Tryz.prog 118 #[v, .int .i64 0] w fun e w' => e = .returned (.int .u64 (x + y * 4294967296 : Nat)) ∧ w = w' := by
  have h0 := h.ok.getD 0
  have h1 := h.ok.getD 1
  have h2 := h.ok.getD 2
  obtain ⟨z, hz⟩ : ∃ z, l.getD 2 0 = z := ⟨_, rfl⟩
  rw [hx] at h0; rw [hy] at h1; rw [hz] at h2
  have HC0 := hid (nat_limbAt v l 0 x w h (by omega) hx)
  have HC1 := hid (nat_limbAt v l 1 y w h (by omega) hy)
  have HC2 := hid (nat_limbAt v l 2 z w h (by omega) hz)
  clear h hx hy hz
  obtain ⟨Y, hY⟩ : ∃ Y, Y = y * 4294967296 := ⟨_, rfl⟩
  obtain ⟨T, hT⟩ : ∃ T, T = x + Y := ⟨_, rfl⟩
  have e1 : IntKind.u64.wrap ((y : Int) * 4294967296) = (Y : Int) := by rw [IntKind.wrap_u64]; omega
  have e2 : bits .or .u64 (x : Int) (Y : Int) = (T : Int) := by
    rw [u64_or_nat x Y (by omega) (by omega), hY, or_limbs x y h0, ← hY, ← hT]
  have e3 : IntKind.u64.wrap ((z : Int) * 18446744073709551616) = 0 := by rw [IntKind.wrap_u64]; omega
  have e4 : bits .or .u64 (T : Int) 0 = (T : Int) := by
    have := u64_or_nat T 0 (by omega) (by omega)
    rw [Nat.or_zero] at this
    exact this
  have HT : Hid (x + y * 4294967296 = T) := by show _ = _; omega
  clear hT hY
  go_enter Tryz.func118, Tryz.ntmps118
  go_wp2_with fail
  refine HC0.out.mono ?_
  rintro e w' ⟨rfl, rfl⟩
  go_wp2_with fail
  refine HC1.out.mono ?_
  rintro e w' ⟨rfl, rfl⟩
  go_wp2_with fail
  refine HC2.out.mono ?_
  rintro e w' ⟨rfl, rfl⟩
  clear HC0 HC1 HC2
  go_wp2
  go_ret
  exact ⟨by rw [HT.out]; rfl, rfl⟩

theorem limb_zero (V : Nat) : (limbs V).getD 0 0 = V % 4294967296 := by
  rcases Nat.eq_zero_or_pos V with h | h
  · rw [h]; rfl
  · rw [limbs_pos h]; rfl
theorem limb_one (V : Nat) : (limbs V).getD 1 0 = V / 4294967296 % 4294967296 := by
  rcases Nat.eq_zero_or_pos V with h | h
  · rw [h]; rfl
  · rw [limbs_pos h]; exact limb_zero _
theorem bits_small {x : Nat} : bitsN x ≤ 63 ↔ x < 9223372036854775808 := by
  unfold bitsN
  by_cases h : x = 0
  · rw [if_pos h]; omega
  · rw [if_neg h]
    have := @Nat.log2_lt x 63 h
    have e : 2 ^ 63 = 9223372036854775808 := by decide
    rw [e] at this
    omega

theorem nat_small_no {a : Value} {l : List Nat} {w : World} (ha : Sees w a l) (h : ¬ val l < 9223372036854775808) :
    Calls Tryz.prog 101 #[a] w fun e w' => e = .returned (.tuple #[.int .i64 0, .bool false]) ∧ w = w' := by
  have hb : 63 < bitsN (val l) := by have := @bits_small (val l); omega
  have hA := ha
  obtain ⟨A0, ca, rfl, -, -, -, -, -⟩ := ha
  go_enter Tryz.func101, Tryz.ntmps101
  go_wp2_with fail
  refine (trim_sees _ _ _ _ _ hA).mono ?_
  rintro e w' ⟨⟨A, rfl, hs, -⟩, rfl⟩
  have HB := hid (nat_bits _ _ _ _ _ hs)
  rw [val_limbs] at HB
  clear h hs hA
  generalize bitsN (val l) = n at *
  go_wp2_with fail
  refine HB.out.mono ?_
  rintro e w' ⟨rfl, rfl⟩
  go_wp2
  go_ret2
  exact ⟨rfl, rfl⟩
theorem nat_small_ok {a : Value} {l : List Nat} {w : World} (ha : Sees w a l) (h : val l < 9223372036854775808) :
    Calls Tryz.prog 101 #[a] w fun e w' => e = .returned (.tuple #[.int .i64 (val l : Nat), .bool true]) ∧ w = w' := by
  have hb : bitsN (val l) ≤ 63 := by have := @bits_small (val l); omega
  have hA := ha
  obtain ⟨A0, ca, rfl, -, -, -, -, -⟩ := ha
  go_enter Tryz.func101, Tryz.ntmps101
  go_wp2_with fail
  refine (trim_sees _ _ _ _ _ hA).mono ?_
  rintro e w' ⟨⟨A, rfl, hs, -⟩, rfl⟩
  have HB := hid (nat_bits _ _ _ _ _ hs)
  have HW := hid (nat_wordAt0 _ _ _ _ w hs (limb_zero _) (limb_one _))
  rw [val_limbs] at HB
  have e1 : val l % 4294967296 + val l / 4294967296 % 4294967296 * 4294967296 = val l := by omega
  rw [e1] at HW
  clear e1 hs hA
  generalize bitsN (val l) = n at *
  obtain ⟨V, hV⟩ : ∃ V, val l = V := ⟨_, rfl⟩
  rw [hV] at HW h
  have HV := hid hV
  simp only [hV] at HB ⊢
  clear hV
  have ew : IntKind.i64.wrap (V : Int) = (V : Int) := by rw [IntKind.wrap_i64]; omega
  go_wp2_with fail
  refine HB.out.mono ?_
  rintro e w' ⟨rfl, rfl⟩
  go_wp2_with fail
  refine HW.out.mono ?_
  rintro e w' ⟨rfl, rfl⟩
  go_wp2
  go_ret2
  exact ⟨by rw [HV.out]; rfl, rfl⟩
end Go.Proofs.YtjnbonellgpjnaaGreat

set_option linter.unusedVariables false
set_option linter.unusedSimpArgs false
namespace Go.Proofs.YtjnbonellgpjnaaGreat

/-- A limb times a power of two, and something below the power. -/
theorem shl_limb (a c n k : Nat) (hnk : n + k = 32) (ha : a < 4294967296) (hc : c < 2 ^ n) :
    ∃ X H : Nat, X < 4294967296 ∧ a / 2 ^ k < 2 ^ n ∧ H < 4294967296 ∧ a * 2 ^ n % 4294967296 = H ∧ (H ||| c) = X ∧ a * 2 ^ n + c = X + 4294967296 * (a / 2 ^ k) := by
  have hpq : 2 ^ n * 2 ^ k = 4294967296 := by rw [← Nat.pow_add, hnk]
  have hq : 0 < 2 ^ k := Nat.two_pow_pos k
  have hr : a % 2 ^ k < 2 ^ k := Nat.mod_lt _ hq
  have hd : a / 2 ^ k < 2 ^ n := Nat.div_lt_of_lt_mul (by rw [Nat.mul_comm, hpq]; exact ha)
  have ea : 2 ^ k * (a / 2 ^ k) + a % 2 ^ k = a := Nat.div_add_mod a (2 ^ k)
  have e1 : a * 2 ^ n = 4294967296 * (a / 2 ^ k) + 2 ^ n * (a % 2 ^ k) := by
    have := congrArg (2 ^ n * ·) ea
    simp only [Nat.mul_add] at this
    rw [← Nat.mul_assoc, hpq] at this
    rw [Nat.mul_comm a]
    exact this.symm
  have h1 : 2 ^ n * (a % 2 ^ k) + 2 ^ n ≤ 4294967296 := by
    have h := Nat.mul_le_mul_left (2 ^ n) (Nat.succ_le_of_lt hr)
    rw [hpq] at h
    have e := Nat.mul_succ (2 ^ n) (a % 2 ^ k)
    rw [e] at h
    exact h
  have hor := Nat.two_pow_add_eq_or_of_lt hc (a % 2 ^ k)
  refine ⟨2 ^ n * (a % 2 ^ k) + c, 2 ^ n * (a % 2 ^ k), by omega, hd, ?_, ?_, hor.symm, by omega⟩
  · have := Nat.two_pow_pos n; omega
  · have := Nat.two_pow_pos n; rw [e1]; omega

/-- A limb set above all that are. -/
theorem val_set_top {t : List Nat} {i x : Nat} (hz : ∀ j, i ≤ j → t.getD j 0 = 0) (hi : i < t.length) : val (t.set i x) = val t + 4294967296 ^ i * x := by
  have hz' : ∀ j, i + 1 ≤ j → (t.set i x).getD j 0 = 0 := fun j hj => by rw [getD_set_ne _ _ _ _ (by omega)]; exact hz j (by omega)
  rw [val_of_zeros hz', val_of_zeros hz]
  simp only [valF]
  rw [getD_set_eq _ _ _ hi]
  congr 1
  exact valF_congr _ _ _ (fun k hk => getD_set_ne _ _ _ _ (by omega))

/-- What shiftDown has told behind i limbs. -/
structure DownTo (m : List Nat) (n i : Nat) (t : List Nat) : Prop where
  len : t.length = m.length
  ok : Ok t
  zero : ∀ j, i ≤ j → t.getD j 0 = 0
  sum : 2 ^ n * (val t + 4294967296 ^ i * (m.getD i 0 / 2 ^ n)) + m.getD 0 0 % 2 ^ n = valF (fun i => m.getD i 0) i + 4294967296 ^ i * m.getD i 0
theorem DownTo.start (m : List Nat) (n : Nat) : DownTo m n 0 (List.replicate m.length 0) := by
  refine ⟨by simp, Ok.replicate _, fun j _ => ?_, ?_⟩
  · rw [List.getD_eq_getElem?_getD, List.getElem?_replicate]
    split <;> rfl
  · rw [val_replicate]
    simp only [valF, Nat.pow_zero, Nat.one_mul, Nat.zero_add]
    exact Nat.div_add_mod _ _
theorem DownTo.step {m t : List Nat} {n k i X : Nat} (h : DownTo m n i t) (hnk : n + k = 32) (hi : i < m.length) (hX : X < 4294967296)
    (e : m.getD (i + 1) 0 * 2 ^ k + m.getD i 0 / 2 ^ n = X + 4294967296 * (m.getD (i + 1) 0 / 2 ^ n)) : DownTo m n (i + 1) (t.set i X) := by
  have hpq : 2 ^ n * 2 ^ k = 4294967296 := by rw [← Nat.pow_add, hnk]
  refine ⟨by rw [List.length_set]; exact h.len, h.ok.set _ _ hX, fun j hj => by rw [getD_set_ne _ _ _ _ (by omega)]; exact h.zero j (by omega), ?_⟩
  rw [val_set_top h.zero (by rw [h.len]; exact hi)]
  have hs := h.sum
  generalize m.getD (i + 1) 0 = b at *
  simp only [valF]
  generalize m.getD i 0 = a at *
  generalize m.getD 0 0 % 2 ^ n = r0 at *
  generalize valF (fun i => m.getD i 0) i = M at *
  generalize a / 2 ^ n = u at *
  generalize b / 2 ^ n = v at *
  have e2 := congrArg (fun z => 2 ^ n * (4294967296 ^ i * z)) e
  simp only [Nat.mul_add] at e2 hs ⊢
  have e3 : 2 ^ n * (4294967296 ^ i * (b * 2 ^ k)) = 4294967296 ^ (i + 1) * b := by
    rw [Nat.pow_succ, ← hpq]
    simp only [Nat.mul_comm, Nat.mul_left_comm, Nat.mul_assoc]
  have e4 : 2 ^ n * (4294967296 ^ i * (4294967296 * v)) = 2 ^ n * (4294967296 ^ (i + 1) * v) := by
    rw [Nat.pow_succ]
    simp only [Nat.mul_comm, Nat.mul_left_comm, Nat.mul_assoc]
  rw [e3, e4] at e2
  omega
theorem DownTo.total {m t : List Nat} {n : Nat} (h : DownTo m n m.length t) : val t = val m / 2 ^ n := by
  have hs := h.sum
  have hz : m.getD m.length 0 = 0 := by rw [List.getD_eq_getElem?_getD, List.getElem?_eq_none (by omega)]; rfl
  rw [hz, Nat.zero_div, Nat.mul_zero, Nat.add_zero, Nat.add_zero, ← val_valF m m.length (Nat.le_refl _)] at hs
  have hr : m.getD 0 0 % 2 ^ n < 2 ^ n := Nat.mod_lt _ (Nat.two_pow_pos n)
  rw [← hs, Nat.mul_add_div (Nat.two_pow_pos n), Nat.div_eq_of_lt hr, Nat.add_zero]

/-- The limbs from n on. -/
theorem val_drop_div {l : List Nat} (h : Ok l) (n : Nat) : val (l.drop n) = val l / 4294967296 ^ n := by
  rcases Nat.lt_or_ge l.length n with h1 | h1
  · rw [List.drop_eq_nil_iff.2 (by omega)]
    exact (Nat.div_eq_of_lt (Nat.lt_of_lt_of_le (val_lt h) (Nat.pow_le_pow_right (by decide) (by omega)))).symm
  · rw [val_split l n h1]
    have ht : val (l.take n) < 4294967296 ^ n := by
      have h2 := val_lt (h.take n)
      rwa [List.length_take, Nat.min_eq_left h1] at h2
    rw [Nat.add_comm, Nat.mul_add_div (Nat.pow_pos (by decide)), Nat.div_eq_of_lt ht, Nat.add_zero]
theorem pow_limb (k h : Nat) : 4294967296 ^ k * 2 ^ h = 2 ^ (32 * k + h) := by
  rw [Nat.pow_add, Nat.pow_mul]
end Go.Proofs.YtjnbonellgpjnaaGreat

set_option linter.unusedVariables false
set_option linter.unusedSimpArgs false
namespace Go.Proofs.YtjnbonellgpjnaaGreat

/-- What takeTimes has done behind k limbs: y was taken, and c times the next limb's place is still to be. -/
structure TakeMul (s : List Nat) (o k y : Nat) (t : List Nat) (c d : Nat) : Prop where
  lt : c < 4294967296
  ex : ∃ z, TakeFrom s o k z t d ∧ z + 4294967296 ^ k * c = y
theorem TakeMul.start {s : List Nat} (h : Ok s) (o : Nat) : TakeMul s o 0 0 s 0 0 := ⟨by omega, 0, TakeFrom.start h o, by simp⟩
theorem TakeMul.step {s t : List Nat} {o k y c d : Nat} (h : TakeMul s o k y t c d) (ho : o + k < s.length) (m f lo c' x d' : Nat) (hc : c' < 4294967296) (hx : x < 4294967296) (hd : d' ≤ 1)
    (e1 : c + m * f = lo + 4294967296 * c') (e : s.getD (o + k) 0 + 4294967296 * d' = x + lo + d) :
    TakeMul s o (k + 1) (y + 4294967296 ^ k * (m * f)) (t.set (o + k) x) c' d' := by
  obtain ⟨_, z, hz, hy⟩ := h
  refine ⟨hc, z + 4294967296 ^ k * lo, hz.step ho lo x d' hx hd e, ?_⟩
  rw [Nat.pow_succ, Nat.mul_assoc, ← hy]
  have h2 := congrArg (4294967296 ^ k * ·) e1
  simp only [Nat.mul_add] at h2
  omega
theorem TakeMul.last {s t : List Nat} {o k y c d : Nat} (h : TakeMul s o k y t c d) (ho : o + k < s.length) (x d' : Nat) (hx : x < 4294967296) (hd : d' ≤ 1)
    (e : s.getD (o + k) 0 + 4294967296 * d' = x + c + d) : TakeFrom s o (k + 1) y (t.set (o + k) x) d' := by
  obtain ⟨_, z, hz, hy⟩ := h
  have := hz.step ho c x d' hx hd e
  rwa [hy] at this

/-- The quotient's limb, held against the highest limbs. -/
theorem top_le {p D0 W0 V X Q : Nat} (hp : 0 < p) (hW : W0 < p) (h : Q * (D0 + p * V) ≤ W0 + p * X) : Q * V ≤ X := by
  have h1 : p * (Q * V) ≤ Q * (D0 + p * V) := by
    rw [Nat.mul_add, Nat.mul_left_comm]; omega
  have h2 : p * (Q * V) < p * (X + 1) := by rw [Nat.mul_succ]; omega
  exact Nat.lt_succ_iff.1 (Nat.lt_of_mul_lt_mul_left h2)

theorem est_init {Q s f low high : Nat} (hf : 0 < f) (hl : low < 4294967296) (h : Q * (s + 4294967296 * f) ≤ low + 4294967296 * high) : Q ≤ high / f := by
  rw [Nat.le_div_iff_mul_le hf]
  have h1 : Q * (s + 4294967296 * f) = Q * s + 4294967296 * (Q * f) := by rw [Nat.mul_add, Nat.mul_left_comm]
  omega
theorem est_less {Q s f low high e r : Nat} (h : Q * (s + 4294967296 * f) ≤ low + 4294967296 * high) (he : e * f + r = high) (hlt : r * 4294967296 + low < e * s) : Q < e := by
  rcases Nat.lt_or_ge Q e with h1 | h1
  · exact h1
  · have h2 : e * (s + 4294967296 * f) ≤ Q * (s + 4294967296 * f) := Nat.mul_le_mul_right _ h1
    have h3 : e * (s + 4294967296 * f) = e * s + 4294967296 * (e * f) := by rw [Nat.mul_add, Nat.mul_left_comm]
    omega

/-- A list of two limbs or more, its two highest apart. -/
theorem val_top2 {l : List Nat} {n : Nat} (h : l.length = n + 2) : val l = val (l.take n) + 4294967296 ^ n * (l.getD n 0 + 4294967296 * l.getD (n + 1) 0) := by
  rw [val_split l n (by omega), val_drop l n (by omega), val_drop l (n + 1) (by omega), List.drop_eq_nil_iff.2 (by omega), val_nil]; rfl
theorem val_top3 {l : List Nat} {n : Nat} (h : l.length = n + 3) : val l = val (l.take n) + 4294967296 ^ n * (l.getD n 0 + 4294967296 * (l.getD (n + 1) 0 + 4294967296 * l.getD (n + 2) 0)) := by
  rw [val_split l n (by omega), val_drop l n (by omega), val_drop l (n + 1) (by omega), val_drop l (n + 2) (by omega), List.drop_eq_nil_iff.2 (by omega), val_nil]; rfl

/-- What estimateLimb needs of its lists. -/
theorem est_lists {u v : List Nat} {n Q : Nat} (hu : Ok u) (hv : Ok v) (lu : u.length = n + 3) (lv : v.length = n + 2) (h : Q * val v ≤ val u) :
    Q * (v.getD n 0 + 4294967296 * v.getD (n + 1) 0) ≤ u.getD n 0 + 4294967296 * (u.getD (n + 1) 0 + 4294967296 * u.getD (n + 2) 0) := by
  rw [val_top2 lv, val_top3 lu] at h
  refine top_le (Nat.pow_pos (by decide)) ?_ h
  have := val_lt (hu.take n)
  rwa [List.length_take, Nat.min_eq_left (by omega)] at this
theorem est_top {u v : List Nat} {n : Nat} (hu : Ok u) (hv : Ok v) (lu : u.length = n + 3) (lv : v.length = n + 2) (h : val u < val v * 4294967296) : u.getD (n + 2) 0 ≤ v.getD (n + 1) 0 := by
  rw [val_top2 lv, val_top3 lu] at h
  have h1 := val_lt (hv.take n)
  rw [List.length_take, Nat.min_eq_left (by omega)] at h1
  have h2 := hv.getD n
  generalize val (v.take n) = a at *
  generalize val (u.take n) = b at *
  generalize v.getD n 0 = v0 at *
  generalize v.getD (n + 1) 0 = v1 at *
  generalize u.getD n 0 = u0 at *
  generalize u.getD (n + 1) 0 = u1 at *
  generalize u.getD (n + 2) 0 = u2 at *
  generalize 4294967296 ^ n = p at *
  have h3 : p * (v0 + 4294967296 * v1 + 1) ≤ p * (4294967296 * (v1 + 1)) := Nat.mul_le_mul_left p (by omega)
  have h4 : p * (4294967296 * (4294967296 * u2)) ≤ p * (u0 + 4294967296 * (u1 + 4294967296 * u2)) := Nat.mul_le_mul_left p (by omega)
  have h5 : p * (v0 + 4294967296 * v1 + 1) = p * (v0 + 4294967296 * v1) + p := Nat.mul_succ ..
  have h6 : p * (4294967296 * (4294967296 * u2)) < p * (4294967296 * (v1 + 1)) * 4294967296 := by
    refine Nat.lt_of_le_of_lt h4 (Nat.lt_of_le_of_lt (Nat.le_add_left _ b) (Nat.lt_of_lt_of_le h (Nat.mul_le_mul_right _ (by omega))))
  have h7 : p * (4294967296 * (v1 + 1)) * 4294967296 = p * (4294967296 * (4294967296 * (v1 + 1))) := by
    rw [Nat.mul_assoc, Nat.mul_comm (4294967296 * (v1 + 1))]
  rw [h7] at h6
  have h8 := Nat.lt_of_mul_lt_mul_left h6
  omega

/-- Behind a step with estimate e: what is left, and what was borrowed. -/
structure Left (W D P e t c : Nat) : Prop where
  ge : W / D ≤ e
  le : c ≤ 1
  lt : t < P
  sum : t + D * e = W + P * c
theorem Left.done {W D P e t : Nat} (h : Left W D P e t 0) (hD : 0 < D) : e = W / D ∧ t = W % D := by
  have hs := h.sum
  rw [Nat.mul_zero, Nat.add_zero] at hs
  have h1 : e ≤ W / D := by
    rw [Nat.le_div_iff_mul_le hD, Nat.mul_comm]; omega
  have h2 : e = W / D := Nat.le_antisymm h1 h.ge
  refine ⟨h2, ?_⟩
  have := Nat.div_add_mod W D
  rw [← h2] at this
  omega
theorem Left.pos {W D P e t : Nat} (h : Left W D P e t 1) : 0 < e := by
  have hs := h.sum
  have hlt := h.lt
  rcases Nat.eq_zero_or_pos e with h0 | h0
  · subst h0; omega
  · exact h0
theorem Left.back {W D P e t : Nat} (h : Left W D P e t 1) (hD : 0 < D) (hDP : D ≤ P) (t' c' : Nat) (hc : c' ≤ 1) (ht : t' < P) (e1 : t' + P * c' = t + D) : 0 < e ∧ Left W D P (e - 1) t' (1 - c') := by
  have hs := h.sum
  have hlt := h.lt
  have h1 : W < D * e := by omega
  have h2 : W / D < e := by
    rw [Nat.div_lt_iff_lt_mul hD, Nat.mul_comm]; exact h1
  have h3 : 0 < e := Nat.lt_of_le_of_lt (Nat.zero_le _) h2
  refine ⟨h3, Nat.le_sub_one_of_lt h2, by omega, ht, ?_⟩
  obtain ⟨e', rfl⟩ : ∃ e', e = e' + 1 := ⟨e - 1, by omega⟩
  rw [Nat.add_sub_cancel]
  rw [Nat.mul_succ] at hs
  have : c' = 0 ∨ c' = 1 := by omega
  rcases this with rfl | rfl <;> simp at * <;> omega

theorem val_set_zero {t : List Nat} {i x : Nat} (hz : t.getD i 0 = 0) (hi : i < t.length) : val (t.set i x) = val t + 4294967296 ^ i * x := by
  induction t generalizing i with
  | nil => simp at hi
  | cons y l ih =>
    cases i with
    | zero => simp at hz; subst hz; simp [val_cons]; omega
    | succ i =>
      simp only [List.set_cons_succ, val_cons, List.getD_cons_succ, List.length_cons] at *
      rw [ih hz (by omega), Nat.pow_succ, Nat.mul_add]
      have : 4294967296 ^ i * 4294967296 * x = 4294967296 * (4294967296 ^ i * x) := by rw [Nat.mul_right_comm, Nat.mul_comm]
      omega

theorem Part.trans {a b c : List Nat} {o n : Nat} (h : Part a b o n) (k : Part b c o n) : Part a c o n :=
  ⟨k.len.trans h.len, k.ok, fun i hi => (k.out i hi).trans (h.out i hi)⟩

/-- What divideLong has done, down to place i of the quotient. -/
structure LongTo (A D i : Nat) (t q : List Nat) : Prop where
  okt : Ok t
  okq : Ok q
  zero : ∀ j, j < i → q.getD j 0 = 0
  sum : A = D * val q + val t
  lt : val t < D * 4294967296 ^ i

/-- The number below place k is all, if it is small. -/
theorem val_low {t : List Nat} {k : Nat} (hk : k ≤ t.length) (h : val t < 4294967296 ^ k) : val t = valF (fun i => t.getD i 0) k ∧ val (t.drop k) = 0 := by
  have h1 := val_split t k hk
  have h2 : val (t.drop k) = 0 := by
    rcases Nat.eq_zero_or_pos (val (t.drop k)) with h0 | h0
    · exact h0
    · have : 4294967296 ^ k * 1 ≤ 4294967296 ^ k * val (t.drop k) := Nat.mul_le_mul_left _ h0
      omega
  rw [h2, val_take_valF] at h1
  exact ⟨by simpa using h1, h2⟩

theorem LongTo.window {A D i n : Nat} {t q : List Nat} (h : LongTo A D (i + 1) t q) (hDn : D < 4294967296 ^ n) (hlen : i + (n + 1) ≤ t.length) :
    seg t i (n + 1) < D * 4294967296 ∧ val t = valF (fun j => t.getD j 0) i + 4294967296 ^ i * seg t i (n + 1) ∧ val (t.drop (i + (n + 1))) = 0 := by
  have h1 : val t < 4294967296 ^ (i + (n + 1)) := by
    refine Nat.lt_of_lt_of_le h.lt ?_
    have e : 4294967296 ^ (i + (n + 1)) = 4294967296 ^ n * 4294967296 ^ (i + 1) := by rw [← Nat.pow_add]; congr 1; omega
    rw [e]
    exact Nat.mul_le_mul_right _ (by omega)
  obtain ⟨h2, h3⟩ := val_low hlen h1
  rw [valF_seg] at h2
  refine ⟨?_, h2, h3⟩
  have h4 := h.lt
  rw [Nat.pow_succ, Nat.mul_left_comm] at h4
  rw [h2] at h4
  exact Nat.lt_of_mul_lt_mul_left (Nat.lt_of_le_of_lt (Nat.le_add_left _ _) h4)

theorem LongTo.step {A D i n e : Nat} {t q t' : List Nat} (h : LongTo A D (i + 1) t q) (hD : 0 < D) (hDn : D < 4294967296 ^ n) (hlen : i + (n + 1) ≤ t.length) (hq : i < q.length)
    (hp : Part t t' i (n + 1)) (he : e = seg t i (n + 1) / D) (ht : seg t' i (n + 1) = seg t i (n + 1) % D) : LongTo A D i t' (q.set i e) := by
  obtain ⟨h1, h2, h3⟩ := h.window hDn hlen
  have hd := Nat.div_add_mod (seg t i (n + 1)) D
  have hm := Nat.mod_lt (seg t i (n + 1)) hD
  have he4 : e < 4294967296 := by rw [he]; exact Nat.div_lt_of_lt_mul h1
  have hdrop : t'.drop (i + (n + 1)) = t.drop (i + (n + 1)) := by
    apply List.ext_getElem
    · rw [List.length_drop, List.length_drop, hp.len]
    · intro j h5 h6
      have := hp.out (i + (n + 1) + j) (.inr (by omega))
      rw [List.getElem_drop, List.getElem_drop]
      rw [List.length_drop] at h5 h6
      rw [List.getD_eq_getElem?_getD, List.getD_eq_getElem?_getD, List.getElem?_eq_getElem (by omega), List.getElem?_eq_getElem (by omega)] at this
      simpa using this
  have hv : val t' = valF (fun j => t.getD j 0) i + 4294967296 ^ i * (seg t i (n + 1) % D) := by
    rw [val_split t' (i + (n + 1)) (by rw [hp.len]; exact hlen), hdrop, h3, val_take_valF, valF_seg, ht, valF_congr (fun j => t'.getD j 0) (fun j => t.getD j 0) i (fun j hj => hp.out j (.inl hj))]
    simp
  have hlow : valF (fun j => t.getD j 0) i < 4294967296 ^ i := valF_lt _ _ (fun j _ => h.okt.getD j)
  refine ⟨hp.ok, h.okq.set _ _ he4, fun j hj => by rw [getD_set_ne _ _ _ _ (by omega)]; exact h.zero j (by omega), ?_, ?_⟩
  · rw [val_set_zero (h.zero i (by omega)) hq, hv, h.sum, h2, Nat.mul_add]
    have e1 := congrArg (4294967296 ^ i * ·) hd
    simp only [Nat.mul_add] at e1
    have e2 : 4294967296 ^ i * (D * (seg t i (n + 1) / D)) = D * (4294967296 ^ i * e) := by rw [he, Nat.mul_left_comm]
    omega
  · rw [hv]
    have : 4294967296 ^ i * (seg t i (n + 1) % D + 1) ≤ 4294967296 ^ i * D := Nat.mul_le_mul_left _ hm
    rw [Nat.mul_add] at this
    rw [Nat.mul_comm D]
    omega

theorem LongTo.start {A D N : Nat} {t : List Nat} (ht : Ok t) (hA : val t = A) (hlt : A < D * 4294967296 ^ N) : LongTo A D N t (List.replicate N 0) :=
  ⟨ht, Ok.replicate N, fun j hj => by rw [List.getD_eq_getElem?_getD, List.getElem?_replicate]; split <;> rfl, by rw [val_replicate]; omega, by rw [hA]; exact hlt⟩
theorem LongTo.total {A D : Nat} {t q : List Nat} (h : LongTo A D 0 t q) (hD : 0 < D) : val q = A / D ∧ val t = A % D := by
  have h1 := h.sum
  have h2 := h.lt
  rw [Nat.pow_zero, Nat.mul_one] at h2
  rw [h1]
  constructor
  · rw [Nat.mul_add_div hD, Nat.div_eq_of_lt h2, Nat.add_zero]
  · rw [Nat.mul_add_mod, Nat.mod_eq_of_lt h2]

/-- Shifted both, the quotient is the same. -/
theorem shifted_div (a b p : Nat) (hp : 0 < p) : a * p / (b * p) = a / b ∧ a * p % (b * p) / p = a % b := by
  constructor
  · exact Nat.mul_div_mul_right _ _ hp
  · rw [Nat.mul_mod_mul_right, Nat.mul_div_cancel _ hp]

/-- The divisor's highest bit is set behind the shift; the quotient has no more limbs than are laid for it. -/
theorem long_fits {a b la n p : Nat} (ha : a < 4294967296 ^ la) (hp : p ≤ 2147483648) (hb : 4294967296 ^ n ≤ 2 * (b * p)) (hn : n ≤ la) : a * p < b * p * 4294967296 ^ (la - n + 1) := by
  have h1 : a * p < 4294967296 ^ la * 2147483648 := by
    rcases Nat.eq_zero_or_pos p with h0 | h0
    · subst h0; have := Nat.pow_pos (n := la) (show 0 < 4294967296 by decide); omega
    · exact Nat.lt_of_lt_of_le (Nat.mul_lt_mul_of_pos_right ha h0) (Nat.mul_le_mul_left _ hp)
  have h2 : 4294967296 ^ n * 4294967296 ^ (la - n + 1) ≤ 2 * (b * p) * 4294967296 ^ (la - n + 1) := Nat.mul_le_mul_right _ hb
  rw [← Nat.pow_add, show n + (la - n + 1) = la + 1 by omega, Nat.pow_succ, Nat.mul_assoc 2] at h2
  omega

theorem seg_zeros (k o n : Nat) : seg (List.replicate k 0) o n = 0 := by
  induction n with
  | zero => rfl
  | succ n ih =>
    rw [seg_succ, ih, List.getD_eq_getElem?_getD, List.getElem?_replicate]
    split <;> simp
/-- What shiftUp has written into zeros. -/
theorem up_val {n y c : Nat} {t : List Nat} (h : AddMul (List.replicate (n + 1) 0) 0 n y t c) : val (t.set n c) = y ∧ Ok (t.set n c) ∧ (t.set n c).length = n + 1 := by
  have hl : t.length = n + 1 := by have := h.part.len; simpa using this
  have hz : t.getD n 0 = 0 := by
    rw [h.part.out n (.inr (by omega)), List.getD_eq_getElem?_getD, List.getElem?_replicate]; split <;> rfl
  refine ⟨?_, h.part.ok.set _ _ h.lt, by rw [List.length_set]; exact hl⟩
  have h1 := h.sum
  rw [seg_zeros, Nat.zero_add] at h1
  rw [val_set_zero hz (by omega), ← seg_all t (n + 1) (by omega), seg_succ, Nat.zero_add, hz, Nat.mul_zero, Nat.add_zero]
  exact h1
theorem dbl {P D : Nat} (h : P * 2147483648 ≤ D) : P * 4294967296 ≤ 2 * D := by
  have e0 : (4294967296 : Nat) = 2 * 2147483648 := by decide
  rw [e0, Nat.mul_left_comm]
  exact Nat.mul_le_mul_left 2 h
/-- The divisor, shifted till its highest bit is set. -/
theorem norm {Y z s k n : Nat} (hn : (limbs Y).length = n + 1) (hz : (limbs Y).getD n 0 = z) (hsk : s + k = 32) (hk : 0 < k) (h1 : 2 ^ (k - 1) ≤ z) (h2 : z < 2 ^ k) :
    (limbs (Y * 2 ^ s)).length = n + 1 ∧ 2147483648 ≤ (limbs (Y * 2 ^ s)).getD n 0 ∧ 4294967296 ^ (n + 1) ≤ 2 * (Y * 2 ^ s) := by
  have hY : Y = val ((limbs Y).take n) + 4294967296 ^ n * z := by
    have := val_take_succ (limbs Y) n (by omega)
    rw [List.take_of_length_le (by omega), val_limbs, hz] at this
    exact this
  have hlow : val ((limbs Y).take n) < 4294967296 ^ n := by
    have := val_lt ((limbs_ok Y).take n)
    rwa [List.length_take, Nat.min_eq_left (by omega)] at this
  generalize val ((limbs Y).take n) = y0 at *
  have p0 := Nat.two_pow_pos s
  have e31 : 2 ^ (k - 1) * 2 ^ s = 2147483648 := by rw [← Nat.pow_add, show k - 1 + s = 31 by omega]
  have e32 : 2 ^ k * 2 ^ s = 4294967296 := by rw [← Nat.pow_add, show k + s = 32 by omega]
  have hz1 : 2147483648 ≤ z * 2 ^ s := by
    have := Nat.mul_le_mul_right (2 ^ s) h1
    rwa [e31] at this
  have hz2 : z * 2 ^ s + 2 ^ s ≤ 4294967296 := by
    have h3 : (z + 1) * 2 ^ s ≤ 2 ^ k * 2 ^ s := Nat.mul_le_mul_right (2 ^ s) h2
    rw [e32, Nat.add_mul, Nat.one_mul] at h3
    exact h3
  have eD : Y * 2 ^ s = y0 * 2 ^ s + 4294967296 ^ n * (z * 2 ^ s) := by rw [hY, Nat.add_mul, Nat.mul_assoc]
  have hD1 : 4294967296 ^ n * 2147483648 ≤ Y * 2 ^ s := by
    rw [eD]
    have := Nat.mul_le_mul_left (4294967296 ^ n) hz1
    omega
  have hD2 : Y * 2 ^ s < 4294967296 ^ (n + 1) := by
    rw [eD, Nat.pow_succ]
    have h3 : y0 * 2 ^ s < 4294967296 ^ n * 2 ^ s := Nat.mul_lt_mul_of_pos_right hlow p0
    have h4 := Nat.mul_le_mul_left (4294967296 ^ n) hz2
    rw [Nat.mul_add] at h4
    omega
  generalize Y * 2 ^ s = D at *
  have hl1 := limbs_length_le hD2
  have hl2 : n < (limbs D).length := by
    rcases Nat.lt_or_ge n (limbs D).length with h | h
    · exact h
    · have h5 := lt_pow_length D
      have h6 : 4294967296 ^ (limbs D).length ≤ 4294967296 ^ n := Nat.pow_le_pow_right (by decide) h
      omega
  have hl : (limbs D).length = n + 1 := by omega
  have hP : 4294967296 ^ (n + 1) ≤ 2 * D := by
    have e : 4294967296 ^ (n + 1) = 4294967296 ^ n * 4294967296 := Nat.pow_succ ..
    rw [e]
    exact dbl hD1
  refine ⟨hl, ?_, hP⟩
  have hD : D = val ((limbs D).take n) + 4294967296 ^ n * (limbs D).getD n 0 := by
    have := val_take_succ (limbs D) n (by omega)
    rw [List.take_of_length_le (by omega), val_limbs] at this
    exact this
  have hlow' : val ((limbs D).take n) < 4294967296 ^ n := by
    have := val_lt ((limbs_ok D).take n)
    rwa [List.length_take, Nat.min_eq_left (by omega)] at this
  rcases Nat.lt_or_ge ((limbs D).getD n 0) 2147483648 with h | h
  · have h7 := Nat.mul_le_mul_left (4294967296 ^ n) (Nat.succ_le_of_lt h)
    rw [Nat.mul_succ] at h7
    omega
  · exact h

theorem seg_val (t : List Nat) (o n : Nat) : val ((t.drop o).take n) = seg t o n := by
  rw [val_take_valF]
  exact valF_congr _ _ _ (fun i _ => by rw [List.getD_eq_getElem?_getD, List.getD_eq_getElem?_getD, List.getElem?_drop])
end Go.Proofs.YtjnbonellgpjnaaGreat

set_option linter.unusedVariables false
set_option linter.unusedSimpArgs false
namespace Go.Proofs.YtjnbonellgpjnaaGreat
open Go.RowKit

/-- What takeTimes leaves. -/
def TakenTimes (w : World) (g o n y : Nat) (s : List Nat) (e : Ending) (w' : World) : Prop :=
  ∃ t c, e = .returned (.int .u32 (c : Nat)) ∧ TakeFrom s o n y t c ∧ Row w' g t ∧ w.grownBy w' (some g)

set_option maxRecDepth 100000 in
set_option maxHeartbeats 2000000 in
theorem nat_takeTimes (g o n cap : Nat) (B : Option Addr) (cb : Nat) (s m : List Nat) (f : Nat) (w : World) (hr : Row w g s) (hs : Ok s) (hb : Sees w (.slice B m.length cb) m) (hne : 0 < m.length → ∀ a, B = some a → a.block ≠ g)
    (hmn : m.length < n) (hn : o + n ≤ s.length) (hsl : s.length ≤ 70368744177664) (hf : f < 4294967296) :
    Calls Tryz.prog 133 #[.slice (some ⟨g, o, none⟩) n cap, .slice B m.length cb, .int .u32 f] w fun e w' => TakenTimes w g o (m.length + 1) (val m * f) s e w' := by
  have HR := hid hr; have HS := hid hs; have HB := hid hb; have HN := hid hne
  clear hr hs hb hne
  have H0 : Hid (TakeMul s o 0 (valF (fun i => m.getD i 0) 0 * f) s 0 0) := by
    have h0 : valF (fun i => m.getD i 0) 0 * f = 0 := Nat.zero_mul f
    show TakeMul s o 0 (valF (fun i => m.getD i 0) 0 * f) s 0 0
    rw [h0]; exact TakeMul.start HS.out o
  have P0 : Hid (Part s s o 0) := Part.refl HS.out o
  go_enter Tryz.func133, Tryz.ntmps133
  go_wp2
  go_loopw [7, 8, 12] (fun v7 v8 v wr => ∃ (k c d : Nat) (t : List Nat), k ≤ m.length ∧ v = .int .i64 k ∧ v7 = .int .u64 c ∧ v8 = .int .u32 d ∧ d ≤ 1 ∧ c < 4294967296 ∧ Hid (TakeMul s o k (valF (fun i => m.getD i 0) k * f) t c d) ∧ Hid (Part s t o k) ∧ Hid (Row wr g t) ∧ Hid (w.grownBy wr (some g))) (fun _ _ v _ => m.length - (intOf v).toNat)
  case atStart => exact ⟨0, 0, 0, s, Nat.zero_le _, rfl, rfl, rfl, by omega, by omega, H0, P0, HR, World.grownBy.refl _ _⟩
  case round =>
    obtain ⟨k, c, d, t, hk, rfl, rfl, rfl, hd1, hc1, ha, hpart, hrow, hg⟩ := hrel
    by_cases hlt : k < m.length
    · obtain ⟨b2, o2, rfl, hcb'⟩ := HB.out.at (by omega)
      have hcb := hg.out.cell (hcb' k hlt) (by have := HN.out (by omega) _ rfl; simpa using this)
      have htl := hpart.out.len
      have hca := hrow.out.cell (i := o + k) (by omega)
      have hfr := hrow.out.frozen (o + k)
      have hox := hpart.out.ok.getD (o + k)
      have hob := HB.out.ok.getD k
      have hsame := hpart.out.out (o + k) (.inr (by omega))
      have hstep := fun lo c' x d' h1 h2 h3 h4 h5 => ha.out.step (by omega) (m.getD k 0) f lo c' x d' h1 h2 h3 h4 h5
      rw [← hsame] at hstep
      have hval : valF (fun i => m.getD i 0) k * f + 4294967296 ^ k * (m.getD k 0 * f) = valF (fun i => m.getD i 0) (k + 1) * f := by
        simp only [valF]; rw [Nat.add_mul, Nat.mul_assoc]
      rw [hval] at hstep
      have HST := hid hstep
      have HPS := hid (fun x hx => hpart.out.set x hx)
      have hkn : k < n := by omega
      clear hstep hsame hcb' hval
      generalize t.getD (o + k) 0 = u at *
      generalize m.getD k 0 = v at *
      have hfit := mul_fits v f 0 c hob hf (by omega) hc1
      obtain ⟨z, hz⟩ : ∃ z, z = v * f := ⟨_, rfl⟩
      have ez : IntKind.u64.wrap ((v : Int) * (f : Int)) = (z : Int) := by rw [hz, ← Int.natCast_mul]; exact wrap_u64 _ (by omega)
      rw [← hz] at hfit HST
      clear hz
      obtain ⟨T, hT⟩ : ∃ T, T = c + z := ⟨_, rfl⟩
      have e2 : IntKind.u64.wrap ((c : Int) + (z : Int)) = (T : Int) := by have := wrap_u64 T (by omega); rw [hT] at this ⊢; simpa using this
      obtain ⟨lo, hi, hlo, hhi, hxd, em, ed⟩ : ∃ lo hi : Nat, lo < 4294967296 ∧ hi < 4294967296 ∧ Hid (c + z = lo + 4294967296 * hi) ∧ (T : Int) % 4294967296 = (lo : Int) ∧ (T : Int) / 4294967296 = (hi : Int) :=
        ⟨T % 4294967296, T / 4294967296, by omega, by omega, by show _ = _; omega, by omega, by omega⟩
      obtain ⟨x, d', hx, hd', hsub, hcall⟩ := sub32 u lo d hox hlo hd1
      have HStep := hid (HST.out lo hi x d' hhi hx hd' hxd.out hsub.out)
      have HPart := hid (HPS.out x hx)
      have HRow := hid (hrow.out.set (o + k) x)
      have HG := hid (grownBy_set (i := o + k) (v := .int .u32 (x : Nat)) hg.out)
      have HCall := hid hcall
      clear hcall hsub hxd hT hfit HST HPS
      go_wp2_with (go_at_call 138; refine (HCall.out _).mono ?_; rintro e w' ⟨rfl, rfl⟩)
      all_goals
        go_roundw
        case rel => exact ⟨k + 1, hi, d', t.set (o + k) x, by omega, by go_num, by first | rfl | rw [ed], rfl, hd', hhi, HStep, HPart, HRow, by first | exact HG | exact grownBy_drewN HG.out _ | exact grownBy_drew HG.out | exact grownBy_drew (grownBy_drew HG.out)⟩
        case measure => simp [intOf]; omega
    · obtain rfl : k = m.length := by omega
      have hv : valF (fun i => m.getD i 0) m.length = val m := (val_valF m m.length (Nat.le_refl _)).symm
      rw [hv] at ha
      have htl := hpart.out.len
      have hca := hrow.out.cell (i := o + m.length) (by omega)
      have hfr := hrow.out.frozen (o + m.length)
      have hox := hpart.out.ok.getD (o + m.length)
      have hsame := hpart.out.out (o + m.length) (.inr (by omega))
      have hstep := fun x d' h1 h2 h3 => ha.out.last (by omega) x d' h1 h2 h3
      rw [← hsame] at hstep
      have HST := hid hstep
      clear hstep hsame hv ha
      generalize t.getD (o + m.length) 0 = u at *
      obtain ⟨x, d', hx, hd', hsub, hcall⟩ := sub32 u c d hox hc1 hd1
      have HStep := hid (HST.out x d' hx hd' hsub.out)
      have HRow := hid (hrow.out.set (o + m.length) x)
      have HG := hid (grownBy_set (i := o + m.length) (v := .int .u32 (x : Nat)) hg.out)
      have HCall := hid hcall
      have em : (c : Int) % 4294967296 = (c : Int) := by omega
      clear hcall hsub HST
      go_wp2_with (go_at_call 138; refine (HCall.out _).mono ?_; rintro e w' ⟨rfl, rfl⟩)
      all_goals
        go_ret
        exact ⟨_, d', rfl, HStep.out, HRow.out, by first | exact HG.out | exact grownBy_drew HG.out⟩
end Go.Proofs.YtjnbonellgpjnaaGreat

set_option linter.unusedVariables false
set_option linter.unusedSimpArgs false
namespace Go.Proofs.YtjnbonellgpjnaaGreat
open Go.RowKit

/-- A guess of a limb: not below what it guesses, and a limb. -/
def Guess (w : World) (Q : Nat) (e : Ending) (w' : World) : Prop := ∃ x : Nat, e = .returned (.int .u32 x) ∧ Q ≤ x ∧ x < 4294967296 ∧ ∀ r, w.grownBy w' r

theorem or_join (a b T : Nat) (ha : a < 4294967296) (hb : b < 4294967296) (h : T = a * 4294967296 + b) : bits BinOp.or IntKind.u64 ((a : Int) * 4294967296) (b : Int) = (T : Int) := by
  have h1 : ((a : Int) * 4294967296) = ((a * 4294967296 : Nat) : Int) := by rw [Int.natCast_mul]; rfl
  have e32 : (2 : Nat) ^ 32 = 4294967296 := by decide
  rw [h1, u64_or_nat _ _ (by omega) (by omega), nat_join 32 _ _ (by rw [e32]; exact Nat.mul_mod_left a 4294967296) (by rw [e32]; exact hb), h]

set_option maxRecDepth 100000 in
set_option maxHeartbeats 2000000 in
theorem nat_estimateLimb (ua va : Option Addr) (uc vc L Q : Nat) (u v : List Nat) (w : World) (hu : Sees w (.slice ua (L + 1) uc) u) (hv : Sees w (.slice va L vc) v) (hL : 2 ≤ L)
    (htop : 2147483648 ≤ v.getD (L - 1) 0) (hQ : Q * val v ≤ val u) (hlt : val u < val v * 4294967296) (hq : Q < 4294967296) :
    Calls Tryz.prog 132 #[.slice ua (L + 1) uc, .slice va L vc] w fun e w' => Guess w Q e w' := by
  have lu := hu.len_eq.1
  have lv := hv.len_eq.1
  have hll : L ≤ 70368744177664 := by have := hu.len; omega
  obtain ⟨bu, ou, rfl, hcu⟩ := hu.at (by omega)
  obtain ⟨bv, ov, rfl, hcv⟩ := hv.at (by omega)
  have c1 := hcv (L - 1) (by omega)
  have c2 := hcv (L - 2) (by omega)
  have c3 := hcu L (by omega)
  have c4 := hcu (L - 1) (by omega)
  have c5 := hcu (L - 2) (by omega)
  have hlists := est_lists (n := L - 2) hu.ok hv.ok (by omega) (by omega) hQ
  have htl := est_top (n := L - 2) hu.ok hv.ok (by omega) (by omega) hlt
  have i1 : L - 2 + 1 = L - 1 := by omega
  have i2 : L - 2 + 2 = L := by omega
  rw [i1, i2] at hlists htl
  have k1 := hv.ok.getD (L - 1)
  have k2 := hv.ok.getD (L - 2)
  have k3 := hu.ok.getD L
  have k4 := hu.ok.getD (L - 1)
  have k5 := hu.ok.getD (L - 2)
  clear i1 i2 hcu hcv hu hv hlt hQ
  generalize v.getD (L - 1) 0 = f at *
  generalize v.getD (L - 2) 0 = s at *
  generalize u.getD L 0 = w2 at *
  generalize u.getD (L - 1) 0 = w1 at *
  generalize u.getD (L - 2) 0 = w0 at *
  obtain ⟨T, hT⟩ : ∃ T, T = w2 * 4294967296 + w1 := ⟨_, rfl⟩
  have hl2 : Q * (s + 4294967296 * f) ≤ w0 + 4294967296 * T := by rw [hT]; omega
  have HL := hid hl2
  have eor := or_join w2 w1 T k3 k4 hT
  have hT64 : T < 18446744073709551616 := by omega
  obtain ⟨e0, he0⟩ : ∃ e0, e0 = T / f := ⟨_, rfl⟩
  obtain ⟨r0, hr0⟩ : ∃ r0, r0 = T % f := ⟨_, rfl⟩
  have hr0f : r0 < f := by rw [hr0]; exact Nat.mod_lt _ (by omega)
  have hdm : e0 * f + r0 = T := by rw [he0, hr0, Nat.mul_comm]; exact Nat.div_add_mod _ _
  have hq0 : Q ≤ e0 := by rw [he0]; exact est_init (by omega) k5 hl2
  have ediv : (T : Int) / (f : Int) = (e0 : Int) := by rw [he0]; exact (Int.natCast_ediv _ _).symm
  have emod : (T : Int) % (f : Int) = (r0 : Int) := by rw [hr0]; exact (Int.natCast_emod _ _).symm
  have he64 : e0 ≤ T := by rw [he0]; exact Nat.div_le_self _ _
  have HDM := hid hdm
  have HT := hid hT
  clear hlists hl2 hdm he0 hr0 lu lv hT
  obtain ⟨i1, hi1⟩ : ∃ i1, i1 = L - 1 := ⟨_, rfl⟩
  obtain ⟨i2, hi2⟩ : ∃ i2, i2 = L - 2 := ⟨_, rfl⟩
  rw [← hi1] at c1 c4
  rw [← hi2] at c2 c5
  have a1 : IntKind.i64.wrap ((L : Int) - 1) = (i1 : Int) := by rw [IntKind.wrap_i64]; omega
  have a2 : IntKind.i64.wrap ((L : Int) - 2) = (i2 : Int) := by rw [IntKind.wrap_i64]; omega
  have b1 : (0 : Int) ≤ (i1 : Int) := by omega
  have b2 : (0 : Int) ≤ (i2 : Int) := by omega
  have b3 : (i1 : Int) < (L : Int) := by omega
  have b4 : (i2 : Int) < (L : Int) := by omega
  have b5 : (i1 : Int) < ((L + 1 : Nat) : Int) := by omega
  have b6 : (i2 : Int) < ((L + 1 : Nat) : Int) := by omega
  have b7 : (L : Int) < ((L + 1 : Nat) : Int) := by omega
  have b8 : (0 : Int) ≤ (L : Int) := by omega
  clear hi1 hi2
  go_enter Tryz.func132, Tryz.ntmps132
  go_wp2
  go_quiet (fail)
  go_wp2
  go_quiet (fail)
  go_wp2
  go_quiet (fail)
  go_wp2
  go_loopw [10, 11] (fun v10 v11 wr => ∃ (e r : Nat), v10 = .int .u64 e ∧ v11 = .int .u64 r ∧ e ≤ e0 ∧ r < 4294967296 ∧ Q ≤ e ∧ Hid (e * f + r = T) ∧ Hid (∀ r, w.grownBy wr r)) (fun v10 _ _ => (intOf v10).toNat)
  case atStart => exact ⟨e0, r0, by first | rfl | rw [ediv], by first | rfl | rw [emod], Nat.le_refl _, by omega, hq0, HDM, fun _ => grownBy_drewN (grownBy_drewN (World.grownBy.refl _ _) _) _⟩
  case round =>
    obtain ⟨e, r, rfl, rfl, hee, hr, hqe, hs, hg⟩ := hrel
    clear c1 c2 c3 c4 c5 ediv emod eor a1 a2 b1 b2 b3 b4 b5 b6 b7 b8 hq0 hr0f
    have he64' : e < 18446744073709551616 := by omega
    obtain ⟨R, hR⟩ : ∃ R, R = r + f := ⟨_, rfl⟩
    have eR : IntKind.u64.wrap ((r : Int) + (f : Int)) = (R : Int) := by rw [IntKind.wrap_u64]; omega
    have HE0 := hid hee; have HEQ := hid hqe
    have HRR := hid hR
    have HTL := hid htl
    have HW0 := hid k5
    clear hT64 he64 hR htl
    by_cases hbig : 4294967295 < e
    · -- greater than any limb
      obtain ⟨e', hee'⟩ : ∃ e', e = e' + 1 := ⟨e - 1, by omega⟩
      have ee : IntKind.u64.wrap ((e : Int) - 1) = (e' : Int) := by rw [IntKind.wrap_u64]; omega
      have hs' : e' * f + R = T := by have := hs.out; rw [hee', Nat.succ_mul] at this; have := HRR.out; omega
      have HS' := hid hs'
      have HEE := hid hee'
      clear hs hs' hee' hee hqe
      by_cases hov : 4294967295 < R
      · have hex : e' < 4294967296 := by
          have h1 := HS'.out
          have h2 := HT.out
          have h3 := HTL.out
          rcases Nat.lt_or_ge e' 4294967296 with h | h
          · exact h
          · have : 4294967296 * f ≤ e' * f := Nat.mul_le_mul_right _ h
            have : w2 * 4294967296 ≤ f * 4294967296 := Nat.mul_le_mul_right _ h3
            omega
        have em : (e' : Int) % 4294967296 = (e' : Int) := by omega
        go_wp2
        go_ret
        exact ⟨e', rfl, by have := HEE.out; omega, hex, hg.out⟩
      · go_wp2
        go_roundw
        case rel => exact ⟨e', R, by first | rfl | rw [ee], by first | rfl | rw [eR], by have := HEE.out; have := HE0.out; omega, by omega, by have := HEE.out; omega, HS', hg⟩
        case measure => have := HEE.out; simp [intOf]; omega
    · obtain ⟨z, hz⟩ : ∃ z, e * s = z := ⟨_, rfl⟩
      have hz64 : z < 18446744073709551616 := by
        have : e * s ≤ 4294967295 * 4294967295 := Nat.mul_le_mul (by omega) (by omega)
        omega
      have ez : IntKind.u64.wrap ((e : Int) * (s : Int)) = (z : Int) := by rw [← Int.natCast_mul, hz]; exact wrap_u64 _ hz64
      obtain ⟨y, hy⟩ : ∃ y, y = r * 4294967296 + w0 := ⟨_, rfl⟩
      have ey := or_join r w0 y hr k5 hy
      by_cases hlt : y < z
      · have hqlt : Q < e := est_less HL.out hs.out (by rw [← hy, hz]; exact hlt)
        obtain ⟨e', hee'⟩ : ∃ e', e = e' + 1 := ⟨e - 1, by omega⟩
        have ee : IntKind.u64.wrap ((e : Int) - 1) = (e' : Int) := by rw [IntKind.wrap_u64]; omega
        have hs' : e' * f + R = T := by have := hs.out; rw [hee', Nat.succ_mul] at this; have := HRR.out; omega
        have HS' := hid hs'
        have HEE := hid hee'
        have HQL := hid hqlt
        clear hs hs' hee' hee hqe hz hy hqlt
        by_cases hov : 4294967295 < R
        · have em : (e' : Int) % 4294967296 = (e' : Int) := by have := HEE.out; omega
          go_wp2
          go_ret
          exact ⟨e', rfl, by have := HEE.out; have := HQL.out; omega, by have := HEE.out; omega, hg.out⟩
        · go_wp2
          go_roundw
          case rel => exact ⟨e', R, by first | rfl | rw [ee], by first | rfl | rw [eR], by have := HEE.out; have := HE0.out; omega, by omega, by have := HEE.out; have := HQL.out; omega, HS', hg⟩
          case measure => have := HEE.out; simp [intOf]; omega
      · have em : (e : Int) % 4294967296 = (e : Int) := by omega
        clear hz hy hs hee
        go_wp2
        go_ret
        exact ⟨e, rfl, by omega, by omega, hg.out⟩
end Go.Proofs.YtjnbonellgpjnaaGreat

set_option linter.unusedVariables false
set_option linter.unusedSimpArgs false
namespace Go.Proofs.YtjnbonellgpjnaaGreat
open Go.RowKit

theorem wrap_u32_nat (x H : Nat) (h : x % 4294967296 = H) : IntKind.u32.wrap (x : Int) = (H : Int) := by
  rw [IntKind.wrap_u32]; omega
theorem or_u32 (H c X : Nat) (h1 : H < 4294967296) (h2 : c < 4294967296) (h : (H ||| c) = X) : bits .or .u32 (H : Int) (c : Int) = (X : Int) := by
  rw [u32_or_nat H c h1 h2, h]

/-- What shiftUp leaves. -/
def ShiftedUp (w : World) (g o k y : Nat) (s : List Nat) (e : Ending) (w' : World) : Prop :=
  ∃ t c, e = .returned (.tuple #[]) ∧ AddMul s o k y t c ∧ Row w' g (t.set (o + k) c) ∧ w.grownBy w' (some g)

set_option maxRecDepth 100000 in
set_option maxHeartbeats 2000000 in
theorem nat_shiftUp (g o n cap : Nat) (B : Option Addr) (cb : Nat) (s m : List Nat) (h k : Nat) (w : World) (hr : Row w g s) (hs : Ok s) (hz : ∀ j, o ≤ j → s.getD j 0 = 0) (hb : Sees w (.slice B m.length cb) m) (hne : 0 < m.length → ∀ a, B = some a → a.block ≠ g)
    (hmn : m.length < n) (hn : o + n ≤ s.length) (hsl : s.length ≤ 70368744177664) (hk : h + k = 32) :
    Calls Tryz.prog 108 #[.slice (some ⟨g, o, none⟩) n cap, .slice B m.length cb, .int .u64 h] w fun e w' => ShiftedUp w g o m.length (val m * 2 ^ h) s e w' := by
  have HR := hid hr; have HS := hid hs; have HB := hid hb; have HN := hid hne; have HZ := hid hz
  clear hr hs hb hne hz
  have H0 : Hid (AddMul s o 0 (valF (fun i => m.getD i 0) 0 * 2 ^ h) s 0) := by
    have h0 : valF (fun i => m.getD i 0) 0 * 2 ^ h = 0 := Nat.zero_mul _
    show AddMul s o 0 (valF (fun i => m.getD i 0) 0 * 2 ^ h) s 0
    rw [h0]; exact AddMul.start HS.out o
  have ek : (32 : Int) - (h : Int) = (k : Int) := by omega
  have hpow := Nat.two_pow_pos h
  have hpl : 2 ^ h ≤ 4294967296 := (Nat.pow_le_pow_right (by decide) (by omega) : 2 ^ h ≤ 2 ^ 32)
  have HPL := hid hpl
  clear hpl
  go_enter Tryz.func108, Tryz.ntmps108
  go_wp2
  go_loopw [6, 10] (fun v6 v wr => ∃ (i c : Nat) (t : List Nat), i ≤ m.length ∧ v = .int .i64 i ∧ v6 = .int .u32 c ∧ Hid (c < 2 ^ h) ∧ c < 4294967296 ∧ Hid (AddMul s o i (valF (fun i => m.getD i 0) i * 2 ^ h) t c) ∧ Hid (Row wr g t) ∧ Hid (w.grownBy wr (some g))) (fun _ v _ => m.length - (intOf v).toNat)
  case atStart => exact ⟨0, 0, s, Nat.zero_le _, rfl, rfl, hpow, by omega, H0, HR, World.grownBy.refl _ _⟩
  case round =>
    obtain ⟨i, c, t, hi, rfl, rfl, hcp, hc1, ha, hrow, hg⟩ := hrel
    have htl := ha.out.part.len
    by_cases hlt : i < m.length
    · obtain ⟨b2, o2, rfl, hcb'⟩ := HB.out.at (by omega)
      have hne2 : b2 ≠ g := HN.out (by omega) _ rfl
      have hcb := hg.out.cell (hcb' i hlt) (by simpa using hne2)
      have hca := hrow.out.cell (i := o + i) (by omega)
      have hfr := hrow.out.frozen (o + i)
      have hob := HB.out.ok.getD i
      have hsame := ha.out.part.out (o + i) (.inr (by omega))
      have hz0 := HZ.out (o + i) (by omega)
      have hstep := ha.out.step (by omega) (m.getD i 0 * 2 ^ h)
      rw [hz0] at hstep hsame
      have hval : valF (fun i => m.getD i 0) i * 2 ^ h + 4294967296 ^ i * (m.getD i 0 * 2 ^ h) = valF (fun i => m.getD i 0) (i + 1) * 2 ^ h := by
        simp only [valF]; rw [Nat.add_mul, Nat.mul_assoc]
      rw [hval] at hstep
      have HST := hid hstep
      clear hstep hsame hcb' hval hz0
      generalize m.getD i 0 = v at *
      obtain ⟨X, H, hX, hD, hH, e1, e2, e3⟩ := shl_limb v c h k hk hob hcp.out
      obtain ⟨D, hDe⟩ : ∃ D, D = v / 2 ^ k := ⟨_, rfl⟩
      rw [← hDe] at hD e3
      have hD1 : D < 4294967296 := by have := HPL.out; omega
      have f1 : IntKind.u32.wrap ((v : Int) * 2 ^ h) = (H : Int) := by
        have := wrap_u32_nat _ _ e1
        rw [Int.natCast_mul, Int.natCast_pow] at this
        exact this
      have f2 := or_u32 H c X hH hc1 e2
      have f3 : (v : Int) / 2 ^ k = (D : Int) := by
        rw [hDe, Int.natCast_ediv, Int.natCast_pow]; rfl
      have HStep := hid (HST.out X D hX hD1 (by omega))
      have HD := hid hD
      have HRow := hid (hrow.out.set (o + i) X)
      have HG := hid (grownBy_set (i := o + i) (v := .int .u32 (X : Nat)) hg.out)
      clear e1 e2 e3 hD hDe HST
      go_wp2
      go_roundw
      case rel => exact ⟨i + 1, D, t.set (o + i) X, by omega, by go_num, rfl, HD, hD1, HStep, HRow, HG⟩
      case measure => simp [intOf]; omega
    · obtain rfl : i = m.length := by omega
      have hv : valF (fun i => m.getD i 0) m.length = val m := (val_valF m m.length (Nat.le_refl _)).symm
      rw [hv] at ha
      clear hv
      have hca := hrow.out.cell (i := o + m.length) (by omega)
      have hfr := hrow.out.frozen (o + m.length)
      have HRow := hid (hrow.out.set (o + m.length) c)
      have HG := hid (grownBy_set (i := o + m.length) (v := .int .u32 (c : Nat)) hg.out)
      go_wp2
      go_end0
      exact ⟨t, c, rfl, ha.out, HRow.out, HG.out⟩

end Go.Proofs.YtjnbonellgpjnaaGreat

set_option linter.unusedVariables false
set_option linter.unusedSimpArgs false
namespace Go.Proofs.YtjnbonellgpjnaaGreat
open Go.RowKit

/-- What shiftDown returns. -/
def ShiftedDown (w : World) (x n : Nat) (e : Ending) (w' : World) : Prop :=
  ∃ t, e = .returned (.slice (some ⟨w.heap.size, 0, none⟩) n n) ∧ t.length = n ∧ Ok t ∧ val t = x ∧ Row w' w.heap.size t ∧ Below w.heap.size w w'

set_option maxRecDepth 100000 in
set_option maxHeartbeats 400000 in
theorem nat_shiftDown (B : Option Addr) (cb : Nat) (m : List Nat) (h k : Nat) (w : World) (hb : Sees w (.slice B m.length cb) m) (hk : h + k = 32) (hml : m.length ≤ 35184372088832) :
    Calls Tryz.prog 107 #[.slice B m.length cb, .int .u64 h] w fun e w' => ShiftedDown w (val m / 2 ^ h) m.length e w' := by
  have HB := hid hb
  clear hb
  have ek : (32 : Int) - (h : Int) = (k : Int) := by omega
  go_enter Tryz.func107, Tryz.ntmps107
  have hmk := run_make_row' (P := Tryz.prog) 22 98 (.int .u32 0) 4 Tryz.underlying22 info_u32 rfl .i64 .i64 m.length (by omega) (by omega)
  obtain ⟨w1, hw1⟩ : ∃ w1, w1 = w.alloc (.cells (madeCells #[Value.int .u32 0] m.length) 98) := ⟨_, rfl⟩
  have hbel : Below w.heap.size w w1 := by rw [hw1]; exact (Below.refl _ w).alloc (Nat.le_refl _) _
  have hrow0 : Row w1 w.heap.size (List.replicate m.length 0) := by rw [hw1]; exact Row.made w _
  have HW := hid hw1.symm; have HBEL := hid hbel; have HROW0 := hid hrow0
  have HB1 := hid (HB.out.below hbel)
  have HBL := hid (fun (h : 0 < m.length) (a : Addr) (e : B = some a) => (e ▸ HB.out : Sees w (.slice (some a) m.length cb) m).lt h)
  clear hw1 hbel hrow0
  go_wp2
  go_loopw [12] (fun v wr => ∃ (i : Nat) (t : List Nat), i ≤ m.length ∧ v = .int .i64 i ∧ Hid (DownTo m h i t) ∧ Hid (Row wr w.heap.size t) ∧ Hid (w1.grownBy wr (some w.heap.size))) (fun v _ => m.length - (intOf v).toNat)
  case atStart => exact ⟨0, _, Nat.zero_le _, rfl, DownTo.start _ _, by rw [HW.out]; exact HROW0, by rw [HW.out]; exact World.grownBy.refl _ _⟩
  case round =>
    obtain ⟨i, t, hi, rfl, hd, hrow, hg⟩ := hrel
    have htl := hd.out.len
    by_cases hlt : i < m.length
    · have hsw : Sees wr (.slice B m.length cb) m := HB1.out.grown hg.out (fun a e => by have := HBL.out (by omega) a e; omega)
      obtain ⟨b2, o2, rfl, hcb'⟩ := hsw.at (by omega)
      have hcb := hcb' i hlt
      have hob := hsw.ok.getD i
      have hob2 := hsw.ok.getD (i + 1)
      have hca := hrow.out.cell (i := i) (by omega)
      have hfr := hrow.out.frozen i
      have hstep := fun X hX => hd.out.step (X := X) hk hlt hX
      have HSTEP := hid hstep
      have hcall := nat_limbAt (.slice (some ⟨b2, o2, none⟩) m.length cb) m (i + 1) _ wr.drew hsw (by omega) rfl
      have ei : ((i + 1 : Nat) : Int) = IntKind.i64.wrap ((i : Int) + 1) := by rw [IntKind.wrap_i64]; omega
      rw [ei] at hcall
      clear ei
      have HCALL := hid hcall
      clear hstep hcb' hcall hd
      generalize m.getD i 0 = v at *
      generalize m.getD (i + 1) 0 = u at *
      obtain ⟨c, hce⟩ : ∃ c, c = v / 2 ^ h := ⟨_, rfl⟩
      have hcl : c < 2 ^ k := by
        rw [hce]
        apply Nat.div_lt_of_lt_mul
        rw [← Nat.pow_add, hk]
        exact hob
      have hc32 : c < 4294967296 := by rw [hce]; exact Nat.lt_of_le_of_lt (Nat.div_le_self _ _) hob
      obtain ⟨X, H, hX, hD, hH, e1, e2, e3⟩ := shl_limb u c k h (by omega) hob2 hcl
      rw [hce] at e3
      have HST := hid (HSTEP.out X hX e3)
      have f1 : IntKind.u32.wrap ((u : Int) * 2 ^ k) = (H : Int) := by
        have := wrap_u32_nat _ _ e1
        rw [Int.natCast_mul, Int.natCast_pow] at this
        exact this
      have f4 : (u : Int) * 2 ^ min k 32 % 4294967296 = (H : Int) := by
        rw [Nat.min_eq_left (by omega), ← IntKind.wrap_u32]; exact f1
      have f2 := or_u32 c H X hc32 hH (by rw [Nat.or_comm]; exact e2)
      have f3 : (v : Int) / 2 ^ h = (c : Int) := by
        rw [hce, Int.natCast_ediv, Int.natCast_pow]; rfl
      have HRow := hid (hrow.out.set i X)
      have HG := hid (grownBy_set (i := i) (v := .int .u32 (X : Nat)) hg.out)
      clear e1 e2 e3 hD hce HSTEP hcl hsw
      go_wp2
      go_region_with (go_at_call 125; refine HCALL.out.mono ?_; rintro e w' ⟨rfl, rfl⟩)
      all_goals
        go_wp2
        go_roundw
        case rel => exact ⟨i + 1, t.set i X, by omega, by go_num, HST, by (try rw [f4, f2]); first | exact HRow | exact HRow.out.drew, by (try rw [f4, f2]); first | exact HG | exact grownBy_drew HG.out⟩
        case measure => simp [intOf]; omega
    · obtain rfl : i = m.length := by omega
      have hok := hd.out.ok
      have hv := hd.out.total
      have HF := hid (And.intro htl (And.intro hok hv))
      have HB5 : Hid (Below w.heap.size w wr) := HBEL.out.grown hg.out (HBEL.out.size) (fun k e => by simp at e; omega)
      clear hok hv hd
      go_wp2
      go_ret
      obtain ⟨g1, g2, g3⟩ := HF.out
      exact ⟨t, rfl, g1, g2, g3, hrow.out, HB5.out⟩
end Go.Proofs.YtjnbonellgpjnaaGreat

set_option linter.unusedVariables false
set_option linter.unusedSimpArgs false
namespace Go.Proofs.YtjnbonellgpjnaaGreat
open Go.RowKit

/-- A quotient and a rest. -/
def Quots (w : World) (x y : Nat) (e : Ending) (w' : World) : Prop := ∃ q r, e = .returned (.tuple #[q, r]) ∧ Sees w' q (limbs (x / y)) ∧ Sees w' r (limbs (x % y)) ∧ Below w.heap.size w w'

set_option maxRecDepth 100000 in
set_option maxHeartbeats 4000000 in
theorem nat_divideLong (a b : Option Addr) (ca cb X Y : Nat) (p q : List Nat) (w : World) (ha : Sees w (.slice a p.length ca) p) (hb : Sees w (.slice b q.length cb) q) (hp : p = limbs X) (hq : q = limbs Y) (hXY : Y ≤ X) (h2 : 2 ≤ q.length) (hl : p.length ≤ 17592186044416) :
    Calls Tryz.prog 121 #[.slice a p.length ca, .slice b q.length cb] w fun e w' => Quots w X Y e w' := by
  have HA := hid ha; have HB := hid hb
  have hql : q.length ≤ p.length := by
    rw [hp, hq]
    rcases Nat.lt_or_ge (limbs X).length (limbs Y).length with h1 | h1
    · have := limbs_length_lt h1; omega
    · exact h1
  obtain ⟨bb, ob, rfl, hcb⟩ := hb.at (by omega)
  have hcb1 := hcb (q.length - 1) (by omega)
  have htb := hb.ok.getD (q.length - 1)
  clear hcb ha hb
  have htop : q.getD (q.length - 1) 0 ≠ 0 := by
    rw [hq]
    rcases Nat.eq_zero_or_pos Y with h0 | h0
    · subst h0; rw [hq] at h2; simp [limbs_zero] at h2
    · exact (limbs_last h0).2
  generalize hz : q.getD (q.length - 1) 0 = z at *
  -- how many bits its highest limb lacks
  obtain ⟨s, k, hsk, hs32, hlz⟩ : ∃ s k : Nat, s + k = 32 ∧ 0 < k ∧ bitsN z = k := by
    have h3 := bitsN_le htb
    have h4 : 0 < bitsN z := by unfold bitsN; rw [if_neg htop]; omega
    exact ⟨32 - bitsN z, bitsN z, by omega, h4, rfl⟩
  have hcall : ∀ w, Calls Tryz.prog 131 #[.int .u32 (z : Nat)] w fun e w' => e = .returned (.int .i64 (s : Nat)) ∧ w' = w := fun w => by
    refine (Tryz.bits_LeadingZeros32 (z : Nat) w (by omega) (by omega)).mono ?_
    rintro e w' ⟨rfl, rfl⟩
    refine ⟨?_, rfl⟩
    rw [Int.toNat_natCast, bitLen_eq z htb, hlz]
    have : (32 : Int) - (k : Int) = (s : Int) := by omega
    rw [this]
  have HCALL := hid hcall
  have HZ := hid hz; have HP := hid hp; have HQ := hid hq; have HXY := hid hXY; have HLZ := hid hlz
  have e1 : IntKind.i64.wrap ((q.length : Int) - 1) = ((q.length - 1 : Nat) : Int) := by rw [IntKind.wrap_i64]; omega
  have es : IntKind.u64.wrap (s : Int) = (s : Int) := by rw [IntKind.wrap_u64]; omega
  have hmk1 := run_make_row' (P := Tryz.prog) 22 98 (.int .u32 0) 4 Tryz.underlying22 info_u32 rfl .i64 .i64 (p.length + 1) (by omega) (by omega)
  have hmk2 := run_make_row' (P := Tryz.prog) 22 98 (.int .u32 0) 4 Tryz.underlying22 info_u32 rfl .i64 .i64 (q.length + 1) (by omega) (by omega)
  rw [show ((p.length + 1 : Nat) : Int) = (p.length : Int) + 1 by omega] at hmk1
  rw [show ((q.length + 1 : Nat) : Int) = (q.length : Int) + 1 by omega] at hmk2
  have ec1 : IntKind.i64.wrap ((p.length : Int) + 1) = (p.length : Int) + 1 := by rw [IntKind.wrap_i64]; omega
  have ec2 : IntKind.i64.wrap ((q.length : Int) + 1) = (q.length : Int) + 1 := by rw [IntKind.wrap_i64]; omega
  clear hcall hz hp hq hXY hlz htop
  go_enter Tryz.func121, Tryz.ntmps121
  go_wp2
  go_step3
  go_wp2_with fail
  refine (HCALL.out _).mono ?_
  rintro e w' ⟨rfl, rfl⟩
  clear HCALL
  go_wp2
  go_region
  all_goals first
    | (obtain ⟨gR, hgR⟩ : ∃ g, g = w'.heap.size + 1 := ⟨_, rfl⟩
       obtain ⟨gD, hgD⟩ : ∃ g, g = w'.heap.size := ⟨_, rfl⟩
       obtain ⟨w1, hw1⟩ : ∃ x, x = ((w'.alloc (.cells (madeCells #[Value.int .u32 0] (q.length + 1)) 98)).alloc (.cells (madeCells #[Value.int .u32 0] (p.length + 1)) 98)).drew := ⟨_, rfl⟩
       have F1 : Hid (Row w1 gR (List.replicate (p.length + 1) 0)) := by
         rw [hw1, hgR]
         have := Row.made (w'.alloc (.cells (madeCells #[Value.int .u32 0] (q.length + 1)) 98)) (p.length + 1)
         rw [Deep.nblk_alloc] at this
         exact this.drew
       have F2 : Hid (Row w1 gD (List.replicate (q.length + 1) 0)) := by rw [hw1, hgD]; exact ((Row.made w' _).alloc _).drew
       have F3 : Hid (Below w'.heap.size w' w1) := by rw [hw1]; exact (((Below.refl _ w').alloc (Nat.le_refl _) _).alloc (by simp) _).drew
       have F4 : Hid (gR ≠ gD ∧ w'.heap.size ≤ gR ∧ w'.heap.size ≤ gD) := by refine ⟨?_, ?_, ?_⟩ <;> omega
       rw [← hw1, ← hgR, ← hgD]
       clear hw1 hgR hgD)
    | (obtain ⟨gR, hgR⟩ : ∃ g, g = w'.heap.size := ⟨_, rfl⟩
       obtain ⟨gD, hgD⟩ : ∃ g, g = w'.heap.size + 1 := ⟨_, rfl⟩
       obtain ⟨w1, hw1⟩ : ∃ x, x = ((w'.alloc (.cells (madeCells #[Value.int .u32 0] (p.length + 1)) 98)).alloc (.cells (madeCells #[Value.int .u32 0] (q.length + 1)) 98)).drew := ⟨_, rfl⟩
       have F1 : Hid (Row w1 gR (List.replicate (p.length + 1) 0)) := by rw [hw1, hgR]; exact ((Row.made w' _).alloc _).drew
       have F2 : Hid (Row w1 gD (List.replicate (q.length + 1) 0)) := by
         rw [hw1, hgD]
         have := Row.made (w'.alloc (.cells (madeCells #[Value.int .u32 0] (p.length + 1)) 98)) (q.length + 1)
         rw [Deep.nblk_alloc] at this
         exact this.drew
       have F3 : Hid (Below w'.heap.size w' w1) := by rw [hw1]; exact (((Below.refl _ w').alloc (Nat.le_refl _) _).alloc (by simp) _).drew
       have F4 : Hid (gR ≠ gD ∧ w'.heap.size ≤ gR ∧ w'.heap.size ≤ gD) := by refine ⟨?_, ?_, ?_⟩ <;> omega
       rw [← hw1, ← hgD, ← hgR]
       clear hw1 hgR hgD)
  all_goals
    have HAL := hid (fun (h : 0 < p.length) (a' : Addr) (e : a = some a') => (e ▸ HA.out : Sees w' (.slice (some a') p.length ca) p).lt h)
    have HBL : Hid (bb < w'.heap.size) := HB.out.lt (by omega)
    have HA1 := hid (HA.out.below F3.out)
    have HB1 := hid (HB.out.below F3.out)
    clear hcb1 hmk1 hmk2 ec1 ec2 e1 es HA HB
    -- the dividend, shifted
    have C1 := hid (nat_shiftUp gR 0 (p.length + 1) (p.length + 1) a ca (List.replicate (p.length + 1) 0) p s k w1 F1.out (Ok.replicate _) (fun j _ => by rw [List.getD_eq_getElem?_getD, List.getElem?_replicate]; split <;> rfl) HA1.out (fun h a' e => by have := HAL.out h a' e; have := F4.out; omega) (by omega) (by simp) (by simp; omega) hsk)
    go_wp2_with fail
    refine C1.out.mono ?_
    rintro e w2 ⟨t, c, rfl, ham, hrow2, hg2⟩
    obtain ⟨hv1, hok1, hl1⟩ := up_val ham
    rw [Nat.zero_add] at hrow2
    obtain ⟨R0, hR0⟩ : ∃ R, R = t.set p.length c := ⟨_, rfl⟩
    rw [← hR0] at hrow2 hv1 hok1 hl1
    have G1 := hid hrow2
    have G2 := hid (F2.out.grown hg2 (by simp; have := F4.out; omega))
    have G3 : Hid (Below w'.heap.size w' w2) := F3.out.grown hg2 F3.out.size (fun k' e => by simp at e; have := F4.out; omega)
    have HB2 : Hid (Sees w2 (.slice (some ⟨bb, ob, none⟩) q.length cb) q) := HB1.out.grown hg2 (fun a' e => by cases e; have := F4.out; have := HBL.out; simp; omega)
    have HV1 := hid hv1; have HO1 := hid hok1; have HL1 := hid hl1
    clear ham hrow2 hg2 hR0 hv1 hok1 hl1 C1 F1 F2 F3 HA1 HB1 HAL
    -- the divisor, shifted
    have C2 := hid (nat_shiftUp gD 0 (q.length + 1) (q.length + 1) (some ⟨bb, ob, none⟩) cb (List.replicate (q.length + 1) 0) q s k w2 G2.out (Ok.replicate _) (fun j _ => by rw [List.getD_eq_getElem?_getD, List.getElem?_replicate]; split <;> rfl) HB2.out (fun h a' e => by cases e; have := F4.out; have := HBL.out; simp; omega) (by omega) (by simp) (by simp; omega) hsk)
    go_wp2_with fail
    refine C2.out.mono ?_
    rintro e w3 ⟨t', c', rfl, ham, hrow3, hg3⟩
    obtain ⟨hv2, hok2, hl2⟩ := up_val ham
    rw [Nat.zero_add] at hrow3
    obtain ⟨D0, hD0⟩ : ∃ R, R = t'.set q.length c' := ⟨_, rfl⟩
    rw [← hD0] at hrow3 hv2 hok2 hl2
    have hD0s : Sees w3 (.slice (some ⟨gD, 0, none⟩) (q.length + 1) (q.length + 1)) D0 := by
      have := hrow3.sees hok2 0 (q.length + 1) (q.length + 1) (by omega) (Nat.le_refl _) (by omega)
      rwa [List.drop_zero, List.take_of_length_le (by omega)] at this
    have K1 := hid (G1.out.grown hg3 (by simp; have := F4.out; omega))
    have K3 : Hid (Below w'.heap.size w' w3) := G3.out.grown hg3 G3.out.size (fun k' e => by simp at e; have := F4.out; omega)
    have KD := hid hD0s; have HV2 := hid hv2
    clear ham hrow3 hg3 hD0 hv2 hok2 hl2 C2 G1 G2 G3 HB2 hD0s
    go_wp2_with fail
    refine (trim_sees _ _ _ _ _ KD.out).mono ?_
    rintro e w4 ⟨⟨A, rfl, hA, hAe⟩, rfl⟩
    -- the numbers
    obtain ⟨D, hD⟩ : ∃ D, D = Y * 2 ^ s := ⟨_, rfl⟩
    have hvD : val D0 = D := by rw [HV2.out, HQ.out, val_limbs, hD]
    obtain ⟨v, hv⟩ : ∃ v, v = limbs (val D0) := ⟨_, rfl⟩
    simp only [← hv] at hA hAe ⊢
    have hzk : 2 ^ (k - 1) ≤ z ∧ z < 2 ^ k := by
      have h3 := HLZ.out
      unfold bitsN at h3
      by_cases hz0 : z = 0
      · rw [if_pos hz0] at h3; omega
      · rw [if_neg hz0] at h3
        have h4 : k - 1 = Nat.log2 z := by omega
        have h5 : k = Nat.log2 z + 1 := by omega
        refine ⟨by rw [h4]; exact Nat.log2_self_le hz0, by rw [h5]; exact Nat.lt_log2_self⟩
    have hnorm := norm (Y := Y) (z := z) (s := s) (k := k) (n := q.length - 1) (by rw [← HQ.out]; omega) (by rw [← HQ.out]; exact HZ.out) hsk hs32 hzk.1 hzk.2
    rw [← hD, show q.length - 1 + 1 = q.length by omega] at hnorm
    obtain ⟨n1, n2, n3⟩ := hnorm
    rw [← hvD, ← hv] at n1 n2
    have hvv : val v = D := by rw [hv, val_limbs, hvD]
    have hAs : A = some ⟨gD, 0, none⟩ := hAe (by omega)
    subst hAs
    have HVS := hid hA; have N1 := hid n1; have N2 := hid n2; have N3 := hid n3; have HVV := hid hvv; have HDD := hid hD
    have hvl : 2 ≤ v.length := by omega
    clear hA hAe hv hvD hzk KD n1 n2 n3 hvv hD HV2 HLZ HZ
    obtain ⟨N, hN⟩ : ∃ N, N = p.length - q.length + 1 := ⟨_, rfl⟩
    have hmk3 := run_make_row' (P := Tryz.prog) 22 98 (.int .u32 0) 4 Tryz.underlying22 info_u32 rfl .i64 .i64 N (by omega) (by omega)
    have eN : (p.length : Int) - (q.length : Int) + 1 = (N : Int) := by omega
    rw [← eN] at hmk3
    clear eN
    obtain ⟨gQ, hgQ⟩ : ∃ g, g = w3.heap.size := ⟨_, rfl⟩
    obtain ⟨w5, hw5⟩ : ∃ x, x = w3.alloc (.cells (madeCells #[Value.int .u32 0] N) 98) := ⟨_, rfl⟩
    have Q1 : Hid (Row w5 gQ (List.replicate N 0)) := by rw [hw5, hgQ]; exact Row.made w3 N
    have Q2 : Hid (Row w5 gR R0) := by rw [hw5]; exact K1.out.alloc _
    have Q3 : Hid (Below w'.heap.size w' w5) := by rw [hw5]; exact K3.out.alloc K3.out.size _
    have Q4 : Hid (Sees w5 (.slice (some ⟨gD, 0, none⟩) v.length v.length) v) := by rw [hw5]; exact HVS.out.below ((Below.refl _ _).alloc (Nat.le_refl _) _)
    have Q5 : Hid (gR ≠ gQ ∧ gD ≠ gQ ∧ w'.heap.size ≤ gQ) := by
      have h1 := K1.out.lt
      have h2 := HVS.out.lt (by omega)
      have h3 := K3.out.size
      refine ⟨?_, ?_, ?_⟩ <;> simp at * <;> omega
    have HW5 := hid hw5.symm; have HGQ := hid hgQ.symm; have HN := hid hN
    clear hw5 hgQ hN K1 K3 HVS
    go_wp2
    rw [HW5.out, HGQ.out]
    clear HW5 HGQ hmk3
    have hD0 : 0 < D := by
      have h1 := N3.out
      have h2 := Nat.pow_pos (n := q.length) (show 0 < 4294967296 by decide)
      omega
    have hDn : D < 4294967296 ^ v.length := by have := val_lt Q4.out.ok; rwa [HVV.out] at this
    have L0 : Hid (LongTo (X * 2 ^ s) D N R0 (List.replicate N 0)) := by
      refine LongTo.start HO1.out (by rw [HV1.out, HP.out, val_limbs]) ?_
      have h1 := long_fits (a := X) (b := Y) (la := p.length) (n := q.length) (p := 2 ^ s) (by rw [HP.out]; exact lt_pow_length X) (by
        have : 2 ^ s ≤ 2 ^ 31 := Nat.pow_le_pow_right (by decide) (by omega)
        simpa using this) (by rw [← HDD.out]; exact N3.out) hql
      rw [← HDD.out, ← HN.out] at h1
      exact h1
    have HD0 := hid hD0; have HDN := hid hDn
    clear hD0 hDn
    go_step3
    go_wp2
    go_loopg [49] N (fun g v49 wr => ∃ (k2 : Nat) (t qs : List Nat), k2 + g = N ∧ v49 = .int .i64 k2 ∧ Hid (LongTo (X * 2 ^ s) D g t qs) ∧ Hid (t.length = p.length + 1) ∧ Hid (qs.length = N) ∧ Hid (Row wr gR t) ∧ Hid (Row wr gQ qs) ∧ Hid (Sees wr (.slice (some ⟨gD, 0, none⟩) v.length v.length) v) ∧ Hid (Below w'.heap.size w' wr))
    case atStart => exact ⟨0, R0, _, by omega, rfl, L0, HL1, by show _ = _; simp, Q2, Q1, Q4, Q3⟩
    case round =>
      clear Q1 Q2 Q3 Q4 L0 HV1 HO1 HL1
      obtain ⟨k2, t2, qs, hk2, rfl, hlong, htl, hqsl, hrR, hrQ, hsD, hbel⟩ := hrel
      cases gk with
      | zero =>
        obtain rfl : k2 = N := by omega
        have htot := hlong.out.total HD0.out
        have hqs : Sees wr (.slice (some ⟨gQ, 0, none⟩) k2 k2) qs := by
          have hq1 := hqsl.out
          have := hrQ.out.sees hlong.out.okq 0 k2 k2 (by omega) (Nat.le_refl _) (by have := HN.out; omega)
          rwa [List.drop_zero, List.take_of_length_le (by omega)] at this
        have hts : Sees wr (.slice (some ⟨gR, 0, none⟩) t2.length t2.length) t2 := by
          have ht1 := htl.out
          have := hrR.out.sees hlong.out.okt 0 t2.length t2.length (by omega) (Nat.le_refl _) (by omega)
          rwa [List.drop_zero, List.take_of_length_le (by omega)] at this
        have C4 := nat_shiftDown _ _ t2 s k wr hts hsk (by have := htl.out; omega)
        rw [htl.out] at C4
        have HC4 := hid C4; have HT := hid htot; have HQS := hid hqs
        clear hlong htot hqs hts C4 hrQ hrR hsD
        go_wp2_with fail
        refine (trim_sees _ _ _ _ _ HQS.out).mono ?_
        rintro e w6 ⟨⟨Q, rfl, hQ, -⟩, rfl⟩
        have HQQ := hid hQ
        clear hQ HQS
        go_wp2_with fail
        refine HC4.out.mono ?_
        rintro e w7 ⟨t3, rfl, hl3, ho3, hv3, hr3, hb3⟩
        have h3s : Sees w7 (.slice (some ⟨wr.heap.size, 0, none⟩) (p.length + 1) (p.length + 1)) t3 := by
          have := hr3.sees ho3 0 (p.length + 1) (p.length + 1) (by omega) (Nat.le_refl _) (by omega)
          rwa [List.drop_zero, List.take_of_length_le (by omega)] at this
        have H3 := hid h3s; have HV3 := hid hv3; have HB3 := hid hb3
        clear h3s hl3 ho3 hv3 hr3 hb3 HC4
        go_wp2_with fail
        refine (trim_sees _ _ _ _ _ H3.out).mono ?_
        rintro e w8 ⟨⟨R, rfl, hR, -⟩, rfl⟩
        have HRR := hid hR
        clear hR H3
        go_wp2
        try rw [Exit.noGoto_ret]
        go_ret2
        have hsd := shifted_div X Y (2 ^ s) (Nat.two_pow_pos s)
        refine ⟨_, _, rfl, ?_, ?_, ?_⟩
        · have h1 := HQQ.out.below HB3.out
          have h2 := HT.out.1
          rw [HDD.out, hsd.1] at h2
          rw [h2] at h1 ⊢
          exact h1
        · have h1 := HRR.out
          have h2 := HT.out.2
          rw [HDD.out] at h2
          have h3 := HV3.out
          rw [h2, hsd.2] at h3
          rw [h3] at h1 ⊢
          exact h1
        · exact hbel.out.trans (HB3.out.mono hbel.out.size)
      | succ i =>
        have ei : (N : Int) - 1 - (k2 : Int) = (i : Int) := by omega
        have hile : i + (v.length + 1) ≤ p.length + 1 := by have := HN.out; have := N1.out; omega
        have hNb : N ≤ 17592186044417 := by have := HN.out; omega
        have hvb : v.length ≤ 17592186044416 := by have := N1.out; omega
        have e5 : ((i : Int) + (v.length : Int) + 1).toNat - i = v.length + 1 := by omega
        have e6 : ¬ (p.length + 1 = i) := by omega
        have hwin := hlong.out.window HDN.out (by rw [htl.out]; exact hile)
        obtain ⟨W, hW⟩ : ∃ W, W = seg t2 i (v.length + 1) := ⟨_, rfl⟩
        rw [← hW] at hwin
        have hu : Sees wr (.slice (some ⟨gR, i, none⟩) (v.length + 1) (p.length + 1 - i)) ((t2.drop i).take (v.length + 1)) :=
          hrR.out.sees hlong.out.okt i (v.length + 1) (p.length + 1 - i) (by rw [htl.out]; exact hile) (by omega) (by omega)
        have hvu : val ((t2.drop i).take (v.length + 1)) = W := by rw [seg_val, hW]
        have C5 := hid (nat_estimateLimb _ _ _ _ v.length (W / D) _ _ wr hu hsD.out hvl (by rw [N1.out]; exact N2.out) (by rw [hvu, HVV.out]; exact Nat.div_mul_le_self _ _) (by rw [hvu, HVV.out]; exact hwin.1) (Nat.div_lt_of_lt_mul hwin.1))
        have HWIN := hid hwin; have HW := hid hW
        clear hu hvu hwin hW
        go_wp2_with fail
        refine C5.out.mono ?_
        rintro e w6 ⟨x, rfl, hx1, hx2, hgr⟩
        have R6 := hid (hrR.out.grown (hgr none) (by simp))
        have Q6 := hid (hrQ.out.grown (hgr none) (by simp))
        have S6 : Hid (Sees w6 (.slice (some ⟨gD, 0, none⟩) v.length v.length) v) := hsD.out.grown' (hgr none) (fun a' n' c' e => by simp)
        have B6 : Hid (Below w'.heap.size w' w6) := hbel.out.grown (hgr none) hbel.out.size (fun k' e => by simp at e)
        have HX1 := hid hx1
        have hgDR : ∀ a' : Addr, some (⟨gD, 0, none⟩ : Addr) = some a' → a'.block ≠ gR := fun a' e => by cases e; have := F4.out; simp; omega
        have C6 := hid (nat_takeTimes gR i (v.length + 1) (p.length + 1 - i) (some ⟨gD, 0, none⟩) v.length t2 v x w6 R6.out hlong.out.okt S6.out (fun _ => hgDR) (by omega) (by rw [htl.out]; exact hile) (by rw [htl.out]; omega) hx2)
        have HGDR := hid hgDR
        clear hgr C5 hrR hrQ hsD hbel R6 hx1 hgDR e5 e6 ei
        go_wp2_with fail
        refine C6.out.mono ?_
        rintro e w7 ⟨t3, c3, rfl, htf, hr7, hg7⟩
        have Q7 := hid (Q6.out.grown hg7 (by simp; have := Q5.out; omega))
        have S7 : Hid (Sees w7 (.slice (some ⟨gD, 0, none⟩) v.length v.length) v) := S6.out.grown hg7 HGDR.out
        have B7 : Hid (Below w'.heap.size w' w7) := B6.out.grown hg7 B6.out.size (fun k' e => by simp at e; have := F4.out; omega)
        have hc3 := htf.le
        have LF0 : Hid (Left W D (4294967296 ^ (v.length + 1)) x (seg t3 i (v.length + 1)) c3) := ⟨HX1.out, htf.le, seg_lt htf.part.ok _ _, by
          have := htf.sum
          rw [HVV.out, ← HW.out] at this
          exact this⟩
        have PT0 := hid htf.part
        have R7 := hid hr7
        clear htf hr7 hg7 C6 Q6 S6 B6 HX1
        go_wp2
        go_loopw [12, 13] (fun v12 v13 wy => ∃ (e c : Nat) (t4 : List Nat), v12 = .int .u32 e ∧ v13 = .int .u32 c ∧ c ≤ 1 ∧ e < 4294967296 ∧ Hid (Left W D (4294967296 ^ (v.length + 1)) e (seg t4 i (v.length + 1)) c) ∧ Hid (Part t2 t4 i (v.length + 1)) ∧ Hid (Row wy gR t4) ∧ Hid (w7.grownBy wy (some gR))) (fun v12 _ _ => (intOf v12).toNat)
        case atStart => exact ⟨x, c3, t3, rfl, rfl, hc3, hx2, LF0, PT0, R7, World.grownBy.refl _ _⟩
        case round =>
          clear LF0 PT0 R7 hc3 hx2
          obtain ⟨e, c4, t4, rfl, rfl, hc4, he4, hleft, hpart, hr8, hg8⟩ := hrel
          rcases Nat.eq_zero_or_pos c4 with h0 | h0
          · subst h0
            have hdone := hleft.out.done HD0.out
            have hQ8 := Q7.out.grown hg8.out (by simp; have := Q5.out; omega)
            have hca := hQ8.cell (i := i) (by rw [hqsl.out]; omega)
            have hfr := hQ8.frozen i
            have hset := grownBy_set (World.grownBy.refl wr (some gQ)) i (.int .u32 (e : Nat))
            have HRQ := hid (hQ8.set i e)
            have HS8 : Hid (Sees (wr.setCell ⟨gQ, i, none⟩ (.int .u32 (e : Nat))) (.slice (some ⟨gD, 0, none⟩) v.length v.length) v) :=
              (S7.out.grown hg8.out HGDR.out).grown hset (fun a' e => by cases e; have := Q5.out; simp; omega)
            have HB8 : Hid (Below w'.heap.size w' (wr.setCell ⟨gQ, i, none⟩ (.int .u32 (e : Nat)))) :=
              (B7.out.grown hg8.out B7.out.size (fun k' e => by simp at e; have := F4.out; omega)).grown hset (by have := (B7.out.grown hg8.out B7.out.size (fun k' e => by simp at e; have := F4.out; omega)).size; exact this) (fun k' e => by simp at e; have := Q5.out; omega)
            have HR8 := hid (hr8.out.setOther (a := ⟨gQ, i, none⟩) (by have := Q5.out; simp; omega) (.int .u32 (e : Nat)))
            have HL8 := hid (hlong.out.step (e := e) (t' := t4) HD0.out HDN.out (by rw [htl.out]; exact hile) (by rw [hqsl.out]; omega) hpart.out (by rw [hdone.1, HW.out]) (by rw [hdone.2, HW.out]))
            have HT8 : Hid (t4.length = p.length + 1) := by have h1 := hpart.out.len; have h2 := htl.out; show _ = _; omega
            have HQ8 : Hid ((qs.set i e).length = N) := by show _ = _; rw [List.length_set]; exact hqsl.out
            clear hdone hQ8 hset hleft hpart hr8 hg8 Q7 S7 B7 hlong htl hqsl
            go_wp2
            go_roundg i
            case rel => exact ⟨k2 + 1, t4, qs.set i e, by omega, by go_num, HL8, HT8, HQ8, HR8, HRQ, HS8, HB8⟩
            case measure => omega
          · obtain rfl : c4 = 1 := by omega
            have he0 := hleft.out.pos
            have S8 := S7.out.grown hg8.out HGDR.out
            have C8 := hid (nat_addTo gR i (v.length + 1) (p.length + 1 - i) (some ⟨gD, 0, none⟩) v.length t4 v wr hr8.out hpart.out.ok S8 (fun _ => HGDR.out) (by omega) (by have h1 := hpart.out.len; have h2 := htl.out; omega) (by have h1 := hpart.out.len; have h2 := htl.out; omega))
            clear S8
            go_wp2_with (go_at_call 122; refine C8.out.mono ?_; rintro e' w8 ⟨t5, c5, rfl, hat, hr9, hg9⟩; have hc5 := hat.le; have HAT := hid hat; have HR9 := hid hr9; have HG9 := hid hg9; clear hat hr9 hg9)
            have hP : D ≤ 4294967296 ^ (v.length + 1) := by
              have h1 := HDN.out
              rw [Nat.pow_succ]
              omega
            have hsum := HAT.out.sum
            rw [HVV.out] at hsum
            obtain ⟨_, hback⟩ := hleft.out.back HD0.out hP (seg t5 i (v.length + 1)) c5 hc5 (seg_lt HAT.out.part.ok _ _) hsum
            have HBK := hid hback
            have HPT := hid (hpart.out.trans HAT.out.part)
            have HGR := hid (grownBy_trans hg8.out HG9.out)
            clear hP hsum hback
            go_roundw
            case rel => exact ⟨e - 1, 1 - c5, t5, by go_num, by go_num, by omega, by omega, HBK, HPT, HR9, HGR⟩
            case measure => simp [intOf]; omega
end Go.Proofs.YtjnbonellgpjnaaGreat

set_option linter.unusedVariables false
set_option linter.unusedSimpArgs false
namespace Go.Proofs.YtjnbonellgpjnaaGreat
open Go.RowKit

set_option maxHeartbeats 1000000 in
theorem nat_div_less (a b : Option Addr) (la ca lb cb : Nat) (l m : List Nat) (w : World) (ha : Sees w (.slice a la ca) l) (hb : Sees w (.slice b lb cb) m) (hl : l.length ≤ 35184372088832) (hlt : val l < val m) :
    Calls Tryz.prog 100 #[.slice a la ca, .slice b lb cb] w fun e w' => IsDiv w (val l) (val m) e w' := by
  have hlen1 := (limbs_prefix ha.ok).2
  have hmp : 0 < (limbs (val m)).length := (limbs_last (by omega)).1
  go_enter Tryz.func100, Tryz.ntmps100
  go_wp2_with fail
  refine (trim_sees _ _ _ _ _ ha).mono ?_
  rintro e w' ⟨⟨A, rfl, hA, -⟩, rfl⟩
  have HA := hid hA; clear hA
  go_wp2_with fail
  refine (trim_sees _ _ _ _ _ hb).mono ?_
  rintro e w' ⟨⟨B, rfl, hB, -⟩, rfl⟩
  have HB := hid hB; clear hB ha hb
  obtain ⟨q, hq⟩ : ∃ q, limbs (val m) = q := ⟨_, rfl⟩
  obtain ⟨p, hp⟩ : ∃ p, limbs (val l) = p := ⟨_, rfl⟩
  have hvp : val p = val l := by rw [← hp, val_limbs]
  have hvq : val q = val m := by rw [← hq, val_limbs]
  rw [hp] at HA hlen1
  rw [hq] at HB hmp
  simp only [hp, hq]
  have HP := hid hp; have HLT := hid hlt
  have hpl : p.length ≤ 35184372088832 := by omega
  have hc : cmpI (val p) (val q) = -1 := by rw [hvp, hvq]; exact cmpI_lt hlt
  have HVP := hid hvp
  clear hp hq hlt hvp hvq hl hlen1
  go_wp2_with fail
  refine (nat_cmp _ _ _ _ _ _ _ _ _ HA.out HB.out).mono ?_
  rw [hc]
  rintro e w1 ⟨rfl, hb1⟩
  have HA1 := hid (HA.out.below hb1)
  have HB1 := hid hb1
  clear HA HB hb1 hc
  go_wp2_with fail
  refine (nat_plain' HA1.out hpl).mono ?_
  rintro e w2 ⟨v, rfl, hs, hb2⟩
  have HS := hid hs; have HB2 := hid hb2
  clear hs hb2
  go_wp2
  go_ret3
  refine ⟨_, _, rfl, ?_, ?_, ?_⟩
  · rw [Nat.div_eq_of_lt HLT.out]; exact Sees.nil _
  · rw [Nat.mod_eq_of_lt HLT.out]; have := HS.out; rwa [HVP.out] at this
  · exact HB1.out.trans (HB2.out.mono HB1.out.size)

set_option maxRecDepth 100000 in
set_option maxHeartbeats 400000 in
theorem nat_div_two (a b : Option Addr) (la ca lb cb : Nat) (l m : List Nat) (w : World) (ha : Sees w (.slice a la ca) l) (hb : Sees w (.slice b lb cb) m) (h0 : 0 < val m) (hle : val m ≤ val l) (h2 : (limbs (val l)).length ≤ 2) :
    Calls Tryz.prog 100 #[.slice a la ca, .slice b lb cb] w fun e w' => IsDiv w (val l) (val m) e w' := by
  have hmp : 0 < (limbs (val m)).length := (limbs_last h0).1
  have hx64 : val l < 18446744073709551616 := by
    have h3 := lt_pow_length (val l)
    have h4 : 4294967296 ^ (limbs (val l)).length ≤ 4294967296 ^ 2 := Nat.pow_le_pow_right (by decide) h2
    have h5 : (4294967296 : Nat) ^ 2 = 18446744073709551616 := by decide
    omega
  go_enter Tryz.func100, Tryz.ntmps100
  go_wp2_with fail
  refine (trim_sees _ _ _ _ _ ha).mono ?_
  rintro e w' ⟨⟨A, rfl, hA, -⟩, rfl⟩
  have HA := hid hA; clear hA
  go_wp2_with fail
  refine (trim_sees _ _ _ _ _ hb).mono ?_
  rintro e w' ⟨⟨B, rfl, hB, -⟩, rfl⟩
  have HB := hid hB; clear hB ha hb
  obtain ⟨x, hx⟩ : ∃ x, val l = x := ⟨_, rfl⟩
  obtain ⟨y, hy⟩ : ∃ y, val m = y := ⟨_, rfl⟩
  rw [hx] at HA h2 hle hx64
  rw [hy] at HB hmp hle h0
  simp only [hx, hy]
  have HXX := hid hx; have HYY := hid hy
  clear hx hy
  have hz : 0 ≤ cmpI (val (limbs x)) (val (limbs y)) := by rw [val_limbs, val_limbs]; unfold cmpI; rw [if_neg (by omega)]; split <;> decide
  go_wp2_with fail
  refine (nat_cmp _ _ _ _ _ _ _ _ _ HA.out HB.out).mono ?_
  generalize cmpI (val (limbs x)) (val (limbs y)) = z at hz ⊢
  rintro e w1 ⟨rfl, hb1⟩
  have HA1 := hid (HA.out.below hb1)
  have HB1 := hid (HB.out.below hb1)
  have HBEL := hid hb1
  clear hb1 HA HB
  have ex : x % 4294967296 + x / 4294967296 % 4294967296 * 4294967296 = x := by omega
  have ey : y % 4294967296 + y / 4294967296 % 4294967296 * 4294967296 = y := by omega
  have C1 := nat_wordAt0 _ _ _ _ w1 HA1.out (limb_zero x) (limb_one x)
  have C2 := nat_wordAt0 _ _ _ _ w1 HB1.out (limb_zero y) (limb_one y)
  rw [ex] at C1
  rw [ey] at C2
  have HC1 := hid C1; have HC2 := hid C2
  clear C1 C2 ex ey
  obtain ⟨q, hq⟩ : ∃ q, q = x / y := ⟨_, rfl⟩
  obtain ⟨r, hr⟩ : ∃ r, r = x % y := ⟨_, rfl⟩
  have hq64 : q < 18446744073709551616 := by rw [hq]; exact Nat.lt_of_le_of_lt (Nat.div_le_self _ _) hx64
  have hr64 : r < 18446744073709551616 := by rw [hr]; exact Nat.lt_of_le_of_lt (Nat.mod_le _ _) hx64
  have eq1 : (x : Int) / (y : Int) = (q : Int) := by rw [hq]; exact (Int.natCast_ediv _ _).symm
  have er1 : (x : Int) % (y : Int) = (r : Int) := by rw [hr]; exact (Int.natCast_emod _ _).symm
  have eq2 : Int.tdiv (x : Int) (y : Int) = (q : Int) := by rw [Int.tdiv_eq_ediv_of_nonneg (by omega)]; exact eq1
  have er2 : Int.tmod (x : Int) (y : Int) = (r : Int) := by rw [Int.tmod_eq_emod_of_nonneg (by omega)]; exact er1
  have HQ := hid hq; have HR := hid hr
  have HC3 := hid (fun w => nat_fromWord q hq64 w)
  have HC4 := hid (fun w => nat_fromWord r hr64 w)
  have hy0 : ¬ (y : Int) = 0 := by omega
  have ew1 : IntKind.u64.wrap (q : Int) = (q : Int) := by rw [IntKind.wrap_u64]; omega
  have ew2 : IntKind.u64.wrap (r : Int) = (r : Int) := by rw [IntKind.wrap_u64]; omega
  clear hq hr
  go_wp2_with fail
  refine HC1.out.mono ?_
  rintro e w2 ⟨rfl, rfl⟩
  go_wp2_with fail
  refine HC2.out.mono ?_
  rintro e w2 ⟨rfl, rfl⟩
  clear HC1 HC2
  go_wp2
  go_region_with (go_at_call 86; refine (nat_fromWord _ (by assumption) _).mono ?_; rintro e w' ⟨v, rfl, hs, hb⟩; have HS := hid hs; have HB := hid hb; clear hs hb)
  all_goals
    rename_i wq vq HSQ HBF
    go_wp2
    go_ret3
    refine ⟨vq, v, rfl, ?_, ?_, ?_⟩
    · have h := HSQ.out.below HB.out
      have e := HQ.out
      rw [e] at h
      rw [HXX.out, HYY.out]
      exact h
    · have h := HS.out
      have e := HR.out
      rw [e] at h
      rw [HXX.out, HYY.out]
      exact h
    · exact HBEL.out.drew.trans ((HBF.out.trans (HB.out.mono HBF.out.size)).mono HBEL.out.drew.size)

set_option maxRecDepth 100000 in
set_option maxHeartbeats 2000000 in
theorem nat_div_long (a b : Option Addr) (la ca lb cb : Nat) (l m : List Nat) (w : World) (ha : Sees w (.slice a la ca) l) (hb : Sees w (.slice b lb cb) m) (hl : l.length ≤ 17592186044416) (hle : val m ≤ val l) (h3 : 2 < (limbs (val l)).length) (h2 : 2 ≤ (limbs (val m)).length) :
    Calls Tryz.prog 100 #[.slice a la ca, .slice b lb cb] w fun e w' => IsDiv w (val l) (val m) e w' := by
  have hlen1 := (limbs_prefix ha.ok).2
  go_enter Tryz.func100, Tryz.ntmps100
  go_wp2_with fail
  refine (trim_sees _ _ _ _ _ ha).mono ?_
  rintro e w' ⟨⟨A, rfl, hA, -⟩, rfl⟩
  have HA := hid hA; clear hA
  go_wp2_with fail
  refine (trim_sees _ _ _ _ _ hb).mono ?_
  rintro e w' ⟨⟨B, rfl, hB, -⟩, rfl⟩
  have HB := hid hB; clear hB ha hb
  obtain ⟨X, hX⟩ : ∃ X, val l = X := ⟨_, rfl⟩
  obtain ⟨Y, hY⟩ : ∃ Y, val m = Y := ⟨_, rfl⟩
  rw [hX] at HA hlen1 h3 hle
  rw [hY] at HB hle h2
  simp only [hX, hY]
  have HXX := hid hX; have HYY := hid hY
  clear hX hY
  have hz : 0 ≤ cmpI (val (limbs X)) (val (limbs Y)) := by rw [val_limbs, val_limbs]; unfold cmpI; rw [if_neg (by omega)]; split <;> decide
  have HLE := hid hle
  have hpl : (limbs X).length ≤ 17592186044416 := by omega
  clear hle hlen1 hl
  go_wp2_with fail
  refine (nat_cmp _ _ _ _ _ _ _ _ _ HA.out HB.out).mono ?_
  generalize cmpI (val (limbs X)) (val (limbs Y)) = z at hz ⊢
  rintro e w1 ⟨rfl, hb1⟩
  have HC := hid (nat_divideLong A B _ _ X Y (limbs X) (limbs Y) w1 (HA.out.below hb1) (HB.out.below hb1) rfl rfl HLE.out h2 hpl)
  have HB1 := hid hb1
  clear hb1 HA HB
  go_wp2_with fail
  refine HC.out.mono ?_
  rintro e w2 ⟨q, r, rfl, hq, hr, hb2⟩
  have HQ := hid hq; have HR := hid hr; have HB2 := hid hb2
  clear hq hr hb2 HC
  go_wp2
  go_ret3
  exact ⟨q, r, rfl, by rw [HXX.out, HYY.out]; exact HQ.out, by rw [HXX.out, HYY.out]; exact HR.out, HB1.out.trans (HB2.out.mono HB1.out.size)⟩

/-- nat.DivMod by any number but 0. -/
theorem nat_divmod' {a b : Value} {l m : List Nat} {w : World} (ha : Sees w a l) (hb : Sees w b m) (hl : l.length ≤ 17592186044416) (h0 : 0 < val m) :
    Calls Tryz.prog 100 #[a, b] w fun e w' => ∃ q r, e = .returned (.tuple #[q, r, .bool true]) ∧ Sees w' q (limbs (val l / val m)) ∧ Sees w' r (limbs (val l % val m)) ∧ Below w.heap.size w w' := by
  have hA := ha; have hB := hb
  obtain ⟨A, ca, rfl, -, -, -, -, -⟩ := ha
  obtain ⟨B, cb, rfl, -, -, -, -, -⟩ := hb
  rcases Nat.lt_or_ge (val l) (val m) with h | h
  · exact nat_div_less _ _ _ _ _ _ _ _ _ hA hB (by omega) h
  · rcases Nat.lt_or_ge 2 (limbs (val l)).length with h2 | h2
    · rcases Nat.lt_or_ge 1 (limbs (val m)).length with h1 | h1
      · exact nat_div_long _ _ _ _ _ _ _ _ _ hA hB hl h h2 h1
      · exact nat_div_limb _ _ _ _ _ _ _ _ _ hA hB (by omega) (by have := (limbs_last h0).1; omega) h2
    · exact nat_div_two _ _ _ _ _ _ _ _ _ hA hB h0 h h2
theorem nat_divmod0' {a b : Value} {l m : List Nat} {w : World} (ha : Sees w a l) (hb : Sees w b m) (h0 : val m = 0) :
    Calls Tryz.prog 100 #[a, b] w fun e w' => e = .returned (.tuple #[.slice none 0 0, .slice none 0 0, .bool false]) ∧ w = w' := by
  have hA := ha; have hB := hb
  obtain ⟨A, ca, rfl, -, -, -, -, -⟩ := ha
  obtain ⟨B, cb, rfl, -, -, -, -, -⟩ := hb
  exact nat_div_zero _ _ _ _ _ _ _ _ _ hA hB h0
end Go.Proofs.YtjnbonellgpjnaaGreat
