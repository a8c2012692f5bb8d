/- (nat.steps).apply by its contract. -/
import Derived.Test.YtfjanomjmlcgaaaDoorGcd2
import Derived.Test.YtfjanomjmlcgaaaDoorGcd3
import Derived.Test.YtfjanomjmlcgaaaDoorFrame
import Derived.Deep.RegionHeld3
set_option linter.unusedVariables false
set_option linter.unusedSimpArgs false
namespace Go.Proofs.YtfjanomjmlcgaaaDoor
open Go.RowKit

/-- Both results are told by numbers as many limbs as b's can hold. -/
theorem steps_comb {A B aa ab ba bb p q n : Nat} {o : Bool} (h : Steps A B aa ab ba bb o p q) (hB : B < 4294967296 ^ n) : ∃ k1 k2, p < 4294967296 ^ n ∧ q < 4294967296 ^ n ∧
    (if o then (p + B * ab + 4294967296 ^ n * k1 = A % 4294967296 ^ n * aa ∨ p + B * ab = A % 4294967296 ^ n * aa + 4294967296 ^ n * k1) ∧ (q + A % 4294967296 ^ n * ba + 4294967296 ^ n * k2 = B * bb ∨ q + A % 4294967296 ^ n * ba = B * bb + 4294967296 ^ n * k2)
     else (p + A % 4294967296 ^ n * aa + 4294967296 ^ n * k1 = B * ab ∨ p + A % 4294967296 ^ n * aa = B * ab + 4294967296 ^ n * k1) ∧ (q + B * bb + 4294967296 ^ n * k2 = A % 4294967296 ^ n * ba ∨ q + B * bb = A % 4294967296 ^ n * ba + 4294967296 ^ n * k2)) := by
  have hd := (Nat.mod_add_div A (4294967296 ^ n)).symm
  have hp : p < 4294967296 ^ n := Nat.lt_of_le_of_lt h.le hB
  have hq : q < 4294967296 ^ n := Nat.lt_trans h.lt hp
  have e1 := h.eqa
  have e2 := h.eqb
  generalize 4294967296 ^ n = M at *
  generalize A % M = L at *
  generalize A / M = H at *
  subst hd
  refine ⟨H * aa, H * ba, hp, hq, ?_⟩
  cases o
  · simp only [Bool.false_eq_true, if_false] at e1 e2 ⊢
    refine ⟨.inl ?_, .inr ?_⟩
    · rw [Nat.mul_add, Nat.mul_comm aa L, Nat.mul_left_comm] at e1
      rw [Nat.mul_comm B, ← e1, Nat.mul_comm H aa]; omega
    · rw [Nat.mul_add, Nat.mul_comm ba L, Nat.mul_left_comm] at e2
      rw [Nat.mul_comm B, e2, Nat.mul_comm H ba]
  · simp only [if_true] at e1 e2 ⊢
    refine ⟨.inr ?_, .inl ?_⟩
    · rw [Nat.mul_add, Nat.mul_comm aa L, Nat.mul_left_comm] at e1
      rw [Nat.mul_comm B, e1, Nat.mul_comm H aa]
    · rw [Nat.mul_add, Nat.mul_comm ba L, Nat.mul_left_comm] at e2
      rw [Nat.mul_comm B, ← e2, Nat.mul_comm H ba]; omega

/-- The slice to a place, its capacity kept: 'a[:n]'. -/
theorem Sees.front {w : World} {ao : Option Addr} {len cap : Nat} {l : List Nat} (h : Sees w (.slice ao len cap) l) (n : Nat) (hn : n ≤ l.length) : Sees w (.slice ao n cap) (l.take n) := by
  obtain ⟨ao', cap', h1, h2, h3, h4, hn0, h5⟩ := h
  simp only [Value.slice.injEq] at h1
  obtain ⟨rfl, rfl, rfl⟩ := h1
  have hl : (l.take n).length = n := by simp; omega
  refine ⟨ao, cap, by rw [hl], by omega, by omega, h4.take n, hn0, fun hp => ?_⟩
  obtain ⟨b, o, ha, hcell⟩ := h5 (by omega)
  refine ⟨b, o, ha, fun i hi => ?_⟩
  rw [hl] at hi
  rw [hcell i (by omega), List.getD_eq_getElem?_getD, List.getD_eq_getElem?_getD, List.getElem?_take_of_lt hi]
theorem val_front {l : List Nat} (h : Ok l) (n : Nat) (hn : n ≤ l.length) : val (l.take n) = val l % 4294967296 ^ n := by
  have h1 := val_split l n hn
  have h2 := val_lt (h.take n)
  rw [List.length_take, Nat.min_eq_left hn] at h2
  rw [h1, Nat.add_mul_mod_self_left, Nat.mod_eq_of_lt h2]

/-- nat.combine, the length said apart. -/
theorem nat_combine' {A B : Option Addr} {ca cb m n d k len : Nat} {a b : List Nat} {w : World} (ha : Sees w (.slice A len ca) a) (hb : Sees w (.slice B len cb) b) (hal : a.length = len) (hm : m < 4294967296) (hn : n < 4294967296) (hl : len ≤ 35184372088832)
    (hd : d < 4294967296 ^ len) (e : d + val b * n + 4294967296 ^ len * k = val a * m ∨ d + val b * n = val a * m + 4294967296 ^ len * k) :
    Calls Tryd.prog 96 #[.slice A len ca, .int .u64 m, .slice B len cb, .int .u64 n] w fun e w' => IsNum w d e w' := by
  subst hal
  exact nat_combine A B ca cb m n d k a b w ha hb hm hn hl hd e

set_option maxRecDepth 100000 in
set_option maxHeartbeats 4000000 in
theorem nat_apply {a b : Option Addr} {la ca n cb A B aa ab ba bb p q : Nat} {o : Bool} {w : World} (ha : Sees w (.slice a la ca) (limbs A)) (hb : Sees w (.slice b n cb) (limbs B)) (hs : Steps A B aa ab ba bb o p q) (sm : aa < 4294967296 ∧ ab < 4294967296 ∧ ba < 4294967296 ∧ bb < 4294967296) (hle : (limbs B).length ≤ (limbs A).length) (hl : (limbs A).length ≤ 35184372088832) :
    Calls Tryd.prog 67 #[.agg #[.int .u64 (aa : Nat), .int .u64 (ab : Nat), .int .u64 (ba : Nat), .int .u64 (bb : Nat), .bool o], .slice a la ca, .slice b n cb] w fun e w' => ∃ u v, e = .returned (.tuple #[u, v]) ∧ Sees w' u (limbs p) ∧ Sees w' v (limbs q) ∧ Below w.heap.size w w' := by
  have hn : n = (limbs B).length := hb.len_eq.1
  have hla : la = (limbs A).length := ha.len_eq.1
  rw [← hn] at hle
  have hlt : n ≤ la := by omega
  have hBn : B < 4294967296 ^ n := by rw [hn]; exact lt_pow_length B
  obtain ⟨k1, k2, hp, hq, hcomb⟩ := steps_comb hs hBn
  obtain ⟨s1, s2, s3, s4⟩ := sm
  have hf := ha.front n (by omega)
  have hfl : ((limbs A).take n).length = n := by simp; omega
  have hfv : val ((limbs A).take n) = A % 4294967296 ^ n := by rw [val_front (limbs_ok A) n (by omega), val_limbs]
  obtain ⟨f, hfe⟩ : ∃ f, (limbs A).take n = f := ⟨_, rfl⟩
  rw [hfe] at hf hfl hfv
  obtain ⟨bl, hbe⟩ : ∃ f, limbs B = f := ⟨_, rfl⟩
  have hbv : val bl = B := by rw [← hbe, val_limbs]
  rw [hbe] at hb hn
  rw [← hfv, ← hbv] at hcomb
  have hca : n ≤ ca := by have := ha.len_eq.2; omega
  have HLN : Hid (n ≤ 35184372088832) := by show n ≤ 35184372088832; omega
  obtain ⟨w0, hw0⟩ : ∃ x, x = w.alloc (.cells #[.int .u64 (aa : Nat), .int .u64 (ab : Nat), .int .u64 (ba : Nat), .int .u64 (bb : Nat), .bool o] 68) := ⟨_, rfl⟩
  obtain ⟨g, hg⟩ : ∃ g, g = w.heap.size := ⟨_, rfl⟩
  have B0 : Hid (Below w.heap.size w w0) := by rw [hw0]; exact (Below.refl _ w).alloc (Nat.le_refl _) _
  have X0 : Hid (Box5 w0 g (.int .u64 (aa : Nat)) (.int .u64 (ab : Nat)) (.int .u64 (ba : Nat)) (.int .u64 (bb : Nat)) (.bool o)) := by rw [hw0, hg]; exact Box5.new w _ _ _ _ _ _
  have HW0 := hid hw0.symm; have HG := hid hg.symm
  have HF := hid (hf.below B0.out); have HB := hid (hb.below B0.out)
  have hnl : (n : Int) ≤ (la : Int) := by omega
  have hnc : (n : Int) ≤ (ca : Int) := by omega
  clear hs hBn hfe hbe hw0 hg ha hb hf hla hfv hbv
  cases o
  · simp only [Bool.false_eq_true, if_false] at hcomb
    have HC := hid hcomb
    have C1 := hid (fun w' (h : Below w0.heap.size w0 w') => nat_combine' (HB.out.below h) (HF.out.below h) hn.symm s2 s1 HLN.out hp hcomb.1)
    have C2 := hid (fun w' (h : Below w0.heap.size w0 w') => nat_combine' (HF.out.below h) (HB.out.below h) hfl s3 s4 HLN.out hq hcomb.2)
    clear hcomb HC hp hq hn hfl HF HB
    go_enter Tryd.func67, Tryd.ntmps67
    obtain ⟨c0, c1, c2, c3, c4, f0, f1, f2, f3, f4⟩ := X0.out.cells
    go_wp2
    rw [HW0.out, HG.out]
    have HD := hid ((Below.refl w0.heap.size w0).drew)
    clear HW0 HG
    go_region_held3 (fun w' => w'.cell? ⟨g, 0, none⟩ = some (.int .u64 (aa : Nat)) ∧ w'.cell? ⟨g, 1, none⟩ = some (.int .u64 (ab : Nat)) ∧ w'.cell? ⟨g, 2, none⟩ = some (.int .u64 (ba : Nat)) ∧ w'.cell? ⟨g, 3, none⟩ = some (.int .u64 (bb : Nat)) ∧ Hid (Below w0.heap.size w0 w')) (exact ⟨by assumption, by assumption, by assumption, by assumption, by assumption⟩) (first
      | (go_at_call 96
         with_reducible refine (C1.out _ (Hid.out (by assumption))).mono ?_
         rintro e wx ⟨u, rfl, hs, hb⟩
         have hbn := hid (step_below (w := w0) (Hid.out (by assumption)) hb)
         obtain ⟨xc0, xc1, xc2, xc3, -⟩ := (X0.out.below hbn.out).cells
         try replace HV := hid (HV.out.below hb)
         have HU := hid hs
         clear hs hb)
      | (go_at_call 96
         with_reducible refine (C2.out _ (Hid.out (by assumption))).mono ?_
         rintro e wx ⟨v, rfl, hs, hb⟩
         have hbn := hid (step_below (w := w0) (Hid.out (by assumption)) hb)
         obtain ⟨xc0, xc1, xc2, xc3, -⟩ := (X0.out.below hbn.out).cells
         try replace HU := hid (HU.out.below hb)
         have HV := hid hs
         clear hs hb))
    all_goals
      go_wp2
      go_ret2
      exact ⟨u, v, rfl, HU.out, HV.out, B0.out.trans (hbn.out.mono B0.out.size)⟩
  · simp only [if_true] at hcomb
    have HC := hid hcomb
    have C1 := hid (fun w' (h : Below w0.heap.size w0 w') => nat_combine' (HF.out.below h) (HB.out.below h) hfl s1 s2 HLN.out hp hcomb.1)
    have C2 := hid (fun w' (h : Below w0.heap.size w0 w') => nat_combine' (HB.out.below h) (HF.out.below h) hn.symm s4 s3 HLN.out hq hcomb.2)
    clear hcomb HC hp hq hn hfl HF HB
    go_enter Tryd.func67, Tryd.ntmps67
    obtain ⟨c0, c1, c2, c3, c4, f0, f1, f2, f3, f4⟩ := X0.out.cells
    go_wp2
    rw [HW0.out, HG.out]
    have HD := hid ((Below.refl w0.heap.size w0).drew)
    clear HW0 HG
    go_region_held3 (fun w' => w'.cell? ⟨g, 0, none⟩ = some (.int .u64 (aa : Nat)) ∧ w'.cell? ⟨g, 1, none⟩ = some (.int .u64 (ab : Nat)) ∧ w'.cell? ⟨g, 2, none⟩ = some (.int .u64 (ba : Nat)) ∧ w'.cell? ⟨g, 3, none⟩ = some (.int .u64 (bb : Nat)) ∧ Hid (Below w0.heap.size w0 w')) (exact ⟨by assumption, by assumption, by assumption, by assumption, by assumption⟩) (first
      | (go_at_call 96
         with_reducible refine (C1.out _ (Hid.out (by assumption))).mono ?_
         rintro e wx ⟨u, rfl, hs, hb⟩
         have hbn := hid (step_below (w := w0) (Hid.out (by assumption)) hb)
         obtain ⟨xc0, xc1, xc2, xc3, -⟩ := (X0.out.below hbn.out).cells
         try replace HV := hid (HV.out.below hb)
         have HU := hid hs
         clear hs hb)
      | (go_at_call 96
         with_reducible refine (C2.out _ (Hid.out (by assumption))).mono ?_
         rintro e wx ⟨v, rfl, hs, hb⟩
         have hbn := hid (step_below (w := w0) (Hid.out (by assumption)) hb)
         obtain ⟨xc0, xc1, xc2, xc3, -⟩ := (X0.out.below hbn.out).cells
         try replace HU := hid (HU.out.below hb)
         have HV := hid hs
         clear hs hb))
    all_goals
      go_wp2
      go_ret2
      exact ⟨u, v, rfl, HU.out, HV.out, B0.out.trans (hbn.out.mono B0.out.size)⟩
end Go.Proofs.YtfjanomjmlcgaaaDoor
