/- The document's Mul by its contract. -/
import Derived.Test.YtfjanomjmlcgaaaDoorRef1
import Derived.Test.YtfjanomjmlcgaaaDoorMul
set_option linter.unusedVariables false
set_option linter.unusedSimpArgs false
namespace Go.Proofs.YtfjanomjmlcgaaaDoor
open Go.RowKit

set_option maxRecDepth 100000 in
set_option maxHeartbeats 4000000 in
theorem ref_mul (a b : Option Addr) (ca cb : Nat) (l m : List Nat) (w : World) (ha : Sees w (.slice a l.length ca) l) (hb : Sees w (.slice b m.length cb) m) (hl : l.length ≤ 17592186044000) (hm : m.length ≤ 17592186044000) :
    Calls Tryd.prog 83 #[.slice a l.length ca, .slice b m.length cb] w fun e w' => IsNum w (val l * val m) e w' := by
  have HA := hid ha; have HB := hid hb
  clear ha hb
  go_enter Tryd.func83, Tryd.ntmps83
  have hmk := run_make_row' (P := Tryd.prog) 22 57 (.int .u32 0) 4 Tryd.underlying22 info_u32 rfl .i64 .i64 (l.length + m.length) (by omega) (by omega)
  have ec : ((l.length + m.length : Nat) : Int) = (l.length : Int) + m.length := by omega
  rw [ec] at hmk
  clear ec
  obtain ⟨w1, hw1⟩ : ∃ w1, w1 = w.alloc (.cells (madeCells #[Value.int .u32 0] (l.length + m.length)) 57) := ⟨_, rfl⟩
  have hbel : Below w.heap.size w w1 := by rw [hw1]; exact (Below.refl _ w).alloc (Nat.le_refl _) _
  have hrow0 : Row w1 w.heap.size (List.replicate (l.length + m.length) 0) := by rw [hw1]; exact Row.made w _
  have HW := hid hw1.symm; have HBEL := hid hbel; have HROW0 := hid hrow0
  have HA1 := hid (HA.out.below hbel); have HB1 := hid (HB.out.below hbel)
  have HAL := hid (fun (h : 0 < l.length) (x : Addr) (e : a = some x) => (e ▸ HA.out : Sees w (.slice (some x) l.length ca) l).lt h)
  have HBL := hid (fun (h : 0 < m.length) (x : Addr) (e : b = some x) => (e ▸ HB.out : Sees w (.slice (some x) m.length cb) m).lt h)
  clear hw1 hbel hrow0 HA HB
  go_wp2
  go_loopw [6] (fun v wr => ∃ (i : Nat) (t : List Nat), i ≤ l.length ∧ v = .int .i64 i ∧ Hid (MulTo l m (l.length + m.length) i t) ∧ Hid (Row wr w.heap.size t) ∧ Hid (w1.grownBy wr (some w.heap.size))) (fun v _ => l.length - (intOf v).toNat)
  case atStart => exact ⟨0, _, Nat.zero_le _, rfl, MulTo.start _ _ _, by rw [HW.out]; exact HROW0, by rw [HW.out]; exact World.grownBy.refl _ _⟩
  case round =>
    obtain ⟨i, t, hi, rfl, hmt, hrow, hg⟩ := hrel
    rename World => wo
    by_cases hlt : i < l.length
    · obtain ⟨b1, o1, rfl, hc'⟩ := HA1.out.at (by omega)
      have hne : b1 < w.heap.size := HAL.out (by omega) _ rfl
      have hca1 := hc' i hlt
      have hfk := HA1.out.ok.getD i
      have HOK := hid hmt.out.ok
      have htl := hmt.out.len
      have hstep := fun t' c => @MulTo.step l m t t' (l.length + m.length) i c (l.getD i 0) hmt.out (by omega) rfl
      have HSTEP := hid hstep
      generalize l.getD i 0 = f at *
      have HCA1 := hid hca1
      have H0 : Hid (AddMul t i 0 (valF (fun j => m.getD j 0) 0 * f) t 0) := by
        have h0 : valF (fun j => m.getD j 0) 0 * f = 0 := Nat.zero_mul f
        show AddMul t i 0 (valF (fun j => m.getD j 0) 0 * f) t 0
        rw [h0]; exact AddMul.start HOK.out i
      clear hc' hstep hca1 hmt HAL
      go_wp2
      go_loopw [7, 8] (fun v7 v8 wr => ∃ (k c : Nat) (t' : List Nat), k ≤ m.length ∧ v8 = .int .i64 k ∧ v7 = .int .u64 c ∧ c < 4294967296 ∧ Hid (AddMul t i k (valF (fun j => m.getD j 0) k * f) t' c) ∧ Hid (Row wr w.heap.size t') ∧ Hid (w1.grownBy wr (some w.heap.size))) (fun _ v _ => m.length - (intOf v).toNat)
      case atStart => exact ⟨0, 0, t, Nat.zero_le _, rfl, rfl, by omega, H0, hrow, hg⟩
      case round =>
        obtain ⟨k, c, t', hk, rfl, rfl, hc1, ham, hrow', hg'⟩ := hrel
        have htl' := Eq.trans ham.out.part.len htl
        by_cases hkm : k < m.length
        · obtain ⟨b2, o2, rfl, hcb'⟩ := HB1.out.at (by omega)
          have hne2 : b2 < w.heap.size := HBL.out (by omega) _ rfl
          have hcb := hg'.out.cell (hcb' k hkm) (by simp; omega)
          have hca2 := hg'.out.cell HCA1.out (by simp; omega)
          have hca := hrow'.out.cell (i := i + k) (by omega)
          have hfr := hrow'.out.frozen (i + k)
          have hox := ham.out.part.ok.getD (i + k)
          have hob := HB1.out.ok.getD k
          have hsame := ham.out.part.out (i + k) (.inr (by omega))
          have hstep := ham.out.step (by omega) (m.getD k 0 * f)
          rw [← hsame] at hstep
          have hval : valF (fun j => m.getD j 0) k * f + 4294967296 ^ k * (m.getD k 0 * f) = valF (fun j => m.getD j 0) (k + 1) * f := by
            simp only [valF]; rw [Nat.add_mul, Nat.mul_assoc]
          rw [hval] at hstep
          have HST := hid hstep
          clear hstep hsame hcb' hval
          generalize t'.getD (i + k) 0 = u at *
          generalize m.getD k 0 = v at *
          have hfit := mul_fits v f u c hob hfk hox hc1
          obtain ⟨z, hz⟩ : ∃ z, z = v * f := ⟨_, rfl⟩
          have ez : IntKind.u64.wrap ((f : Int) * (v : Int)) = (z : Int) := by rw [hz, Nat.mul_comm v f, ← Int.natCast_mul]; exact wrap_u64 _ (by rw [Nat.mul_comm f v]; omega)
          rw [← hz] at hfit HST
          clear hz
          obtain ⟨T, hT⟩ : ∃ T, T = c + z + u := ⟨_, rfl⟩
          have e1 : IntKind.u64.wrap ((c : Int) + (z : Int)) = (c : Int) + z := by have := wrap_u64 (c + z) (by omega); simpa using this
          have e2 : IntKind.u64.wrap ((c : Int) + (z : Int) + (u : Int)) = (T : Int) := by have := wrap_u64 T (by omega); rw [hT] at this ⊢; simpa using this
          obtain ⟨x, d, hx, hd, hxd, em, ed⟩ : ∃ x d : Nat, x < 4294967296 ∧ d < 4294967296 ∧ Hid (u + z + c = x + 4294967296 * d) ∧ (T : Int) % 4294967296 = (x : Int) ∧ (T : Int) / 4294967296 = (d : Int) :=
            ⟨T % 4294967296, T / 4294967296, by omega, by omega, by show _ = _; omega, by omega, by omega⟩
          have HStep := hid (HST.out x d hx hd hxd.out)
          have HRow := hid (hrow'.out.set (i + k) x)
          have HG := hid (grownBy_set (i := i + k) (v := .int .u32 (x : Nat)) hg'.out)
          have HT := hid hT; have HFIT := hid hfit
          clear hT hfit HST hxd
          go_wp2
          go_quiet (fail)
          go_wp2
          go_roundw
          case rel => exact ⟨k + 1, d, t'.set (i + k) x, by omega, by go_num, by first | rfl | rw [ed], hd, HStep, by first | exact HRow | exact HRow.out.drewN _ | exact HRow.out.drew, by first | exact HG | exact grownBy_drewN HG.out _ | exact grownBy_drew HG.out⟩
          case measure => simp [intOf]; omega
        · obtain rfl : k = m.length := by omega
          have hv : valF (fun j => m.getD j 0) m.length = val m := (val_valF m m.length (Nat.le_refl _)).symm
          rw [hv] at ham
          clear hv
          have hca := hrow'.out.cell (i := i + m.length) (by omega)
          have hfr := hrow'.out.frozen (i + m.length)
          have HStep := hid (HSTEP.out _ _ ham.out)
          have HRow := hid (hrow'.out.set (i + m.length) c)
          have HG := hid (grownBy_set (i := i + m.length) (v := .int .u32 (c : Nat)) hg'.out)
          go_wp2
          go_roundw
          case rel => exact ⟨i + 1, t'.set (i + m.length) c, by omega, by go_num, HStep, HRow, HG⟩
          case measure => simp [intOf]; omega
    · obtain rfl : i = l.length := by omega
      have htl := hmt.out.len
      have hv := hmt.out.total
      have hs3 : Sees wo (.slice (some ⟨w.heap.size, 0, none⟩) (l.length + m.length) (l.length + m.length)) t := by
        have := hrow.out.sees hmt.out.ok 0 (l.length + m.length) (l.length + m.length) (by omega) (Nat.le_refl _) (by omega)
        rwa [List.drop_zero, List.take_of_length_le (by omega)] at this
      have HS3 := hid hs3; have HV := hid hv
      have HLK : Hid (t.length ≤ 35184372088000) := by show _ ≤ _; omega
      have hlk2 := Nat.le_trans (limbs_prefix hs3.ok).2 HLK.out
      have HB5 : Hid (Below w.heap.size w wo) := HBEL.out.grown hg.out (HBEL.out.size) (fun k e => by simp at e; omega)
      clear hs3 hv htl hmt hg hrow
      go_wp2_with fail
      refine (ref_plain _ _ _ HS3.out (by have := HLK.out; omega)).mono ?_
      intro e w4 hp
      obtain ⟨v4, rfl, hs4, hb4⟩ := hp.sees (by omega)
      have HS4 := hid hs4; have HB4 := hid (HB5.out.trans (hb4.mono HB5.out.size))
      clear hp hs4 hb4
      go_wp2
      go_ret
      exact ⟨_, rfl, by have := HS4.out; rw [HV.out] at this; exact this, HB4.out⟩

theorem ref_mul' {a b : Value} {l m : List Nat} {w : World} (ha : Sees w a l) (hb : Sees w b m) (hl : l.length ≤ 17592186044000) (hm : m.length ≤ 17592186044000) :
    Calls Tryd.prog 83 #[a, b] w fun e w' => ∃ v, e = .returned v ∧ Sees w' v (limbs (val l * val m)) ∧ Below w.heap.size w w' := by
  have hA := ha; have hB := hb
  obtain ⟨A, ca, rfl, -, -, -, -, -⟩ := ha
  obtain ⟨B, cb, rfl, -, -, -, -, -⟩ := hb
  exact ref_mul _ _ _ _ _ _ _ hA hB hl hm
end Go.Proofs.YtfjanomjmlcgaaaDoor
