/- nat.combine by its contract. -/
import Derived.Test.YtfjanomjmlcgaaaDoorLong
import Derived.Test.YtfjanomjmlcgaaaDoorGcdN
set_option linter.unusedVariables false
set_option linter.unusedSimpArgs false
namespace Go.Proofs.YtfjanomjmlcgaaaDoor
open Go.RowKit

set_option maxRecDepth 100000 in
set_option maxHeartbeats 2000000 in
theorem nat_combine (A B : Option Addr) (ca cb m n d k : Nat) (a b : List Nat) (w : World) (ha : Sees w (.slice A a.length ca) a) (hb : Sees w (.slice B a.length cb) b) (hm : m < 4294967296) (hn : n < 4294967296) (hl : a.length ≤ 35184372088832)
    (hd : d < 4294967296 ^ a.length) (e : d + val b * n + 4294967296 ^ a.length * k = val a * m ∨ d + val b * n = val a * m + 4294967296 ^ a.length * k) :
    Calls Tryd.prog 96 #[.slice A a.length ca, .int .u64 m, .slice B a.length cb, .int .u64 n] w fun e w' => IsNum w d e w' := by
  have HA := hid ha; have HB := hid hb
  have hbl : b.length = a.length := hb.len_eq.1.symm
  have HBLEN := hid hbl
  have HD := hid hd; have HE := hid e
  clear ha hb hd e hbl
  go_enter Tryd.func96, Tryd.ntmps96
  have hmk := run_make_row' (P := Tryd.prog) 22 57 (.int .u32 0) 4 Tryd.underlying22 info_u32 rfl .i64 .i64 a.length (by omega) (by omega)
  obtain ⟨w1, hw1⟩ : ∃ w1, w1 = w.alloc (.cells (madeCells #[Value.int .u32 0] a.length) 57) := ⟨_, rfl⟩
  have hbel : Below w.heap.size w w1 := by rw [hw1]; exact (Below.refl _ w).alloc (Nat.le_refl _) _
  have hrow0 : Row w1 w.heap.size (List.replicate a.length 0) := by rw [hw1]; exact Row.made w _
  have HW := hid hw1.symm; have HBEL := hid hbel; have HROW0 := hid hrow0
  have HA1 := hid (HA.out.below hbel); have HB1 := hid (HB.out.below hbel)
  have HAL := hid (fun (h : 0 < a.length) (q : Addr) (e : A = some q) => (e ▸ HA.out : Sees w (.slice (some q) a.length ca) a).lt h)
  have HBL := hid (fun (h : 0 < b.length) (q : Addr) (e : B = some q) => (e ▸ HB.out : Sees w (.slice (some q) a.length cb) b).lt h)
  clear hw1 hbel hrow0 HA HB
  go_wp2
  go_loopw [9, 10, 11, 19] (fun v9 v10 v11 v wr => ∃ (i p q c : Nat) (t : List Nat), i ≤ a.length ∧ v = .int .i64 i ∧ v9 = .int .u64 p ∧ v10 = .int .u64 q ∧ v11 = .int .u32 c ∧ p < 4294967296 ∧ q < 4294967296 ∧ c ≤ 1 ∧ Hid (CombTo a b m n i t p q c) ∧ Hid (Row wr w.heap.size t) ∧ Hid (w1.grownBy wr (some w.heap.size))) (fun _ _ _ v _ => a.length - (intOf v).toNat)
  case atStart => exact ⟨0, 0, 0, 0, _, Nat.zero_le _, rfl, rfl, rfl, rfl, by omega, by omega, by omega, CombTo.start a b m n, by rw [HW.out]; exact HROW0, by rw [HW.out]; exact World.grownBy.refl _ _⟩
  case round =>
    clear hmk
    obtain ⟨i, p, q, c, t, hi, rfl, rfl, rfl, rfl, hp, hq, hc1, hcomb, hrow, hg⟩ := hrel
    have htl := hcomb.out.len
    by_cases hlt : i < a.length
    · have hbi : i < b.length := by have := HBLEN.out; omega
      have hsa : Sees wr (.slice A a.length ca) a := HA1.out.grown hg.out (fun q e => by have := HAL.out (by omega) q e; omega)
      have hsb : Sees wr (.slice B a.length cb) b := HB1.out.grown hg.out (fun q e => by have := HBL.out (by omega) q e; omega)
      obtain ⟨b1, o1, rfl, hca'⟩ := hsa.at (by omega)
      obtain ⟨b2, o2, rfl, hcb'⟩ := hsb.at (by omega)
      have hca := hca' i hlt
      have hcb := hcb' i hbi
      have hoa := hsa.ok.getD i
      have hob := hsb.ok.getD i
      have hcr := hrow.out.cell (i := i) (by omega)
      have hfr := hrow.out.frozen i
      have hstep := fun lo1 p' lo2 q' x c' h1 h2 h3 h4 h5 h6 h7 => hcomb.out.step (lo1 := lo1) (p' := p') (lo2 := lo2) (q' := q') (x := x) (c' := c') hlt h1 h2 h3 h4 h5 h6 h7
      have HST := hid hstep
      clear hstep hca' hcb' hsa hsb
      generalize a.getD i 0 = u at *
      generalize b.getD i 0 = v at *
      have fit1 := mul_fits u m 0 p hoa hm (by omega) hp
      have fit2 := mul_fits v n 0 q hob hn (by omega) hq
      obtain ⟨z1, hz1⟩ : ∃ z, z = u * m := ⟨_, rfl⟩
      obtain ⟨z2, hz2⟩ : ∃ z, z = v * n := ⟨_, rfl⟩
      have ez1 : IntKind.u64.wrap ((u : Int) * (m : Int)) = (z1 : Int) := by rw [hz1, ← Int.natCast_mul]; exact wrap_u64 _ (by omega)
      have ez2 : IntKind.u64.wrap ((v : Int) * (n : Int)) = (z2 : Int) := by rw [hz2, ← Int.natCast_mul]; exact wrap_u64 _ (by omega)
      rw [← hz1] at fit1 HST
      rw [← hz2] at fit2 HST
      clear hz1 hz2
      obtain ⟨T1, hT1⟩ : ∃ T, T = p + z1 := ⟨_, rfl⟩
      obtain ⟨T2, hT2⟩ : ∃ T, T = q + z2 := ⟨_, rfl⟩
      have et1 : IntKind.u64.wrap ((p : Int) + (z1 : Int)) = (T1 : Int) := by have := wrap_u64 T1 (by omega); rw [hT1] at this ⊢; simpa using this
      have et2 : IntKind.u64.wrap ((q : Int) + (z2 : Int)) = (T2 : Int) := by have := wrap_u64 T2 (by omega); rw [hT2] at this ⊢; simpa using this
      obtain ⟨lo1, hi1, hlo1, hhi1, hxd1, em1, ed1⟩ : ∃ lo hi : Nat, lo < 4294967296 ∧ hi < 4294967296 ∧ Hid (p + z1 = lo + 4294967296 * hi) ∧ (T1 : Int) % 4294967296 = (lo : Int) ∧ (T1 : Int) / 4294967296 = (hi : Int) :=
        ⟨T1 % 4294967296, T1 / 4294967296, by omega, by omega, by show _ = _; omega, by omega, by omega⟩
      obtain ⟨lo2, hi2, hlo2, hhi2, hxd2, em2, ed2⟩ : ∃ lo hi : Nat, lo < 4294967296 ∧ hi < 4294967296 ∧ Hid (q + z2 = lo + 4294967296 * hi) ∧ (T2 : Int) % 4294967296 = (lo : Int) ∧ (T2 : Int) / 4294967296 = (hi : Int) :=
        ⟨T2 % 4294967296, T2 / 4294967296, by omega, by omega, by show _ = _; omega, by omega, by omega⟩
      obtain ⟨x, c', hx, hc', hsub, hcall⟩ := sub32 lo1 lo2 c hlo1 hlo2 hc1
      have HStep := hid (HST.out lo1 hi1 lo2 hi2 x c' hhi1 hhi2 hx hc' hxd1.out hxd2.out (by have := hsub.out; omega))
      have HRow := hid (hrow.out.set i x)
      have HG := hid (grownBy_set (i := i) (v := .int .u32 (x : Nat)) hg.out)
      have HCall := hid hcall
      clear hcall hsub hxd1 hxd2 hT1 hT2 fit1 fit2 HST hcomb
      go_wp2_with (go_at_call 104; refine (HCall.out _).mono ?_; rintro e w' ⟨rfl, rfl⟩)
      all_goals
        go_roundw
        case rel => exact ⟨i + 1, hi1, hi2, c', t.set i x, by omega, by go_num, by first | rfl | rw [ed1], by first | rfl | rw [ed2], rfl, hhi1, hhi2, hc', HStep, HRow, by first | exact HG | exact grownBy_drew HG.out | exact grownBy_drew (grownBy_drew HG.out)⟩
        case measure => simp [intOf]; omega
    · obtain rfl : i = a.length := by omega
      have hv := hcomb.out.total HBLEN.out HD.out k HE.out
      have hs : Sees wr (.slice (some ⟨w.heap.size, 0, none⟩) t.length t.length) t := by
        have := hrow.out.sees hcomb.out.ok 0 t.length t.length (by omega) (Nat.le_refl _) (by omega)
        rwa [List.drop_zero, List.take_of_length_le (by omega)] at this
      rw [htl] at hs
      have HS := hid hs; have HV := hid hv
      have HB5 : Hid (Below w.heap.size w wr) := HBEL.out.grown hg.out (HBEL.out.size) (fun k e => by simp at e; omega)
      clear hv hs hcomb htl
      go_wp2_with fail
      refine (trim_sees _ _ _ _ _ HS.out).mono ?_
      rintro e w' ⟨⟨Z, rfl, hZ, -⟩, rfl⟩
      have HZ := hid hZ
      clear hZ HS
      go_wp2
      go_ret
      refine ⟨_, rfl, ?_, HB5.out⟩
      have := HZ.out
      rw [HV.out] at this ⊢
      exact this
end Go.Proofs.YtfjanomjmlcgaaaDoor
