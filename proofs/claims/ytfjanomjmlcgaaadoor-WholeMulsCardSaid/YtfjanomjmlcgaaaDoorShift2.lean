/- nat.shiftDown by its contract. -/
import Derived.Test.YtfjanomjmlcgaaaDoorShift1
set_option linter.unusedVariables false
set_option linter.unusedSimpArgs false
namespace Go.Proofs.YtfjanomjmlcgaaaDoor
open Go.RowKit

/-- What shiftDown returns. -/
def ShiftedDown (w : World) (x n : Nat) (e : Ending) (w' : World) : Prop :=
  ∃ t, e = .returned (.slice (some ⟨w.heap.size, 0, none⟩) n n) ∧ t.length = n ∧ Ok t ∧ val t = x ∧ Row w' w.heap.size t ∧ Below w.heap.size w w'

set_option maxRecDepth 100000 in
set_option maxHeartbeats 400000 in
theorem nat_shiftDown (B : Option Addr) (cb : Nat) (m : List Nat) (h k : Nat) (w : World) (hb : Sees w (.slice B m.length cb) m) (hk : h + k = 32) (hml : m.length ≤ 35184372088832) :
    Calls Tryd.prog 93 #[.slice B m.length cb, .int .u64 h] w fun e w' => ShiftedDown w (val m / 2 ^ h) m.length e w' := by
  have HB := hid hb
  clear hb
  have ek : (32 : Int) - (h : Int) = (k : Int) := by omega
  go_enter Tryd.func93, Tryd.ntmps93
  have hmk := run_make_row' (P := Tryd.prog) 22 57 (.int .u32 0) 4 Tryd.underlying22 info_u32 rfl .i64 .i64 m.length (by omega) (by omega)
  obtain ⟨w1, hw1⟩ : ∃ w1, w1 = w.alloc (.cells (madeCells #[Value.int .u32 0] m.length) 57) := ⟨_, rfl⟩
  have hbel : Below w.heap.size w w1 := by rw [hw1]; exact (Below.refl _ w).alloc (Nat.le_refl _) _
  have hrow0 : Row w1 w.heap.size (List.replicate m.length 0) := by rw [hw1]; exact Row.made w _
  have HW := hid hw1.symm; have HBEL := hid hbel; have HROW0 := hid hrow0
  have HB1 := hid (HB.out.below hbel)
  have HBL := hid (fun (h : 0 < m.length) (a : Addr) (e : B = some a) => (e ▸ HB.out : Sees w (.slice (some a) m.length cb) m).lt h)
  clear hw1 hbel hrow0
  go_wp2
  go_loopw [12] (fun v wr => ∃ (i : Nat) (t : List Nat), i ≤ m.length ∧ v = .int .i64 i ∧ Hid (DownTo m h i t) ∧ Hid (Row wr w.heap.size t) ∧ Hid (w1.grownBy wr (some w.heap.size))) (fun v _ => m.length - (intOf v).toNat)
  case atStart => exact ⟨0, _, Nat.zero_le _, rfl, DownTo.start _ _, by rw [HW.out]; exact HROW0, by rw [HW.out]; exact World.grownBy.refl _ _⟩
  case round =>
    obtain ⟨i, t, hi, rfl, hd, hrow, hg⟩ := hrel
    have htl := hd.out.len
    by_cases hlt : i < m.length
    · have hsw : Sees wr (.slice B m.length cb) m := HB1.out.grown hg.out (fun a e => by have := HBL.out (by omega) a e; omega)
      obtain ⟨b2, o2, rfl, hcb'⟩ := hsw.at (by omega)
      have hcb := hcb' i hlt
      have hob := hsw.ok.getD i
      have hob2 := hsw.ok.getD (i + 1)
      have hca := hrow.out.cell (i := i) (by omega)
      have hfr := hrow.out.frozen i
      have hstep := fun X hX => hd.out.step (X := X) hk hlt hX
      have HSTEP := hid hstep
      have hcall := nat_limbAt (.slice (some ⟨b2, o2, none⟩) m.length cb) m (i + 1) _ wr.drew hsw (by omega) rfl
      have ei : ((i + 1 : Nat) : Int) = IntKind.i64.wrap ((i : Int) + 1) := by rw [IntKind.wrap_i64]; omega
      rw [ei] at hcall
      clear ei
      have HCALL := hid hcall
      clear hstep hcb' hcall hd
      generalize m.getD i 0 = v at *
      generalize m.getD (i + 1) 0 = u at *
      obtain ⟨c, hce⟩ : ∃ c, c = v / 2 ^ h := ⟨_, rfl⟩
      have hcl : c < 2 ^ k := by
        rw [hce]
        apply Nat.div_lt_of_lt_mul
        rw [← Nat.pow_add, hk]
        exact hob
      have hc32 : c < 4294967296 := by rw [hce]; exact Nat.lt_of_le_of_lt (Nat.div_le_self _ _) hob
      obtain ⟨X, H, hX, hD, hH, e1, e2, e3⟩ := shl_limb u c k h (by omega) hob2 hcl
      rw [hce] at e3
      have HST := hid (HSTEP.out X hX e3)
      have f1 : IntKind.u32.wrap ((u : Int) * 2 ^ k) = (H : Int) := by
        have := wrap_u32_nat _ _ e1
        rw [Int.natCast_mul, Int.natCast_pow] at this
        exact this
      have f4 : (u : Int) * 2 ^ min k 32 % 4294967296 = (H : Int) := by
        rw [Nat.min_eq_left (by omega), ← IntKind.wrap_u32]; exact f1
      have f2 := or_u32 c H X hc32 hH (by rw [Nat.or_comm]; exact e2)
      have f3 : (v : Int) / 2 ^ h = (c : Int) := by
        rw [hce, Int.natCast_ediv, Int.natCast_pow]; rfl
      have HRow := hid (hrow.out.set i X)
      have HG := hid (grownBy_set (i := i) (v := .int .u32 (X : Nat)) hg.out)
      clear e1 e2 e3 hD hce HSTEP hcl hsw
      go_wp2
      go_region_with (go_at_call 88; refine HCALL.out.mono ?_; rintro e w' ⟨rfl, rfl⟩)
      all_goals
        go_wp2
        go_roundw
        case rel => exact ⟨i + 1, t.set i X, by omega, by go_num, HST, by (try rw [f4, f2]); first | exact HRow | exact HRow.out.drew, by (try rw [f4, f2]); first | exact HG | exact grownBy_drew HG.out⟩
        case measure => simp [intOf]; omega
    · obtain rfl : i = m.length := by omega
      have hok := hd.out.ok
      have hv := hd.out.total
      have HF := hid (And.intro htl (And.intro hok hv))
      have HB5 : Hid (Below w.heap.size w wr) := HBEL.out.grown hg.out (HBEL.out.size) (fun k e => by simp at e; omega)
      clear hok hv hd
      go_wp2
      go_ret
      obtain ⟨g1, g2, g3⟩ := HF.out
      exact ⟨t, rfl, g1, g2, g3, hrow.out, HB5.out⟩
end Go.Proofs.YtfjanomjmlcgaaaDoor
