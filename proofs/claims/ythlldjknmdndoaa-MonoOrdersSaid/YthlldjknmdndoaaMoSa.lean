/- mono.Mul by its contract. -/
import Derived.Test.YthlldjknmdndoaaMoR
set_option linter.unusedVariables false
set_option linter.unusedSimpArgs false
namespace Go.Proofs.Ythlldjknmdndoaa
open Go.RowKit

def gMul (x y : Int) : Int := x + y

theorem op_add (x y : Int) (hx : 0 ≤ x ∧ x ≤ 65536) (hy : 0 ≤ y ∧ y ≤ 65536) (w : World) :
    Calls Try.prog 43 #[.int .i64 x, .int .i64 y] w fun e w' => e = .returned (.int .i64 (gMul x y)) ∧ w = w' := by
  obtain ⟨hx1, hx2⟩ := hx
  obtain ⟨hy1, hy2⟩ := hy
  have hw : IntKind.i64.wrap (x + y) = x + y := by rw [IntKind.wrap_i64]; omega
  go_enter Try.func43, Try.ntmps43
  go_wp2
  all_goals
    go_ret
    exact ⟨ret_int (by first | rfl | assumption | (unfold gMul; first | rfl | omega)), rfl⟩

set_option maxHeartbeats 1000000 in
theorem combine_add {a b : Value} {l m : List Int} {w : World} (ha : SeesI w a l) (hb : SeesI w b m) (hn : l.length ≤ 4096) :
    Calls Try.prog 42 #[a, b, .func (.func 43) #[] #[]] w fun e w' => OpTells gMul l m w e w' := by
  have C1 := hidP (mono_areAlike ha hb)
  have HA := hidP ha
  have HB := hidP hb
  obtain ⟨A, ca, rfl, hcap⟩ := SeesF.form ha
  obtain ⟨B, cb, rfl, hcap2⟩ := SeesF.form hb
  clear ha hb
  cases hal : alikeB l m with
  | false =>
    have HF : Hid (opB gMul l m = false) := by show opB gMul l m = false; unfold opB; rw [hal]; rfl
    rw [hal] at C1
    clear hal
    go_enter Try.func42, Try.ntmps42
    go_wp2_with fail
    refine C1.out.mono ?_
    rintro e w0 ⟨rfl, rfl⟩
    go_wp2
    go_ret2
    exact OpTells.of_none HF.out (Below.refl _ _)
  | true =>
    have HO : Hid (opB gMul l m = mayB (List.zipWith gMul l m)) := by show opB gMul l m = _; unfold opB; rw [hal]; rfl
    rw [hal] at C1
    unfold alikeB at hal
    simp only [Bool.and_eq_true, decide_eq_true_eq] at hal
    obtain ⟨hl, hm1, hm2⟩ := hal
    have HL := hidP hl
    have HM1 := hidP (mayB_getD.1 hm1)
    have HM2 := hidP (mayB_getD.1 hm2)
    have hmk := run_make_row' (P := Try.prog) 25 3 (.int .i64 0) 8 Try.underlying25 info_int rfl .i64 .i64 l.length (by omega) (by omega)
    have hzl : (List.zipWith gMul l m).length = l.length := by simp [hl]
    have HR := hidP (RowI.made w l.length)
    rw [← part_zero gMul l m] at HR
    have HBel : Hid (Below w.heap.size w (w.alloc (.cells (madeCells #[.int .i64 0] l.length) 3))) := (Below.refl _ w).alloc (Nat.le_refl _) _
    clear hl hm1 hm2
    go_enter Try.func42, Try.ntmps42
    go_wp2_with fail
    refine C1.out.mono ?_
    rintro e w0 ⟨rfl, rfl⟩
    go_wp2
    obtain ⟨G, hG⟩ : ∃ G, G = w.heap.size := ⟨_, rfl⟩
    obtain ⟨W1, hW⟩ : ∃ x, x = w.alloc (.cells (madeCells #[.int .i64 0] l.length) 3) := ⟨_, rfl⟩
    rw [← hW] at HR HBel
    rw [← hG] at HR
    rw [← hW, ← hG]
    have HGe := hidP hG
    clear hmk hW hG C1
    go_loopw [20] (fun v wr => ∃ k : Nat, k ≤ l.length ∧ v = .int .i64 k ∧ Hid (RowI wr G (part gMul l m k)) ∧ Hid (Below w.heap.size w wr)) (fun v _ => l.length - (intOf v).toNat)
    case atStart => exact ⟨0, Nat.zero_le _, rfl, HR, HBel⟩
    case round =>
      clear HR HBel
      obtain ⟨k, hk, rfl, hrow, hbel⟩ := hrel
      by_cases hlt : k < l.length
      · have hkm : k < m.length := by have := HL.out; omega
        obtain ⟨b1, o1, e1, hc1'⟩ := (HA.out.below hbel.out).at (by omega)
        subst e1
        obtain ⟨b2, o2, e2, hc2'⟩ := (HB.out.below hbel.out).at (by omega)
        subst e2
        have hc1 := hc1' k hlt
        have hc2 := hc2' k hkm
        have hfr := hrow.out.frozen k
        have hpl := part_len gMul HL.out hk
        have hcr := hrow.out.cell (i := k) (by rw [hpl]; exact hlt)
        have HS : Hid (RowI (wr.setCell ⟨G, k, none⟩ (.int .i64 (gMul (l.getD k 0) (m.getD k 0)))) G (part gMul l m (k + 1))) := by
          have := hrow.out.set k (gMul (l.getD k 0) (m.getD k 0))
          rwa [part_set gMul HL.out hlt] at this
        have HB2 : Hid (Below w.heap.size w (wr.setCell ⟨G, k, none⟩ (.int .i64 (gMul (l.getD k 0) (m.getD k 0))))) := hbel.out.setCell (by show w.heap.size ≤ G; rw [HGe.out]; exact Nat.le_refl _) _
        have CO := hidP (op_add (l.getD k 0) (m.getD k 0) (HM1.out k hlt) (HM2.out k hkm))
        clear hc1' hc2' hrow hbel
        obtain ⟨z, hz⟩ : ∃ z, gMul (l.getD k 0) (m.getD k 0) = z := ⟨_, rfl⟩
        simp only [hz] at HS HB2 CO
        obtain ⟨x, hx⟩ : ∃ x, l.getD k 0 = x := ⟨_, rfl⟩
        obtain ⟨y, hy⟩ : ∃ y, m.getD k 0 = y := ⟨_, rfl⟩
        obtain ⟨q, hq⟩ : ∃ q, (part gMul l m k).getD k 0 = q := ⟨_, rfl⟩
        rw [hx] at hc1 CO
        rw [hy] at hc2 CO
        rw [hq] at hcr
        clear hx hy hz hq hpl
        go_wp2_with fail
        refine (CO.out _).mono ?_
        rintro e w0 ⟨rfl, rfl⟩
        go_wp2
        go_roundw
        case rel => exact ⟨k + 1, by omega, by go_num, HS, HB2⟩
        case measure => simp [intOf]; omega
      · obtain rfl : k = l.length := by omega
        have hr := hrow.out
        rw [part_all gMul HL.out] at hr
        have hs := hr.sees (by omega)
        rw [hzl] at hs
        have HSe := hidP hs
        have CE := hidP (mono_areExponents hs)
        clear hrow hr hs
        cases hmz : mayB (List.zipWith gMul l m) with
        | true =>
          have HT : Hid (opB gMul l m = true) := HO.out.trans hmz
          rw [hmz] at CE
          clear hmz
          go_wp2_with fail
          refine CE.out.mono ?_
          rintro e w0 ⟨rfl, rfl⟩
          go_wp2
          go_ret2
          exact OpTells.of_some HT.out HSe.out hbel.out
        | false =>
          have HT : Hid (opB gMul l m = false) := HO.out.trans hmz
          rw [hmz] at CE
          clear hmz
          go_wp2_with fail
          refine CE.out.mono ?_
          rintro e w0 ⟨rfl, rfl⟩
          go_wp2
          go_ret2
          exact OpTells.of_none HT.out hbel.out

theorem mono_Mul {a b : Value} {l m : List Int} {w : World} (ha : SeesI w a l) (hb : SeesI w b m) (hn : l.length ≤ 4096) :
    Calls Try.prog 21 #[a, b] w fun e w' => OpTells gMul l m w e w' := by
  have C := hidP (combine_add ha hb hn)
  clear ha hb hn
  go_enter Try.func21, Try.ntmps21
  go_wp2_with fail
  refine C.out.mono ?_
  rintro e w0 ⟨v, rfl, hs, hb⟩
  have HS := hidP hs
  have HB := hidP hb
  clear hs hb
  go_wp2
  go_ret2
  exact ⟨_, rfl, HS.out, HB.out⟩
end Go.Proofs.Ythlldjknmdndoaa
