/- nat.Shift down by its contract. -/
import Derived.Test.YtgcgifehpbjglabDoorShift3
set_option linter.unusedVariables false
set_option linter.unusedSimpArgs false
namespace Go.Proofs.YtgcgifehpbjglabDoor
open Go.RowKit

theorem nat_shiftDown' (B : Option Addr) (n cb : Nat) (m : List Nat) (h k : Nat) (w : World) (hb : Sees w (.slice B n cb) m) (hk : h + k = 32) (hml : m.length ≤ 35184372088832) :
    Calls Tryd.prog 35 #[.slice B n cb, .int .u64 h] w fun e w' => ShiftedDown w (val m / 2 ^ h) n e w' := by
  obtain ⟨rfl, _⟩ := hb.len_eq
  exact nat_shiftDown B cb m h k w hb hk hml

set_option maxRecDepth 100000 in
set_option maxHeartbeats 1600000 in
theorem nat_shift_down1 (a : Option Addr) (la ca : Nat) (l : List Nat) (d o h k : Nat) (w : World) (ha : Sees w (.slice a la ca) l) (hl : l.length ≤ 17592186044416) (hd0 : 0 < d) (hd : d ≤ 1048576) (hdo : d = 32 * o + h) (hk : h + k = 32) (hh : h < 32) (h0 : 0 < val l) :
    Calls Tryd.prog 16 #[.slice a la ca, .int .i64 (-(d : Int))] w fun e w' => ∃ v, e = .returned (.tuple #[v, .bool true]) ∧ Sees w' v (limbs (val l / 2 ^ d)) ∧ Below w.heap.size w w' := by
  have hlen1 := (limbs_prefix ha.ok).2
  have e1 : (d : Int) / 32 = (o : Int) := by omega
  have e2 : (d : Int) % 32 = (h : Int) := by omega
  have HDO := hid hdo
  clear hdo
  go_enter Tryd.func16, Tryd.ntmps16
  go_wp2_with fail
  refine (trim_sees _ _ _ _ _ ha).mono ?_
  rintro e w' ⟨⟨A, rfl, hA, -⟩, rfl⟩
  have HA := hid hA; clear hA ha
  have hpos := (limbs_last h0).1
  obtain ⟨p, hp⟩ : ∃ p, limbs (val l) = p := ⟨_, rfl⟩
  rw [hp] at HA hlen1 hpos
  simp only [hp]
  have hvp : val p = val l := by rw [← hp, val_limbs]
  have HP := hid hvp
  have hp1 : p.length ≤ 17592186044416 := by omega
  clear hlen1 hl hp hvp h0
  obtain ⟨b, o1, rfl, -⟩ := HA.out.at (by omega)
  obtain ⟨g, hg⟩ : ∃ g, g = min o p.length := ⟨_, rfl⟩
  have hgl : g ≤ p.length := by omega
  have e3 : min (o : Int) (p.length : Int) = (g : Int) := by omega
  have hv : val (p.drop g) / 2 ^ h = val l / 2 ^ d := by
    rw [HDO.out, ← pow_limb, ← Nat.div_div_eq_div_mul, ← HP.out]
    rcases Nat.lt_or_ge p.length o with h1 | h1
    · have e : g = p.length := by omega
      rw [e, List.drop_eq_nil_iff.2 (Nat.le_refl _)]
      rw [Nat.div_eq_of_lt (Nat.lt_of_lt_of_le (val_lt HA.out.ok) (Nat.pow_le_pow_right (by decide) (by omega)))]
      rfl
    · have e : g = o := by omega
      rw [e, val_drop_div HA.out.ok]
  clear hg
  by_cases hgp : g < p.length
  · have HV := hid hv
    have HCALL := hid (nat_shiftDown' (some ⟨b, o1 + g, none⟩) (p.length - g) (p.length - g) (p.drop g) h k w (HA.out.drop g hgl) hk (by simp; omega))
    clear hv
    go_wp2_with fail
    refine HCALL.out.mono ?_
    rintro e w3 ⟨t, rfl, ht1, ht2, ht3, hrow, hb⟩
    have hs := hrow.sees ht2 0 (p.length - g) (p.length - g) (by omega) (Nat.le_refl _) (by omega)
    rw [List.drop_zero, List.take_of_length_le (by omega)] at hs
    have HS := hid hs; have HB := hid hb
    have HT := hid ht3
    clear hs hb hrow ht1 ht2 ht3 HCALL
    go_wp2_with fail
    refine (trim_sees _ _ _ _ _ HS.out).mono ?_
    rintro e w4 ⟨⟨R, rfl, hR, -⟩, rfl⟩
    have HRR := hid hR; clear hR
    go_wp2
    go_ret2
    exact ⟨_, rfl, by have := HRR.out; rw [HT.out, HV.out] at this ⊢; exact this, HB.out⟩
  · obtain rfl : g = p.length := by omega
    rw [List.drop_eq_nil_iff.2 (Nat.le_refl _)] at hv
    have HV := hid hv
    have hnil : Sees w (.slice (some ⟨b, o1, none⟩) 0 0) [] := ⟨_, 0, rfl, Nat.le_refl _, by decide, Ok.nil, fun _ => rfl, fun h => absurd h (by simp)⟩
    have HCALL := hid (nat_shiftDown' (some ⟨b, o1, none⟩) 0 0 [] h k w hnil hk (by simp))
    clear hv hnil
    go_wp2_with fail
    refine HCALL.out.mono ?_
    rintro e w3 ⟨t, rfl, ht1, ht2, ht3, hrow, hb⟩
    have hs := hrow.sees ht2 0 (0) (0) (by omega) (Nat.le_refl _) (by omega)
    rw [List.drop_zero, List.take_of_length_le (by omega)] at hs
    have HS := hid hs; have HB := hid hb
    have HT := hid ht3
    clear hs hb hrow ht1 ht2 ht3 HCALL
    go_wp2_with fail
    refine (trim_sees _ _ _ _ _ HS.out).mono ?_
    rintro e w4 ⟨⟨R, rfl, hR, -⟩, rfl⟩
    have HRR := hid hR; clear hR
    go_wp2
    go_ret2
    exact ⟨_, rfl, by have := HRR.out; rw [HT.out, HV.out] at this ⊢; exact this, HB.out⟩
end Go.Proofs.YtgcgifehpbjglabDoor
