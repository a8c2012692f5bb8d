/- nat.Of, limbAt, wordAt at the first place, nat.Small by their contracts. -/
import Derived.Test.YtfjanomjmlcgaaaDoorRef1
import Derived.Test.YtfjanomjmlcgaaaDoorDiv1
import Derived.Test.YtfjanomjmlcgaaaDoorVal
set_option linter.unusedVariables false
set_option linter.unusedSimpArgs false
namespace Go.Proofs.YtfjanomjmlcgaaaDoor
open Go.RowKit

theorem nat_of (n : Int) (h1 : -9223372036854775808 ≤ n) (h2 : n < 9223372036854775808) (w : World) :
    Calls Tryd.prog 79 #[.int .i64 n] w fun e w' => IsNum w n.toNat e w' := by
  go_enter Tryd.func79, Tryd.ntmps79
  rcases Int.lt_or_le n 0 with h | h
  · have hm : max n 0 = ((0 : Nat) : Int) := by omega
    have hw : IntKind.u64.wrap ((0 : Nat) : Int) = ((0 : Nat) : Int) := by rw [IntKind.wrap_u64]; rfl
    have hc := hid (nat_fromWord 0 (by omega) w)
    have ht : n.toNat = 0 := by omega
    rw [ht]
    go_wp2_with fail
    refine hc.out.mono ?_
    rintro e w' ⟨v, rfl, hs, hb⟩
    have HS := hid hs; have HB := hid hb
    clear hs hb
    go_wp2
    go_ret
    exact ⟨_, rfl, HS.out, HB.out⟩
  · obtain ⟨m, rfl⟩ := Int.eq_ofNat_of_zero_le h
    have hm : max (m : Int) 0 = (m : Int) := by omega
    have hc := hid (nat_fromWord m (by omega) w)
    have ht : ((m : Int)).toNat = m := by omega
    rw [ht]
    go_wp2_with fail
    refine hc.out.mono ?_
    rintro e w' ⟨v, rfl, hs, hb⟩
    have HS := hid hs; have HB := hid hb
    clear hs hb
    go_wp2
    go_ret
    exact ⟨_, rfl, HS.out, HB.out⟩

theorem nat_limbAt (v : Value) (l : List Nat) (k x : Nat) (w : World) (h : Sees w v l) (hk : k ≤ 70368744177664) (hx : l.getD k 0 = x) :
    Calls Tryd.prog 88 #[v, .int .i64 k] w fun e w' => e = .returned (.int .u32 (x : Nat)) ∧ w = w' := by
  have HS := hid h
  have hl := h.len
  obtain ⟨a, c, rfl, -, -, -, -, -⟩ := h
  go_enter Tryd.func88, Tryd.ntmps88
  by_cases hlt : k < l.length
  · obtain ⟨b1, o1, rfl, hc⟩ := HS.out.at (by omega)
    have hca := hc k hlt
    rw [hx] at hca
    clear hc hx
    go_wp2
    go_ret
    exact ⟨rfl, rfl⟩
  · have hz : l.getD k 0 = 0 := by rw [List.getD_eq_getElem?_getD, List.getElem?_eq_none (by omega)]; rfl
    rw [hz] at hx
    subst hx
    clear hz
    go_wp2
    go_ret
    exact ⟨rfl, rfl⟩

/-- Limbs side by side. -/
theorem or_limbs (x y : Nat) (hx : x < 4294967296) : x ||| y * 4294967296 = x + y * 4294967296 := by
  have h := Nat.two_pow_add_eq_or_of_lt (i := 32) (b := x) hx y
  rw [Nat.or_comm, Nat.mul_comm y, Nat.add_comm x]
  exact h.symm

theorem nat_wordAt0 (v : Value) (l : List Nat) (x y : Nat) (w : World) (h : Sees w v l) (hx : l.getD 0 0 = x) (hy : l.getD 1 0 = y) :
    Calls Tryd.prog 51 #[v, .int .i64 0] w fun e w' => e = .returned (.int .u64 (x + y * 4294967296 : Nat)) ∧ w = w' := by
  have h0 := h.ok.getD 0
  have h1 := h.ok.getD 1
  have h2 := h.ok.getD 2
  obtain ⟨z, hz⟩ : ∃ z, l.getD 2 0 = z := ⟨_, rfl⟩
  rw [hx] at h0; rw [hy] at h1; rw [hz] at h2
  have HC0 := hid (nat_limbAt v l 0 x w h (by omega) hx)
  have HC1 := hid (nat_limbAt v l 1 y w h (by omega) hy)
  have HC2 := hid (nat_limbAt v l 2 z w h (by omega) hz)
  clear h hx hy hz
  obtain ⟨Y, hY⟩ : ∃ Y, Y = y * 4294967296 := ⟨_, rfl⟩
  obtain ⟨T, hT⟩ : ∃ T, T = x + Y := ⟨_, rfl⟩
  have e1 : IntKind.u64.wrap ((y : Int) * 4294967296) = (Y : Int) := by rw [IntKind.wrap_u64]; omega
  have e2 : bits .or .u64 (x : Int) (Y : Int) = (T : Int) := by
    rw [u64_or_nat x Y (by omega) (by omega), hY, or_limbs x y h0, ← hY, ← hT]
  have e3 : IntKind.u64.wrap ((z : Int) * 18446744073709551616) = 0 := by rw [IntKind.wrap_u64]; omega
  have e4 : bits .or .u64 (T : Int) 0 = (T : Int) := by
    have := u64_or_nat T 0 (by omega) (by omega)
    rw [Nat.or_zero] at this
    exact this
  have HT : Hid (x + y * 4294967296 = T) := by show _ = _; omega
  clear hT hY
  go_enter Tryd.func51, Tryd.ntmps51
  go_wp2_with fail
  refine HC0.out.mono ?_
  rintro e w' ⟨rfl, rfl⟩
  go_wp2_with fail
  refine HC1.out.mono ?_
  rintro e w' ⟨rfl, rfl⟩
  go_wp2_with fail
  refine HC2.out.mono ?_
  rintro e w' ⟨rfl, rfl⟩
  clear HC0 HC1 HC2
  go_wp2
  go_ret
  exact ⟨by rw [HT.out]; rfl, rfl⟩

theorem limb_zero (V : Nat) : (limbs V).getD 0 0 = V % 4294967296 := by
  rcases Nat.eq_zero_or_pos V with h | h
  · rw [h]; rfl
  · rw [limbs_pos h]; rfl
theorem limb_one (V : Nat) : (limbs V).getD 1 0 = V / 4294967296 % 4294967296 := by
  rcases Nat.eq_zero_or_pos V with h | h
  · rw [h]; rfl
  · rw [limbs_pos h]; exact limb_zero _
theorem bits_small {x : Nat} : bitsN x ≤ 63 ↔ x < 9223372036854775808 := by
  unfold bitsN
  by_cases h : x = 0
  · rw [if_pos h]; omega
  · rw [if_neg h]
    have := @Nat.log2_lt x 63 h
    have e : 2 ^ 63 = 9223372036854775808 := by decide
    rw [e] at this
    omega

theorem nat_small_no {a : Value} {l : List Nat} {w : World} (ha : Sees w a l) (h : ¬ val l < 9223372036854775808) :
    Calls Tryd.prog 78 #[a] w fun e w' => e = .returned (.tuple #[.int .i64 0, .bool false]) ∧ w = w' := by
  have hb : 63 < bitsN (val l) := by have := @bits_small (val l); omega
  have hA := ha
  obtain ⟨A0, ca, rfl, -, -, -, -, -⟩ := ha
  go_enter Tryd.func78, Tryd.ntmps78
  go_wp2_with fail
  refine (trim_sees _ _ _ _ _ hA).mono ?_
  rintro e w' ⟨⟨A, rfl, hs, -⟩, rfl⟩
  have HB := hid (nat_bits _ _ _ _ _ hs)
  rw [val_limbs] at HB
  clear h hs hA
  generalize bitsN (val l) = n at *
  go_wp2_with fail
  refine HB.out.mono ?_
  rintro e w' ⟨rfl, rfl⟩
  go_wp2
  go_ret2
  exact ⟨rfl, rfl⟩
theorem nat_small_ok {a : Value} {l : List Nat} {w : World} (ha : Sees w a l) (h : val l < 9223372036854775808) :
    Calls Tryd.prog 78 #[a] w fun e w' => e = .returned (.tuple #[.int .i64 (val l : Nat), .bool true]) ∧ w = w' := by
  have hb : bitsN (val l) ≤ 63 := by have := @bits_small (val l); omega
  have hA := ha
  obtain ⟨A0, ca, rfl, -, -, -, -, -⟩ := ha
  go_enter Tryd.func78, Tryd.ntmps78
  go_wp2_with fail
  refine (trim_sees _ _ _ _ _ hA).mono ?_
  rintro e w' ⟨⟨A, rfl, hs, -⟩, rfl⟩
  have HB := hid (nat_bits _ _ _ _ _ hs)
  have HW := hid (nat_wordAt0 _ _ _ _ w hs (limb_zero _) (limb_one _))
  rw [val_limbs] at HB
  have e1 : val l % 4294967296 + val l / 4294967296 % 4294967296 * 4294967296 = val l := by omega
  rw [e1] at HW
  clear e1 hs hA
  generalize bitsN (val l) = n at *
  obtain ⟨V, hV⟩ : ∃ V, val l = V := ⟨_, rfl⟩
  rw [hV] at HW h
  have HV := hid hV
  simp only [hV] at HB ⊢
  clear hV
  have ew : IntKind.i64.wrap (V : Int) = (V : Int) := by rw [IntKind.wrap_i64]; omega
  go_wp2_with fail
  refine HB.out.mono ?_
  rintro e w' ⟨rfl, rfl⟩
  go_wp2_with fail
  refine HW.out.mono ?_
  rintro e w' ⟨rfl, rfl⟩
  go_wp2
  go_ret2
  exact ⟨by rw [HV.out]; rfl, rfl⟩
end Go.Proofs.YtfjanomjmlcgaaaDoor
