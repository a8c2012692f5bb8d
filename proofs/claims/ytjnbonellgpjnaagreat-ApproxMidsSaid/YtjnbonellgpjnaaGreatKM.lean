/- nat.Shift by its contract. nat.Shift down by its contract. nat.Shift of nothing down, and nat.Shift whole. Shifts, a binary digit at a time: the numbers. -/
import Derived.Test.YtjnbonellgpjnaaGreatKD
import Derived.Test.YtjnbonellgpjnaaGreatKJ
set_option linter.unusedVariables false
set_option linter.unusedSimpArgs false
namespace Go.Proofs.YtjnbonellgpjnaaGreat
open Go.RowKit

theorem zeros_getD (N j : Nat) : (List.replicate N 0).getD j 0 = 0 := by
  rw [List.getD_eq_getElem?_getD, List.getElem?_replicate]
  split <;> rfl

/-- What is behind shiftUp and the carry's store. -/
theorem up_total {q t : List Nat} {N o c f : Nat} (hN : o + q.length < N) (ha : AddMul (List.replicate N 0) o q.length (val q * f) t c) : (t.set (o + q.length) c).length = N ∧ Ok (t.set (o + q.length) c) ∧ val (t.set (o + q.length) c) = 4294967296 ^ o * f * val q := by
  have hz : valF (fun i => (List.replicate o 0 ++ [f]).getD i 0) o = 0 := by
    rw [valF_congr _ (fun i => (List.replicate o 0).getD i 0) o (fun i hi => by
      rw [List.getD_eq_getElem?_getD, List.getElem?_append_left (by simpa using hi), ← List.getD_eq_getElem?_getD])]
    rw [← val_valF (List.replicate o 0) o (by simp), val_replicate]
  have hf : f = (List.replicate o 0 ++ [f]).getD o 0 := by
    rw [List.getD_eq_getElem?_getD, List.getElem?_append_right (by simp)]
    simp
  have h0 : MulTo (List.replicate o 0 ++ [f]) q N o (List.replicate N 0) := ⟨by simp, Ok.replicate _, fun j _ => zeros_getD _ _, by rw [hz, val_replicate, Nat.zero_mul]⟩
  have h := h0.step hN hf ha
  refine ⟨h.len, h.ok, ?_⟩
  rw [h.sum]
  simp only [valF]
  rw [hz, ← hf, Nat.zero_add]

theorem Sees.drop {w : World} {b o len cap : Nat} {l : List Nat} (h : Sees w (.slice (some ⟨b, o, none⟩) len cap) l) (k : Nat) (hk : k ≤ l.length) : Sees w (.slice (some ⟨b, o + k, none⟩) (l.length - k) (cap - k)) (l.drop k) := by
  obtain ⟨ao', cap', h1, h2, h3, h4, hn0, h5⟩ := h
  simp only [Value.slice.injEq] at h1
  obtain ⟨rfl, rfl, rfl⟩ := h1
  refine ⟨some ⟨b, o + k, none⟩, cap - k, by rw [List.length_drop], by rw [List.length_drop]; omega, by rw [List.length_drop]; omega, h4.drop k, (fun e => by cases e), fun hp => ?_⟩
  rw [List.length_drop] at hp
  obtain ⟨b', o', he, hcell⟩ := h5 (by omega)
  simp only [Option.some.injEq, Addr.mk.injEq, and_true] at he
  obtain ⟨rfl, rfl⟩ := he
  refine ⟨b, o + k, rfl, fun i hi => ?_⟩
  rw [List.length_drop] at hi
  have := hcell (k + i) (by omega)
  rw [Nat.add_assoc, this]
  simp [List.getD_eq_getElem?_getD, List.getElem?_drop]

theorem nat_shift_no {a : Value} (n : Int) (w : World) (h : n < -1048576 ∨ 1048576 < n) :
    Calls Tryz.prog 85 #[a, .int .i64 n] w fun e w' => e = .returned (.tuple #[.slice none 0 0, .bool false]) ∧ w = w' := by
  go_enter Tryz.func85, Tryz.ntmps85
  rcases h with h | h
  · go_wp2
    go_ret2
    exact ⟨rfl, rfl⟩
  · have h' : ¬ n < -1048576 := by omega
    go_wp2
    go_ret2
    exact ⟨rfl, rfl⟩

set_option maxRecDepth 100000 in
set_option maxHeartbeats 800000 in
theorem nat_shift_up (a : Option Addr) (la ca : Nat) (l : List Nat) (n o h k : Nat) (w : World) (ha : Sees w (.slice a la ca) l) (hl : l.length ≤ 17592186044416) (hn : n ≤ 1048576) (hno : n = 32 * o + h) (hk : h + k = 32) (hh : h < 32) :
    Calls Tryz.prog 85 #[.slice a la ca, .int .i64 n] w fun e w' => ∃ v, e = .returned (.tuple #[v, .bool true]) ∧ Sees w' v (limbs (val l * 2 ^ n)) ∧ Below w.heap.size w w' := by
  have hlen1 := (limbs_prefix ha.ok).2
  have e1 : (n : Int) / 32 = (o : Int) := by omega
  have e2 : (n : Int) % 32 = (h : Int) := by omega
  have ho : o ≤ 32768 := by omega
  have HNO := hid hno
  clear hno
  go_enter Tryz.func85, Tryz.ntmps85
  go_wp2_with fail
  refine (trim_sees _ _ _ _ _ ha).mono ?_
  rintro e w' ⟨⟨A, rfl, hA, -⟩, rfl⟩
  have HA := hid hA; clear hA ha
  obtain ⟨p, hp⟩ : ∃ p, limbs (val l) = p := ⟨_, rfl⟩
  rw [hp] at HA hlen1
  simp only [hp]
  have hvp : val p = val l := by rw [← hp, val_limbs]
  have HP := hid hvp
  have hp1 : p.length ≤ 17592186044416 := by omega
  clear hlen1 hl hp hvp
  have hmk := run_make_row' (P := Tryz.prog) 22 98 (.int .u32 0) 4 Tryz.underlying22 info_u32 rfl .i64 .i64 (o + p.length + 1) (by omega) (by omega)
  have ec : ((o + p.length + 1 : Nat) : Int) = (o : Int) + p.length + 1 := by omega
  rw [ec] at hmk
  clear ec
  obtain ⟨w1, hw1⟩ : ∃ w1, w1 = w.alloc (.cells (madeCells #[Value.int .u32 0] (o + p.length + 1)) 98) := ⟨_, rfl⟩
  have hbel : Below w.heap.size w w1 := by rw [hw1]; exact (Below.refl _ w).alloc (Nat.le_refl _) _
  have hrow0 : Row w1 w.heap.size (List.replicate (o + p.length + 1) 0) := by rw [hw1]; exact Row.made w _
  have HW := hid hw1.symm; have HBEL := hid hbel
  have HCALL := hid (nat_shiftUp w.heap.size o (o + p.length + 1 - o) (o + p.length + 1 - o) A p.length (List.replicate (o + p.length + 1) 0) p h k w1 hrow0 (Ok.replicate _) (fun j _ => zeros_getD _ _) (HA.out.below hbel)
    (fun h0 a e => by have := (e ▸ HA.out : Sees w (.slice (some a) p.length p.length) p).lt h0; omega) (by omega) (by simp; omega) (by simp; omega) hk)
  clear hw1 hbel hrow0
  go_wp2_with fail
  rw [HW.out]
  refine HCALL.out.mono ?_
  rintro e w3 ⟨t, c, rfl, ham, hrow3, hg3⟩
  obtain ⟨htl, hok, hv⟩ := up_total (by omega) ham
  obtain ⟨T, hT⟩ : ∃ T, T = t.set (o + p.length) c := ⟨_, rfl⟩
  rw [← hT] at htl hok hv hrow3
  have hs3 : Sees w3 (.slice (some ⟨w.heap.size, 0, none⟩) (o + p.length + 1) (o + p.length + 1)) T := by
    have := hrow3.sees hok 0 (o + p.length + 1) (o + p.length + 1) (by omega) (Nat.le_refl _) (by omega)
    rwa [List.drop_zero, List.take_of_length_le (by omega)] at this
  have HS3 := hid hs3
  have HV : Hid (val T = val l * 2 ^ n) := by
    show _ = _
    rw [hv, pow_limb, ← HNO.out, HP.out, Nat.mul_comm]
  have HB5 : Hid (Below w.heap.size w w3) := HBEL.out.grown hg3 (HBEL.out.size) (fun k e => by simp at e; omega)
  clear ham hrow3 hg3 htl hok hv hT hs3 hmk HCALL
  go_wp2_with fail
  refine (trim_sees _ _ _ _ _ HS3.out).mono ?_
  rintro e w4 ⟨⟨R, rfl, hR, -⟩, rfl⟩
  have HRR := hid hR; clear hR
  go_wp2
  go_ret2
  exact ⟨_, rfl, by have := HRR.out; rw [HV.out] at this ⊢; exact this, HB5.out⟩

end Go.Proofs.YtjnbonellgpjnaaGreat

set_option linter.unusedVariables false
set_option linter.unusedSimpArgs false
namespace Go.Proofs.YtjnbonellgpjnaaGreat
open Go.RowKit

theorem nat_shiftDown' (B : Option Addr) (n cb : Nat) (m : List Nat) (h k : Nat) (w : World) (hb : Sees w (.slice B n cb) m) (hk : h + k = 32) (hml : m.length ≤ 35184372088832) :
    Calls Tryz.prog 107 #[.slice B n cb, .int .u64 h] w fun e w' => ShiftedDown w (val m / 2 ^ h) n e w' := by
  obtain ⟨rfl, _⟩ := hb.len_eq
  exact nat_shiftDown B cb m h k w hb hk hml

set_option maxRecDepth 100000 in
set_option maxHeartbeats 1600000 in
theorem nat_shift_down1 (a : Option Addr) (la ca : Nat) (l : List Nat) (d o h k : Nat) (w : World) (ha : Sees w (.slice a la ca) l) (hl : l.length ≤ 17592186044416) (hd0 : 0 < d) (hd : d ≤ 1048576) (hdo : d = 32 * o + h) (hk : h + k = 32) (hh : h < 32) (h0 : 0 < val l) :
    Calls Tryz.prog 85 #[.slice a la ca, .int .i64 (-(d : Int))] w fun e w' => ∃ v, e = .returned (.tuple #[v, .bool true]) ∧ Sees w' v (limbs (val l / 2 ^ d)) ∧ Below w.heap.size w w' := by
  have hlen1 := (limbs_prefix ha.ok).2
  have e1 : (d : Int) / 32 = (o : Int) := by omega
  have e2 : (d : Int) % 32 = (h : Int) := by omega
  have HDO := hid hdo
  clear hdo
  go_enter Tryz.func85, Tryz.ntmps85
  go_wp2_with fail
  refine (trim_sees _ _ _ _ _ ha).mono ?_
  rintro e w' ⟨⟨A, rfl, hA, -⟩, rfl⟩
  have HA := hid hA; clear hA ha
  have hpos := (limbs_last h0).1
  obtain ⟨p, hp⟩ : ∃ p, limbs (val l) = p := ⟨_, rfl⟩
  rw [hp] at HA hlen1 hpos
  simp only [hp]
  have hvp : val p = val l := by rw [← hp, val_limbs]
  have HP := hid hvp
  have hp1 : p.length ≤ 17592186044416 := by omega
  clear hlen1 hl hp hvp h0
  obtain ⟨b, o1, rfl, -⟩ := HA.out.at (by omega)
  obtain ⟨g, hg⟩ : ∃ g, g = min o p.length := ⟨_, rfl⟩
  have hgl : g ≤ p.length := by omega
  have e3 : min (o : Int) (p.length : Int) = (g : Int) := by omega
  have hv : val (p.drop g) / 2 ^ h = val l / 2 ^ d := by
    rw [HDO.out, ← pow_limb, ← Nat.div_div_eq_div_mul, ← HP.out]
    rcases Nat.lt_or_ge p.length o with h1 | h1
    · have e : g = p.length := by omega
      rw [e, List.drop_eq_nil_iff.2 (Nat.le_refl _)]
      rw [Nat.div_eq_of_lt (Nat.lt_of_lt_of_le (val_lt HA.out.ok) (Nat.pow_le_pow_right (by decide) (by omega)))]
      rfl
    · have e : g = o := by omega
      rw [e, val_drop_div HA.out.ok]
  clear hg
  by_cases hgp : g < p.length
  · have HV := hid hv
    have HCALL := hid (nat_shiftDown' (some ⟨b, o1 + g, none⟩) (p.length - g) (p.length - g) (p.drop g) h k w (HA.out.drop g hgl) hk (by simp; omega))
    clear hv
    go_wp2_with fail
    refine HCALL.out.mono ?_
    rintro e w3 ⟨t, rfl, ht1, ht2, ht3, hrow, hb⟩
    have hs := hrow.sees ht2 0 (p.length - g) (p.length - g) (by omega) (Nat.le_refl _) (by omega)
    rw [List.drop_zero, List.take_of_length_le (by omega)] at hs
    have HS := hid hs; have HB := hid hb
    have HT := hid ht3
    clear hs hb hrow ht1 ht2 ht3 HCALL
    go_wp2_with fail
    refine (trim_sees _ _ _ _ _ HS.out).mono ?_
    rintro e w4 ⟨⟨R, rfl, hR, -⟩, rfl⟩
    have HRR := hid hR; clear hR
    go_wp2
    go_ret2
    exact ⟨_, rfl, by have := HRR.out; rw [HT.out, HV.out] at this ⊢; exact this, HB.out⟩
  · obtain rfl : g = p.length := by omega
    rw [List.drop_eq_nil_iff.2 (Nat.le_refl _)] at hv
    have HV := hid hv
    have hnil : Sees w (.slice (some ⟨b, o1, none⟩) 0 0) [] := ⟨_, 0, rfl, Nat.le_refl _, by decide, Ok.nil, fun _ => rfl, fun h => absurd h (by simp)⟩
    have HCALL := hid (nat_shiftDown' (some ⟨b, o1, none⟩) 0 0 [] h k w hnil hk (by simp))
    clear hv hnil
    go_wp2_with fail
    refine HCALL.out.mono ?_
    rintro e w3 ⟨t, rfl, ht1, ht2, ht3, hrow, hb⟩
    have hs := hrow.sees ht2 0 (0) (0) (by omega) (Nat.le_refl _) (by omega)
    rw [List.drop_zero, List.take_of_length_le (by omega)] at hs
    have HS := hid hs; have HB := hid hb
    have HT := hid ht3
    clear hs hb hrow ht1 ht2 ht3 HCALL
    go_wp2_with fail
    refine (trim_sees _ _ _ _ _ HS.out).mono ?_
    rintro e w4 ⟨⟨R, rfl, hR, -⟩, rfl⟩
    have HRR := hid hR; clear hR
    go_wp2
    go_ret2
    exact ⟨_, rfl, by have := HRR.out; rw [HT.out, HV.out] at this ⊢; exact this, HB.out⟩
end Go.Proofs.YtjnbonellgpjnaaGreat

set_option linter.unusedVariables false
set_option linter.unusedSimpArgs false
namespace Go.Proofs.YtjnbonellgpjnaaGreat
open Go.RowKit

set_option maxRecDepth 100000 in
set_option maxHeartbeats 800000 in
theorem nat_shift_down0 (a : Option Addr) (la ca : Nat) (l : List Nat) (d o h k : Nat) (w : World) (ha : Sees w (.slice a la ca) l) (hd0 : 0 < d) (hd : d ≤ 1048576) (hdo : d = 32 * o + h) (hk : h + k = 32) (hh : h < 32) (h0 : val l = 0) :
    Calls Tryz.prog 85 #[.slice a la ca, .int .i64 (-(d : Int))] w fun e w' => ∃ v, e = .returned (.tuple #[v, .bool true]) ∧ Sees w' v (limbs (val l / 2 ^ d)) ∧ Below w.heap.size w w' := by
  have e1 : (d : Int) / 32 = (o : Int) := by omega
  have e2 : (d : Int) % 32 = (h : Int) := by omega
  have e3 : min (o : Int) 0 = 0 := by omega
  have HCALL := hid (nat_shiftDown' none 0 0 [] h k w (Sees.nil w) hk (by simp))
  have H0 := hid h0
  have hcut := trim_any _ _ _ _ _ ha
  rw [h0, limbs_zero] at hcut
  simp only [cut, List.length_nil, if_true] at hcut
  have HCUT := hid hcut
  clear h0 hdo ha hcut
  go_enter Tryz.func85, Tryz.ntmps85
  go_wp2_with fail
  refine HCUT.out.mono ?_
  rintro e w' ⟨rfl, rfl⟩
  go_wp2_with fail
  refine HCALL.out.mono ?_
  rintro e w3 ⟨t, rfl, ht1, ht2, ht3, hrow, hb⟩
  obtain rfl : t = [] := List.eq_nil_of_length_eq_zero ht1
  have hs := hrow.sees ht2 0 0 0 (by simp) (Nat.le_refl _) (by omega)
  simp only [List.drop_nil, List.take_nil] at hs
  have HS := hid hs; have HB := hid hb
  clear hs hb hrow ht1 ht2 ht3 HCALL
  go_wp2_with fail
  refine (trim_sees _ _ _ _ _ HS.out).mono ?_
  rintro e w4 ⟨⟨R, rfl, hR, -⟩, rfl⟩
  have HRR := hid hR; clear hR
  go_wp2
  go_ret2
  exact ⟨_, rfl, by rw [H0.out, Nat.zero_div]; exact HRR.out, HB.out⟩

/-- A number shifted by n places: up if n is not negative. -/
def shiftZ (V : Nat) (n : Int) : Nat := if 0 ≤ n then V * 2 ^ n.toNat else V / 2 ^ (-n).toNat

theorem nat_shift_ok {a : Value} {l : List Nat} (n : Int) {w : World} (ha : Sees w a l) (hl : l.length ≤ 17592186044416) (h1 : -1048576 ≤ n) (h2 : n ≤ 1048576) :
    Calls Tryz.prog 85 #[a, .int .i64 n] w fun e w' => ∃ v, e = .returned (.tuple #[v, .bool true]) ∧ Sees w' v (limbs (shiftZ (val l) n)) ∧ Below w.heap.size w w' := by
  have hA := ha
  obtain ⟨A, ca, rfl, -, -, -, -, -⟩ := ha
  by_cases h0 : 0 ≤ n
  · obtain ⟨m, rfl⟩ := Int.eq_ofNat_of_zero_le h0
    have e : shiftZ (val l) (m : Int) = val l * 2 ^ m := by unfold shiftZ; rw [if_pos h0, Int.toNat_natCast]
    rw [e]
    exact nat_shift_up _ _ _ _ m (m / 32) (m % 32) (32 - m % 32) _ hA hl (by omega) (by omega) (by omega) (by omega)
  · obtain ⟨d, hd⟩ := Int.eq_ofNat_of_zero_le (a := -n) (by omega)
    obtain rfl : n = -(d : Int) := by omega
    have e : shiftZ (val l) (-(d : Int)) = val l / 2 ^ d := by unfold shiftZ; rw [if_neg h0, Int.neg_neg, Int.toNat_natCast]
    rw [e]
    rcases Nat.eq_zero_or_pos (val l) with hv | hv
    · exact nat_shift_down0 _ _ _ _ d (d / 32) (d % 32) (32 - d % 32) _ hA (by omega) (by omega) (by omega) (by omega) (by omega) hv
    · exact nat_shift_down1 _ _ _ _ d (d / 32) (d % 32) (32 - d % 32) _ hA hl (by omega) (by omega) (by omega) (by omega) (by omega) hv
end Go.Proofs.YtjnbonellgpjnaaGreat

set_option linter.unusedVariables false
set_option linter.unusedSimpArgs false
namespace Go.Proofs.YtjnbonellgpjnaaGreat

theorem lt_bitsN (x : Nat) : x < 2 ^ bitsN x := by
  unfold bitsN
  by_cases h : x = 0
  · rw [if_pos h, h]; decide
  · rw [if_neg h]; exact Nat.lt_log2_self
theorem shiftZ_lt (V k : Nat) (n : Int) (h : (bitsN V : Int) + n ≤ k) : shiftZ V n < 2 ^ k := by
  have hV := lt_bitsN V
  unfold shiftZ
  by_cases h0 : 0 ≤ n
  · rw [if_pos h0]
    obtain ⟨m, rfl⟩ := Int.eq_ofNat_of_zero_le h0
    rw [Int.toNat_natCast]
    refine Nat.lt_of_lt_of_le ((Nat.mul_lt_mul_right (Nat.two_pow_pos m)).2 hV) ?_
    rw [← Nat.pow_add]
    exact Nat.pow_le_pow_right (by decide) (by omega)
  · rw [if_neg h0]
    obtain ⟨d, hd⟩ := Int.eq_ofNat_of_zero_le (a := -n) (by omega)
    rw [hd, Int.toNat_natCast]
    apply Nat.div_lt_of_lt_mul
    rw [← Nat.pow_add]
    exact Nat.lt_of_lt_of_le hV (Nat.pow_le_pow_right (by decide) (by omega))
theorem shiftZ_bit (V k j : Nat) (n : Int) (h : (k : Int) - n = (j : Int)) : shiftZ V n / 2 ^ k % 2 = V / 2 ^ j % 2 := by
  unfold shiftZ
  by_cases h0 : 0 ≤ n
  · rw [if_pos h0]
    obtain ⟨m, rfl⟩ := Int.eq_ofNat_of_zero_le h0
    rw [Int.toNat_natCast, show k = j + m by omega, Nat.pow_add, Nat.mul_div_mul_right _ _ (Nat.two_pow_pos m)]
  · rw [if_neg h0]
    obtain ⟨d, hd⟩ := Int.eq_ofNat_of_zero_le (a := -n) (by omega)
    rw [hd, Int.toNat_natCast, Nat.div_div_eq_div_mul, ← Nat.pow_add, show d + k = j by omega]
theorem shiftZ_bit0 (V k : Nat) (n : Int) (h : (k : Int) < n) : shiftZ V n / 2 ^ k % 2 = 0 := by
  unfold shiftZ
  rw [if_pos (by omega)]
  obtain ⟨m, rfl⟩ := Int.eq_ofNat_of_zero_le (a := n) (by omega)
  rw [Int.toNat_natCast, show m = (m - k - 1) + 1 + k by omega, Nat.pow_add, ← Nat.mul_assoc, Nat.mul_div_cancel _ (Nat.two_pow_pos k), Nat.pow_succ, ← Nat.mul_assoc]
  omega

/-- What the reference's shift has told behind k binary digits. -/
structure BitsTo (X k c : Nat) (t : List Nat) : Prop where
  ok : Ok t
  len : t.length = c
  sum : val t = X % 2 ^ k
theorem BitsTo.start (X : Nat) : BitsTo X 0 0 [] := ⟨Ok.nil, rfl, by rw [val_nil, Nat.pow_zero, Nat.mod_one]⟩
theorem BitsTo.more {X k c : Nat} {t : List Nat} (h : BitsTo X k c t) : BitsTo X k (c + 1) (t ++ [0]) :=
  ⟨h.ok.append (Ok.cons (by decide) Ok.nil), by rw [List.length_append, h.len]; rfl, by rw [val_append, h.sum, val_cons, val_nil]; simp⟩
theorem BitsTo.zero {X k c : Nat} {t : List Nat} (h : BitsTo X k c t) (hb : X / 2 ^ k % 2 = 0) : BitsTo X (k + 1) c t :=
  ⟨h.ok, h.len, by rw [h.sum, Nat.mod_pow_succ, hb, Nat.mul_zero, Nat.add_zero]⟩
theorem BitsTo.digit {X k q s c : Nat} {t : List Nat} (h : BitsTo X k c t) (hq : q < c) (hk : k = 32 * q + s) : t.getD q 0 < 2 ^ s := by
  have hv : val t < 2 ^ k := by rw [h.sum]; exact Nat.mod_lt _ (Nat.two_pow_pos k)
  rw [hk, ← pow_limb] at hv
  have hd := val_drop t q (by rw [h.len]; exact hq)
  have h1 : val (t.drop q) < 2 ^ s := by
    rw [val_drop_div h.ok]
    exact Nat.div_lt_of_lt_mul hv
  omega
theorem BitsTo.step {X k q s c b x : Nat} {t : List Nat} (h : BitsTo X k c t) (hq : q < c) (hk : k = 32 * q + s) (hc : c = q + 1) (hs : s < 32) (hb : X / 2 ^ k % 2 = b) (hx : x = t.getD q 0 + b * 2 ^ s) : BitsTo X (k + 1) c (t.set q x) := by
  have hdig := h.digit hq hk
  have hb1 : b ≤ 1 := by omega
  have hbs : b * 2 ^ s ≤ 1 * 2 ^ s := Nat.mul_le_mul_right _ hb1
  have hp : 2 ^ s * 2 ≤ 4294967296 := by
    rw [← Nat.pow_succ]
    exact (Nat.pow_le_pow_right (by decide) (by omega) : 2 ^ (s + 1) ≤ 2 ^ 32)
  refine ⟨h.ok.set _ _ (by omega), by rw [List.length_set]; exact h.len, ?_⟩
  rw [Nat.mod_pow_succ, hb, ← h.sum]
  have hz : ∀ j, q + 1 ≤ j → t.getD j 0 = 0 := fun j hj => by
    rw [List.getD_eq_getElem?_getD, List.getElem?_eq_none (by rw [h.len]; omega)]; rfl
  have hz' : ∀ j, q + 1 ≤ j → (t.set q x).getD j 0 = 0 := fun j hj => by rw [getD_set_ne _ _ _ _ (by omega)]; exact hz j hj
  rw [val_of_zeros hz', val_of_zeros hz]
  simp only [valF]
  rw [getD_set_eq _ _ _ (by rw [h.len]; exact hq), valF_congr _ (fun i => t.getD i 0) q (fun j hj => getD_set_ne _ _ _ _ (by omega)), hx, Nat.mul_add, hk, ← pow_limb]
  rw [Nat.mul_comm b, Nat.mul_assoc]
  omega
end Go.Proofs.YtjnbonellgpjnaaGreat
