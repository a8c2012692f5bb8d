/- The document's Of and Small by their contracts. whole.Small by its contract; the document's Small, Make, Of. The document's Of. strings.CutPrefix at a minus sign. whole.Parse by its contract; the document's. A whole number's text, read: the numbers. whole.Neg; the document's Plain, Neg. -/
import Derived.Test.YtjnbonellgpjnaaGreatKC
import Derived.Test.YtjnbonellgpjnaaGreatKD
import Derived.Test.YtjnbonellgpjnaaGreatKF
import Derived.Test.YtjnbonellgpjnaaGreatKE
set_option linter.unusedVariables false
set_option linter.unusedSimpArgs false
namespace Go.Proofs.YtjnbonellgpjnaaGreat
open Go.RowKit

set_option maxRecDepth 100000 in
set_option maxHeartbeats 2000000 in
theorem ref_of (n : Int) (h1 : -9223372036854775808 ≤ n) (h2 : n < 9223372036854775808) (w : World) :
    Calls Tryz.prog 51 #[.int .i64 n] w fun e w' => IsNum w n.toNat e w' := by
  have hlim : (limbs n.toNat).length ≤ 2 := limbs_length_le (by show n.toNat < 18446744073709551616; omega)
  obtain ⟨i0, hi, hz0, hz1, hz2⟩ := info_parts info_u32
  go_enter Tryz.func51, Tryz.ntmps51
  go_wp2
  go_loopg [0, 3] n.toNat (fun g v0 v3 wr => ∃ (x : Int) (t : List Nat) (k : Nat), v0 = .int .i64 x ∧ -9223372036854775808 ≤ x ∧ x < 9223372036854775808 ∧ g = x.toNat ∧ Hid (limbs n.toNat = t ++ limbs g) ∧ Hid (Ok t) ∧ k ≤ 2 ∧ Hid (t.length = k) ∧ Hid (wr.ownsRow w.heap.size 98 1 v3 k (enc t)) ∧ Hid (Below w.heap.size w wr))
  case atStart => exact ⟨n, [], 0, rfl, h1, h2, rfl, rfl, Ok.nil, by omega, rfl, World.ownsRow_nil _ _ _ _, Below.refl _ _⟩
  case round =>
    obtain ⟨x, t, k, rfl, hx1, hx2, hg, heq, hok, hk2, hkl, hown, hbel⟩ := hrel
    by_cases hx0 : 0 < x
    · obtain ⟨m, rfl⟩ := Int.eq_ofNat_of_zero_le (Int.le_of_lt hx0)
      have hgm : gk = m := by omega
      subst hgm
      obtain ⟨s, d, hs, hd, hmd, em, ed⟩ : ∃ s d : Nat, s < 4294967296 ∧ d < 2147483648 ∧ Hid (gk % 4294967296 = s ∧ gk / 4294967296 = d) ∧ (gk : Int) % 4294967296 = (s : Int) ∧ (gk : Int) / 4294967296 = (d : Int) :=
        ⟨gk % 4294967296, gk / 4294967296, by omega, by omega, ⟨rfl, rfl⟩, by omega, by omega⟩
      have hdm : d < gk := by have := hmd.out.2; omega
      have hl := heq.out
      rw [limbs_pos (n := gk) (by omega), hmd.out.1, hmd.out.2] at hl
      have hlen := congrArg List.length hl
      simp only [List.length_append, List.length_cons] at hlen
      have hstep : limbs n.toNat = (t ++ [s]) ++ limbs d := by rw [hl]; simp
      have HST := hid hstep
      have HOK := hid (hok.out.append (Ok.cons hs Ok.nil))
      have htl : k ≤ 1 := by have := hkl.out; omega
      have hnews : ∀ j u, (enc [s])[j]? = some u → (wr.alloc (.cells #[.int .u32 (s : Nat)] 98)).cell? ((⟨wr.heap.size, 0, none⟩ : Addr).add j) = some u :=
        (sees_lit wr [s] (Ok.cons hs Ok.nil) (by simp)).news
      have HN := hid hnews; have HW := hid hown.out.lt
      clear hnews hstep hlen hl hmd heq hlim hg hx1 hdm h1 h2
      have hgb : gk < 9223372036854775808 := by omega
      clear hx2
      go_wp2_with (at_builtin; refine wpList_append_own _ rfl _ _ 22 rfl w.heap.size 98 i0 (.int .u32 0) 1 4 Tryz.underlying22 hi hz0 hz1 hz2 rfl (by decide) _ _ _ rfl (hown.out.alloc _) ⟨wr.heap.size, 0, none⟩ 1 1 (enc [s]) rfl ?ga1 ?gb1 ?gc1 ?gd1 ?ge1 ?gf1 ?_)
      case ga1 => simp [enc_length]
      case gb1 => exact HN.out
      case gc1 => exact enc_one _
      case gd1 => unfold maxLen; omega
      case ge1 => omega
      case gf1 => have := hbel.out.size; simp; omega
      intro v' w4 hown4 hgrow _
      rw [enc_append] at hown4
      have hb4 : Below w.heap.size w w4 := (hbel.out.alloc hbel.out.size _).grown hgrow (by rw [Deep.nblk_alloc]; have := hbel.out.size; omega) (fun k e => (HW.out k e).1)
      have hln : (t ++ [s]).length = k + 1 := by simp [hkl.out]
      have HLN := hid hln
      have HO := hid hown4; have HB4 := hid hb4
      clear hown4 hgrow hb4 hln
      go_wp2
      go_roundg d
      case rel => exact ⟨(d : Int), t ++ [s], k + 1, by first | rfl | rw [ed], by omega, by omega, by omega, HST, HOK, by omega, HLN, HO, HB4⟩
      case measure => omega
    · have hg0 : gk = 0 := by omega
      subst hg0
      have he := heq.out
      rw [limbs_zero, List.append_nil] at he
      have htl : t.length ≤ 2 := by rw [← he]; exact hlim
      have hsee := owns_sees hown.out hok.out (by omega)
      rw [← he] at hsee
      have HS := hid hsee
      clear hsee he heq hown htl hg
      go_wp2
      go_ret
      exact ⟨_, rfl, HS.out, hbel.out⟩

theorem ref_small_no {a : Value} {l : List Nat} {w : World} (ha : Sees w a l) (hl : l.length ≤ 35184372088000) (h : ¬ val l < 9223372036854775808) :
    Calls Tryz.prog 69 #[a] w fun e w' => e = .returned (.tuple #[.int .i64 0, .bool false]) ∧ Below w.heap.size w w' := by
  have hb : 63 < bitsN (val l) := by have := @bits_small (val l); omega
  have HB := hid (ref_bits _ _ _ ha (by omega))
  clear h ha
  generalize bitsN (val l) = n at *
  go_enter Tryz.func69, Tryz.ntmps69
  go_wp2_with fail
  refine HB.out.mono ?_
  rintro e w' ⟨rfl, hbel⟩
  have HBE := hid hbel
  clear hbel HB
  go_wp2
  go_ret2
  exact ⟨rfl, HBE.out⟩

theorem drop_le (p : List Nat) (k : Nat) : val (p.drop k) ≤ val p := by
  rcases Nat.lt_or_ge p.length k with h | h
  · rw [List.drop_eq_nil_iff.2 (by omega)]; exact Nat.zero_le _
  · rw [val_split p k h]
    have : 1 * val (p.drop k) ≤ 4294967296 ^ k * val (p.drop k) := Nat.mul_le_mul_right _ (Nat.one_le_pow _ _ (by decide))
    omega

set_option maxRecDepth 100000 in
set_option maxHeartbeats 2000000 in
theorem ref_small_ok {a : Value} {l : List Nat} {w : World} (ha : Sees w a l) (hl : l.length ≤ 35184372088000) (h : val l < 9223372036854775808) :
    Calls Tryz.prog 69 #[a] w fun e w' => e = .returned (.tuple #[.int .i64 (val l : Nat), .bool true]) ∧ Below w.heap.size w w' := by
  have hb : bitsN (val l) ≤ 63 := by have := @bits_small (val l); omega
  have hlen : (limbs (val l)).length ≤ 35184372088832 := by have := (limbs_prefix ha.ok).2; omega
  have HA := hid ha
  have HB := hid (ref_bits _ _ _ ha (by omega))
  clear ha
  generalize bitsN (val l) = n at *
  go_enter Tryz.func69, Tryz.ntmps69
  go_wp2_with fail
  refine HB.out.mono ?_
  rintro e w1 ⟨rfl, hbel⟩
  have HBE := hid hbel
  replace HA := hid (HA.out.below hbel)
  clear hbel HB
  go_wp2_with fail
  refine (ref_plain _ _ _ HA.out (by omega)).mono ?_
  intro e w2 hp
  obtain ⟨v', rfl, hs, hbel⟩ := hp.sees (by omega)
  have HB2 := hid (HBE.out.trans (hbel.mono HBE.out.size))
  obtain ⟨p, hpe⟩ : ∃ p, p = limbs (val l) := ⟨_, rfl⟩
  rw [← hpe] at hs hlen
  have hv : val p = val l := by rw [hpe, val_limbs]
  have HV := hid hv
  rw [← hv] at h
  have HS := hid hs
  obtain ⟨A, c, rfl, -, -, -, -, -⟩ := hs
  clear hp hpe hbel HA hv
  go_wp2
  go_loopw [4, 5] (fun v4 v5 wr => ∃ (k : Nat), k ≤ p.length ∧ v5 = .int .i64 ((k : Int) - 1) ∧ v4 = .int .i64 (val (p.drop k) : Nat) ∧ Hid (Sees wr (.slice A p.length c) p) ∧ Hid (Below w.heap.size w wr)) (fun _ v5 _ => (intOf v5 + 1).toNat)
  case atStart => exact ⟨p.length, Nat.le_refl _, rfl, by rw [List.drop_eq_nil_iff.2 (Nat.le_refl _)]; rfl, HS, HB2⟩
  case round =>
    obtain ⟨k0, hk, rfl, rfl, hsee, hbl⟩ := hrel
    by_cases hk0 : 0 < k0
    · obtain ⟨k, rfl⟩ : ∃ k, k0 = k + 1 := ⟨k0 - 1, by omega⟩
      have ek : (((k + 1 : Nat)) : Int) - 1 = (k : Int) := by omega
      rw [ek]
      obtain ⟨b, o, rfl, hcell⟩ := hsee.out.at (by omega)
      have hc := hcell k (by omega)
      have hd := val_drop p k (by omega)
      have hle := drop_le p k
      rw [hd] at hle
      have hok := hsee.out.ok.getD k
      clear hcell ek
      generalize p.getD k 0 = x at *
      generalize val (p.drop (k + 1)) = N at *
      have e1 : IntKind.i64.wrap ((N : Int) * 4294967296) = (N : Int) * 4294967296 := by rw [IntKind.wrap_i64]; omega
      have e2 : IntKind.i64.wrap ((N : Int) * 4294967296 + (x : Int)) = (N : Int) * 4294967296 + x := by rw [IntKind.wrap_i64]; omega
      have HD := hid hd
      clear hd
      go_wp2
      go_roundw
      case rel => exact ⟨k, by omega, rfl, by rw [HD.out]; apply congrArg; omega, hsee, hbl⟩
      case measure => simp [intOf]
    · obtain rfl : k0 = 0 := by omega
      rw [List.drop_zero]
      go_wp2
      go_ret2
      exact ⟨by rw [HV.out]; rfl, hbl.out⟩
end Go.Proofs.YtjnbonellgpjnaaGreat

set_option linter.unusedVariables false
set_option linter.unusedSimpArgs false
namespace Go.Proofs.YtjnbonellgpjnaaGreat
open Go.RowKit

/-- What Small tells of a whole number. -/
def smallI (n : Bool) (l : List Nat) : Int := if val l < 9223372036854775808 then zval n l else 0
def smallB (l : List Nat) : Bool := decide (val l < 9223372036854775808)

set_option maxRecDepth 100000 in
set_option maxHeartbeats 1000000 in
theorem ref_make (neg : Bool) {m : Value} {l : List Nat} {w : World} (h : Sees w m l) (hl : l.length ≤ 35184372088832) (z : Int) (hz : z = if neg then -(val l : Int) else (val l : Int)) :
    Calls Tryz.prog 76 #[.bool neg, m] w fun e w' => IsInt w z e w' := by
  have HB := hid (box_below (w := w) false (.slice none 0 0))
  have HX := hid (Box.new w (.bool false) (.slice none 0 0) 24)
  have HZ := hid hz
  have hlen := (limbs_prefix h.ok).2
  have HC := hid (ref_plain m l _ (h.below HB.out) hl)
  have hpos : (0 < (limbs (val l)).length) ↔ val l ≠ 0 := by
    constructor
    · intro h1 h2; rw [h2, limbs_zero] at h1; simp at h1
    · intro h1; exact (limbs_last (by omega)).1
  have HP := hid hpos
  have hlb : (limbs (val l)).length ≤ 70368744177664 := by omega
  clear hz hpos h
  go_enter Tryz.func76, Tryz.ntmps76
  go_wp2_with fail
  refine HC.out.mono ?_
  intro e w1 hp
  obtain ⟨v1, rfl, hs1, hb1⟩ := hp.sees hlb
  have HB1 := hid (step_below HB.out hb1)
  have HX1 := hid (HX.out.below hb1)
  have HS1 := hid hs1
  obtain ⟨ao, cap, rfl, -, -, -, -, -⟩ := id hs1
  have hz1 := isZ_of hs1 neg z HZ.out
  have hdn : decide (val l ≠ 0) = decide (0 < (limbs (val l)).length) := by
    have := HP.out
    by_cases h : val l = 0
    · simp [h, limbs_zero]
    · have h1 := this.2 h; simp [h, h1]
  rw [hdn] at hz1
  have HZ1 := hid hz1
  obtain ⟨c0, c1, f0, f1⟩ := HX1.out.cells
  have hlt := HX1.out.lt
  clear hp hb1 hs1 hz1 hdn HC HB HX HZ HP hlen hl
  generalize limbs (val l) = p at *
  cases neg
  · obtain ⟨g1, g2, g3⟩ := store_end HB1.out (Nat.le_refl _) HX1.out (show IsZ w1 (.agg #[.bool false, .slice ao p.length cap]) z from HZ1.out)
    have HG1 := hid g1
    clear g1
    go_wp2
    exact bodyPost_ret (v := .agg #[.bool false, .slice ao p.length cap]) (by simp [results, Tryz.results76, go_sem, g2, g3]) rfl HG1.out
  · obtain ⟨b, hb⟩ : ∃ b, decide (0 < p.length) = b := ⟨_, rfl⟩
    have hb' : decide ((0 : Int) < (p.length : Int)) = b := by rw [← hb]; congr 1; simp
    obtain ⟨g1, g2, g3⟩ := store_end HB1.out (Nat.le_refl _) HX1.out (show IsZ w1 (.agg #[.bool b, .slice ao p.length cap]) z by have := HZ1.out; rw [hb] at this; exact this)
    have HG1 := hid g1
    cases b
    · have hp0 : ¬ 0 < p.length := by simpa using hb
      clear g1 hb hb'
      go_wp2
      exact bodyPost_ret (v := .agg #[.bool false, .slice ao p.length cap]) (by simp [results, Tryz.results76, go_sem, g2, g3]) rfl HG1.out
    · have hp0 : 0 < p.length := by simpa using hb
      clear g1 hb hb'
      go_wp2
      exact bodyPost_ret (v := .agg #[.bool true, .slice ao p.length cap]) (by simp [results, Tryz.results76, go_sem, g2, g3]) rfl HG1.out
end Go.Proofs.YtjnbonellgpjnaaGreat

set_option linter.unusedVariables false
set_option linter.unusedSimpArgs false
namespace Go.Proofs.YtjnbonellgpjnaaGreat
open Go.RowKit

theorem ref_addV {a b : Value} {l m : List Nat} {w : World} (ha : Sees w a l) (hb : Sees w b m) (hl : l.length ≤ 35184372088000) (hm : m.length ≤ 35184372088000) :
    Calls Tryz.prog 71 #[a, b] w fun e w' => ∃ v, e = .returned v ∧ Sees w' v (limbs (val l + val m)) ∧ Below w.heap.size w w' := by
  have hA := ha; have hB := hb
  obtain ⟨A, ca, rfl, -, -, -, -, -⟩ := ha
  obtain ⟨B, cb, rfl, -, -, -, -, -⟩ := hb
  exact ref_add _ _ _ _ _ _ _ hA hB hl hm

set_option maxRecDepth 100000 in
set_option maxHeartbeats 1000000 in
theorem ref_ofZ (n : Int) (h1 : -9223372036854775808 ≤ n) (h2 : n < 9223372036854775808) (w : World) :
    Calls Tryz.prog 53 #[.int .i64 n] w fun e w' => IsInt w n e w' := by
  have HB := hid (box_below (w := w) false (.slice none 0 0))
  have HX := hid (Box.new w (.bool false) (.slice none 0 0) 24)
  go_enter Tryz.func53, Tryz.ntmps53
  obtain ⟨w0, hw0⟩ : ∃ x, x = w.alloc (.cells #[.bool false, .slice none 0 0] 24) := ⟨_, rfl⟩
  rw [← hw0] at HB HX
  have HW := hid hw0.symm
  clear hw0
  rcases Int.lt_or_le n 0 with h | h
  · have hn1 : ¬ 0 ≤ n := by omega
    obtain ⟨k, hk⟩ : ∃ k : Nat, (k : Int) = -(n + 1) := ⟨(-(n + 1)).toNat, by omega⟩
    have e1 : IntKind.i64.wrap (n + 1) = n + 1 := by rw [IntKind.wrap_i64]; omega
    have e2 : IntKind.i64.wrap (-(n + 1)) = (k : Int) := by rw [IntKind.wrap_i64]; omega
    have hk64 : k < 9223372036854775808 := by omega
    have hz : n = if true = true then -((k + 1 : Nat) : Int) else ((k + 1 : Nat) : Int) := by simp; omega
    have HZ := hid hz
    have e3 : -(n + 1) = (k : Int) := hk.symm
    have HC1 := hid (fun w => ref_of (k : Int) (by omega) (by omega) w)
    have hkl : (limbs k).length ≤ 2 := limbs_length_le (by show k < 18446744073709551616; omega)
    have hkl1 : (limbs (k + 1)).length ≤ 2 := limbs_length_le (by show k + 1 < 18446744073709551616; omega)
    clear hk hz
    go_wp2_with fail
    rw [HW.out]
    refine (HC1.out _).mono ?_
    rw [Int.toNat_natCast]
    rintro e w1 ⟨v1, rfl, hs1, hb1⟩
    have HX1 := hid (HX.out.below hb1); have HB1 := hid (HB.out.trans (hb1.mono HB.out.size)); have HS1 := hid hs1
    clear hs1 hb1 HX HB HC1
    go_wp2_with fail
    refine (ref_of 1 (by omega) (by omega) _).mono ?_
    rintro e w2 ⟨v2, rfl, hs2, hb2⟩
    have HX2 := hid (HX1.out.below hb2); have HB2 := hid (HB1.out.trans (hb2.mono HB1.out.size)); have HS12 := hid (HS1.out.below hb2); have HS2 := hid hs2
    clear hs2 hb2 HX1 HB1 HS1
    go_wp2_with fail
    refine (ref_addV HS12.out HS2.out (by omega) (by decide)).mono ?_
    rw [val_limbs, val_limbs]
    rintro e w3 ⟨v3, rfl, hs3, hb3⟩
    have HX3 := hid (HX2.out.below hb3); have HB3 := hid (HB2.out.trans (hb3.mono HB2.out.size)); have HS3 : Hid (Sees w3 v3 (limbs (k + 1))) := hs3
    clear hs3 hb3 HX2 HB2 HS12 HS2
    go_wp2_with fail
    refine (ref_make true HS3.out (by omega) n (by rw [val_limbs]; exact HZ.out)).mono ?_
    rintro e w4 ⟨v4, rfl, hz4, hb4⟩
    have HX4 := hid (HX3.out.below hb4); have HB4 := hid (HB3.out.trans (hb4.mono HB3.out.size))
    obtain ⟨ao, cap, rfl⟩ := hz4.form
    obtain ⟨g1, g2, g3⟩ := store_end HB4.out (Nat.le_refl _) HX4.out hz4
    obtain ⟨c0, c1, f0, f1⟩ := HX4.out.cells
    have hlt := HX4.out.lt
    have HG1 := hid g1
    clear hb4 HX3 HB3 HS3 g1 hz4 HZ HW
    generalize zneg n = b at *
    generalize zlim n = l at *
    go_wp2
    exact bodyPost_ret (v := .agg #[.bool b, .slice ao l.length cap]) (by simp [results, Tryz.results53, go_sem, g2, g3]) rfl HG1.out
  · obtain ⟨k, rfl⟩ := Int.eq_ofNat_of_zero_le h
    have hz : (k : Int) = if false = true then -(k : Int) else (k : Int) := by simp
    have HZ := hid hz
    have HC1 := hid (fun w => ref_of (k : Int) (by omega) (by omega) w)
    have hkl : (limbs k).length ≤ 2 := limbs_length_le (by show k < 18446744073709551616; omega)
    clear hz
    go_wp2_with fail
    rw [HW.out]
    refine (HC1.out _).mono ?_
    rw [Int.toNat_natCast]
    rintro e w1 ⟨v1, rfl, hs1, hb1⟩
    have HX1 := hid (HX.out.below hb1); have HB1 := hid (HB.out.trans (hb1.mono HB.out.size)); have HS1 := hid hs1
    clear hs1 hb1 HX HB HC1
    go_wp2_with fail
    refine (ref_make false HS1.out (by omega) k (by rw [val_limbs]; exact HZ.out)).mono ?_
    rintro e w4 ⟨v4, rfl, hz4, hb4⟩
    have HX4 := hid (HX1.out.below hb4); have HB4 := hid (HB1.out.trans (hb4.mono HB1.out.size))
    obtain ⟨ao, cap, rfl⟩ := hz4.form
    obtain ⟨g1, g2, g3⟩ := store_end HB4.out (Nat.le_refl _) HX4.out hz4
    obtain ⟨c0, c1, f0, f1⟩ := HX4.out.cells
    have hlt := HX4.out.lt
    have HG1 := hid g1
    clear hb4 HX1 HB1 HS1 g1 hz4 HZ HW
    generalize zneg (k : Int) = b at *
    generalize zlim (k : Int) = l at *
    go_wp2
    exact bodyPost_ret (v := .agg #[.bool b, .slice ao l.length cap]) (by simp [results, Tryz.results53, go_sem, g2, g3]) rfl HG1.out
end Go.Proofs.YtjnbonellgpjnaaGreat

set_option linter.unusedVariables false
set_option linter.unusedSimpArgs false
namespace Go.Proofs.YtjnbonellgpjnaaGreat
open Go.RowKit

/-- A text begins with a minus sign; what follows that. -/
def minusB (s : ByteArray) : Bool := decide (0 < s.size ∧ let8 s 0 = 45)
def restS (s : ByteArray) : ByteArray := if minusB s then s.extract 1 s.size else s

theorem extract_one (s : ByteArray) (h : 1 ≤ s.size) : ((s.extract 0 1).toList == [45]) = minusB s := by
  have hd : (s.extract 0 1).toList = s.data.toList.take 1 := by
    rw [ByteArray.toList_eq, ByteArray.data_extract, Array.toList_extract]
    simp
  rw [hd]
  unfold minusB let8
  have hl : s.data.toList.length = s.size := by cases s; rfl
  generalize s.data.toList = l at *
  match l, hl with
  | [], hl => simp at hl; omega
  | c :: r, hl =>
    have h0 : 0 < s.size := by omega
    by_cases hc : c = 45
    · subst hc; simp [h0]
    · have : ¬ c.toNat = 45 := fun e => hc (UInt8.toNat_inj.1 (by simpa using e))
      simp [h0, this, hc]
theorem minus_short (s : ByteArray) (h : ¬ 1 ≤ s.size) : minusB s = false := by
  unfold minusB
  simp
  omega
theorem rest_size (s : ByteArray) : (restS s).size ≤ s.size := by
  unfold restS
  split
  · rw [ByteArray.size_extract]; omega
  · exact Nat.le_refl _

/-! ### Parse of layer 1, whatever the text -/
open Classical in
/-- The error that Parse of layer 1 tells; the limbs. -/
noncomputable def errT (t : ByteArray) : Nat := if Numeral t then (if 10000 < t.size then 2 else 0) else 10
noncomputable def lstT (t : ByteArray) : List Nat := if errT t = 0 then limbs (numP t t.size) else []
theorem errT_text {t : ByteArray} (h : ¬ Numeral t) : errT t = 10 ∧ lstT t = [] := by
  have h1 : errT t = 10 := by unfold errT; rw [if_neg h]
  exact ⟨h1, by unfold lstT; rw [h1]; rfl⟩
theorem errT_long {t : ByteArray} (h : Numeral t) (hl : 10000 < t.size) : errT t = 2 ∧ lstT t = [] := by
  have h1 : errT t = 2 := by unfold errT; rw [if_pos h, if_pos hl]
  exact ⟨h1, by unfold lstT; rw [h1]; rfl⟩
theorem errT_ok {t : ByteArray} (h : Numeral t) (hl : t.size ≤ 10000) : errT t = 0 ∧ lstT t = limbs (numP t t.size) := by
  have h1 : errT t = 0 := by unfold errT; rw [if_pos h, if_neg (by omega)]
  exact ⟨h1, by unfold lstT; rw [h1]; rfl⟩

theorem ref_parse_any (t : ByteArray) (w : World) (ht : t.size ≤ 140737488355328) :
    Calls Tryz.prog 52 #[.string t] w fun e w' => ∃ v, e = .returned (.tuple #[v, .int .i64 (errT t : Nat)]) ∧ Sees w' v (lstT t) ∧ Below w.heap.size w w' := by
  by_cases h : Numeral t
  · rcases Nat.lt_or_ge 10000 t.size with hl | hl
    · rw [(errT_long h hl).1, (errT_long h hl).2]
      refine (ref_parse_long t w ht h.1 h.2.1 ⟨h.2.2, hl⟩).mono ?_
      rintro e w' ⟨rfl, rfl⟩
      exact ⟨_, rfl, Sees.nil _, Below.refl _ _⟩
    · rw [(errT_ok h hl).1, (errT_ok h hl).2]
      refine (ref_parse_ok t w ht h.1 h.2.1 ⟨h.2.2, hl⟩).mono ?_
      rintro e w' ⟨v, rfl, hs, hb⟩
      exact ⟨_, rfl, hs, hb⟩
  · rw [(errT_text h).1, (errT_text h).2]
    have H : Calls Tryz.prog 52 #[.string t] w fun e w' => e = .returned (.tuple #[.slice none 0 0, .int .i64 10]) ∧ w = w' := by
      by_cases hf : t.size = 0 ∨ (0 < t.size ∧ let8 t 0 = 48 ∧ 1 < t.size)
      · exact ref_parse_first t w ht hf
      · have h0 : 0 < t.size := by omega
        have h1 : ¬ (let8 t 0 = 48 ∧ 1 < t.size) := fun e => hf (.inr ⟨h0, e⟩)
        exact ref_parse_bad t w ht h0 h1 (fun e => h ⟨h0, h1, e⟩)
    refine H.mono ?_
    rintro e w' ⟨rfl, rfl⟩
    exact ⟨_, rfl, Sees.nil _, Below.refl _ _⟩
end Go.Proofs.YtjnbonellgpjnaaGreat

set_option linter.unusedVariables false
set_option linter.unusedSimpArgs false
namespace Go.Proofs.YtjnbonellgpjnaaGreat
open Go.RowKit

/-- The error that Parse of layer 2 tells; the whole number. -/
noncomputable def errZ (s : ByteArray) : Nat := if errT (restS s) ≠ 0 then errT (restS s) else if minusB s = true ∧ val (lstT (restS s)) = 0 then 10 else 0
noncomputable def valZ (s : ByteArray) : Int := if errZ s = 0 then (if minusB s = true then -(val (lstT (restS s)) : Int) else (val (lstT (restS s)) : Int)) else 0
theorem lstT_plain (t : ByteArray) : lstT t = limbs (val (lstT t)) := by
  unfold lstT
  split
  · rw [val_limbs]
  · rfl
theorem lstT_len (t : ByteArray) : (lstT t).length ≤ 10000 := by
  unfold lstT
  split
  · next h =>
    have hN : Numeral t ∧ t.size ≤ 10000 := by
      by_cases hn : Numeral t
      · refine ⟨hn, ?_⟩
        rcases Nat.lt_or_ge 10000 t.size with h1 | h1
        · rw [(errT_long hn h1).1] at h; cases h
        · exact h1
      · rw [(errT_text hn).1] at h; cases h
    have h1 := numP_lt t t.size hN.1.2.2
    have h2 : numP t t.size < 4294967296 ^ t.size := Nat.lt_of_lt_of_le h1 (Nat.pow_le_pow_left (by decide) _)
    have := limbs_length_le h2
    omega
  · simp
theorem errT_cases (t : ByteArray) : errT t = 0 ∨ errT t = 2 ∨ errT t = 10 := by
  by_cases h : Numeral t
  · rcases Nat.lt_or_ge 10000 t.size with hl | hl
    · exact .inr (.inl (errT_long h hl).1)
    · exact .inl (errT_ok h hl).1
  · exact .inr (.inr (errT_text h).1)
theorem zero_isZ (w : World) : IsZ w (.agg #[.bool false, .slice none 0 0]) 0 := ⟨_, rfl, Sees.nil w⟩

/-- What Parse of layer 2 tells. -/
def ParseIs (w : World) (s : ByteArray) (e : Ending) (w' : World) : Prop := ∃ v, e = .returned (.tuple #[v, .int .i64 (errZ s : Nat)]) ∧ IsZ w' v (valZ s) ∧ Below w.heap.size w w'

set_option maxRecDepth 100000 in
set_option maxHeartbeats 2000000 in
theorem ref_parseZ (s : ByteArray) (w : World) (hs : s.size ≤ 140737488355328) :
    Calls Tryz.prog 50 #[.string s] w fun e w' => ParseIs w s e w' := by
  have HB := hid (box_below (w := w) false (.slice none 0 0))
  have HX := hid (Box.new w (.bool false) (.slice none 0 0) 24)
  have hrs := rest_size s
  have hpl := lstT_plain (restS s)
  have hll := lstT_len (restS s)
  have hE : errZ s = if errT (restS s) ≠ 0 then errT (restS s) else if minusB s = true ∧ val (lstT (restS s)) = 0 then 10 else 0 := rfl
  have hV : valZ s = if errZ s = 0 then (if minusB s = true then -(val (lstT (restS s)) : Int) else (val (lstT (restS s)) : Int)) else 0 := rfl
  go_enter Tryz.func50, Tryz.ntmps50
  obtain ⟨w0, hw0⟩ : ∃ x, x = w.alloc (.cells #[.bool false, .slice none 0 0] 24) := ⟨_, rfl⟩
  rw [← hw0] at HB HX
  have HW := hid hw0.symm
  have hprs := fun w => ref_parse_any (restS s) w (by omega)
  have herr := errT_cases (restS s)
  obtain ⟨E, hEe⟩ : ∃ E, errT (restS s) = E := ⟨_, rfl⟩
  obtain ⟨L, hLe⟩ : ∃ L, lstT (restS s) = L := ⟨_, rfl⟩
  obtain ⟨b, hb⟩ : ∃ b, minusB s = b := ⟨_, rfl⟩
  simp only [hEe, hLe, hb] at hE hV hprs hpl hll herr
  have HPRS := hid hprs; have HE := hid hE; have HV := hid hV; have HPL := hid hpl; have HBB := hid hb
  have hs0 := HB.out.size
  clear hw0 hprs hE hV hpl hEe hLe hb
  have hmb : decide (0 < s.size ∧ let8 s 0 = 45) = b := HBB.out
  have hrst : restS s = if b = true then s.extract 1 s.size else s := by rw [← HBB.out]; rfl
  have hlist := size_list s
  by_cases hz : 0 < s.size
  · have hE2 : s.toList.isEmpty = false := by
      rw [List.isEmpty_eq_false_iff]
      intro e
      rw [e] at hlist
      simp at hlist
      omega
    have hx0 := let8_at s 0 hz
    obtain ⟨x0, hx0e⟩ : ∃ x0, let8 s 0 = x0 := ⟨_, rfl⟩
    rw [hx0e] at hx0 hmb
    clear hx0e hlist
    by_cases hm : x0 = 45
    · have hb : b = true := by rw [← hmb]; simp [hz, hm]
      have HBT := hid hb
      rw [if_pos hb] at hrst
      rw [hrst] at HPRS
      clear hmb hrst hb
      subst hm
      go_wp2_with fail
      rw [HW.out]
      refine (HPRS.out _).mono ?_
      rintro e w1 ⟨v1, rfl, hs1, hb1⟩
      have HB1 := hid (step_below HB.out hb1)
      have HX1 := hid (HX.out.below hb1)
      rw [HPL.out] at hs1
      have HS1 := hid hs1
      obtain ⟨ao, cap, rfl, -, -, -, -, -⟩ := id hs1
      obtain ⟨c0, c1, f0, f1⟩ := HX1.out.cells
      have hlt := HX1.out.lt
      clear hb1 hs1 HPRS HB HX HW
      have hsz : w.heap.size ≤ w1.heap.size := by omega
      rcases herr with h | h | h
      · subst h
        have he := HE.out
        rw [if_neg (by decide)] at he
        have hbv := HBT.out
        subst hbv
        · by_cases h0 : val L = 0
          · rw [if_pos ⟨rfl, h0⟩] at he
            have hv := HV.out
            rw [he, if_neg (by decide)] at hv
            have HEE := hid he; have HVV := hid hv
            have hl0 : (limbs (val L)).length = 0 := by rw [h0, limbs_zero]; rfl
            generalize (limbs (val L)).length = len at *
            subst hl0
            clear he hv HE HV h0
            have hst := HX1.out.set (.bool false) (.slice none 0 0)
            have HB2 := hid (below_box HB1.out (Nat.le_refl _) hsz (.bool false) (.slice none 0 0))
            have HZ := hid (zero_isZ ((w1.setCell ⟨w.heap.size, 0, none⟩ (.bool false)).setCell ⟨w.heap.size, 1, none⟩ (.slice none 0 0)))
            obtain ⟨y0, y1, -, -⟩ := hst.cells
            clear hst
            go_wp2
            exact bodyPost_ret (v := .tuple #[.agg #[.bool false, .slice none 0 0], .int .i64 (10)]) (by simp [results, Tryz.results50, go_sem, y0, y1]) rfl ⟨_, by rw [HEE.out]; rfl, by rw [HVV.out]; exact HZ.out, HB2.out⟩
          · rw [if_neg (fun e => h0 e.2)] at he
            have hv := HV.out
            rw [he, if_pos rfl, if_pos rfl] at hv
            have HEE := hid he; have HVV := hid hv
            have hl0 : 0 < (limbs (val L)).length := (limbs_last (by omega)).1
            generalize (limbs (val L)).length = len at *
            clear he hv HE HV h0
            go_wp2_with fail
            refine (ref_make true HS1.out (by have h9 := hll; rw [HPL.out] at h9; omega) (valZ s) (by rw [val_limbs]; rw [HVV.out]; rfl)).mono ?_
            rintro e w2 ⟨v2, rfl, hz2, hb2⟩
            have HB2 := hid (step_below HB1.out hb2)
            have HX2 := hid (HX1.out.below hb2)
            obtain ⟨bo, dap, rfl⟩ := hz2.form
            obtain ⟨g1, y0, y1⟩ := store_end HB2.out (Nat.le_refl _) HX2.out hz2
            obtain ⟨d0, d1, k0, k1⟩ := HX2.out.cells
            have hlt2 := HX2.out.lt
            have HG1 := hid g1
            clear hb2 g1 hz2 c0 c1 f0 f1 hlt HX1 HB1
            generalize hn : zneg (valZ s) = nb at *
            generalize hlz : zlim (valZ s) = lz at *
            have HN := hid hn; have HLZ := hid hlz
            clear hn hlz
            go_wp2
            refine bodyPost_ret (v := .tuple #[.agg #[.bool nb, .slice bo lz.length dap], .int .i64 0]) (by simp [results, Tryz.results50, go_sem, y0, y1]) rfl ?_
            obtain ⟨v3, he3, hz3, hb3⟩ := HG1.out
            obtain rfl := Ending.returned.inj he3
            exact ⟨_, by rw [HEE.out]; rfl, hz3, hb3⟩
      · subst h
        have he := HE.out
        rw [if_pos (by decide)] at he
        have hv := HV.out
        rw [he, if_neg (by decide)] at hv
        have HEE := hid he; have HVV := hid hv
        clear he hv HE HV
        have hst := HX1.out.set (.bool false) (.slice none 0 0)
        have HB2 := hid (below_box HB1.out (Nat.le_refl _) hsz (.bool false) (.slice none 0 0))
        have HZ := hid (zero_isZ ((w1.setCell ⟨w.heap.size, 0, none⟩ (.bool false)).setCell ⟨w.heap.size, 1, none⟩ (.slice none 0 0)))
        obtain ⟨y0, y1, -, -⟩ := hst.cells
        clear hst
        go_wp2
        exact bodyPost_ret (v := .tuple #[.agg #[.bool false, .slice none 0 0], .int .i64 (2)]) (by simp [results, Tryz.results50, go_sem, y0, y1]) rfl ⟨_, by rw [HEE.out]; rfl, by rw [HVV.out]; exact HZ.out, HB2.out⟩
      · subst h
        have he := HE.out
        rw [if_pos (by decide)] at he
        have hv := HV.out
        rw [he, if_neg (by decide)] at hv
        have HEE := hid he; have HVV := hid hv
        clear he hv HE HV
        have hst := HX1.out.set (.bool false) (.slice none 0 0)
        have HB2 := hid (below_box HB1.out (Nat.le_refl _) hsz (.bool false) (.slice none 0 0))
        have HZ := hid (zero_isZ ((w1.setCell ⟨w.heap.size, 0, none⟩ (.bool false)).setCell ⟨w.heap.size, 1, none⟩ (.slice none 0 0)))
        obtain ⟨y0, y1, -, -⟩ := hst.cells
        clear hst
        go_wp2
        exact bodyPost_ret (v := .tuple #[.agg #[.bool false, .slice none 0 0], .int .i64 (10)]) (by simp [results, Tryz.results50, go_sem, y0, y1]) rfl ⟨_, by rw [HEE.out]; rfl, by rw [HVV.out]; exact HZ.out, HB2.out⟩

    · have hb : b = false := by rw [← hmb]; simp [hm]
      have HBT := hid hb
      rw [if_neg (by rw [hb]; decide)] at hrst
      rw [hrst] at HPRS
      clear hmb hrst hb
      go_wp2_with fail
      rw [HW.out]
      refine (HPRS.out _).mono ?_
      rintro e w1 ⟨v1, rfl, hs1, hb1⟩
      have HB1 := hid (step_below HB.out hb1)
      have HX1 := hid (HX.out.below hb1)
      rw [HPL.out] at hs1
      have HS1 := hid hs1
      obtain ⟨ao, cap, rfl, -, -, -, -, -⟩ := id hs1
      obtain ⟨c0, c1, f0, f1⟩ := HX1.out.cells
      have hlt := HX1.out.lt
      clear hb1 hs1 HPRS HB HX HW
      have hsz : w.heap.size ≤ w1.heap.size := by omega
      rcases herr with h | h | h
      · subst h
        have he := HE.out
        rw [if_neg (by decide)] at he
        have hbv := HBT.out
        subst hbv
        · rw [if_neg (by rintro ⟨h, _⟩; cases h)] at he
          have hv := HV.out
          rw [he, if_pos rfl, if_neg (by decide)] at hv
          have HEE := hid he; have HVV := hid hv
          clear he hv HE HV
          go_wp2_with fail
          refine (ref_make false HS1.out (by have h9 := hll; rw [HPL.out] at h9; omega) (valZ s) (by rw [val_limbs]; rw [HVV.out]; rfl)).mono ?_
          rintro e w2 ⟨v2, rfl, hz2, hb2⟩
          have HB2 := hid (step_below HB1.out hb2)
          have HX2 := hid (HX1.out.below hb2)
          obtain ⟨bo, dap, rfl⟩ := hz2.form
          obtain ⟨g1, y0, y1⟩ := store_end HB2.out (Nat.le_refl _) HX2.out hz2
          obtain ⟨d0, d1, k0, k1⟩ := HX2.out.cells
          have hlt2 := HX2.out.lt
          have HG1 := hid g1
          clear hb2 g1 hz2 c0 c1 f0 f1 hlt HX1 HB1
          generalize hn : zneg (valZ s) = nb at *
          generalize hlz : zlim (valZ s) = lz at *
          have HN := hid hn; have HLZ := hid hlz
          clear hn hlz
          go_wp2
          refine bodyPost_ret (v := .tuple #[.agg #[.bool nb, .slice bo lz.length dap], .int .i64 0]) (by simp [results, Tryz.results50, go_sem, y0, y1]) rfl ?_
          obtain ⟨v3, he3, hz3, hb3⟩ := HG1.out
          obtain rfl := Ending.returned.inj he3
          exact ⟨_, by rw [HEE.out]; rfl, hz3, hb3⟩
      · subst h
        have he := HE.out
        rw [if_pos (by decide)] at he
        have hv := HV.out
        rw [he, if_neg (by decide)] at hv
        have HEE := hid he; have HVV := hid hv
        clear he hv HE HV
        have hst := HX1.out.set (.bool false) (.slice none 0 0)
        have HB2 := hid (below_box HB1.out (Nat.le_refl _) hsz (.bool false) (.slice none 0 0))
        have HZ := hid (zero_isZ ((w1.setCell ⟨w.heap.size, 0, none⟩ (.bool false)).setCell ⟨w.heap.size, 1, none⟩ (.slice none 0 0)))
        obtain ⟨y0, y1, -, -⟩ := hst.cells
        clear hst
        go_wp2
        exact bodyPost_ret (v := .tuple #[.agg #[.bool false, .slice none 0 0], .int .i64 (2)]) (by simp [results, Tryz.results50, go_sem, y0, y1]) rfl ⟨_, by rw [HEE.out]; rfl, by rw [HVV.out]; exact HZ.out, HB2.out⟩
      · subst h
        have he := HE.out
        rw [if_pos (by decide)] at he
        have hv := HV.out
        rw [he, if_neg (by decide)] at hv
        have HEE := hid he; have HVV := hid hv
        clear he hv HE HV
        have hst := HX1.out.set (.bool false) (.slice none 0 0)
        have HB2 := hid (below_box HB1.out (Nat.le_refl _) hsz (.bool false) (.slice none 0 0))
        have HZ := hid (zero_isZ ((w1.setCell ⟨w.heap.size, 0, none⟩ (.bool false)).setCell ⟨w.heap.size, 1, none⟩ (.slice none 0 0)))
        obtain ⟨y0, y1, -, -⟩ := hst.cells
        clear hst
        go_wp2
        exact bodyPost_ret (v := .tuple #[.agg #[.bool false, .slice none 0 0], .int .i64 (10)]) (by simp [results, Tryz.results50, go_sem, y0, y1]) rfl ⟨_, by rw [HEE.out]; rfl, by rw [HVV.out]; exact HZ.out, HB2.out⟩

  · have hb : b = false := by rw [← hmb]; simp [hz]
    have HBT := hid hb
    rw [if_neg (by rw [hb]; decide)] at hrst
    rw [hrst] at HPRS
    have hE2 : s.toList.isEmpty = true := by
      rw [List.isEmpty_iff]
      exact List.eq_nil_of_length_eq_zero (by omega)
    clear hmb hrst hlist hb
    go_wp2_with fail
    rw [HW.out]
    refine (HPRS.out _).mono ?_
    rintro e w1 ⟨v1, rfl, hs1, hb1⟩
    have HB1 := hid (step_below HB.out hb1)
    have HX1 := hid (HX.out.below hb1)
    rw [HPL.out] at hs1
    have HS1 := hid hs1
    obtain ⟨ao, cap, rfl, -, -, -, -, -⟩ := id hs1
    obtain ⟨c0, c1, f0, f1⟩ := HX1.out.cells
    have hlt := HX1.out.lt
    clear hb1 hs1 HPRS HB HX HW
    have hsz : w.heap.size ≤ w1.heap.size := by omega
    rcases herr with h | h | h
    · subst h
      have he := HE.out
      rw [if_neg (by decide)] at he
      have hbv := HBT.out
      subst hbv
      · rw [if_neg (by rintro ⟨h, _⟩; cases h)] at he
        have hv := HV.out
        rw [he, if_pos rfl, if_neg (by decide)] at hv
        have HEE := hid he; have HVV := hid hv
        clear he hv HE HV
        go_wp2_with fail
        refine (ref_make false HS1.out (by have h9 := hll; rw [HPL.out] at h9; omega) (valZ s) (by rw [val_limbs]; rw [HVV.out]; rfl)).mono ?_
        rintro e w2 ⟨v2, rfl, hz2, hb2⟩
        have HB2 := hid (step_below HB1.out hb2)
        have HX2 := hid (HX1.out.below hb2)
        obtain ⟨bo, dap, rfl⟩ := hz2.form
        obtain ⟨g1, y0, y1⟩ := store_end HB2.out (Nat.le_refl _) HX2.out hz2
        obtain ⟨d0, d1, k0, k1⟩ := HX2.out.cells
        have hlt2 := HX2.out.lt
        have HG1 := hid g1
        clear hb2 g1 hz2 c0 c1 f0 f1 hlt HX1 HB1
        generalize hn : zneg (valZ s) = nb at *
        generalize hlz : zlim (valZ s) = lz at *
        have HN := hid hn; have HLZ := hid hlz
        clear hn hlz
        go_wp2
        refine bodyPost_ret (v := .tuple #[.agg #[.bool nb, .slice bo lz.length dap], .int .i64 0]) (by simp [results, Tryz.results50, go_sem, y0, y1]) rfl ?_
        obtain ⟨v3, he3, hz3, hb3⟩ := HG1.out
        obtain rfl := Ending.returned.inj he3
        exact ⟨_, by rw [HEE.out]; rfl, hz3, hb3⟩
    · subst h
      have he := HE.out
      rw [if_pos (by decide)] at he
      have hv := HV.out
      rw [he, if_neg (by decide)] at hv
      have HEE := hid he; have HVV := hid hv
      clear he hv HE HV
      have hst := HX1.out.set (.bool false) (.slice none 0 0)
      have HB2 := hid (below_box HB1.out (Nat.le_refl _) hsz (.bool false) (.slice none 0 0))
      have HZ := hid (zero_isZ ((w1.setCell ⟨w.heap.size, 0, none⟩ (.bool false)).setCell ⟨w.heap.size, 1, none⟩ (.slice none 0 0)))
      obtain ⟨y0, y1, -, -⟩ := hst.cells
      clear hst
      go_wp2
      exact bodyPost_ret (v := .tuple #[.agg #[.bool false, .slice none 0 0], .int .i64 (2)]) (by simp [results, Tryz.results50, go_sem, y0, y1]) rfl ⟨_, by rw [HEE.out]; rfl, by rw [HVV.out]; exact HZ.out, HB2.out⟩
    · subst h
      have he := HE.out
      rw [if_pos (by decide)] at he
      have hv := HV.out
      rw [he, if_neg (by decide)] at hv
      have HEE := hid he; have HVV := hid hv
      clear he hv HE HV
      have hst := HX1.out.set (.bool false) (.slice none 0 0)
      have HB2 := hid (below_box HB1.out (Nat.le_refl _) hsz (.bool false) (.slice none 0 0))
      have HZ := hid (zero_isZ ((w1.setCell ⟨w.heap.size, 0, none⟩ (.bool false)).setCell ⟨w.heap.size, 1, none⟩ (.slice none 0 0)))
      obtain ⟨y0, y1, -, -⟩ := hst.cells
      clear hst
      go_wp2
      exact bodyPost_ret (v := .tuple #[.agg #[.bool false, .slice none 0 0], .int .i64 (10)]) (by simp [results, Tryz.results50, go_sem, y0, y1]) rfl ⟨_, by rw [HEE.out]; rfl, by rw [HVV.out]; exact HZ.out, HB2.out⟩

end Go.Proofs.YtjnbonellgpjnaaGreat

set_option linter.unusedVariables false
set_option linter.unusedSimpArgs false
namespace Go.Proofs.YtjnbonellgpjnaaGreat
open Go.RowKit

theorem minusB_cons (l : List UInt8) : minusB ⟨(45 :: l).toArray⟩ = true := by
  unfold minusB let8
  simp [ByteArray.size]
theorem restS_cons (l : List UInt8) : restS ⟨(45 :: l).toArray⟩ = ⟨l.toArray⟩ := by
  unfold restS
  rw [minusB_cons, if_pos rfl]
  apply ByteArray.ext
  rw [ByteArray.data_extract]
  apply Array.ext'
  rw [Array.toList_extract]
  simp [ByteArray.size]
theorem minusB_dec (x : Nat) : minusB ⟨(dec x).toArray⟩ = false := by
  unfold minusB
  have h := (textOf_numeral x).2.2 0 (textOf_numeral x).1
  simp only [decide_eq_false_iff_not]
  rintro ⟨_, h2⟩
  unfold textOf at h
  omega
theorem restS_dec (x : Nat) : restS ⟨(dec x).toArray⟩ = ⟨(dec x).toArray⟩ := by
  unfold restS
  rw [minusB_dec]; rfl

/-- What is told of a whole number is read as it. -/
theorem parse_text (z : Int) (hl : (dec z.natAbs).length ≤ 10000) : errZ (textZ z) = 0 ∧ valZ (textZ z) = z := by
  have hN := textOf_numeral z.natAbs
  have hsz : (textOf z.natAbs).size ≤ 10000 := by rw [textOf_size]; exact hl
  have hk := errT_ok hN hsz
  have hnum := textOf_num z.natAbs
  unfold textOf at hk hnum
  by_cases hz : z < 0
  · have ht : textZ z = ⟨(45 :: dec z.natAbs).toArray⟩ := by unfold textZ; rw [if_pos hz]
    have hv : val (lstT ⟨(dec z.natAbs).toArray⟩) = z.natAbs := by rw [hk.2, val_limbs, hnum]
    have he : errZ (textZ z) = 0 := by
      unfold errZ
      rw [ht, restS_cons, hk.1, if_neg (by decide), if_neg]
      rintro ⟨_, h⟩
      rw [hv] at h
      omega
    refine ⟨he, ?_⟩
    unfold valZ
    rw [he, if_pos rfl, ht, minusB_cons, if_pos rfl, restS_cons, hv]
    omega
  · have ht : textZ z = ⟨(dec z.natAbs).toArray⟩ := by unfold textZ; rw [if_neg hz]
    have hv : val (lstT ⟨(dec z.natAbs).toArray⟩) = z.natAbs := by rw [hk.2, val_limbs, hnum]
    have he : errZ (textZ z) = 0 := by
      unfold errZ
      rw [ht, restS_dec, hk.1, if_neg (by decide), if_neg]
      rintro ⟨h, _⟩
      rw [minusB_dec] at h
      cases h
    refine ⟨he, ?_⟩
    unfold valZ
    rw [he, if_pos rfl, ht, minusB_dec, if_neg (by decide), restS_dec, hv]
    omega

/-- What is read of a text is told as it. -/
theorem text_parse (s : ByteArray) (h : errZ s = 0) : textZ (valZ s) = s := by
  have he := h
  unfold errZ at h
  have hd : errT (restS s) = 0 := by
    by_cases h0 : errT (restS s) = 0
    · exact h0
    · rw [if_pos h0] at h; exact absurd h h0
  rw [if_neg (by rw [hd]; decide)] at h
  have hnz : ¬ (minusB s = true ∧ val (lstT (restS s)) = 0) := fun hh => by rw [if_pos hh] at h; cases h
  have hN : Numeral (restS s) := by
    by_cases hn : Numeral (restS s)
    · exact hn
    · rw [(errT_text hn).1] at hd; cases hd
  have hl : lstT (restS s) = limbs (numP (restS s) (restS s).size) := by unfold lstT; rw [hd]; rfl
  have hdec := numeral_text hN
  have hv : val (lstT (restS s)) = numP (restS s) (restS s).size := by rw [hl, val_limbs]
  have hval : valZ s = if minusB s = true then -(val (lstT (restS s)) : Int) else (val (lstT (restS s)) : Int) := by unfold valZ; rw [he, if_pos rfl]
  cases hb : minusB s
  · rw [hb, if_neg (by decide)] at hval
    have hr : restS s = s := by unfold restS; rw [hb]; rfl
    rw [hval]
    unfold textZ
    rw [if_neg (by omega), Int.natAbs_natCast, hv, hdec, hr]
  · rw [hb, if_pos rfl] at hval
    have hp : 0 < val (lstT (restS s)) := by
      rcases Nat.eq_zero_or_pos (val (lstT (restS s))) with h0 | h0
      · exact absurd ⟨hb, h0⟩ hnz
      · exact h0
    rw [hval]
    unfold textZ
    rw [if_pos (by omega), Int.natAbs_neg, Int.natAbs_natCast, hv, hdec]
    have hr : restS s = s.extract 1 s.size := by unfold restS; rw [hb]; rfl
    rw [hr]
    unfold minusB let8 at hb
    have hb2 : 0 < s.size ∧ (s.data.toList.getD 0 0).toNat = 45 := by simpa using hb
    obtain ⟨h1, h2⟩ := hb2
    apply ByteArray.ext
    apply Array.ext'
    rw [ByteArray.data_extract, Array.toList_extract]
    have hlen : s.data.toList.length = s.size := by cases s; rfl
    generalize s.data.toList = l at *
    match l, hlen with
    | [], hlen => simp at hlen; omega
    | c :: r, hlen =>
      have hc : c = 45 := UInt8.toNat_inj.1 (by simpa using h2)
      subst hc
      simp at hlen
      rw [← hlen]
      simp

theorem valZ_err (s : ByteArray) (h : errZ s ≠ 0) : valZ s = 0 := by unfold valZ; rw [if_neg h]
theorem lstT_size (t : ByteArray) : (lstT t).length ≤ t.size := by
  unfold lstT
  split
  · next h =>
    have hN : Numeral t := by
      by_cases hn : Numeral t
      · exact hn
      · rw [(errT_text hn).1] at h; cases h
    exact limbs_length_le (Nat.lt_of_lt_of_le (numP_lt t t.size hN.2.2) (Nat.pow_le_pow_left (by decide) _))
  · simp
theorem valZ_len (s : ByteArray) : (zlim (valZ s)).length ≤ s.size := by
  have h1 := lstT_size (restS s)
  have h2 := rest_size s
  have h3 := lstT_plain (restS s)
  unfold valZ zlim
  by_cases he : errZ s = 0
  · rw [if_pos he]
    have : (if minusB s = true then -(val (lstT (restS s)) : Int) else (val (lstT (restS s)) : Int)).natAbs = val (lstT (restS s)) := by
      split <;> simp
    rw [this, ← h3]
    omega
  · rw [if_neg he]; simp [limbs_zero]
theorem textZ_size (z : Int) (h : (dec z.natAbs).length ≤ 10000) : (textZ z).size ≤ 10001 := by
  unfold textZ
  split
  · show (45 :: dec z.natAbs).toArray.size ≤ 10001
    simp; omega
  · show (dec z.natAbs).toArray.size ≤ 10001
    simp; omega
theorem small_all (i : Int) (h : -9223372036854775807 ≤ i) (h2 : i < 9223372036854775808) : smallI (zneg i) (zlim i) = i ∧ smallB (zlim i) = true := by
  have hv := val_zlim i
  refine ⟨?_, ?_⟩
  · unfold smallI; rw [if_pos (by rw [hv]; omega), zval_plain]
  · unfold smallB; simp only [decide_eq_true_eq]; rw [hv]; omega
theorem small_least : smallI (zneg (-9223372036854775808)) (zlim (-9223372036854775808)) = 0 ∧ smallB (zlim (-9223372036854775808)) = false := by
  have hv := val_zlim (-9223372036854775808)
  refine ⟨?_, ?_⟩
  · unfold smallI; rw [if_neg (by rw [hv]; decide)]
  · unfold smallB; simp only [decide_eq_false_iff_not]; rw [hv]; decide
end Go.Proofs.YtjnbonellgpjnaaGreat

set_option linter.unusedVariables false
set_option linter.unusedSimpArgs false
namespace Go.Proofs.YtjnbonellgpjnaaGreat
open Go.RowKit

theorem zval_not (n : Bool) (l : List Nat) : zval (!n) l = - zval n l := by
  cases n <;> simp [zval]
set_option maxRecDepth 100000 in
set_option maxHeartbeats 1000000 in
theorem ref_plainZ {v : Value} {n : Bool} {l : List Nat} {w : World} (h : SeesZ w v n l) (hl : l.length ≤ 35184372088832) :
    Calls Tryz.prog 90 #[v] w fun e w' => IsInt w (zval n l) e w' := by
  obtain ⟨m, rfl, hm⟩ := h
  have HM := hid hm
  obtain ⟨ao, cap, rfl, -, -, -, -, -⟩ := hm
  obtain ⟨y, gA, gB, hy, b, e1, e2, xA, xB⟩ := two_boxes w (.bool n) (.slice ao l.length cap) (.bool false) (.slice none 0 0) 24
  have HY := hid hy.symm; have E1 := hid e1.symm; have E2 := hid e2.symm; have HXB := hid xB; have HB := hid b; have HS := hid (HM.out.below b)
  have HG : Hid (w.heap.size ≤ gB) := hid (by omega)
  clear hy e1 e2 xA xB b HM
  go_enter Tryz.func90, Tryz.ntmps90
  go_wp2_with fail
  rw [HY.out]
  refine (ref_make n HS.out hl (zval n l) rfl).mono ?_
  rintro e w1 ⟨v1, rfl, hz1, hb1⟩
  obtain ⟨ao1, cap1, rfl⟩ := hz1.form
  have HX1 := hid (HXB.out.below hb1)
  have HB1 := hid (step_below HB.out hb1)
  obtain ⟨g1, g2, g3⟩ := store_end HB1.out HG.out HX1.out hz1
  obtain ⟨c0, c1, f0, f1⟩ := HX1.out.cells
  have hlt := HX1.out.lt
  have HG1 := hid g1
  try rw [E2.out]
  clear hb1 hz1 g1 HY E1 E2 HB HXB HX1 HB1 HS HG
  generalize zneg (zval n l) = bb at *
  generalize zlim (zval n l) = ll at *
  go_wp2
  exact bodyPost_ret (v := .agg #[.bool bb, .slice ao1 ll.length cap1]) (by simp [results, Tryz.results90, go_sem, g2, g3]) rfl HG1.out

set_option maxRecDepth 100000 in
set_option maxHeartbeats 1000000 in
theorem ref_negZ {v : Value} {n : Bool} {l : List Nat} {w : World} (h : SeesZ w v n l) (hl : l.length ≤ 35184372088832) :
    Calls Tryz.prog 88 #[v] w fun e w' => IsInt w (zval (!n) l) e w' := by
  obtain ⟨m, rfl, hm⟩ := h
  have HM := hid hm
  obtain ⟨ao, cap, rfl, -, -, -, -, -⟩ := hm
  obtain ⟨y, gA, gB, hy, b, e1, e2, xA, xB⟩ := two_boxes w (.bool n) (.slice ao l.length cap) (.bool false) (.slice none 0 0) 24
  have HY := hid hy.symm; have E1 := hid e1.symm; have E2 := hid e2.symm; have HXB := hid xB; have HB := hid b; have HS := hid (HM.out.below b)
  have HG : Hid (w.heap.size ≤ gB) := hid (by omega)
  clear hy e1 e2 xA xB b HM
  go_enter Tryz.func88, Tryz.ntmps88
  go_wp2_with fail
  rw [HY.out]
  refine (ref_make (!n) HS.out hl (zval (!n) l) rfl).mono ?_
  rintro e w1 ⟨v1, rfl, hz1, hb1⟩
  obtain ⟨ao1, cap1, rfl⟩ := hz1.form
  have HX1 := hid (HXB.out.below hb1)
  have HB1 := hid (step_below HB.out hb1)
  obtain ⟨g1, g2, g3⟩ := store_end HB1.out HG.out HX1.out hz1
  obtain ⟨c0, c1, f0, f1⟩ := HX1.out.cells
  have hlt := HX1.out.lt
  have HG1 := hid g1
  try rw [E2.out]
  clear hb1 hz1 g1 HY E1 E2 HB HXB HX1 HB1 HS HG
  generalize zneg (zval (!n) l) = bb at *
  generalize zlim (zval (!n) l) = ll at *
  go_wp2
  exact bodyPost_ret (v := .agg #[.bool bb, .slice ao1 ll.length cap1]) (by simp [results, Tryz.results88, go_sem, g2, g3]) rfl HG1.out
end Go.Proofs.YtjnbonellgpjnaaGreat
