/- The document's Of and Small by their contracts. whole.Small by its contract; the document's Small, Make, Of. The document's Of. whole.Neg; the document's Plain, Neg. -/
import Derived.Test.YtcogldhjkjiodaaKC
import Derived.Test.YtcogldhjkjiodaaKD
import Derived.Test.YtcogldhjkjiodaaKF
set_option linter.unusedVariables false
set_option linter.unusedSimpArgs false
namespace Go.Proofs.Ytcogldhjkjiodaa
open Go.RowKit

set_option maxRecDepth 100000 in
set_option maxHeartbeats 2000000 in
theorem ref_of (n : Int) (h1 : -9223372036854775808 ≤ n) (h2 : n < 9223372036854775808) (w : World) :
    Calls Try.prog 47 #[.int .i64 n] w fun e w' => IsNum w n.toNat e w' := by
  have hlim : (limbs n.toNat).length ≤ 2 := limbs_length_le (by show n.toNat < 18446744073709551616; omega)
  obtain ⟨i0, hi, hz0, hz1, hz2⟩ := info_parts info_u32
  go_enter Try.func47, Try.ntmps47
  go_wp2
  go_loopg [0, 3] n.toNat (fun g v0 v3 wr => ∃ (x : Int) (t : List Nat) (k : Nat), v0 = .int .i64 x ∧ -9223372036854775808 ≤ x ∧ x < 9223372036854775808 ∧ g = x.toNat ∧ Hid (limbs n.toNat = t ++ limbs g) ∧ Hid (Ok t) ∧ k ≤ 2 ∧ Hid (t.length = k) ∧ Hid (wr.ownsRow w.heap.size 64 1 v3 k (enc t)) ∧ Hid (Below w.heap.size w wr))
  case atStart => exact ⟨n, [], 0, rfl, h1, h2, rfl, rfl, Ok.nil, by omega, rfl, World.ownsRow_nil _ _ _ _, Below.refl _ _⟩
  case round =>
    obtain ⟨x, t, k, rfl, hx1, hx2, hg, heq, hok, hk2, hkl, hown, hbel⟩ := hrel
    by_cases hx0 : 0 < x
    · obtain ⟨m, rfl⟩ := Int.eq_ofNat_of_zero_le (Int.le_of_lt hx0)
      have hgm : gk = m := by omega
      subst hgm
      obtain ⟨s, d, hs, hd, hmd, em, ed⟩ : ∃ s d : Nat, s < 4294967296 ∧ d < 2147483648 ∧ Hid (gk % 4294967296 = s ∧ gk / 4294967296 = d) ∧ (gk : Int) % 4294967296 = (s : Int) ∧ (gk : Int) / 4294967296 = (d : Int) :=
        ⟨gk % 4294967296, gk / 4294967296, by omega, by omega, ⟨rfl, rfl⟩, by omega, by omega⟩
      have hdm : d < gk := by have := hmd.out.2; omega
      have hl := heq.out
      rw [limbs_pos (n := gk) (by omega), hmd.out.1, hmd.out.2] at hl
      have hlen := congrArg List.length hl
      simp only [List.length_append, List.length_cons] at hlen
      have hstep : limbs n.toNat = (t ++ [s]) ++ limbs d := by rw [hl]; simp
      have HST := hid hstep
      have HOK := hid (hok.out.append (Ok.cons hs Ok.nil))
      have htl : k ≤ 1 := by have := hkl.out; omega
      have hnews : ∀ j u, (enc [s])[j]? = some u → (wr.alloc (.cells #[.int .u32 (s : Nat)] 64)).cell? ((⟨wr.heap.size, 0, none⟩ : Addr).add j) = some u :=
        (sees_lit wr [s] (Ok.cons hs Ok.nil) (by simp)).news
      have HN := hid hnews; have HW := hid hown.out.lt
      clear hnews hstep hlen hl hmd heq hlim hg hx1 hdm h1 h2
      have hgb : gk < 9223372036854775808 := by omega
      clear hx2
      go_wp2_with (at_builtin; refine wpList_append_own _ rfl _ _ 22 rfl w.heap.size 64 i0 (.int .u32 0) 1 4 Try.underlying22 hi hz0 hz1 hz2 rfl (by decide) _ _ _ rfl (hown.out.alloc _) ⟨wr.heap.size, 0, none⟩ 1 1 (enc [s]) rfl ?ga1 ?gb1 ?gc1 ?gd1 ?ge1 ?gf1 ?_)
      case ga1 => simp [enc_length]
      case gb1 => exact HN.out
      case gc1 => exact enc_one _
      case gd1 => unfold maxLen; omega
      case ge1 => omega
      case gf1 => have := hbel.out.size; simp; omega
      intro v' w4 hown4 hgrow _
      rw [enc_append] at hown4
      have hb4 : Below w.heap.size w w4 := (hbel.out.alloc hbel.out.size _).grown hgrow (by rw [Deep.nblk_alloc]; have := hbel.out.size; omega) (fun k e => (HW.out k e).1)
      have hln : (t ++ [s]).length = k + 1 := by simp [hkl.out]
      have HLN := hid hln
      have HO := hid hown4; have HB4 := hid hb4
      clear hown4 hgrow hb4 hln
      go_wp2
      go_roundg d
      case rel => exact ⟨(d : Int), t ++ [s], k + 1, by first | rfl | rw [ed], by omega, by omega, by omega, HST, HOK, by omega, HLN, HO, HB4⟩
      case measure => omega
    · have hg0 : gk = 0 := by omega
      subst hg0
      have he := heq.out
      rw [limbs_zero, List.append_nil] at he
      have htl : t.length ≤ 2 := by rw [← he]; exact hlim
      have hsee := owns_sees hown.out hok.out (by omega)
      rw [← he] at hsee
      have HS := hid hsee
      clear hsee he heq hown htl hg
      go_wp2
      go_ret
      exact ⟨_, rfl, HS.out, hbel.out⟩

theorem ref_small_no {a : Value} {l : List Nat} {w : World} (ha : Sees w a l) (hl : l.length ≤ 35184372088000) (h : ¬ val l < 9223372036854775808) :
    Calls Try.prog 48 #[a] w fun e w' => e = .returned (.tuple #[.int .i64 0, .bool false]) ∧ Below w.heap.size w w' := by
  have hb : 63 < bitsN (val l) := by have := @bits_small (val l); omega
  have HB := hid (ref_bits _ _ _ ha (by omega))
  clear h ha
  generalize bitsN (val l) = n at *
  go_enter Try.func48, Try.ntmps48
  go_wp2_with fail
  refine HB.out.mono ?_
  rintro e w' ⟨rfl, hbel⟩
  have HBE := hid hbel
  clear hbel HB
  go_wp2
  go_ret2
  exact ⟨rfl, HBE.out⟩

theorem drop_le (p : List Nat) (k : Nat) : val (p.drop k) ≤ val p := by
  rcases Nat.lt_or_ge p.length k with h | h
  · rw [List.drop_eq_nil_iff.2 (by omega)]; exact Nat.zero_le _
  · rw [val_split p k h]
    have : 1 * val (p.drop k) ≤ 4294967296 ^ k * val (p.drop k) := Nat.mul_le_mul_right _ (Nat.one_le_pow _ _ (by decide))
    omega

set_option maxRecDepth 100000 in
set_option maxHeartbeats 2000000 in
theorem ref_small_ok {a : Value} {l : List Nat} {w : World} (ha : Sees w a l) (hl : l.length ≤ 35184372088000) (h : val l < 9223372036854775808) :
    Calls Try.prog 48 #[a] w fun e w' => e = .returned (.tuple #[.int .i64 (val l : Nat), .bool true]) ∧ Below w.heap.size w w' := by
  have hb : bitsN (val l) ≤ 63 := by have := @bits_small (val l); omega
  have hlen : (limbs (val l)).length ≤ 35184372088832 := by have := (limbs_prefix ha.ok).2; omega
  have HA := hid ha
  have HB := hid (ref_bits _ _ _ ha (by omega))
  clear ha
  generalize bitsN (val l) = n at *
  go_enter Try.func48, Try.ntmps48
  go_wp2_with fail
  refine HB.out.mono ?_
  rintro e w1 ⟨rfl, hbel⟩
  have HBE := hid hbel
  replace HA := hid (HA.out.below hbel)
  clear hbel HB
  go_wp2_with fail
  refine (ref_plain _ _ _ HA.out (by omega)).mono ?_
  intro e w2 hp
  obtain ⟨v', rfl, hs, hbel⟩ := hp.sees (by omega)
  have HB2 := hid (HBE.out.trans (hbel.mono HBE.out.size))
  obtain ⟨p, hpe⟩ : ∃ p, p = limbs (val l) := ⟨_, rfl⟩
  rw [← hpe] at hs hlen
  have hv : val p = val l := by rw [hpe, val_limbs]
  have HV := hid hv
  rw [← hv] at h
  have HS := hid hs
  obtain ⟨A, c, rfl, -, -, -, -, -⟩ := hs
  clear hp hpe hbel HA hv
  go_wp2
  go_loopw [4, 5] (fun v4 v5 wr => ∃ (k : Nat), k ≤ p.length ∧ v5 = .int .i64 ((k : Int) - 1) ∧ v4 = .int .i64 (val (p.drop k) : Nat) ∧ Hid (Sees wr (.slice A p.length c) p) ∧ Hid (Below w.heap.size w wr)) (fun _ v5 _ => (intOf v5 + 1).toNat)
  case atStart => exact ⟨p.length, Nat.le_refl _, rfl, by rw [List.drop_eq_nil_iff.2 (Nat.le_refl _)]; rfl, HS, HB2⟩
  case round =>
    obtain ⟨k0, hk, rfl, rfl, hsee, hbl⟩ := hrel
    by_cases hk0 : 0 < k0
    · obtain ⟨k, rfl⟩ : ∃ k, k0 = k + 1 := ⟨k0 - 1, by omega⟩
      have ek : (((k + 1 : Nat)) : Int) - 1 = (k : Int) := by omega
      rw [ek]
      obtain ⟨b, o, rfl, hcell⟩ := hsee.out.at (by omega)
      have hc := hcell k (by omega)
      have hd := val_drop p k (by omega)
      have hle := drop_le p k
      rw [hd] at hle
      have hok := hsee.out.ok.getD k
      clear hcell ek
      generalize p.getD k 0 = x at *
      generalize val (p.drop (k + 1)) = N at *
      have e1 : IntKind.i64.wrap ((N : Int) * 4294967296) = (N : Int) * 4294967296 := by rw [IntKind.wrap_i64]; omega
      have e2 : IntKind.i64.wrap ((N : Int) * 4294967296 + (x : Int)) = (N : Int) * 4294967296 + x := by rw [IntKind.wrap_i64]; omega
      have HD := hid hd
      clear hd
      go_wp2
      go_roundw
      case rel => exact ⟨k, by omega, rfl, by rw [HD.out]; apply congrArg; omega, hsee, hbl⟩
      case measure => simp [intOf]
    · obtain rfl : k0 = 0 := by omega
      rw [List.drop_zero]
      go_wp2
      go_ret2
      exact ⟨by rw [HV.out]; rfl, hbl.out⟩
end Go.Proofs.Ytcogldhjkjiodaa

set_option linter.unusedVariables false
set_option linter.unusedSimpArgs false
namespace Go.Proofs.Ytcogldhjkjiodaa
open Go.RowKit

/-- What Small tells of a whole number. -/
def smallI (n : Bool) (l : List Nat) : Int := if val l < 9223372036854775808 then zval n l else 0
def smallB (l : List Nat) : Bool := decide (val l < 9223372036854775808)

set_option maxRecDepth 100000 in
set_option maxHeartbeats 1000000 in
theorem ref_make (neg : Bool) {m : Value} {l : List Nat} {w : World} (h : Sees w m l) (hl : l.length ≤ 35184372088832) (z : Int) (hz : z = if neg then -(val l : Int) else (val l : Int)) :
    Calls Try.prog 31 #[.bool neg, m] w fun e w' => IsInt w z e w' := by
  have HB := hid (box_below (w := w) false (.slice none 0 0))
  have HX := hid (Box.new w (.bool false) (.slice none 0 0) 24)
  have HZ := hid hz
  have hlen := (limbs_prefix h.ok).2
  have HC := hid (ref_plain m l _ (h.below HB.out) hl)
  have hpos : (0 < (limbs (val l)).length) ↔ val l ≠ 0 := by
    constructor
    · intro h1 h2; rw [h2, limbs_zero] at h1; simp at h1
    · intro h1; exact (limbs_last (by omega)).1
  have HP := hid hpos
  have hlb : (limbs (val l)).length ≤ 70368744177664 := by omega
  clear hz hpos h
  go_enter Try.func31, Try.ntmps31
  go_wp2_with fail
  refine HC.out.mono ?_
  intro e w1 hp
  obtain ⟨v1, rfl, hs1, hb1⟩ := hp.sees hlb
  have HB1 := hid (step_below HB.out hb1)
  have HX1 := hid (HX.out.below hb1)
  have HS1 := hid hs1
  obtain ⟨ao, cap, rfl, -, -, -, -, -⟩ := id hs1
  have hz1 := isZ_of hs1 neg z HZ.out
  have hdn : decide (val l ≠ 0) = decide (0 < (limbs (val l)).length) := by
    have := HP.out
    by_cases h : val l = 0
    · simp [h, limbs_zero]
    · have h1 := this.2 h; simp [h, h1]
  rw [hdn] at hz1
  have HZ1 := hid hz1
  obtain ⟨c0, c1, f0, f1⟩ := HX1.out.cells
  have hlt := HX1.out.lt
  clear hp hb1 hs1 hz1 hdn HC HB HX HZ HP hlen hl
  generalize limbs (val l) = p at *
  cases neg
  · obtain ⟨g1, g2, g3⟩ := store_end HB1.out (Nat.le_refl _) HX1.out (show IsZ w1 (.agg #[.bool false, .slice ao p.length cap]) z from HZ1.out)
    have HG1 := hid g1
    clear g1
    go_wp2
    exact bodyPost_ret (v := .agg #[.bool false, .slice ao p.length cap]) (by simp [results, Try.results31, go_sem, g2, g3]) rfl HG1.out
  · obtain ⟨b, hb⟩ : ∃ b, decide (0 < p.length) = b := ⟨_, rfl⟩
    have hb' : decide ((0 : Int) < (p.length : Int)) = b := by rw [← hb]; congr 1; simp
    obtain ⟨g1, g2, g3⟩ := store_end HB1.out (Nat.le_refl _) HX1.out (show IsZ w1 (.agg #[.bool b, .slice ao p.length cap]) z by have := HZ1.out; rw [hb] at this; exact this)
    have HG1 := hid g1
    cases b
    · have hp0 : ¬ 0 < p.length := by simpa using hb
      clear g1 hb hb'
      go_wp2
      exact bodyPost_ret (v := .agg #[.bool false, .slice ao p.length cap]) (by simp [results, Try.results31, go_sem, g2, g3]) rfl HG1.out
    · have hp0 : 0 < p.length := by simpa using hb
      clear g1 hb hb'
      go_wp2
      exact bodyPost_ret (v := .agg #[.bool true, .slice ao p.length cap]) (by simp [results, Try.results31, go_sem, g2, g3]) rfl HG1.out
end Go.Proofs.Ytcogldhjkjiodaa

set_option linter.unusedVariables false
set_option linter.unusedSimpArgs false
namespace Go.Proofs.Ytcogldhjkjiodaa
open Go.RowKit

theorem ref_addV {a b : Value} {l m : List Nat} {w : World} (ha : Sees w a l) (hb : Sees w b m) (hl : l.length ≤ 35184372088000) (hm : m.length ≤ 35184372088000) :
    Calls Try.prog 34 #[a, b] w fun e w' => ∃ v, e = .returned v ∧ Sees w' v (limbs (val l + val m)) ∧ Below w.heap.size w w' := by
  have hA := ha; have hB := hb
  obtain ⟨A, ca, rfl, -, -, -, -, -⟩ := ha
  obtain ⟨B, cb, rfl, -, -, -, -, -⟩ := hb
  exact ref_add _ _ _ _ _ _ _ hA hB hl hm

set_option maxRecDepth 100000 in
set_option maxHeartbeats 1000000 in
theorem ref_ofZ (n : Int) (h1 : -9223372036854775808 ≤ n) (h2 : n < 9223372036854775808) (w : World) :
    Calls Try.prog 26 #[.int .i64 n] w fun e w' => IsInt w n e w' := by
  have HB := hid (box_below (w := w) false (.slice none 0 0))
  have HX := hid (Box.new w (.bool false) (.slice none 0 0) 24)
  go_enter Try.func26, Try.ntmps26
  obtain ⟨w0, hw0⟩ : ∃ x, x = w.alloc (.cells #[.bool false, .slice none 0 0] 24) := ⟨_, rfl⟩
  rw [← hw0] at HB HX
  have HW := hid hw0.symm
  clear hw0
  rcases Int.lt_or_le n 0 with h | h
  · have hn1 : ¬ 0 ≤ n := by omega
    obtain ⟨k, hk⟩ : ∃ k : Nat, (k : Int) = -(n + 1) := ⟨(-(n + 1)).toNat, by omega⟩
    have e1 : IntKind.i64.wrap (n + 1) = n + 1 := by rw [IntKind.wrap_i64]; omega
    have e2 : IntKind.i64.wrap (-(n + 1)) = (k : Int) := by rw [IntKind.wrap_i64]; omega
    have hk64 : k < 9223372036854775808 := by omega
    have hz : n = if true = true then -((k + 1 : Nat) : Int) else ((k + 1 : Nat) : Int) := by simp; omega
    have HZ := hid hz
    have e3 : -(n + 1) = (k : Int) := hk.symm
    have HC1 := hid (fun w => ref_of (k : Int) (by omega) (by omega) w)
    have hkl : (limbs k).length ≤ 2 := limbs_length_le (by show k < 18446744073709551616; omega)
    have hkl1 : (limbs (k + 1)).length ≤ 2 := limbs_length_le (by show k + 1 < 18446744073709551616; omega)
    clear hk hz
    go_wp2_with fail
    rw [HW.out]
    refine (HC1.out _).mono ?_
    rw [Int.toNat_natCast]
    rintro e w1 ⟨v1, rfl, hs1, hb1⟩
    have HX1 := hid (HX.out.below hb1); have HB1 := hid (HB.out.trans (hb1.mono HB.out.size)); have HS1 := hid hs1
    clear hs1 hb1 HX HB HC1
    go_wp2_with fail
    refine (ref_of 1 (by omega) (by omega) _).mono ?_
    rintro e w2 ⟨v2, rfl, hs2, hb2⟩
    have HX2 := hid (HX1.out.below hb2); have HB2 := hid (HB1.out.trans (hb2.mono HB1.out.size)); have HS12 := hid (HS1.out.below hb2); have HS2 := hid hs2
    clear hs2 hb2 HX1 HB1 HS1
    go_wp2_with fail
    refine (ref_addV HS12.out HS2.out (by omega) (by decide)).mono ?_
    rw [val_limbs, val_limbs]
    rintro e w3 ⟨v3, rfl, hs3, hb3⟩
    have HX3 := hid (HX2.out.below hb3); have HB3 := hid (HB2.out.trans (hb3.mono HB2.out.size)); have HS3 : Hid (Sees w3 v3 (limbs (k + 1))) := hs3
    clear hs3 hb3 HX2 HB2 HS12 HS2
    go_wp2_with fail
    refine (ref_make true HS3.out (by omega) n (by rw [val_limbs]; exact HZ.out)).mono ?_
    rintro e w4 ⟨v4, rfl, hz4, hb4⟩
    have HX4 := hid (HX3.out.below hb4); have HB4 := hid (HB3.out.trans (hb4.mono HB3.out.size))
    obtain ⟨ao, cap, rfl⟩ := hz4.form
    obtain ⟨g1, g2, g3⟩ := store_end HB4.out (Nat.le_refl _) HX4.out hz4
    obtain ⟨c0, c1, f0, f1⟩ := HX4.out.cells
    have hlt := HX4.out.lt
    have HG1 := hid g1
    clear hb4 HX3 HB3 HS3 g1 hz4 HZ HW
    generalize zneg n = b at *
    generalize zlim n = l at *
    go_wp2
    exact bodyPost_ret (v := .agg #[.bool b, .slice ao l.length cap]) (by simp [results, Try.results26, go_sem, g2, g3]) rfl HG1.out
  · obtain ⟨k, rfl⟩ := Int.eq_ofNat_of_zero_le h
    have hz : (k : Int) = if false = true then -(k : Int) else (k : Int) := by simp
    have HZ := hid hz
    have HC1 := hid (fun w => ref_of (k : Int) (by omega) (by omega) w)
    have hkl : (limbs k).length ≤ 2 := limbs_length_le (by show k < 18446744073709551616; omega)
    clear hz
    go_wp2_with fail
    rw [HW.out]
    refine (HC1.out _).mono ?_
    rw [Int.toNat_natCast]
    rintro e w1 ⟨v1, rfl, hs1, hb1⟩
    have HX1 := hid (HX.out.below hb1); have HB1 := hid (HB.out.trans (hb1.mono HB.out.size)); have HS1 := hid hs1
    clear hs1 hb1 HX HB HC1
    go_wp2_with fail
    refine (ref_make false HS1.out (by omega) k (by rw [val_limbs]; exact HZ.out)).mono ?_
    rintro e w4 ⟨v4, rfl, hz4, hb4⟩
    have HX4 := hid (HX1.out.below hb4); have HB4 := hid (HB1.out.trans (hb4.mono HB1.out.size))
    obtain ⟨ao, cap, rfl⟩ := hz4.form
    obtain ⟨g1, g2, g3⟩ := store_end HB4.out (Nat.le_refl _) HX4.out hz4
    obtain ⟨c0, c1, f0, f1⟩ := HX4.out.cells
    have hlt := HX4.out.lt
    have HG1 := hid g1
    clear hb4 HX1 HB1 HS1 g1 hz4 HZ HW
    generalize zneg (k : Int) = b at *
    generalize zlim (k : Int) = l at *
    go_wp2
    exact bodyPost_ret (v := .agg #[.bool b, .slice ao l.length cap]) (by simp [results, Try.results26, go_sem, g2, g3]) rfl HG1.out
end Go.Proofs.Ytcogldhjkjiodaa

set_option linter.unusedVariables false
set_option linter.unusedSimpArgs false
namespace Go.Proofs.Ytcogldhjkjiodaa
open Go.RowKit

theorem zval_not (n : Bool) (l : List Nat) : zval (!n) l = - zval n l := by
  cases n <;> simp [zval]
set_option maxRecDepth 100000 in
set_option maxHeartbeats 1000000 in
theorem ref_plainZ {v : Value} {n : Bool} {l : List Nat} {w : World} (h : SeesZ w v n l) (hl : l.length ≤ 35184372088832) :
    Calls Try.prog 54 #[v] w fun e w' => IsInt w (zval n l) e w' := by
  obtain ⟨m, rfl, hm⟩ := h
  have HM := hid hm
  obtain ⟨ao, cap, rfl, -, -, -, -, -⟩ := hm
  obtain ⟨y, gA, gB, hy, b, e1, e2, xA, xB⟩ := two_boxes w (.bool n) (.slice ao l.length cap) (.bool false) (.slice none 0 0) 24
  have HY := hid hy.symm; have E1 := hid e1.symm; have E2 := hid e2.symm; have HXB := hid xB; have HB := hid b; have HS := hid (HM.out.below b)
  have HG : Hid (w.heap.size ≤ gB) := hid (by omega)
  clear hy e1 e2 xA xB b HM
  go_enter Try.func54, Try.ntmps54
  go_wp2_with fail
  rw [HY.out]
  refine (ref_make n HS.out hl (zval n l) rfl).mono ?_
  rintro e w1 ⟨v1, rfl, hz1, hb1⟩
  obtain ⟨ao1, cap1, rfl⟩ := hz1.form
  have HX1 := hid (HXB.out.below hb1)
  have HB1 := hid (step_below HB.out hb1)
  obtain ⟨g1, g2, g3⟩ := store_end HB1.out HG.out HX1.out hz1
  obtain ⟨c0, c1, f0, f1⟩ := HX1.out.cells
  have hlt := HX1.out.lt
  have HG1 := hid g1
  try rw [E2.out]
  clear hb1 hz1 g1 HY E1 E2 HB HXB HX1 HB1 HS HG
  generalize zneg (zval n l) = bb at *
  generalize zlim (zval n l) = ll at *
  go_wp2
  exact bodyPost_ret (v := .agg #[.bool bb, .slice ao1 ll.length cap1]) (by simp [results, Try.results54, go_sem, g2, g3]) rfl HG1.out

end Go.Proofs.Ytcogldhjkjiodaa
