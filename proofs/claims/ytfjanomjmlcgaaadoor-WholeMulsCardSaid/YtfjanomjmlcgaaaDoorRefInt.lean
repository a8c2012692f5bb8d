/- The document's Of and Small by their contracts. -/
import Derived.Test.YtfjanomjmlcgaaaDoorRef2
import Derived.Test.YtfjanomjmlcgaaaDoorInt1
set_option linter.unusedVariables false
set_option linter.unusedSimpArgs false
namespace Go.Proofs.YtfjanomjmlcgaaaDoor
open Go.RowKit

set_option maxRecDepth 100000 in
set_option maxHeartbeats 2000000 in
theorem ref_of (n : Int) (h1 : -9223372036854775808 ≤ n) (h2 : n < 9223372036854775808) (w : World) :
    Calls Tryd.prog 58 #[.int .i64 n] w fun e w' => IsNum w n.toNat e w' := by
  have hlim : (limbs n.toNat).length ≤ 2 := limbs_length_le (by show n.toNat < 18446744073709551616; omega)
  obtain ⟨i0, hi, hz0, hz1, hz2⟩ := info_parts info_u32
  go_enter Tryd.func58, Tryd.ntmps58
  go_wp2
  go_loopg [0, 3] n.toNat (fun g v0 v3 wr => ∃ (x : Int) (t : List Nat) (k : Nat), v0 = .int .i64 x ∧ -9223372036854775808 ≤ x ∧ x < 9223372036854775808 ∧ g = x.toNat ∧ Hid (limbs n.toNat = t ++ limbs g) ∧ Hid (Ok t) ∧ k ≤ 2 ∧ Hid (t.length = k) ∧ Hid (wr.ownsRow w.heap.size 57 1 v3 k (enc t)) ∧ Hid (Below w.heap.size w wr))
  case atStart => exact ⟨n, [], 0, rfl, h1, h2, rfl, rfl, Ok.nil, by omega, rfl, World.ownsRow_nil _ _ _ _, Below.refl _ _⟩
  case round =>
    obtain ⟨x, t, k, rfl, hx1, hx2, hg, heq, hok, hk2, hkl, hown, hbel⟩ := hrel
    by_cases hx0 : 0 < x
    · obtain ⟨m, rfl⟩ := Int.eq_ofNat_of_zero_le (Int.le_of_lt hx0)
      have hgm : gk = m := by omega
      subst hgm
      obtain ⟨s, d, hs, hd, hmd, em, ed⟩ : ∃ s d : Nat, s < 4294967296 ∧ d < 2147483648 ∧ Hid (gk % 4294967296 = s ∧ gk / 4294967296 = d) ∧ (gk : Int) % 4294967296 = (s : Int) ∧ (gk : Int) / 4294967296 = (d : Int) :=
        ⟨gk % 4294967296, gk / 4294967296, by omega, by omega, ⟨rfl, rfl⟩, by omega, by omega⟩
      have hdm : d < gk := by have := hmd.out.2; omega
      have hl := heq.out
      rw [limbs_pos (n := gk) (by omega), hmd.out.1, hmd.out.2] at hl
      have hlen := congrArg List.length hl
      simp only [List.length_append, List.length_cons] at hlen
      have hstep : limbs n.toNat = (t ++ [s]) ++ limbs d := by rw [hl]; simp
      have HST := hid hstep
      have HOK := hid (hok.out.append (Ok.cons hs Ok.nil))
      have htl : k ≤ 1 := by have := hkl.out; omega
      have hnews : ∀ j u, (enc [s])[j]? = some u → (wr.alloc (.cells #[.int .u32 (s : Nat)] 57)).cell? ((⟨wr.heap.size, 0, none⟩ : Addr).add j) = some u :=
        (sees_lit wr [s] (Ok.cons hs Ok.nil) (by simp)).news
      have HN := hid hnews; have HW := hid hown.out.lt
      clear hnews hstep hlen hl hmd heq hlim hg hx1 hdm h1 h2
      have hgb : gk < 9223372036854775808 := by omega
      clear hx2
      go_wp2_with (at_builtin; refine wpList_append_own _ rfl _ _ 22 rfl w.heap.size 57 i0 (.int .u32 0) 1 4 Tryd.underlying22 hi hz0 hz1 hz2 rfl (by decide) _ _ _ rfl (hown.out.alloc _) ⟨wr.heap.size, 0, none⟩ 1 1 (enc [s]) rfl ?ga1 ?gb1 ?gc1 ?gd1 ?ge1 ?gf1 ?_)
      case ga1 => simp [enc_length]
      case gb1 => exact HN.out
      case gc1 => exact enc_one _
      case gd1 => unfold maxLen; omega
      case ge1 => omega
      case gf1 => have := hbel.out.size; simp; omega
      intro v' w4 hown4 hgrow _
      rw [enc_append] at hown4
      have hb4 : Below w.heap.size w w4 := (hbel.out.alloc hbel.out.size _).grown hgrow (by rw [Deep.nblk_alloc]; have := hbel.out.size; omega) (fun k e => (HW.out k e).1)
      have hln : (t ++ [s]).length = k + 1 := by simp [hkl.out]
      have HLN := hid hln
      have HO := hid hown4; have HB4 := hid hb4
      clear hown4 hgrow hb4 hln
      go_wp2
      go_roundg d
      case rel => exact ⟨(d : Int), t ++ [s], k + 1, by first | rfl | rw [ed], by omega, by omega, by omega, HST, HOK, by omega, HLN, HO, HB4⟩
      case measure => omega
    · have hg0 : gk = 0 := by omega
      subst hg0
      have he := heq.out
      rw [limbs_zero, List.append_nil] at he
      have htl : t.length ≤ 2 := by rw [← he]; exact hlim
      have hsee := owns_sees hown.out hok.out (by omega)
      rw [← he] at hsee
      have HS := hid hsee
      clear hsee he heq hown htl hg
      go_wp2
      go_ret
      exact ⟨_, rfl, HS.out, hbel.out⟩

theorem ref_small_no {a : Value} {l : List Nat} {w : World} (ha : Sees w a l) (hl : l.length ≤ 35184372088000) (h : ¬ val l < 9223372036854775808) :
    Calls Tryd.prog 57 #[a] w fun e w' => e = .returned (.tuple #[.int .i64 0, .bool false]) ∧ Below w.heap.size w w' := by
  have hb : 63 < bitsN (val l) := by have := @bits_small (val l); omega
  have HB := hid (ref_bits _ _ _ ha (by omega))
  clear h ha
  generalize bitsN (val l) = n at *
  go_enter Tryd.func57, Tryd.ntmps57
  go_wp2_with fail
  refine HB.out.mono ?_
  rintro e w' ⟨rfl, hbel⟩
  have HBE := hid hbel
  clear hbel HB
  go_wp2
  go_ret2
  exact ⟨rfl, HBE.out⟩

theorem drop_le (p : List Nat) (k : Nat) : val (p.drop k) ≤ val p := by
  rcases Nat.lt_or_ge p.length k with h | h
  · rw [List.drop_eq_nil_iff.2 (by omega)]; exact Nat.zero_le _
  · rw [val_split p k h]
    have : 1 * val (p.drop k) ≤ 4294967296 ^ k * val (p.drop k) := Nat.mul_le_mul_right _ (Nat.one_le_pow _ _ (by decide))
    omega

set_option maxRecDepth 100000 in
set_option maxHeartbeats 2000000 in
theorem ref_small_ok {a : Value} {l : List Nat} {w : World} (ha : Sees w a l) (hl : l.length ≤ 35184372088000) (h : val l < 9223372036854775808) :
    Calls Tryd.prog 57 #[a] w fun e w' => e = .returned (.tuple #[.int .i64 (val l : Nat), .bool true]) ∧ Below w.heap.size w w' := by
  have hb : bitsN (val l) ≤ 63 := by have := @bits_small (val l); omega
  have hlen : (limbs (val l)).length ≤ 35184372088832 := by have := (limbs_prefix ha.ok).2; omega
  have HA := hid ha
  have HB := hid (ref_bits _ _ _ ha (by omega))
  clear ha
  generalize bitsN (val l) = n at *
  go_enter Tryd.func57, Tryd.ntmps57
  go_wp2_with fail
  refine HB.out.mono ?_
  rintro e w1 ⟨rfl, hbel⟩
  have HBE := hid hbel
  replace HA := hid (HA.out.below hbel)
  clear hbel HB
  go_wp2_with fail
  refine (ref_plain _ _ _ HA.out (by omega)).mono ?_
  intro e w2 hp
  obtain ⟨v', rfl, hs, hbel⟩ := hp.sees (by omega)
  have HB2 := hid (HBE.out.trans (hbel.mono HBE.out.size))
  obtain ⟨p, hpe⟩ : ∃ p, p = limbs (val l) := ⟨_, rfl⟩
  rw [← hpe] at hs hlen
  have hv : val p = val l := by rw [hpe, val_limbs]
  have HV := hid hv
  rw [← hv] at h
  have HS := hid hs
  obtain ⟨A, c, rfl, -, -, -, -, -⟩ := hs
  clear hp hpe hbel HA hv
  go_wp2
  go_loopw [4, 5] (fun v4 v5 wr => ∃ (k : Nat), k ≤ p.length ∧ v5 = .int .i64 ((k : Int) - 1) ∧ v4 = .int .i64 (val (p.drop k) : Nat) ∧ Hid (Sees wr (.slice A p.length c) p) ∧ Hid (Below w.heap.size w wr)) (fun _ v5 _ => (intOf v5 + 1).toNat)
  case atStart => exact ⟨p.length, Nat.le_refl _, rfl, by rw [List.drop_eq_nil_iff.2 (Nat.le_refl _)]; rfl, HS, HB2⟩
  case round =>
    obtain ⟨k0, hk, rfl, rfl, hsee, hbl⟩ := hrel
    by_cases hk0 : 0 < k0
    · obtain ⟨k, rfl⟩ : ∃ k, k0 = k + 1 := ⟨k0 - 1, by omega⟩
      have ek : (((k + 1 : Nat)) : Int) - 1 = (k : Int) := by omega
      rw [ek]
      obtain ⟨b, o, rfl, hcell⟩ := hsee.out.at (by omega)
      have hc := hcell k (by omega)
      have hd := val_drop p k (by omega)
      have hle := drop_le p k
      rw [hd] at hle
      have hok := hsee.out.ok.getD k
      clear hcell ek
      generalize p.getD k 0 = x at *
      generalize val (p.drop (k + 1)) = N at *
      have e1 : IntKind.i64.wrap ((N : Int) * 4294967296) = (N : Int) * 4294967296 := by rw [IntKind.wrap_i64]; omega
      have e2 : IntKind.i64.wrap ((N : Int) * 4294967296 + (x : Int)) = (N : Int) * 4294967296 + x := by rw [IntKind.wrap_i64]; omega
      have HD := hid hd
      clear hd
      go_wp2
      go_roundw
      case rel => exact ⟨k, by omega, rfl, by rw [HD.out]; apply congrArg; omega, hsee, hbl⟩
      case measure => simp [intOf]
    · obtain rfl : k0 = 0 := by omega
      rw [List.drop_zero]
      go_wp2
      go_ret2
      exact ⟨by rw [HV.out]; rfl, hbl.out⟩
end Go.Proofs.YtfjanomjmlcgaaaDoor
