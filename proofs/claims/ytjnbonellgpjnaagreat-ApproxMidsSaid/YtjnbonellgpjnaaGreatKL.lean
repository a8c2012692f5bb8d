/- The document's Sub by its contracts. The document's Add, Sub, Cmp; whole.Cmp. -/
import Derived.Test.YtjnbonellgpjnaaGreatKC
import Derived.Test.YtjnbonellgpjnaaGreatKB
import Derived.Test.YtjnbonellgpjnaaGreatKG
set_option linter.unusedVariables false
set_option linter.unusedSimpArgs false
namespace Go.Proofs.YtjnbonellgpjnaaGreat
open Go.RowKit

/-- What the reference's difference has told behind k limbs. -/
def DiffTo (l m t : List Nat) (k c : Nat) : Prop := t.length = k ∧ Ok t ∧ val t + valF (fun i => m.getD i 0) k = valF (fun i => l.getD i 0) k + 4294967296 ^ k * c
theorem DiffTo.step {l m t : List Nat} {k c : Nat} (h : DiffTo l m t k c) (s d : Nat) (hs : s < 4294967296) (e : l.getD k 0 + 4294967296 * d = s + m.getD k 0 + c) : DiffTo l m (t ++ [s]) (k + 1) d := by
  obtain ⟨h1, h2, h3⟩ := h
  refine ⟨by simp [h1], h2.append (Ok.cons hs Ok.nil), ?_⟩
  rw [val_append, h1, val_cons, val_nil, Nat.mul_zero, Nat.add_zero]
  simp only [valF]
  have e2 := congrArg (4294967296 ^ k * ·) e
  simp only [Nat.mul_add] at e2
  rw [Nat.pow_succ, Nat.mul_assoc]
  omega

theorem ref_sub_no (a b : Option Addr) (ca cb : Nat) (l m : List Nat) (w : World) (ha : Sees w (.slice a l.length ca) l) (hb : Sees w (.slice b m.length cb) m) (hlt : val l < val m) :
    Calls Tryz.prog 105 #[.slice a l.length ca, .slice b m.length cb] w fun e w' => e = .returned (.tuple #[.slice none 0 0, .bool false]) ∧ w = w' := by
  go_enter Tryz.func105, Tryz.ntmps105
  go_wp2_with fail
  refine (ref_cmp _ _ _ _ _ _ _ ha hb).mono ?_
  rw [cmpI_lt hlt]
  rintro e w1 ⟨rfl, rfl⟩
  clear hlt ha hb
  go_wp2
  go_ret2
  exact ⟨rfl, rfl⟩

set_option maxRecDepth 100000 in
set_option maxHeartbeats 4000000 in
theorem ref_sub_ok (a b : Option Addr) (ca cb : Nat) (l m : List Nat) (w : World) (ha : Sees w (.slice a l.length ca) l) (hb : Sees w (.slice b m.length cb) m) (hl : l.length ≤ 35184372088832) (hle : val m ≤ val l) :
    Calls Tryz.prog 105 #[.slice a l.length ca, .slice b m.length cb] w fun e w' => IsPair w (val l - val m) e w' := by
  have HA := hid ha; have HB := hid hb
  have hz : 0 ≤ cmpI (val l) (val m) := by unfold cmpI; rw [if_neg (by omega)]; split <;> decide
  have HLE := hid hle
  clear ha hb hle
  obtain ⟨i0, hi, hz0, hz1, hz2⟩ := info_parts info_u32
  go_enter Tryz.func105, Tryz.ntmps105
  go_wp2_with fail
  refine (ref_cmp _ _ _ _ _ _ _ HA.out HB.out).mono ?_
  generalize cmpI (val l) (val m) = z at hz ⊢
  rintro e w1 ⟨rfl, rfl⟩
  have hzb : decide (z < 0) = false := by simpa using hz
  go_wp2
  go_loopg [6, 7, 8] l.length (fun n v6 v7 v8 wr => ∃ (k c : Nat) (t : List Nat), n = l.length - k ∧ k ≤ l.length ∧ v8 = .int .i64 k ∧ v7 = .int .i64 c ∧ c ≤ 1 ∧ Hid (DiffTo l m t k c) ∧ Hid (wr.ownsRow w.heap.size 98 1 v6 k (enc t)) ∧ Hid (Below w.heap.size w wr))
  case atStart => exact ⟨0, 0, [], by omega, by omega, rfl, rfl, by omega, ⟨rfl, Ok.nil, by simp [val_nil, valF]⟩, World.ownsRow_nil _ _ _ _, Below.refl _ _⟩
  case round =>
    obtain ⟨k, c, t, hn, hkc, rfl, rfl, hc1, hsum, hown, hbel⟩ := hrel
    have HGK := hid hn
    clear hn
    by_cases hkl : k < l.length
    · obtain ⟨b1, q1, rfl, hx'⟩ := (HA.out.below hbel.out).at (by omega)
      have hx := hx' k hkl
      have H2 : k < m.length → ∃ b1 o1, b = some ⟨b1, o1, none⟩ ∧ wr.cell? ⟨b1, o1 + k, none⟩ = some (.int .u32 (m.getD k 0 : Nat)) := fun h => by
        obtain ⟨b1, o1, e, hc⟩ := (HB.out.below hbel.out).at (by omega)
        exact ⟨b1, o1, e, hc _ h⟩
      have z2 : ¬ k < m.length → m.getD k 0 = 0 := fun h => by rw [List.getD_eq_getElem?_getD, List.getElem?_eq_none (by omega)]; rfl
      have o1 := HA.out.ok.getD k
      have o2 := HB.out.ok.getD k
      have hst := hid hsum.out.step
      clear hx'
      generalize l.getD k 0 = x at *
      generalize m.getD k 0 = y at *
      by_cases hkm : k < m.length
      · obtain ⟨b2, q2, rfl, hy⟩ := H2 hkm
        clear H2 z2
        by_cases hneg : x < c + y
        · obtain ⟨s, hs⟩ : ∃ s : Nat, (x : Int) - c - y + 4294967296 = (s : Int) := ⟨((x : Int) - c - y + 4294967296).toNat, by omega⟩
          have he : x + 4294967296 * 1 = s + y + c := by omega
          have hslt : s < 4294967296 := by omega
          have hstep := hst.out s 1 hslt he
          have hnews : ∀ j u, (enc [s])[j]? = some u → (wr.alloc (.cells #[.int .u32 (s : Nat)] 98)).cell? ((⟨wr.heap.size, 0, none⟩ : Addr).add j) = some u :=
            (sees_lit wr [s] (Ok.cons hslt Ok.nil) (by simp)).news
          have HN := hid hnews; have HS := hid hstep; have HW := hid hown.out.lt
          clear hnews hstep he
          go_wp2_with (at_builtin; refine wpList_append_own _ rfl _ _ 22 rfl w.heap.size 98 i0 (.int .u32 0) 1 4 Tryz.underlying22 hi hz0 hz1 hz2 rfl (by decide) _ _ _ rfl (hown.out.alloc _) ⟨wr.heap.size, 0, none⟩ 1 1 (enc [s]) rfl ?ga1 ?gb1 ?gc1 ?gd1 ?ge1 ?gf1 ?_)
          case ga1 => simp [enc_length]
          case gb1 => exact HN.out
          case gc1 => exact enc_one _
          case gd1 => unfold maxLen; omega
          case ge1 => omega
          case gf1 => have := hbel.out.size; simp; omega
          intro v' w4 hown4 hgrow _
          rw [enc_append] at hown4
          have hb4 : Below w.heap.size w w4 := (hbel.out.alloc hbel.out.size _).grown hgrow (by rw [Deep.nblk_alloc]; have := hbel.out.size; omega) (fun k e => (HW.out k e).1)
          have HO := hid hown4; have HB4 := hid hb4
          clear hown4 hgrow hb4
          go_wp2
          go_roundg (l.length - (k + 1))
          case rel => exact ⟨k + 1, 1, t ++ [s], rfl, by omega, by go_num, rfl, by omega, HS, HO, HB4⟩
          case measure => have := HGK.out; omega
        · obtain ⟨s, hs⟩ : ∃ s : Nat, (x : Int) - c - y = (s : Int) := ⟨((x : Int) - c - y).toNat, by omega⟩
          have he : x + 4294967296 * 0 = s + y + c := by omega
          have hslt : s < 4294967296 := by omega
          have hstep := hst.out s 0 hslt he
          have hnews : ∀ j u, (enc [s])[j]? = some u → (wr.alloc (.cells #[.int .u32 (s : Nat)] 98)).cell? ((⟨wr.heap.size, 0, none⟩ : Addr).add j) = some u :=
            (sees_lit wr [s] (Ok.cons hslt Ok.nil) (by simp)).news
          have HN := hid hnews; have HS := hid hstep; have HW := hid hown.out.lt
          clear hnews hstep he
          go_wp2_with (at_builtin; refine wpList_append_own _ rfl _ _ 22 rfl w.heap.size 98 i0 (.int .u32 0) 1 4 Tryz.underlying22 hi hz0 hz1 hz2 rfl (by decide) _ _ _ rfl (hown.out.alloc _) ⟨wr.heap.size, 0, none⟩ 1 1 (enc [s]) rfl ?ga2 ?gb2 ?gc2 ?gd2 ?ge2 ?gf2 ?_)
          case ga2 => simp [enc_length]
          case gb2 => exact HN.out
          case gc2 => exact enc_one _
          case gd2 => unfold maxLen; omega
          case ge2 => omega
          case gf2 => have := hbel.out.size; simp; omega
          intro v' w4 hown4 hgrow _
          rw [enc_append] at hown4
          have hb4 : Below w.heap.size w w4 := (hbel.out.alloc hbel.out.size _).grown hgrow (by rw [Deep.nblk_alloc]; have := hbel.out.size; omega) (fun k e => (HW.out k e).1)
          have HO := hid hown4; have HB4 := hid hb4
          clear hown4 hgrow hb4
          go_wp2
          go_roundg (l.length - (k + 1))
          case rel => exact ⟨k + 1, 0, t ++ [s], rfl, by omega, by go_num, rfl, by omega, HS, HO, HB4⟩
          case measure => have := HGK.out; omega
      · obtain rfl := z2 hkm
        clear H2 z2
        by_cases hneg : x < c
        · obtain ⟨s, hs⟩ : ∃ s : Nat, (x : Int) - c + 4294967296 = (s : Int) := ⟨((x : Int) - c + 4294967296).toNat, by omega⟩
          have he : x + 4294967296 * 1 = s + 0 + c := by omega
          have hslt : s < 4294967296 := by omega
          have hstep := hst.out s 1 hslt he
          have hnews : ∀ j u, (enc [s])[j]? = some u → (wr.alloc (.cells #[.int .u32 (s : Nat)] 98)).cell? ((⟨wr.heap.size, 0, none⟩ : Addr).add j) = some u :=
            (sees_lit wr [s] (Ok.cons hslt Ok.nil) (by simp)).news
          have HN := hid hnews; have HS := hid hstep; have HW := hid hown.out.lt
          clear hnews hstep he
          go_wp2_with (at_builtin; refine wpList_append_own _ rfl _ _ 22 rfl w.heap.size 98 i0 (.int .u32 0) 1 4 Tryz.underlying22 hi hz0 hz1 hz2 rfl (by decide) _ _ _ rfl (hown.out.alloc _) ⟨wr.heap.size, 0, none⟩ 1 1 (enc [s]) rfl ?ga3 ?gb3 ?gc3 ?gd3 ?ge3 ?gf3 ?_)
          case ga3 => simp [enc_length]
          case gb3 => exact HN.out
          case gc3 => exact enc_one _
          case gd3 => unfold maxLen; omega
          case ge3 => omega
          case gf3 => have := hbel.out.size; simp; omega
          intro v' w4 hown4 hgrow _
          rw [enc_append] at hown4
          have hb4 : Below w.heap.size w w4 := (hbel.out.alloc hbel.out.size _).grown hgrow (by rw [Deep.nblk_alloc]; have := hbel.out.size; omega) (fun k e => (HW.out k e).1)
          have HO := hid hown4; have HB4 := hid hb4
          clear hown4 hgrow hb4
          go_wp2
          go_roundg (l.length - (k + 1))
          case rel => exact ⟨k + 1, 1, t ++ [s], rfl, by omega, by go_num, rfl, by omega, HS, HO, HB4⟩
          case measure => have := HGK.out; omega
        · obtain ⟨s, hs⟩ : ∃ s : Nat, (x : Int) - c = (s : Int) := ⟨((x : Int) - c).toNat, by omega⟩
          have he : x + 4294967296 * 0 = s + 0 + c := by omega
          have hslt : s < 4294967296 := by omega
          have hstep := hst.out s 0 hslt he
          have hnews : ∀ j u, (enc [s])[j]? = some u → (wr.alloc (.cells #[.int .u32 (s : Nat)] 98)).cell? ((⟨wr.heap.size, 0, none⟩ : Addr).add j) = some u :=
            (sees_lit wr [s] (Ok.cons hslt Ok.nil) (by simp)).news
          have HN := hid hnews; have HS := hid hstep; have HW := hid hown.out.lt
          clear hnews hstep he
          go_wp2_with (at_builtin; refine wpList_append_own _ rfl _ _ 22 rfl w.heap.size 98 i0 (.int .u32 0) 1 4 Tryz.underlying22 hi hz0 hz1 hz2 rfl (by decide) _ _ _ rfl (hown.out.alloc _) ⟨wr.heap.size, 0, none⟩ 1 1 (enc [s]) rfl ?ga4 ?gb4 ?gc4 ?gd4 ?ge4 ?gf4 ?_)
          case ga4 => simp [enc_length]
          case gb4 => exact HN.out
          case gc4 => exact enc_one _
          case gd4 => unfold maxLen; omega
          case ge4 => omega
          case gf4 => have := hbel.out.size; simp; omega
          intro v' w4 hown4 hgrow _
          rw [enc_append] at hown4
          have hb4 : Below w.heap.size w w4 := (hbel.out.alloc hbel.out.size _).grown hgrow (by rw [Deep.nblk_alloc]; have := hbel.out.size; omega) (fun k e => (HW.out k e).1)
          have HO := hid hown4; have HB4 := hid hb4
          clear hown4 hgrow hb4
          go_wp2
          go_roundg (l.length - (k + 1))
          case rel => exact ⟨k + 1, 0, t ++ [s], rfl, by omega, by go_num, rfl, by omega, HS, HO, HB4⟩
          case measure => have := HGK.out; omega
    · obtain rfl : k = l.length := by omega
      have hs := hsum.out
      have hlk : t.length ≤ 35184372088832 := by have := hs.1; omega
      have hsee := owns_sees hown.out hs.2.1 (by omega)
      have hv : val t = val l - val m := by
        have h3 := hs.2.2
        have hlt := val_lt hs.2.1
        rw [hs.1] at hlt
        rw [← val_valF l l.length (Nat.le_refl _)] at h3
        have hml : valF (fun i => m.getD i 0) l.length = val m := by
          rcases Nat.lt_or_ge l.length m.length with h1 | h1
          · have hv1 := val_valF m m.length (Nat.le_refl _)
            rw [← val_take_valF]
            have hsp := val_split m l.length (by omega)
            have hle2 := HLE.out
            have hll := val_lt HA.out.ok
            rcases Nat.eq_zero_or_pos (val (m.drop l.length)) with h0 | h0
            · rw [h0] at hsp; omega
            · have : 4294967296 ^ l.length * 1 ≤ 4294967296 ^ l.length * val (m.drop l.length) := Nat.mul_le_mul_left _ h0
              omega
          · exact (val_valF m l.length h1).symm
        rw [hml] at h3
        have hle2 := HLE.out
        have hc0 : c = 0 := by
          rcases Nat.eq_zero_or_pos c with h0 | h0
          · exact h0
          · have : 4294967296 ^ l.length * 1 ≤ 4294967296 ^ l.length * c := Nat.mul_le_mul_left _ h0
            omega
        rw [hc0] at h3
        omega
      have HS := hid hsee; have HV := hid hv; have HLK := hid hlk
      have hlk2 := Nat.le_trans (limbs_prefix hsee.ok).2 hlk
      clear hs hsee hv hlk hsum hown
      go_wp2_with fail
      refine (ref_plain _ _ _ HS.out HLK.out).mono ?_
      intro e w4 hp
      obtain ⟨v4, rfl, hs4, hb4⟩ := hp.sees (by omega)
      have HS4 := hid hs4; have HB4 := hid (hbel.out.trans (hb4.mono hbel.out.size))
      clear hp hs4 hb4
      go_wp2
      go_ret2
      exact ⟨_, rfl, by have := HS4.out; rw [HV.out] at this; exact this, HB4.out⟩
end Go.Proofs.YtjnbonellgpjnaaGreat

set_option linter.unusedVariables false
set_option linter.unusedSimpArgs false
namespace Go.Proofs.YtjnbonellgpjnaaGreat
open Go.RowKit

theorem sum_pow (x y N : Nat) (hx : x < 4294967296 ^ N) (hy : y < 4294967296 ^ N) : x + y < 4294967296 ^ (N + 1) := by
  rw [Nat.pow_succ]
  generalize 4294967296 ^ N = P at *
  omega
theorem sum_len {l m : List Nat} (hl : l.length ≤ 35184372087808) (hm : m.length ≤ 35184372087808) (h1 : Ok l) (h2 : Ok m) : (limbs (val l + val m)).length ≤ 35184372088000 := by
  obtain ⟨N, hN⟩ : ∃ N, N = 35184372087808 := ⟨_, rfl⟩
  rw [← hN] at hl hm
  have h := limbs_length_le (sum_pow (val l) (val m) N (Nat.lt_of_lt_of_le (val_lt h1) (Nat.pow_le_pow_right (by decide) hl)) (Nat.lt_of_lt_of_le (val_lt h2) (Nat.pow_le_pow_right (by decide) hm)))
  omega
theorem dif_len {l m : List Nat} (hl : l.length ≤ 35184372087808) (h1 : Ok l) : (limbs (val l - val m)).length ≤ 35184372088000 := by
  obtain ⟨N, hN⟩ : ∃ N, N = 35184372087808 := ⟨_, rfl⟩
  rw [← hN] at hl
  refine Nat.le_trans (m := N) ?_ (by omega)
  refine limbs_length_le (Nat.lt_of_le_of_lt (Nat.sub_le _ _) (Nat.lt_of_lt_of_le (val_lt h1) (Nat.pow_le_pow_right (by decide) hl)))
theorem zadd_same (n : Bool) (l m : List Nat) : zval n l + zval n m = if n then -((val l + val m : Nat) : Int) else ((val l + val m : Nat) : Int) := by
  cases n <;> simp [zval] <;> omega
theorem zadd_fst (n : Bool) (l m : List Nat) (h : val m ≤ val l) : zval n l + zval (!n) m = if n then -((val l - val m : Nat) : Int) else ((val l - val m : Nat) : Int) := by
  cases n <;> simp [zval] <;> omega
theorem zadd_snd (n : Bool) (l m : List Nat) (h : val l ≤ val m) : zval (!n) l + zval n m = if n then -((val m - val l : Nat) : Int) else ((val m - val l : Nat) : Int) := by
  cases n <;> simp [zval] <;> omega

set_option maxRecDepth 100000 in
set_option maxHeartbeats 2000000 in
theorem ref_add_same_true {va vb : Value} {la lb : List Nat} {w : World} (ha : SeesZ w va true la) (hb : SeesZ w vb true lb) (hla : la.length ≤ 35184372087808) (hlb : lb.length ≤ 35184372087808) :
    Calls Tryz.prog 79 #[va, vb] w fun e w' => IsInt w (zval true la + zval true lb) e w' := by
  obtain ⟨ma, rfl, hma⟩ := ha
  obtain ⟨mb, rfl, hmb⟩ := hb
  have HMA := hid hma; have HMB := hid hmb
  obtain ⟨ao, ca, rfl, -, -, -, -, -⟩ := hma
  obtain ⟨bo, cb, rfl, -, -, -, -, -⟩ := hmb
  obtain ⟨y, gA, gB, gR, hy, b, e1, e2, e3, xA, xB, xR⟩ := three_boxes w (.bool true) (.slice ao la.length ca) (.bool true) (.slice bo lb.length cb) (.bool false) (.slice none 0 0) 24
  have HY := hid hy.symm; have E1 := hid e1.symm; have E2 := hid e2.symm; have E3 := hid e3.symm
  have HXA := hid xA; have HXB := hid xB; have HXR := hid xR; have B0 := hid b; have HSA := hid (HMA.out.below b); have HSB := hid (HMB.out.below b)
  have HG : Hid (w.heap.size ≤ gR) := hid (by omega)
  clear hy e1 e2 e3 xA xB xR b HMA HMB
  have HZ := hid (zadd_same true la lb)
  have HL := hid (sum_len hla hlb HSA.out.ok HSB.out.ok)
  generalize zval true la + zval true lb = z at *
  go_enter Tryz.func79, Tryz.ntmps79
  go_wp2_with fail
  try rw [HY.out]
  try rw [E3.out]
  try rw [E2.out]
  try rw [E1.out]
  clear HY E1 E2 E3
  obtain ⟨a0, a1, a2, a3⟩ := HXA.out.cells
  obtain ⟨b0, b1, b2, b3⟩ := HXB.out.cells
  obtain ⟨r0, r1, r2, r3⟩ := HXR.out.cells
  go_region_with (first
    | (go_at_call 71; refine (ref_addV (by exact HSA.out) (by exact HSB.out) (by omega) (by omega)).mono ?_; rintro e w1 ⟨v1, rfl, hs1, hb1⟩
       have HXA1 := hid (Box.below (by exact HXA.out) hb1); have HXR1 := hid (Box.below (by exact HXR.out) hb1)
       have B1 := hid (B0.out.drew.trans (Below.mono hb1 B0.out.drew.size))
       have HS1 := hid hs1
       clear hs1 hb1 a0 a1 a2 a3 b0 b1 b2 b3 r0 r1 r2 r3
       obtain ⟨a0, a1, a2, a3⟩ := HXA1.out.cells)
    | (go_at_call 76; refine (ref_make true (by exact HS1.out) (by have := HL.out; omega) z (by rw [val_limbs]; exact HZ.out)).mono ?_; rintro e w2 ⟨v2, rfl, hz2, hb2⟩
       have HXR2 := hid (Box.below (by exact HXR1.out) hb2)
       have B2 := hid (B1.out.trans (Below.mono hb2 B1.out.size))
       have HZ2 := hid hz2
       obtain ⟨ao2, cap2, rfl⟩ := hz2.form
       obtain ⟨r0, r1, r2, r3⟩ := HXR2.out.cells
       have hlt := HXR2.out.lt
       clear hb2 hz2))
  all_goals
    have HR3 := hid (HXR2.out)
    obtain ⟨g1, g2, g3⟩ := store_end B2.out HG.out HR3.out HZ2.out
    obtain ⟨c0, c1, f0, f1⟩ := HR3.out.cells
    have hlt := HR3.out.lt
    have HG1 := hid g1
    clear HR3 HZ2 B2 HG HXR2 g1
    generalize zneg (z) = bb at *
    generalize zlim (z) = ll at *
    go_wp2
    exact bodyPost_ret (v := .agg #[.bool bb, .slice ao2 ll.length cap2]) (by simp [results, Tryz.results79, go_sem, g2, g3]) rfl HG1.out

set_option maxRecDepth 100000 in
set_option maxHeartbeats 2000000 in
theorem ref_add_same_false {va vb : Value} {la lb : List Nat} {w : World} (ha : SeesZ w va false la) (hb : SeesZ w vb false lb) (hla : la.length ≤ 35184372087808) (hlb : lb.length ≤ 35184372087808) :
    Calls Tryz.prog 79 #[va, vb] w fun e w' => IsInt w (zval false la + zval false lb) e w' := by
  obtain ⟨ma, rfl, hma⟩ := ha
  obtain ⟨mb, rfl, hmb⟩ := hb
  have HMA := hid hma; have HMB := hid hmb
  obtain ⟨ao, ca, rfl, -, -, -, -, -⟩ := hma
  obtain ⟨bo, cb, rfl, -, -, -, -, -⟩ := hmb
  obtain ⟨y, gA, gB, gR, hy, b, e1, e2, e3, xA, xB, xR⟩ := three_boxes w (.bool false) (.slice ao la.length ca) (.bool false) (.slice bo lb.length cb) (.bool false) (.slice none 0 0) 24
  have HY := hid hy.symm; have E1 := hid e1.symm; have E2 := hid e2.symm; have E3 := hid e3.symm
  have HXA := hid xA; have HXB := hid xB; have HXR := hid xR; have B0 := hid b; have HSA := hid (HMA.out.below b); have HSB := hid (HMB.out.below b)
  have HG : Hid (w.heap.size ≤ gR) := hid (by omega)
  clear hy e1 e2 e3 xA xB xR b HMA HMB
  have HZ := hid (zadd_same false la lb)
  have HL := hid (sum_len hla hlb HSA.out.ok HSB.out.ok)
  generalize zval false la + zval false lb = z at *
  go_enter Tryz.func79, Tryz.ntmps79
  go_wp2_with fail
  try rw [HY.out]
  try rw [E3.out]
  try rw [E2.out]
  try rw [E1.out]
  clear HY E1 E2 E3
  obtain ⟨a0, a1, a2, a3⟩ := HXA.out.cells
  obtain ⟨b0, b1, b2, b3⟩ := HXB.out.cells
  obtain ⟨r0, r1, r2, r3⟩ := HXR.out.cells
  go_region_with (first
    | (go_at_call 71; refine (ref_addV (by exact HSA.out) (by exact HSB.out) (by omega) (by omega)).mono ?_; rintro e w1 ⟨v1, rfl, hs1, hb1⟩
       have HXA1 := hid (Box.below (by exact HXA.out) hb1); have HXR1 := hid (Box.below (by exact HXR.out) hb1)
       have B1 := hid (B0.out.drew.trans (Below.mono hb1 B0.out.drew.size))
       have HS1 := hid hs1
       clear hs1 hb1 a0 a1 a2 a3 b0 b1 b2 b3 r0 r1 r2 r3
       obtain ⟨a0, a1, a2, a3⟩ := HXA1.out.cells)
    | (go_at_call 76; refine (ref_make false (by exact HS1.out) (by have := HL.out; omega) z (by rw [val_limbs]; exact HZ.out)).mono ?_; rintro e w2 ⟨v2, rfl, hz2, hb2⟩
       have HXR2 := hid (Box.below (by exact HXR1.out) hb2)
       have B2 := hid (B1.out.trans (Below.mono hb2 B1.out.size))
       have HZ2 := hid hz2
       obtain ⟨ao2, cap2, rfl⟩ := hz2.form
       obtain ⟨r0, r1, r2, r3⟩ := HXR2.out.cells
       have hlt := HXR2.out.lt
       clear hb2 hz2))
  all_goals
    have HR3 := hid (HXR2.out)
    obtain ⟨g1, g2, g3⟩ := store_end B2.out HG.out HR3.out HZ2.out
    obtain ⟨c0, c1, f0, f1⟩ := HR3.out.cells
    have hlt := HR3.out.lt
    have HG1 := hid g1
    clear HR3 HZ2 B2 HG HXR2 g1
    generalize zneg (z) = bb at *
    generalize zlim (z) = ll at *
    go_wp2
    exact bodyPost_ret (v := .agg #[.bool bb, .slice ao2 ll.length cap2]) (by simp [results, Tryz.results79, go_sem, g2, g3]) rfl HG1.out

set_option maxRecDepth 100000 in
set_option maxHeartbeats 2000000 in
theorem ref_add_fst_true {va vb : Value} {la lb : List Nat} {w : World} (ha : SeesZ w va true la) (hb : SeesZ w vb false lb) (hla : la.length ≤ 35184372087808) (hlb : lb.length ≤ 35184372087808) (hv : val lb ≤ val la) :
    Calls Tryz.prog 79 #[va, vb] w fun e w' => IsInt w (zval true la + zval false lb) e w' := by
  obtain ⟨ma, rfl, hma⟩ := ha
  obtain ⟨mb, rfl, hmb⟩ := hb
  have HMA := hid hma; have HMB := hid hmb
  obtain ⟨ao, ca, rfl, -, -, -, -, -⟩ := hma
  obtain ⟨bo, cb, rfl, -, -, -, -, -⟩ := hmb
  obtain ⟨y, gA, gB, gR, hy, b, e1, e2, e3, xA, xB, xR⟩ := three_boxes w (.bool true) (.slice ao la.length ca) (.bool false) (.slice bo lb.length cb) (.bool false) (.slice none 0 0) 24
  have HY := hid hy.symm; have E1 := hid e1.symm; have E2 := hid e2.symm; have E3 := hid e3.symm
  have HXA := hid xA; have HXB := hid xB; have HXR := hid xR; have B0 := hid b; have HSA := hid (HMA.out.below b); have HSB := hid (HMB.out.below b)
  have HG : Hid (w.heap.size ≤ gR) := hid (by omega)
  clear hy e1 e2 e3 xA xB xR b HMA HMB
  have HZ := hid (zadd_fst true la lb hv)
  have HL := hid (dif_len (m := lb) hla HSA.out.ok)
  have HV := hid hv
  simp only [Bool.not_true, Bool.not_false] at HZ
  generalize zval true la + zval false lb = z at *
  clear hv
  go_enter Tryz.func79, Tryz.ntmps79
  go_wp2_with fail
  try rw [HY.out]
  try rw [E3.out]
  try rw [E2.out]
  try rw [E1.out]
  clear HY E1 E2 E3
  refine (ref_sub_ok _ _ _ _ la lb _ HSA.out HSB.out (by omega) HV.out).mono ?_
  rintro e w1 ⟨v1, rfl, hs1, hb1⟩
  have HXA1 := hid (HXA.out.below hb1); have HXB1 := hid (HXB.out.below hb1); have HXR1 := hid (HXR.out.below hb1)
  have B1 := hid (step_below B0.out hb1)
  have HS1 := hid hs1
  clear hs1 hb1
  obtain ⟨a0, a1, a2, a3⟩ := HXA1.out.cells
  obtain ⟨b0, b1, b2, b3⟩ := HXB1.out.cells
  go_wp2_with fail
  refine (ref_make true HS1.out (by have := HL.out; omega) z (by rw [val_limbs]; exact HZ.out)).mono ?_
  rintro e w2 ⟨v2, rfl, hz2, hb2⟩
  have HXR2 := hid (HXR1.out.below hb2)
  have B2 := hid (step_below B1.out hb2)
  have HZ2 := hid hz2
  obtain ⟨ao2, cap2, rfl⟩ := hz2.form
  clear hb2 hz2 a0 a1 a2 a3 b0 b1 b2 b3 HS1 HZ
  have HR3 := hid (HXR2.out)
  obtain ⟨g1, g2, g3⟩ := store_end B2.out HG.out HR3.out HZ2.out
  obtain ⟨c0, c1, f0, f1⟩ := HR3.out.cells
  have hlt := HR3.out.lt
  have HG1 := hid g1
  clear HR3 HZ2 B2 HG HXR2 g1
  generalize zneg (z) = bb at *
  generalize zlim (z) = ll at *
  go_wp2
  exact bodyPost_ret (v := .agg #[.bool bb, .slice ao2 ll.length cap2]) (by simp [results, Tryz.results79, go_sem, g2, g3]) rfl HG1.out

set_option maxRecDepth 100000 in
set_option maxHeartbeats 2000000 in
theorem ref_add_snd_true {va vb : Value} {la lb : List Nat} {w : World} (ha : SeesZ w va false la) (hb : SeesZ w vb true lb) (hla : la.length ≤ 35184372087808) (hlb : lb.length ≤ 35184372087808) (hv : val la < val lb) :
    Calls Tryz.prog 79 #[va, vb] w fun e w' => IsInt w (zval false la + zval true lb) e w' := by
  obtain ⟨ma, rfl, hma⟩ := ha
  obtain ⟨mb, rfl, hmb⟩ := hb
  have HMA := hid hma; have HMB := hid hmb
  obtain ⟨ao, ca, rfl, -, -, -, -, -⟩ := hma
  obtain ⟨bo, cb, rfl, -, -, -, -, -⟩ := hmb
  obtain ⟨y, gA, gB, gR, hy, b, e1, e2, e3, xA, xB, xR⟩ := three_boxes w (.bool false) (.slice ao la.length ca) (.bool true) (.slice bo lb.length cb) (.bool false) (.slice none 0 0) 24
  have HY := hid hy.symm; have E1 := hid e1.symm; have E2 := hid e2.symm; have E3 := hid e3.symm
  have HXA := hid xA; have HXB := hid xB; have HXR := hid xR; have B0 := hid b; have HSA := hid (HMA.out.below b); have HSB := hid (HMB.out.below b)
  have HG : Hid (w.heap.size ≤ gR) := hid (by omega)
  clear hy e1 e2 e3 xA xB xR b HMA HMB
  have HZ := hid (zadd_snd true la lb (by omega))
  have HL := hid (dif_len (m := la) hlb HSB.out.ok)
  have HV := hid hv
  simp only [Bool.not_true, Bool.not_false] at HZ
  generalize zval false la + zval true lb = z at *
  clear hv
  go_enter Tryz.func79, Tryz.ntmps79
  go_wp2_with fail
  try rw [HY.out]
  try rw [E3.out]
  try rw [E2.out]
  try rw [E1.out]
  clear HY E1 E2 E3
  refine (ref_sub_no _ _ _ _ la lb _ HSA.out HSB.out HV.out).mono ?_
  rintro e w0 ⟨rfl, rfl⟩
  obtain ⟨a0, a1, a2, a3⟩ := HXA.out.cells
  obtain ⟨b0, b1, b2, b3⟩ := HXB.out.cells
  obtain ⟨r0, r1, r2, r3⟩ := HXR.out.cells
  go_wp2_with fail
  clear a0 a1 a2 a3 b0 b1 b2 b3 r0 r1 r2 r3
  refine (ref_sub_ok _ _ _ _ lb la _ HSB.out HSA.out (by omega) (by have := HV.out; omega)).mono ?_
  rintro e w1 ⟨v1, rfl, hs1, hb1⟩
  have HXA1 := hid (HXA.out.below hb1); have HXB1 := hid (HXB.out.below hb1); have HXR1 := hid (HXR.out.below hb1)
  have B1 := hid (step_below B0.out hb1)
  have HS1 := hid hs1
  clear hs1 hb1
  obtain ⟨a0, a1, a2, a3⟩ := HXA1.out.cells
  obtain ⟨b0, b1, b2, b3⟩ := HXB1.out.cells
  go_wp2_with fail
  refine (ref_make true HS1.out (by have := HL.out; omega) z (by rw [val_limbs]; exact HZ.out)).mono ?_
  rintro e w2 ⟨v2, rfl, hz2, hb2⟩
  have HXR2 := hid (HXR1.out.below hb2)
  have B2 := hid (step_below B1.out hb2)
  have HZ2 := hid hz2
  obtain ⟨ao2, cap2, rfl⟩ := hz2.form
  clear hb2 hz2 a0 a1 a2 a3 b0 b1 b2 b3 HS1 HZ
  have HR3 := hid (HXR2.out)
  obtain ⟨g1, g2, g3⟩ := store_end B2.out HG.out HR3.out HZ2.out
  obtain ⟨c0, c1, f0, f1⟩ := HR3.out.cells
  have hlt := HR3.out.lt
  have HG1 := hid g1
  clear HR3 HZ2 B2 HG HXR2 g1
  generalize zneg (z) = bb at *
  generalize zlim (z) = ll at *
  go_wp2
  exact bodyPost_ret (v := .agg #[.bool bb, .slice ao2 ll.length cap2]) (by simp [results, Tryz.results79, go_sem, g2, g3]) rfl HG1.out

set_option maxRecDepth 100000 in
set_option maxHeartbeats 2000000 in
theorem ref_add_fst_false {va vb : Value} {la lb : List Nat} {w : World} (ha : SeesZ w va false la) (hb : SeesZ w vb true lb) (hla : la.length ≤ 35184372087808) (hlb : lb.length ≤ 35184372087808) (hv : val lb ≤ val la) :
    Calls Tryz.prog 79 #[va, vb] w fun e w' => IsInt w (zval false la + zval true lb) e w' := by
  obtain ⟨ma, rfl, hma⟩ := ha
  obtain ⟨mb, rfl, hmb⟩ := hb
  have HMA := hid hma; have HMB := hid hmb
  obtain ⟨ao, ca, rfl, -, -, -, -, -⟩ := hma
  obtain ⟨bo, cb, rfl, -, -, -, -, -⟩ := hmb
  obtain ⟨y, gA, gB, gR, hy, b, e1, e2, e3, xA, xB, xR⟩ := three_boxes w (.bool false) (.slice ao la.length ca) (.bool true) (.slice bo lb.length cb) (.bool false) (.slice none 0 0) 24
  have HY := hid hy.symm; have E1 := hid e1.symm; have E2 := hid e2.symm; have E3 := hid e3.symm
  have HXA := hid xA; have HXB := hid xB; have HXR := hid xR; have B0 := hid b; have HSA := hid (HMA.out.below b); have HSB := hid (HMB.out.below b)
  have HG : Hid (w.heap.size ≤ gR) := hid (by omega)
  clear hy e1 e2 e3 xA xB xR b HMA HMB
  have HZ := hid (zadd_fst false la lb hv)
  have HL := hid (dif_len (m := lb) hla HSA.out.ok)
  have HV := hid hv
  simp only [Bool.not_true, Bool.not_false] at HZ
  generalize zval false la + zval true lb = z at *
  clear hv
  go_enter Tryz.func79, Tryz.ntmps79
  go_wp2_with fail
  try rw [HY.out]
  try rw [E3.out]
  try rw [E2.out]
  try rw [E1.out]
  clear HY E1 E2 E3
  refine (ref_sub_ok _ _ _ _ la lb _ HSA.out HSB.out (by omega) HV.out).mono ?_
  rintro e w1 ⟨v1, rfl, hs1, hb1⟩
  have HXA1 := hid (HXA.out.below hb1); have HXB1 := hid (HXB.out.below hb1); have HXR1 := hid (HXR.out.below hb1)
  have B1 := hid (step_below B0.out hb1)
  have HS1 := hid hs1
  clear hs1 hb1
  obtain ⟨a0, a1, a2, a3⟩ := HXA1.out.cells
  obtain ⟨b0, b1, b2, b3⟩ := HXB1.out.cells
  go_wp2_with fail
  refine (ref_make false HS1.out (by have := HL.out; omega) z (by rw [val_limbs]; exact HZ.out)).mono ?_
  rintro e w2 ⟨v2, rfl, hz2, hb2⟩
  have HXR2 := hid (HXR1.out.below hb2)
  have B2 := hid (step_below B1.out hb2)
  have HZ2 := hid hz2
  obtain ⟨ao2, cap2, rfl⟩ := hz2.form
  clear hb2 hz2 a0 a1 a2 a3 b0 b1 b2 b3 HS1 HZ
  have HR3 := hid (HXR2.out)
  obtain ⟨g1, g2, g3⟩ := store_end B2.out HG.out HR3.out HZ2.out
  obtain ⟨c0, c1, f0, f1⟩ := HR3.out.cells
  have hlt := HR3.out.lt
  have HG1 := hid g1
  clear HR3 HZ2 B2 HG HXR2 g1
  generalize zneg (z) = bb at *
  generalize zlim (z) = ll at *
  go_wp2
  exact bodyPost_ret (v := .agg #[.bool bb, .slice ao2 ll.length cap2]) (by simp [results, Tryz.results79, go_sem, g2, g3]) rfl HG1.out

set_option maxRecDepth 100000 in
set_option maxHeartbeats 2000000 in
theorem ref_add_snd_false {va vb : Value} {la lb : List Nat} {w : World} (ha : SeesZ w va true la) (hb : SeesZ w vb false lb) (hla : la.length ≤ 35184372087808) (hlb : lb.length ≤ 35184372087808) (hv : val la < val lb) :
    Calls Tryz.prog 79 #[va, vb] w fun e w' => IsInt w (zval true la + zval false lb) e w' := by
  obtain ⟨ma, rfl, hma⟩ := ha
  obtain ⟨mb, rfl, hmb⟩ := hb
  have HMA := hid hma; have HMB := hid hmb
  obtain ⟨ao, ca, rfl, -, -, -, -, -⟩ := hma
  obtain ⟨bo, cb, rfl, -, -, -, -, -⟩ := hmb
  obtain ⟨y, gA, gB, gR, hy, b, e1, e2, e3, xA, xB, xR⟩ := three_boxes w (.bool true) (.slice ao la.length ca) (.bool false) (.slice bo lb.length cb) (.bool false) (.slice none 0 0) 24
  have HY := hid hy.symm; have E1 := hid e1.symm; have E2 := hid e2.symm; have E3 := hid e3.symm
  have HXA := hid xA; have HXB := hid xB; have HXR := hid xR; have B0 := hid b; have HSA := hid (HMA.out.below b); have HSB := hid (HMB.out.below b)
  have HG : Hid (w.heap.size ≤ gR) := hid (by omega)
  clear hy e1 e2 e3 xA xB xR b HMA HMB
  have HZ := hid (zadd_snd false la lb (by omega))
  have HL := hid (dif_len (m := la) hlb HSB.out.ok)
  have HV := hid hv
  simp only [Bool.not_true, Bool.not_false] at HZ
  generalize zval true la + zval false lb = z at *
  clear hv
  go_enter Tryz.func79, Tryz.ntmps79
  go_wp2_with fail
  try rw [HY.out]
  try rw [E3.out]
  try rw [E2.out]
  try rw [E1.out]
  clear HY E1 E2 E3
  refine (ref_sub_no _ _ _ _ la lb _ HSA.out HSB.out HV.out).mono ?_
  rintro e w0 ⟨rfl, rfl⟩
  obtain ⟨a0, a1, a2, a3⟩ := HXA.out.cells
  obtain ⟨b0, b1, b2, b3⟩ := HXB.out.cells
  obtain ⟨r0, r1, r2, r3⟩ := HXR.out.cells
  go_wp2_with fail
  clear a0 a1 a2 a3 b0 b1 b2 b3 r0 r1 r2 r3
  refine (ref_sub_ok _ _ _ _ lb la _ HSB.out HSA.out (by omega) (by have := HV.out; omega)).mono ?_
  rintro e w1 ⟨v1, rfl, hs1, hb1⟩
  have HXA1 := hid (HXA.out.below hb1); have HXB1 := hid (HXB.out.below hb1); have HXR1 := hid (HXR.out.below hb1)
  have B1 := hid (step_below B0.out hb1)
  have HS1 := hid hs1
  clear hs1 hb1
  obtain ⟨a0, a1, a2, a3⟩ := HXA1.out.cells
  obtain ⟨b0, b1, b2, b3⟩ := HXB1.out.cells
  go_wp2_with fail
  refine (ref_make false HS1.out (by have := HL.out; omega) z (by rw [val_limbs]; exact HZ.out)).mono ?_
  rintro e w2 ⟨v2, rfl, hz2, hb2⟩
  have HXR2 := hid (HXR1.out.below hb2)
  have B2 := hid (step_below B1.out hb2)
  have HZ2 := hid hz2
  obtain ⟨ao2, cap2, rfl⟩ := hz2.form
  clear hb2 hz2 a0 a1 a2 a3 b0 b1 b2 b3 HS1 HZ
  have HR3 := hid (HXR2.out)
  obtain ⟨g1, g2, g3⟩ := store_end B2.out HG.out HR3.out HZ2.out
  obtain ⟨c0, c1, f0, f1⟩ := HR3.out.cells
  have hlt := HR3.out.lt
  have HG1 := hid g1
  clear HR3 HZ2 B2 HG HXR2 g1
  generalize zneg (z) = bb at *
  generalize zlim (z) = ll at *
  go_wp2
  exact bodyPost_ret (v := .agg #[.bool bb, .slice ao2 ll.length cap2]) (by simp [results, Tryz.results79, go_sem, g2, g3]) rfl HG1.out

theorem ref_addZ {va vb : Value} {na nb : Bool} {la lb : List Nat} {w : World} (ha : SeesZ w va na la) (hb : SeesZ w vb nb lb) (hla : la.length ≤ 35184372087808) (hlb : lb.length ≤ 35184372087808) :
    Calls Tryz.prog 79 #[va, vb] w fun e w' => IsInt w (zval na la + zval nb lb) e w' := by
  rcases Nat.lt_or_ge (val la) (val lb) with h | h <;> cases na <;> cases nb
  · exact ref_add_same_false ha hb hla hlb
  · exact ref_add_snd_true ha hb hla hlb h
  · exact ref_add_snd_false ha hb hla hlb h
  · exact ref_add_same_true ha hb hla hlb
  · exact ref_add_same_false ha hb hla hlb
  · exact ref_add_fst_false ha hb hla hlb h
  · exact ref_add_fst_true ha hb hla hlb h
  · exact ref_add_same_true ha hb hla hlb
end Go.Proofs.YtjnbonellgpjnaaGreat
