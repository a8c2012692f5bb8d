/- The document's tenth and Text by their contracts; the statements' 'short'. -/
import Derived.Test.YtfjanomjmlcgaaaDoorRef2
import Derived.Test.YtfjanomjmlcgaaaDoorText
set_option linter.unusedVariables false
set_option linter.unusedSimpArgs false
namespace Go.Proofs.YtfjanomjmlcgaaaDoor
open Go.RowKit

/-! ### Bytes in a slice that grows -/
def enc8 (l : List UInt8) : List Value := l.map fun x => Value.int .u8 (x.toNat : Nat)
theorem enc8_length (l : List UInt8) : (enc8 l).length = l.length := by simp [enc8]
theorem enc8_one (l : List UInt8) : ∀ u ∈ enc8 l, u.oneCell' = true := by intro u hu; obtain ⟨x, _, rfl⟩ := List.mem_map.1 hu; rfl
theorem enc8_get (l : List UInt8) (i : Nat) (h : i < l.length) : (enc8 l)[i]? = some (.int .u8 ((l.getD i 0).toNat : Nat)) := by
  unfold enc8
  rw [List.getElem?_map, List.getD_eq_getElem?_getD, List.getElem?_eq_getElem h]; rfl
theorem enc8_append (l m : List UInt8) : enc8 l ++ enc8 m = enc8 (l ++ m) := by simp [enc8]
theorem owns8_some {w : World} {base n : Nat} {v : Value} {l : List UInt8} (h : w.ownsRow base 5 1 v n (enc8 l)) (hn : 0 < n) : ∃ g cap, v = .slice (some ⟨g, 0, none⟩) l.length cap ∧ Row8 w g l ∧ base ≤ g ∧ l.length ≤ cap := by
  obtain ⟨h1, h2⟩ := h
  rw [enc8_length, Nat.mul_one] at h1
  rcases h2 with ⟨_, h2⟩ | ⟨g, cap, cur, rfl, hg, hh, hnc, hm, hs, ht⟩
  · omega
  · refine ⟨g, cap, by rw [h1], ⟨cur, hh, by simp at hs; omega, fun i hi => ?_⟩, hg, by omega⟩
    have : (cur.toList.take (n * 1))[i]? = some (Value.int .u8 ((l.getD i 0).toNat : Nat)) := by
      rw [ht, enc8_get l i hi]
    rw [List.getElem?_take_of_lt (by omega)] at this
    simpa using this
theorem owns_below {w w' : World} {base n size e : Nat} {v : Value} {xs : List Value} (h : w.ownsRow base e size v n xs) (hb : Below w.heap.size w w') : w'.ownsRow base e size v n xs :=
  h.kept (row := none) ⟨hb.os, hb.tape, hb.output, hb.size, fun k hk _ => hb.block k hk⟩ (by
    cases v.ownBlock with
    | none => exact .inl rfl
    | some k => exact .inr (by simp))
theorem news8 (w : World) (c : UInt8) : ∀ j u, (enc8 [c])[j]? = some u → (w.alloc (.cells #[.int .u8 (c.toNat : Nat)] 5)).cell? ((⟨w.heap.size, 0, none⟩ : Addr).add j) = some u := by
  intro j u hj
  match j, hj with
  | 0, hj =>
    simp [enc8] at hj
    subst hj
    simp [Addr.add, go_sem]
  | j + 1, hj => simp [enc8] at hj

/-- A digit's letter as the walk reckons it. -/
theorem digB_val (x : Nat) : ((digB x).toNat : Int) = 48 + (x % 10 : Nat) := by rw [digB_toNat]; omega

theorem pad_snoc (n x : Nat) : pad n x ++ [digB (x / 10 ^ n)] = pad (n + 1) x := by
  unfold pad; rw [List.range_succ, List.map_append]; rfl

theorem pad_exact (i x : Nat) (h : x < 10 ^ (i + 1)) (h' : 10 ^ i ≤ x) : pad (i + 1) x = decR x := by
  induction i generalizing x with
  | zero =>
    rw [pad_succ, decR_pos (by simp at h'; omega)]
    have : x / 10 = 0 := by simp at h; omega
    rw [this, decR_zero]; rfl
  | succ i ih =>
    have h1 : 0 < x := Nat.lt_of_lt_of_le (Nat.pow_pos (by decide)) h'
    rw [pad_succ, decR_pos h1, ih (x / 10) (by rw [Nat.pow_succ] at h; omega) (by rw [Nat.pow_succ] at h'; omega)]

theorem pad_dec (i x : Nat) (h : x / 10 ^ (i + 1) = 0) (h' : i = 0 ∨ 0 < x / 10 ^ i) : (pad (i + 1) x).reverse = dec x := by
  have hx : x < 10 ^ (i + 1) := by
    rcases Nat.lt_or_ge x (10 ^ (i + 1)) with h1 | h1
    · exact h1
    · have := Nat.div_pos h1 (Nat.pow_pos (by decide)); omega
  by_cases h0 : x = 0
  · subst h0
    have : i = 0 := by
      rcases h' with h1 | h1
      · exact h1
      · rw [Nat.zero_div] at h1; omega
    subst this; rfl
  · have hp : 10 ^ i ≤ x := by
      rcases h' with h1 | h1
      · subst h1; simp; omega
      · rcases Nat.lt_or_ge x (10 ^ i) with h2 | h2
        · rw [Nat.div_eq_of_lt h2] at h1; omega
        · exact h2
    rw [pad_exact i x hx hp]
    unfold dec
    rw [if_neg h0]

theorem digits_le {x i L : Nat} (h : 0 < x / 10 ^ i) (hx : x < 4294967296 ^ L) : i < 32 * L := by
  have h1 : 10 ^ i ≤ x := by
    rcases Nat.lt_or_ge x (10 ^ i) with h2 | h2
    · rw [Nat.div_eq_of_lt h2] at h; omega
    · exact h2
  have h2 : 2 ^ i ≤ 10 ^ i := Nat.pow_le_pow_left (by decide) i
  rw [pow_limbs'] at hx
  have h3 : 2 ^ i < 2 ^ (32 * L) := by omega
  exact (Nat.pow_lt_pow_iff_right (by decide)).1 h3

theorem limbs_length_le' {x y L : Nat} (hx : x < 4294967296 ^ L) (hL : L ≤ 1000) (h : y ≤ x) : (limbs y).length ≤ 1000 :=
  Nat.le_trans (limbs_length_le (Nat.lt_of_le_of_lt h hx)) hL

/-- What tenth answers. -/
def IsTenth (w : World) (x : Nat) (e : Ending) (w' : World) : Prop := ∃ (v : Value) (r : Nat), e = .returned (.tuple #[v, .int .i64 r]) ∧ r = x % 10 ∧ r < 10 ∧ Sees w' v (limbs (x / 10)) ∧ Below w.heap.size w w' ∧ Fresh w v

set_option maxHeartbeats 2000000 in
theorem ref_tenth (v : Value) (l : List Nat) (w : World) (h : Sees w v l) (hl : l.length ≤ 1000) :
    Calls Tryd.prog 100 #[v] w fun e w' => IsTenth w (val l) e w' := by
  have hpl := (limbs_prefix h.ok).2
  go_enter Tryd.func100, Tryd.ntmps100
  go_wp2_with fail
  refine (ref_plain _ _ _ h (by omega)).mono ?_
  rintro e w1 ⟨v1, rfl, hb1, ⟨hn, rfl⟩ | ⟨g, c, rfl, hc, hp, hg, hrow⟩⟩
  · have hz := limbs_nil_iff.1 hn
    have HZ := hid hz; have HB1 := hid hb1
    clear hz hn hb1 h
    go_wp2
    refine wp_loop_rounds 1 ?_
    rw [rounds_succ]
    go_wp2_with fail
    refine (ref_plain _ [] _ (Sees.nil _) (by simp)).mono ?_
    intro e w2 hpp
    obtain ⟨v2, rfl, hs2, hb2, hf2⟩ := hpp.fresh (by simp [val_nil, limbs_zero])
    have HS2 := hid hs2; have HB2 := hid (HB1.out.trans (hb2.mono HB1.out.size)); have HF2 := hid (hf2.mono HB1.out.size)
    clear hpp hs2 hb2 hf2
    go_wp2
    go_ret2
    refine ⟨_, 0, rfl, by rw [HZ.out], by omega, ?_, HB2.out, HF2.out⟩
    have := HS2.out
    rw [HZ.out]
    exact this
  · obtain ⟨s, hs⟩ : ∃ s, s = limbs (val l) := ⟨_, rfl⟩
    rw [← hs] at hrow hc hp hpl
    have hsok : Ok s := hs ▸ limbs_ok _
    have hsv : val s = val l := by rw [hs, val_limbs]
    have HSV := hid hsv; have HOK := hid hsok; have HR := hid hrow; have HB1 := hid hb1; have HC := hid hc
    rw [← hs]
    clear hs hsok hsv hrow hb1 hc h
    go_wp2
    go_loopw [5, 6] (fun v5 v6 wr => ∃ (k r : Nat) (t : List Nat), k ≤ s.length ∧ v6 = .int .i64 ((s.length : Int) - 1 - k) ∧ v5 = .int .u64 r ∧ r < 10 ∧ Hid (DivBy s 10 k t r) ∧ Hid (Row wr g t) ∧ Hid (w1.grownBy wr (some g))) (fun _ v _ => (intOf v + 1).toNat)
    case atStart => exact ⟨0, 0, s, Nat.zero_le _, by congr 1; omega, rfl, by omega, DivBy.start HOK.out 10 (by decide), HR, World.grownBy.refl _ _⟩
    case round =>
      obtain ⟨k, r, t, hk, rfl, rfl, hr10, ha, hrow, hgb⟩ := hrel
      by_cases hlt : k < s.length
      · have htl := ha.out.len
        have hca := hrow.out.cell (i := s.length - 1 - k) (by omega)
        have hfr := hrow.out.frozen (s.length - 1 - k)
        have hox := ha.out.ok.getD (s.length - 1 - k)
        have hsame := ha.out.low (s.length - 1 - k) (by omega)
        have hst := ha.out.step hlt
        rw [← hsame] at hst
        have HST := hid hst; have HTL := hid htl
        clear hst hsame htl
        generalize t.getD (s.length - 1 - k) 0 = u at *
        obtain ⟨q, r', hq, hr', he, hdq, hdr⟩ : ∃ q r' : Nat, q < 4294967296 ∧ r' < 10 ∧ r * 4294967296 + u = 10 * q + r' ∧ ((r : Int) * 4294967296 + u) / 10 = (q : Int) ∧ ((r : Int) * 4294967296 + u) % 10 = (r' : Int) :=
          ⟨(r * 4294967296 + u) / 10, (r * 4294967296 + u) % 10, by omega, by omega, by omega, by omega, by omega⟩
        have HStep := hid (HST.out q r' hq hr' he)
        have HRow := hid (hrow.out.set (s.length - 1 - k) q)
        have HG := hid (grownBy_set (i := s.length - 1 - k) (v := .int .u32 (q : Nat)) hgb.out)
        clear he
        go_wp2
        go_roundw
        case rel => exact ⟨k + 1, r', t.set (s.length - 1 - k) q, by omega, by go_num, by first | rfl | rw [hdr], hr', HStep, HRow, HG⟩
        case measure => simp [intOf]; omega
      · obtain rfl : k = s.length := by omega
        have htot := ha.out.total
        have htl := ha.out.len
        have hs4 := hrow.out.sees ha.out.ok 0 s.length c (by omega) HC.out (by omega)
        rw [List.drop_zero, List.take_of_length_le (by omega)] at hs4
        have HB2 : Hid (Below w.heap.size w wr) := HB1.out.grown hgb.out HB1.out.size (fun k e => by simp at e; omega)
        have hpl2 := (limbs_prefix hs4.ok).2
        have hpl3 : (limbs (val t)).length ≤ 1000 := by omega
        have HS4 := hid hs4; have HT := hid htot; have HTL := hid htl
        clear htot htl hs4 ha hrow hgb hpl2
        go_wp2_with fail
        refine (ref_plain _ _ _ HS4.out (by have := HTL.out; omega)).mono ?_
        intro e w5 hpp
        obtain ⟨v5, rfl, hs5, hb5, hf5⟩ := hpp.fresh (by omega)
        have HS5 := hid hs5; have HB5 := hid (HB2.out.trans (hb5.mono HB2.out.size)); have HF5 := hid (hf5.mono HB2.out.size)
        clear hpp hs5 hb5 hf5
        go_wp2
        go_ret2
        refine ⟨_, r, rfl, by rw [HT.out.2, HSV.out], hr10, ?_, HB5.out, HF5.out⟩
        have := HS5.out
        rw [HT.out.1, HSV.out] at this
        exact this
theorem Sees.takeC {w : World} {ao : Option Addr} {len cap : Nat} {l : List Nat} (h : Sees w (.slice ao len cap) l) (n : Nat) (hn : n ≤ l.length) : Sees w (.slice ao n cap) (l.take n) := by
  obtain ⟨h1, h2⟩ := h.len_eq
  have hok := h.ok
  have hlen := h.len
  have hl : (l.take n).length = n := by simp; omega
  refine ⟨ao, cap, by rw [hl], by omega, by omega, hok.take n, fun e => ?_, fun hp => ?_⟩
  · obtain ⟨ao', cap', h1, _, _, _, hn0, _⟩ := h
    simp only [Value.slice.injEq] at h1
    obtain ⟨rfl, _, rfl⟩ := h1
    exact hn0 e
  · obtain ⟨b, o, ha, hcell⟩ := h.at (by omega)
    refine ⟨b, o, ha, fun i hi => ?_⟩
    rw [hl] at hi
    rw [hcell i (by omega), List.getD_eq_getElem?_getD, List.getD_eq_getElem?_getD, List.getElem?_take_of_lt hi]

theorem law_short (v : Value) (l : List Nat) (n : Nat) (w : World) (h : Sees w v l) (hn : n ≤ 1000) :
    Calls Tryd.prog 13 #[v, .int .i64 n] w fun e w' => (∃ v', e = .returned v' ∧ Sees w v' (l.take n)) ∧ w = w' := by
  have hlen := h.len
  have HS := hid h
  obtain ⟨a, c, rfl, hlc, -, -, -, -⟩ := h
  by_cases hl : n < l.length
  · have HT := hid (HS.out.takeC n (by omega))
    obtain ⟨b, o, rfl, -⟩ := HS.out.at (by omega)
    go_enter Tryd.func13, Tryd.ntmps13
    go_wp2
    go_ret
    exact ⟨⟨_, rfl, HT.out⟩, rfl⟩
  · have HT : Hid (Sees w (.slice a l.length c) (l.take n)) := by rw [List.take_of_length_le (by omega)]; exact HS
    go_enter Tryd.func13, Tryd.ntmps13
    go_wp2
    go_ret
    exact ⟨⟨_, rfl, HT.out⟩, rfl⟩

theorem pad_one (x : Nat) : pad 1 x = [digB x] := by simp [pad]

set_option maxRecDepth 100000 in
set_option maxHeartbeats 4000000 in
theorem ref_text (v : Value) (l : List Nat) (w : World) (h : Sees w v l) (hl : l.length ≤ 1000) :
    Calls Tryd.prog 84 #[v] w fun e w' => e = .returned (.string ⟨(dec (val l)).toArray⟩) ∧ Below w.heap.size w w' := by
  have hxl := val_lt h.ok
  have hpl := (limbs_prefix h.ok).2
  obtain ⟨i0, hi, hz0, hz1, hz2⟩ := info_parts info_u8
  go_enter Tryd.func84, Tryd.ntmps84
  go_wp2_with fail
  refine (ref_tenth _ _ _ h hl).mono ?_
  rintro e w1 ⟨q, r, rfl, hr, hr10, hq, hb, -⟩
  obtain ⟨x, hx⟩ : ∃ x, x = val l := ⟨_, rfl⟩
  rw [← hx] at hr hq hxl
  have hdig : (48 + (r : Int)) = ((digB x).toNat : Nat) := by rw [digB_val, ← hr]
  have HX := hid hx; have HXL := hid hxl; have HQ := hid hq; have HB := hid hb; have HR := hid hr; have HD := hid hdig
  have hnews := news8 w1 (digB x)
  have HN := hid hnews
  clear hx hxl hq hb h hr hdig hnews
  have hd2 : (48 + (r : Int)) = ((digB x).toNat : Nat) := HD.out
  generalize hdd : (digB x).toNat = dd at hd2 HN
  have HDD := hid hdd
  clear hdd
  go_wp2_with (at_builtin; refine wpList_append_own _ rfl _ _ 86 rfl w.heap.size 5 i0 (.int .u8 0) 1 1 Tryd.underlying86 hi hz0 hz1 hz2 rfl (by decide) _ _ _ rfl (World.ownsRow_nil _ _ _ _) ⟨w1.heap.size, 0, none⟩ 1 1 (enc8 [digB x]) rfl ?ga ?gb ?gc ?gd ?ge ?gf ?_)
  case ga => simp [enc8_length]
  case gb => exact HN.out
  case gc => exact enc8_one _
  case gd => unfold maxLen; omega
  case ge => omega
  case gf => have := HB.out.size; simp; omega
  intro v5 w2 hown hgrow _
  have hb2 : Below w.heap.size w w2 := (HB.out.alloc HB.out.size _).grown hgrow (by rw [Deep.nblk_alloc]; have := HB.out.size; omega) (fun k e => by simp [Value.ownBlock] at e)
  have hq2 : Sees w2 q (limbs (x / 10)) := HQ.out.mono fun p y hy => by
    have hp := World.block_lt_of_cell? w1 p hy
    have h1 := (Below.cell ((Below.refl w1.heap.size w1).alloc (Nat.le_refl _) (.cells #[.int .u8 (dd : Nat)] 5)) hp).trans hy
    exact hgrow.cell h1 (by simp [Value.ownBlock])
  have HO := hid hown; have HB2 := hid hb2; have HQ2 := hid hq2
  clear hown hgrow hb2 hq2 hd2 HN HDD HB HQ
  go_wp2
  go_loopg [3, 4, 5] (x / 10) (fun y v3 v4 v5 wr => ∃ (i : Nat), Hid (Sees wr v3 (limbs y)) ∧ (limbs y).length ≤ 1000 ∧ Hid (y = x / 10 ^ (i + 1)) ∧ i ≤ 32000 ∧ y ≤ x ∧
      Hid (wr.ownsRow w.heap.size 5 1 v5 (i + 1) (enc8 (pad (i + 1) x))) ∧ Hid (i = 0 ∨ 0 < x / 10 ^ i) ∧ Hid (Below w.heap.size w wr))
  case atStart => exact ⟨0, HQ2.out, limbs_length_le' HXL.out hl (Nat.div_le_self _ _), by show _ = _; simp, by omega, Nat.div_le_self _ _, by rw [pad_one]; exact HO.out, .inl rfl, HB2.out⟩
  case round =>
    obtain ⟨i, hq, hyl, hy, hi32, hyx, hown, hex, hb⟩ := hrel
    have hq' := hq.out
    obtain ⟨Q, qc, rfl, -, -, -, -, -⟩ := hq'
    by_cases hy0 : 0 < gk
    · have hlen : 0 < (limbs gk).length := (limbs_last hy0).1
      have hi2 : i + 1 < 32000 := by
        have := digits_le (x := x) (i := i + 1) (L := l.length) (by rw [← hy.out]; exact hy0) HXL.out
        omega
      go_wp2_with fail
      refine (ref_tenth _ _ _ hq.out hyl).mono ?_
      rw [val_limbs]
      rintro e w3 ⟨q', r', rfl, hr', hr10', hs', hb', hf'⟩
      have hdig : (48 + (r' : Int)) = ((digB gk).toNat : Nat) := by rw [digB_val, ← hr']
      have hown3 := owns_below hown.out hb'
      have HLT := hid hown.out.lt; have HF := hid hf'
      clear hf'
      have hb3 := hb.out.trans (hb'.mono hb.out.size)
      have HN := hid (news8 w3 (digB gk)); have HO3 := hid hown3; have HB3 := hid hb3; have HS3 := hid hs'
      have HDG := hid hdig
      clear hown3 hb3 hs' hr' hdig hb' hq hown hb
      have hd2 : (48 + (r' : Int)) = ((digB gk).toNat : Nat) := HDG.out
      generalize hdd : (digB gk).toNat = d3 at hd2 HN
      clear hdd
      go_wp2_with (at_builtin; refine wpList_append_own _ rfl _ _ 86 rfl w.heap.size 5 i0 (.int .u8 0) 1 1 Tryd.underlying86 hi hz0 hz1 hz2 rfl (by decide) _ _ _ rfl (HO3.out.alloc _) ⟨w3.heap.size, 0, none⟩ 1 1 (enc8 [digB gk]) rfl ?ha ?hb ?hc ?hd ?he ?hf ?_)
      case ha => simp [enc8_length]
      case hb => exact HN.out
      case hc => exact enc8_one _
      case hd => unfold maxLen; omega
      case he => omega
      case hf => have := HB3.out.size; simp; omega
      intro v7 w4 hown4 hgrow _
      rw [enc8_append, hy.out, pad_snoc] at hown4
      have hlt := HO3.out.lt
      have hb4 : Below w.heap.size w w4 := (HB3.out.alloc HB3.out.size _).grown hgrow (by rw [Deep.nblk_alloc]; have := HB3.out.size; omega) (fun k e => (hlt k e).1)
      have hs4 : Sees w4 q' (limbs (gk / 10)) := by
        have h1 := HS3.out.below ((Below.refl w3.heap.size w3).alloc (Nat.le_refl _) (.cells #[.int .u8 (d3 : Nat)] 5))
        exact h1.grown' hgrow (fun a n c e e2 => by
          have h2 := HF.out a n c e
          have h3 := (HLT.out a.block e2.symm).2
          omega)
      have HO4 := hid hown4; have HB4 := hid hb4; have HS4 := hid hs4
      clear HLT HF
      have hyn : gk / 10 = x / 10 ^ (i + 1 + 1) := by rw [hy.out, Nat.pow_succ 10 (i + 1), Nat.div_div_eq_div_mul]
      have HY := hid hyn
      have hx0 : i + 1 = 0 ∨ 0 < x / 10 ^ (i + 1) := .inr (by rw [← hy.out]; exact hy0)
      have HX0 := hid hx0
      clear hown4 hgrow hlt hb4 hs4 hyn hx0 hd2 HN HO3 HB3 HS3
      go_wp2
      go_roundg (gk / 10)
      case rel => exact ⟨i + 1, HS4, limbs_length_le' HXL.out hl (by omega), HY, by omega, by omega, HO4, HX0, HB4⟩
      case measure => omega
    · obtain rfl : gk = 0 := by omega
      rename World => wo
      simp only [limbs_zero, List.length_nil]
      obtain ⟨g, cb, rfl, hrow, -, hlc⟩ := owns8_some hown.out (by omega)
      have hpd := pad_dec i x hy.out.symm hex.out
      have hpl1 := pad_length (i + 1) x
      rw [hpl1]
      rw [hpl1] at hlc
      have HPD := hid hpd; have HPL := hid hpl1; have HROW := hid hrow
      have hglt := hrow.lt
      obtain ⟨bs, hbs⟩ : ∃ bs, bs = pad (i + 1) x := ⟨_, rfl⟩
      rw [← hbs] at HPD HPL HROW
      clear hpd hpl1 hrow hbs hown hex hq hy
      go_wp2
      go_loopg [6, 7] (i + 1) (fun n v6 v7 wr => ∃ (j : Nat), n = i + 1 - j ∧ j ≤ i + 1 ∧ v7 = .int .i64 ((i : Int) - j) ∧ Hid (wr.ownsRow wo.heap.size 5 1 v6 j (enc8 (bs.reverse.take j))) ∧ Hid (Row8 wr g bs) ∧ Hid (Below w.heap.size w wr) ∧ Hid (wo.heap.size ≤ wr.heap.size))
      case atStart => exact ⟨0, by omega, by omega, by simp, World.ownsRow_nil wo wo.heap.size 5 1, HROW, hb, Nat.le_refl _⟩
      case round =>
        obtain ⟨j, hgk, hj, rfl, ho6, hr8, hb6, hsz6⟩ := hrel
        have HGK := hid hgk
        clear hgk
        by_cases hjn : j < i + 1
        · have hca := hr8.out.cell (i := i - j) (by have := HPL.out; omega)
          have htk : bs.reverse.take j ++ [bs.getD (i - j) 0] = bs.reverse.take (j + 1) := by
            rw [List.take_succ_eq_append_getElem (by rw [List.length_reverse, HPL.out]; exact hjn)]
            congr 2
            rw [List.getElem_reverse, List.getD_eq_getElem?_getD, List.getElem?_eq_getElem (by have := HPL.out; omega)]
            simp only [Option.getD_some]
            congr 1
            have := HPL.out; omega
          have HTK := hid htk
          clear htk
          generalize bs.getD (i - j) 0 = cc at *
          have HN := hid (news8 wr cc)
          generalize hdd : cc.toNat = dd2 at *
          have hlt6 := hid ho6.out.lt
          clear hdd
          go_wp2_with (at_builtin; refine wpList_append_own _ rfl _ _ 86 rfl wo.heap.size 5 i0 (.int .u8 0) 1 1 Tryd.underlying86 hi hz0 hz1 hz2 rfl (by decide) _ _ _ rfl (ho6.out.alloc _) ⟨wr.heap.size, 0, none⟩ 1 1 (enc8 [cc]) rfl ?ka ?kb ?kc ?kd ?ke ?kf ?_)
          case ka => simp [enc8_length]
          case kb => exact HN.out
          case kc => exact enc8_one _
          case kd => unfold maxLen; omega
          case ke => omega
          case kf => have := hsz6.out; simp; omega
          intro v7 w4 hown4 hgrow _
          rw [enc8_append, HTK.out] at hown4
          have hb4 : Below w.heap.size w w4 := (hb6.out.alloc hb6.out.size _).grown hgrow (by rw [Deep.nblk_alloc]; have := hb6.out.size; omega) (fun k e => by have h1 := (hlt6.out k e).1; have h2 := hb.out.size; omega)
          have hr4 : Row8 w4 g bs := (hr8.out.of_block (w' := wr.alloc (.cells #[.int .u8 (dd2 : Nat)] 5)) (Deep.blk_alloc_lt _ _ _ hr8.out.lt)).grown hgrow (fun e => by have h1 := (hlt6.out g e.symm).1; omega)
          have hs4 : wo.heap.size ≤ w4.heap.size := by have h1 := hgrow.size; have h2 := hsz6.out; rw [Deep.nblk_alloc] at h1; omega
          have H1 := hid hown4; have H2 := hid hb4; have H3 := hid hr4; have H4 := hid hs4
          clear hown4 hgrow hb4 hr4 hs4 hlt6 HN
          go_wp2
          go_roundg (i + 1 - (j + 1))
          case rel => exact ⟨j + 1, rfl, by omega, by go_num, H1, H3, H2, H4⟩
          case measure => have := HGK.out; omega
        · obtain rfl : j = i + 1 := by omega
          obtain ⟨g6, c6, rfl, hrow6, -, hlc6⟩ := owns8_some ho6.out (by omega)
          have hrv : bs.reverse.take (i + 1) = dec x := by rw [List.take_of_length_le (by rw [List.length_reverse, HPL.out]; exact Nat.le_refl _), HPD.out]
          rw [hrv] at hrow6
          rw [hrv]
          have hcv := run_convert_bytes_back (P := Tryd.prog) wr 86 9 5 ⟨g6, 0, none⟩ c6 (dec x) Tryd.underlying86 Tryd.underlying5 Tryd.underlying9 (fun j hj => by
            have hadd : (⟨g6, 0, none⟩ : Addr).add j = ⟨g6, j, none⟩ := by simp [Addr.add]; omega
            rw [hadd, hrow6.cell hj, List.getD_eq_getElem?_getD, List.getElem?_eq_getElem hj]; rfl)
          clear hrow6 hrv hlc6 ho6
          go_wp2
          go_ret
          exact ⟨by rw [HX.out]; rfl, hb6.out⟩
end Go.Proofs.YtfjanomjmlcgaaaDoor
