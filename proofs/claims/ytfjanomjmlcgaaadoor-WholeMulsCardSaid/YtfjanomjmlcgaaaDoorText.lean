/- nat.writeGroup, nat.Text by their contracts. -/
import Derived.Test.YtfjanomjmlcgaaaDoorDec
import Derived.Test.YtfjanomjmlcgaaaDoorDiv1
import Derived.Test.YtfjanomjmlcgaaaDoorShelf
set_option linter.unusedVariables false
set_option linter.unusedSimpArgs false
namespace Go.Proofs.YtfjanomjmlcgaaaDoor
open Go.RowKit

/-- What writeGroup leaves. -/
def GroupWritten (w : World) (g o n x : Nat) (s : List UInt8) (e : Ending) (w' : World) : Prop :=
  ∃ t, e = .returned (.tuple #[]) ∧ Wrote s o n x n t ∧ Row8 w' g t ∧ w.grownBy w' (some g)

theorem nat_writeGroup (g o n cap x : Nat) (s : List UInt8) (w : World) (hr : Row8 w g s) (hx : x < 4294967296) (hn : o + n ≤ s.length) (hn' : n ≤ 1000) :
    Calls Tryd.prog 94 #[.slice (some ⟨g, o, none⟩) n cap, .int .u32 x] w fun e w' => GroupWritten w g o n x s e w' := by
  have HR := hid hr
  clear hr
  go_enter Tryd.func94, Tryd.ntmps94
  go_wp2
  go_loopw [1, 7] (fun v1 v wr => ∃ (k y : Nat) (t : List UInt8), k ≤ n ∧ v = .int .i64 k ∧ v1 = .int .u32 y ∧ y < 4294967296 ∧ Hid (y = x / 10 ^ k) ∧ Hid (Wrote s o n x k t) ∧ Hid (Row8 wr g t) ∧ Hid (w.grownBy wr (some g))) (fun _ v _ => n - (intOf v).toNat)
  case atStart => exact ⟨0, x, s, Nat.zero_le _, rfl, rfl, hx, by show _ = _; simp, Wrote.start s o n x, HR, World.grownBy.refl _ _⟩
  case round =>
    obtain ⟨k, y, t, hk, rfl, rfl, hy, hye, ha, hrow, hg⟩ := hrel
    by_cases hlt : k < n
    · have htl := ha.out.len
      have hca := hrow.out.cell (i := o + (n - 1 - k)) (by omega)
      have hfr := hrow.out.frozen (o + (n - 1 - k))
      have hstep := ha.out.step hlt hn
      have hval : ((digB (x / 10 ^ k)).toNat : Int) = 48 + (y : Int) % 10 := by rw [digB_toNat, ← hye.out]; omega
      have hrow' := hrow.out.set (o + (n - 1 - k)) (digB (x / 10 ^ k))
      rw [hval] at hrow'
      have hg' := grownBy_set (i := o + (n - 1 - k)) (v := .int .u8 (48 + (y : Int) % 10)) hg.out
      have hy' : y / 10 = x / 10 ^ (k + 1) := by rw [hye.out, Nat.pow_succ, Nat.div_div_eq_div_mul]
      have HStep := hid hstep; have HRow := hid hrow'; have HG := hid hg'; have HY := hid hy'
      clear hstep hval hrow' hg' hy' hye
      generalize (t.getD (o + (n - 1 - k)) 0).toNat = u at *
      go_wp2
      go_roundw
      case rel => exact ⟨k + 1, y / 10, t.set (o + (n - 1 - k)) (digB (x / 10 ^ k)), by omega, by go_num, by go_num, by omega, HY, HStep, HRow, HG⟩
      case measure => simp [intOf]; omega
    · obtain rfl : k = n := by omega
      go_wp2
      go_end0
      exact ⟨t, rfl, ha.out, hrow.out, hg.out⟩
theorem info_u8 : (Tryd.prog.info? 5).map (fun i => (i.zero, i.size, i.bytes)) = some (some (.int .u8 0), 1, 1) := by kernel_rfl

/-- The groups of nine digits, the lowest first. -/
def Groups (x : Nat) (gs : List Nat) : Prop := ∀ j, j < gs.length → gs.getD j 0 = x / 1000000000 ^ j % 1000000000
theorem Groups.push {x : Nat} {gs : List Nat} (h : Groups x gs) (r : Nat) (hr : r = x / 1000000000 ^ gs.length % 1000000000) : Groups x (gs ++ [r]) := by
  intro j hj
  rw [List.length_append] at hj
  simp only [List.length_singleton] at hj
  rw [List.getD_eq_getElem?_getD]
  by_cases e : j < gs.length
  · rw [List.getElem?_append_left e, ← List.getD_eq_getElem?_getD]; exact h j e
  · have : j = gs.length := by omega
    subst this
    rw [List.getElem?_append_right (Nat.le_refl _)]
    simpa using hr

theorem pow_nine (i : Nat) : 1000000000 ^ i = 10 ^ (9 * i) := by rw [Nat.pow_mul]

theorem pow_limbs' (k : Nat) : 4294967296 ^ k = 2 ^ (32 * k) := by rw [Nat.pow_mul]

/-- So many rounds at most. -/
theorem rounds_le {x i L : Nat} (h : 0 < x / 1000000000 ^ i) (hx : x < 4294967296 ^ L) : i < 32 * L := by
  have h1 : 1000000000 ^ i ≤ x := by
    rcases Nat.lt_or_ge x (1000000000 ^ i) with h2 | h2
    · rw [Nat.div_eq_of_lt h2] at h; omega
    · exact h2
  have h2 : 2 ^ i ≤ 1000000000 ^ i := Nat.pow_le_pow_left (by decide) i
  rw [pow_limbs'] at hx
  have h3 : 2 ^ i < 2 ^ (32 * L) := by omega
  exact (Nat.pow_lt_pow_iff_right (by decide)).1 h3

theorem digB_congr {a b : Nat} (h : a % 10 = b % 10) : digB a = digB b := by unfold digB; rw [h]
theorem group_digit (x i r : Nat) (hr : r < 9) : digB (x / 1000000000 ^ i % 1000000000 / 10 ^ r) = digB (x / 10 ^ (9 * i + r)) := by
  apply digB_congr
  have e : 1000000000 = 10 ^ r * 10 ^ (9 - r) := by rw [← Nat.pow_add]; rw [show r + (9 - r) = 9 from by omega]
  have h1 : x / 1000000000 ^ i % 1000000000 / 10 ^ r = x / 1000000000 ^ i / 10 ^ r % 10 ^ (9 - r) := by
    conv => lhs; rw [show (x / 1000000000 ^ i % 1000000000) = x / 1000000000 ^ i % (10 ^ r * 10 ^ (9 - r)) from by rw [← e]]
    exact Nat.mod_mul_right_div_self _ _ _
  rw [h1, Nat.mod_mod_of_dvd _ (by
    obtain ⟨d, hd⟩ : ∃ d, 9 - r = d + 1 := ⟨8 - r, by omega⟩
    rw [hd, Nat.pow_succ]; exact Nat.dvd_mul_left _ _), pow_nine, Nat.div_div_eq_div_mul, ← Nat.pow_add]

/-- What has been written behind i groups. -/
def Digits (x K i : Nat) (t : List UInt8) : Prop := t.length = 9 * K ∧ ∀ j, j < 9 * i → t.getD (9 * K - 1 - j) 0 = digB (x / 10 ^ j)
theorem Digits.step {x K i : Nat} {t t' : List UInt8} (h : Digits x K i t) (hi : i < K) (hw : Wrote t (9 * K - 9 * i - 9) 9 (x / 1000000000 ^ i % 1000000000) 9 t') : Digits x K (i + 1) t' := by
  obtain ⟨h1, h2⟩ := h
  refine ⟨by rw [hw.len]; exact h1, fun j hj => ?_⟩
  by_cases e : j < 9 * i
  · rw [hw.out _ (.inr (by omega))]; exact h2 j e
  · have hd := hw.dig (j - 9 * i) (by omega)
    have e1 : 9 * K - 9 * i - 9 + 9 - 1 - (j - 9 * i) = 9 * K - 1 - j := by omega
    have e2 : 9 * i + (j - 9 * i) = j := by omega
    rw [e1, group_digit _ _ _ (by omega), e2] at hd
    exact hd
theorem Digits.done {x K : Nat} {t : List UInt8} (h : Digits x K K t) : t = (pad (9 * K) x).reverse := by
  obtain ⟨h1, h2⟩ := h
  apply List.ext_getElem?
  intro j
  by_cases hj : j < 9 * K
  · have := h2 (9 * K - 1 - j) (by omega)
    rw [show 9 * K - 1 - (9 * K - 1 - j) = j from by omega, List.getD_eq_getElem?_getD, List.getElem?_eq_getElem (by omega)] at this
    rw [List.getElem?_eq_getElem (by omega), List.getElem?_reverse (by rw [pad_length]; exact hj), pad_length]
    unfold pad
    rw [List.getElem?_map, List.getElem?_range (by omega)]
    simpa using this
  · rw [List.getElem?_eq_none (by omega), List.getElem?_eq_none (by rw [List.length_reverse, pad_length]; omega)]

theorem text_zero (v : Value) (l : List Nat) (w : World) (h : Sees w v l) (hl : l.length ≤ 1000) (h0 : val l = 0) :
    Calls Tryd.prog 65 #[v] w fun e w' => e = .returned (.string ⟨(dec (val l)).toArray⟩) ∧ Below w.heap.size w w' := by
  have hd : Hid (dec (val l) = [48]) := by rw [h0]; rfl
  go_enter Tryd.func65, Tryd.ntmps65
  go_wp2_with fail
  refine (plain_any _ _ _ h (by omega)).mono ?_
  rintro e w1 ⟨v1, rfl, hb, ⟨-, rfl⟩ | ⟨g, c, -, -, hp, -, -⟩⟩
  · clear h h0
    go_wp2
    go_ret
    exact ⟨by rw [hd.out]; rfl, hb⟩
  · rw [h0] at hp; simp [limbs_zero] at hp

set_option maxHeartbeats 2000000 in
theorem text_pos (v : Value) (l : List Nat) (w : World) (h : Sees w v l) (hl : l.length ≤ 1000) (h0 : 0 < val l) :
    Calls Tryd.prog 65 #[v] w fun e w' => e = .returned (.string ⟨(dec (val l)).toArray⟩) ∧ Below w.heap.size w w' := by
  have hxl := val_lt h.ok
  have hp2 := Nat.le_trans (limbs_prefix h.ok).2 hl
  obtain ⟨i0, hi, hz0, hz1, hz2⟩ := info_parts info_u32
  go_enter Tryd.func65, Tryd.ntmps65
  go_wp2_with fail
  refine (plain_any _ _ _ h (by omega)).mono ?_
  rintro e w1 ⟨v1, rfl, hb, ⟨hn, -⟩ | ⟨g, c, rfl, hc, hp, hg, hrow⟩⟩
  · exact absurd (limbs_nil_iff.1 hn) (by omega)
  have hgl := hrow.lt
  obtain ⟨x, hx⟩ : ∃ x, x = val l := ⟨_, rfl⟩
  rw [← hx] at hrow hp hc hxl h0 hp2
  rw [← hx]
  have HX := hid hx; have HXL := hid hxl; have HROW := hid hrow; have HB := hid hb
  clear hx hxl hrow hb h
  have hb0 : (((limbs x).length : Int) == 0) = false := by rw [beq_eq_false_iff_ne]; omega
  go_wp2
  go_loopg [3, 4] x (fun y v3 v4 wr => ∃ (R : Option Addr) (c' : Nat) (gs : List Nat), v3 = .slice R (limbs y).length c' ∧ Hid ((limbs y).length ≤ c') ∧ (limbs y).length ≤ 1000 ∧ Hid (0 < (limbs y).length → R = some ⟨g, 0, none⟩) ∧ Hid (y = x / 1000000000 ^ gs.length) ∧ gs.length ≤ 32001 ∧
      Hid (Groups x gs) ∧ Hid (Ok gs) ∧ Hid (wr.ownsRow w1.heap.size 57 1 v4 gs.length (enc gs)) ∧ Hid (0 < y → Row wr g (limbs y)) ∧ Hid (Below w.heap.size w wr) ∧ Hid (w1.heap.size ≤ wr.heap.size))
  case atStart =>
    exact ⟨some ⟨g, 0, none⟩, c, [], rfl, hc, hp2, fun _ => rfl, by show _ = _; simp, by simp, fun j hj => absurd hj (by simp), Ok.nil, World.ownsRow_nil _ _ _ _, fun _ => HROW.out, HB.out, Nat.le_refl _⟩
  case round =>
    obtain ⟨R, c', gs, rfl, hc', hyl, hR, hy, hgl2, hG, hGok, hown, hrow, hb, hsz⟩ := hrel
    by_cases hy0 : 0 < gk
    · have hlen : 0 < (limbs gk).length := (limbs_last hy0).1
      obtain rfl := hR.out hlen
      have hrow' := hrow.out hy0
      have hgs : gs.length < 32000 := by
        have := rounds_le (x := x) (i := gs.length) (L := l.length) (by rw [← hy.out]; exact hy0) HXL.out
        omega
      have hby := hown.out.lt
      go_wp2_with fail
      refine (nat_divideInPlace g c' 1000000000 (limbs gk) wr hrow' (limbs_ok gk) (by decide) (by decide) (by omega)).mono ?_
      rintro e w2 ⟨t, r, rfl, hr, hrlt, htl, htok, htv, hrow2, hgb⟩
      rw [val_limbs] at hr htv
      have hown2 : w2.ownsRow w1.heap.size 57 1 u4 gs.length (enc gs) := hown.out.kept hgb (by
        rcases hb4 : u4.ownBlock with _ | k
        · exact .inl rfl
        · refine .inr (fun e => ?_)
          have := (hby k hb4).1
          simp at e; omega)
      have hsz2 : w1.heap.size ≤ w2.heap.size := Nat.le_trans hsz.out hgb.size
      have hb2 : Below w.heap.size w w2 := hb.out.grown hgb hb.out.size (fun k e => by simp at e; omega)
      have hs2 := hrow2.sees htok 0 (limbs gk).length c' (by omega) hc'.out (by omega)
      rw [List.drop_zero, List.take_of_length_le (by omega)] at hs2
      have HOWN2 := hid hown2; have HSZ2 := hid hsz2; have HB2 := hid hb2; have HS2 := hid hs2; have HROW2 := hid hrow2
      have HRE := hid hr; have HTV := hid htv; have HBY := hid hby
      have hnews : ∀ j u, (enc [r])[j]? = some u → (w2.alloc (.cells #[.int .u32 (r : Nat)] 57)).cell? ((⟨w2.heap.size, 0, none⟩ : Addr).add j) = some u :=
        (sees_lit w2 [r] (Ok.cons (by omega) Ok.nil) (by simp)).news
      have HN := hid hnews
      clear hown2 hsz2 hb2 hs2 hrow2 hr htv hby hgb hnews hown hrow hrow' hb hsz hR htl htok
      go_wp2_with (at_builtin; refine wpList_append_own _ rfl _ _ 22 rfl w1.heap.size 57 i0 (.int .u32 0) 1 4 Tryd.underlying22 hi hz0 hz1 hz2 rfl (by decide) _ _ _ rfl (HOWN2.out.alloc _) ⟨w2.heap.size, 0, none⟩ 1 1 (enc [r]) rfl ?qc1 ?qc2 ?qc3 ?qc4 ?qc5 ?qc6 ?_)
      case qc1 => simp [enc_length]
      case qc2 => exact HN.out
      case qc3 => exact enc_one _
      case qc4 => unfold maxLen; omega
      case qc5 => omega
      case qc6 => have := HSZ2.out; simp; omega
      intro v' w4 hown4 hgrow _
      have hgw : some g ≠ u4.ownBlock := fun e => by have := (HBY.out g e.symm).1; omega
      have hrow4 : Row w4 g t := (HROW2.out.alloc _).grown hgrow hgw
      have hsz4 : w1.heap.size ≤ w4.heap.size := by have h1 := hgrow.size; have h2 := HSZ2.out; rw [Deep.nblk_alloc] at h1; omega
      have hb4 : Below w.heap.size w w4 := (HB2.out.alloc HB2.out.size _).grown hgrow (by rw [Deep.nblk_alloc]; have := HB2.out.size; omega) (fun k e => by have := (HBY.out k e).1; omega)
      have hs4 : Sees w4 (.slice (some ⟨g, 0, none⟩) (limbs gk).length c') t := by
        have hl2 := HS2.out.len_eq
        have := hrow4.sees HS2.out.ok 0 (limbs gk).length c' (by omega) hc'.out (by omega)
        rwa [List.drop_zero, List.take_of_length_le (by omega)] at this
      rw [enc_append] at hown4
      have hl2 := HS2.out.len_eq.1
      have HOWN4 := hid hown4; have HROW4 := hid hrow4; have HSZ4 := hid hsz4; have HB4 := hid hb4; have HS4 := hid hs4; have HL2 := hid hl2
      clear hown4 hgrow hgw hrow4 hsz4 hb4 hs4 hl2 HOWN2 HSZ2 HB2 HS2 HROW2 HN HBY
      go_wp2_with fail
      refine (trim_sees _ _ _ _ _ HS4.out).mono ?_
      rw [HTV.out]
      rintro e w5 ⟨⟨R', rfl, hR', hRR⟩, rfl⟩
      have hpre := limbs_prefix HS4.out.ok
      rw [HTV.out] at hpre
      have hrow5 := HROW4.out.take (limbs (gk / 1000000000)).length
      rw [← hpre.1] at hrow5
      have hok2 : Ok (gs ++ [r]) := hGok.out.append (Ok.cons (by omega) Ok.nil)
      have hgr := hG.out.push r (by rw [HRE.out, hy.out])
      have hyn : gk / 1000000000 = x / 1000000000 ^ (gs ++ [r]).length := by
        rw [hy.out, List.length_append, List.length_singleton, Nat.pow_succ, Nat.div_div_eq_div_mul]
      have hgl3 : (gs ++ [r]).length = gs.length + 1 := by simp
      have hlle : (limbs (gk / 1000000000)).length ≤ (limbs gk).length := by have := HL2.out; omega
      have HGL := hid hgl3
      have HOWN5 : Hid (w4.ownsRow w1.heap.size 57 1 v' (gs ++ [r]).length (enc (gs ++ [r]))) := by rw [HGL.out]; exact HOWN4.out
      have H1 := hid hrow5; have H2 := hid hok2; have H3 := hid hgr; have H4 := hid hyn; have H5 := hid hRR
      have H6 : Hid ((limbs (gk / 1000000000)).length ≤ c') := Nat.le_trans hlle hc'.out
      clear hpre hrow5 hok2 hgr hyn hgl3 hRR hR' HOWN4
      go_wp2
      go_roundg (gk / 1000000000)
      case rel => exact ⟨R', (limbs (gk / 1000000000)).length, gs ++ [r], rfl, Nat.le_refl _, by omega, H5, H4, by have := HGL.out; omega, H3, H2, HOWN5, fun _ => H1.out, HB4, HSZ4⟩
      case measure => omega
    · obtain rfl : gk = 0 := by omega
      rename World => wo
      simp only [limbs_zero, List.length_nil]
      have hK : 0 < gs.length := by
        rcases Nat.eq_zero_or_pos gs.length with h1 | h1
        · have := hy.out; rw [h1] at this; simp at this; omega
        · exact h1
      have hxK : x < 10 ^ (9 * gs.length) := by
        rw [← pow_nine]
        rcases Nat.lt_or_ge x (1000000000 ^ gs.length) with h1 | h1
        · exact h1
        · have h2 := Nat.div_pos h1 (Nat.pos_of_ne_zero (by simp)); have := hy.out; omega
      have hnil : u4 ≠ .slice none 0 0 := fun e => by
        rcases hown.out.2 with ⟨_, h2⟩ | ⟨g2, cap2, cur2, h2, _⟩
        · omega
        · rw [e] at h2; cases h2
      obtain ⟨g2, c2, rfl, hrow2, hg2, hlc2, hc2⟩ := owns_some hown.out hnil
      have HR2 := hid hrow2; have HXK := hid hxK
      have hlt2 := hrow2.lt
      clear hnil hrow2 hxK hown hrow hR hc' hc2
      have hmk := run_make_row' (P := Tryd.prog) 86 5 (.int .u8 0) 1 Tryd.underlying86 info_u8 rfl .i64 .i64 (9 * gs.length) (by omega) (by omega)
      have ec : ((9 * gs.length : Nat) : Int) = 9 * (gs.length : Int) := by omega
      rw [ec] at hmk
      clear ec
      have HM := hid (Row8.made wo (9 * gs.length))
      have HB2 : Hid (Below w.heap.size w (wo.alloc (.cells (madeCells #[Value.int .u8 0] (9 * gs.length)) 5))) := hb.out.alloc hb.out.size _
      have HR3 : Hid (Row (wo.alloc (.cells (madeCells #[Value.int .u8 0] (9 * gs.length)) 5)) g2 gs) := HR2.out.alloc _
      have HSZ2 := hid hb.out.size
      obtain ⟨w6, hw6⟩ : ∃ w6, w6 = wo.alloc (.cells (madeCells #[Value.int .u8 0] (9 * gs.length)) 5) := ⟨_, rfl⟩
      have HW6 := hid hw6.symm
      rw [← hw6] at HM HB2 HR3
      clear hw6 hb
      go_wp2
      go_loopw [30] (fun v wn => ∃ (i : Nat) (t : List UInt8), i ≤ gs.length ∧ v = .int .i64 i ∧ Hid (Digits x gs.length i t) ∧ Hid (Row8 wn wo.heap.size t) ∧ Hid (w6.grownBy wn (some wo.heap.size))) (fun v _ => gs.length - (intOf v).toNat)
      case atStart => exact ⟨0, List.replicate (9 * gs.length) 0, Nat.zero_le _, rfl, ⟨by simp, fun j hj => absurd hj (by omega)⟩, by rw [HW6.out]; exact HM.out, by rw [HW6.out]; exact World.grownBy.refl _ _⟩
      case round =>
        obtain ⟨i, t, hi', rfl, hd, hrow8, hgb⟩ := hrel
        by_cases hlt : i < gs.length
        · have hcell := (HR3.out.grown hgb.out (fun e => by simp at e; omega)).cell hlt
          have hgv := hG.out i hlt
          have hgok := hGok.out.getD i
          have hdl := hd.out.1
          have HGV := hid hgv
          clear hgv
          generalize hgi : gs.getD i 0 = gi at *
          clear hgi
          have HDL := hid hdl
          clear hdl
          go_wp2_with fail
          refine (nat_writeGroup wo.heap.size (9 * gs.length - 9 * i - 9) (9 * gs.length - 9 * i - (9 * gs.length - 9 * i - 9)) _ gi t wr hrow8.out hgok (by have := HDL.out; omega) (by omega)).mono ?_
          rintro e w8 ⟨t', rfl, hw, hrow', hgb'⟩
          have e9 : 9 * gs.length - 9 * i - (9 * gs.length - 9 * i - 9) = 9 := by omega
          rw [e9, HGV.out] at hw
          have hd' := hd.out.step hlt hw
          have H1 := hid hd'; have H2 := hid hrow'; have H3 := hid (grownBy_trans hgb.out hgb')
          clear hd' hrow' hw hgb' e9 hcell
          go_wp2
          go_roundw
          case rel => exact ⟨i + 1, t', by omega, by go_num, H1, H2, H3⟩
          case measure => simp [intOf]; omega
        · obtain rfl : i = gs.length := by omega
          have hdone := hd.out.done
          have hlen : t.length = 9 * gs.length := hd.out.1
          have hcv := run_convert_bytes_back (P := Tryd.prog) wr 86 9 5 ⟨wo.heap.size, 0, none⟩ (9 * gs.length) t Tryd.underlying86 Tryd.underlying5 Tryd.underlying9 (fun j hj => by
            have hadd : (⟨wo.heap.size, 0, none⟩ : Addr).add j = ⟨wo.heap.size, j, none⟩ := by simp [Addr.add]; omega
            rw [hadd, hrow8.out.cell hj, List.getD_eq_getElem?_getD, List.getElem?_eq_getElem hj]; rfl)
          rw [hlen] at hcv
          have HD := hid hdone
          have HBX : Hid (Below w.heap.size w wr) := HB2.out.grown hgb.out HB2.out.size (fun k e => by have := HSZ2.out; simp at e; omega)
          clear hdone hlen hd
          go_wp2_with fail
          refine (Tryd.strings_TrimLeft_one ⟨t.toArray⟩ 48 (by decide) wr).mono ?_
          rintro e w9 ⟨rfl, rfl⟩
          go_wp2
          go_ret
          refine ⟨?_, HBX.out⟩
          have hfin : Lib.trimLeftB t 48 = dec x := by
            rw [HD.out]; exact trim_pad _ _ HXK.out h0
          rw [← HX.out]
          simp [hfin]

theorem nat_text (v : Value) (l : List Nat) (w : World) (h : Sees w v l) (hl : l.length ≤ 1000) :
    Calls Tryd.prog 65 #[v] w fun e w' => e = .returned (.string ⟨(dec (val l)).toArray⟩) ∧ Below w.heap.size w w' := by
  rcases Nat.eq_zero_or_pos (val l) with h0 | h0
  · exact text_zero v l w h hl h0
  · exact text_pos v l w h hl h0
end Go.Proofs.YtfjanomjmlcgaaaDoor
