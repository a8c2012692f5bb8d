/- whole.Parse by its contract; the document's. -/
import Derived.Test.YtjnibefigglcjaaDoorZ11
set_option linter.unusedVariables false
set_option linter.unusedSimpArgs false
namespace Go.Proofs.YtjnibefigglcjaaDoor
open Go.RowKit

/-- The error that Parse of layer 2 tells; the whole number. -/
noncomputable def errZ (s : ByteArray) : Nat := if errT (restS s) ≠ 0 then errT (restS s) else if minusB s = true ∧ val (lstT (restS s)) = 0 then 10 else 0
noncomputable def valZ (s : ByteArray) : Int := if errZ s = 0 then (if minusB s = true then -(val (lstT (restS s)) : Int) else (val (lstT (restS s)) : Int)) else 0
theorem lstT_plain (t : ByteArray) : lstT t = limbs (val (lstT t)) := by
  unfold lstT
  split
  · rw [val_limbs]
  · rfl
theorem lstT_len (t : ByteArray) : (lstT t).length ≤ 10000 := by
  unfold lstT
  split
  · next h =>
    have hN : Numeral t ∧ t.size ≤ 10000 := by
      by_cases hn : Numeral t
      · refine ⟨hn, ?_⟩
        rcases Nat.lt_or_ge 10000 t.size with h1 | h1
        · rw [(errT_long hn h1).1] at h; cases h
        · exact h1
      · rw [(errT_text hn).1] at h; cases h
    have h1 := numP_lt t t.size hN.1.2.2
    have h2 : numP t t.size < 4294967296 ^ t.size := Nat.lt_of_lt_of_le h1 (Nat.pow_le_pow_left (by decide) _)
    have := limbs_length_le h2
    omega
  · simp
theorem errT_cases (t : ByteArray) : errT t = 0 ∨ errT t = 2 ∨ errT t = 10 := by
  by_cases h : Numeral t
  · rcases Nat.lt_or_ge 10000 t.size with hl | hl
    · exact .inr (.inl (errT_long h hl).1)
    · exact .inl (errT_ok h hl).1
  · exact .inr (.inr (errT_text h).1)
theorem zero_isZ (w : World) : IsZ w (.agg #[.bool false, .slice none 0 0]) 0 := ⟨_, rfl, Sees.nil w⟩

/-- What Parse of layer 2 tells. -/
def ParseIs (w : World) (s : ByteArray) (e : Ending) (w' : World) : Prop := ∃ v, e = .returned (.tuple #[v, .int .i64 (errZ s : Nat)]) ∧ IsZ w' v (valZ s) ∧ Below w.heap.size w w'

set_option maxRecDepth 100000 in
set_option maxHeartbeats 2000000 in
theorem whole_parse (s : ByteArray) (w : World) (hs : s.size ≤ 140737488355328) :
    Calls Tryd.prog 48 #[.string s] w fun e w' => ParseIs w s e w' := by
  have HB := hid (box_below (w := w) false (.slice none 0 0))
  have HX := hid (Box.new w (.bool false) (.slice none 0 0) 34)
  have hrs := rest_size s
  have hpl := lstT_plain (restS s)
  have hll := lstT_len (restS s)
  have hE : errZ s = if errT (restS s) ≠ 0 then errT (restS s) else if minusB s = true ∧ val (lstT (restS s)) = 0 then 10 else 0 := rfl
  have hV : valZ s = if errZ s = 0 then (if minusB s = true then -(val (lstT (restS s)) : Int) else (val (lstT (restS s)) : Int)) else 0 := rfl
  have HCUT := hid (fun w => cut_minus s w hs)
  go_enter Tryd.func48, Tryd.ntmps48
  obtain ⟨w0, hw0⟩ : ∃ x, x = w.alloc (.cells #[.bool false, .slice none 0 0] 34) := ⟨_, rfl⟩
  rw [← hw0] at HB HX
  have HW := hid hw0.symm
  have hprs := fun w => nat_parse_any (restS s) w (by omega)
  have herr := errT_cases (restS s)
  obtain ⟨E, hEe⟩ : ∃ E, errT (restS s) = E := ⟨_, rfl⟩
  obtain ⟨L, hLe⟩ : ∃ L, lstT (restS s) = L := ⟨_, rfl⟩
  obtain ⟨b, hb⟩ : ∃ b, minusB s = b := ⟨_, rfl⟩
  simp only [hEe, hLe, hb] at hE hV hprs hpl hll herr
  have HPRS := hid hprs; have HE := hid hE; have HV := hid hV; have HPL := hid hpl; have HBB := hid hb
  have hs0 := HB.out.size
  clear hw0 hprs hE hV hpl hEe hLe hb
  simp only [HBB.out] at HCUT
  go_wp2_with fail
  rw [HW.out]
  refine (HCUT.out _).mono ?_
  rintro e w' ⟨rfl, rfl⟩
  go_wp2_with fail
  refine (HPRS.out _).mono ?_
  rintro e w1 ⟨v1, rfl, hs1, hb1⟩
  have HB1 := hid (step_below HB.out hb1)
  have HX1 := hid (HX.out.below hb1)
  rw [HPL.out] at hs1
  have HS1 := hid hs1
  obtain ⟨ao, cap, rfl, -, -, -, -, -⟩ := id hs1
  obtain ⟨c0, c1, f0, f1⟩ := HX1.out.cells
  have hlt := HX1.out.lt
  clear hb1 hs1 HCUT HPRS HB HX HW
  have hsz : w.heap.size ≤ w1.heap.size := by omega
  rcases herr with h | h | h
  · subst h
    have he := HE.out
    rw [if_neg (by decide)] at he
    cases b
    · rw [if_neg (by rintro ⟨h, _⟩; cases h)] at he
      have hv := HV.out
      rw [he, if_pos rfl, if_neg (by decide)] at hv
      have HEE := hid he; have HVV := hid hv
      clear he hv HE HV
      go_wp2_with fail
      refine (whole_signed false (val L) HS1.out (valZ s) (by rw [HVV.out]; rfl)).mono ?_
      rintro e w2 ⟨v2, rfl, hz2, hb2⟩
      have HB2 := hid (step_below HB1.out hb2)
      have HX2 := hid (HX1.out.below hb2)
      obtain ⟨bo, dap, rfl⟩ := hz2.form
      obtain ⟨g1, y0, y1⟩ := store_end HB2.out (Nat.le_refl _) HX2.out hz2
      obtain ⟨d0, d1, k0, k1⟩ := HX2.out.cells
      have hlt2 := HX2.out.lt
      have HG1 := hid g1
      clear hb2 g1 hz2 c0 c1 f0 f1 hlt HX1 HB1
      generalize hn : zneg (valZ s) = nb at *
      generalize hlz : zlim (valZ s) = lz at *
      have HN := hid hn; have HLZ := hid hlz
      clear hn hlz
      go_wp2
      refine bodyPost_ret (v := .tuple #[.agg #[.bool nb, .slice bo lz.length dap], .int .i64 0]) (by simp [results, Tryd.results48, go_sem, y0, y1]) rfl ?_
      obtain ⟨v3, he3, hz3, hb3⟩ := HG1.out
      obtain rfl := Ending.returned.inj he3
      exact ⟨_, by rw [HEE.out]; rfl, hz3, hb3⟩
    · by_cases h0 : val L = 0
      · rw [if_pos ⟨rfl, h0⟩] at he
        have hv := HV.out
        rw [he, if_neg (by decide)] at hv
        have HEE := hid he; have HVV := hid hv
        have HZC := hid (whole_isZero HS1.out)
        rw [val_limbs, show decide (val L = 0) = true by simp [h0]] at HZC
        clear he hv HE HV h0
        go_wp2_with fail
        refine HZC.out.mono ?_
        rintro e w' ⟨rfl, rfl⟩
        have hst := HX1.out.set (.bool false) (.slice none 0 0)
        have HB2 := hid (below_box HB1.out (Nat.le_refl _) hsz (.bool false) (.slice none 0 0))
        have HZ := hid (zero_isZ ((w1.setCell ⟨w.heap.size, 0, none⟩ (.bool false)).setCell ⟨w.heap.size, 1, none⟩ (.slice none 0 0)))
        obtain ⟨y0, y1, -, -⟩ := hst.cells
        clear hst
        go_wp2
        exact bodyPost_ret (v := .tuple #[.agg #[.bool false, .slice none 0 0], .int .i64 (10)]) (by simp [results, Tryd.results48, go_sem, y0, y1]) rfl ⟨_, by rw [HEE.out]; rfl, by rw [HVV.out]; exact HZ.out, HB2.out⟩
      · rw [if_neg (fun e => h0 e.2)] at he
        have hv := HV.out
        rw [he, if_pos rfl, if_pos rfl] at hv
        have HEE := hid he; have HVV := hid hv
        have HZC := hid (whole_isZero HS1.out)
        rw [val_limbs, show decide (val L = 0) = false by simp [h0]] at HZC
        clear he hv HE HV h0
        go_wp2_with fail
        refine HZC.out.mono ?_
        rintro e w' ⟨rfl, rfl⟩
        go_wp2_with fail
        refine (whole_signed true (val L) HS1.out (valZ s) (by rw [HVV.out]; rfl)).mono ?_
        rintro e w2 ⟨v2, rfl, hz2, hb2⟩
        have HB2 := hid (step_below HB1.out hb2)
        have HX2 := hid (HX1.out.below hb2)
        obtain ⟨bo, dap, rfl⟩ := hz2.form
        obtain ⟨g1, y0, y1⟩ := store_end HB2.out (Nat.le_refl _) HX2.out hz2
        obtain ⟨d0, d1, k0, k1⟩ := HX2.out.cells
        have hlt2 := HX2.out.lt
        have HG1 := hid g1
        clear hb2 g1 hz2 c0 c1 f0 f1 hlt HX1 HB1
        generalize hn : zneg (valZ s) = nb at *
        generalize hlz : zlim (valZ s) = lz at *
        have HN := hid hn; have HLZ := hid hlz
        clear hn hlz
        go_wp2
        refine bodyPost_ret (v := .tuple #[.agg #[.bool nb, .slice bo lz.length dap], .int .i64 0]) (by simp [results, Tryd.results48, go_sem, y0, y1]) rfl ?_
        obtain ⟨v3, he3, hz3, hb3⟩ := HG1.out
        obtain rfl := Ending.returned.inj he3
        exact ⟨_, by rw [HEE.out]; rfl, hz3, hb3⟩
  · subst h
    have he := HE.out
    rw [if_pos (by decide)] at he
    have hv := HV.out
    rw [he, if_neg (by decide)] at hv
    have HEE := hid he; have HVV := hid hv
    clear he hv HE HV
    have hst := HX1.out.set (.bool false) (.slice none 0 0)
    have HB2 := hid (below_box HB1.out (Nat.le_refl _) hsz (.bool false) (.slice none 0 0))
    have HZ := hid (zero_isZ ((w1.setCell ⟨w.heap.size, 0, none⟩ (.bool false)).setCell ⟨w.heap.size, 1, none⟩ (.slice none 0 0)))
    obtain ⟨y0, y1, -, -⟩ := hst.cells
    clear hst
    go_wp2
    exact bodyPost_ret (v := .tuple #[.agg #[.bool false, .slice none 0 0], .int .i64 (2)]) (by simp [results, Tryd.results48, go_sem, y0, y1]) rfl ⟨_, by rw [HEE.out]; rfl, by rw [HVV.out]; exact HZ.out, HB2.out⟩
  · subst h
    have he := HE.out
    rw [if_pos (by decide)] at he
    have hv := HV.out
    rw [he, if_neg (by decide)] at hv
    have HEE := hid he; have HVV := hid hv
    clear he hv HE HV
    have hst := HX1.out.set (.bool false) (.slice none 0 0)
    have HB2 := hid (below_box HB1.out (Nat.le_refl _) hsz (.bool false) (.slice none 0 0))
    have HZ := hid (zero_isZ ((w1.setCell ⟨w.heap.size, 0, none⟩ (.bool false)).setCell ⟨w.heap.size, 1, none⟩ (.slice none 0 0)))
    obtain ⟨y0, y1, -, -⟩ := hst.cells
    clear hst
    go_wp2
    exact bodyPost_ret (v := .tuple #[.agg #[.bool false, .slice none 0 0], .int .i64 (10)]) (by simp [results, Tryd.results48, go_sem, y0, y1]) rfl ⟨_, by rw [HEE.out]; rfl, by rw [HVV.out]; exact HZ.out, HB2.out⟩

set_option maxRecDepth 100000 in
set_option maxHeartbeats 2000000 in
theorem ref_parseZ (s : ByteArray) (w : World) (hs : s.size ≤ 140737488355328) :
    Calls Tryd.prog 49 #[.string s] w fun e w' => ParseIs w s e w' := by
  have HB := hid (box_below (w := w) false (.slice none 0 0))
  have HX := hid (Box.new w (.bool false) (.slice none 0 0) 34)
  have hrs := rest_size s
  have hpl := lstT_plain (restS s)
  have hll := lstT_len (restS s)
  have hE : errZ s = if errT (restS s) ≠ 0 then errT (restS s) else if minusB s = true ∧ val (lstT (restS s)) = 0 then 10 else 0 := rfl
  have hV : valZ s = if errZ s = 0 then (if minusB s = true then -(val (lstT (restS s)) : Int) else (val (lstT (restS s)) : Int)) else 0 := rfl
  go_enter Tryd.func49, Tryd.ntmps49
  obtain ⟨w0, hw0⟩ : ∃ x, x = w.alloc (.cells #[.bool false, .slice none 0 0] 34) := ⟨_, rfl⟩
  rw [← hw0] at HB HX
  have HW := hid hw0.symm
  have hprs := fun w => ref_parse_any (restS s) w (by omega)
  have herr := errT_cases (restS s)
  obtain ⟨E, hEe⟩ : ∃ E, errT (restS s) = E := ⟨_, rfl⟩
  obtain ⟨L, hLe⟩ : ∃ L, lstT (restS s) = L := ⟨_, rfl⟩
  obtain ⟨b, hb⟩ : ∃ b, minusB s = b := ⟨_, rfl⟩
  simp only [hEe, hLe, hb] at hE hV hprs hpl hll herr
  have HPRS := hid hprs; have HE := hid hE; have HV := hid hV; have HPL := hid hpl; have HBB := hid hb
  have hs0 := HB.out.size
  clear hw0 hprs hE hV hpl hEe hLe hb
  have hmb : decide (0 < s.size ∧ let8 s 0 = 45) = b := HBB.out
  have hrst : restS s = if b = true then s.extract 1 s.size else s := by rw [← HBB.out]; rfl
  have hlist := size_list s
  by_cases hz : 0 < s.size
  · have hE2 : s.toList.isEmpty = false := by
      rw [List.isEmpty_eq_false_iff]
      intro e
      rw [e] at hlist
      simp at hlist
      omega
    have hx0 := let8_at s 0 hz
    obtain ⟨x0, hx0e⟩ : ∃ x0, let8 s 0 = x0 := ⟨_, rfl⟩
    rw [hx0e] at hx0 hmb
    clear hx0e hlist
    by_cases hm : x0 = 45
    · have hb : b = true := by rw [← hmb]; simp [hz, hm]
      have HBT := hid hb
      rw [if_pos hb] at hrst
      rw [hrst] at HPRS
      clear hmb hrst hb
      subst hm
      go_wp2_with fail
      rw [HW.out]
      refine (HPRS.out _).mono ?_
      rintro e w1 ⟨v1, rfl, hs1, hb1⟩
      have HB1 := hid (step_below HB.out hb1)
      have HX1 := hid (HX.out.below hb1)
      rw [HPL.out] at hs1
      have HS1 := hid hs1
      obtain ⟨ao, cap, rfl, -, -, -, -, -⟩ := id hs1
      obtain ⟨c0, c1, f0, f1⟩ := HX1.out.cells
      have hlt := HX1.out.lt
      clear hb1 hs1 HPRS HB HX HW
      have hsz : w.heap.size ≤ w1.heap.size := by omega
      rcases herr with h | h | h
      · subst h
        have he := HE.out
        rw [if_neg (by decide)] at he
        have hbv := HBT.out
        subst hbv
        · by_cases h0 : val L = 0
          · rw [if_pos ⟨rfl, h0⟩] at he
            have hv := HV.out
            rw [he, if_neg (by decide)] at hv
            have HEE := hid he; have HVV := hid hv
            have hl0 : (limbs (val L)).length = 0 := by rw [h0, limbs_zero]; rfl
            generalize (limbs (val L)).length = len at *
            subst hl0
            clear he hv HE HV h0
            have hst := HX1.out.set (.bool false) (.slice none 0 0)
            have HB2 := hid (below_box HB1.out (Nat.le_refl _) hsz (.bool false) (.slice none 0 0))
            have HZ := hid (zero_isZ ((w1.setCell ⟨w.heap.size, 0, none⟩ (.bool false)).setCell ⟨w.heap.size, 1, none⟩ (.slice none 0 0)))
            obtain ⟨y0, y1, -, -⟩ := hst.cells
            clear hst
            go_wp2
            exact bodyPost_ret (v := .tuple #[.agg #[.bool false, .slice none 0 0], .int .i64 (10)]) (by simp [results, Tryd.results49, go_sem, y0, y1]) rfl ⟨_, by rw [HEE.out]; rfl, by rw [HVV.out]; exact HZ.out, HB2.out⟩
          · rw [if_neg (fun e => h0 e.2)] at he
            have hv := HV.out
            rw [he, if_pos rfl, if_pos rfl] at hv
            have HEE := hid he; have HVV := hid hv
            have hl0 : 0 < (limbs (val L)).length := (limbs_last (by omega)).1
            generalize (limbs (val L)).length = len at *
            clear he hv HE HV h0
            go_wp2_with fail
            refine (ref_make true HS1.out (by have h9 := hll; rw [HPL.out] at h9; omega) (valZ s) (by rw [val_limbs]; rw [HVV.out]; rfl)).mono ?_
            rintro e w2 ⟨v2, rfl, hz2, hb2⟩
            have HB2 := hid (step_below HB1.out hb2)
            have HX2 := hid (HX1.out.below hb2)
            obtain ⟨bo, dap, rfl⟩ := hz2.form
            obtain ⟨g1, y0, y1⟩ := store_end HB2.out (Nat.le_refl _) HX2.out hz2
            obtain ⟨d0, d1, k0, k1⟩ := HX2.out.cells
            have hlt2 := HX2.out.lt
            have HG1 := hid g1
            clear hb2 g1 hz2 c0 c1 f0 f1 hlt HX1 HB1
            generalize hn : zneg (valZ s) = nb at *
            generalize hlz : zlim (valZ s) = lz at *
            have HN := hid hn; have HLZ := hid hlz
            clear hn hlz
            go_wp2
            refine bodyPost_ret (v := .tuple #[.agg #[.bool nb, .slice bo lz.length dap], .int .i64 0]) (by simp [results, Tryd.results49, go_sem, y0, y1]) rfl ?_
            obtain ⟨v3, he3, hz3, hb3⟩ := HG1.out
            obtain rfl := Ending.returned.inj he3
            exact ⟨_, by rw [HEE.out]; rfl, hz3, hb3⟩
      · subst h
        have he := HE.out
        rw [if_pos (by decide)] at he
        have hv := HV.out
        rw [he, if_neg (by decide)] at hv
        have HEE := hid he; have HVV := hid hv
        clear he hv HE HV
        have hst := HX1.out.set (.bool false) (.slice none 0 0)
        have HB2 := hid (below_box HB1.out (Nat.le_refl _) hsz (.bool false) (.slice none 0 0))
        have HZ := hid (zero_isZ ((w1.setCell ⟨w.heap.size, 0, none⟩ (.bool false)).setCell ⟨w.heap.size, 1, none⟩ (.slice none 0 0)))
        obtain ⟨y0, y1, -, -⟩ := hst.cells
        clear hst
        go_wp2
        exact bodyPost_ret (v := .tuple #[.agg #[.bool false, .slice none 0 0], .int .i64 (2)]) (by simp [results, Tryd.results49, go_sem, y0, y1]) rfl ⟨_, by rw [HEE.out]; rfl, by rw [HVV.out]; exact HZ.out, HB2.out⟩
      · subst h
        have he := HE.out
        rw [if_pos (by decide)] at he
        have hv := HV.out
        rw [he, if_neg (by decide)] at hv
        have HEE := hid he; have HVV := hid hv
        clear he hv HE HV
        have hst := HX1.out.set (.bool false) (.slice none 0 0)
        have HB2 := hid (below_box HB1.out (Nat.le_refl _) hsz (.bool false) (.slice none 0 0))
        have HZ := hid (zero_isZ ((w1.setCell ⟨w.heap.size, 0, none⟩ (.bool false)).setCell ⟨w.heap.size, 1, none⟩ (.slice none 0 0)))
        obtain ⟨y0, y1, -, -⟩ := hst.cells
        clear hst
        go_wp2
        exact bodyPost_ret (v := .tuple #[.agg #[.bool false, .slice none 0 0], .int .i64 (10)]) (by simp [results, Tryd.results49, go_sem, y0, y1]) rfl ⟨_, by rw [HEE.out]; rfl, by rw [HVV.out]; exact HZ.out, HB2.out⟩

    · have hb : b = false := by rw [← hmb]; simp [hm]
      have HBT := hid hb
      rw [if_neg (by rw [hb]; decide)] at hrst
      rw [hrst] at HPRS
      clear hmb hrst hb
      go_wp2_with fail
      rw [HW.out]
      refine (HPRS.out _).mono ?_
      rintro e w1 ⟨v1, rfl, hs1, hb1⟩
      have HB1 := hid (step_below HB.out hb1)
      have HX1 := hid (HX.out.below hb1)
      rw [HPL.out] at hs1
      have HS1 := hid hs1
      obtain ⟨ao, cap, rfl, -, -, -, -, -⟩ := id hs1
      obtain ⟨c0, c1, f0, f1⟩ := HX1.out.cells
      have hlt := HX1.out.lt
      clear hb1 hs1 HPRS HB HX HW
      have hsz : w.heap.size ≤ w1.heap.size := by omega
      rcases herr with h | h | h
      · subst h
        have he := HE.out
        rw [if_neg (by decide)] at he
        have hbv := HBT.out
        subst hbv
        · rw [if_neg (by rintro ⟨h, _⟩; cases h)] at he
          have hv := HV.out
          rw [he, if_pos rfl, if_neg (by decide)] at hv
          have HEE := hid he; have HVV := hid hv
          clear he hv HE HV
          go_wp2_with fail
          refine (ref_make false HS1.out (by have h9 := hll; rw [HPL.out] at h9; omega) (valZ s) (by rw [val_limbs]; rw [HVV.out]; rfl)).mono ?_
          rintro e w2 ⟨v2, rfl, hz2, hb2⟩
          have HB2 := hid (step_below HB1.out hb2)
          have HX2 := hid (HX1.out.below hb2)
          obtain ⟨bo, dap, rfl⟩ := hz2.form
          obtain ⟨g1, y0, y1⟩ := store_end HB2.out (Nat.le_refl _) HX2.out hz2
          obtain ⟨d0, d1, k0, k1⟩ := HX2.out.cells
          have hlt2 := HX2.out.lt
          have HG1 := hid g1
          clear hb2 g1 hz2 c0 c1 f0 f1 hlt HX1 HB1
          generalize hn : zneg (valZ s) = nb at *
          generalize hlz : zlim (valZ s) = lz at *
          have HN := hid hn; have HLZ := hid hlz
          clear hn hlz
          go_wp2
          refine bodyPost_ret (v := .tuple #[.agg #[.bool nb, .slice bo lz.length dap], .int .i64 0]) (by simp [results, Tryd.results49, go_sem, y0, y1]) rfl ?_
          obtain ⟨v3, he3, hz3, hb3⟩ := HG1.out
          obtain rfl := Ending.returned.inj he3
          exact ⟨_, by rw [HEE.out]; rfl, hz3, hb3⟩
      · subst h
        have he := HE.out
        rw [if_pos (by decide)] at he
        have hv := HV.out
        rw [he, if_neg (by decide)] at hv
        have HEE := hid he; have HVV := hid hv
        clear he hv HE HV
        have hst := HX1.out.set (.bool false) (.slice none 0 0)
        have HB2 := hid (below_box HB1.out (Nat.le_refl _) hsz (.bool false) (.slice none 0 0))
        have HZ := hid (zero_isZ ((w1.setCell ⟨w.heap.size, 0, none⟩ (.bool false)).setCell ⟨w.heap.size, 1, none⟩ (.slice none 0 0)))
        obtain ⟨y0, y1, -, -⟩ := hst.cells
        clear hst
        go_wp2
        exact bodyPost_ret (v := .tuple #[.agg #[.bool false, .slice none 0 0], .int .i64 (2)]) (by simp [results, Tryd.results49, go_sem, y0, y1]) rfl ⟨_, by rw [HEE.out]; rfl, by rw [HVV.out]; exact HZ.out, HB2.out⟩
      · subst h
        have he := HE.out
        rw [if_pos (by decide)] at he
        have hv := HV.out
        rw [he, if_neg (by decide)] at hv
        have HEE := hid he; have HVV := hid hv
        clear he hv HE HV
        have hst := HX1.out.set (.bool false) (.slice none 0 0)
        have HB2 := hid (below_box HB1.out (Nat.le_refl _) hsz (.bool false) (.slice none 0 0))
        have HZ := hid (zero_isZ ((w1.setCell ⟨w.heap.size, 0, none⟩ (.bool false)).setCell ⟨w.heap.size, 1, none⟩ (.slice none 0 0)))
        obtain ⟨y0, y1, -, -⟩ := hst.cells
        clear hst
        go_wp2
        exact bodyPost_ret (v := .tuple #[.agg #[.bool false, .slice none 0 0], .int .i64 (10)]) (by simp [results, Tryd.results49, go_sem, y0, y1]) rfl ⟨_, by rw [HEE.out]; rfl, by rw [HVV.out]; exact HZ.out, HB2.out⟩

  · have hb : b = false := by rw [← hmb]; simp [hz]
    have HBT := hid hb
    rw [if_neg (by rw [hb]; decide)] at hrst
    rw [hrst] at HPRS
    have hE2 : s.toList.isEmpty = true := by
      rw [List.isEmpty_iff]
      exact List.eq_nil_of_length_eq_zero (by omega)
    clear hmb hrst hlist hb
    go_wp2_with fail
    rw [HW.out]
    refine (HPRS.out _).mono ?_
    rintro e w1 ⟨v1, rfl, hs1, hb1⟩
    have HB1 := hid (step_below HB.out hb1)
    have HX1 := hid (HX.out.below hb1)
    rw [HPL.out] at hs1
    have HS1 := hid hs1
    obtain ⟨ao, cap, rfl, -, -, -, -, -⟩ := id hs1
    obtain ⟨c0, c1, f0, f1⟩ := HX1.out.cells
    have hlt := HX1.out.lt
    clear hb1 hs1 HPRS HB HX HW
    have hsz : w.heap.size ≤ w1.heap.size := by omega
    rcases herr with h | h | h
    · subst h
      have he := HE.out
      rw [if_neg (by decide)] at he
      have hbv := HBT.out
      subst hbv
      · rw [if_neg (by rintro ⟨h, _⟩; cases h)] at he
        have hv := HV.out
        rw [he, if_pos rfl, if_neg (by decide)] at hv
        have HEE := hid he; have HVV := hid hv
        clear he hv HE HV
        go_wp2_with fail
        refine (ref_make false HS1.out (by have h9 := hll; rw [HPL.out] at h9; omega) (valZ s) (by rw [val_limbs]; rw [HVV.out]; rfl)).mono ?_
        rintro e w2 ⟨v2, rfl, hz2, hb2⟩
        have HB2 := hid (step_below HB1.out hb2)
        have HX2 := hid (HX1.out.below hb2)
        obtain ⟨bo, dap, rfl⟩ := hz2.form
        obtain ⟨g1, y0, y1⟩ := store_end HB2.out (Nat.le_refl _) HX2.out hz2
        obtain ⟨d0, d1, k0, k1⟩ := HX2.out.cells
        have hlt2 := HX2.out.lt
        have HG1 := hid g1
        clear hb2 g1 hz2 c0 c1 f0 f1 hlt HX1 HB1
        generalize hn : zneg (valZ s) = nb at *
        generalize hlz : zlim (valZ s) = lz at *
        have HN := hid hn; have HLZ := hid hlz
        clear hn hlz
        go_wp2
        refine bodyPost_ret (v := .tuple #[.agg #[.bool nb, .slice bo lz.length dap], .int .i64 0]) (by simp [results, Tryd.results49, go_sem, y0, y1]) rfl ?_
        obtain ⟨v3, he3, hz3, hb3⟩ := HG1.out
        obtain rfl := Ending.returned.inj he3
        exact ⟨_, by rw [HEE.out]; rfl, hz3, hb3⟩
    · subst h
      have he := HE.out
      rw [if_pos (by decide)] at he
      have hv := HV.out
      rw [he, if_neg (by decide)] at hv
      have HEE := hid he; have HVV := hid hv
      clear he hv HE HV
      have hst := HX1.out.set (.bool false) (.slice none 0 0)
      have HB2 := hid (below_box HB1.out (Nat.le_refl _) hsz (.bool false) (.slice none 0 0))
      have HZ := hid (zero_isZ ((w1.setCell ⟨w.heap.size, 0, none⟩ (.bool false)).setCell ⟨w.heap.size, 1, none⟩ (.slice none 0 0)))
      obtain ⟨y0, y1, -, -⟩ := hst.cells
      clear hst
      go_wp2
      exact bodyPost_ret (v := .tuple #[.agg #[.bool false, .slice none 0 0], .int .i64 (2)]) (by simp [results, Tryd.results49, go_sem, y0, y1]) rfl ⟨_, by rw [HEE.out]; rfl, by rw [HVV.out]; exact HZ.out, HB2.out⟩
    · subst h
      have he := HE.out
      rw [if_pos (by decide)] at he
      have hv := HV.out
      rw [he, if_neg (by decide)] at hv
      have HEE := hid he; have HVV := hid hv
      clear he hv HE HV
      have hst := HX1.out.set (.bool false) (.slice none 0 0)
      have HB2 := hid (below_box HB1.out (Nat.le_refl _) hsz (.bool false) (.slice none 0 0))
      have HZ := hid (zero_isZ ((w1.setCell ⟨w.heap.size, 0, none⟩ (.bool false)).setCell ⟨w.heap.size, 1, none⟩ (.slice none 0 0)))
      obtain ⟨y0, y1, -, -⟩ := hst.cells
      clear hst
      go_wp2
      exact bodyPost_ret (v := .tuple #[.agg #[.bool false, .slice none 0 0], .int .i64 (10)]) (by simp [results, Tryd.results49, go_sem, y0, y1]) rfl ⟨_, by rw [HEE.out]; rfl, by rw [HVV.out]; exact HZ.out, HB2.out⟩

end Go.Proofs.YtjnibefigglcjaaDoor
