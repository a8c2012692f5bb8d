/- mono.compare, the document's grevlex: by their contracts. -/
import Derived.Test.YthlldjknmdndoaaMoD
set_option linter.unusedVariables false
set_option linter.unusedSimpArgs false
namespace Go.Proofs.Ythlldjknmdndoaa
open Go.RowKit

theorem cmpL_lex (f : Nat) (l m : List Int) : cmpL 0 f l m = sgnL (List.zipWith (· - ·) l m) := rfl
theorem cmpL_grlex (f : Nat) {l m : List Int} (h : l.length = m.length) : cmpL 1 f l m = if sgn (l.sum - m.sum) = 0 then sgnL (List.zipWith (· - ·) l m) else sgn (l.sum - m.sum) := by
  show (if (List.zipWith (· - ·) l m).sum = 0 then _ else _) = _
  rw [sum_sub l m h]
  by_cases e : l.sum - m.sum = 0
  · rw [if_pos e, if_pos (sgn_eq_zero.2 e)]
  · rw [if_neg e, if_neg (fun h => e (sgn_eq_zero.1 h))]
theorem cmpL_grevlex (f : Nat) {l m : List Int} (h : l.length = m.length) : cmpL 2 f l m = if sgn (l.sum - m.sum) = 0 then sgnL ((List.zipWith (· - ·) l m).reverse.map (fun x => -x)) else sgn (l.sum - m.sum) := by
  show (if (List.zipWith (· - ·) l m).sum = 0 then _ else _) = _
  rw [sum_sub l m h]
  by_cases e : l.sum - m.sum = 0
  · rw [if_pos e, if_pos (sgn_eq_zero.2 e)]
  · rw [if_neg e, if_neg (fun h => e (sgn_eq_zero.1 h))]
theorem cmpL_block (f : Nat) (l m : List Int) : cmpL 3 f l m = if cmpL 2 0 (l.take f) (m.take f) = 0 then cmpL 2 0 (l.drop f) (m.drop f) else cmpL 2 0 (l.take f) (m.take f) := by
  show sgnL (keyG _ ++ keyG _) = _
  rw [sgnL_append, List.take_zipWith, List.drop_zipWith]; rfl

set_option maxHeartbeats 1000000 in
theorem mono_compare_lex {f : Int} {a b : Value} {l m : List Int} {w : World} (ha : SeesI w a l) (hb : SeesI w b m) (hl : l.length = m.length) :
    Calls Try.prog 38 #[.int .i64 0, .int .i64 f, a, b] w fun e w' => Reads (.int .i64 (cmpL 0 f.toNat l m)) w e w' := by
  have C := hidP (mono_first ha hb hl)
  rw [cmpL_lex]
  obtain ⟨r, hr⟩ : ∃ r, sgnL (List.zipWith (· - ·) l m) = r := ⟨_, rfl⟩
  rw [hr] at C ⊢
  clear hr hl
  obtain ⟨A, ca, rfl, hcap⟩ := SeesF.form ha
  obtain ⟨B, cb, rfl, hcap2⟩ := SeesF.form hb
  clear ha hb
  go_enter Try.func38, Try.ntmps38
  go_wp2_with fail
  refine C.out.mono ?_
  rintro e w0 ⟨rfl, d, rfl⟩
  go_wp2
  go_ret
  exact ⟨rfl, ⟨_, rfl⟩⟩

set_option maxHeartbeats 1000000 in
theorem mono_compare_grlex {f : Int} {a b : Value} {l m : List Int} {w : World} (ha : SeesI w a l) (hb : SeesI w b m) (hl : l.length = m.length) (hm1 : mayB l = true) (hm2 : mayB m = true) :
    Calls Try.prog 38 #[.int .i64 1, .int .i64 f, a, b] w fun e w' => Reads (.int .i64 (cmpL 1 f.toNat l m)) w e w' := by
  have C := hidP (mono_first ha hb hl)
  have C1 := hidP (mono_sum ha hm1)
  have C2 := hidP (mono_sum hb hm2)
  have C3 := hidP (cmp_Compare l.sum m.sum)
  rw [cmpL_grlex _ hl]
  obtain ⟨r, hr⟩ : ∃ r, sgnL (List.zipWith (· - ·) l m) = r := ⟨_, rfl⟩
  obtain ⟨s, hs⟩ : ∃ s, sgn (l.sum - m.sum) = s := ⟨_, rfl⟩
  rw [hr] at C ⊢
  rw [hs] at C3 ⊢
  obtain ⟨x, hx⟩ : ∃ x, l.sum = x := ⟨_, rfl⟩
  obtain ⟨y, hy⟩ : ∃ y, m.sum = y := ⟨_, rfl⟩
  rw [hx] at C1 C3
  rw [hy] at C2 C3
  clear hr hs hx hy hl hm1 hm2
  obtain ⟨A, ca, rfl, hcap⟩ := SeesF.form ha
  obtain ⟨B, cb, rfl, hcap2⟩ := SeesF.form hb
  clear ha hb
  by_cases h0 : s = 0
  · subst h0
    rw [if_pos rfl]
    go_enter Try.func38, Try.ntmps38
    go_wp2_with fail
    refine C1.out.mono ?_
    rintro e w0 ⟨rfl, rfl⟩
    go_wp2_with fail
    refine C2.out.mono ?_
    rintro e w0 ⟨rfl, rfl⟩
    go_wp2_with fail
    refine (C3.out _).mono ?_
    rintro e w0 ⟨rfl, rfl⟩
    go_wp2_with fail
    refine C.out.mono ?_
    rintro e w0 ⟨rfl, d, rfl⟩
    go_wp2
    go_ret
    exact ⟨rfl, ⟨_, rfl⟩⟩
  · rw [if_neg h0]
    have h0' : (s != 0) = true := by simpa using h0
    clear C h0
    go_enter Try.func38, Try.ntmps38
    go_wp2_with fail
    refine C1.out.mono ?_
    rintro e w0 ⟨rfl, rfl⟩
    go_wp2_with fail
    refine C2.out.mono ?_
    rintro e w0 ⟨rfl, rfl⟩
    go_wp2_with fail
    refine (C3.out _).mono ?_
    rintro e w0 ⟨rfl, rfl⟩
    go_wp2
    go_ret
    exact ⟨rfl, ⟨0, rfl⟩⟩

set_option maxHeartbeats 1000000 in
theorem mono_compare_grevlex {f : Int} {a b : Value} {l m : List Int} {w : World} (ha : SeesI w a l) (hb : SeesI w b m) (hl : l.length = m.length) (hm1 : mayB l = true) (hm2 : mayB m = true) :
    Calls Try.prog 38 #[.int .i64 2, .int .i64 f, a, b] w fun e w' => Reads (.int .i64 (cmpL 2 f.toNat l m)) w e w' := by
  have C := hidP (mono_last ha hb hl)
  have C1 := hidP (mono_sum ha hm1)
  have C2 := hidP (mono_sum hb hm2)
  have C3 := hidP (cmp_Compare l.sum m.sum)
  rw [cmpL_grevlex _ hl]
  obtain ⟨r, hr⟩ : ∃ r, sgnL ((List.zipWith (· - ·) l m).reverse.map (fun x => -x)) = r := ⟨_, rfl⟩
  obtain ⟨s, hs⟩ : ∃ s, sgn (l.sum - m.sum) = s := ⟨_, rfl⟩
  rw [hr] at C ⊢
  rw [hs] at C3 ⊢
  obtain ⟨x, hx⟩ : ∃ x, l.sum = x := ⟨_, rfl⟩
  obtain ⟨y, hy⟩ : ∃ y, m.sum = y := ⟨_, rfl⟩
  rw [hx] at C1 C3
  rw [hy] at C2 C3
  clear hr hs hx hy hl hm1 hm2
  obtain ⟨A, ca, rfl, hcap⟩ := SeesF.form ha
  obtain ⟨B, cb, rfl, hcap2⟩ := SeesF.form hb
  clear ha hb
  by_cases h0 : s = 0
  · subst h0
    rw [if_pos rfl]
    go_enter Try.func38, Try.ntmps38
    go_wp2_with fail
    refine C1.out.mono ?_
    rintro e w0 ⟨rfl, rfl⟩
    go_wp2_with fail
    refine C2.out.mono ?_
    rintro e w0 ⟨rfl, rfl⟩
    go_wp2_with fail
    refine (C3.out _).mono ?_
    rintro e w0 ⟨rfl, rfl⟩
    go_wp2_with fail
    refine C.out.mono ?_
    rintro e w0 ⟨rfl, d, rfl⟩
    go_wp2
    go_ret
    exact ⟨rfl, ⟨_, rfl⟩⟩
  · rw [if_neg h0]
    have h0' : (s != 0) = true := by simpa using h0
    clear C h0
    go_enter Try.func38, Try.ntmps38
    go_wp2_with fail
    refine C1.out.mono ?_
    rintro e w0 ⟨rfl, rfl⟩
    go_wp2_with fail
    refine C2.out.mono ?_
    rintro e w0 ⟨rfl, rfl⟩
    go_wp2_with fail
    refine (C3.out _).mono ?_
    rintro e w0 ⟨rfl, rfl⟩
    go_wp2
    go_ret
    exact ⟨rfl, ⟨0, rfl⟩⟩

set_option maxHeartbeats 1000000 in
theorem mono_compare_block {f : Int} {a b : Value} {l m : List Int} {w : World} (ha : SeesI w a l) (hb : SeesI w b m) (hl : l.length = m.length) (hm1 : mayB l = true) (hm2 : mayB m = true) (hf1 : 1 ≤ f) (hf2 : f < l.length) :
    Calls Try.prog 38 #[.int .i64 3, .int .i64 f, a, b] w fun e w' => Reads (.int .i64 (cmpL 3 f.toNat l m)) w e w' := by
  obtain ⟨n, rfl⟩ : ∃ n : Nat, f = n := ⟨f.toNat, by omega⟩
  have hlen := ha.len
  have hlen2 := hb.len
  rw [Int.toNat_natCast, cmpL_block]
  obtain ⟨A, ca, rfl, hcap⟩ := SeesF.form ha
  obtain ⟨B, cb, rfl, hcap2⟩ := SeesF.form hb
  obtain ⟨b1, o1, rfl, -⟩ := ha.at (by omega)
  obtain ⟨b2, o2, rfl, -⟩ := hb.at (by omega)
  have TA : ∀ d, SeesI (w.drewN d) (.slice (some ⟨b1, o1, none⟩) n ca) (l.take n) := fun d => SeesF.drewN (SeesF.take ha n (by omega)) d
  have TB : ∀ d, SeesI (w.drewN d) (.slice (some ⟨b2, o2, none⟩) n cb) (m.take n) := fun d => SeesF.drewN (SeesF.take hb n (by omega)) d
  have DA : ∀ d, SeesI (w.drewN d) (.slice (some ⟨b1, o1 + n, none⟩) (l.length - n) (ca - n)) (l.drop n) := fun d => SeesF.drewN (SeesF.drop ha n (by omega)) d
  have DB : ∀ d, SeesI (w.drewN d) (.slice (some ⟨b2, o2 + n, none⟩) (m.length - n) (cb - n)) (m.drop n) := fun d => SeesF.drewN (SeesF.drop hb n (by omega)) d
  have e1 : (l.take n).length = (m.take n).length := by simp [hl]
  have e2 : (l.drop n).length = (m.drop n).length := by simp [hl]
  have CT := hidP (fun d => mono_compare_grevlex (f := 0) (TA d) (TB d) e1 (mayB_take hm1 n) (mayB_take hm2 n))
  have CL := hidP (fun d => mono_last (DA d) (DB d) e2)
  have CS1 := hidP (fun d => mono_sum (DA d) (mayB_drop hm1 n))
  have CS2 := hidP (fun d => mono_sum (DB d) (mayB_drop hm2 n))
  have CC := hidP (cmp_Compare (l.drop n).sum (m.drop n).sum)
  rw [cmpL_grevlex 0 e2]
  simp only [Int.toNat_zero] at CT
  obtain ⟨c, hc⟩ : ∃ c, cmpL 2 0 (l.take n) (m.take n) = c := ⟨_, rfl⟩
  obtain ⟨r, hr⟩ : ∃ r, sgnL ((List.zipWith (· - ·) (l.drop n) (m.drop n)).reverse.map (fun x => -x)) = r := ⟨_, rfl⟩
  obtain ⟨s, hs⟩ : ∃ s, sgn ((l.drop n).sum - (m.drop n).sum) = s := ⟨_, rfl⟩
  simp only [hc] at CT ⊢
  simp only [hr] at CL ⊢
  simp only [hs] at CC ⊢
  obtain ⟨x, hx⟩ : ∃ x, (l.drop n).sum = x := ⟨_, rfl⟩
  obtain ⟨y, hy⟩ : ∃ y, (m.drop n).sum = y := ⟨_, rfl⟩
  simp only [hx] at CS1 CC
  simp only [hy] at CS2 CC
  rw [← hl] at hcap2 hlen2 ⊢
  simp only [← hl] at CL CS2
  obtain ⟨N, hN⟩ : ∃ N, l.length = N := ⟨_, rfl⟩
  simp only [hN] at CL CS1 CS2 hcap hcap2 hlen hlen2 hf2 ⊢
  have hnN : n < N := by omega
  clear hc hr hs hx hy hN hl hm1 hm2 ha hb TA TB DA DB e1 e2 hlen2 hf1 hf2
  by_cases h1 : c = 0
  · subst h1
    rw [if_pos rfl]
    by_cases h0 : s = 0
    · subst h0
      rw [if_pos rfl]
      go_enter Try.func38, Try.ntmps38
      go_wp2
      go_quiet ((go_at_call 38; exact (CT.out _).mono fun _ _ ⟨h1, d, h2⟩ => ⟨h1, _, h2.trans (World.drewN_drewN _ _ _)⟩))
      go_wp2
      go_quiet (fail)
      rw [World.drewN_drewN]
      go_wp2_with fail
      refine (CS1.out _).mono ?_
      rintro e w0 ⟨rfl, rfl⟩
      go_wp2_with fail
      refine (CS2.out _).mono ?_
      rintro e w0 ⟨rfl, rfl⟩
      go_wp2_with fail
      refine (CC.out _).mono ?_
      rintro e w0 ⟨rfl, rfl⟩
      go_wp2_with fail
      refine (CL.out _).mono ?_
      rintro e w0 ⟨rfl, d, rfl⟩
      go_wp2
      go_ret
      exact ⟨rfl, ⟨_, rfl⟩⟩
    · rw [if_neg h0]
      have h0' : (s != 0) = true := by simpa using h0
      clear CL h0
      go_enter Try.func38, Try.ntmps38
      go_wp2
      go_quiet ((go_at_call 38; exact (CT.out _).mono fun _ _ ⟨h1, d, h2⟩ => ⟨h1, _, h2.trans (World.drewN_drewN _ _ _)⟩))
      go_wp2
      go_quiet (fail)
      rw [World.drewN_drewN]
      go_wp2_with fail
      refine (CS1.out _).mono ?_
      rintro e w0 ⟨rfl, rfl⟩
      go_wp2_with fail
      refine (CS2.out _).mono ?_
      rintro e w0 ⟨rfl, rfl⟩
      go_wp2_with fail
      refine (CC.out _).mono ?_
      rintro e w0 ⟨rfl, rfl⟩
      go_wp2
      go_ret
      exact ⟨rfl, ⟨_, rfl⟩⟩
  · rw [if_neg h1]
    have h1' : (c != 0) = true := by simpa using h1
    clear CL CS1 CS2 CC h1
    go_enter Try.func38, Try.ntmps38
    go_wp2
    go_quiet ((go_at_call 38; exact (CT.out _).mono fun _ _ ⟨h1, d, h2⟩ => ⟨h1, _, h2.trans (World.drewN_drewN _ _ _)⟩))
    go_wp2
    go_ret
    exact ⟨rfl, ⟨_, rfl⟩⟩
end Go.Proofs.Ythlldjknmdndoaa
