/- The first and the last difference of two monomials: the document's lex; slices.Compare, mono.firstDifference, mono.lastDifference; mono.areAlike, the document's Both: by their contracts. -/
import Derived.Test.YthlldjknmdndoaaMoB
set_option linter.unusedVariables false
set_option linter.unusedSimpArgs false
namespace Go.Proofs.Ythlldjknmdndoaa
open Go.RowKit

/-- Both are monomials of as many variables. -/
def alikeB (l m : List Int) : Bool := decide (l.length = m.length) && (mayB l && mayB m)

theorem mono_areAlike {a b : Value} {l m : List Int} {w : World} (ha : SeesI w a l) (hb : SeesI w b m) :
    Calls Try.prog 37 #[a, b] w fun e w' => e = .returned (.bool (alikeB l m)) ∧ w = w' := by
  have C1 := hidP (mono_areExponents ha)
  have C2 := hidP (mono_areExponents hb)
  have HD := hidP (show alikeB l m = (decide (l.length = m.length) && (mayB l && mayB m)) from rfl)
  obtain ⟨r, hr⟩ : ∃ r, alikeB l m = r := ⟨_, rfl⟩
  rw [hr] at HD ⊢
  clear hr
  have h1 := ha.len; have h2 := hb.len
  obtain ⟨A, ca, rfl, hcap⟩ := SeesF.form ha
  obtain ⟨B, cb, rfl, hcap2⟩ := SeesF.form hb
  clear ha hb
  by_cases hl : l.length = m.length
  · cases hm1 : mayB l with
    | true =>
      have hd := HD.out
      rw [hm1] at C1 hd
      cases hm2 : mayB m with
      | true =>
        rw [hm2] at C2 hd
        rw [decide_eq_true hl] at hd
        simp only [Bool.and_true] at hd
        subst hd
        obtain ⟨n, hn⟩ : ∃ n, m.length = n := ⟨_, rfl⟩
        rw [hl] at C1 hcap h1 ⊢
        rw [hn] at C1 C2 hcap hcap2 h1 h2 ⊢
        clear HD hm1 hm2 hl hn
        go_enter Try.func37, Try.ntmps37
        go_wp2_with fail
        refine C1.out.mono ?_
        rintro e w0 ⟨rfl, rfl⟩
        go_wp2_with fail
        refine C2.out.mono ?_
        rintro e w0 ⟨rfl, rfl⟩
        go_wp2
        go_ret
        exact ⟨rfl, rfl⟩
      | false =>
        rw [hm2] at C2 hd
        rw [decide_eq_true hl] at hd
        simp only [Bool.and_false] at hd
        subst hd
        obtain ⟨n, hn⟩ : ∃ n, m.length = n := ⟨_, rfl⟩
        rw [hl] at C1 hcap h1 ⊢
        rw [hn] at C1 C2 hcap hcap2 h1 h2 ⊢
        clear HD hm1 hm2 hl hn
        go_enter Try.func37, Try.ntmps37
        go_wp2_with fail
        refine C1.out.mono ?_
        rintro e w0 ⟨rfl, rfl⟩
        go_wp2_with fail
        refine C2.out.mono ?_
        rintro e w0 ⟨rfl, rfl⟩
        go_wp2
        go_ret
        exact ⟨rfl, rfl⟩
    | false =>
      have hd := HD.out
      rw [hm1] at C1 hd
      simp only [Bool.false_and, Bool.and_false] at hd
      subst hd
      obtain ⟨n, hn⟩ : ∃ n, m.length = n := ⟨_, rfl⟩
      rw [hl] at C1 hcap h1 ⊢
      rw [hn] at C1 C2 hcap hcap2 h1 h2 ⊢
      clear HD C2 hm1 hl hn
      go_enter Try.func37, Try.ntmps37
      go_wp2_with fail
      refine C1.out.mono ?_
      rintro e w0 ⟨rfl, rfl⟩
      go_wp2
      go_ret
      exact ⟨rfl, rfl⟩
  · have hd := HD.out
    rw [decide_eq_false hl] at hd
    simp only [Bool.false_and] at hd
    subst hd
    have hl2 : ((l.length : Int) == (m.length : Int)) = false := by simp; omega
    clear C1 C2 HD
    go_enter Try.func37, Try.ntmps37
    go_wp2
    go_ret
    exact ⟨rfl, rfl⟩

theorem ref_Both {a b : Value} {l m : List Int} {w : World} (ha : SeesI w a l) (hb : SeesI w b m) :
    Calls Try.prog 44 #[a, b] w fun e w' => e = .returned (.bool (alikeB l m)) ∧ w = w' := by
  have C1 := hidP (ref_May ha)
  have C2 := hidP (ref_May hb)
  have HD := hidP (show alikeB l m = (decide (l.length = m.length) && (mayB l && mayB m)) from rfl)
  obtain ⟨r, hr⟩ : ∃ r, alikeB l m = r := ⟨_, rfl⟩
  rw [hr] at HD ⊢
  clear hr
  have h1 := ha.len; have h2 := hb.len
  obtain ⟨A, ca, rfl, hcap⟩ := SeesF.form ha
  obtain ⟨B, cb, rfl, hcap2⟩ := SeesF.form hb
  clear ha hb
  by_cases hl : l.length = m.length
  · cases hm1 : mayB l with
    | true =>
      have hd := HD.out
      rw [hm1] at C1 hd
      cases hm2 : mayB m with
      | true =>
        rw [hm2] at C2 hd
        rw [decide_eq_true hl] at hd
        simp only [Bool.and_true] at hd
        subst hd
        obtain ⟨n, hn⟩ : ∃ n, m.length = n := ⟨_, rfl⟩
        rw [hl] at C1 hcap h1 ⊢
        rw [hn] at C1 C2 hcap hcap2 h1 h2 ⊢
        clear HD hm1 hm2 hl hn
        go_enter Try.func44, Try.ntmps44
        go_wp2_with fail
        refine C1.out.mono ?_
        rintro e w0 ⟨rfl, rfl⟩
        go_wp2_with fail
        refine C2.out.mono ?_
        rintro e w0 ⟨rfl, rfl⟩
        go_wp2
        go_ret
        exact ⟨rfl, rfl⟩
      | false =>
        rw [hm2] at C2 hd
        rw [decide_eq_true hl] at hd
        simp only [Bool.and_false] at hd
        subst hd
        obtain ⟨n, hn⟩ : ∃ n, m.length = n := ⟨_, rfl⟩
        rw [hl] at C1 hcap h1 ⊢
        rw [hn] at C1 C2 hcap hcap2 h1 h2 ⊢
        clear HD hm1 hm2 hl hn
        go_enter Try.func44, Try.ntmps44
        go_wp2_with fail
        refine C1.out.mono ?_
        rintro e w0 ⟨rfl, rfl⟩
        go_wp2_with fail
        refine C2.out.mono ?_
        rintro e w0 ⟨rfl, rfl⟩
        go_wp2
        go_ret
        exact ⟨rfl, rfl⟩
    | false =>
      have hd := HD.out
      rw [hm1] at C1 hd
      simp only [Bool.false_and, Bool.and_false] at hd
      subst hd
      obtain ⟨n, hn⟩ : ∃ n, m.length = n := ⟨_, rfl⟩
      rw [hl] at C1 hcap h1 ⊢
      rw [hn] at C1 C2 hcap hcap2 h1 h2 ⊢
      clear HD C2 hm1 hl hn
      go_enter Try.func44, Try.ntmps44
      go_wp2_with fail
      refine C1.out.mono ?_
      rintro e w0 ⟨rfl, rfl⟩
      go_wp2
      go_ret
      exact ⟨rfl, rfl⟩
  · have hd := HD.out
    rw [decide_eq_false hl] at hd
    simp only [Bool.false_and] at hd
    subst hd
    have hl2 : ((l.length : Int) == (m.length : Int)) = false := by simp; omega
    clear C1 C2 HD
    go_enter Try.func44, Try.ntmps44
    go_wp2
    go_ret
    exact ⟨rfl, rfl⟩

/-- By the first that differs. -/
theorem ref_lex {a b : Value} {l m : List Int} {w : World} (ha : SeesI w a l) (hb : SeesI w b m) (hl : l.length = m.length) :
    Calls Try.prog 39 #[a, b] w fun e w' => Reads (.int .i64 (sgnL (List.zipWith (· - ·) l m))) w e w' := by
  have hlen := ha.len
  have HA := hidP ha
  have HB := hidP hb
  obtain ⟨A, ca, rfl, hcap⟩ := SeesF.form ha
  obtain ⟨B, cb, rfl, hcap2⟩ := SeesF.form hb
  clear ha hb
  obtain ⟨n, hn⟩ : ∃ n, m.length = n := ⟨_, rfl⟩
  have HL := hidP hl
  have HN := hidP hn
  rw [hn] at hl hcap2 ⊢
  rw [hl] at hlen hcap ⊢
  have HLn := hidP hl
  clear hl hn
  go_enter Try.func39, Try.ntmps39
  go_wp2
  go_loopw [5] (fun v wr => ∃ k d : Nat, k ≤ n ∧ v = .int .i64 k ∧ wr = w.drewN d ∧ Hid (∀ i, i < k → l.getD i 0 = m.getD i 0)) (fun v _ => n - (intOf v).toNat)
  case atStart => exact ⟨0, 0, Nat.zero_le _, rfl, rfl, fun i hi => absurd hi (by omega)⟩
  case round =>
    obtain ⟨k, d, hk, rfl, rfl, hz⟩ := hrel
    by_cases hlt : k < n
    · obtain ⟨b1, o1, rfl, hc1'⟩ := HA.out.at (by have := HLn.out; omega)
      obtain ⟨b2, o2, rfl, hc2'⟩ := HB.out.at (by have := HN.out; omega)
      have hc1 := hc1' k (by have := HLn.out; omega)
      have hc2 := hc2' k (by have := HN.out; omega)
      have HZ : Hid (l.getD k 0 = m.getD k 0 → ∀ i, i < k + 1 → l.getD i 0 = m.getD i 0) := fun h i hi => by
        by_cases e : i = k
        · subst e; exact h
        · exact hz.out i (by omega)
      have HNE : Hid (l.getD k 0 ≠ m.getD k 0 → sgnL (List.zipWith (· - ·) l m) = sgn (l.getD k 0 - m.getD k 0)) := fun h => lex_at HL.out (by have := HLn.out; omega) hz.out h
      clear hc1' hc2' hz
      obtain ⟨x, hx⟩ : ∃ x, l.getD k 0 = x := ⟨_, rfl⟩
      obtain ⟨y, hy⟩ : ∃ y, m.getD k 0 = y := ⟨_, rfl⟩
      rw [hx] at hc1
      rw [hy] at hc2
      rw [hx, hy] at HZ HNE
      clear hx hy
      by_cases he : x = y
      · have HZ2 := hidP (HZ.out he)
        subst he
        clear HZ HNE
        go_wp2
        go_quiet (fail)
        go_wp2
        go_roundw
        case rel => exact ⟨k + 1, d + nq, by omega, by go_num, rfl, HZ2⟩
        case measure => simp [intOf]; omega
      · have HN2 := hidP (HNE.out he)
        have hxy : (x != y) = true := by simpa using he
        clear HZ HNE
        go_wp2
        go_quiet (fail)
        go_wp2
        rw [World.drewN_drewN]
        go_quiet ((go_at_call 40; exact (ref_sign _ _ _).mono fun _ _ ⟨h1, h2⟩ => ⟨h1, _, h2.symm⟩))
        go_wp2
        go_ret
        exact ⟨ret_int HN2.out.symm, ⟨_, World.drewN_drewN _ _ _⟩⟩
    · have HE := hidP (lex_none HL.out (fun i hi => hz.out i (by have := HLn.out; omega)))
      clear hz
      go_wp2
      go_ret
      exact ⟨ret_int HE.out.symm, ⟨_, rfl⟩⟩
end Go.Proofs.Ythlldjknmdndoaa
