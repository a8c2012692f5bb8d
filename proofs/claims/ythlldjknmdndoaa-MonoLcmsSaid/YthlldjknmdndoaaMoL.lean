/- The document's Check: by its contract. -/
import Derived.Test.YthlldjknmdndoaaMoK
set_option linter.unusedVariables false
set_option linter.unusedSimpArgs false
namespace Go.Proofs.Ythlldjknmdndoaa
open Go.RowKit

theorem checkN_bad {l : List ByteArray} {o f : Int} (h : ¬ (1 ≤ l.length ∧ l.length ≤ 6 ∧ orderB o f l.length = true)) : checkN l o f = 70 := by
  unfold checkN
  rw [if_neg]
  intro e
  unfold ringB at e
  rw [Bool.and_eq_true] at e
  have := of_decide_eq_true e.1
  exact h ⟨this.1, this.2.1, e.2⟩
theorem checkN_bad_order {l : List ByteArray} {o f : Int} (h : ¬ (((o = 0 ∨ o = 1 ∨ o = 2) ∧ f = 0) ∨ (o = 3 ∧ 1 ≤ f ∧ f < l.length))) : checkN l o f = 70 :=
  checkN_bad fun ⟨_, _, e⟩ => h (of_decide_eq_true e)
theorem checkN_names {l : List ByteArray} {o f : Int} (h1 : 1 ≤ l.length) (h6 : l.length ≤ 6) (ho : orderB o f l.length = true) (h : ∀ i, i < l.length → nameB (l.getD i ByteArray.empty) = true ∧ memB (l.take i) (l.getD i ByteArray.empty) = false) : checkN l o f = 0 := by
  unfold checkN ringB
  rw [if_pos]
  rw [Bool.and_eq_true]
  exact ⟨decide_eq_true ⟨h1, h6, h⟩, ho⟩
theorem checkN_bad_name {l : List ByteArray} {o f : Int} {k : Nat} (hk : k < l.length) (h : ¬ (nameB (l.getD k ByteArray.empty) = true ∧ memB (l.take k) (l.getD k ByteArray.empty) = false)) : checkN l o f = 70 := by
  unfold checkN
  rw [if_neg]
  intro e
  unfold ringB at e
  rw [Bool.and_eq_true] at e
  exact h ((of_decide_eq_true e.1).2.2 k hk)
theorem memB_take {l : List ByteArray} {t : ByteArray} {k : Nat} (hk : k ≤ l.length) : memB (l.take k) t = true ↔ ∃ i, i < k ∧ l.getD i ByteArray.empty = t := by
  rw [memB_iff, mem_getD]
  have hl : (l.take k).length = k := by simp; omega
  constructor
  · rintro ⟨i, hi, h⟩
    rw [hl] at hi
    refine ⟨i, hi, ?_⟩
    rw [← h, List.getD_eq_getElem?_getD, List.getD_eq_getElem?_getD, List.getElem?_take_of_lt hi]
  · rintro ⟨i, hi, h⟩
    refine ⟨i, by omega, ?_⟩
    rw [← h, List.getD_eq_getElem?_getD, List.getD_eq_getElem?_getD, List.getElem?_take_of_lt hi]

set_option maxHeartbeats 2000000 in
theorem ref_Check {v : Value} {l : List ByteArray} {o f : Int} {w : World} (h : SeesR w v l o f) :
    Calls Try.prog 14 #[v] w fun e w' => e = .returned (.int .i64 (checkN l o f)) ∧ Below w.heap.size w w' := by
  obtain ⟨m, rfl, hm⟩ := h
  have hlen := hm.len
  have hb := boxR_below (w := w) m (.int .i64 o) (.int .i64 f)
  have HS := hidP (hm.below hb)
  have HB := hidP hb
  obtain ⟨A, ca, rfl, hcap⟩ := SeesF.form hm
  clear hm hb
  obtain ⟨r, hr⟩ : ∃ r, checkN l o f = r := ⟨_, rfl⟩
  have HR := hidP hr
  rw [hr]
  clear hr
  by_cases h1 : (l.length : Int) < 1
  · have e := HR.out; rw [checkN_bad (by omega)] at e; subst e; clear HR HS
    go_enter Try.func14, Try.ntmps14
    go_wp2
    go_ret
    exact ⟨rfl, HB.out⟩
  by_cases h6 : (l.length : Int) > 6
  · have e := HR.out; rw [checkN_bad (by omega)] at e; subst e; clear HR HS
    go_enter Try.func14, Try.ntmps14
    go_wp2
    go_ret
    exact ⟨rfl, HB.out⟩
  by_cases ho0 : o < 0
  · have e := HR.out; rw [checkN_bad_order (by omega)] at e; subst e; clear HR HS
    go_enter Try.func14, Try.ntmps14
    go_wp2
    go_ret
    exact ⟨rfl, HB.out⟩
  by_cases ho3 : o > 3
  · have e := HR.out; rw [checkN_bad_order (by omega)] at e; subst e; clear HR HS
    go_enter Try.func14, Try.ntmps14
    go_wp2
    go_ret
    exact ⟨rfl, HB.out⟩
  by_cases hob : ((o = 0 ∨ o = 1 ∨ o = 2) ∧ f = 0) ∨ (o = 3 ∧ 1 ≤ f ∧ f < l.length)
  · have HO := hidP (decide_eq_true hob)
    have HN : Hid ((∀ i, i < l.length → nameB (l.getD i ByteArray.empty) = true ∧ memB (l.take i) (l.getD i ByteArray.empty) = false) → r = 0) := fun h => by rw [← HR.out]; exact checkN_names (by omega) (by omega) HO.out h
    have HF : Hid (∀ k, k < l.length → ¬ (nameB (l.getD k ByteArray.empty) = true ∧ memB (l.take k) (l.getD k ByteArray.empty) = false) → r = 70) := fun k hk h => by rw [← HR.out]; exact checkN_bad_name hk h
    have hcase : (o = 3 ∧ 1 ≤ f ∧ f < l.length) ∨ (¬ o = 3 ∧ f = 0) := by
      rcases hob with ⟨h, h'⟩ | h
      · exact .inr ⟨by omega, h'⟩
      · exact .inl h
    clear HR HO hob
    have HX := hidP (Box3.new w (.slice A l.length ca) (.int .i64 o) (.int .i64 f) 24)
    obtain ⟨W1, hW⟩ : ∃ x, x = w.alloc (.cells #[.slice A l.length ca, .int .i64 o, .int .i64 f] 24) := ⟨_, rfl⟩
    rw [← hW] at HS HB HX
    have HW := hidP hW
    clear hW
    rcases hcase with ⟨rfl, hf1, hf2⟩ | ⟨ho, rfl⟩
    all_goals
      go_enter Try.func14, Try.ntmps14
      go_wp2
      obtain ⟨g, hg⟩ : ∃ g, g = w.heap.size := ⟨_, rfl⟩
      rw [← HW.out, ← hg]
      rw [← hg] at HX
      have HB2 := HB
      clear HW hg
      obtain ⟨c0, -, -⟩ := HX.out.cells
      go_loopw [4] (fun v wr => ∃ k d : Nat, k ≤ l.length ∧ v = .int .i64 k ∧ wr = W1.drewN d ∧ Hid (∀ i, i < k → nameB (l.getD i ByteArray.empty) = true ∧ memB (l.take i) (l.getD i ByteArray.empty) = false)) (fun v _ => l.length - (intOf v).toNat)
      case atStart => exact ⟨0, 0, Nat.zero_le _, rfl, rfl, fun i hi => absurd hi (by omega)⟩
      case round =>
        obtain ⟨k, d, hk, rfl, rfl, hz⟩ := hrel
        by_cases hlt : k < l.length
        · obtain ⟨b1, o1, rfl, hc'⟩ := HS.out.at (by omega)
          have hc := hc' k hlt
          have HC := hidP hc'
          have C1 := hidP (ref_Named (l.getD k ByteArray.empty))
          have HZ : Hid (nameB (l.getD k ByteArray.empty) = true → memB (l.take k) (l.getD k ByteArray.empty) = false → ∀ i, i < k + 1 → nameB (l.getD i ByteArray.empty) = true ∧ memB (l.take i) (l.getD i ByteArray.empty) = false) := fun h1 h2 i hi => by
            by_cases e : i = k
            · subst e; exact ⟨h1, h2⟩
            · exact hz.out i (by omega)
          have HFk := hidP (HF.out k hlt)
          have HM : Hid (memB (l.take k) (l.getD k ByteArray.empty) = true ↔ ∃ i, i < k ∧ l.getD i ByteArray.empty = l.getD k ByteArray.empty) := memB_take hk
          clear hc' hz
          obtain ⟨s, hs⟩ : ∃ s, l.getD k ByteArray.empty = s := ⟨_, rfl⟩
          rw [hs] at hc HZ HFk C1 HM
          have HSK := hidP hs
          clear hs
          obtain ⟨p, hp⟩ : ∃ p, nameB s = p := ⟨_, rfl⟩
          rw [hp] at HZ HFk C1
          clear hp
          cases p with
          | false =>
            have HF2 := hidP (HFk.out (by simp))
            clear HZ HFk HM
            go_wp2_with fail
            refine (C1.out _).mono ?_
            rintro e w0 ⟨rfl, rfl⟩
            go_wp2
            go_ret
            exact ⟨ret_int HF2.out.symm, below_drewN HB2.out _⟩
          | true =>
            go_wp2_with fail
            refine (C1.out _).mono ?_
            rintro e w0 ⟨rfl, rfl⟩
            clear C1
            go_wp2
            go_loopw [5] (fun v wr => ∃ j d : Nat, j ≤ k ∧ v = .int .i64 j ∧ wr = W1.drewN d ∧ Hid (∀ i, i < j → l.getD i ByteArray.empty ≠ s)) (fun v _ => k - (intOf v).toNat)
            case atStart => exact ⟨0, d, Nat.zero_le _, rfl, rfl, fun i hi => absurd hi (by omega)⟩
            case round =>
              obtain ⟨j, d2, hj, rfl, rfl, hy⟩ := hrel
              by_cases hlt2 : j < k
              · have hcj := HC.out j (by omega)
                have hjl : (j : Int) < l.length := by omega
                have HY : Hid (l.getD j ByteArray.empty ≠ s → ∀ i, i < j + 1 → l.getD i ByteArray.empty ≠ s) := fun h i hi => by
                  by_cases e : i = j
                  · subst e; exact h
                  · exact hy.out i (by omega)
                have HX2 : Hid (l.getD j ByteArray.empty = s → r = 70) := fun h => HFk.out (fun e => by
                  have := HM.out.2 ⟨j, hlt2, h⟩
                  rw [this] at e; simp at e)
                obtain ⟨u, hu⟩ : ∃ u, l.getD j ByteArray.empty = u := ⟨_, rfl⟩
                rw [hu] at hcj HY HX2
                clear hu hy
                by_cases he : u = s
                · have HF2 := hidP (HX2.out he)
                  subst he
                  have he2 := text_eq u
                  clear HY HX2 HZ HFk HM
                  go_wp2
                  go_quiet (fail)
                  go_wp2
                  go_ret
                  exact ⟨ret_int HF2.out.symm, below_drewN (below_drewN HB2.out _) _⟩
                · have HY2 := hidP (HY.out he)
                  have he2 := text_ne he
                  have he3 := text_ne (fun e => he e.symm)
                  clear HY HX2
                  go_wp2
                  go_quiet (fail)
                  go_wp2
                  go_roundw
                  case rel => exact ⟨j + 1, d2 + nq, by omega, by go_num, by first | rfl | exact World.drewN_drewN _ _ _, HY2⟩
                  case measure => simp [intOf]; omega
              · have hf : memB (l.take k) s = false := by
                  cases e : memB (l.take k) s with
                  | false => rfl
                  | true =>
                    obtain ⟨i, hi, h⟩ := HM.out.1 e
                    exact absurd h (hy.out i (by omega))
                have HZ2 := hidP (HZ.out (by first | rfl | trivial) hf)
                clear HZ HFk HM hf hy
                go_wp2
                go_roundw
                case rel => exact ⟨k + 1, d2, by omega, by go_num, rfl, HZ2⟩
                case measure => simp [intOf]; omega
        · have HT := hidP (HN.out (fun i hi => hz.out i (by omega)))
          clear hz
          go_wp2
          go_ret
          exact ⟨ret_int HT.out.symm, below_drewN HB2.out _⟩
  · have e := HR.out; rw [checkN_bad_order hob] at e; subst e; clear HR HS
    by_cases h3 : o = 3
    · subst h3
      by_cases hf : f < 1
      · clear hob
        go_enter Try.func14, Try.ntmps14
        go_wp2
        go_ret
        exact ⟨rfl, HB.out⟩
      · have hf2 : f ≥ (l.length : Int) := by omega
        clear hob
        go_enter Try.func14, Try.ntmps14
        go_wp2
        go_ret
        exact ⟨rfl, HB.out⟩
    · have hf : ¬ f = 0 := by omega
      have hf' : (f != 0) = true := by rw [bne_iff_ne]; exact hf
      have h3' : (o != 3) = true := by rw [bne_iff_ne]; exact h3
      clear hob
      go_enter Try.func14, Try.ntmps14
      go_wp2
      go_ret
      exact ⟨rfl, HB.out⟩
end Go.Proofs.Ythlldjknmdndoaa
