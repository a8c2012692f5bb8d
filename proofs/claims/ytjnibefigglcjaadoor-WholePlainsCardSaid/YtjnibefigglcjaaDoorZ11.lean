/- strings.CutPrefix at a minus sign. -/
import Derived.Test.YtjnibefigglcjaaDoorZ10
import Derived.Test.YtjnibefigglcjaaDoorParse5
set_option linter.unusedVariables false
set_option linter.unusedSimpArgs false
namespace Go.Proofs.YtjnibefigglcjaaDoor
open Go.RowKit

/-- A text begins with a minus sign; what follows that. -/
def minusB (s : ByteArray) : Bool := decide (0 < s.size ∧ let8 s 0 = 45)
def restS (s : ByteArray) : ByteArray := if minusB s then s.extract 1 s.size else s

theorem extract_one (s : ByteArray) (h : 1 ≤ s.size) : ((s.extract 0 1).toList == [45]) = minusB s := by
  have hd : (s.extract 0 1).toList = s.data.toList.take 1 := by
    rw [ByteArray.toList_eq, ByteArray.data_extract, Array.toList_extract]
    simp
  rw [hd]
  unfold minusB let8
  have hl : s.data.toList.length = s.size := by cases s; rfl
  generalize s.data.toList = l at *
  match l, hl with
  | [], hl => simp at hl; omega
  | c :: r, hl =>
    have h0 : 0 < s.size := by omega
    by_cases hc : c = 45
    · subst hc; simp [h0]
    · have : ¬ c.toNat = 45 := fun e => hc (UInt8.toNat_inj.1 (by simpa using e))
      simp [h0, this, hc]
theorem minus_short (s : ByteArray) (h : ¬ 1 ≤ s.size) : minusB s = false := by
  unfold minusB
  simp
  omega
theorem rest_size (s : ByteArray) : (restS s).size ≤ s.size := by
  unfold restS
  split
  · rw [ByteArray.size_extract]; omega
  · exact Nat.le_refl _

theorem has_minus (s : ByteArray) (w : World) (hs : s.size ≤ 140737488355328) :
    Calls Tryd.prog 109 #[.string s, .string ⟨#[45]⟩] w fun e w' => e = .returned (.bool (minusB s)) ∧ w = w' := by
  by_cases h : 1 ≤ s.size
  · have he := hid (extract_one s h)
    go_enter Tryd.func109, Tryd.ntmps109
    go_wp2
    go_ret
    exact ⟨by rw [← he.out]; rfl, rfl⟩
  · have he := hid (minus_short s h)
    go_enter Tryd.func109, Tryd.ntmps109
    go_wp2
    go_ret
    exact ⟨by rw [he.out]; rfl, rfl⟩

theorem cut_minus_lite (s : ByteArray) (w : World) (hs : s.size ≤ 140737488355328) :
    Calls Tryd.prog 101 #[.string s, .string ⟨#[45]⟩] w fun e w' => e = .returned (.tuple #[.string (restS s), .bool (minusB s)]) ∧ w = w' := by
  have hC := hid (has_minus s w hs)
  have hR : restS s = if minusB s = true then s.extract 1 s.size else s := rfl
  have hm : minusB s = true → 1 ≤ s.size := fun h => by
    rcases Nat.lt_or_ge s.size 1 with h1 | h1
    · rw [minus_short s (by omega)] at h; cases h
    · exact h1
  obtain ⟨b, hb⟩ : ∃ b, minusB s = b := ⟨_, rfl⟩
  rw [hb] at hC hR hm ⊢
  have HR := hid hR; have HM := hid hm
  clear hb hR hm
  go_enter Tryd.func101, Tryd.ntmps101
  go_wp2_with fail
  refine hC.out.mono ?_
  rintro e w' ⟨rfl, rfl⟩
  cases b
  · have hr := HR.out
    simp only [Bool.false_eq_true, if_false] at hr
    have HR2 := hid hr
    clear hr HR HM hC
    go_wp2
    go_ret2
    exact ⟨by rw [HR2.out]; rfl, rfl⟩
  · have hr := HR.out
    simp only [if_true] at hr
    have HR2 := hid hr
    have h1 := HM.out rfl
    clear hr HR HM hC
    go_wp2
    go_ret2
    exact ⟨by rw [HR2.out]; rfl, rfl⟩

theorem cut_minus (s : ByteArray) (w : World) (hs : s.size ≤ 140737488355328) :
    Calls Tryd.prog 85 #[.string s, .string ⟨#[45]⟩] w fun e w' => e = .returned (.tuple #[.string (restS s), .bool (minusB s)]) ∧ w = w' := by
  have hC := hid (cut_minus_lite s w hs)
  go_enter Tryd.func85, Tryd.ntmps85
  go_wp2_with fail
  refine hC.out.mono ?_
  rintro e w' ⟨rfl, rfl⟩
  go_wp2
  go_ret2
  exact ⟨rfl, rfl⟩

/-! ### Parse of layer 1, whatever the text -/
open Classical in
/-- The error that Parse of layer 1 tells; the limbs. -/
noncomputable def errT (t : ByteArray) : Nat := if Numeral t then (if 10000 < t.size then 2 else 0) else 10
noncomputable def lstT (t : ByteArray) : List Nat := if errT t = 0 then limbs (numP t t.size) else []
theorem errT_text {t : ByteArray} (h : ¬ Numeral t) : errT t = 10 ∧ lstT t = [] := by
  have h1 : errT t = 10 := by unfold errT; rw [if_neg h]
  exact ⟨h1, by unfold lstT; rw [h1]; rfl⟩
theorem errT_long {t : ByteArray} (h : Numeral t) (hl : 10000 < t.size) : errT t = 2 ∧ lstT t = [] := by
  have h1 : errT t = 2 := by unfold errT; rw [if_pos h, if_pos hl]
  exact ⟨h1, by unfold lstT; rw [h1]; rfl⟩
theorem errT_ok {t : ByteArray} (h : Numeral t) (hl : t.size ≤ 10000) : errT t = 0 ∧ lstT t = limbs (numP t t.size) := by
  have h1 : errT t = 0 := by unfold errT; rw [if_pos h, if_neg (by omega)]
  exact ⟨h1, by unfold lstT; rw [h1]; rfl⟩

theorem nat_parse_any (t : ByteArray) (w : World) (ht : t.size ≤ 140737488355328) :
    Calls Tryd.prog 86 #[.string t] w fun e w' => ∃ v, e = .returned (.tuple #[v, .int .i64 (errT t : Nat)]) ∧ Sees w' v (lstT t) ∧ Below w.heap.size w w' := by
  by_cases h : Numeral t
  · rcases Nat.lt_or_ge 10000 t.size with hl | hl
    · rw [(errT_long h hl).1, (errT_long h hl).2]
      refine (nat_parse_long t w ht h hl).mono ?_
      rintro e w' ⟨rfl, rfl⟩
      exact ⟨_, rfl, Sees.nil _, Below.refl _ _⟩
    · rw [(errT_ok h hl).1, (errT_ok h hl).2]
      refine (nat_parse_ok t w h hl).mono ?_
      rintro e w' ⟨v, rfl, hs, hb⟩
      exact ⟨_, rfl, hs, hb⟩
  · rw [(errT_text h).1, (errT_text h).2]
    refine (nat_parse_text t w ht h).mono ?_
    rintro e w' ⟨rfl, rfl⟩
    exact ⟨_, rfl, Sees.nil _, Below.refl _ _⟩
theorem ref_parse_any (t : ByteArray) (w : World) (ht : t.size ≤ 140737488355328) :
    Calls Tryd.prog 87 #[.string t] w fun e w' => ∃ v, e = .returned (.tuple #[v, .int .i64 (errT t : Nat)]) ∧ Sees w' v (lstT t) ∧ Below w.heap.size w w' := by
  by_cases h : Numeral t
  · rcases Nat.lt_or_ge 10000 t.size with hl | hl
    · rw [(errT_long h hl).1, (errT_long h hl).2]
      refine (ref_parse_long t w ht h.1 h.2.1 ⟨h.2.2, hl⟩).mono ?_
      rintro e w' ⟨rfl, rfl⟩
      exact ⟨_, rfl, Sees.nil _, Below.refl _ _⟩
    · rw [(errT_ok h hl).1, (errT_ok h hl).2]
      refine (ref_parse_ok t w ht h.1 h.2.1 ⟨h.2.2, hl⟩).mono ?_
      rintro e w' ⟨v, rfl, hs, hb⟩
      exact ⟨_, rfl, hs, hb⟩
  · rw [(errT_text h).1, (errT_text h).2]
    have H : Calls Tryd.prog 87 #[.string t] w fun e w' => e = .returned (.tuple #[.slice none 0 0, .int .i64 10]) ∧ w = w' := by
      by_cases hf : t.size = 0 ∨ (0 < t.size ∧ let8 t 0 = 48 ∧ 1 < t.size)
      · exact ref_parse_first t w ht hf
      · have h0 : 0 < t.size := by omega
        have h1 : ¬ (let8 t 0 = 48 ∧ 1 < t.size) := fun e => hf (.inr ⟨h0, e⟩)
        exact ref_parse_bad t w ht h0 h1 (fun e => h ⟨h0, h1, e⟩)
    refine H.mono ?_
    rintro e w' ⟨rfl, rfl⟩
    exact ⟨_, rfl, Sees.nil _, Below.refl _ _⟩
end Go.Proofs.YtjnibefigglcjaaDoor
