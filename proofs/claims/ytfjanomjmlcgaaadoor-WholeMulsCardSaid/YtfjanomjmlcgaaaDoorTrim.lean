/- nat.trim, slices.Clone, nat.Plain by their contracts. -/
import Derived.Test.YtfjanomjmlcgaaaDoorChecked
import Derived.Test.YtfjanomjmlcgaaaDoorMem
import Derived.Lib.SliceRun
set_option linter.unusedVariables false
set_option linter.unusedSimpArgs false
namespace Go.Proofs.YtfjanomjmlcgaaaDoor
open Go.RowKit

theorem ret_eq {a b : Value} (h : a = b) : Ending.returned a = .returned b := by rw [h]

theorem trim_any (ao : Option Addr) (len cap : Nat) (l : List Nat) (w : World) (h : Sees w (.slice ao len cap) l) :
    Calls Tryd.prog 50 #[.slice ao len cap] w fun e w' => e = .returned (cut ao (limbs (val l)).length) ∧ w = w' := by
  have hok := h.ok
  obtain ⟨ao', cap', h1, h2, h3, h4, hn0, h5⟩ := h
  simp only [Value.slice.injEq] at h1
  obtain ⟨rfl, rfl, rfl⟩ := h1
  have H5 := hid h5
  clear h5
  go_enter Tryd.func50, Tryd.ntmps50
  go_wp2
  go_loop [7] (fun v => ∃ k : Nat, k ≤ l.length ∧ v = .int .i64 k ∧ Hid (∀ i, l.length - k ≤ i → i < l.length → l.getD i 0 = 0)) (fun v => l.length - (intOf v).toNat)
  case atStart => exact ⟨0, Nat.zero_le _, rfl, fun i hi hi' => absurd hi' (by omega)⟩
  case round =>
    obtain ⟨k, hk, rfl, hz⟩ := hrel
    by_cases hlt : k < l.length
    · obtain ⟨b, o, rfl, hcell⟩ := H5.out (by omega)
      have hc := hcell (l.length - k - 1) (by omega)
      clear hcell
      go_wp2
      · have ht : ((l[l.length - k - 1]?.getD 0 : Nat) != (0 : Int)) = true := by assumption
        have e := limbs_val_take hok (l.length - k) (by omega) hz.out (fun _ => by
          intro h0; rw [List.getD_eq_getElem?_getD] at h0; rw [h0] at ht; simp at ht)
        have hl : (limbs (val l)).length = l.length - k := by rw [e]; simp
        go_ret
        refine ⟨ret_eq ?_, rfl⟩
        rw [hl]; unfold cut; rw [if_neg (by omega)]; rfl
      · have ht : ((l[l.length - k - 1]?.getD 0 : Nat) != (0 : Int)) = false := by assumption
        have hz' : ∀ i, l.length - (k + 1) ≤ i → i < l.length → l.getD i 0 = 0 := by
          intro i hi hi'
          by_cases e : i = l.length - k - 1
          · subst e; rw [List.getD_eq_getElem?_getD]; simpa using ht
          · exact hz.out i (by omega) hi'
        have HZ := hid hz'
        clear hz' hz
        go_round
        case rel => exact ⟨k + 1, by omega, by go_num, HZ⟩
        case measure => simp [intOf]; omega
    · have e := limbs_val_take hok 0 (by omega) (fun i _ hi => hz.out i (by omega) hi) (fun h => absurd h (by omega))
      have hl : (limbs (val l)).length = 0 := by rw [e]; simp
      have HL := hid hl
      clear hl e hz
      go_wp2
      go_ret
      refine ⟨ret_eq ?_, rfl⟩
      rw [HL.out]; rfl

theorem info_u32 : (Tryd.prog.info? 57).map (fun i => (i.zero, i.size, i.bytes)) = some (some (.int .u32 0), 1, 4) := by kernel_rfl

/-- slices.Clone, of a slice that is not nil. -/
theorem clone_some (a : Addr) (len cap : Nat) (l : List Nat) (w : World) (hS : Sees w (.slice (some a) len cap) l) (hl : l.length ≤ 35184372088832) :
    Calls Tryd.prog 53 #[.slice (some a) len cap] w fun e w' => ∃ g c, e = .returned (.slice (some ⟨g, 0, none⟩) l.length c) ∧ w.heap.size ≤ g ∧ Row w' g l ∧ l.length ≤ c ∧ c ≤ maxLen ∧ Below w.heap.size w w' := by
  have h := hS
  obtain ⟨ao', cap', h1, h2, h3, h4, hn0, h5⟩ := h
  simp only [Value.slice.injEq] at h1
  obtain ⟨rfl, rfl, rfl⟩ := h1
  obtain ⟨i0, hi, hz0, hz1, hz2⟩ := info_parts info_u32
  have q22 : ∀ (w : World) (a : Option Addr) (n c n' c' : Nat), (binOp .eql 22 (.slice a n c) (.slice none n' c')).run Tryd.prog w = .ok (.bool a.isNone) w := fun w a n c n' c' => Lib.run_eql_slice_nil w _ _ a n c n' c' Tryd.underlying22
  have H5 := hid hS
  clear h5 hS
  go_enter Tryd.func53, Tryd.ntmps53
  go_wp2_with (at_builtin; refine wpList_append_own _ rfl _ _ 22 rfl w.heap.size 57 i0 (.int .u32 0) 1 4 Tryd.underlying22 hi hz0 hz1 hz2 rfl (by decide) _ _ _ rfl (World.ownsRow_made w #[] 0 (Nat.le_refl _) (Nat.zero_le _) (by simp)) a l.length cap (enc l) rfl ?qc1 ?qc2 ?qc3 ?qc4 ?qc5 ?qc6 ?_)
  case qc1 => rw [enc_length, Nat.mul_one]
  case qc2 => exact (Sees.below H5.out ((Below.refl _ w).alloc (Nat.le_refl _) _)).news
  case qc3 => exact enc_one l
  case qc4 => unfold maxLen; omega
  case qc5 => omega
  case qc6 => simp
  intro v' w1 hown hgrow hnil
  obtain ⟨g, c, rfl, hrow, hg, hlc, hc⟩ := owns_some hown hnil
  have HR := hid hrow
  clear hown hnil hrow
  go_wp2
  go_ret
  exact ⟨g, c, rfl, hg, HR, hlc, hc, ((Below.refl _ w).alloc (Nat.le_refl _) _).grown hgrow (by simp) (by intro k hk; simp [Value.ownBlock] at hk; omega)⟩

/-- .. of nil. -/
theorem clone_nil (n c : Nat) (w : World) :
    Calls Tryd.prog 53 #[.slice none n c] w fun e w' => e = .returned (.slice none 0 0) ∧ w = w' := by
  have q22 : ∀ (w : World) (a : Option Addr) (n c n' c' : Nat), (binOp .eql 22 (.slice a n c) (.slice none n' c')).run Tryd.prog w = .ok (.bool a.isNone) w := fun w a n c n' c' => Lib.run_eql_slice_nil w _ _ a n c n' c' Tryd.underlying22
  go_enter Tryd.func53, Tryd.ntmps53
  go_wp2
  go_ret
  exact ⟨rfl, rfl⟩


/-- nat.Plain: nil, or a new row that begins with the plain list. -/
def IsPlain (w : World) (l : List Nat) (e : Ending) (w' : World) : Prop :=
  ∃ v, e = .returned v ∧ Below w.heap.size w w' ∧ ((limbs (val l) = [] ∧ v = .slice none 0 0) ∨ (∃ g c, v = .slice (some ⟨g, 0, none⟩) (limbs (val l)).length c ∧ (limbs (val l)).length ≤ c ∧ 0 < (limbs (val l)).length ∧ w.heap.size ≤ g ∧ Row w' g (limbs (val l))))

theorem IsPlain.sees {w w' : World} {l : List Nat} {e : Ending} (h : IsPlain w l e w') (hl : (limbs (val l)).length ≤ 70368744177664) : ∃ v, e = .returned v ∧ Sees w' v (limbs (val l)) ∧ Below w.heap.size w w' := by
  obtain ⟨v, rfl, hb, ⟨h0, rfl⟩ | ⟨g, c, rfl, hc, hp, hg, hrow⟩⟩ := h
  · exact ⟨_, rfl, by rw [h0]; exact Sees.nil _, hb⟩
  · refine ⟨_, rfl, ?_, hb⟩
    have := hrow.sees (limbs_ok _) 0 (limbs (val l)).length c (by omega) hc hl
    simpa using this

/-- .. and nothing of it lies in memory that was there. -/
def Fresh (w : World) (v : Value) : Prop := ∀ a n c, v = .slice (some a) n c → w.heap.size ≤ a.block
theorem IsPlain.fresh {w w' : World} {l : List Nat} {e : Ending} (h : IsPlain w l e w') (hl : (limbs (val l)).length ≤ 70368744177664) : ∃ v, e = .returned v ∧ Sees w' v (limbs (val l)) ∧ Below w.heap.size w w' ∧ Fresh w v := by
  obtain ⟨v, he, hs, hb⟩ := h.sees hl
  refine ⟨v, he, hs, hb, ?_⟩
  obtain ⟨v', he', _, ⟨_, hv⟩ | ⟨g, c, hv, _, _, hg, _⟩⟩ := h
  · rw [he] at he'; obtain rfl := Ending.returned.inj he'
    intro a n c e; rw [hv] at e; cases e
  · rw [he] at he'; obtain rfl := Ending.returned.inj he'
    intro a n c' e; rw [hv] at e; simp only [Value.slice.injEq, Option.some.injEq] at e; obtain ⟨rfl, _, _⟩ := e; exact hg
theorem Fresh.mono {a w : World} {v : Value} (h : Fresh w v) (hs : a.heap.size ≤ w.heap.size) : Fresh a v := fun p n c e => Nat.le_trans hs (h p n c e)

theorem Sees.grown' {w w' : World} {v : Value} {l : List Nat} (h : Sees w v l) {r : Option Nat} (hg : w.grownBy w' r) (hne : ∀ a n c, v = .slice (some a) n c → some a.block ≠ r) : Sees w' v l := by
  obtain ⟨ao, cap, rfl, h2, h3, h4, hn0, h5⟩ := h
  refine ⟨ao, cap, rfl, h2, h3, h4, hn0, fun hp => ?_⟩
  obtain ⟨b, o, rfl, hcell⟩ := h5 hp
  exact ⟨b, o, rfl, fun i hi => hg.cell (hcell i hi) (show some b ≠ r from hne ⟨b, o, none⟩ _ _ rfl)⟩

theorem plain_any (v : Value) (l : List Nat) (w : World) (h : Sees w v l) (hl : l.length ≤ 35184372088832) :
    Calls Tryd.prog 24 #[v] w fun e w' => IsPlain w l e w' := by
  have hS := h
  obtain ⟨ao, cap, rfl, h2, h3, h4, hn0, h5⟩ := h
  have H5 := hid h5
  clear h5
  match ao, hS with
  | none, hS =>
    have hl0 : l = [] := by
      cases l with
      | nil => rfl
      | cons x t => obtain ⟨_, _, h, _⟩ := H5.out (by simp); cases h
    subst hl0
    go_enter Tryd.func24, Tryd.ntmps24
    go_wp2_with fail
    refine (clone_nil _ _ _).mono ?_
    rintro e w' ⟨rfl, rfl⟩
    go_wp2_with fail
    refine (trim_any none 0 0 [] _ (Sees.nil _)).mono ?_
    rintro e w' ⟨rfl, rfl⟩
    go_wp2
    go_ret
    exact ⟨_, rfl, Below.refl _ _, .inl ⟨rfl, rfl⟩⟩
  | some a, hS =>
    go_enter Tryd.func24, Tryd.ntmps24
    go_wp2_with fail
    refine (clone_some a _ _ _ _ hS hl).mono ?_
    rintro e w1 ⟨g, c, rfl, hg, hrow, hlc, hc, hb⟩
    have hs : Sees w1 (.slice (some ⟨g, 0, none⟩) l.length c) l := by
      have := hrow.sees h4 0 l.length c (by omega) hlc h3
      simpa using this
    have HR := hid hrow
    clear hrow
    go_wp2_with fail
    refine (trim_any _ _ _ l _ hs).mono ?_
    rintro e w' ⟨rfl, rfl⟩
    go_wp2
    go_ret
    refine ⟨_, rfl, hb, ?_⟩
    obtain ⟨e, hle⟩ := limbs_prefix h4
    by_cases h0 : (limbs (val l)).length = 0
    · exact .inl ⟨List.eq_nil_of_length_eq_zero h0, by unfold cut; rw [if_pos h0]; rfl⟩
    · refine .inr ⟨g, _, by unfold cut; rw [if_neg h0]; rfl, Nat.le_refl _, by omega, hg, ?_⟩
      have := HR.out.take (limbs (val l)).length
      rwa [← e] at this

/-- What trim hands back reads as the plain list. -/
theorem sees_trim {w : World} {ao : Option Addr} {len cap : Nat} {l : List Nat} (h : Sees w (.slice ao len cap) l) : Sees w (cut ao (limbs (val l)).length) (limbs (val l)) := by
  obtain ⟨e, hl⟩ := limbs_prefix h.ok
  have := h.cut _ hl
  rwa [← e] at this

/-- What trim hands back, as callers take it: the address stays open. -/
def Trimmed (w : World) (ao : Option Addr) (x : Nat) (e : Ending) : Prop :=
  ∃ A, e = .returned (.slice A (limbs x).length (limbs x).length) ∧ Sees w (.slice A (limbs x).length (limbs x).length) (limbs x) ∧ (0 < (limbs x).length → A = ao)

theorem trim_sees (ao : Option Addr) (len cap : Nat) (l : List Nat) (w : World) (h : Sees w (.slice ao len cap) l) :
    Calls Tryd.prog 50 #[.slice ao len cap] w fun e w' => Trimmed w ao (val l) e ∧ w = w' := by
  refine (trim_any ao len cap l w h).mono ?_
  rintro e w' ⟨rfl, rfl⟩
  have hs := sees_trim h
  unfold cut at hs ⊢
  by_cases h0 : (limbs (val l)).length = 0
  · rw [if_pos h0] at hs ⊢
    refine ⟨⟨none, by rw [h0], ?_, fun h => absurd h (by omega)⟩, rfl⟩
    rwa [h0]
  · rw [if_neg h0] at hs ⊢
    exact ⟨⟨ao, rfl, hs, fun _ => rfl⟩, rfl⟩

end Go.Proofs.YtfjanomjmlcgaaaDoor
