/- The document's Same, Plain, Cmp, Bits by their contracts. -/
import Derived.Test.YtfjanomjmlcgaaaDoorCmp
import Derived.Laws.AppendOwnNone
set_option linter.unusedVariables false
set_option linter.unusedSimpArgs false
namespace Go.Proofs.YtfjanomjmlcgaaaDoor
open Go.RowKit

theorem ref_same (a b : Value) (l : List Nat) (w : World) (ha : Sees w a l) (hb : Sees w b l) :
    Calls Tryd.prog 64 #[a, b] w fun e w' => e = .returned (.bool true) ∧ Below w.heap.size w w' := by
  have hlen := ha.len
  have hA := ha
  have hB := hb
  obtain ⟨A, ca, rfl, _, _, _, _, _⟩ := ha
  obtain ⟨B, cb, rfl, _, _, _, _, _⟩ := hb
  have HA := hid hA; have HB := hid hB
  clear hA hB
  go_enter Tryd.func64, Tryd.ntmps64
  go_wp2
  go_loopw [5] (fun v wr => ∃ k m : Nat, k ≤ l.length ∧ v = .int .i64 k ∧ wr = w.drewN m) (fun v _ => l.length - (intOf v).toNat)
  case atStart => exact ⟨0, 0, Nat.zero_le _, rfl, rfl⟩
  case round =>
    obtain ⟨k, m, hk, rfl, rfl⟩ := hrel
    by_cases hlt : k < l.length
    · obtain ⟨b1, o1, rfl, hc1'⟩ := HA.out.at (by omega)
      obtain ⟨b2, o2, rfl, hc2'⟩ := HB.out.at (by omega)
      have hc1 := hc1' k hlt
      have hc2 := hc2' k hlt
      clear hc1' hc2'
      go_wp2
      go_quiet (fail)
      go_wp2
      go_roundw
      case rel => exact ⟨k + 1, m + nq, by omega, by go_num, rfl⟩
      case measure => simp [intOf]; omega
    · go_wp2
      go_ret
      exact ⟨rfl, below_drewN (Below.refl _ _) _⟩

theorem law_same (a b : Value) (l : List Nat) (w : World) (ha : Sees w a l) (hb : Sees w b l) :
    Calls Tryd.prog 17 #[a, b] w fun e w' => e = .returned (.bool true) ∧ Below w.heap.size w w' := by
  go_enter Tryd.func17, Tryd.ntmps17
  go_wp2_with fail
  refine (ref_same _ _ l _ ha hb).mono ?_
  rintro e w' ⟨rfl, hbel⟩
  go_wp2
  go_ret
  exact ⟨rfl, hbel⟩

theorem ref_plain (v : Value) (l : List Nat) (w : World) (h : Sees w v l) (hl : l.length ≤ 35184372088832) :
    Calls Tryd.prog 56 #[v] w fun e w' => IsPlain w l e w' := by
  have hS := h
  have hok := h.ok
  obtain ⟨ao, cap, rfl, h2, h3, h4, hn0, h5⟩ := h
  have HS := hid hS
  clear hS h5
  obtain ⟨i0, hi, hz0, hz1, hz2⟩ := info_parts info_u32
  go_enter Tryd.func56, Tryd.ntmps56
  go_wp2
  go_loop [3] (fun v => ∃ n : Nat, n ≤ l.length ∧ v = .int .i64 n ∧ Hid (∀ i, n ≤ i → i < l.length → l.getD i 0 = 0)) (fun v => (intOf v).toNat)
  case atStart => exact ⟨l.length, Nat.le_refl _, rfl, fun i hi hi' => absurd hi' (by omega)⟩
  case round =>
    obtain ⟨n, hn, rfl, hz⟩ := hrel
    by_cases h0 : 0 < n
    · obtain ⟨b, o, rfl, hcell⟩ := HS.out.at (by omega)
      have hc := hcell (n - 1) (by omega)
      by_cases hd : l.getD (n - 1) 0 = 0
      · have hz' : ∀ i, n - 1 ≤ i → i < l.length → l.getD i 0 = 0 := by
          intro i hi hi'
          by_cases e : i = n - 1
          · rw [e]; exact hd
          · exact hz.out i (by omega) hi'
        have HZ := hid hz'
        rw [hd] at hc
        clear hcell hz' hz hd
        go_wp2
        go_round
        case rel => exact ⟨n - 1, by omega, by go_num, HZ⟩
        case measure => simp [intOf]; omega
      · have e := limbs_val_take hok n hn hz.out (fun _ => hd)
        have ht : ((l[n - 1]?.getD 0 : Nat) == (0 : Int)) = false := by rw [List.getD_eq_getElem?_getD] at hd; simpa using hd
        have hst := HS.out.take n hn
        have hlt : (l.take n).length = n := by simp; omega
        have E := hid e
        have HT := hid hst
        obtain ⟨t, htt⟩ : ∃ t, t = l.take n := ⟨_, rfl⟩
        rw [← htt] at E HT hlt
        have HLT := hid hlt
        clear hcell hz hd e hst hlt htt
        go_wp2_with (at_builtin; refine wpList_append_own _ rfl _ _ 22 rfl w.heap.size 57 i0 (.int .u32 0) 1 4 Tryd.underlying22 hi hz0 hz1 hz2 rfl (by decide) _ _ _ rfl (World.ownsRow_nil w _ _ _) ⟨b, o, none⟩ n cap (enc t) rfl ?qc1 ?qc2 ?qc3 ?qc4 ?qc5 ?qc6 ?_)
        case qc1 => rw [enc_length]; exact HLT.out
        case qc2 => exact HT.out.news'
        case qc3 => exact enc_one t
        case qc4 => unfold maxLen; omega
        case qc5 => omega
        intro v' w1 hown hgrow hnil
        have hnil' : v' ≠ .slice none 0 0 := fun h => by
          rcases hown.2 with ⟨_, h2⟩ | ⟨g, cap, cur, h2, _⟩
          · omega
          · rw [h2] at h; cases h
        have hown' : w1.ownsRow w.heap.size 57 1 v' n (enc t) := by simpa using hown
        obtain ⟨g, c, rfl, hrow, hg, hlc, hc⟩ := owns_some hown' hnil'
        have HR := hid hrow
        have HG := hid hgrow
        clear hown hown' hnil hnil' hrow hgrow
        go_wp2
        go_ret
        have hlen : (limbs (val l)).length = t.length := by rw [E.out]
        refine ⟨_, rfl, (Below.refl _ w).grown HG.out (Nat.le_refl _) (by intro k hk; simp [Value.ownBlock] at hk), .inr ⟨g, c, ?_, by rw [hlen]; exact hlc, by rw [hlen, HLT.out]; exact h0, hg, ?_⟩⟩
        · rw [hlen]; rfl
        · rw [E.out]; exact HR.out
    · obtain rfl : n = 0 := by omega
      have e := limbs_val_take hok 0 (by omega) hz.out (fun h => absurd h (by omega))
      have E := hid e
      clear e hz h0
      match ao, HS, hn0 with
      | none, HS, hn0 =>
        obtain rfl := hn0 rfl
        go_wp2_with (at_builtin; refine wpList_append_own_none rfl _ _ 22 rfl w.heap.size 57 i0 1 Tryd.underlying22 hi _ _ _ rfl (World.ownsRow_nil w _ _ _) rfl ?_)
        go_ret
        exact ⟨_, rfl, Below.refl _ _, .inl ⟨by rw [E.out]; rfl, rfl⟩⟩
      | some a, HS, hn0 =>
        go_wp2_with (at_builtin; refine wpList_append_own _ rfl _ _ 22 rfl w.heap.size 57 i0 (.int .u32 0) 1 4 Tryd.underlying22 hi hz0 hz1 hz2 rfl (by decide) _ _ _ rfl (World.ownsRow_nil w _ _ _) a 0 cap [] rfl ?rc1 ?rc2 ?rc3 ?rc4 ?rc5 ?rc6 ?_)
        all_goals (try (simp; done))
        intro v' w1 hown hgrow hnil
        have HG := hid hgrow
        clear hown hgrow
        obtain rfl := hnil
        go_wp2
        go_ret
        exact ⟨_, rfl, (Below.refl _ w).grown HG.out (Nat.le_refl _) (by intro k hk; simp [Value.ownBlock] at hk), .inl ⟨by rw [E.out]; rfl, rfl⟩⟩

theorem ref_cmp (a b : Option Addr) (ca cb : Nat) (l m : List Nat) (w : World) (ha : Sees w (.slice a l.length ca) l) (hb : Sees w (.slice b m.length cb) m) :
    Calls Tryd.prog 62 #[.slice a l.length ca, .slice b m.length cb] w fun e w' => e = .returned (.int .i64 (cmpI (val l) (val m))) ∧ w = w' := by
  have hl1 := ha.len
  have hl2 := hb.len
  have HA := hid ha
  have HB := hid hb
  have hf1 : ∀ i, i < max l.length m.length → l.getD i 0 < 4294967296 := fun i _ => ha.ok.getD i
  have hf2 : ∀ i, i < max l.length m.length → m.getD i 0 < 4294967296 := fun i _ => hb.ok.getD i
  have HV1 := hid (val_valF l (max l.length m.length) (by omega))
  have HV2 := hid (val_valF m (max l.length m.length) (by omega))
  have F1 := hid hf1
  have F2 := hid hf2
  clear ha hb hf1 hf2
  go_enter Tryd.func62, Tryd.ntmps62
  go_wp2
  go_loop [5] (fun v => ∃ k : Nat, k ≤ max l.length m.length ∧ v = .int .i64 ((k : Int) - 1) ∧ Hid (∀ i, k ≤ i → i < max l.length m.length → l.getD i 0 = m.getD i 0)) (fun v => (intOf v + 1).toNat)
  case atStart => exact ⟨max l.length m.length, Nat.le_refl _, by congr 1; omega, fun i hi hi' => absurd hi' (by omega)⟩
  case round =>
    obtain ⟨k, hk, rfl, hz⟩ := hrel
    by_cases h0 : k < 1
    · have HC : Hid (cmpI (val l) (val m) = 0) := cmpI_eq (by
        rw [HV1.out, HV2.out]
        exact valF_congr _ _ _ (fun i hi => hz.out i (by omega) hi))
      clear hz
      go_wp2
      go_ret
      exact ⟨ret_int (by rw [HC.out]), rfl⟩
    · have D1 : l.getD (k - 1) 0 < m.getD (k - 1) 0 → Hid (cmpI (val l) (val m) = -1) := fun h => cmpI_lt (by
        rw [HV1.out, HV2.out]
        exact valF_cmp _ _ _ (k - 1) (by omega) F1.out (fun i h1 h2 => hz.out i (by omega) h2) h)
      have D2 : m.getD (k - 1) 0 < l.getD (k - 1) 0 → Hid (cmpI (val l) (val m) = 1) := fun h => cmpI_gt (by
        rw [HV1.out, HV2.out]
        exact valF_cmp _ _ _ (k - 1) (by omega) F2.out (fun i h1 h2 => (hz.out i (by omega) h2).symm) h)
      have D3 : l.getD (k - 1) 0 = m.getD (k - 1) 0 → Hid (∀ i, k - 1 ≤ i → i < max l.length m.length → l.getD i 0 = m.getD i 0) := fun h => by
        intro i hi hi'
        by_cases e : i = k - 1
        · rw [e]; exact h
        · exact hz.out i (by omega) hi'
      clear hz
      have hc1 : k - 1 < l.length → ∃ b1 o1, a = some ⟨b1, o1, none⟩ ∧ w.cell? ⟨b1, o1 + (k - 1), none⟩ = some (.int .u32 (l.getD (k - 1) 0 : Nat)) := fun h => by
        obtain ⟨b1, o1, e, hc⟩ := HA.out.at (by omega)
        exact ⟨b1, o1, e, hc _ h⟩
      have hc2 : k - 1 < m.length → ∃ b1 o1, b = some ⟨b1, o1, none⟩ ∧ w.cell? ⟨b1, o1 + (k - 1), none⟩ = some (.int .u32 (m.getD (k - 1) 0 : Nat)) := fun h => by
        obtain ⟨b1, o1, e, hc⟩ := HB.out.at (by omega)
        exact ⟨b1, o1, e, hc _ h⟩
      have z1 : ¬ k - 1 < l.length → l.getD (k - 1) 0 = 0 := fun h => by rw [List.getD_eq_getElem?_getD, List.getElem?_eq_none (by omega)]; rfl
      have z2 : ¬ k - 1 < m.length → m.getD (k - 1) 0 = 0 := fun h => by rw [List.getD_eq_getElem?_getD, List.getElem?_eq_none (by omega)]; rfl
      generalize l.getD (k - 1) 0 = x at *
      generalize m.getD (k - 1) 0 = y at *
      have E1 := hid D1; have E2 := hid D2; have E3 := hid D3
      clear D1 D2 D3
      by_cases hl : k - 1 < l.length
      · obtain ⟨b1, o1, rfl, hx⟩ := hc1 hl
        by_cases hm : k - 1 < m.length
        · obtain ⟨b2, o2, rfl, hy⟩ := hc2 hm
          clear hc1 hc2 z1 z2
          rcases Nat.lt_trichotomy x y with h | h | h
          · have HC := E1.out h
            go_wp2
            go_ret
            exact ⟨ret_int (by rw [HC.out]), rfl⟩
          · have HZ := E3.out h
            have h1 : x ≤ y := by omega
            have h2 : y ≤ x := by omega
            clear h
            go_wp2
            go_round
            case rel => exact ⟨k - 1, by omega, by go_num, HZ⟩
            case measure => simp [intOf]; omega
          · have HC := E2.out h
            go_wp2
            go_ret
            exact ⟨ret_int (by rw [HC.out]), rfl⟩
        · obtain rfl := z2 hm
          clear hc1 hc2 z1 z2
          rcases Nat.lt_or_ge 0 x with h | h
          · have HC := E2.out (by omega)
            go_wp2
            go_ret
            exact ⟨ret_int (by rw [HC.out]), rfl⟩
          · have HZ := E3.out (by omega)
            go_wp2
            go_round
            case rel => exact ⟨k - 1, by omega, by go_num, HZ⟩
            case measure => simp [intOf]; omega
      · have hm : k - 1 < m.length := by omega
        obtain ⟨b2, o2, rfl, hy⟩ := hc2 hm
        obtain rfl := z1 hl
        clear hc1 hc2 z1 z2
        rcases Nat.lt_or_ge 0 y with h | h
        · have HC := E1.out (by omega)
          go_wp2
          go_ret
          exact ⟨ret_int (by rw [HC.out]), rfl⟩
        · have HZ := E3.out (by omega)
          go_wp2
          go_round
          case rel => exact ⟨k - 1, by omega, by go_num, HZ⟩
          case measure => simp [intOf]; omega

theorem bitsN_half {x : Nat} (h : 0 < x) : bitsN x = bitsN (x / 2) + 1 := by
  unfold bitsN
  rw [if_neg (by omega)]
  by_cases e : x / 2 = 0
  · rw [if_pos e]
    have : x = 1 := by omega
    subst this; rfl
  · rw [if_neg e, Nat.log2_def, if_pos (by omega)]

theorem ref_bits (v : Value) (l : List Nat) (w : World) (h : Sees w v l) (hl : l.length ≤ 35184372088832) :
    Calls Tryd.prog 59 #[v] w fun e w' => e = .returned (.int .i64 (bitsN (val l) : Nat)) ∧ Below w.heap.size w w' := by
  have hlen : (limbs (val l)).length ≤ 35184372088832 := by have := (limbs_prefix h.ok).2; omega
  go_enter Tryd.func59, Tryd.ntmps59
  go_wp2_with fail
  refine (ref_plain _ _ _ h hl).mono ?_
  intro e w' hp
  obtain ⟨v', rfl, hs, hb⟩ := hp.sees (by omega)
  clear hp h
  by_cases h0 : val l = 0
  · have HC : Hid (bitsN (val l) = 0) := by rw [h0]; rfl
    have hn : limbs (val l) = [] := by rw [h0]; rfl
    rw [hn] at hs
    obtain ⟨A, c, rfl, -, -, -, -, -⟩ := hs
    clear h0 hn
    go_wp2
    go_ret
    exact ⟨ret_int (by rw [HC.out]; rfl), hb⟩
  · have h1 : 1 ≤ (limbs (val l)).length := (limbs_last (Nat.pos_of_ne_zero h0)).1
    have hok := hs.ok.getD ((limbs (val l)).length - 1)
    have HC := hid (bitsN_limbs (Nat.pos_of_ne_zero h0))
    have hs' := hs
    obtain ⟨A, c, rfl, -, -, -, -, -⟩ := hs
    obtain ⟨b, o, rfl, hcell⟩ := hs'.at (by omega)
    have hc := hcell ((limbs (val l)).length - 1) (by omega)
    clear hcell hs' h0
    generalize hp : limbs (val l) = p at *
    have HP := hid hp; clear hp
    have hbl := bitsN_le hok
    generalize hu : p.getD (p.length - 1) 0 = u at *
    clear hu
    go_wp2
    go_loop [3, 4] (fun v3 v4 => ∃ n x : Nat, v3 = .int .i64 n ∧ v4 = .int .u32 x ∧ x < 4294967296 ∧ n ≤ 32 * (p.length - 1) + 32 ∧ Hid (n + bitsN x = bitsN (val l))) (fun _ v4 => (intOf v4).toNat)
    case atStart => exact ⟨32 * (p.length - 1), u, by go_num, rfl, hok, by omega, HC.out.symm⟩
    case round =>
      obtain ⟨n, x, rfl, rfl, hx, hn, he⟩ := hrel
      by_cases hx0 : 0 < x
      · have hnn : n + 1 ≤ 32 * (p.length - 1) + 32 ∧ Hid (n + 1 + bitsN (x / 2) = bitsN (val l)) := by
          have h1 := bitsN_half hx0
          have h2 := he.out
          have h3 : Hid (bitsN (val l) ≤ 32 * (p.length - 1) + 32) := by have := HC.out; show _ ≤ _; omega
          exact ⟨by have := h3.out; omega, by show _ = _; omega⟩
        obtain ⟨hn1, he1⟩ := hnn
        clear he
        go_wp2
        go_round
        case rel => exact ⟨n + 1, x / 2, by go_num, by go_num, by omega, hn1, he1⟩
        case measure => simp [intOf]; omega
      · obtain rfl : x = 0 := by omega
        go_wp2
        go_ret
        exact ⟨ret_int (by rw [← he.out]; rfl), hb⟩
end Go.Proofs.YtfjanomjmlcgaaaDoor
