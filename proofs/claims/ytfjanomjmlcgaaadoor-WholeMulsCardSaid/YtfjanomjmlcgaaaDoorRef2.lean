/- The document's Add by its contract. -/
import Derived.Test.YtfjanomjmlcgaaaDoorRef1
set_option linter.unusedVariables false
set_option linter.unusedSimpArgs false
namespace Go.Proofs.YtfjanomjmlcgaaaDoor
open Go.RowKit

theorem owns_sees {w : World} {base n : Nat} {v : Value} {l : List Nat} (h : w.ownsRow base 57 1 v n (enc l)) (hok : Ok l) (hl : l.length ≤ 70368744177664) : Sees w v l := by
  by_cases e : v = .slice none 0 0
  · have hl0 : l = [] := by
      rcases h.2 with ⟨_, h2⟩ | ⟨g, cap, cur, h2, _⟩
      · have := h.1; rw [enc_length, h2] at this; exact List.eq_nil_of_length_eq_zero (by omega)
      · rw [e] at h2; cases h2
    rw [e, hl0]; exact Sees.nil w
  · obtain ⟨g, cap, rfl, hr, _, hc, _⟩ := owns_some h e
    have := hr.sees hok 0 l.length cap (by omega) hc hl
    simpa using this

/-- What the reference's sum has told behind k limbs. -/
def SumTo (l m t : List Nat) (k c : Nat) : Prop := t.length = k ∧ Ok t ∧ val t + 4294967296 ^ k * c = valF (fun i => l.getD i 0) k + valF (fun i => m.getD i 0) k
theorem SumTo.step {l m t : List Nat} {k c : Nat} (h : SumTo l m t k c) (s d : Nat) (hs : s < 4294967296) (e : c + l.getD k 0 + m.getD k 0 = s + 4294967296 * d) : SumTo l m (t ++ [s]) (k + 1) d := by
  obtain ⟨h1, h2, h3⟩ := h
  refine ⟨by simp [h1], h2.append (Ok.cons hs Ok.nil), ?_⟩
  rw [val_append, h1, val_cons, val_nil, Nat.mul_zero, Nat.add_zero]
  simp only [valF]
  have e2 := congrArg (4294967296 ^ k * ·) e
  simp only [Nat.mul_add] at e2
  rw [Nat.pow_succ, Nat.mul_assoc]
  omega

set_option maxHeartbeats 4000000 in
theorem ref_add (a b : Option Addr) (ca cb : Nat) (l m : List Nat) (w : World) (ha : Sees w (.slice a l.length ca) l) (hb : Sees w (.slice b m.length cb) m) (hl : l.length ≤ 35184372088000) (hm : m.length ≤ 35184372088000) :
    Calls Tryd.prog 80 #[.slice a l.length ca, .slice b m.length cb] w fun e w' => IsNum w (val l + val m) e w' := by
  have HA := hid ha; have HB := hid hb
  clear ha hb
  obtain ⟨i0, hi, hz0, hz1, hz2⟩ := info_parts info_u32
  go_enter Tryd.func80, Tryd.ntmps80
  go_wp2
  go_loopg [5, 6, 7] (2 * max l.length m.length) (fun n v5 v6 v7 wr => ∃ (k c : Nat) (t : List Nat), n = 2 * (max l.length m.length - k) + c ∧ k + c ≤ max l.length m.length + 1 ∧ v7 = .int .i64 k ∧ v6 = .int .u64 c ∧ c ≤ 1 ∧ Hid (SumTo l m t k c) ∧ Hid (wr.ownsRow w.heap.size 57 1 v5 k (enc t)) ∧ Hid (Below w.heap.size w wr))
  case atStart => exact ⟨0, 0, [], by omega, by omega, rfl, rfl, by omega, ⟨rfl, Ok.nil, by simp [val_nil, valF]⟩, World.ownsRow_nil _ _ _ _, Below.refl _ _⟩
  case round =>
    obtain ⟨k, c, t, hn, hkc, rfl, rfl, hc1, hsum, hown, hbel⟩ := hrel
    have H1 : k < l.length → ∃ b1 o1, a = some ⟨b1, o1, none⟩ ∧ wr.cell? ⟨b1, o1 + k, none⟩ = some (.int .u32 (l.getD k 0 : Nat)) := fun h => by
      obtain ⟨b1, o1, e, hc⟩ := (HA.out.below hbel.out).at (by omega)
      exact ⟨b1, o1, e, hc _ h⟩
    have H2 : k < m.length → ∃ b1 o1, b = some ⟨b1, o1, none⟩ ∧ wr.cell? ⟨b1, o1 + k, none⟩ = some (.int .u32 (m.getD k 0 : Nat)) := fun h => by
      obtain ⟨b1, o1, e, hc⟩ := (HB.out.below hbel.out).at (by omega)
      exact ⟨b1, o1, e, hc _ h⟩
    have z1 : ¬ k < l.length → l.getD k 0 = 0 := fun h => by rw [List.getD_eq_getElem?_getD, List.getElem?_eq_none (by omega)]; rfl
    have z2 : ¬ k < m.length → m.getD k 0 = 0 := fun h => by rw [List.getD_eq_getElem?_getD, List.getElem?_eq_none (by omega)]; rfl
    have o1 := HA.out.ok.getD k
    have o2 := HB.out.ok.getD k
    have hst := hid hsum.out.step
    have HGK := hid hn
    have hlenlt : k ≤ max l.length m.length + 1 := by omega
    clear hn
    generalize l.getD k 0 = x at *
    generalize m.getD k 0 = y at *
    by_cases hkl : k < l.length
    · obtain ⟨b1, q1, rfl, hx⟩ := H1 hkl
      by_cases hkm : k < m.length
      · obtain ⟨b2, q2, rfl, hy⟩ := H2 hkm
        clear H1 H2 z1 z2
        obtain ⟨s, d, hs, hd, he, em, ed⟩ : ∃ s d : Nat, s < 4294967296 ∧ d ≤ 1 ∧ c + x + y = s + 4294967296 * d ∧ ((c : Int) + x + y) % 4294967296 = (s : Int) ∧ ((c : Int) + x + y) / 4294967296 = (d : Int) :=
          ⟨(c + x + y) % 4294967296, (c + x + y) / 4294967296, by omega, by omega, by omega, by omega, by omega⟩
        have hkd : k + 1 + d ≤ max l.length m.length + 1 := by omega
        have hstep := hst.out s d hs he
        have hnews : ∀ j u, (enc [s])[j]? = some u → (wr.alloc (.cells #[.int .u32 (s : Nat)] 57)).cell? ((⟨wr.heap.size, 0, none⟩ : Addr).add j) = some u :=
          (sees_lit wr [s] (Ok.cons hs Ok.nil) (by simp)).news
        have HN := hid hnews; have HS := hid hstep; have HW := hid hown.out.lt
        clear hnews hstep he
        go_wp2_with (at_builtin; refine wpList_append_own _ rfl _ _ 22 rfl w.heap.size 57 i0 (.int .u32 0) 1 4 Tryd.underlying22 hi hz0 hz1 hz2 rfl (by decide) _ _ _ rfl (hown.out.alloc _) ⟨wr.heap.size, 0, none⟩ 1 1 (enc [s]) rfl ?ga1 ?gb1 ?gc1 ?gd1 ?ge1 ?gf1 ?_)
        case ga1 => simp [enc_length]
        case gb1 => exact HN.out
        case gc1 => exact enc_one _
        case gd1 => unfold maxLen; omega
        case ge1 => omega
        case gf1 => have := hbel.out.size; simp; omega
        intro v' w4 hown4 hgrow _
        rw [enc_append] at hown4
        have hb4 : Below w.heap.size w w4 := (hbel.out.alloc hbel.out.size _).grown hgrow (by rw [Deep.nblk_alloc]; have := hbel.out.size; omega) (fun k e => (HW.out k e).1)
        have HO := hid hown4; have HB4 := hid hb4
        clear hown4 hgrow hb4
        go_wp2
        go_roundg (2 * (max l.length m.length - (k + 1)) + d)
        case rel => exact ⟨k + 1, d, t ++ [s], by omega, hkd, by go_num, by first | rfl | rw [ed], hd, HS, HO, HB4⟩
        case measure => have := HGK.out; omega
      · obtain rfl := z2 hkm
        clear H1 H2 z1 z2
        obtain ⟨s, d, hs, hd, he, em, ed⟩ : ∃ s d : Nat, s < 4294967296 ∧ d ≤ 1 ∧ c + x + 0 = s + 4294967296 * d ∧ ((c : Int) + x) % 4294967296 = (s : Int) ∧ ((c : Int) + x) / 4294967296 = (d : Int) :=
          ⟨(c + x + 0) % 4294967296, (c + x + 0) / 4294967296, by omega, by omega, by omega, by omega, by omega⟩
        have hkd : k + 1 + d ≤ max l.length m.length + 1 := by omega
        have hstep := hst.out s d hs he
        have hnews : ∀ j u, (enc [s])[j]? = some u → (wr.alloc (.cells #[.int .u32 (s : Nat)] 57)).cell? ((⟨wr.heap.size, 0, none⟩ : Addr).add j) = some u :=
          (sees_lit wr [s] (Ok.cons hs Ok.nil) (by simp)).news
        have HN := hid hnews; have HS := hid hstep; have HW := hid hown.out.lt
        clear hnews hstep he
        go_wp2_with (at_builtin; refine wpList_append_own _ rfl _ _ 22 rfl w.heap.size 57 i0 (.int .u32 0) 1 4 Tryd.underlying22 hi hz0 hz1 hz2 rfl (by decide) _ _ _ rfl (hown.out.alloc _) ⟨wr.heap.size, 0, none⟩ 1 1 (enc [s]) rfl ?ga2 ?gb2 ?gc2 ?gd2 ?ge2 ?gf2 ?_)
        case ga2 => simp [enc_length]
        case gb2 => exact HN.out
        case gc2 => exact enc_one _
        case gd2 => unfold maxLen; omega
        case ge2 => omega
        case gf2 => have := hbel.out.size; simp; omega
        intro v' w4 hown4 hgrow _
        rw [enc_append] at hown4
        have hb4 : Below w.heap.size w w4 := (hbel.out.alloc hbel.out.size _).grown hgrow (by rw [Deep.nblk_alloc]; have := hbel.out.size; omega) (fun k e => (HW.out k e).1)
        have HO := hid hown4; have HB4 := hid hb4
        clear hown4 hgrow hb4
        go_wp2
        go_roundg (2 * (max l.length m.length - (k + 1)) + d)
        case rel => exact ⟨k + 1, d, t ++ [s], by omega, hkd, by go_num, by first | rfl | rw [ed], hd, HS, HO, HB4⟩
        case measure => have := HGK.out; omega
    · obtain rfl := z1 hkl
      by_cases hkm : k < m.length
      · obtain ⟨b2, q2, rfl, hy⟩ := H2 hkm
        clear H1 H2 z1 z2
        obtain ⟨s, d, hs, hd, he, em, ed⟩ : ∃ s d : Nat, s < 4294967296 ∧ d ≤ 1 ∧ c + 0 + y = s + 4294967296 * d ∧ ((c : Int) + y) % 4294967296 = (s : Int) ∧ ((c : Int) + y) / 4294967296 = (d : Int) :=
          ⟨(c + 0 + y) % 4294967296, (c + 0 + y) / 4294967296, by omega, by omega, by omega, by omega, by omega⟩
        have hkd : k + 1 + d ≤ max l.length m.length + 1 := by omega
        have hstep := hst.out s d hs he
        have hnews : ∀ j u, (enc [s])[j]? = some u → (wr.alloc (.cells #[.int .u32 (s : Nat)] 57)).cell? ((⟨wr.heap.size, 0, none⟩ : Addr).add j) = some u :=
          (sees_lit wr [s] (Ok.cons hs Ok.nil) (by simp)).news
        have HN := hid hnews; have HS := hid hstep; have HW := hid hown.out.lt
        clear hnews hstep he
        go_wp2_with (at_builtin; refine wpList_append_own _ rfl _ _ 22 rfl w.heap.size 57 i0 (.int .u32 0) 1 4 Tryd.underlying22 hi hz0 hz1 hz2 rfl (by decide) _ _ _ rfl (hown.out.alloc _) ⟨wr.heap.size, 0, none⟩ 1 1 (enc [s]) rfl ?ga3 ?gb3 ?gc3 ?gd3 ?ge3 ?gf3 ?_)
        case ga3 => simp [enc_length]
        case gb3 => exact HN.out
        case gc3 => exact enc_one _
        case gd3 => unfold maxLen; omega
        case ge3 => omega
        case gf3 => have := hbel.out.size; simp; omega
        intro v' w4 hown4 hgrow _
        rw [enc_append] at hown4
        have hb4 : Below w.heap.size w w4 := (hbel.out.alloc hbel.out.size _).grown hgrow (by rw [Deep.nblk_alloc]; have := hbel.out.size; omega) (fun k e => (HW.out k e).1)
        have HO := hid hown4; have HB4 := hid hb4
        clear hown4 hgrow hb4
        go_wp2
        go_roundg (2 * (max l.length m.length - (k + 1)) + d)
        case rel => exact ⟨k + 1, d, t ++ [s], by omega, hkd, by go_num, by first | rfl | rw [ed], hd, HS, HO, HB4⟩
        case measure => have := HGK.out; omega
      · obtain rfl := z2 hkm
        clear H1 H2 z1 z2
        by_cases hc0 : 0 < c
        · have hkm2 : k ≤ max l.length m.length := by omega
          obtain ⟨s, d, hs, hd, he, em, ed⟩ : ∃ s d : Nat, s < 4294967296 ∧ d ≤ 1 ∧ c + 0 + 0 = s + 4294967296 * d ∧ ((c : Int)) % 4294967296 = (s : Int) ∧ ((c : Int)) / 4294967296 = (d : Int) :=
            ⟨(c + 0 + 0) % 4294967296, (c + 0 + 0) / 4294967296, by omega, by omega, by omega, by omega, by omega⟩
          have hkd : k + 1 + d ≤ max l.length m.length + 1 := by omega
          have hstep := hst.out s d hs he
          have hnews : ∀ j u, (enc [s])[j]? = some u → (wr.alloc (.cells #[.int .u32 (s : Nat)] 57)).cell? ((⟨wr.heap.size, 0, none⟩ : Addr).add j) = some u :=
            (sees_lit wr [s] (Ok.cons hs Ok.nil) (by simp)).news
          have HN := hid hnews; have HS := hid hstep; have HW := hid hown.out.lt
          clear hnews hstep he
          go_wp2_with (at_builtin; refine wpList_append_own _ rfl _ _ 22 rfl w.heap.size 57 i0 (.int .u32 0) 1 4 Tryd.underlying22 hi hz0 hz1 hz2 rfl (by decide) _ _ _ rfl (hown.out.alloc _) ⟨wr.heap.size, 0, none⟩ 1 1 (enc [s]) rfl ?ga4 ?gb4 ?gc4 ?gd4 ?ge4 ?gf4 ?_)
          case ga4 => simp [enc_length]
          case gb4 => exact HN.out
          case gc4 => exact enc_one _
          case gd4 => unfold maxLen; omega
          case ge4 => omega
          case gf4 => have := hbel.out.size; simp; omega
          intro v' w4 hown4 hgrow _
          rw [enc_append] at hown4
          have hb4 : Below w.heap.size w w4 := (hbel.out.alloc hbel.out.size _).grown hgrow (by rw [Deep.nblk_alloc]; have := hbel.out.size; omega) (fun k e => (HW.out k e).1)
          have HO := hid hown4; have HB4 := hid hb4
          clear hown4 hgrow hb4
          go_wp2
          go_roundg (2 * (max l.length m.length - (k + 1)) + d)
          case rel => exact ⟨k + 1, d, t ++ [s], by omega, hkd, by go_num, by first | rfl | rw [ed], hd, HS, HO, HB4⟩
          case measure => have := HGK.out; omega
        · obtain rfl : c = 0 := by omega
          have hs := hsum.out
          have hlk : t.length ≤ 35184372088832 := by have := hs.1; omega
          have hsee := owns_sees hown.out hs.2.1 (by omega)
          have hv : val t = val l + val m := by
            have := hs.2.2
            rw [← val_valF l k (by omega), ← val_valF m k (by omega)] at this
            simpa using this
          have HS := hid hsee; have HV := hid hv; have HLK := hid hlk
          have hlk2 := Nat.le_trans (limbs_prefix hsee.ok).2 hlk
          clear hs hsee hv hlk hst hsum hown
          go_wp2_with fail
          refine (ref_plain _ _ _ HS.out HLK.out).mono ?_
          intro e w4 hp
          obtain ⟨v4, rfl, hs4, hb4⟩ := hp.sees (by omega)
          have HS4 := hid hs4; have HB4 := hid (hbel.out.trans (hb4.mono hbel.out.size))
          clear hp hs4 hb4
          go_wp2
          go_ret
          exact ⟨_, rfl, by have := HS4.out; rw [HV.out] at this; exact this, HB4.out⟩
end Go.Proofs.YtfjanomjmlcgaaaDoor
