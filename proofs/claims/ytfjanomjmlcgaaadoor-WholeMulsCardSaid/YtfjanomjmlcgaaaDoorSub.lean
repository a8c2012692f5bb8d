/- nat.Sub by its contracts. -/
import Derived.Test.YtfjanomjmlcgaaaDoorAdd
import Derived.Test.YtfjanomjmlcgaaaDoorTake
set_option linter.unusedVariables false
set_option linter.unusedSimpArgs false
namespace Go.Proofs.YtfjanomjmlcgaaaDoor
open Go.RowKit

theorem TakeFrom.total {s t : List Nat} {n y c : Nat} (h : TakeFrom s 0 n y t c) (hl : s.length = n) (hy : y ≤ val s) : val t = val s - y := by
  have h1 := h.sum
  rw [seg_all t n (by rw [h.part.len, hl]; exact Nat.le_refl _), seg_all s n (by omega)] at h1
  have h2 := val_lt h.part.ok
  rw [h.part.len, hl] at h2
  have : c = 0 := by
    rcases Nat.eq_zero_or_pos c with h0 | h0
    · exact h0
    · have : 4294967296 ^ n * 1 ≤ 4294967296 ^ n * c := Nat.mul_le_mul_left _ h0
      omega
  rw [this] at h1
  omega

theorem length_le_of_le {x y : Nat} (h : y ≤ x) : (limbs y).length ≤ (limbs x).length := by
  rcases Nat.lt_or_ge (limbs x).length (limbs y).length with h1 | h1
  · have := limbs_length_lt h1; omega
  · exact h1

set_option maxHeartbeats 1000000 in
theorem nat_sub_no (a b : Option Addr) (la ca lb cb : Nat) (l m : List Nat) (w : World) (ha : Sees w (.slice a la ca) l) (hb : Sees w (.slice b lb cb) m) (hlt : val l < val m) :
    Calls Tryd.prog 81 #[.slice a la ca, .slice b lb cb] w fun e w' => e = .returned (.tuple #[.slice none 0 0, .bool false]) ∧ Below w.heap.size w w' := by
  go_enter Tryd.func81, Tryd.ntmps81
  go_wp2_with fail
  refine (trim_sees _ _ _ _ _ ha).mono ?_
  rintro e w' ⟨⟨A, rfl, hA, -⟩, rfl⟩
  have HA := hid hA; clear hA
  go_wp2_with fail
  refine (trim_sees _ _ _ _ _ hb).mono ?_
  rintro e w' ⟨⟨B, rfl, hB, -⟩, rfl⟩
  have HB := hid hB; clear hB ha hb
  go_wp2_with fail
  refine (nat_cmp _ _ _ _ _ _ _ _ _ HA.out HB.out).mono ?_
  rw [val_limbs, val_limbs, cmpI_lt hlt]
  rintro e w1 ⟨rfl, hb1⟩
  clear hlt
  go_wp2
  go_ret2
  exact ⟨rfl, hb1⟩

set_option maxHeartbeats 1000000 in
theorem nat_sub_ok (a b : Option Addr) (la ca lb cb : Nat) (l m : List Nat) (w : World) (ha : Sees w (.slice a la ca) l) (hb : Sees w (.slice b lb cb) m) (hl : l.length ≤ 35184372088832) (hle : val m ≤ val l) :
    Calls Tryd.prog 81 #[.slice a la ca, .slice b lb cb] w fun e w' => IsPair w (val l - val m) e w' := by
  have hlen1 := (limbs_prefix ha.ok).2
  have hpq := length_le_of_le hle
  go_enter Tryd.func81, Tryd.ntmps81
  go_wp2_with fail
  refine (trim_sees _ _ _ _ _ ha).mono ?_
  rintro e w' ⟨⟨A, rfl, hA, -⟩, rfl⟩
  have HA := hid hA; clear hA
  go_wp2_with fail
  refine (trim_sees _ _ _ _ _ hb).mono ?_
  rintro e w' ⟨⟨B, rfl, hB, -⟩, rfl⟩
  have HB := hid hB; clear hB ha hb
  have hz : 0 ≤ cmpI (val l) (val m) := by unfold cmpI; rw [if_neg (by omega)]; split <;> decide
  obtain ⟨p, hp⟩ : ∃ p, limbs (val l) = p := ⟨_, rfl⟩
  obtain ⟨q, hq⟩ : ∃ q, limbs (val m) = q := ⟨_, rfl⟩
  rw [hp] at HA hlen1
  rw [hq] at HB
  rw [hp, hq] at hpq
  simp only [hp, hq]
  have hvp : val p = val l := by rw [← hp, val_limbs]
  have hvq : val q = val m := by rw [← hq, val_limbs]
  have HP := hid hvp; have HQ := hid hvq; clear hp hq
  have hp1 : p.length ≤ 35184372088832 := by omega
  have HLE := hid hle
  rw [← hvp, ← hvq] at hz
  clear hlen1 hl hle hvp hvq
  go_wp2_with fail
  refine (nat_cmp _ _ _ _ _ _ _ _ _ HA.out HB.out).mono ?_
  generalize cmpI (val p) (val q) = z at hz ⊢
  rintro e w1 ⟨rfl, hb1⟩
  have HA1 : Hid (Sees w1 (.slice A p.length p.length) p) := HA.out.below hb1
  have HB1' : Hid (Sees w1 (.slice B q.length q.length) q) := HB.out.below hb1
  have HBEL := hid hb1
  clear hb1
  have hmk := run_make_row' (P := Tryd.prog) 22 57 (.int .u32 0) 4 Tryd.underlying22 info_u32 rfl .i64 .i64 p.length (by omega) (by omega)
  obtain ⟨HB1, HB2, HB3⟩ := made_copy HA1.out p.length
  go_wp2_with (with_reducible refine wpList_copy_splice rfl (.tmp 18) (.tmp 19) 22 22 rfl 57 Tryd.underlying22 hsz (some ⟨w1.heap.size, 0, none⟩) A p.length p.length p.length p.length rfl rfl w1.heap.size 0 (List.replicate p.length (Value.int .u32 0)) 57 HB1.out (enc p) ?hn1 (fun h => ⟨rfl, HB3.out h⟩) ?hfit1 (enc_one p) w1.heap.size w1 HB2.out (Nat.le_refl _) ?_)
  case hn1 => first | exact enc_length _ | (rw [enc_length]; exact (Nat.min_eq_left (by omega)).symm)
  case hfit1 => first | (rw [enc_length, List.length_replicate]; omega) | (rw [enc_length]; omega) | (simp [enc_length]; done)
  intro w2 hg2 hb2
  have hrow := Row.of_splice hg2.out (by omega)
  have e1 : p.length - p.length = 0 := by omega
  rw [e1, List.replicate_zero, List.append_nil] at hrow
  have HROW := hid hrow
  have HB4 := hid hb2
  clear hg2 e1 hrow hb2 hmk HB1 HB2 HB3
  go_wp2_with fail
  refine (nat_takeFrom w1.heap.size 0 p.length p.length B q.length p q w2 HROW.out HA.out.ok (HB1'.out.below HB4.out) (fun h a e => by subst e; have := HB1'.out.lt h; omega) (by omega) (by omega) (by omega)).mono ?_
  rintro e w3 ⟨t, c, rfl, hadd, hrow3, hgb⟩
  have htl := hadd.part.len
  have hs3 : Sees w3 (.slice (some ⟨w1.heap.size, 0, none⟩) p.length p.length) t := by
    have := hrow3.sees hadd.part.ok 0 p.length p.length (by omega) (Nat.le_refl _) (by omega)
    rwa [List.drop_zero, List.take_of_length_le (by omega)] at this
  have hv := hadd.total rfl (by rw [HP.out, HQ.out]; exact HLE.out)
  have HV := hid hv
  have HS3 := hid hs3
  have HB5 : Hid (Below w.heap.size w w3) := HBEL.out.trans ((HB4.out.grown hgb (HB4.out.size) (fun k e => by simp at e; omega)).mono HBEL.out.size)
  clear hadd hrow3 hgb htl hs3 hv
  go_wp2_with fail
  refine (trim_sees _ _ _ _ _ HS3.out).mono ?_
  rintro e w4 ⟨⟨R, rfl, hR, -⟩, rfl⟩
  have HRR := hid hR; clear hR
  go_wp2
  go_ret2
  refine ⟨_, rfl, ?_, HB5.out⟩
  have e := HV.out
  rw [HP.out, HQ.out] at e
  rw [e] at HRR
  rw [e]
  exact HRR.out
end Go.Proofs.YtfjanomjmlcgaaaDoor
