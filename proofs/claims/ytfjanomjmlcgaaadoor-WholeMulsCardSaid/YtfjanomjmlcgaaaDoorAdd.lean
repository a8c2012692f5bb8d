/- nat.Add by its contract. -/
import Derived.Test.YtfjanomjmlcgaaaDoorArith
set_option linter.unusedVariables false
set_option linter.unusedSimpArgs false
namespace Go.Proofs.YtfjanomjmlcgaaaDoor
open Go.RowKit

/-- What addTo makes of a number and a zero limb above it: the sum. -/
theorem AddTo.total {s t : List Nat} {n y c : Nat} (h : AddTo s 0 n y t c) (hl : s.length = n) (hc : val s + y < 4294967296 ^ n) : val t = val s + y := by
  have h1 := h.sum
  rw [seg_all t n (by rw [h.part.len, hl]; exact Nat.le_refl _), seg_all s n (by omega)] at h1
  have : c = 0 := by
    rcases Nat.eq_zero_or_pos c with h0 | h0
    · exact h0
    · have : 4294967296 ^ n * 1 ≤ 4294967296 ^ n * c := Nat.mul_le_mul_left _ h0
      omega
  rw [this] at h1
  omega

theorem val_pad (l : List Nat) (k : Nat) : val (l ++ List.replicate k 0) = val l := by
  rw [val_append, val_replicate]; simp

/-- Add, behind the two trims, the longer one first. -/
theorem hsz : (Tryd.prog.info? 57).map (·.size) = some 1 := by kernel_rfl

theorem add_fits {p q : List Nat} (hp : Ok p) (hq : Ok q) (h : q.length ≤ p.length) : val (p ++ List.replicate 1 0) + val q < 4294967296 ^ (p.length + 1) := by
  have h1 := val_lt hp
  have h2 := val_lt hq
  have h3 : 4294967296 ^ q.length ≤ 4294967296 ^ p.length := Nat.pow_le_pow_right (by decide) h
  rw [val_pad, Nat.pow_succ]
  omega

/-- A difference, and true. -/
def IsPair (w : World) (x : Nat) (e : Ending) (w' : World) : Prop := ∃ v, e = .returned (.tuple #[v, .bool true]) ∧ Sees w' v (limbs x) ∧ Below w.heap.size w w'

/-- A new row of N zero limbs, into which p is about to be copied. -/
theorem made_copy {w : World} {A : Option Addr} {c : Nat} {p : List Nat} (h : Sees w (.slice A p.length c) p) (N : Nat) :
    Hid ((w.alloc (.cells (madeCells #[Value.int .u32 0] N) 57)).heap[w.heap.size]? = some (.cells (List.replicate N (Value.int .u32 0)).toArray 57 (0, 0))) ∧
    Hid (Below w.heap.size w (w.alloc (.cells (madeCells #[Value.int .u32 0] N) 57))) ∧
    Hid (0 < (enc p).length → ∃ ad, A = some ad ∧ ∀ j v, (enc p)[j]? = some v → (w.alloc (.cells (madeCells #[Value.int .u32 0] N) 57)).cell? (ad.add j) = some v) := by
  have hbel : Below w.heap.size w (w.alloc (.cells (madeCells #[Value.int .u32 0] N) 57)) := (Below.refl _ w).alloc (Nat.le_refl _) _
  refine ⟨?_, hbel, fun hp => ?_⟩
  · show _ = _
    rw [Deep.blk_alloc_new, ← toList_madeCells_one]
  · rw [enc_length] at hp
    obtain ⟨b, o, rfl, -⟩ := h.at hp
    exact ⟨_, rfl, (h.below hbel).news⟩

set_option maxHeartbeats 1000000 in
theorem nat_add (a b : Option Addr) (la ca lb cb : Nat) (l m : List Nat) (w : World) (ha : Sees w (.slice a la ca) l) (hb : Sees w (.slice b lb cb) m) (hl : l.length ≤ 35184372088832) (hm : m.length ≤ 35184372088832) :
    Calls Tryd.prog 23 #[.slice a la ca, .slice b lb cb] w fun e w' => IsNum w (val l + val m) e w' := by
  have hlen1 := (limbs_prefix ha.ok).2
  have hlen2 := (limbs_prefix hb.ok).2
  go_enter Tryd.func23, Tryd.ntmps23
  go_wp2_with fail
  refine (trim_sees _ _ _ _ _ ha).mono ?_
  rintro e w' ⟨⟨A, rfl, hA, -⟩, rfl⟩
  have HA := hid hA; clear hA
  go_wp2_with fail
  refine (trim_sees _ _ _ _ _ hb).mono ?_
  rintro e w' ⟨⟨B, rfl, hB, -⟩, rfl⟩
  have HB := hid hB; clear hB ha hb
  obtain ⟨p, hp⟩ : ∃ p, limbs (val l) = p := ⟨_, rfl⟩
  obtain ⟨q, hq⟩ : ∃ q, limbs (val m) = q := ⟨_, rfl⟩
  rw [hp] at HA hlen1
  rw [hq] at HB hlen2
  simp only [hp, hq]
  have HP := hid hp; clear hp
  have HQ := hid hq; clear hq
  have hp1 : p.length ≤ 35184372088832 := by omega
  have hq1 : q.length ≤ 35184372088832 := by omega
  clear hlen1 hlen2 hl hm
  by_cases h : p.length < q.length
  · have hmk := run_make_row' (P := Tryd.prog) 22 57 (.int .u32 0) 4 Tryd.underlying22 info_u32 rfl .i64 .i64 (q.length + 1) (by omega) (by omega)
    have ec : ((q.length + 1 : Nat) : Int) = (q.length : Int) + 1 := by omega
    rw [ec] at hmk
    clear ec
    obtain ⟨HB1, HB2, HB3⟩ := made_copy HB.out (q.length + 1)
    go_wp2_with (with_reducible refine wpList_copy_splice rfl (.tmp 21) (.tmp 22) 22 22 rfl 57 Tryd.underlying22 hsz (some ⟨w.heap.size, 0, none⟩) B (q.length + 1) (q.length + 1) q.length q.length rfl rfl w.heap.size 0 (List.replicate (q.length + 1) (Value.int .u32 0)) 57 HB1.out (enc q) ?hn1 (fun h => ⟨rfl, HB3.out h⟩) ?hfit1 (enc_one q) w.heap.size w HB2.out (Nat.le_refl _) ?_)
    case hn1 => first | exact enc_length _ | (rw [enc_length]; exact (Nat.min_eq_left (by omega)).symm)
    case hfit1 => first | (rw [enc_length, List.length_replicate]; omega) | (rw [enc_length]; omega) | (simp [enc_length]; done)
    intro w2 hg2 hb2
    have hrow := Row.of_splice hg2.out (by omega)
    have e1 : q.length + 1 - q.length = 1 := by omega
    rw [e1] at hrow
    have HROW := hid hrow
    have HB4 := hid hb2
    clear hg2 e1 hrow hb2 hmk HB1 HB2 HB3
    go_wp2_with fail
    refine (nat_addTo w.heap.size 0 (q.length + 1) (q.length + 1) A p.length (q ++ List.replicate 1 0) p w2 HROW.out (HB.out.ok.append (Ok.replicate 1)) (HA.out.below HB4.out) (fun h a e => by subst e; have := HA.out.lt h; omega) (by omega) (by simp) (by simp; omega)).mono ?_
    rintro e w3 ⟨t, c, rfl, hadd, hrow3, hgb⟩
    have htl := hadd.part.len
    rw [List.length_append, List.length_replicate] at htl
    have hs3 : Sees w3 (.slice (some ⟨w.heap.size, 0, none⟩) (q.length + 1) (q.length + 1)) t := by
      have := hrow3.sees hadd.part.ok 0 (q.length + 1) (q.length + 1) (by omega) (Nat.le_refl _) (by omega)
      rwa [List.drop_zero, List.take_of_length_le (by omega)] at this
    have hv := hadd.total (by simp) (add_fits HB.out.ok HA.out.ok (by omega))
    rw [val_pad] at hv
    have HV := hid hv
    have HS3 := hid hs3
    have HB5 : Hid (Below w.heap.size w w3) := HB4.out.grown hgb (HB4.out.size) (fun k e => by simp at e; omega)
    clear hadd hrow3 hgb htl hs3 hv
    go_wp2_with fail
    refine (trim_sees _ _ _ _ _ HS3.out).mono ?_
    rintro e w4 ⟨⟨R, rfl, hR, -⟩, rfl⟩
    have HRR := hid hR; clear hR
    go_wp2
    go_ret
    refine ⟨_, rfl, ?_, HB5.out⟩
    have e := HV.out
    rw [← HP.out, ← HQ.out, val_limbs, val_limbs] at e
    rw [e, Nat.add_comm] at HRR
    rw [e, Nat.add_comm]
    exact HRR.out
  · have hmk := run_make_row' (P := Tryd.prog) 22 57 (.int .u32 0) 4 Tryd.underlying22 info_u32 rfl .i64 .i64 (p.length + 1) (by omega) (by omega)
    have ec : ((p.length + 1 : Nat) : Int) = (p.length : Int) + 1 := by omega
    rw [ec] at hmk
    clear ec
    obtain ⟨HB1, HB2, HB3⟩ := made_copy HA.out (p.length + 1)
    go_wp2_with (with_reducible refine wpList_copy_splice rfl (.tmp 21) (.tmp 22) 22 22 rfl 57 Tryd.underlying22 hsz (some ⟨w.heap.size, 0, none⟩) A (p.length + 1) (p.length + 1) p.length p.length rfl rfl w.heap.size 0 (List.replicate (p.length + 1) (Value.int .u32 0)) 57 HB1.out (enc p) ?hn2 (fun h => ⟨rfl, HB3.out h⟩) ?hfit2 (enc_one p) w.heap.size w HB2.out (Nat.le_refl _) ?_)
    case hn2 => first | exact enc_length _ | (rw [enc_length]; exact (Nat.min_eq_left (by omega)).symm)
    case hfit2 => first | (rw [enc_length, List.length_replicate]; omega) | (rw [enc_length]; omega) | (simp [enc_length]; done)
    intro w2 hg2 hb2
    have hrow := Row.of_splice hg2.out (by omega)
    have e1 : p.length + 1 - p.length = 1 := by omega
    rw [e1] at hrow
    have HROW := hid hrow
    have HB4 := hid hb2
    clear hg2 e1 hrow hb2 hmk HB1 HB2 HB3
    go_wp2_with fail
    refine (nat_addTo w.heap.size 0 (p.length + 1) (p.length + 1) B q.length (p ++ List.replicate 1 0) q w2 HROW.out (HA.out.ok.append (Ok.replicate 1)) (HB.out.below HB4.out) (fun h a e => by subst e; have := HB.out.lt h; omega) (by omega) (by simp) (by simp; omega)).mono ?_
    rintro e w3 ⟨t, c, rfl, hadd, hrow3, hgb⟩
    have htl := hadd.part.len
    rw [List.length_append, List.length_replicate] at htl
    have hs3 : Sees w3 (.slice (some ⟨w.heap.size, 0, none⟩) (p.length + 1) (p.length + 1)) t := by
      have := hrow3.sees hadd.part.ok 0 (p.length + 1) (p.length + 1) (by omega) (Nat.le_refl _) (by omega)
      rwa [List.drop_zero, List.take_of_length_le (by omega)] at this
    have hv := hadd.total (by simp) (add_fits HA.out.ok HB.out.ok (by omega))
    rw [val_pad] at hv
    have HV := hid hv
    have HS3 := hid hs3
    have HB5 : Hid (Below w.heap.size w w3) := HB4.out.grown hgb (HB4.out.size) (fun k e => by simp at e; omega)
    clear hadd hrow3 hgb htl hs3 hv
    go_wp2_with fail
    refine (trim_sees _ _ _ _ _ HS3.out).mono ?_
    rintro e w4 ⟨⟨R, rfl, hR, -⟩, rfl⟩
    have HRR := hid hR; clear hR
    go_wp2
    go_ret
    refine ⟨_, rfl, ?_, HB5.out⟩
    have e := HV.out
    rw [← HP.out, ← HQ.out, val_limbs, val_limbs] at e
    rw [e] at HRR
    rw [e]
    exact HRR.out
end Go.Proofs.YtfjanomjmlcgaaaDoor
