/- nat.Shift by its contract. -/
import Derived.Test.YtgcgifehpbjglabDoorShift2
set_option linter.unusedVariables false
set_option linter.unusedSimpArgs false
namespace Go.Proofs.YtgcgifehpbjglabDoor
open Go.RowKit

theorem zeros_getD (N j : Nat) : (List.replicate N 0).getD j 0 = 0 := by
  rw [List.getD_eq_getElem?_getD, List.getElem?_replicate]
  split <;> rfl

/-- What is behind shiftUp and the carry's store. -/
theorem up_total {q t : List Nat} {N o c f : Nat} (hN : o + q.length < N) (ha : AddMul (List.replicate N 0) o q.length (val q * f) t c) : (t.set (o + q.length) c).length = N ∧ Ok (t.set (o + q.length) c) ∧ val (t.set (o + q.length) c) = 4294967296 ^ o * f * val q := by
  have hz : valF (fun i => (List.replicate o 0 ++ [f]).getD i 0) o = 0 := by
    rw [valF_congr _ (fun i => (List.replicate o 0).getD i 0) o (fun i hi => by
      rw [List.getD_eq_getElem?_getD, List.getElem?_append_left (by simpa using hi), ← List.getD_eq_getElem?_getD])]
    rw [← val_valF (List.replicate o 0) o (by simp), val_replicate]
  have hf : f = (List.replicate o 0 ++ [f]).getD o 0 := by
    rw [List.getD_eq_getElem?_getD, List.getElem?_append_right (by simp)]
    simp
  have h0 : MulTo (List.replicate o 0 ++ [f]) q N o (List.replicate N 0) := ⟨by simp, Ok.replicate _, fun j _ => zeros_getD _ _, by rw [hz, val_replicate, Nat.zero_mul]⟩
  have h := h0.step hN hf ha
  refine ⟨h.len, h.ok, ?_⟩
  rw [h.sum]
  simp only [valF]
  rw [hz, ← hf, Nat.zero_add]

theorem Sees.drop {w : World} {b o len cap : Nat} {l : List Nat} (h : Sees w (.slice (some ⟨b, o, none⟩) len cap) l) (k : Nat) (hk : k ≤ l.length) : Sees w (.slice (some ⟨b, o + k, none⟩) (l.length - k) (cap - k)) (l.drop k) := by
  obtain ⟨ao', cap', h1, h2, h3, h4, hn0, h5⟩ := h
  simp only [Value.slice.injEq] at h1
  obtain ⟨rfl, rfl, rfl⟩ := h1
  refine ⟨some ⟨b, o + k, none⟩, cap - k, by rw [List.length_drop], by rw [List.length_drop]; omega, by rw [List.length_drop]; omega, h4.drop k, (fun e => by cases e), fun hp => ?_⟩
  rw [List.length_drop] at hp
  obtain ⟨b', o', he, hcell⟩ := h5 (by omega)
  simp only [Option.some.injEq, Addr.mk.injEq, and_true] at he
  obtain ⟨rfl, rfl⟩ := he
  refine ⟨b, o + k, rfl, fun i hi => ?_⟩
  rw [List.length_drop] at hi
  have := hcell (k + i) (by omega)
  rw [Nat.add_assoc, this]
  simp [List.getD_eq_getElem?_getD, List.getElem?_drop]

theorem nat_shift_no {a : Value} (n : Int) (w : World) (h : n < -1048576 ∨ 1048576 < n) :
    Calls Tryd.prog 16 #[a, .int .i64 n] w fun e w' => e = .returned (.tuple #[.slice none 0 0, .bool false]) ∧ w = w' := by
  go_enter Tryd.func16, Tryd.ntmps16
  rcases h with h | h
  · go_wp2
    go_ret2
    exact ⟨rfl, rfl⟩
  · have h' : ¬ n < -1048576 := by omega
    go_wp2
    go_ret2
    exact ⟨rfl, rfl⟩

set_option maxRecDepth 100000 in
set_option maxHeartbeats 800000 in
theorem nat_shift_up (a : Option Addr) (la ca : Nat) (l : List Nat) (n o h k : Nat) (w : World) (ha : Sees w (.slice a la ca) l) (hl : l.length ≤ 17592186044416) (hn : n ≤ 1048576) (hno : n = 32 * o + h) (hk : h + k = 32) (hh : h < 32) :
    Calls Tryd.prog 16 #[.slice a la ca, .int .i64 n] w fun e w' => ∃ v, e = .returned (.tuple #[v, .bool true]) ∧ Sees w' v (limbs (val l * 2 ^ n)) ∧ Below w.heap.size w w' := by
  have hlen1 := (limbs_prefix ha.ok).2
  have e1 : (n : Int) / 32 = (o : Int) := by omega
  have e2 : (n : Int) % 32 = (h : Int) := by omega
  have ho : o ≤ 32768 := by omega
  have HNO := hid hno
  clear hno
  go_enter Tryd.func16, Tryd.ntmps16
  go_wp2_with fail
  refine (trim_sees _ _ _ _ _ ha).mono ?_
  rintro e w' ⟨⟨A, rfl, hA, -⟩, rfl⟩
  have HA := hid hA; clear hA ha
  obtain ⟨p, hp⟩ : ∃ p, limbs (val l) = p := ⟨_, rfl⟩
  rw [hp] at HA hlen1
  simp only [hp]
  have hvp : val p = val l := by rw [← hp, val_limbs]
  have HP := hid hvp
  have hp1 : p.length ≤ 17592186044416 := by omega
  clear hlen1 hl hp hvp
  have hmk := run_make_row' (P := Tryd.prog) 22 40 (.int .u32 0) 4 Tryd.underlying22 info_u32 rfl .i64 .i64 (o + p.length + 1) (by omega) (by omega)
  have ec : ((o + p.length + 1 : Nat) : Int) = (o : Int) + p.length + 1 := by omega
  rw [ec] at hmk
  clear ec
  obtain ⟨w1, hw1⟩ : ∃ w1, w1 = w.alloc (.cells (madeCells #[Value.int .u32 0] (o + p.length + 1)) 40) := ⟨_, rfl⟩
  have hbel : Below w.heap.size w w1 := by rw [hw1]; exact (Below.refl _ w).alloc (Nat.le_refl _) _
  have hrow0 : Row w1 w.heap.size (List.replicate (o + p.length + 1) 0) := by rw [hw1]; exact Row.made w _
  have HW := hid hw1.symm; have HBEL := hid hbel
  have HCALL := hid (nat_shiftUp w.heap.size o (o + p.length + 1 - o) (o + p.length + 1 - o) A p.length (List.replicate (o + p.length + 1) 0) p h k w1 hrow0 (Ok.replicate _) (fun j _ => zeros_getD _ _) (HA.out.below hbel)
    (fun h0 a e => by have := (e ▸ HA.out : Sees w (.slice (some a) p.length p.length) p).lt h0; omega) (by omega) (by simp; omega) (by simp; omega) hk)
  clear hw1 hbel hrow0
  go_wp2_with fail
  rw [HW.out]
  refine HCALL.out.mono ?_
  rintro e w3 ⟨t, c, rfl, ham, hrow3, hg3⟩
  obtain ⟨htl, hok, hv⟩ := up_total (by omega) ham
  obtain ⟨T, hT⟩ : ∃ T, T = t.set (o + p.length) c := ⟨_, rfl⟩
  rw [← hT] at htl hok hv hrow3
  have hs3 : Sees w3 (.slice (some ⟨w.heap.size, 0, none⟩) (o + p.length + 1) (o + p.length + 1)) T := by
    have := hrow3.sees hok 0 (o + p.length + 1) (o + p.length + 1) (by omega) (Nat.le_refl _) (by omega)
    rwa [List.drop_zero, List.take_of_length_le (by omega)] at this
  have HS3 := hid hs3
  have HV : Hid (val T = val l * 2 ^ n) := by
    show _ = _
    rw [hv, pow_limb, ← HNO.out, HP.out, Nat.mul_comm]
  have HB5 : Hid (Below w.heap.size w w3) := HBEL.out.grown hg3 (HBEL.out.size) (fun k e => by simp at e; omega)
  clear ham hrow3 hg3 htl hok hv hT hs3 hmk HCALL
  go_wp2_with fail
  refine (trim_sees _ _ _ _ _ HS3.out).mono ?_
  rintro e w4 ⟨⟨R, rfl, hR, -⟩, rfl⟩
  have HRR := hid hR; clear hR
  go_wp2
  go_ret2
  exact ⟨_, rfl, by have := HRR.out; rw [HV.out] at this ⊢; exact this, HB5.out⟩

end Go.Proofs.YtgcgifehpbjglabDoor
