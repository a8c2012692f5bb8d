/- nat.Parse by its contract. -/
import Derived.Test.YtfjanomjmlcgaaaDoorParse2
set_option linter.unusedVariables false
set_option linter.unusedSimpArgs false
namespace Go.Proofs.YtfjanomjmlcgaaaDoor
open Go.RowKit

/-- The number that the first i letters say. -/
def numP (t : ByteArray) : Nat → Nat
  | 0 => 0
  | i + 1 => numP t i * 10 + (let8 t i - 48)

/-- What Parse has behind i letters: a list of limbs, a group of m digits. -/
structure ReadTo (t : ByteArray) (i m grp size : Nat) (a : List Nat) : Prop where
  ok : Ok a
  pw : size = 10 ^ m
  lt : grp < size
  sum : val a * size + grp = numP t i

theorem pow_ten_le (m : Nat) (h : m ≤ 9) : 10 ^ m ≤ 1000000000 := Nat.le_trans (Nat.pow_le_pow_right (by decide) h) (by decide)
theorem ReadTo.start (t : ByteArray) : ReadTo t 0 0 0 1 [] := ⟨Ok.nil, rfl, by decide, rfl⟩
theorem ReadTo.digit {t : ByteArray} {i m grp size x : Nat} {a : List Nat} (h : ReadTo t i m grp size a) (hx : let8 t i = x) (h1 : 48 ≤ x) (h2 : x ≤ 57) : ReadTo t (i + 1) (m + 1) (grp * 10 + (x - 48)) (size * 10) a := by
  refine ⟨h.ok, by rw [h.pw, Nat.pow_succ], by have := h.lt; omega, ?_⟩
  have hs := h.sum
  simp only [numP]
  rw [hx, ← hs, ← Nat.mul_assoc, Nat.add_mul]
  omega
theorem ReadTo.flush {t : ByteArray} {i m grp size : Nat} {a b : List Nat} (h : ReadTo t i m grp size a) (hb : Ok b) (hv : val b = val a * size + grp) : ReadTo t i 0 0 1 b :=
  ⟨hb, rfl, by decide, by rw [hv, h.sum]; omega⟩

theorem nat_parse_text (t : ByteArray) (w : World) (ht : t.size ≤ 140737488355328) (h : ¬ Numeral t) :
    Calls Tryd.prog 86 #[.string t] w fun e w' => e = .returned (.tuple #[.slice none 0 0, .int .i64 10]) ∧ w = w' := by
  have H := hid h
  clear h
  go_enter Tryd.func86, Tryd.ntmps86
  go_wp2_with fail
  refine (nat_isNumeral t w ht).mono ?_
  rintro e w' ⟨b, rfl, hb, rfl⟩
  cases b with
  | true => exact absurd (hb.1 rfl) H.out
  | false =>
    clear hb
    go_wp2
    go_ret2
    exact ⟨rfl, rfl⟩
theorem nat_parse_long (t : ByteArray) (w : World) (ht : t.size ≤ 140737488355328) (h : Numeral t) (hl : 10000 < t.size) :
    Calls Tryd.prog 86 #[.string t] w fun e w' => e = .returned (.tuple #[.slice none 0 0, .int .i64 2]) ∧ w = w' := by
  have H := hid h
  clear h
  go_enter Tryd.func86, Tryd.ntmps86
  go_wp2_with fail
  refine (nat_isNumeral t w ht).mono ?_
  rintro e w' ⟨b, rfl, hb, rfl⟩
  cases b with
  | false => exact absurd (hb.2 H.out) (by decide)
  | true =>
    clear hb
    go_wp2
    go_ret2
    exact ⟨rfl, rfl⟩

set_option maxRecDepth 100000 in
set_option maxHeartbeats 1600000 in
theorem nat_parse_ok (t : ByteArray) (w : World) (h : Numeral t) (hl : t.size ≤ 10000) :
    Calls Tryd.prog 86 #[.string t] w fun e w' => ∃ v, e = .returned (.tuple #[v, .int .i64 0]) ∧ Sees w' v (limbs (numP t t.size)) ∧ Below w.heap.size w w' := by
  have H := hid h
  have h0 := h.1
  clear h
  go_enter Tryd.func86, Tryd.ntmps86
  go_wp2_with fail
  refine (nat_isNumeral t w (by omega)).mono ?_
  rintro e w' ⟨b, rfl, hb, rfl⟩
  cases b with
  | false => exact absurd (hb.2 H.out) (by decide)
  | true =>
    clear hb
    go_wp2
    go_loopw [4, 5, 6, 16] (fun v4 v5 v6 v wr => ∃ (i m grp size n : Nat) (a : List Nat), i ≤ t.size ∧ v = .int .i64 i ∧ v5 = .int .u32 grp ∧ v6 = .int .u32 size ∧ (i < t.size → m + (t.size - 1 - i) % 9 ≤ 8) ∧ (i = t.size → m = 0) ∧ n ≤ i ∧ Hid (ReadTo t i m grp size a) ∧ Hid (wr.ownsRow w.heap.size 57 1 v4 n (enc a)) ∧ Hid (Below w.heap.size w wr)) (fun _ _ _ v _ => t.size - (intOf v).toNat)
    case atStart => exact ⟨0, 0, 0, 1, 0, [], Nat.zero_le _, rfl, rfl, rfl, fun _ => by omega, fun h => by omega, Nat.le_refl _, ReadTo.start t, World.ownsRow_nil _ _ _ _, Below.refl _ _⟩
    case round =>
      obtain ⟨i, m, grp, size, n, a, hi, rfl, rfl, rfl, hm, hm0, hn, hg, hown, hbel⟩ := hrel
      by_cases hlt : i < t.size
      · have hm8 := hm hlt
        have hx := let8_at t i hlt
        have hdig := H.out.2.2 i hlt
        obtain ⟨x, hxe⟩ : ∃ x, let8 t i = x := ⟨_, rfl⟩
        rw [hxe] at hx hdig
        have hg2 := hg.out.digit hxe hdig.1 hdig.2
        have hp := pow_ten_le (m + 1) (by omega)
        have hs2 := hg2.pw
        have hl2 := hg2.lt
        have hsl : size * 10 ≤ 1000000000 := by rw [hs2]; exact hp
        have HG2 := hid hg2
        obtain ⟨hd1, hd2⟩ := hdig
        obtain ⟨y, hy⟩ : ∃ y, y = x - 48 := ⟨_, rfl⟩
        have ey : (x : Int) - 48 = (y : Int) := by omega
        obtain ⟨G, hG⟩ : ∃ G, G = grp * 10 + y := ⟨_, rfl⟩
        obtain ⟨S, hS⟩ : ∃ S, S = size * 10 := ⟨_, rfl⟩
        rw [← hy, ← hG, ← hS] at HG2
        rw [← hy, ← hG, ← hS] at hl2
        rw [← hS] at hsl
        have eG : (grp : Int) * 10 + (y : Int) = (G : Int) := by omega
        have eS : (size : Int) * 10 = (S : Int) := by omega
        have hgl : grp * 10 < 4294967296 := by omega
        clear hg2 hs2 hp hxe hg hm hm0
        obtain ⟨r, hr⟩ : ∃ r, r = (t.size - 1 - i) % 9 := ⟨_, rfl⟩
        have er : ((t.size : Int) - 1 - (i : Int)) % 9 = (r : Int) := by omega
        rw [← hr] at hm8
        have HRE := hid hr
        have HYE := hid hy; have HGE := hid hG; have HSE := hid hS
        clear hr hy hG hS
        by_cases hr0 : r = 0
        · subst hr0
          have HCALL := hid (nat_timesPlus w.heap.size n u4 a S G wr hown.out HG2.out.ok (by omega) (by omega) (by omega) hbel.out.size)
          go_wp2_with fail
          refine HCALL.out.mono ?_
          rintro e w2 ⟨v2, b, n2, rfl, ho2, hok2, hv2, hn2, hb2⟩
          have HG3 := hid (HG2.out.flush hok2 hv2)
          have HO2 := hid ho2
          have HB2 := hid (hbel.out.trans hb2)
          clear ho2 hok2 hv2 hb2
          go_wp2
          go_roundw
          case rel => exact ⟨i + 1, 0, 0, 1, n2, b, by omega, by go_num, rfl, rfl, fun _ => by omega, fun _ => rfl, by omega, HG3, HO2, HB2⟩
          case measure => simp [intOf]; omega
        · go_wp2
          go_roundw
          case rel => exact ⟨i + 1, m + 1, G, S, n, a, by omega, by go_num, rfl, rfl, fun _ => by have := HRE.out; omega, fun _ => by have := HRE.out; omega, by omega, HG2, hown, hbel⟩
          case measure => simp [intOf]; omega
      · obtain rfl : i = t.size := by omega
        have hm1 := hm0 rfl
        subst hm1
        have hsum := hg.out.sum
        have hsz := hg.out.pw
        have hlt' := hg.out.lt
        rw [hsz] at hsum hlt'
        have hgz : grp = 0 := by simpa using hlt'
        have hv : val a = numP t t.size := by rw [← hsum, hgz]; simp
        have hlen : a.length = n := by have := hown.out.1; rw [enc_length] at this; omega
        have hsee := owns_sees hown.out hg.out.ok (by omega)
        have HV := hid hv
        obtain ⟨A, cA, rfl, -, -, -, -, -⟩ := hsee
        have HSEE : Hid (Sees wr (.slice A a.length cA) a) := owns_sees hown.out hg.out.ok (by omega)
        clear hsum hsz hlt' hv hg hown hm hm0 hlen hgz
        go_wp2_with fail
        refine (trim_sees _ _ _ _ _ HSEE.out).mono ?_
        rintro e w4 ⟨⟨R, rfl, hR, -⟩, rfl⟩
        have HRR := hid hR; clear hR
        go_wp2
        go_ret2
        exact ⟨_, rfl, by have := HRR.out; rw [HV.out] at this ⊢; exact this, hbel.out⟩
end Go.Proofs.YtfjanomjmlcgaaaDoor
