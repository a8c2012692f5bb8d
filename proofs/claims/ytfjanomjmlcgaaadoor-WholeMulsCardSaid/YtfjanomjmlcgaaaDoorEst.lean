/- nat.estimateLimb by its contract. -/
import Derived.Test.YtfjanomjmlcgaaaDoorTakeTimes
set_option linter.unusedVariables false
set_option linter.unusedSimpArgs false
namespace Go.Proofs.YtfjanomjmlcgaaaDoor
open Go.RowKit

/-- A guess of a limb: not below what it guesses, and a limb. -/
def Guess (w : World) (Q : Nat) (e : Ending) (w' : World) : Prop := ∃ x : Nat, e = .returned (.int .u32 x) ∧ Q ≤ x ∧ x < 4294967296 ∧ ∀ r, w.grownBy w' r

theorem or_join (a b T : Nat) (ha : a < 4294967296) (hb : b < 4294967296) (h : T = a * 4294967296 + b) : bits BinOp.or IntKind.u64 ((a : Int) * 4294967296) (b : Int) = (T : Int) := by
  have h1 : ((a : Int) * 4294967296) = ((a * 4294967296 : Nat) : Int) := by rw [Int.natCast_mul]; rfl
  have e32 : (2 : Nat) ^ 32 = 4294967296 := by decide
  rw [h1, u64_or_nat _ _ (by omega) (by omega), nat_join 32 _ _ (by rw [e32]; exact Nat.mul_mod_left a 4294967296) (by rw [e32]; exact hb), h]

set_option maxRecDepth 100000 in
set_option maxHeartbeats 2000000 in
theorem nat_estimateLimb (ua va : Option Addr) (uc vc L Q : Nat) (u v : List Nat) (w : World) (hu : Sees w (.slice ua (L + 1) uc) u) (hv : Sees w (.slice va L vc) v) (hL : 2 ≤ L)
    (htop : 2147483648 ≤ v.getD (L - 1) 0) (hQ : Q * val v ≤ val u) (hlt : val u < val v * 4294967296) (hq : Q < 4294967296) :
    Calls Tryd.prog 91 #[.slice ua (L + 1) uc, .slice va L vc] w fun e w' => Guess w Q e w' := by
  have lu := hu.len_eq.1
  have lv := hv.len_eq.1
  have hll : L ≤ 70368744177664 := by have := hu.len; omega
  obtain ⟨bu, ou, rfl, hcu⟩ := hu.at (by omega)
  obtain ⟨bv, ov, rfl, hcv⟩ := hv.at (by omega)
  have c1 := hcv (L - 1) (by omega)
  have c2 := hcv (L - 2) (by omega)
  have c3 := hcu L (by omega)
  have c4 := hcu (L - 1) (by omega)
  have c5 := hcu (L - 2) (by omega)
  have hlists := est_lists (n := L - 2) hu.ok hv.ok (by omega) (by omega) hQ
  have htl := est_top (n := L - 2) hu.ok hv.ok (by omega) (by omega) hlt
  have i1 : L - 2 + 1 = L - 1 := by omega
  have i2 : L - 2 + 2 = L := by omega
  rw [i1, i2] at hlists htl
  have k1 := hv.ok.getD (L - 1)
  have k2 := hv.ok.getD (L - 2)
  have k3 := hu.ok.getD L
  have k4 := hu.ok.getD (L - 1)
  have k5 := hu.ok.getD (L - 2)
  clear i1 i2 hcu hcv hu hv hlt hQ
  generalize v.getD (L - 1) 0 = f at *
  generalize v.getD (L - 2) 0 = s at *
  generalize u.getD L 0 = w2 at *
  generalize u.getD (L - 1) 0 = w1 at *
  generalize u.getD (L - 2) 0 = w0 at *
  obtain ⟨T, hT⟩ : ∃ T, T = w2 * 4294967296 + w1 := ⟨_, rfl⟩
  have hl2 : Q * (s + 4294967296 * f) ≤ w0 + 4294967296 * T := by rw [hT]; omega
  have HL := hid hl2
  have eor := or_join w2 w1 T k3 k4 hT
  have hT64 : T < 18446744073709551616 := by omega
  obtain ⟨e0, he0⟩ : ∃ e0, e0 = T / f := ⟨_, rfl⟩
  obtain ⟨r0, hr0⟩ : ∃ r0, r0 = T % f := ⟨_, rfl⟩
  have hr0f : r0 < f := by rw [hr0]; exact Nat.mod_lt _ (by omega)
  have hdm : e0 * f + r0 = T := by rw [he0, hr0, Nat.mul_comm]; exact Nat.div_add_mod _ _
  have hq0 : Q ≤ e0 := by rw [he0]; exact est_init (by omega) k5 hl2
  have ediv : (T : Int) / (f : Int) = (e0 : Int) := by rw [he0]; exact (Int.natCast_ediv _ _).symm
  have emod : (T : Int) % (f : Int) = (r0 : Int) := by rw [hr0]; exact (Int.natCast_emod _ _).symm
  have he64 : e0 ≤ T := by rw [he0]; exact Nat.div_le_self _ _
  have HDM := hid hdm
  have HT := hid hT
  clear hlists hl2 hdm he0 hr0 lu lv hT
  obtain ⟨i1, hi1⟩ : ∃ i1, i1 = L - 1 := ⟨_, rfl⟩
  obtain ⟨i2, hi2⟩ : ∃ i2, i2 = L - 2 := ⟨_, rfl⟩
  rw [← hi1] at c1 c4
  rw [← hi2] at c2 c5
  have a1 : IntKind.i64.wrap ((L : Int) - 1) = (i1 : Int) := by rw [IntKind.wrap_i64]; omega
  have a2 : IntKind.i64.wrap ((L : Int) - 2) = (i2 : Int) := by rw [IntKind.wrap_i64]; omega
  have b1 : (0 : Int) ≤ (i1 : Int) := by omega
  have b2 : (0 : Int) ≤ (i2 : Int) := by omega
  have b3 : (i1 : Int) < (L : Int) := by omega
  have b4 : (i2 : Int) < (L : Int) := by omega
  have b5 : (i1 : Int) < ((L + 1 : Nat) : Int) := by omega
  have b6 : (i2 : Int) < ((L + 1 : Nat) : Int) := by omega
  have b7 : (L : Int) < ((L + 1 : Nat) : Int) := by omega
  have b8 : (0 : Int) ≤ (L : Int) := by omega
  clear hi1 hi2
  go_enter Tryd.func91, Tryd.ntmps91
  go_wp2
  go_quiet (fail)
  go_wp2
  go_quiet (fail)
  go_wp2
  go_quiet (fail)
  go_wp2
  go_loopw [10, 11] (fun v10 v11 wr => ∃ (e r : Nat), v10 = .int .u64 e ∧ v11 = .int .u64 r ∧ e ≤ e0 ∧ r < 4294967296 ∧ Q ≤ e ∧ Hid (e * f + r = T) ∧ Hid (∀ r, w.grownBy wr r)) (fun v10 _ _ => (intOf v10).toNat)
  case atStart => exact ⟨e0, r0, by first | rfl | rw [ediv], by first | rfl | rw [emod], Nat.le_refl _, by omega, hq0, HDM, fun _ => grownBy_drewN (grownBy_drewN (World.grownBy.refl _ _) _) _⟩
  case round =>
    obtain ⟨e, r, rfl, rfl, hee, hr, hqe, hs, hg⟩ := hrel
    clear c1 c2 c3 c4 c5 ediv emod eor a1 a2 b1 b2 b3 b4 b5 b6 b7 b8 hq0 hr0f
    have he64' : e < 18446744073709551616 := by omega
    obtain ⟨R, hR⟩ : ∃ R, R = r + f := ⟨_, rfl⟩
    have eR : IntKind.u64.wrap ((r : Int) + (f : Int)) = (R : Int) := by rw [IntKind.wrap_u64]; omega
    have HE0 := hid hee; have HEQ := hid hqe
    have HRR := hid hR
    have HTL := hid htl
    have HW0 := hid k5
    clear hT64 he64 hR htl
    by_cases hbig : 4294967295 < e
    · -- greater than any limb
      obtain ⟨e', hee'⟩ : ∃ e', e = e' + 1 := ⟨e - 1, by omega⟩
      have ee : IntKind.u64.wrap ((e : Int) - 1) = (e' : Int) := by rw [IntKind.wrap_u64]; omega
      have hs' : e' * f + R = T := by have := hs.out; rw [hee', Nat.succ_mul] at this; have := HRR.out; omega
      have HS' := hid hs'
      have HEE := hid hee'
      clear hs hs' hee' hee hqe
      by_cases hov : 4294967295 < R
      · have hex : e' < 4294967296 := by
          have h1 := HS'.out
          have h2 := HT.out
          have h3 := HTL.out
          rcases Nat.lt_or_ge e' 4294967296 with h | h
          · exact h
          · have : 4294967296 * f ≤ e' * f := Nat.mul_le_mul_right _ h
            have : w2 * 4294967296 ≤ f * 4294967296 := Nat.mul_le_mul_right _ h3
            omega
        have em : (e' : Int) % 4294967296 = (e' : Int) := by omega
        go_wp2
        go_ret
        exact ⟨e', rfl, by have := HEE.out; omega, hex, hg.out⟩
      · go_wp2
        go_roundw
        case rel => exact ⟨e', R, by first | rfl | rw [ee], by first | rfl | rw [eR], by have := HEE.out; have := HE0.out; omega, by omega, by have := HEE.out; omega, HS', hg⟩
        case measure => have := HEE.out; simp [intOf]; omega
    · obtain ⟨z, hz⟩ : ∃ z, e * s = z := ⟨_, rfl⟩
      have hz64 : z < 18446744073709551616 := by
        have : e * s ≤ 4294967295 * 4294967295 := Nat.mul_le_mul (by omega) (by omega)
        omega
      have ez : IntKind.u64.wrap ((e : Int) * (s : Int)) = (z : Int) := by rw [← Int.natCast_mul, hz]; exact wrap_u64 _ hz64
      obtain ⟨y, hy⟩ : ∃ y, y = r * 4294967296 + w0 := ⟨_, rfl⟩
      have ey := or_join r w0 y hr k5 hy
      by_cases hlt : y < z
      · have hqlt : Q < e := est_less HL.out hs.out (by rw [← hy, hz]; exact hlt)
        obtain ⟨e', hee'⟩ : ∃ e', e = e' + 1 := ⟨e - 1, by omega⟩
        have ee : IntKind.u64.wrap ((e : Int) - 1) = (e' : Int) := by rw [IntKind.wrap_u64]; omega
        have hs' : e' * f + R = T := by have := hs.out; rw [hee', Nat.succ_mul] at this; have := HRR.out; omega
        have HS' := hid hs'
        have HEE := hid hee'
        have HQL := hid hqlt
        clear hs hs' hee' hee hqe hz hy hqlt
        by_cases hov : 4294967295 < R
        · have em : (e' : Int) % 4294967296 = (e' : Int) := by have := HEE.out; omega
          go_wp2
          go_ret
          exact ⟨e', rfl, by have := HEE.out; have := HQL.out; omega, by have := HEE.out; omega, hg.out⟩
        · go_wp2
          go_roundw
          case rel => exact ⟨e', R, by first | rfl | rw [ee], by first | rfl | rw [eR], by have := HEE.out; have := HE0.out; omega, by omega, by have := HEE.out; have := HQL.out; omega, HS', hg⟩
          case measure => have := HEE.out; simp [intOf]; omega
      · have em : (e : Int) % 4294967296 = (e : Int) := by omega
        clear hz hy hs hee
        go_wp2
        go_ret
        exact ⟨e, rfl, by omega, by omega, hg.out⟩
end Go.Proofs.YtfjanomjmlcgaaaDoor
