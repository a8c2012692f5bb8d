/- bits.Add32, bits.Sub32; nat.addTo, nat.takeFrom in place. -/
import Derived.Test.YtfjanomjmlcgaaaDoorRef1
import Derived.Deep.RegionWith
set_option linter.unusedVariables false
set_option linter.unusedSimpArgs false
namespace Go.Proofs.YtfjanomjmlcgaaaDoor
open Go.RowKit

theorem ret_pair {k l : IntKind} {a b c d : Int} (h : a = b) (h' : c = d) : Ending.returned (.tuple #[.int k a, .int l c]) = .returned (.tuple #[.int k b, .int l d]) := by rw [h, h']

theorem add32 (x y c : Nat) (hx : x < 4294967296) (hy : y < 4294967296) (hc : c ≤ 1) : ∃ s d : Nat, s < 4294967296 ∧ d ≤ 1 ∧ Hid (x + y + c = s + 4294967296 * d) ∧
    ∀ w, Calls Tryd.prog 97 #[.int .u32 x, .int .u32 y, .int .u32 c] w fun e w' => e = .returned (.tuple #[.int .u32 s, .int .u32 d]) ∧ w' = w := by
  refine ⟨(x + y + c) % 4294967296, (x + y + c) / 4294967296, by omega, by omega, by show _ = _; omega, fun w => ?_⟩
  go_enter Tryd.func97, Tryd.ntmps97
  go_wp2
  go_ret2
  exact ⟨ret_pair (by omega) (by omega), rfl⟩

/-- The borrow of bits.Sub32, as its text says it. -/
def borrowRaw (x y d : Int) : Int :=
  bits BinOp.or IntKind.u32 (bits BinOp.and IntKind.u32 (bits BinOp.xor IntKind.u32 IntKind.u32.max x) y) (bits BinOp.and IntKind.u32 (bits BinOp.xor IntKind.u32 IntKind.u32.max (bits BinOp.xor IntKind.u32 x y)) d) / 2147483648

theorem sub32_raw (x y c : Nat) (hx : x < 4294967296) (hy : y < 4294967296) (hc : c ≤ 1) (w : World) :
    Calls Tryd.prog 104 #[.int .u32 x, .int .u32 y, .int .u32 c] w fun e w' => e = .returned (.tuple #[.int .u32 (((x : Int) - y - c) % 4294967296), .int .u32 (borrowRaw x y (((x : Int) - y - c) % 4294967296))]) ∧ w' = w := by
  go_enter Tryd.func104, Tryd.ntmps104
  go_wp2
  all_goals first | (exfalso; rename_i h; revert h; decide) | skip
  go_ret2
  exact ⟨rfl, rfl⟩

theorem top_bit (x : Nat) (h : x < 4294967296) : x >>> 31 = 0 ∨ x >>> 31 = 1 := by
  rw [Nat.shiftRight_eq_div_pow]; omega

theorem borrow_nat (x y d : Nat) (hx : x < 4294967296) (hy : y < 4294967296) (hd : d < 4294967296) :
    borrowRaw x y d = (((((4294967295 ^^^ x) &&& y) ||| ((4294967295 ^^^ (x ^^^ y)) &&& d)) >>> 31 : Nat) : Int) := by
  have hm : IntKind.u32.max = ((4294967295 : Nat) : Int) := by decide
  have h32 : (4294967296 : Nat) = 2 ^ 32 := by decide
  have l1 : 4294967295 ^^^ x < 4294967296 := by rw [h32]; exact Nat.xor_lt_two_pow (by decide) (by omega)
  have l2 : x ^^^ y < 4294967296 := by rw [h32]; exact Nat.xor_lt_two_pow (by omega) (by omega)
  have l3 : 4294967295 ^^^ (x ^^^ y) < 4294967296 := by rw [h32]; exact Nat.xor_lt_two_pow (by decide) (by omega)
  have l4 : (4294967295 ^^^ x) &&& y < 4294967296 := Nat.lt_of_le_of_lt Nat.and_le_right hy
  have l5 : (4294967295 ^^^ (x ^^^ y)) &&& d < 4294967296 := Nat.lt_of_le_of_lt Nat.and_le_right hd
  unfold borrowRaw
  rw [hm, u32_xor_nat _ _ (by decide) hx, u32_and_nat _ _ l1 hy, u32_xor_nat _ _ hx hy, u32_xor_nat _ _ (by decide) l2, u32_and_nat _ _ l3 hd, u32_or_nat _ _ l4 l5, Nat.shiftRight_eq_div_pow]
  rfl

theorem borrow_eq (x y c d : Nat) (hx : x < 4294967296) (hy : y < 4294967296) (hc : c ≤ 1) (hd : d < 4294967296) (e : (x + 4294967296 + 4294967296 - y - c) % 4294967296 = d) :
    borrowRaw x y d = ((if x < y + c then 1 else 0 : Nat) : Int) := by
  rw [borrow_nat x y d hx hy hd]
  congr 1
  rw [Nat.shiftRight_or_distrib, Nat.shiftRight_and_distrib, Nat.shiftRight_and_distrib, Nat.shiftRight_xor_distrib, Nat.shiftRight_xor_distrib, Nat.shiftRight_xor_distrib]
  have h1 : (4294967295 : Nat) >>> 31 = 1 := by decide
  rw [h1]
  have ex := Nat.shiftRight_eq_div_pow x 31
  have ey := Nat.shiftRight_eq_div_pow y 31
  have ed := Nat.shiftRight_eq_div_pow d 31
  rcases top_bit x hx with hx1 | hx1 <;> rcases top_bit y hy with hy1 | hy1 <;> rcases top_bit d hd with hd1 | hd1 <;> rw [hx1, hy1, hd1] <;> rw [hx1] at ex <;> rw [hy1] at ey <;> rw [hd1] at ed <;> simp <;> omega

theorem sub32 (x y c : Nat) (hx : x < 4294967296) (hy : y < 4294967296) (hc : c ≤ 1) : ∃ s d : Nat, s < 4294967296 ∧ d ≤ 1 ∧ Hid (x + 4294967296 * d = s + y + c) ∧
    ∀ w, Calls Tryd.prog 104 #[.int .u32 x, .int .u32 y, .int .u32 c] w fun e w' => e = .returned (.tuple #[.int .u32 s, .int .u32 d]) ∧ w' = w := by
  refine ⟨(x + 4294967296 + 4294967296 - y - c) % 4294967296, if x < y + c then 1 else 0, by omega, by split <;> omega, by show _ = _; split <;> omega, fun w => ?_⟩
  refine (sub32_raw x y c hx hy hc w).mono fun e w' ⟨he, hw⟩ => ⟨?_, hw⟩
  subst he
  have e1 : ((x : Int) - y - c) % 4294967296 = (((x + 4294967296 + 4294967296 - y - c) % 4294967296 : Nat) : Int) := by omega
  rw [e1]
  exact ret_pair rfl (borrow_eq x y c _ hx hy hc (by omega) rfl)

/-- What addTo leaves. -/
def AddedTo (w : World) (g o n y : Nat) (s : List Nat) (e : Ending) (w' : World) : Prop :=
  ∃ t c, e = .returned (.int .u32 (c : Nat)) ∧ AddTo s o n y t c ∧ Row w' g t ∧ w.grownBy w' (some g)

set_option maxHeartbeats 1000000 in
theorem nat_addTo (g o n cap : Nat) (B : Option Addr) (cb : Nat) (s m : List Nat) (w : World) (hr : Row w g s) (hs : Ok s) (hb : Sees w (.slice B m.length cb) m) (hne : 0 < m.length → ∀ a, B = some a → a.block ≠ g)
    (hmn : m.length ≤ n) (hn : o + n ≤ s.length) (hsl : s.length ≤ 70368744177664) :
    Calls Tryd.prog 72 #[.slice (some ⟨g, o, none⟩) n cap, .slice B m.length cb] w fun e w' => AddedTo w g o n (val m) s e w' := by
  have HR := hid hr; have HS := hid hs; have HB := hid hb; have HN := hid hne
  clear hr hs hb hne
  go_enter Tryd.func72, Tryd.ntmps72
  go_wp2
  go_loopw [5, 10] (fun v5 v wr => ∃ (k c : Nat) (t : List Nat), k ≤ m.length ∧ v = .int .i64 k ∧ v5 = .int .u32 c ∧ c ≤ 1 ∧ Hid (AddTo s o k (valF (fun i => m.getD i 0) k) t c) ∧ Hid (Row wr g t) ∧ Hid (w.grownBy wr (some g))) (fun _ v _ => m.length - (intOf v).toNat)
  case atStart => exact ⟨0, 0, s, Nat.zero_le _, rfl, rfl, by omega, AddTo.start HS.out o, HR, World.grownBy.refl _ _⟩
  case round =>
    obtain ⟨k, c, t, hk, rfl, rfl, hc1, ha, hrow, hg⟩ := hrel
    by_cases hlt : k < m.length
    · obtain ⟨b2, o2, rfl, hcb'⟩ := HB.out.at (by omega)
      have hcb := hg.out.cell (hcb' k hlt) (by have := HN.out (by omega) _ rfl; simpa using this)
      have htl := ha.out.part.len
      have hca := hrow.out.cell (i := o + k) (by omega)
      have hfr := hrow.out.frozen (o + k)
      have hox := ha.out.part.ok.getD (o + k)
      have hob := HB.out.ok.getD k
      have hsame := ha.out.part.out (o + k) (.inr (by omega))
      obtain ⟨x, d, hx, hd, hxd, hcall⟩ := add32 (t.getD (o + k) 0) (m.getD k 0) c hox hob hc1
      have hstep := ha.out.step (by omega) (m.getD k 0) x d hx hd (by rw [← hsame]; exact hxd.out)
      have HStep : Hid (AddTo s o (k + 1) (valF (fun i => m.getD i 0) (k + 1)) (t.set (o + k) x) d) := hstep
      have HRow := hid (hrow.out.set (o + k) x)
      have HG := hid (grownBy_set (i := o + k) (v := .int .u32 (x : Nat)) hg.out)
      have HCall := hid hcall
      have hkn : k < n := by omega
      clear hstep hcall hxd hsame hcb'
      generalize t.getD (o + k) 0 = u at *
      generalize m.getD k 0 = v at *
      go_wp2
      go_region_with (go_at_call 97; refine (HCall.out _).mono ?_; rintro e w' ⟨rfl, rfl⟩)
      all_goals
        go_wp2
        go_roundw
        case rel => exact ⟨k + 1, d, t.set (o + k) x, by omega, by go_num, rfl, hd, HStep, HRow, grownBy_drew HG.out⟩
        case measure => simp [intOf]; omega
    · obtain rfl : k = m.length := by omega
      have hv : valF (fun i => m.getD i 0) m.length = val m := (val_valF m m.length (Nat.le_refl _)).symm
      rw [hv] at ha
      clear hv
      go_wp2
      go_loopw [5, 35] (fun v5 v wr => ∃ (j c : Nat) (t : List Nat), m.length + j ≤ n ∧ v = .int .i64 j ∧ v5 = .int .u32 c ∧ c ≤ 1 ∧ Hid (AddTo s o (m.length + j) (val m) t c) ∧ Hid (Row wr g t) ∧ Hid (w.grownBy wr (some g))) (fun _ v _ => n - (intOf v).toNat)
      case atStart => exact ⟨0, c, t, by omega, rfl, rfl, hc1, ha, hrow, hg⟩
      case round =>
        clear ha hrow hg
        obtain ⟨j, c, t, hj, rfl, rfl, hc1, ha, hrow, hg⟩ := hrel
        by_cases hlt : m.length + j < n
        · have htl := ha.out.part.len
          have hca := hrow.out.cell (i := o + (m.length + j)) (by omega)
          have hfr := hrow.out.frozen (o + (m.length + j))
          have hox := ha.out.part.ok.getD (o + (m.length + j))
          have hsame := ha.out.part.out (o + (m.length + j)) (.inr (by omega))
          obtain ⟨x, d, hx, hd, hxd, hcall⟩ := add32 (t.getD (o + (m.length + j)) 0) 0 c hox (by decide) hc1
          have hstep := ha.out.step (by omega) 0 x d hx hd (by rw [← hsame]; exact hxd.out)
          have HStep : Hid (AddTo s o (m.length + (j + 1)) (val m) (t.set (o + (m.length + j)) x) d) := by rw [Nat.mul_zero, Nat.add_zero] at hstep; exact hstep
          have HRow := hid (hrow.out.set (o + (m.length + j)) x)
          have HG := hid (grownBy_set (i := o + (m.length + j)) (v := .int .u32 (x : Nat)) hg.out)
          have HCall := hid hcall
          clear hstep hcall hxd hsame
          generalize t.getD (o + (m.length + j)) 0 = u at *
          go_wp2_with (go_at_call 97; refine (HCall.out _).mono ?_; rintro e w' ⟨rfl, rfl⟩)
          go_roundw
          case rel => exact ⟨j + 1, d, t.set (o + (m.length + j)) x, by omega, by go_num, rfl, hd, HStep, HRow, HG⟩
          case measure => simp [intOf]; omega
        · have hjn : m.length + j = n := by omega
          have HA : Hid (AddTo s o n (val m) t c) := by rw [← hjn]; exact ha
          clear ha hjn
          go_wp2
          go_ret
          exact ⟨t, c, rfl, HA.out, hrow.out, hg.out⟩
end Go.Proofs.YtfjanomjmlcgaaaDoor
