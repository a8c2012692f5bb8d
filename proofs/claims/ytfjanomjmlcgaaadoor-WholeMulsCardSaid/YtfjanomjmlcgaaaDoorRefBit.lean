/- The document's bit by its contract. -/
import Derived.Test.YtfjanomjmlcgaaaDoorBitN
import Derived.Test.YtfjanomjmlcgaaaDoorRef1
set_option linter.unusedVariables false
set_option linter.unusedSimpArgs false
namespace Go.Proofs.YtfjanomjmlcgaaaDoor
open Go.RowKit

theorem and_one (c : Nat) (h : c < 4294967296) : bits .and .u32 (c : Int) 1 = ((c % 2 : Nat) : Int) := by
  have := u32_and_nat c 1 h (by decide)
  rw [Nat.and_one_is_mod] at this
  exact this

set_option maxRecDepth 100000 in
set_option maxHeartbeats 800000 in
theorem ref_bit (a : Option Addr) (ca : Nat) (l : List Nat) (k q h b : Nat) (w : World) (ha : Sees w (.slice a l.length ca) l) (hkq : k = 32 * q + h) (hh : h < 32) (hk : k ≤ 70368744177664) (hb : val l / 2 ^ k % 2 = b) :
    Calls Tryd.prog 61 #[.slice a l.length ca, .int .i64 k] w fun e w' => e = .returned (.int .u32 (b : Nat)) ∧ w = w' := by
  have hlen := ha.len
  have hbit := bit_limb ha.ok q h hh
  rw [← hkq, hb] at hbit
  have e1 : (k : Int) / 32 = (q : Int) := by omega
  have e2 : (k : Int) % 32 = (h : Int) := by omega
  have hok := ha.ok.getD q
  have HA := hid ha
  clear ha hkq hb
  go_enter Tryd.func61, Tryd.ntmps61
  by_cases hq : q < l.length
  · obtain ⟨b1, o1, rfl, hcell⟩ := HA.out.at (by omega)
    have hca := hcell q hq
    generalize l.getD q 0 = x at *
    obtain ⟨c, hc⟩ : ∃ c, c = x / 2 ^ h := ⟨_, rfl⟩
    have hc32 : c < 4294967296 := by rw [hc]; exact Nat.lt_of_le_of_lt (Nat.div_le_self _ _) hok
    have f1 : (x : Int) / 2 ^ h = (c : Int) := by rw [hc, Int.natCast_ediv, Int.natCast_pow]; rfl
    have f2 : bits .and .u32 (c : Int) 1 = (b : Int) := by rw [and_one c hc32, hc, hbit]
    clear hbit hc hcell
    go_wp2
    go_ret
    exact ⟨rfl, rfl⟩
  · have hz : l.getD q 0 = 0 := by rw [List.getD_eq_getElem?_getD, List.getElem?_eq_none (by omega)]; rfl
    rw [hz, Nat.zero_div] at hbit
    obtain rfl : b = 0 := by omega
    clear hbit hz
    go_wp2
    go_ret
    exact ⟨rfl, rfl⟩
end Go.Proofs.YtfjanomjmlcgaaaDoor
