/- nat.limbAt by its contract. -/
import Derived.Test.YtgcgifehpbjglabDoorTrim
set_option linter.unusedVariables false
set_option linter.unusedSimpArgs false
namespace Go.Proofs.YtgcgifehpbjglabDoor
open Go.RowKit

theorem nat_limbAt (v : Value) (l : List Nat) (k x : Nat) (w : World) (h : Sees w v l) (hk : k ≤ 70368744177664) (hx : l.getD k 0 = x) :
    Calls Tryd.prog 40 #[v, .int .i64 k] w fun e w' => e = .returned (.int .u32 (x : Nat)) ∧ w = w' := by
  have HS := hid h
  have hl := h.len
  obtain ⟨a, c, rfl, -, -, -, -, -⟩ := h
  go_enter Tryd.func40, Tryd.ntmps40
  by_cases hlt : k < l.length
  · obtain ⟨b1, o1, rfl, hc⟩ := HS.out.at (by omega)
    have hca := hc k hlt
    rw [hx] at hca
    clear hc hx
    go_wp2
    go_ret
    exact ⟨rfl, rfl⟩
  · have hz : l.getD k 0 = 0 := by rw [List.getD_eq_getElem?_getD, List.getElem?_eq_none (by omega)]; rfl
    rw [hz] at hx
    subst hx
    clear hz
    go_wp2
    go_ret
    exact ⟨rfl, rfl⟩

end Go.Proofs.YtgcgifehpbjglabDoor
