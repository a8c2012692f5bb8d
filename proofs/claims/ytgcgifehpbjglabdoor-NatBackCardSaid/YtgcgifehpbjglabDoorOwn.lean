/- What is owned, seen. -/
import Derived.Test.YtgcgifehpbjglabDoorTrim
set_option linter.unusedVariables false
set_option linter.unusedSimpArgs false
namespace Go.Proofs.YtgcgifehpbjglabDoor
open Go.RowKit

theorem owns_sees {w : World} {base n : Nat} {v : Value} {l : List Nat} (h : w.ownsRow base 40 1 v n (enc l)) (hok : Ok l) (hl : l.length ≤ 70368744177664) : Sees w v l := by
  by_cases e : v = .slice none 0 0
  · have hl0 : l = [] := by
      rcases h.2 with ⟨_, h2⟩ | ⟨g, cap, cur, h2, _⟩
      · have := h.1; rw [enc_length, h2] at this; exact List.eq_nil_of_length_eq_zero (by omega)
      · rw [e] at h2; cases h2
    rw [e, hl0]; exact Sees.nil w
  · obtain ⟨g, cap, rfl, hr, _, hc, _⟩ := owns_some h e
    have := hr.sees hok 0 l.length cap (by omega) hc hl
    simpa using this

theorem owns_below {w w' : World} {base n size e : Nat} {v : Value} {xs : List Value} (h : w.ownsRow base e size v n xs) (hb : Below w.heap.size w w') : w'.ownsRow base e size v n xs :=
  h.kept (row := none) ⟨hb.os, hb.tape, hb.output, hb.size, fun k hk _ => hb.block k hk⟩ (by
    cases v.ownBlock with
    | none => exact .inl rfl
    | some k => exact .inr (by simp))
end Go.Proofs.YtgcgifehpbjglabDoor
