/- nat.timesPlus by its contract. -/
import Derived.Test.YtfjanomjmlcgaaaDoorParse1
import Derived.Test.YtfjanomjmlcgaaaDoorMul
set_option linter.unusedVariables false
set_option linter.unusedSimpArgs false
namespace Go.Proofs.YtfjanomjmlcgaaaDoor
open Go.RowKit

/-- What multiplying in place has done behind k limbs: the carry is c. -/
structure TimesTo (s : List Nat) (f c0 k : Nat) (t : List Nat) (c : Nat) : Prop where
  part : Part s t 0 k
  lt : c < 4294967296
  sum : valF (fun i => t.getD i 0) k + 4294967296 ^ k * c = valF (fun i => s.getD i 0) k * f + c0
theorem TimesTo.start {s : List Nat} (h : Ok s) (f c0 : Nat) (hc : c0 < 4294967296) : TimesTo s f c0 0 s c0 := ⟨Part.refl h 0, hc, by simp [valF]⟩
theorem TimesTo.step {s t : List Nat} {f c0 k c : Nat} (h : TimesTo s f c0 k t c) (hk : k < s.length) (x d : Nat) (hx : x < 4294967296) (hd : d < 4294967296) (e : s.getD k 0 * f + c = x + 4294967296 * d) : TimesTo s f c0 (k + 1) (t.set k x) d := by
  have hp := h.part.set x hx
  rw [Nat.zero_add] at hp
  refine ⟨hp, hd, ?_⟩
  simp only [valF]
  rw [getD_set_eq _ _ _ (by rw [h.part.len]; exact hk), valF_congr _ (fun i => t.getD i 0) k (fun i hi => getD_set_ne _ _ _ _ (by omega)), Nat.pow_succ, Nat.mul_assoc, Nat.add_mul, Nat.mul_assoc]
  have h1 := h.sum
  have h2 := congrArg (4294967296 ^ k * ·) e
  simp only [Nat.mul_add] at h2
  omega
theorem TimesTo.total {s t : List Nat} {f c0 c : Nat} (h : TimesTo s f c0 s.length t c) : t.length = s.length ∧ Ok t ∧ val t + 4294967296 ^ s.length * c = val s * f + c0 := by
  have hs := h.sum
  rw [← val_valF t s.length (by rw [h.part.len]; exact Nat.le_refl _), ← val_valF s s.length (Nat.le_refl _)] at hs
  exact ⟨h.part.len, h.part.ok, hs⟩

theorem enc_set' (l : List Nat) (i x : Nat) : (enc l).set i (.int .u32 (x : Nat)) = enc (l.set i x) := by
  simp [enc, List.map_set]

/-- What is owned is a slice, with an address if it has an element. -/
theorem owns_shape {w : World} {base n : Nat} {v : Value} {l : List Nat} (h : w.ownsRow base 57 1 v n (enc l)) : ∃ A cap, v = .slice A n cap ∧ (0 < n → ∃ g, A = some ⟨g, 0, none⟩) := by
  rcases h.2 with ⟨h2, h3⟩ | ⟨g, cap, cur, h2, _⟩
  · exact ⟨none, 0, by rw [h2, h3], fun h => absurd h (by omega)⟩
  · exact ⟨some ⟨g, 0, none⟩, cap, h2, fun _ => ⟨g, rfl⟩⟩

/-- What timesPlus returns. -/
def TimesPlus (base : Nat) (w : World) (x n : Nat) (e : Ending) (w' : World) : Prop :=
  ∃ v t n', e = .returned v ∧ w'.ownsRow base 57 1 v n' (enc t) ∧ Ok t ∧ val t = x ∧ n' ≤ n + 1 ∧ Below base w w'

set_option maxRecDepth 100000 in
set_option maxHeartbeats 1600000 in
theorem nat_timesPlus (base n : Nat) (v : Value) (s : List Nat) (f c0 : Nat) (w : World) (hown : w.ownsRow base 57 1 v n (enc s)) (hok : Ok s) (hn : n ≤ 100000) (hf : f < 4294967296) (hc0 : c0 < 4294967296) (hb : base ≤ w.heap.size) :
    Calls Tryd.prog 103 #[v, .int .u32 f, .int .u32 c0] w fun e w' => TimesPlus base w (val s * f + c0) n e w' := by
  have hsn : s.length = n := by have := hown.1; rw [enc_length] at this; omega
  obtain ⟨A, cap, rfl, hA⟩ := owns_shape hown
  have HA := hid hA; have HOWN := hid hown; have HOK := hid hok
  have H0 := hid (TimesTo.start hok f c0 hc0)
  have HSN := hid hsn
  obtain ⟨i0, hi, hz0, hz1, hz2⟩ := info_parts info_u32
  clear hA hown hok hsn
  go_enter Tryd.func103, Tryd.ntmps103
  go_wp2
  go_loopw [7, 13] (fun v7 v wr => ∃ (k c : Nat) (t : List Nat), k ≤ n ∧ v = .int .i64 k ∧ v7 = .int .u64 c ∧ c < 4294967296 ∧ Hid (TimesTo s f c0 k t c) ∧ Hid (wr.ownsRow base 57 1 (.slice A n cap) n (enc t)) ∧ Hid (Below base w wr)) (fun _ v _ => n - (intOf v).toNat)
  case atStart => exact ⟨0, c0, s, Nat.zero_le _, rfl, rfl, hc0, H0, HOWN, Below.refl _ _⟩
  case round =>
    obtain ⟨k, c, t, hk, rfl, rfl, hc1, ha, hown, hbel⟩ := hrel
    have htl := Eq.trans ha.out.part.len HSN.out
    by_cases hlt : k < n
    · obtain ⟨g, rfl⟩ := HA.out (by omega)
      obtain ⟨hrow, hgb, hnl, hnc, hcm⟩ := Row.of_owns hown.out
      have hca := hrow.cell (i := k) (by omega)
      have hfr := hrow.frozen k
      have hox := ha.out.part.ok.getD k
      have hsame := ha.out.part.out k (.inr (by omega))
      have hstep := ha.out.step (by have := HSN.out; omega)
      rw [← hsame] at hstep
      have HST := hid hstep
      have hst := fun u => hown.out.stored k u
      have HSTO := hid hst
      clear hstep hsame hrow hst
      generalize t.getD k 0 = u at *
      have hfit := mul_fits u f 0 c hox hf (by decide) hc1
      obtain ⟨z, hz⟩ : ∃ z, z = u * f := ⟨_, rfl⟩
      have ez : IntKind.u64.wrap ((u : Int) * (f : Int)) = (z : Int) := by rw [hz, ← Int.natCast_mul]; exact wrap_u64 _ (by omega)
      rw [← hz] at hfit HST
      clear hz
      obtain ⟨T, hT⟩ : ∃ T, T = c + z := ⟨_, rfl⟩
      have e2 : IntKind.u64.wrap ((c : Int) + (z : Int)) = (T : Int) := by have := wrap_u64 T (by omega); rw [hT] at this ⊢; simpa using this
      obtain ⟨x, d, hx, hd, hxd, em, ed⟩ : ∃ x d : Nat, x < 4294967296 ∧ d < 4294967296 ∧ Hid (z + c = x + 4294967296 * d) ∧ (T : Int) % 4294967296 = (x : Int) ∧ (T : Int) / 4294967296 = (d : Int) :=
        ⟨T % 4294967296, T / 4294967296, by omega, by omega, by show _ = _; omega, by omega, by omega⟩
      have HStep := hid (HST.out x d hx hd hxd.out)
      have hx1 := HSTO.out (.int .u32 (x : Nat))
      rw [enc_set'] at hx1
      have HX1 := hid hx1.1
      have HX2 := hid (hbel.out.setCell (p := ⟨g, k, none⟩) hgb (.int .u32 (x : Nat)))
      have HT := hid hT; have HFIT := hid hfit
      clear hT hfit HST hxd hx1 HSTO hnl htl ha hown
      go_wp2
      go_roundw
      case rel => exact ⟨k + 1, d, t.set k x, by omega, by go_num, by first | rfl | rw [ed], hd, HStep, HX1, HX2⟩
      case measure => simp [intOf]; omega
    · obtain rfl : k = n := by omega
      have hsl := HSN.out
      rw [← hsl] at ha
      obtain ⟨t1, t2, t3⟩ := ha.out.total
      rw [hsl] at t3
      have T2 := hid t2; have T3 := hid t3
      by_cases hc : 0 < c
      · have hnews : ∀ j u, (enc [c])[j]? = some u → (wr.alloc (.cells #[.int .u32 (c : Nat)] 57)).cell? ((⟨wr.heap.size, 0, none⟩ : Addr).add j) = some u :=
          (sees_lit wr [c] (Ok.cons hc1 Ok.nil) (by simp)).news
        have HN := hid hnews; have HW := hid hown.out.lt
        clear hnews t1 t2 t3 ha hsl
        go_wp2_with (at_builtin; refine wpList_append_own _ rfl _ _ 22 rfl base 57 i0 (.int .u32 0) 1 4 Tryd.underlying22 hi hz0 hz1 hz2 rfl (by decide) _ _ _ rfl (hown.out.alloc _) ⟨wr.heap.size, 0, none⟩ 1 1 (enc [c]) rfl ?ga1 ?gb1 ?gc1 ?gd1 ?ge1 ?gf1 ?_)
        case ga1 => simp [enc_length]
        case gb1 => exact HN.out
        case gc1 => exact enc_one _
        case gd1 => unfold maxLen; omega
        case ge1 => omega
        case gf1 => have := hbel.out.size; simp; omega
        intro v' w4 hown4 hgrow _
        rw [enc_append] at hown4
        have hb4 : Below base w w4 := (hbel.out.alloc (by have := hbel.out.size; omega) _).grown hgrow (by rw [Deep.nblk_alloc]; have := hbel.out.size; omega) (fun k e => (HW.out k e).1)
        have HO := hid hown4; have HB4 := hid hb4
        clear hown4 hgrow hb4
        go_wp2
        go_ret
        refine ⟨v', t ++ [c], k + 1, rfl, HO.out, T2.out.append (Ok.cons hc1 Ok.nil), ?_, Nat.le_refl _, HB4.out⟩
        rw [val_append, htl, val_cons, val_nil, Nat.mul_zero, Nat.add_zero]
        exact T3.out
      · obtain rfl : c = 0 := by omega
        clear t1 t2 t3 ha hsl
        go_wp2
        go_ret
        exact ⟨_, t, k, rfl, hown.out, T2.out, by have := T3.out; simpa using this, by omega, hbel.out⟩
end Go.Proofs.YtfjanomjmlcgaaaDoor
