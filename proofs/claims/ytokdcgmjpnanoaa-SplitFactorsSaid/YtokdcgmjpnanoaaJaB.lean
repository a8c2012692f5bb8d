/- slices.Clone, modular.plain, modular.scaled by their contracts. -/
import Derived.Test.YtokdcgmjpnanoaaJaA
import Derived.Lib.SliceRun

set_option linter.unusedVariables false
set_option linter.unusedSimpArgs false
namespace Go.Proofs.Ytokdcgmjpnanoaa
open Go.RowKit

theorem SeesI.news {w : World} {ad : Addr} {n c : Nat} {l : List Int} (h : SeesI w (.slice (some ad) n c) l) : ∀ j u, (l.map vI)[j]? = some u → w.cell? (ad.add j) = some u := by
  intro j u hj
  rw [List.getElem?_map] at hj
  obtain ⟨x, hx, rfl⟩ := Option.map_eq_some_iff.1 hj
  have hlt : j < l.length := (List.getElem?_eq_some_iff.1 hx).1
  obtain ⟨b, o, ha, hc⟩ := h.at (by omega)
  cases ha
  have e : (⟨b, o, none⟩ : Addr).add j = ⟨b, o + j, none⟩ := by
    unfold Addr.add; split
    · rename_i h; subst h; rfl
    · rfl
  rw [e, hc j hlt, List.getD_eq_getElem?_getD, hx]; rfl
theorem oneCell_ints (l : List Int) : ∀ u ∈ l.map vI, u.oneCell' = true := by
  intro u hu
  obtain ⟨x, _, rfl⟩ := List.mem_map.1 hu; rfl

set_option maxRecDepth 100000 in
set_option maxHeartbeats 1000000 in
theorem clone_ints {v : Value} {l : List Int} {w : World} (h : SeesI w v l) (hn : l.length ≤ 1048576) :
    Calls Try.prog 19 #[v] w fun e w' => ∃ v' g, e = .returned v' ∧ w.heap.size ≤ g ∧ Mine w' g v' l ∧ Below w.heap.size w w' := by
  have hlen := h.len
  obtain ⟨i0, hi, hz0, hz1, hz2⟩ := info_parts info_int
  obtain ⟨ao, cap, hv, hcap, _, hno, _⟩ := id h
  subst hv
  have q22 : ∀ (w : World) (a : Option Addr) (n c n' c' : Nat), (binOp .eql 22 (.slice a n c) (.slice none n' c')).run Try.prog w = .ok (.bool a.isNone) w := fun w a n c n' c' => Lib.run_eql_slice_nil w _ _ a n c n' c' Try.underlying22
  cases ao with
  | none =>
    have hl0 : l = [] := List.eq_nil_of_length_eq_zero (by have := hno rfl; omega)
    subst hl0
    have hc0 := hno rfl
    subst hc0
    clear hi hz0 hz1 hz2 h hno
    go_enter Try.func19, Try.ntmps19
    go_wp2
    go_ret
    exact ⟨_, w.heap.size, rfl, Nat.le_refl _, Mine.nil _ _, Below.refl _ _⟩
  | some ad =>
    have hn := h.news
    have HN : Hid (∀ j u, (l.map vI)[j]? = some u → (w.alloc (.cells #[] 3)).cell? (ad.add j) = some u) := fun j u hj => by
      have h1 := hn j u hj
      have hb : Below w.heap.size w (w.alloc (.cells #[] 3)) := (Below.refl _ w).alloc (Nat.le_refl _) _
      exact (hb.cell (World.block_lt_of_cell? w _ h1)).trans h1
    have HI := hidP hi
    have HI0 := hidP hz0
    have HI1 := hidP hz1
    have HI2 := hidP hz2
    clear hn h hno hi hz0 hz1 hz2
    go_enter Try.func19, Try.ntmps19
    go_wp2_with (at_builtin; refine wpList_append_own _ rfl _ _ 22 rfl w.heap.size 3 i0 (.int .i64 0) 1 8 Try.underlying22 HI.out HI0.out HI1.out HI2.out rfl (by decide) _ _ _ rfl (World.ownsRow_made w #[] 0 (Nat.le_refl _) (Nat.zero_le _) (by simp)) ad l.length cap (l.map vI) rfl ?qc1 ?qc2 ?qc3 ?qc4 ?qc5 ?qc6 ?_)
    case qc1 => simp
    case qc2 => exact HN.out
    case qc3 => exact oneCell_ints l
    case qc4 => unfold maxLen; omega
    case qc5 => omega
    case qc6 => simp
    · intro v' w1 hown hgrow _
      have HB : Hid (Below w.heap.size w w1) := ((Below.refl _ w).alloc (Nat.le_refl _) _).grown hgrow (by simp) (fun k e => by simp [Value.ownBlock] at e; omega)
      obtain ⟨g, hg, hm⟩ := Mine.of_owns (l := l) hown hlen
      have HM := hidP hm
      have HGG := hidP hg
      clear hown hgrow hm hg
      go_wp2
      go_ret
      exact ⟨_, g, rfl, HGG.out, HM.out, HB.out⟩

set_option maxRecDepth 100000 in
theorem mod_plain {v : Value} {q : Nat} {l : List Int} {w : World} (h : SeesI w v l) (hn : l.length ≤ 1048576) (hq : 0 < q) (hq2 : q < 2147483648) :
    Calls Try.prog 57 #[v, .int .i64 q] w fun e w' => ∃ v' g, e = .returned v' ∧ w.heap.size ≤ g ∧ Mine w' g v' (nf q l) ∧ Below w.heap.size w w' := by
  have C := hidP (clone_ints h hn)
  have S : Hid (∀ v g w, Mine w g v l → Calls Try.prog 87 #[v, .int .i64 q] w fun e w' => ∃ v', e = .returned v' ∧ Mine w' g v' (nf q l) ∧ w.grownBy w' (some g)) := fun v g w h => mod_settle h hq hq2
  clear h hq hq2 hn
  go_enter Try.func57, Try.ntmps57
  go_wp2_with fail
  refine C.out.mono ?_
  rintro e w1 ⟨v1, g, rfl, hg, hm, hb⟩
  have HG := hidP hg
  have HB := hidP hb
  have HS := hidP (S.out v1 g w1 hm)
  clear hg hb hm
  go_wp2_with fail
  refine HS.out.mono ?_
  rintro e w2 ⟨v2, rfl, hm2, hgr⟩
  have HM := hidP hm2
  have HB2 := hidP (below_in HB.out hgr HG.out)
  clear hm2 hgr
  go_wp2
  go_ret
  exact ⟨_, g, rfl, HG.out, HM.out, HB2.out⟩

/-- Each element is a residue. -/
def Res (q : Nat) (l : List Int) : Prop := ∀ i, 0 ≤ l.getD i 0 ∧ l.getD i 0 < (q : Int)
theorem res_nf {q : Nat} (hq : 0 < q) (l : List Int) : Res q (nf q l) := (nf_plain hq l).1
theorem prod_bound {a b : Int} {q : Nat} (ha : 0 ≤ a) (ha2 : a < q) (hb : 0 ≤ b) (hb2 : b < q) (hq2 : q < 2147483648) : 0 ≤ a * b ∧ a * b < 4611686018427387904 := by
  refine ⟨Int.mul_nonneg ha hb, ?_⟩
  have h1 : a * b ≤ 2147483647 * b := Int.mul_le_mul_of_nonneg_right (by omega) hb
  omega

set_option maxRecDepth 100000 in
set_option maxHeartbeats 2000000 in
theorem mod_scaled {v : Value} {g q : Nat} {l : List Int} {c : Int} {w : World} (h : Mine w g v l) (hq : 0 < q) (hq2 : q < 2147483648) (hl : Res q l) (hc : 0 ≤ c) (hc2 : c < q) :
    Calls Try.prog 71 #[v, .int .i64 c, .int .i64 q] w fun e w' => ∃ v', e = .returned v' ∧ Mine w' g v' (nf q (psc c l)) ∧ w.grownBy w' (some g) := by
  have S : Hid (∀ v w, Mine w g v (psc c l) → Calls Try.prog 87 #[v, .int .i64 q] w fun e w' => ∃ v', e = .returned v' ∧ Mine w' g v' (nf q (psc c l)) ∧ w.grownBy w' (some g)) := fun v w h => mod_settle h hq hq2
  obtain ⟨ao, cap, rfl, hcap, hlen, hno, hrow⟩ := h
  have HRow := hidP hrow
  have HNo := hidP hno
  have HL := hidP hl
  have HC := hidP (And.intro hc hc2)
  clear hrow hno hl hc hc2
  go_enter Try.func71, Try.ntmps71
  go_wp2
  go_loopw [10] (fun v9 wr => ∃ k : Nat, k ≤ l.length ∧ v9 = .int .i64 k ∧ Hid (0 < l.length → RowW wr g (prog (fun a => c * a) l k)) ∧ Hid (w.grownBy wr (some g))) (fun v _ => l.length - (intOf v).toNat)
  case atStart => exact ⟨0, Nat.zero_le _, rfl, fun hp => by rw [prog_zero]; exact (HRow.out hp).2, grownBy_refl _ _⟩
  case round =>
    obtain ⟨k, hk, rfl, hro, hgr⟩ := hrel
    by_cases hlt : k < l.length
    · obtain ⟨ha, -⟩ := HRow.out (by omega)
      subst ha
      have hr := hro.out (by omega)
      have hpl := prog_len (fun a => c * a) l k
      have hc1 := hr.cell (i := k) (by rw [hpl]; exact hlt)
      rw [prog_at _ _ _ hlt] at hc1
      have hfr := hr.frozen k
      have HS := hidP (hr.set (i := k) (by rw [hpl]; exact hlt) (c * l.getD k 0))
      have hps : (prog (fun a => c * a) l k).set k (c * l.getD k 0) = prog (fun a => c * a) l (k + 1) := prog_set (fun a => c * a) l k hlt
      rw [hps] at HS
      have HG := hidP (grownBy_set hgr.out k (.int .i64 (c * l.getD k 0)))
      have hbd := prod_bound (HL.out k).1 (HL.out k).2 HC.out.1 HC.out.2 hq2
      obtain ⟨x, hx⟩ : ∃ x, l.getD k 0 = x := ⟨_, rfl⟩
      rw [hx] at hc1 hbd
      have hcm : c * x = x * c := Int.mul_comm _ _
      obtain ⟨z, hz⟩ : ∃ z, x * c = z := ⟨_, rfl⟩
      have hw : IntKind.i64.wrap z = z := by rw [IntKind.wrap_i64]; omega
      simp only [hx, hcm, hz] at HS HG
      clear hx hps hpl hr hro hgr hcm hbd
      have h0 : 0 + k = k := Nat.zero_add k
      go_wp2
      go_roundw
      case rel => exact ⟨k + 1, by omega, by go_num, fun _ => HS.out, HG⟩
      case measure => simp [intOf]; omega
    · obtain rfl : k = l.length := by omega
      rw [prog_all] at hro
      have hM : Mine wr g (.slice ao l.length cap) (psc c l) := ⟨ao, cap, by rw [psc_len], by rw [psc_len]; exact hcap, by rw [psc_len]; exact hlen, HNo.out, fun hp => by rw [psc_len] at hp; exact ⟨(HRow.out hp).1, hro.out hp⟩⟩
      have HS := hidP (S.out _ wr hM)
      clear hM hro
      go_wp2_with fail
      refine HS.out.mono ?_
      rintro e w2 ⟨v2, rfl, hm2, hgr2⟩
      have HM := hidP hm2
      have HG2 := hidP (grownBy_trans hgr.out hgr2)
      clear hm2 hgr2
      go_wp2
      go_ret
      exact ⟨_, rfl, HM.out, HG2.out⟩
end Go.Proofs.Ytokdcgmjpnanoaa
