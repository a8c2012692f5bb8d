/- The document's Same, Plain and up by their contracts. -/
import Derived.Test.YtokdcgmjpnanoaaJaI

set_option linter.unusedVariables false
set_option linter.unusedSimpArgs false
namespace Go.Proofs.Ytokdcgmjpnanoaa
open Go.RowKit

/-- The contract's words of a function that only reads. -/
def Reads (v : Value) (w : World) (e : Ending) (w' : World) : Prop := e = .returned v ∧ ∃ m, w' = w.drewN m
theorem list_eq_getD {l m : List Int} (hl : l.length = m.length) (h : ∀ i, i < l.length → l.getD i 0 = m.getD i 0) : l = m := by
  apply List.ext_getElem?
  intro i
  by_cases hi : i < l.length
  · have := h i hi
    rw [List.getD_eq_getElem?_getD, List.getD_eq_getElem?_getD, List.getElem?_eq_getElem hi, List.getElem?_eq_getElem (by omega)] at this
    rw [List.getElem?_eq_getElem hi, List.getElem?_eq_getElem (by omega)]
    simpa using this
  · rw [List.getElem?_eq_none (by omega), List.getElem?_eq_none (by omega)]

theorem ref_Same {a b : Value} {l m : List Int} {w : World} (ha : SeesI w a l) (hb : SeesI w b m) :
    Calls Try.prog 25 #[a, b] w fun e w' => Reads (.bool (decide (l = m))) w e w' := by
  have hlen := ha.len
  have hlen2 := hb.len
  have HA := hidP ha
  have HB := hidP hb
  obtain ⟨A, ca, rfl, hcap⟩ := SeesF.form ha
  obtain ⟨B, cb, rfl, hcap2⟩ := SeesF.form hb
  clear ha hb
  by_cases hl : l.length = m.length
  · obtain ⟨n, hn⟩ : ∃ n, m.length = n := ⟨_, rfl⟩
    have HL := hidP hl
    have HN := hidP hn
    rw [hn] at hl hlen2 hcap2 ⊢
    rw [hl] at hlen hcap ⊢
    have HLn := hidP hl
    clear hl hn
    go_enter Try.func25, Try.ntmps25
    go_wp2
    go_loopw [5] (fun v wr => ∃ k d : Nat, k ≤ n ∧ v = .int .i64 k ∧ wr = w.drewN d ∧ Hid (∀ i, i < k → l.getD i 0 = m.getD i 0)) (fun v _ => n - (intOf v).toNat)
    case atStart => exact ⟨0, 0, Nat.zero_le _, rfl, rfl, fun i hi => absurd hi (by omega)⟩
    case round =>
      obtain ⟨k, d, hk, rfl, rfl, hz⟩ := hrel
      by_cases hlt : k < n
      · obtain ⟨b1, o1, rfl, hc1'⟩ := HA.out.at (by have := HLn.out; omega)
        obtain ⟨b2, o2, rfl, hc2'⟩ := HB.out.at (by have := HN.out; omega)
        have hc1 := hc1' k (by have := HLn.out; omega)
        have hc2 := hc2' k (by have := HN.out; omega)
        have HZ : Hid (l.getD k 0 = m.getD k 0 → ∀ i, i < k + 1 → l.getD i 0 = m.getD i 0) := fun h i hi => by
          by_cases e : i = k
          · subst e; exact h
          · exact hz.out i (by omega)
        have HNE : Hid (l.getD k 0 ≠ m.getD k 0 → l ≠ m) := fun h e => h (by rw [e])
        clear hc1' hc2' hz
        obtain ⟨x, hx⟩ : ∃ x, l.getD k 0 = x := ⟨_, rfl⟩
        obtain ⟨y, hy⟩ : ∃ y, m.getD k 0 = y := ⟨_, rfl⟩
        rw [hx] at hc1
        rw [hy] at hc2
        rw [hx, hy] at HZ HNE
        clear hx hy
        by_cases he : x = y
        · have HZ2 := hidP (HZ.out he)
          subst he
          clear HZ HNE
          go_wp2
          go_quiet (fail)
          go_wp2
          go_roundw
          case rel => exact ⟨k + 1, d + nq, by omega, by go_num, rfl, HZ2⟩
          case measure => simp [intOf]; omega
        · have HN2 := hidP (HNE.out he)
          have hxy : (x != y) = true := by simpa using he
          clear HZ HNE
          go_wp2
          go_quiet (fail)
          go_wp2
          go_ret
          exact ⟨ret_bool (by rw [decide_eq_false HN2.out]), ⟨_, World.drewN_drewN _ _ _⟩⟩
      · have HE := hidP (list_eq_getD HL.out (fun i hi => hz.out i (by have := HLn.out; omega)))
        clear hz
        go_wp2
        go_ret
        exact ⟨ret_bool (by rw [decide_eq_true HE.out]), ⟨_, rfl⟩⟩
  · have HN : Hid (l ≠ m) := fun e => hl (by rw [e])
    have hl2 : ((l.length : Int) != (m.length : Int)) = true := by simp; omega
    clear HA HB
    go_enter Try.func25, Try.ntmps25
    go_wp2
    go_ret
    exact ⟨ret_bool (by rw [decide_eq_false HN.out]), ⟨0, rfl⟩⟩
theorem same_true {a b : Value} {l : List Int} {w : World} (ha : SeesI w a l) (hb : SeesI w b l) :
    Calls Try.prog 25 #[a, b] w fun e w' => e = .returned (.bool true) ∧ Below w.heap.size w w' := by
  refine (ref_Same ha hb).mono ?_
  rintro e w' ⟨he, d, rfl⟩
  exact ⟨by rw [he, decide_eq_true rfl], below_drewN (Below.refl _ _) _⟩
theorem same_dec {a b : Value} {l m : List Int} {w : World} (ha : SeesI w a l) (hb : SeesI w b m) :
    Calls Try.prog 25 #[a, b] w fun e w' => e = .returned (.bool (decide (l = m))) ∧ Below w.heap.size w w' := by
  refine (ref_Same ha hb).mono ?_
  rintro e w' ⟨he, d, rfl⟩
  exact ⟨he, below_drewN (Below.refl _ _) _⟩

theorem ref_rest_eq (a p : Int) (hp : 0 < p) (hp2 : p < 2147483648) (w : World) :
    Calls Try.prog 83 #[.int .i64 a, .int .i64 p] w fun e w' => e = .returned (.int .i64 (a % p)) ∧ w = w' := by
  obtain ⟨t, r, ht, hr, t1, t2, r1, r2, h⟩ := rest_letters a p hp hp2
  have wt : IntKind.i64.wrap t = t := by rw [IntKind.wrap_i64]; omega
  have hp0 : ¬ p = 0 := by omega
  have HR := hidP hr
  rw [hr]
  clear hr
  rcases h with ⟨h0, hs⟩ | ⟨h0, hs⟩
  · have ws : IntKind.i64.wrap (t + p) = r := by rw [IntKind.wrap_i64]; omega
    clear hs
    go_enter Try.func83, Try.ntmps83
    go_wp2
    go_ret
    exact ⟨by first | rfl | (simp [ws]), rfl⟩
  · subst hs
    have h1 : ¬ t < 0 := h0
    go_enter Try.func83, Try.ntmps83
    go_wp2
    go_ret
    exact ⟨rfl, rfl⟩

theorem news_one (w : World) (z : Int) : ∀ j u, [Value.int .i64 z][j]? = some u → (w.alloc (.cells #[.int .i64 z] 3)).cell? ((⟨w.heap.size, 0, none⟩ : Addr).add j) = some u := by
  intro j u hj
  match j, hj with
  | 0, hj =>
    show (w.alloc (.cells #[.int .i64 z] 3)).cell? ⟨w.heap.size, 0, none⟩ = some u
    rw [World.cell?_alloc_at _ _ _ _ rfl]
    simpa using hj
  | j + 1, hj => simp at hj
theorem one_cell (z : Int) : ∀ u ∈ [Value.int .i64 z], u.oneCell' = true := by
  intro u hu; rw [List.mem_singleton] at hu; subst hu; rfl
theorem owns_step {base : Nat} {w0 wr w2 : World} {o : Obj} {v : Value} {n : Nat} {xs : List Value} (hb : Below base w0 wr) (hs : base ≤ wr.heap.size) (hown : wr.ownsRow base 3 1 v n xs) (hg : (wr.alloc o).grownBy w2 v.ownBlock) : Below base w0 w2 :=
  (hb.alloc hs o).grown hg (by simp; omega) (fun k e => (hown.lt k e).1)
theorem owns_kept {base : Nat} {wr w2 : World} {v : Value} {n : Nat} {xs : List Value} (hown : wr.ownsRow base 3 1 v n xs) (hb : Below wr.heap.size wr w2) : w2.ownsRow base 3 1 v n xs :=
  hown.kept (below_grownBy hb none) (by by_cases h : v.ownBlock = none; exact Or.inl h; exact Or.inr h)
theorem ref_is_prime {q : Nat} (hq : IsP q) (w : World) : Calls Try.prog 14 #[.int .i64 q] w fun e w' => e = .returned (.bool true) ∧ Below w.heap.size w w' := by
  have := ref_isP (q : Int) (by omega) (by have := hq.2.1; omega) w
  rwa [isP_of hq] at this
theorem ref_not_prime {p : Int} (h1 : -9223372036854775808 ≤ p) (h2 : p < 9223372036854775808) (hp : isP p = false) (w : World) : Calls Try.prog 14 #[.int .i64 p] w fun e w' => e = .returned (.bool false) ∧ Below w.heap.size w w' := by
  have := ref_isP p h1 h2 w
  rwa [hp] at this
theorem map_take_succ (F : Int → Int) {l : List Int} {k : Nat} (hk : k < l.length) : ((l.take k).map F).map vI ++ [vI (F (l.getD k 0))] = ((l.take (k + 1)).map F).map vI := by
  rw [take_last hk, List.map_append, List.map_append]; rfl

set_option maxRecDepth 100000 in
set_option maxHeartbeats 2000000 in
theorem ref_Plain {vf : Value} {q : Nat} {f : List Int} {w : World} (hf : SeesI w vf f) (hlf : f.length ≤ 65536) (hq : IsP q) :
    Calls Try.prog 43 #[vf, .int .i64 q] w fun e w' => Tells (nf q f) w e w' := by
  obtain ⟨hq0, hq2⟩ := isP_bounds hq
  have IS := hidP (fun w => ref_is_prime hq w)
  have HR : Hid (∀ (z : Int) w, Calls Try.prog 83 #[.int .i64 z, .int .i64 q] w fun e w' => e = .returned (.int .i64 (z % (q : Int))) ∧ w = w') := fun z w => ref_rest_eq z q (by omega) (by omega) w
  have HF : Hid (∀ w1, Below w.heap.size w w1 → SeesI w1 vf f) := fun w1 h => SeesI.below hf h
  obtain ⟨A, ca, rfl, hcap⟩ := SeesF.form hf
  obtain ⟨i0, hi, hz0, hz1, hz2⟩ := info_parts info_int
  have HI := hidP hi
  have HI0 := hidP hz0
  have HI1 := hidP hz1
  have HI2 := hidP hz2
  clear hf hq hi hz0 hz1 hz2
  go_enter Try.func43, Try.ntmps43
  go_wp2_with fail
  refine (IS.out _).mono ?_
  rintro e w1 ⟨rfl, hb1⟩
  have B1 := hidP hb1
  clear hb1
  go_wp2_with fail
  go_loopw [5, 6] (fun v5 v wr => ∃ k : Nat, k ≤ f.length ∧ v = .int .i64 k ∧ Hid (wr.ownsRow w.heap.size 3 1 v5 k (((f.take k).map (fun a => a % (q : Int))).map vI)) ∧ Hid (Below w.heap.size w wr)) (fun _ v _ => f.length - (intOf v).toNat)
  case atStart => exact ⟨0, Nat.zero_le _, rfl, World.ownsRow_nil _ _ _ _, B1⟩
  case round =>
    obtain ⟨k, hk, rfl, hown, hB⟩ := hrel
    by_cases hlt : k < f.length
    · obtain ⟨b1, o1, e2, hc1'⟩ := (HF.out _ hB.out).at (by omega)
      subst e2
      have hc1 := hc1' k hlt
      have HT := hidP (map_take_succ (fun a => a % (q : Int)) hlt)
      have C1 := hidP fun w => HR.out (f.getD k 0) w
      obtain ⟨x, hx⟩ : ∃ x, f.getD k 0 = x := ⟨_, rfl⟩
      rw [hx] at hc1
      simp only [hx] at C1 HT
      obtain ⟨z, hz⟩ : ∃ z, x % (q : Int) = z := ⟨_, rfl⟩
      simp only [hz] at C1 HT
      have HSz : Hid (w.heap.size ≤ wr.heap.size) := hB.out.size
      have hk1 : IntKind.i64.wrap ((k : Int) + 1) = (k : Int) + 1 := by rw [IntKind.wrap_i64]; omega
      obtain ⟨X, hX⟩ : ∃ X, ((f.take k).map (fun a => a % (q : Int))).map vI = X := ⟨_, rfl⟩
      rw [hX] at hown HT
      clear hc1' hx hz hX
      go_wp2_with fail
      refine (C1.out _).mono ?_
      rintro e w2 ⟨rfl, rfl⟩
      go_wp2_with (at_builtin; refine wpList_append_own _ rfl _ _ 22 rfl w.heap.size 3 i0 (.int .i64 0) 1 8 Try.underlying22 HI.out HI0.out HI1.out HI2.out rfl (by decide) _ _ _ rfl (hown.out.alloc _) ⟨wr.heap.size, 0, none⟩ 1 1 [.int .i64 z] rfl rfl ?qc1 ?qc2 ?qc3 ?qc4 ?qc5 ?_)
      case qc1 => exact news_one wr z
      case qc2 => exact one_cell z
      case qc3 => unfold maxLen; omega
      case qc4 => omega
      case qc5 => simp; exact Nat.le_trans HSz.out (Nat.le_succ _)
      · intro v' w3 hown' hgrow _
        have HO : Hid (w3.ownsRow w.heap.size 3 1 v' (k + 1) (((f.take (k + 1)).map (fun a => a % (q : Int))).map vI)) := by
          have := hown'
          rw [show [Value.int IntKind.i64 z] = [vI z] from rfl, HT.out] at this
          exact this
        have HB3 := hidP (owns_step hB.out HSz.out hown.out hgrow)
        clear hown' hgrow hown HT C1
        go_wp2_with fail
        go_roundw
        case rel => exact ⟨k + 1, by omega, by go_num, HO, HB3⟩
        case measure => simp [intOf]; omega
    · obtain rfl : k = f.length := by omega
      have ho := hown.out
      rw [List.take_length] at ho
      have hLl : (f.map (fun a => a % (q : Int))).length = f.length := List.length_map ..
      obtain ⟨g, hg, hm⟩ := Mine.of_owns ho (by rw [hLl]; omega)
      have HT : Hid (trim (f.map (fun a => a % (q : Int))) = nf q f) := rfl
      obtain ⟨L, hL⟩ : ∃ L, f.map (fun a => a % (q : Int)) = L := ⟨_, rfl⟩
      rw [hL] at hLl hm HT
      obtain ⟨ao, cap, rfl, hc, -⟩ := id hm
      have HM := hidP hm
      have HLl := hidP hLl
      rw [hLl]
      rw [hLl] at hc
      clear ho hg hm hL hown hLl
      go_wp2_with fail
      go_loopg [7] f.length (fun gm v7 wr2 => ∃ n : Nat, n = gm ∧ n ≤ f.length ∧ v7 = .int .i64 n ∧ Hid (trim (L.take n) = nf q f) ∧ wr2 = wr)
      case atStart => exact ⟨f.length, rfl, Nat.le_refl _, rfl, by show _ = _; rw [← HLl.out, List.take_length]; exact HT.out, rfl⟩
      case round =>
        obtain ⟨n, rfl, hn, rfl, hT, rfl⟩ := hrel
        have hend : ∀ n, n ≤ f.length → trim (L.take n) = nf q f → (n = 0 ∨ L.getD (n - 1) 0 ≠ 0) → SeesI wr (.slice ao n cap) (nf q f) := by
          intro n hn hT he
          obtain ⟨ao', cap', z1, z2, z3, z4, z5⟩ := HM.out
          simp only [Value.slice.injEq] at z1
          obtain ⟨rfl, -, rfl⟩ := z1
          exact (settle_mine HLl.out hn hc (by omega) z4 (fun h => (z5 (by have := HLl.out; omega)).1) (fun h => (z5 (by have := HLl.out; omega)).2) hT he).sees
        rcases Nat.eq_zero_or_pos n with h0 | h0
        · subst h0
          have HS := hidP (hend 0 (by omega) hT.out (Or.inl rfl))
          clear hend
          go_wp2_with fail
          go_ret
          exact ⟨_, rfl, HS.out, hB.out⟩
        · obtain ⟨m, rfl⟩ : ∃ m, n = m + 1 := ⟨n - 1, by omega⟩
          obtain ⟨ao', cap', z1, z2, z3, z4, z5⟩ := HM.out
          simp only [Value.slice.injEq] at z1
          obtain ⟨rfl, -, rfl⟩ := z1
          obtain ⟨rfl, hr⟩ := z5 (by have := HLl.out; omega)
          have hc1 := hr.cell (i := m) (by have := HLl.out; omega)
          have hT2 := hT.out
          rw [take_last (by have := HLl.out; omega)] at hT2
          have e1 : IntKind.i64.wrap (((m + 1 : Nat) : Int) - 1) = (m : Int) := by rw [IntKind.wrap_i64]; omega
          have e2 : ((m + 1 : Nat) : Int) - 1 = (m : Int) := by omega
          have p1 : ((m + 1 : Nat) : Int) > 0 := by omega
          have HEn := hidP (hend (m + 1) hn hT.out)
          obtain ⟨y, hy⟩ : ∃ y, L.getD m 0 = y := ⟨_, rfl⟩
          rw [hy] at hc1 hT2
          have h0m : 0 + m = m := Nat.zero_add m
          have lm : (m : Int) < (f.length : Int) := by omega
          by_cases hy0 : y = 0
          · subst hy0
            rw [trim_zero] at hT2
            have HT2 := hidP hT2
            clear hT2 hT hy hend z2 z3 z4 z5 hr HEn
            go_wp2_with fail
            go_roundg m
            case rel => exact ⟨m, rfl, by omega, by go_num, HT2, rfl⟩
            case measure => omega
          · have HS := hidP (HEn.out (Or.inr (by rw [Nat.add_sub_cancel, hy]; exact hy0)))
            have hyb : (y == 0) = false := by simpa using hy0
            have hcm : ((m + 1 : Nat) : Int) ≤ (cap : Int) := by omega
            clear hT2 hy hend z2 z3 z4 z5 hr HEn
            go_wp2_with fail
            go_ret
            exact ⟨_, rfl, HS.out, hB.out⟩
end Go.Proofs.Ytokdcgmjpnanoaa
