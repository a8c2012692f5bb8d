/- The document's rows by their contract. -/
import Derived.Test.YtokdcgmjpnanoaaSuC

set_option linter.unusedVariables false
set_option linter.unusedSimpArgs false
namespace Go.Proofs.Ytokdcgmjpnanoaa
open Go.RowKit

def RowsTells (q : Nat) (f : List Int) (n : Nat) (w : World) (e : Ending) (w' : World) : Prop := ∃ v G m, e = .returned v ∧ MatS w.heap.size w' v n n G m ∧ (∀ i, i < n → RowIs q f i n (m i)) ∧ Below w.heap.size w w'
/-- The row behind k rounds. -/
def FillTo (w : World) (g n : Nat) (X : List Int) (k : Nat) : Prop := ∃ l, RowW w g l ∧ l.length = n ∧ ∀ j, j < n → l.getD j 0 = if j < k then X.getD j 0 else 0
theorem FillTo.next {w : World} {g n : Nat} {X : List Int} {k : Nat} (h : FillTo w g n X k) (hk : k < n) : FillTo (w.setCell ⟨g, k, none⟩ (.int .i64 (X.getD k 0))) g n X (k + 1) := by
  obtain ⟨l, h1, h2, h3⟩ := h
  refine ⟨l.set k (X.getD k 0), h1.set (by omega) _, by simpa using h2, fun j hj => ?_⟩
  rw [getD_setG, h2]
  by_cases e : k = j
  · subst e; rw [if_pos ⟨rfl, hk⟩, if_pos (by omega)]
  · rw [if_neg (fun z => e z.1), h3 j hj]
    by_cases e2 : j < k
    · rw [if_pos e2, if_pos (by omega)]
    · rw [if_neg e2, if_neg (by omega)]
theorem FillTo.below {w w' : World} {g n : Nat} {X : List Int} {k : Nat} (h : FillTo w g n X k) (hb : Below w.heap.size w w') : FillTo w' g n X k := by
  obtain ⟨l, h1, h2, h3⟩ := h; exact ⟨l, h1.below hb, h2, h3⟩

theorem MatS.mono {b b' : Nat} {w : World} {v : Value} {r n : Nat} {G : Nat → Nat} {m : Nat → Nat → Int} (h : MatS b w v r n G m) (hb : b' ≤ b) : MatS b' w v r n G m :=
  ⟨ownsRow_mono h.own hb, h.all, h.row, fun j hj => Nat.le_trans hb (h.ge j hj), h.ne, h.inj⟩
set_option maxRecDepth 100000 in
set_option maxHeartbeats 4000000 in
theorem ref_rows {vf : Value} {q n : Nat} {F : List Int} {w : World} (hf : SeesI w vf F) (hFl : F.length = n + 1) (hn1 : 1 ≤ n) (hn : n ≤ 60) (hq : IsP q) (mF : Mo q F) :
    Calls Try.prog 85 #[vf, .int .i64 q] w fun e w' => RowsTells q F n w e w' := by
  obtain ⟨hq0, hq2⟩ := isP_bounds hq
  have HF : Hid (∀ w1, Below w.heap.size w w1 → SeesI w1 vf F) := fun w1 h => SeesI.below hf h
  have HQ := hidP hq
  have HM := hidP mF
  have HFn := hidP hFl
  have CR : Hid (∀ (z : Int) w, Calls Try.prog 83 #[.int .i64 z, .int .i64 q] w fun e w' => e = .returned (.int .i64 (z % (q : Int))) ∧ w = w') := fun z w => ref_rest_eq z q (by omega) (by omega) w
  obtain ⟨A, ca, rfl, hcap⟩ := SeesF.form hf
  obtain ⟨lf, hlf⟩ : ∃ lf, F.length = lf := ⟨_, rfl⟩
  rw [hlf] at HF hcap
  rw [hlf]
  have hlf2 : lf = n + 1 := by rw [← hlf]; exact hFl
  have Hlf2 := hidP hlf2
  have e0 : (lf : Int) - 1 = (n : Int) := by omega
  have e1 : IntKind.i64.wrap (n : Int) = (n : Int) := by rw [IntKind.wrap_i64]; omega
  have hqn : q < 9223372036854775808 := by omega
  obtain ⟨i0, hi, hz0, hz1, hz2⟩ := info_parts info_list
  have HI := hidP hi
  have HI0 := hidP hz0
  have HI1 := hidP hz1
  have HI2 := hidP hz2
  obtain ⟨W1, c1, hW1, hc1, hs1, hb1⟩ := grown_one w 1
  obtain ⟨W2, c2, hW2, hc2, hs2, hb2⟩ := grown_two W1 0 1
  have HW1 := hidP hW1
  have HC1 := hidP hc1
  have HW2 := hidP hW2
  have HC2 := hidP hc2
  have B1 := hidP hb1
  have B2 := hidP (step_below hb1 hb2)
  have HX2 := hidP (SeesI.below hs1 hb2)
  have CP := hidP (ref_PW (n := q) hs2 (HF.out W2 B2.out) hqn (by simp) (by omega) hq mF.nf_ne)
  clear hf hi hz0 hz1 hz2 hW1 hc1 hs1 hb1 hW2 hc2 hs2 hb2 hq mF hFl hcap hlf hlf2
  go_enter Try.func85, Try.ntmps85
  go_upto_region 5 with fail
  rw [← HC1.out, ← HW1.out]
  go_wp2_with fail
  rw [← HC2.out, ← HW2.out]
  refine CP.out.mono ?_
  rintro e w3 ⟨v3, S, rfl, hs3, hr3, hb3⟩
  have B3 := hidP (step_below B2.out hb3)
  have HS3 : Hid (∀ w4, Below w3.heap.size w3 w4 → SeesI w4 v3 S) := fun w4 h => SeesI.below hs3 h
  have HSr := hidP hr3
  have hSl : S.length ≤ n := by have := hr3.lt; have h2 : (nf q F).length = F.length := HM.out.dg; have := HFn.out; omega
  have HX0 : Hid (∃ X, SeesI w3 (.slice (some ⟨w.heap.size + 1, 0, none⟩) 1 c1) X ∧ XIs q F 0 n X) := ⟨[1], SeesI.below HX2.out hb3, XIs.start HQ.out hn1⟩
  have HM0 : Hid (∃ G m, MatS w3.heap.size w3 (.slice none 0 0) 0 n G m ∧ ∀ j, j < 0 → RowIs q F j n (m j)) := ⟨_, _, MatS.nil _ _ _ (fun _ => 0) (fun _ _ => 0), fun j h => by omega⟩
  have HB30 : Hid (Below w3.heap.size w3 w3) := Below.refl _ _
  clear hs3 hr3 hb3 CP HX2 HW1 HC1 HW2 HC2 B1 B2
  go_wp2_with fail
  go_loopw [6, 7, 11, 12, 13] (fun v6 v7 v11 v12 v13 wr => ∃ i : Nat, v11 = .int .i64 i ∧ i ≤ n ∧ Hid (∃ G m, MatS w3.heap.size wr v6 i n G m ∧ ∀ j, j < i → RowIs q F j n (m j)) ∧ Hid (∃ X, SeesI wr v7 X ∧ XIs q F i n X) ∧ Hid (Below w3.heap.size w3 wr)) (fun _ _ v11 _ _ _ => n - (intOf v11).toNat)
  case atStart => exact ⟨0, by go_num, Nat.zero_le _, HM0, HX0, HB30⟩
  case round =>
    clear HX0 HM0 HB30
    obtain ⟨wo, rfl⟩ : ∃ wo, wo = wr := ⟨_, rfl⟩
    obtain ⟨i, rfl, hi, hMt, hX, hB⟩ := hrel
    by_cases hlt : i < n
    · obtain ⟨G, m, g1, g2⟩ := hMt.out
      obtain ⟨X, x1, x2⟩ := hX.out
      have HG2 := hidP g2
      have HX2 := hidP x2
      have hXl := x2.len
      have HX1 : Hid (∀ w4, Below wo.heap.size wo w4 → SeesI w4 u7 X) := fun w4 h => SeesI.below x1 h
      have HG1 : Hid (∀ w4, Below wo.heap.size wo w4 → MatS w3.heap.size w4 u6 i n G m) := fun w4 h => g1.below h
      obtain ⟨ax, cx, rfl, hcx⟩ := SeesF.form x1
      have HXb := hidP hB.out.size
      have HGne : Hid (u6.ownBlock ≠ some wo.heap.size ∧ ∀ j, j < i → G j ≠ wo.heap.size) := ⟨fun e => by have := (g1.own.lt _ e).2; omega, fun j hj => by have := g1.lt hj; omega⟩
      have hlt2 : (i : Int) < (n : Int) := by omega
      have hk1 : IntKind.i64.wrap ((i : Int) + 1) = (i : Int) + 1 := by rw [IntKind.wrap_i64]; omega
      have hmk := run_make_row' (P := Try.prog) 22 3 (.int .i64 0) 8 Try.underlying22 info_int rfl .i64 .i64 n (by omega) (by omega)
      obtain ⟨gN, hgN⟩ : ∃ gN, gN = wo.heap.size := ⟨_, rfl⟩
      have HgN := hidP hgN
      obtain ⟨Y, hY⟩ : ∃ Y, Y = wo.alloc (.cells (madeCells #[.int .i64 0] n) 3) := ⟨_, rfl⟩
      have HY := hidP hY
      have HF0 : Hid (FillTo Y gN n X 0) := ⟨List.replicate n 0, by rw [hY, hgN]; exact RowW.made wo n, List.length_replicate, fun j hj => by rw [if_neg (by omega), List.getD_eq_getElem?_getD, List.getElem?_replicate, if_pos hj]; rfl⟩
      have HYb : Hid (Below gN wo Y) := by show Below _ _ _; rw [hY, hgN]; exact (Below.refl _ wo).alloc (Nat.le_refl _) _
      obtain ⟨lX, hlX⟩ : ∃ lX, X.length = lX := ⟨_, rfl⟩
      have HlX := hidP hlX
      rw [hlX] at HX1 hXl
      rw [← hgN] at HGne HXb HX1 HG1
      rw [hlX]
      clear hMt hX g1 g2 x1 x2 hcx hgN hY hlX
      go_wp2_with fail
      rw [← HgN.out, ← HY.out]
      clear hmk
      go_loopw [13] (fun v13 wy => ∃ k : Nat, v13 = .int .i64 k ∧ k ≤ lX ∧ Hid (FillTo wy gN n X k) ∧ Hid (Below gN wo wy)) (fun v13 _ => lX - (intOf v13).toNat)
      case atStart => exact ⟨0, by go_num, Nat.zero_le _, HF0, HYb⟩
      case round =>
        clear HF0 HYb
        obtain ⟨k, rfl, hk, hFt, hBy⟩ := hrel
        obtain ⟨l, l1, l2, l3⟩ := hFt.out
        by_cases hk2 : k < lX
        · have hc := (HX1.out wr hBy.out)
          rw [← HlX.out] at hc
          obtain ⟨b1, o1, rfl, hc1'⟩ := SeesI.at hc (by have := HlX.out; omega)
          have hc1 := hc1' k (by have := HlX.out; omega)
          have hr := l1.cell (i := k) (by omega)
          have hfz := l1.frozen k
          have HFn2 := hidP (hFt.out.next (k := k) (by omega))
          have HBn : Hid (Below gN wo (wr.setCell ⟨gN, k, none⟩ (.int .i64 (X.getD k 0)))) := hBy.out.setCell (Nat.le_refl _) _
          obtain ⟨x, hx⟩ : ∃ x, X.getD k 0 = x := ⟨_, rfl⟩
          rw [hx] at hc1 HFn2 HBn
          have p1 : (k : Int) < (lX : Int) := by omega
          have p2 : (k : Int) < (n : Int) := by omega
          have z0 : 0 + k = k := Nat.zero_add k
          have hk3 : IntKind.i64.wrap ((k : Int) + 1) = (k : Int) + 1 := by rw [IntKind.wrap_i64]; omega
          clear hc hc1' hx hFt hBy l1 l2 l3
          go_wp2_with fail
          go_roundw
          case rel => exact ⟨k + 1, by go_num, by omega, HFn2, HBn⟩
          case measure => simp [intOf]; omega
        · obtain rfl : k = lX := by omega
          obtain ⟨y, hy⟩ : ∃ y, X.getD i 0 = y := ⟨_, rfl⟩
          have hy0 : 0 ≤ y ∧ y < (q : Int) := by rw [← hy]; exact HX2.out.pl.1 i
          have hly : l.getD i 0 = y := by
            rw [l3 i hlt]
            by_cases e : i < k
            · rw [if_pos e, hy]
            · rw [if_neg e, ← hy, getD_over' X i (by have := HlX.out; omega)]
          have hr := l1.cell (i := i) (by omega)
          rw [hly] at hr
          have hfz := l1.frozen i
          have hwy : IntKind.i64.wrap (y - 1) = y - 1 := by rw [IntKind.wrap_i64]; omega
          obtain ⟨z, hz⟩ : ∃ z, (y - 1) % (q : Int) = z := ⟨_, rfl⟩
          obtain ⟨W5, hW5⟩ : ∃ W5, W5 = wr.setCell ⟨gN, i, none⟩ (.int .i64 z) := ⟨_, rfl⟩
          have HW5 := hidP hW5
          have hB5 : Below gN wo W5 := by rw [hW5]; exact hBy.out.setCell (Nat.le_refl _) _
          have hM5 : MatS w3.heap.size W5 u6 i n G m := by
            rw [hW5]; exact (HG1.out wr hBy.out).other _ HGne.out.1 HGne.out.2
          have hR5 : RowW W5 gN (l.set i z) := by rw [hW5]; exact l1.set (by omega) z
          have hl5 : ∀ k', k' < n → (l.set i z).getD k' 0 = if k' = i then (X.getD i 0 - 1) % (q : Int) else X.getD k' 0 := fun k' hk' => by
            rw [getD_setG, l2]
            by_cases e : i = k'
            · subst e; rw [if_pos ⟨rfl, hk'⟩, if_pos rfl, hy, hz]
            · rw [if_neg (fun z => e z.1), if_neg (fun z => e z.symm), l3 k' hk']
              by_cases e2 : k' < k
              · rw [if_pos e2]
              · rw [if_neg e2, getD_over' X k' (by have := HlX.out; omega)]
          have hbA : Below W5.heap.size W5 (W5.alloc (.cells #[.slice (some ⟨gN, 0, none⟩) n n] 22)) := (Below.refl _ W5).alloc (Nat.le_refl _) _
          have hMA := hM5.below hbA
          have hRA := hR5.below hbA
          have hXA := (HX1.out W5 hB5).below hbA
          have HXA := hidP hXA
          have HOA := hidP hMA.own
          have HSA := hidP hMA.slices
          have HAA := hidP hMA.all
          have hz5 : W5.heap.size = wr.heap.size := by rw [hW5]; exact heap_size_set _ _ _
          have hnw := news_sl W5 (.slice (some ⟨gN, 0, none⟩) n n)
          rw [hz5] at hnw
          have HNw := hidP hnw
          have hwo : gN ≤ W5.heap.size := by have := hB5.size; have := HgN.out; omega
          have hge : w3.heap.size ≤ gN := by have := hB.out.size; have := HgN.out; omega
          have HSzA : Hid (w3.heap.size ≤ (W5.alloc (.cells #[.slice (some ⟨gN, 0, none⟩) n n] 22)).heap.size) := by show _ ≤ _; simp; omega
          have HBA : Hid (Below w3.heap.size w3 (W5.alloc (.cells #[.slice (some ⟨gN, 0, none⟩) n n] 22))) := (hB.out.trans (hB5.mono hge)).alloc (by omega) _
          have HApp : Hid (∀ v' w', w'.ownsRow w3.heap.size 22 1 v' (i + 1) (((List.range i).map fun j => Value.slice (some ⟨G j, 0, none⟩) n n) ++ [.slice (some ⟨gN, 0, none⟩) n n]) → (W5.alloc (.cells #[.slice (some ⟨gN, 0, none⟩) n n] 22)).grownBy w' u6.ownBlock → AllSl w' v' → (v'.ownBlock = u6.ownBlock ∨ ∃ g, v'.ownBlock = some g ∧ (W5.alloc (.cells #[.slice (some ⟨gN, 0, none⟩) n n] 22)).heap.size ≤ g) → ∃ G' m', MatS w3.heap.size w' v' (i + 1) n G' m' ∧ ∀ j, j < i + 1 → RowIs q F j n (m' j)) := fun v' w' h1 h2 h3 h4 => by
            refine ⟨fun j => if j = i then gN else G j, fun j k => if j = i then (l.set i z).getD k 0 else m j k, ?_, fun j hj => ?_⟩
            · exact MatS.push hMA hRA (by simpa using l2) hge HGne.out.1 HGne.out.2 h1 h2 h3 h4 (fun j hj => if_neg (by omega)) (if_pos rfl) (fun j k hj => if_neg (by omega)) (fun k hk => if_pos rfl)
            · by_cases e : j = i
              · subst e
                have : (fun k => if j = j then (l.set j z).getD k 0 else m j k) = fun k => (l.set j z).getD k 0 := by funext k; rw [if_pos rfl]
                show RowIs q F j n (fun k => if j = j then (l.set j z).getD k 0 else m j k)
                rw [this]
                exact HX2.out.row HQ.out hlt (fun k hk => hl5 k hk)
              · have : (fun k => if j = i then (l.set i z).getD k 0 else m j k) = m j := by funext k; rw [if_neg e]
                show RowIs q F j n (fun k => if j = i then (l.set i z).getD k 0 else m j k)
                rw [this]
                exact HG2.out j (by omega)
          have p2 : (i : Int) < (n : Int) := by omega
          have p3 : ¬ (k : Int) < (k : Int) := by omega
          have z0 : 0 + i = i := Nat.zero_add i
          have Hz := hidP hz
          have hLi : i + 1 ≤ 100 := by omega
          clear hnw hz5 hFt hBy l1 l2 l3 hy hly hW5 hB5 hM5 hR5 hl5 hbA hMA hRA hXA hwo hge hy0 hz HG1 HX1 HGne HG2
          go_wp2_with fail
          refine (CR.out _ _).mono ?_
          rintro e wx ⟨rfl, rfl⟩
          rw [Hz.out]
          go_wp2_with (at_builtin; rw [← HW5.out]; refine wpList_append_sl rfl _ _ 25 rfl w3.heap.size 22 i0 24 Try.underlying25 HI.out HI0.out HI1.out HI2.out u6 i _ rfl HOA.out HSA.out HAA.out ⟨wr.heap.size, 0, none⟩ 1 1 [.slice (some ⟨gN, 0, none⟩) n n] rfl rfl HNw.out ?qc1 ?qc2 ?qc3 HSzA.out ?_)
          case qc1 => intro u hu; rw [List.mem_singleton] at hu; subst hu; exact ⟨_, _, _, rfl⟩
          case qc2 => unfold maxLen; omega
          case qc3 => omega
          · intro v' w6 h1 h2 h3 h4
            have HN6 := hidP (HApp.out v' w6 h1 h2 h3 (by
              rcases h4 with h | ⟨g, e, h⟩
              · exact Or.inl h
              · exact Or.inr ⟨g, e, by simpa using h⟩))
            have HX6 := hidP (SeesI.grownSl HXA.out HAA.out h2)
            have B6 : Hid (Below w3.heap.size w3 w6) := HBA.out.grown h2 HSzA.out (fun j e => (HOA.out.lt j e).1)
            have hxl : X.length ≤ 60 := by have := HlX.out; omega
            have hsl : S.length ≤ 60 := by omega
            have CM := hidP (ref_Mul HX6.out (HS3.out w6 B6.out) (by omega) (by omega) HQ.out)
            have hml : (nf q (pmul X S)).length ≤ 200 := Nat.le_trans (len_nf (len_mul hxl hsl)) (by omega)
            clear h1 h2 h3 h4 HApp HXA HAA HOA HSA HNw HSzA HBA HX6
            go_wp2_with fail
            refine CM.out.mono ?_
            rintro e w7 ⟨v7, rfl, hs7, hb7⟩
            have B7 := hidP (step_below B6.out hb7)
            have HN7 : Hid (∃ G' m', MatS w3.heap.size w7 v' (i + 1) n G' m' ∧ ∀ j, j < i + 1 → RowIs q F j n (m' j)) := by
              obtain ⟨G', m', a1, a2⟩ := HN6.out
              exact ⟨G', m', a1.below hb7, a2⟩
            have CX := hidP (ref_Rest hs7 (HF.out w7 (step_below B3.out B7.out)) (by omega) (by have := HFn.out; omega) HQ.out HM.out.nf_ne)
            clear hs7 hb7 CM HN6
            go_wp2_with fail
            refine CX.out.mono ?_
            rintro e w8 ⟨v8, Q, R, rfl, hs8, hd8, hb8⟩
            have B8 := hidP (step_below B7.out hb8)
            have HN8 : Hid (∃ G' m', MatS w3.heap.size w8 v' (i + 1) n G' m' ∧ ∀ j, j < i + 1 → RowIs q F j n (m' j)) := by
              obtain ⟨G', m', a1, a2⟩ := HN7.out
              exact ⟨G', m', a1.below hb8, a2⟩
            have HX8 : Hid (∃ X, SeesI w8 v8 X ∧ XIs q F (i + 1) n X) := ⟨R, hs8, HX2.out.next HQ.out HFn.out HM.out HSr.out hd8⟩
            clear hs8 hd8 hb8 CX HN7
            go_wp2_with fail
            go_roundw
            case rel => exact ⟨i + 1, by go_num, by omega, HN8, HX8, B8⟩
            case measure => simp [intOf]; omega
    · obtain rfl : i = n := by omega
      have HR : Hid (RowsTells q F i w (.returned u6) wo) := by
        obtain ⟨G, m, g1, g2⟩ := hMt.out
        exact ⟨_, G, m, rfl, g1.mono B3.out.size, g2, step_below B3.out hB.out⟩
      have p3 : ¬ (i : Int) < (i : Int) := by omega
      clear hMt hX
      go_wp2_with fail
      go_ret
      exact HR.out
end Go.Proofs.Ytokdcgmjpnanoaa
