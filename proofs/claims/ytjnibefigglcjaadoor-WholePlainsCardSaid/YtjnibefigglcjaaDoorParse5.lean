/- The document's Parse of a number's text. -/
import Derived.Test.YtjnibefigglcjaaDoorParse4
set_option linter.unusedVariables false
set_option linter.unusedSimpArgs false
namespace Go.Proofs.YtjnibefigglcjaaDoor
open Go.RowKit

set_option maxRecDepth 100000 in
set_option maxHeartbeats 3000000 in
theorem ref_parse_ok (t : ByteArray) (w : World) (ht : t.size ≤ 140737488355328) (h0 : 0 < t.size) (h1 : ¬ (let8 t 0 = 48 ∧ 1 < t.size)) (hq : AllDig t t.size ∧ t.size ≤ 10000) :
    Calls Tryd.prog 87 #[.string t] w fun e w' => ∃ v, e = .returned (.tuple #[v, .int .i64 0]) ∧ Sees w' v (limbs (numP t t.size)) ∧ Below w.heap.size w w' := by
  have hE : ¬ t.toList = [] := fun e => by have := size_list t; rw [e] at this; simp at this; omega
  have hE2 : t.toList.isEmpty = false := by rw [List.isEmpty_eq_false_iff]; exact hE
  have hx0 := let8_at t 0 h0
  obtain ⟨x0, hx0e⟩ : ∃ x0, let8 t 0 = x0 := ⟨_, rfl⟩
  rw [hx0e] at hx0 h1
  have HX0 := hid hx0e
  clear hx0e
  have HHYP := hid hq
  obtain ⟨i0, hi0, hz0, hz1, hz2⟩ := info_parts info_u32
  clear hq
  by_cases h48 : x0 = 48
  · have hs1 : t.size = 1 := by omega
    subst h48
    clear h1
    go_enter Tryd.func87, Tryd.ntmps87
    go_wp2
    go_loop [4] (fun v => ∃ k : Nat, k ≤ t.size ∧ v = .int .i64 k ∧ Hid (AllDig t k)) (fun v => t.size - (intOf v).toNat)
    case atStart => exact ⟨0, Nat.zero_le _, rfl, fun i hi => absurd hi (by omega)⟩
    case round =>
      obtain ⟨k, hk, rfl, hd⟩ := hrel
      by_cases hks : k < t.size
      · have hx := let8_at t k hks
        have hxl := let8_lt t k
        have hall := hd.out.succ
        have HALL := hid hall
        obtain ⟨x, hxe⟩ : ∃ x, let8 t k = x := ⟨_, rfl⟩
        rw [hxe] at hx hxl HALL
        have HXE := hid hxe
        clear hxe hall
        by_cases hlo : x < 48
        · exact absurd (HHYP.out.1 k hks).1 (by have := HXE.out; omega)
        · by_cases hhi : 57 < x
          · exact absurd (HHYP.out.1 k hks).2 (by have := HXE.out; omega)
          · have HD := hid (HALL.out (by omega) (by omega))
            go_wp2
            go_round
            case rel => exact ⟨k + 1, by omega, by go_num, HD⟩
            case measure => simp [intOf]; omega
      · obtain rfl : k = t.size := by omega
        try clear hs1
        have hlong : ¬ 10000 < t.size := by have := HHYP.out.2; omega
        have hall := HHYP.out.1
        have HD := hid hall
        clear hd hall hk
        go_wp2
        go_loopw [5, 6] (fun v5 v6 wr => ∃ (i n : Nat) (a : List Nat), i ≤ t.size ∧ v6 = .int .i64 i ∧ n ≤ i ∧ Hid (limbs (numP t i) = a) ∧ Hid (wr.ownsRow w.heap.size 57 1 v5 n (enc a)) ∧ Hid (Below w.heap.size w wr)) (fun _ v _ => t.size - (intOf v).toNat)
        case atStart => exact ⟨0, 0, [], Nat.zero_le _, rfl, Nat.le_refl _, rfl, World.ownsRow_nil _ _ _ _, Below.refl _ _⟩
        case round =>
          obtain ⟨i, n, a, hi, rfl, hn, hav, hown, hbel⟩ := hrel
          rename World => wo
          by_cases hlt : i < t.size
          · have hx := let8_at t i hlt
            have hdig := HD.out i hlt
            obtain ⟨x, hxe⟩ : ∃ x, let8 t i = x := ⟨_, rfl⟩
            rw [hxe] at hx hdig
            obtain ⟨hd1, hd2⟩ := hdig
            obtain ⟨y, hy⟩ : ∃ y, y = x - 48 := ⟨_, rfl⟩
            have ey : (x : Int) - 48 = (y : Int) := by omega
            have hy9 : y ≤ 9 := by omega
            have HNUM : Hid (numP t (i + 1) = numP t i * 10 + y) := by show _ = _; simp only [numP]; rw [hxe, hy]
            clear hxe hy
            obtain ⟨A, cap, rfl, hA⟩ := owns_shape hown.out
            have HAS := hid hA
            have hal : a.length = n := by have := hown.out.1; rw [enc_length] at this; omega
            have HAL := hid hal
            have hok : Ok a := by rw [← hav.out]; exact limbs_ok _
            have HOK := hid hok
            have H0 := hid (TimesTo.start hok 10 y (by omega))
            clear hA hal hok
            go_wp2
            go_loopw [7, 8] (fun v7 v8 wr => ∃ (k c : Nat) (b : List Nat), k ≤ n ∧ v8 = .int .i64 k ∧ v7 = .int .u64 c ∧ c < 4294967296 ∧ Hid (TimesTo a 10 y k b c) ∧ Hid (wr.ownsRow w.heap.size 57 1 (.slice A n cap) n (enc b)) ∧ Hid (Below w.heap.size w wr)) (fun _ v _ => n - (intOf v).toNat)
            case atStart => exact ⟨0, y, a, Nat.zero_le _, rfl, rfl, by omega, H0, hown, hbel⟩
            case round =>
              obtain ⟨k, c, b, hk, rfl, rfl, hc1, ha, hown2, hbel2⟩ := hrel
              have hbl := Eq.trans ha.out.part.len HAL.out
              by_cases hkn : k < n
              · obtain ⟨g, rfl⟩ := HAS.out (by omega)
                obtain ⟨hrow, hgb, hnl, hnc, hcm⟩ := Row.of_owns hown2.out
                have hca := hrow.cell (i := k) (by omega)
                have hfr := hrow.frozen k
                have hox := ha.out.part.ok.getD k
                have hsame := ha.out.part.out k (.inr (by omega))
                have hstep := ha.out.step (by have := HAL.out; omega)
                rw [← hsame] at hstep
                have HST := hid hstep
                have hst := fun u => hown2.out.stored k u
                have HSTO := hid hst
                clear hstep hsame hrow hst
                generalize b.getD k 0 = u at *
                obtain ⟨T, hT⟩ : ∃ T, T = c + u * 10 := ⟨_, rfl⟩
                have e2 : (c : Int) + (u : Int) * 10 = (T : Int) := by omega
                obtain ⟨z, d, hz, hd, hzd, em, ed⟩ : ∃ z d : Nat, z < 4294967296 ∧ d < 4294967296 ∧ Hid (u * 10 + c = z + 4294967296 * d) ∧ (T : Int) % 4294967296 = (z : Int) ∧ (T : Int) / 4294967296 = (d : Int) :=
                  ⟨T % 4294967296, T / 4294967296, by omega, by omega, by show _ = _; omega, by omega, by omega⟩
                have HStep := hid (HST.out z d hz hd hzd.out)
                have hx1 := HSTO.out (.int .u32 (z : Nat))
                rw [enc_set'] at hx1
                have HX1 := hid hx1.1
                have HX2 := hid (hbel2.out.setCell (p := ⟨g, k, none⟩) hgb (.int .u32 (z : Nat)))
                have hTl : T < 18446744073709551616 := by omega
                have HT := hid hT
                clear hT HST hzd hx1 HSTO hnl hbl ha hown2
                go_wp2
                go_roundw
                case rel => exact ⟨k + 1, d, b.set k z, by omega, by go_num, by first | rfl | rw [ed], hd, HStep, HX1, HX2⟩
                case measure => simp [intOf]; omega
              · obtain rfl : k = n := by omega
                have hal := HAL.out
                have hfin := ha.out
                rw [← hal, ← hav.out] at hfin
                have hlim := times_limbs hfin (fun _ => trivial)
                rw [← HNUM.out] at hlim
                have HLIM := hid hlim
                by_cases hc : 0 < c
                · have hnews : ∀ j u, (enc [c])[j]? = some u → (wr.alloc (.cells #[.int .u32 (c : Nat)] 57)).cell? ((⟨wr.heap.size, 0, none⟩ : Addr).add j) = some u :=
                    (sees_lit wr [c] (Ok.cons hc1 Ok.nil) (by simp)).news
                  have HN := hid hnews; have HW := hid hown2.out.lt
                  clear hnews hlim hfin hal hbl ha
                  go_wp2_with (at_builtin; refine wpList_append_own _ rfl _ _ 22 rfl w.heap.size 57 i0 (.int .u32 0) 1 4 Tryd.underlying22 hi0 hz0 hz1 hz2 rfl (by decide) _ _ _ rfl (hown2.out.alloc _) ⟨wr.heap.size, 0, none⟩ 1 1 (enc [c]) rfl ?ga1 ?gb1 ?gc1 ?gd1 ?ge1 ?gf1 ?_)
                  case ga1 => simp [enc_length]
                  case gb1 => exact HN.out
                  case gc1 => exact enc_one _
                  case gd1 => unfold maxLen; omega
                  case ge1 => omega
                  case gf1 => have := hbel2.out.size; simp; omega
                  intro v' w4 hown4 hgrow _
                  rw [enc_append] at hown4
                  have hb4 : Below w.heap.size w w4 := (hbel2.out.alloc hbel2.out.size _).grown hgrow (by rw [Deep.nblk_alloc]; have := hbel2.out.size; omega) (fun k e => (HW.out k e).1)
                  have HO := hid hown4; have HB4 := hid hb4
                  have HL := hid (HLIM.out.2 hc)
                  clear hown4 hgrow hb4
                  go_wp2
                  go_roundw
                  case rel => exact ⟨i + 1, k + 1, b ++ [c], by omega, by go_num, by omega, HL, HO, HB4⟩
                  case measure => simp [intOf]; omega
                · obtain rfl : c = 0 := by omega
                  have HL := hid (HLIM.out.1 rfl)
                  clear hlim hfin hal hbl ha
                  go_wp2
                  go_roundw
                  case rel => exact ⟨i + 1, k, b, by omega, by go_num, by omega, HL, hown2, hbel2⟩
                  case measure => simp [intOf]; omega
          · obtain rfl : i = t.size := by omega
            have hok : Ok a := by rw [← hav.out]; exact limbs_ok _
            have hal : a.length = n := by have := hown.out.1; rw [enc_length] at this; omega
            have hsee := owns_sees hown.out hok (by omega)
            rw [← hav.out] at hsee
            have HSEE := hid hsee
            clear hsee hal hok
            go_wp2
            go_ret2
            exact ⟨_, rfl, HSEE.out, hbel.out⟩
  · clear h1
    go_enter Tryd.func87, Tryd.ntmps87
    go_wp2
    go_loop [4] (fun v => ∃ k : Nat, k ≤ t.size ∧ v = .int .i64 k ∧ Hid (AllDig t k)) (fun v => t.size - (intOf v).toNat)
    case atStart => exact ⟨0, Nat.zero_le _, rfl, fun i hi => absurd hi (by omega)⟩
    case round =>
      obtain ⟨k, hk, rfl, hd⟩ := hrel
      by_cases hks : k < t.size
      · have hx := let8_at t k hks
        have hxl := let8_lt t k
        have hall := hd.out.succ
        have HALL := hid hall
        obtain ⟨x, hxe⟩ : ∃ x, let8 t k = x := ⟨_, rfl⟩
        rw [hxe] at hx hxl HALL
        have HXE := hid hxe
        clear hxe hall
        by_cases hlo : x < 48
        · exact absurd (HHYP.out.1 k hks).1 (by have := HXE.out; omega)
        · by_cases hhi : 57 < x
          · exact absurd (HHYP.out.1 k hks).2 (by have := HXE.out; omega)
          · have HD := hid (HALL.out (by omega) (by omega))
            go_wp2
            go_round
            case rel => exact ⟨k + 1, by omega, by go_num, HD⟩
            case measure => simp [intOf]; omega
      · obtain rfl : k = t.size := by omega
        try clear hs1
        have hlong : ¬ 10000 < t.size := by have := HHYP.out.2; omega
        have hall := HHYP.out.1
        have HD := hid hall
        clear hd hall hk
        go_wp2
        go_loopw [5, 6] (fun v5 v6 wr => ∃ (i n : Nat) (a : List Nat), i ≤ t.size ∧ v6 = .int .i64 i ∧ n ≤ i ∧ Hid (limbs (numP t i) = a) ∧ Hid (wr.ownsRow w.heap.size 57 1 v5 n (enc a)) ∧ Hid (Below w.heap.size w wr)) (fun _ v _ => t.size - (intOf v).toNat)
        case atStart => exact ⟨0, 0, [], Nat.zero_le _, rfl, Nat.le_refl _, rfl, World.ownsRow_nil _ _ _ _, Below.refl _ _⟩
        case round =>
          obtain ⟨i, n, a, hi, rfl, hn, hav, hown, hbel⟩ := hrel
          rename World => wo
          by_cases hlt : i < t.size
          · have hx := let8_at t i hlt
            have hdig := HD.out i hlt
            obtain ⟨x, hxe⟩ : ∃ x, let8 t i = x := ⟨_, rfl⟩
            rw [hxe] at hx hdig
            obtain ⟨hd1, hd2⟩ := hdig
            obtain ⟨y, hy⟩ : ∃ y, y = x - 48 := ⟨_, rfl⟩
            have ey : (x : Int) - 48 = (y : Int) := by omega
            have hy9 : y ≤ 9 := by omega
            have HNUM : Hid (numP t (i + 1) = numP t i * 10 + y) := by show _ = _; simp only [numP]; rw [hxe, hy]
            clear hxe hy
            obtain ⟨A, cap, rfl, hA⟩ := owns_shape hown.out
            have HAS := hid hA
            have hal : a.length = n := by have := hown.out.1; rw [enc_length] at this; omega
            have HAL := hid hal
            have hok : Ok a := by rw [← hav.out]; exact limbs_ok _
            have HOK := hid hok
            have H0 := hid (TimesTo.start hok 10 y (by omega))
            clear hA hal hok
            go_wp2
            go_loopw [7, 8] (fun v7 v8 wr => ∃ (k c : Nat) (b : List Nat), k ≤ n ∧ v8 = .int .i64 k ∧ v7 = .int .u64 c ∧ c < 4294967296 ∧ Hid (TimesTo a 10 y k b c) ∧ Hid (wr.ownsRow w.heap.size 57 1 (.slice A n cap) n (enc b)) ∧ Hid (Below w.heap.size w wr)) (fun _ v _ => n - (intOf v).toNat)
            case atStart => exact ⟨0, y, a, Nat.zero_le _, rfl, rfl, by omega, H0, hown, hbel⟩
            case round =>
              obtain ⟨k, c, b, hk, rfl, rfl, hc1, ha, hown2, hbel2⟩ := hrel
              have hbl := Eq.trans ha.out.part.len HAL.out
              by_cases hkn : k < n
              · obtain ⟨g, rfl⟩ := HAS.out (by omega)
                obtain ⟨hrow, hgb, hnl, hnc, hcm⟩ := Row.of_owns hown2.out
                have hca := hrow.cell (i := k) (by omega)
                have hfr := hrow.frozen k
                have hox := ha.out.part.ok.getD k
                have hsame := ha.out.part.out k (.inr (by omega))
                have hstep := ha.out.step (by have := HAL.out; omega)
                rw [← hsame] at hstep
                have HST := hid hstep
                have hst := fun u => hown2.out.stored k u
                have HSTO := hid hst
                clear hstep hsame hrow hst
                generalize b.getD k 0 = u at *
                obtain ⟨T, hT⟩ : ∃ T, T = c + u * 10 := ⟨_, rfl⟩
                have e2 : (c : Int) + (u : Int) * 10 = (T : Int) := by omega
                obtain ⟨z, d, hz, hd, hzd, em, ed⟩ : ∃ z d : Nat, z < 4294967296 ∧ d < 4294967296 ∧ Hid (u * 10 + c = z + 4294967296 * d) ∧ (T : Int) % 4294967296 = (z : Int) ∧ (T : Int) / 4294967296 = (d : Int) :=
                  ⟨T % 4294967296, T / 4294967296, by omega, by omega, by show _ = _; omega, by omega, by omega⟩
                have HStep := hid (HST.out z d hz hd hzd.out)
                have hx1 := HSTO.out (.int .u32 (z : Nat))
                rw [enc_set'] at hx1
                have HX1 := hid hx1.1
                have HX2 := hid (hbel2.out.setCell (p := ⟨g, k, none⟩) hgb (.int .u32 (z : Nat)))
                have hTl : T < 18446744073709551616 := by omega
                have HT := hid hT
                clear hT HST hzd hx1 HSTO hnl hbl ha hown2
                go_wp2
                go_roundw
                case rel => exact ⟨k + 1, d, b.set k z, by omega, by go_num, by first | rfl | rw [ed], hd, HStep, HX1, HX2⟩
                case measure => simp [intOf]; omega
              · obtain rfl : k = n := by omega
                have hal := HAL.out
                have hfin := ha.out
                rw [← hal, ← hav.out] at hfin
                have hlim := times_limbs hfin (fun _ => trivial)
                rw [← HNUM.out] at hlim
                have HLIM := hid hlim
                by_cases hc : 0 < c
                · have hnews : ∀ j u, (enc [c])[j]? = some u → (wr.alloc (.cells #[.int .u32 (c : Nat)] 57)).cell? ((⟨wr.heap.size, 0, none⟩ : Addr).add j) = some u :=
                    (sees_lit wr [c] (Ok.cons hc1 Ok.nil) (by simp)).news
                  have HN := hid hnews; have HW := hid hown2.out.lt
                  clear hnews hlim hfin hal hbl ha
                  go_wp2_with (at_builtin; refine wpList_append_own _ rfl _ _ 22 rfl w.heap.size 57 i0 (.int .u32 0) 1 4 Tryd.underlying22 hi0 hz0 hz1 hz2 rfl (by decide) _ _ _ rfl (hown2.out.alloc _) ⟨wr.heap.size, 0, none⟩ 1 1 (enc [c]) rfl ?ga2 ?gb2 ?gc2 ?gd2 ?ge2 ?gf2 ?_)
                  case ga2 => simp [enc_length]
                  case gb2 => exact HN.out
                  case gc2 => exact enc_one _
                  case gd2 => unfold maxLen; omega
                  case ge2 => omega
                  case gf2 => have := hbel2.out.size; simp; omega
                  intro v' w4 hown4 hgrow _
                  rw [enc_append] at hown4
                  have hb4 : Below w.heap.size w w4 := (hbel2.out.alloc hbel2.out.size _).grown hgrow (by rw [Deep.nblk_alloc]; have := hbel2.out.size; omega) (fun k e => (HW.out k e).1)
                  have HO := hid hown4; have HB4 := hid hb4
                  have HL := hid (HLIM.out.2 hc)
                  clear hown4 hgrow hb4
                  go_wp2
                  go_roundw
                  case rel => exact ⟨i + 1, k + 1, b ++ [c], by omega, by go_num, by omega, HL, HO, HB4⟩
                  case measure => simp [intOf]; omega
                · obtain rfl : c = 0 := by omega
                  have HL := hid (HLIM.out.1 rfl)
                  clear hlim hfin hal hbl ha
                  go_wp2
                  go_roundw
                  case rel => exact ⟨i + 1, k, b, by omega, by go_num, by omega, HL, hown2, hbel2⟩
                  case measure => simp [intOf]; omega
          · obtain rfl : i = t.size := by omega
            have hok : Ok a := by rw [← hav.out]; exact limbs_ok _
            have hal : a.length = n := by have := hown.out.1; rw [enc_length] at this; omega
            have hsee := owns_sees hown.out hok (by omega)
            rw [← hav.out] at hsee
            have HSEE := hid hsee
            clear hsee hal hok
            go_wp2
            go_ret2
            exact ⟨_, rfl, HSEE.out, hbel.out⟩
end Go.Proofs.YtjnibefigglcjaaDoor
