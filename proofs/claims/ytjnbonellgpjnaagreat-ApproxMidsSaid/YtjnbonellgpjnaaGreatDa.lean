/- The document's den, Neg, Sign of layer 3; the plain form is plain. -/
import Derived.Test.YtjnbonellgpjnaaGreatKQ
import Derived.Test.YtjnbonellgpjnaaGreatKW
import Derived.Test.YtjnbonellgpjnaaGreatKL
import Derived.Deep.RegionHeld3
set_option linter.unusedVariables false
set_option linter.unusedSimpArgs false
namespace Go.Proofs.YtjnbonellgpjnaaGreat
open Go.RowKit

theorem field_num (b : Bool) (p q : Option Addr) (i j k l : Nat) : ∀ w : World, (Instr.field 26 (.agg #[.bool b, .slice p i j, .slice q k l]) 0).run Tryz.prog w = .ok (.agg #[.bool b, .slice p i j]) w := fun _ => by kernel_rfl
theorem atWorld {J : World → Prop} {W : World} (S : World → Prop) (h : S W) (k : ∀ w', S w' → J w') : J W := k W h
theorem qden_ne (z : Int) (d : Nat) : qden z d ≠ 0 := by
  unfold qden
  split
  · decide
  · rename_i h
    have := Nat.div_pos (Nat.le_of_dvd (by omega) (Nat.gcd_dvd_right z.natAbs d)) (Nat.gcd_pos_of_pos_right _ (by omega))
    omega
theorem q_cop (z : Int) (d : Nat) : Nat.gcd (qnum z d).natAbs (qden z d) = 1 := by
  unfold qnum qden
  split
  · simp
  · rename_i h
    rw [Int.natAbs_ediv_of_dvd (Int.ofNat_dvd_left.2 (Nat.gcd_dvd_left _ _)), Int.natAbs_natCast]
    exact Nat.coprime_div_gcd_div_gcd (Nat.gcd_pos_of_pos_right _ (by omega))
theorem qnum_plain (z : Int) (d : Nat) : qnum (qnum z d) (qden z d) = qnum z d := by
  rw [qnum_pos (qden_ne z d), q_cop]; simp
theorem qden_plain (z : Int) (d : Nat) : qden (qnum z d) (qden z d) = qden z d := by
  rw [qden_pos (qden_ne z d), q_cop]; simp
theorem qnum_neg_plain (z : Int) (d : Nat) : qnum (-(qnum z d)) (qden z d) = -(qnum z d) := by
  rw [qnum_pos (qden_ne z d), Int.natAbs_neg, q_cop]; simp
theorem qden_neg_plain (z : Int) (d : Nat) : qden (-(qnum z d)) (qden z d) = qden z d := by
  rw [qden_pos (qden_ne z d), Int.natAbs_neg, q_cop]; simp
theorem qnum_abs (z : Int) (d : Nat) : (qnum z d).natAbs ≤ z.natAbs := by
  unfold qnum
  split
  · simp
  · rw [Int.natAbs_ediv_of_dvd (Int.ofNat_dvd_left.2 (Nat.gcd_dvd_left _ _))]
    exact Nat.div_le_self _ _
theorem qden_leD (z : Int) (d : Nat) : qden z d ≤ max 1 d := by
  unfold qden
  split
  · omega
  · have := Nat.div_le_self d (Nat.gcd z.natAbs d); omega
theorem qnum_len {n : Bool} {l : List Nat} (h : Ok l) (d : Nat) : (zlim (qnum (zval n l) d)).length ≤ l.length := by
  refine limbs_length_le (Nat.lt_of_le_of_lt (qnum_abs _ d) ?_)
  rw [zval_abs]; exact val_lt h
theorem qden_len {m : List Nat} (h : Ok m) (z : Int) : (limbs (qden z (val m))).length ≤ m.length + 1 := by
  refine limbs_length_le (Nat.lt_of_le_of_lt (qden_leD z _) ?_)
  have h1 := val_lt h
  have h2 : 0 < 4294967296 ^ m.length := Nat.pow_pos (by decide)
  rw [Nat.pow_succ]
  generalize 4294967296 ^ m.length = P at *
  omega
theorem zlim_mul {A B : Int} {m n : Nat} (hA : (zlim A).length ≤ m) (hB : (zlim B).length ≤ n) : (zlim (A * B)).length ≤ m + n := by
  refine limbs_length_le ?_
  have a1 := Nat.lt_of_lt_of_le (val_lt (zlim_ok A)) (Nat.pow_le_pow_right (by decide : 0 < 4294967296) hA)
  have a2 := Nat.lt_of_lt_of_le (val_lt (zlim_ok B)) (Nat.pow_le_pow_right (by decide : 0 < 4294967296) hB)
  rw [val_zlim] at a1 a2
  rw [Int.natAbs_mul, Nat.pow_add]
  exact Nat.mul_lt_mul'' a1 a2
theorem zlim_add {A B : Int} {m : Nat} (hA : (zlim A).length ≤ m) (hB : (zlim B).length ≤ m) : (zlim (A + B)).length ≤ m + 1 := by
  refine limbs_length_le ?_
  have a1 := Nat.lt_of_lt_of_le (val_lt (zlim_ok A)) (Nat.pow_le_pow_right (by decide : 0 < 4294967296) hA)
  have a2 := Nat.lt_of_lt_of_le (val_lt (zlim_ok B)) (Nat.pow_le_pow_right (by decide : 0 < 4294967296) hB)
  rw [val_zlim] at a1 a2
  rw [Nat.pow_succ]
  generalize 4294967296 ^ m = P at *
  omega
theorem limbs_mul {A B : Nat} {m n : Nat} (hA : (limbs A).length ≤ m) (hB : (limbs B).length ≤ n) : (limbs (A * B)).length ≤ m + n := by
  refine limbs_length_le ?_
  have a1 := Nat.lt_of_lt_of_le (val_lt (limbs_ok A)) (Nat.pow_le_pow_right (by decide : 0 < 4294967296) hA)
  have a2 := Nat.lt_of_lt_of_le (val_lt (limbs_ok B)) (Nat.pow_le_pow_right (by decide : 0 < 4294967296) hB)
  rw [val_limbs] at a1 a2
  rw [Nat.pow_add]
  exact Nat.mul_lt_mul'' a1 a2
theorem qnum_lenD (z : Int) (d : Nat) : (zlim (qnum z d)).length ≤ (zlim z).length := by
  refine limbs_length_le (Nat.lt_of_le_of_lt (qnum_abs z d) ?_)
  have := val_lt (zlim_ok z); rwa [val_zlim] at this
theorem qden_lenD (z : Int) (d : Nat) : (limbs (qden z d)).length ≤ (limbs d).length + 1 := by
  refine limbs_length_le (Nat.lt_of_le_of_lt (qden_leD z d) ?_)
  have h1 := val_lt (limbs_ok d)
  rw [val_limbs] at h1
  have h2 : 0 < 4294967296 ^ (limbs d).length := Nat.pow_pos (by decide)
  rw [Nat.pow_succ]
  generalize 4294967296 ^ (limbs d).length = P at *
  omega
theorem q_crossD (z : Int) {d : Nat} (h : d ≠ 0) : qnum z d * (d : Int) = z * (qden z d : Int) := by
  rw [qnum_pos h, qden_pos h]
  have h1 : ((Nat.gcd z.natAbs d : Nat) : Int) ∣ z := Int.ofNat_dvd_left.2 (Nat.gcd_dvd_left _ _)
  obtain ⟨c, hc⟩ := Nat.gcd_dvd_right z.natAbs d
  have hg : Nat.gcd z.natAbs d ≠ 0 := by intro e; rw [e] at hc; simp at hc; exact h hc
  obtain ⟨k, hk⟩ := h1
  have e1 : z / ((Nat.gcd z.natAbs d : Nat) : Int) = k := Int.ediv_eq_of_eq_mul_right (by omega) hk
  have e2 : d / Nat.gcd z.natAbs d = c := Nat.div_eq_of_eq_mul_right (by omega) hc
  rw [e1, e2]
  generalize Nat.gcd z.natAbs d = G at *
  rw [hk, hc, Int.natCast_mul, ← Int.mul_assoc, Int.mul_comm k]

theorem Blk.st {w : World} {g : Nat} {a b c : Value} (h : Blk w g #[a, b, c]) (x y z : Value) : Blk (((w.setCell ⟨g, 0, none⟩ x).setCell ⟨g, 1, none⟩ y).setCell ⟨g, 2, none⟩ z) g #[x, y, z] := st3_blk h x y z
theorem Blk.sto {w : World} {g k : Nat} {cs : Array Value} (h : Blk w g cs) (hne : g ≠ k) (x y z : Value) : Blk (((w.setCell ⟨k, 0, none⟩ x).setCell ⟨k, 1, none⟩ y).setCell ⟨k, 2, none⟩ z) g cs := h.grown (st3_grown w k x y z) hne
theorem IsQ.st {w : World} {v : Value} {z : Int} {d : Nat} (h : IsQ w v z d) {g : Nat} {n0 : Bool} {p q : Option Addr} {i j k l : Nat} (hy : Blk w g #[.bool n0, .slice p i j, .slice q k l]) (x y u : Value) : IsQ (((w.setCell ⟨g, 0, none⟩ x).setCell ⟨g, 1, none⟩ y).setCell ⟨g, 2, none⟩ u) v z d := by
  obtain ⟨m, v', rfl, hm, hu⟩ := h
  exact ⟨m, v', rfl, hm.store hy (NoInt.three _ _ _ _ _ _ _) (st3_grown ..), hu.store hy (NoInt.three _ _ _ _ _ _ _) (st3_grown ..)⟩
theorem below_st {w W : World} {g : Nat} (h : Below w.heap.size w W) (hg : w.heap.size ≤ g) (x y z : Value) : Below w.heap.size w (((W.setCell ⟨g, 0, none⟩ x).setCell ⟨g, 1, none⟩ y).setCell ⟨g, 2, none⟩ z) := h.grown (st3_grown W g x y z) h.size (fun k e => by simp at e; omega)

theorem cellsQ {w : World} {g k : Nat} {a b c d e f : Value} (h : Blk w g #[a, b, c]) (i : Blk w k #[d, e, f]) : w.cell? ⟨g, 0, none⟩ = some a ∧ w.cell? ⟨g, 1, none⟩ = some b ∧ w.cell? ⟨g, 2, none⟩ = some c ∧ w.cell? ⟨k, 0, none⟩ = some d ∧ w.cell? ⟨k, 1, none⟩ = some e ∧ w.cell? ⟨k, 2, none⟩ = some f :=
  ⟨h.open3.1, h.open3.2.1, h.open3.2.2.1, i.open3.1, i.open3.2.1, i.open3.2.2.1⟩
theorem IsQ.num {w : World} {b : Bool} {ao : Option Addr} {la ca : Nat} {u : Value} {z : Int} {d : Nat} (h : IsQ w (.agg #[.bool b, .slice ao la ca, u]) z d) : SeesZ w (.agg #[.bool b, .slice ao la ca]) (zneg z) (zlim z) ∧ Sees w u (limbs d) := by
  obtain ⟨m, v, e, hm, hu⟩ := h
  simp only [Value.agg.injEq, Array.mk.injEq, List.cons.injEq, and_true] at e
  obtain ⟨e1, e2, e3⟩ := e
  subst e2; subst e3; rw [e1]
  exact ⟨⟨_, rfl, hm⟩, hu⟩


set_option maxRecDepth 100000 in
set_option maxHeartbeats 1000000 in
theorem ref_den {v : Value} {n : Bool} {l d : List Nat} {w : World} (h : SeesQ w v n l d) (hd : d.length ≤ 100000) :
    Calls Tryz.prog 78 #[v] w fun e w' => IsInt w (val d : Int) e w' := by
  obtain ⟨ao, ac, bo, bc, rfl⟩ := h.form
  obtain ⟨y, hy⟩ : ∃ y, y = (w.alloc (.cells #[.bool n, .slice ao l.length ac, .slice bo d.length bc] 26)).alloc (.cells #[.bool false, .slice none 0 0] 24) := ⟨_, rfl⟩
  have b : Below w.heap.size w y := by rw [hy]; exact ((Below.refl _ w).alloc (Nat.le_refl _) _).alloc (by simp) _
  have xA : Blk y w.heap.size #[.bool n, .slice ao l.length ac, .slice bo d.length bc] := by rw [hy]; exact (Blk.new w _ _).alloc _
  have xB : Box y (w.heap.size + 1) (.bool false) (.slice none 0 0) := by
    rw [hy]
    have := Box.new (w.alloc (.cells #[.bool n, .slice ao l.length ac, .slice bo d.length bc] 26)) (.bool false) (.slice none 0 0) 24
    rwa [Deep.nblk_alloc] at this
  obtain ⟨m, u, e0, hm, hu⟩ := h.below b
  simp only [Value.agg.injEq, Array.mk.injEq, List.cons.injEq, and_true, true_and] at e0
  obtain ⟨e4, e5⟩ := e0
  subst e4; subst e5
  have HC := hid (ref_make false hu (by omega) (val d : Int) rfl)
  obtain ⟨gB, e2⟩ : ∃ g, g = w.heap.size + 1 := ⟨_, rfl⟩
  obtain ⟨gA, e1⟩ : ∃ g, g = w.heap.size := ⟨_, rfl⟩
  rw [← e2] at xB; rw [← e1] at xA
  have HG : Hid (w.heap.size ≤ gB) := hid (by omega)
  have HY := hid hy.symm; have E1 := hid e1.symm; have E2 := hid e2.symm
  have XB := hid xB; have HBel := hid b
  obtain ⟨a0, a1, a2, -, -, -⟩ := xA.open3
  clear hy b xB e1 e2 h hm hu
  generalize (val d : Int) = z at *
  go_enter Tryz.func78, Tryz.ntmps78
  go_wp2_with fail
  rw [HY.out, E2.out, E1.out]
  refine HC.out.mono ?_
  rintro e w1 ⟨v1, rfl, hz, hb⟩
  have HB1 := hid (HBel.out.trans (hb.mono HBel.out.size)); have XB1 := hid (XB.out.below hb)
  obtain ⟨fo, fc, rfl⟩ := hz.form
  have HZ := hid hz
  obtain ⟨g1, g2, g3⟩ := store_end HB1.out HG.out XB1.out HZ.out
  obtain ⟨c0, c1, f0, f1⟩ := XB1.out.cells
  have hlt := XB1.out.lt
  have HG1 := hid g1
  clear hz hb HZ XB1 HB1 g1 XB HBel a0 a1 a2
  generalize zneg z = bb at *
  generalize zlim z = ll at *
  go_wp2_with fail
  exact bodyPost_ret (v := .agg #[.bool bb, .slice fo ll.length fc]) (by simp [results, Tryz.results78, go_sem, g2, g3]) rfl HG1.out

set_option maxRecDepth 100000 in
set_option maxHeartbeats 1000000 in
theorem ref_signQ {v : Value} {n : Bool} {l d : List Nat} {w : World} (h : SeesQ w v n l d) (hl : l.length ≤ 100000) (hd : d.length ≤ 100000) :
    Calls Tryz.prog 46 #[v] w fun e w' => e = .returned (.int .i64 (sgnI (qnum (zval n l) (val d)))) ∧ Below w.heap.size w w' := by
  have hln := qnum_len (n := n) (l := l) (by obtain ⟨_, _, _, h1, _⟩ := h; exact h1.ok) (val d)
  obtain ⟨ao, ac, bo, bc, rfl⟩ := h.form
  obtain ⟨y, hy⟩ : ∃ y, y = w.alloc (.cells #[.bool n, .slice ao l.length ac, .slice bo d.length bc] 26) := ⟨_, rfl⟩
  have b : Below w.heap.size w y := by rw [hy]; exact (Below.refl _ w).alloc (Nat.le_refl _) _
  have xA : Blk y w.heap.size #[.bool n, .slice ao l.length ac, .slice bo d.length bc] := by rw [hy]; exact Blk.new ..
  have HC := hid (ref_plainQ (h.below b) hl hd)
  obtain ⟨z, hz⟩ : ∃ z, qnum (zval n l) (val d) = z := ⟨_, rfl⟩
  rw [hz] at HC hln ⊢
  generalize qden (zval n l) (val d) = D at *
  obtain ⟨gA, e1⟩ : ∃ g, g = w.heap.size := ⟨_, rfl⟩
  rw [← e1] at xA
  have HY := hid hy.symm; have E1 := hid e1.symm; have HBel := hid b
  obtain ⟨a0, a1, a2, -, -, -⟩ := xA.open3
  clear hy b e1 h hz xA
  go_enter Tryz.func46, Tryz.ntmps46
  go_wp2_with fail
  rw [HY.out, E1.out]
  refine HC.out.mono ?_
  rintro e w1 ⟨v1, rfl, hq, hb⟩
  have HB1 := hid (HBel.out.trans (hb.mono HBel.out.size))
  obtain ⟨co, cc, eo, ec, rfl⟩ := hq.form
  have HS := hid (ref_sign hq.num.1 (by omega))
  rw [zval_plain] at HS
  clear hq hb HC
  have hfd := field_num (zneg z) co eo (zlim z).length cc (limbs D).length ec
  go_wp2_with fail
  refine HS.out.mono ?_
  rintro e w2 ⟨rfl, hb⟩
  have HB2 := hid (HB1.out.trans (hb.mono HB1.out.size))
  clear hb
  go_wp2_with fail
  go_ret
  exact ⟨rfl, HB2.out⟩
end Go.Proofs.YtjnbonellgpjnaaGreat
