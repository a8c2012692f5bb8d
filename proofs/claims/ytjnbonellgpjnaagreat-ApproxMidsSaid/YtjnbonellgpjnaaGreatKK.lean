/- Fractions in memory: a struct of a whole number and a list of limbs; fraction.Sign, Of; the document's Zero, Of. fraction.reduce and what it calls; the document's Zero, Of, over. fraction.part: a whole number divided by a divisor. fraction.reduce, Plain. -/
import Derived.Test.YtjnbonellgpjnaaGreatKG
import Derived.Test.YtjnbonellgpjnaaGreatKD
import Derived.Deep.RegionHeld3
import Derived.Test.YtjnbonellgpjnaaGreatKI
set_option linter.unusedVariables false
set_option linter.unusedSimpArgs false
namespace Go.Proofs.YtjnbonellgpjnaaGreat
open Go.RowKit

/-- A block of cells. -/
def Blk (w : World) (g : Nat) (cs : Array Value) : Prop := ∃ t, w.heap[g]? = some (.cells cs t (0, 0))
/-- No limb among the cells. -/
def NoInt (cs : Array Value) : Prop := ∀ (i : Nat) (x : Int), cs[i]? ≠ some (.int .u32 x)
theorem Blk.new (w : World) (cs : Array Value) (t : TypeId) : Blk (w.alloc (.cells cs t)) w.heap.size cs := ⟨t, Deep.blk_alloc_new w _⟩
theorem Blk.cell {w : World} {g : Nat} {cs : Array Value} (h : Blk w g cs) {i : Nat} {v : Value} (hv : cs[i]? = some v) : w.cell? ⟨g, i, none⟩ = some v := by
  obtain ⟨t, h⟩ := h; simp only [World.cell?, h]; exact hv
theorem Blk.open3 {w : World} {g : Nat} {a b c : Value} (h : Blk w g #[a, b, c]) : w.cell? ⟨g, 0, none⟩ = some a ∧ w.cell? ⟨g, 1, none⟩ = some b ∧ w.cell? ⟨g, 2, none⟩ = some c ∧ w.frozen? ⟨g, 0, none⟩ = false ∧ w.frozen? ⟨g, 1, none⟩ = false ∧ w.frozen? ⟨g, 2, none⟩ = false := by
  obtain ⟨t, h⟩ := h
  refine ⟨?_, ?_, ?_, ?_, ?_, ?_⟩ <;> first | (simp only [World.cell?, h]; rfl) | (simp only [World.frozen?, h]; rfl)
theorem Blk.open2 {w : World} {g : Nat} {a b : Value} (h : Blk w g #[a, b]) : w.cell? ⟨g, 0, none⟩ = some a ∧ w.cell? ⟨g, 1, none⟩ = some b ∧ w.frozen? ⟨g, 0, none⟩ = false ∧ w.frozen? ⟨g, 1, none⟩ = false := by
  obtain ⟨t, h⟩ := h
  refine ⟨?_, ?_, ?_, ?_⟩ <;> first | (simp only [World.cell?, h]; rfl) | (simp only [World.frozen?, h]; rfl)
theorem Blk.lt {w : World} {g : Nat} {cs : Array Value} (h : Blk w g cs) : g < w.heap.size := by
  obtain ⟨t, h⟩ := h; exact (Array.getElem?_eq_some_iff.1 h).1
theorem Blk.below {w w' : World} {g : Nat} {cs : Array Value} (h : Blk w g cs) (hb : Below w.heap.size w w') : Blk w' g cs := by
  have hlt := h.lt
  obtain ⟨t, h⟩ := h
  exact ⟨t, (hb.block g hlt).trans h⟩
theorem Blk.alloc {w : World} {g : Nat} {cs : Array Value} (h : Blk w g cs) (o : Obj) : Blk (w.alloc o) g cs := h.below ((Below.refl _ w).alloc (Nat.le_refl _) o)
theorem Blk.grown {w w' : World} {g k : Nat} {cs : Array Value} (h : Blk w g cs) (hg : w.grownBy w' (some k)) (hne : g ≠ k) : Blk w' g cs := by
  have hlt := h.lt
  obtain ⟨t, h⟩ := h
  exact ⟨t, (hg.block g hlt (by simpa using hne)).trans h⟩
theorem NoInt.three (n : Bool) (a c : Option Addr) (x y z u : Nat) : NoInt #[.bool n, .slice a x y, .slice c z u] := by
  intro i v
  match i with
  | 0 => simp
  | 1 => simp
  | 2 => simp
  | k + 3 => simp
theorem NoInt.two (n : Bool) (a : Option Addr) (x y : Nat) : NoInt #[.bool n, .slice a x y] := by
  intro i v
  match i with
  | 0 => simp
  | 1 => simp
  | k + 2 => simp
/-- A store into a block that holds no limb. -/
theorem Sees.store {w w' : World} {v : Value} {l : List Nat} {g : Nat} {cs : Array Value} (h : Sees w v l) (hb : Blk w g cs) (hn : NoInt cs) (hg : w.grownBy w' (some g)) : Sees w' v l := by
  obtain ⟨ao', cap', rfl, h2, h3, h4, hn0, h5⟩ := h
  refine ⟨ao', cap', rfl, h2, h3, h4, hn0, fun hp => ?_⟩
  obtain ⟨b, o, rfl, hcell⟩ := h5 hp
  refine ⟨b, o, rfl, fun i hi => hg.cell (hcell i hi) ?_⟩
  have hc := hcell i hi
  intro e
  obtain ⟨t, hb⟩ := hb
  simp at e
  subst e
  simp only [World.cell?, hb] at hc
  exact hn _ _ hc

/-- v reads as a fraction: a sign and limbs over limbs. -/
def SeesQ (w : World) (v : Value) (n : Bool) (l d : List Nat) : Prop := ∃ m u, v = .agg #[.bool n, m, u] ∧ Sees w m l ∧ Sees w u d
theorem SeesQ.below {w w' : World} {v : Value} {n : Bool} {l d : List Nat} (h : SeesQ w v n l d) (hb : Below w.heap.size w w') : SeesQ w' v n l d := by
  obtain ⟨m, u, rfl, hm, hu⟩ := h
  exact ⟨m, u, rfl, hm.below hb, hu.below hb⟩
/-- v is the fraction of z and d, as told. -/
def IsQ (w : World) (v : Value) (z : Int) (d : Nat) : Prop := SeesQ w v (zneg z) (zlim z) (limbs d)
theorem IsQ.below {w w' : World} {v : Value} {z : Int} {d : Nat} (h : IsQ w v z d) (hb : Below w.heap.size w w') : IsQ w' v z d := SeesQ.below h hb
theorem IsQ.form {w : World} {v : Value} {z : Int} {d : Nat} (h : IsQ w v z d) : ∃ ao ca bo cb, v = .agg #[.bool (zneg z), .slice ao (zlim z).length ca, .slice bo (limbs d).length cb] := by
  obtain ⟨m, u, rfl, hm, hu⟩ := h
  obtain ⟨ao, cap, rfl, -, -, -, -, -⟩ := hm
  obtain ⟨bo, dap, rfl, -, -, -, -, -⟩ := hu
  exact ⟨_, _, _, _, rfl⟩
theorem SeesQ.form {w : World} {v : Value} {n : Bool} {l d : List Nat} (h : SeesQ w v n l d) : ∃ ao ca bo cb, v = .agg #[.bool n, .slice ao l.length ca, .slice bo d.length cb] := by
  obtain ⟨m, u, rfl, hm, hu⟩ := h
  obtain ⟨ao, cap, rfl, -, -, -, -, -⟩ := hm
  obtain ⟨bo, dap, rfl, -, -, -, -, -⟩ := hu
  exact ⟨_, _, _, _, rfl⟩
/-- The answer is the fraction of z and d. -/
def IsRat (w : World) (z : Int) (d : Nat) (e : Ending) (w' : World) : Prop := ∃ v, e = .returned v ∧ IsQ w' v z d ∧ Below w.heap.size w w'

/-- Three cells stored. -/
def st3 (w : World) (g : Nat) (x y z : Value) : World := ((w.setCell ⟨g, 0, none⟩ x).setCell ⟨g, 1, none⟩ y).setCell ⟨g, 2, none⟩ z
theorem st3_blk {w : World} {g : Nat} {a b c : Value} (h : Blk w g #[a, b, c]) (x y z : Value) : Blk (st3 w g x y z) g #[x, y, z] := by
  obtain ⟨t, h⟩ := h
  refine ⟨t, ?_⟩
  simp [st3, World.setCell, Array.getElem?_modify, h]
theorem st3_grown (w : World) (g : Nat) (x y z : Value) : w.grownBy (st3 w g x y z) (some g) := grownBy_set (grownBy_set (grownBy_set (World.grownBy.refl _ _) _ _) _ _) _ _
/-- The result's cells hold the fraction told. -/
theorem store3 {a w : World} {g : Nat} {n0 : Bool} {p q : Option Addr} {i j k l : Nat} {z : Int} {d : Nat} {x y u : Value}
    (hB : Below a.heap.size a w) (hg : a.heap.size ≤ g) (hy : Blk w g #[.bool n0, .slice p i j, .slice q k l]) (hv : IsQ w (.agg #[x, y, u]) z d) :
    ∃ w', ((w.setCell ⟨g, 0, none⟩ x).setCell ⟨g, 1, none⟩ y).setCell ⟨g, 2, none⟩ u = w' ∧ IsQ w' (.agg #[x, y, u]) z d ∧ Below a.heap.size a w' ∧
      w'.cell? ⟨g, 0, none⟩ = some x ∧ w'.cell? ⟨g, 1, none⟩ = some y ∧ w'.cell? ⟨g, 2, none⟩ = some u := by
  obtain ⟨m, v, e, hm, hu⟩ := hv
  have hb := st3_blk hy x y u
  obtain ⟨k0, k1, k2, -, -, -⟩ := hb.open3
  exact ⟨_, rfl, ⟨m, v, e, hm.store hy (NoInt.three _ _ _ _ _ _ _) (st3_grown ..), hu.store hy (NoInt.three _ _ _ _ _ _ _) (st3_grown ..)⟩, hB.grown (st3_grown ..) hB.size (fun k e => by simp at e; omega), k0, k1, k2⟩
theorem isQ_of {w : World} {z : Int} {d : Nat} {b : Bool} {ao : Option Addr} {la ca : Nat} {u : Value} (hz : IsZ w (.agg #[.bool b, .slice ao la ca]) z) (hd : Sees w u (limbs d)) : IsQ w (.agg #[.bool b, .slice ao la ca, u]) z d := by
  obtain ⟨m, e, hm⟩ := hz
  simp only [Value.agg.injEq, Array.mk.injEq, List.cons.injEq, and_true] at e
  obtain ⟨e1, e2⟩ := e
  subst e2
  rw [e1]
  exact ⟨_, _, rfl, hm, hd⟩

set_option maxHeartbeats 1000000 in
theorem fr_isZero {m : Value} {l : List Nat} {w : World} (h : Sees w m l) :
    Calls Tryz.prog 59 #[m] w fun e w' => e = .returned (.bool (decide (val l = 0))) ∧ w = w' := by
  have hb := bits_zero (val l)
  have HC := hid (nat_bits' h)
  obtain ⟨n, hn⟩ : ∃ n, bitsN (val l) = n := ⟨_, rfl⟩
  rw [hn] at HC hb
  have HB := hid hb
  clear hb hn h
  go_enter Tryz.func59, Tryz.ntmps59
  go_wp2_with fail
  refine HC.out.mono ?_
  rintro e w' ⟨rfl, rfl⟩
  go_wp2
  go_ret
  refine ⟨?_, rfl⟩
  by_cases h : val l = 0
  · have := HB.out.2 h
    simp [h, this]
  · have : ¬ (n : Int) = 0 := fun e => h (HB.out.1 e)
    simp [h]
    omega
theorem bits_one (x : Nat) : ((bitsN x : Nat) : Int) = 1 ↔ x = 1 := by
  unfold bitsN
  by_cases h : x = 0
  · simp [h]
  · rw [if_neg h]
    constructor
    · intro h2
      have : x.log2 = 0 := by omega
      have h3 := Nat.lt_log2_self (n := x)
      rw [this] at h3
      omega
    · intro h2; subst h2; decide
set_option maxHeartbeats 1000000 in
theorem fr_isOne {m : Value} {l : List Nat} {w : World} (h : Sees w m l) :
    Calls Tryz.prog 110 #[m] w fun e w' => e = .returned (.bool (decide (val l = 1))) ∧ w = w' := by
  have hb := bits_one (val l)
  have HC := hid (nat_bits' h)
  obtain ⟨n, hn⟩ : ∃ n, bitsN (val l) = n := ⟨_, rfl⟩
  rw [hn] at HC hb
  have HB := hid hb
  clear hb hn h
  go_enter Tryz.func110, Tryz.ntmps110
  go_wp2_with fail
  refine HC.out.mono ?_
  rintro e w' ⟨rfl, rfl⟩
  go_wp2
  go_ret
  refine ⟨?_, rfl⟩
  by_cases h : val l = 1
  · have := HB.out.2 h
    simp [h, this]
  · have : ¬ (n : Int) = 1 := fun e => h (HB.out.1 e)
    simp [h]
    omega

/-- The sign of a fraction. -/
def sgnQ (n : Bool) (l d : List Nat) : Int := if val d = 0 then 0 else sgnI (zval n l)
set_option maxHeartbeats 1000000 in
theorem fr_sign {v : Value} {n : Bool} {l d : List Nat} {w : World} (h : SeesQ w v n l d) :
    Calls Tryz.prog 27 #[v] w fun e w' => e = .returned (.int .i64 (sgnQ n l d)) ∧ Below w.heap.size w w' := by
  obtain ⟨m, u, rfl, hm, hu⟩ := h
  obtain ⟨w0, hw0⟩ : ∃ x, x = w.alloc (.cells #[.bool n, m, u] 26) := ⟨_, rfl⟩
  have hb0 : Below w.heap.size w w0 := by rw [hw0]; exact (Below.refl _ w).alloc (Nat.le_refl _) _
  have hx0 : Blk w0 w.heap.size #[.bool n, m, u] := by rw [hw0]; exact Blk.new ..
  have HM := hid (hm.below hb0); have HU := hid (hu.below hb0)
  have HB := hid hb0
  obtain ⟨ao, cap, rfl, -, -, -, -, -⟩ := hm
  obtain ⟨bo, dap, rfl, -, -, -, -, -⟩ := hu
  have HX := hid hx0
  have HW := hid hw0.symm
  obtain ⟨g, hg⟩ : ∃ g, g = w.heap.size := ⟨_, rfl⟩
  rw [← hg] at HX
  have HG := hid hg.symm
  clear hb0 hx0 hw0 hg
  by_cases h0 : val d = 0
  · have e : sgnQ n l d = 0 := if_pos h0
    rw [e]
    have hd : decide (val d = 0) = true := by simp [h0]
    clear h0 e
    go_enter Tryz.func27, Tryz.ntmps27
    go_wp2_with fail
    rw [HW.out, HG.out]
    refine (fr_isZero HU.out).mono ?_
    rw [hd]
    rintro e w' ⟨rfl, rfl⟩
    clear hd
    go_wp2
    go_ret
    exact ⟨rfl, HB.out⟩
  · have e : sgnQ n l d = sgnI (zval n l) := if_neg h0
    rw [e]
    have hd : decide (val d = 0) = false := by simp [h0]
    obtain ⟨z, hz⟩ : ∃ z, sgnI (zval n l) = z := ⟨_, rfl⟩
    rw [hz]
    have HZ := hid hz
    clear h0 e hz
    go_enter Tryz.func27, Tryz.ntmps27
    go_wp2_with fail
    rw [HW.out, HG.out]
    refine (fr_isZero HU.out).mono ?_
    rw [hd]
    rintro e w' ⟨rfl, rfl⟩
    clear hd
    obtain ⟨c0, c1, c2, -, -, -⟩ := HX.out.open3
    go_wp2_with fail
    refine (whole_sign ⟨_, rfl, HM.out⟩).mono ?_
    rw [HZ.out]
    rintro e w' ⟨rfl, hb⟩
    go_wp2
    go_ret
    exact ⟨rfl, HB.out.trans (hb.mono HB.out.size)⟩

end Go.Proofs.YtjnbonellgpjnaaGreat

set_option linter.unusedVariables false
set_option linter.unusedSimpArgs false
namespace Go.Proofs.YtjnbonellgpjnaaGreat
open Go.RowKit


set_option maxHeartbeats 1000000 in
theorem fr_of (n : Int) (h1 : -9223372036854775808 ≤ n) (h2 : n < 9223372036854775808) (w : World) :
    Calls Tryz.prog 109 #[.int .i64 n] w fun e w' => IsRat w n 1 e w' := by
  obtain ⟨w0, hw0⟩ : ∃ x, x = w.alloc (.cells #[.bool false, .slice none 0 0, .slice none 0 0] 26) := ⟨_, rfl⟩
  have hb0 : Below w.heap.size w w0 := by rw [hw0]; exact (Below.refl _ w).alloc (Nat.le_refl _) _
  have hx0 : Blk w0 w.heap.size #[.bool false, .slice none 0 0, .slice none 0 0] := by rw [hw0]; exact Blk.new ..
  have HB0 := hid hb0
  have HX0 := hid hx0
  have HW := hid hw0.symm
  obtain ⟨g, hg⟩ : ∃ g, g = w.heap.size := ⟨_, rfl⟩
  rw [← hg] at HX0
  have HG := hid hg.symm
  clear hb0 hx0 hw0 hg
  have HC := hid (whole_of n h1 h2 w0)
  clear h1 h2
  go_enter Tryz.func109, Tryz.ntmps109
  go_wp2_with fail
  rw [HW.out, HG.out]
  refine HC.out.mono ?_
  rintro e w1 ⟨v1, rfl, hz, hb⟩
  have HB1 := hid (HB0.out.trans (hb.mono HB0.out.size)); have HX1 := hid (HX0.out.below hb)
  have HZ1 := hid hz
  obtain ⟨ao, cap, rfl⟩ := hz.form
  clear hb hz HB0 HX0 HC HW
  go_wp2_with fail
  refine (nat_of 1 (by omega) (by omega) _).mono ?_
  rintro e w2 ⟨v2, rfl, hs, hb⟩
  change Sees w2 v2 (limbs 1) at hs
  have HB2 := hid (HB1.out.trans (hb.mono HB1.out.size)); have HX2 := hid (HX1.out.below hb)
  have HZ2 := hid (HZ1.out.below hb)
  have HS2 := hid hs
  obtain ⟨bo, dap, rfl, -, -, -, -, -⟩ := hs
  clear hb HB1 HX1 HZ1
  obtain ⟨w7, hw7, hq7, hb7, k0, k1, k2⟩ := store3 HB2.out (by rw [HG.out]; exact Nat.le_refl _) HX2.out (isQ_of HZ2.out (d := 1) HS2.out)
  have HQ := hid hq7; have HB7 := hid hb7; have HW7 := hid hw7
  obtain ⟨c0, c1, c2, f0, f1, f2⟩ := HX2.out.open3
  have hlt := HX2.out.lt
  clear hw7 hq7 hb7 HB2 HZ2 HS2
  generalize zneg (n) = nb at *
  generalize zlim (n) = lb at *
  generalize limbs (1) = ld at *
  go_wp2
  rw [HW7.out]
  exact bodyPost_ret (v := .agg #[.bool nb, .slice ao lb.length cap, .slice bo ld.length dap]) (by simp [results, Tryz.results109, go_sem, k0, k1, k2]) rfl ⟨_, rfl, HQ.out, HB7.out⟩


set_option maxHeartbeats 1000000 in
theorem ref_ofQ (n : Int) (h1 : -9223372036854775808 ≤ n) (h2 : n < 9223372036854775808) (w : World) :
    Calls Tryz.prog 23 #[.int .i64 n] w fun e w' => IsRat w n 1 e w' := by
  obtain ⟨w0, hw0⟩ : ∃ x, x = w.alloc (.cells #[.bool false, .slice none 0 0, .slice none 0 0] 26) := ⟨_, rfl⟩
  have hb0 : Below w.heap.size w w0 := by rw [hw0]; exact (Below.refl _ w).alloc (Nat.le_refl _) _
  have hx0 : Blk w0 w.heap.size #[.bool false, .slice none 0 0, .slice none 0 0] := by rw [hw0]; exact Blk.new ..
  have HB0 := hid hb0
  have HX0 := hid hx0
  have HW := hid hw0.symm
  obtain ⟨g, hg⟩ : ∃ g, g = w.heap.size := ⟨_, rfl⟩
  rw [← hg] at HX0
  have HG := hid hg.symm
  clear hb0 hx0 hw0 hg
  have HC := hid (ref_ofZ n h1 h2 w0)
  clear h1 h2
  go_enter Tryz.func23, Tryz.ntmps23
  go_wp2_with fail
  rw [HW.out, HG.out]
  refine HC.out.mono ?_
  rintro e w1 ⟨v1, rfl, hz, hb⟩
  have HB1 := hid (HB0.out.trans (hb.mono HB0.out.size)); have HX1 := hid (HX0.out.below hb)
  have HZ1 := hid hz
  obtain ⟨ao, cap, rfl⟩ := hz.form
  clear hb hz HB0 HX0 HC HW
  go_wp2_with fail
  refine (ref_of 1 (by omega) (by omega) _).mono ?_
  rintro e w2 ⟨v2, rfl, hs, hb⟩
  change Sees w2 v2 (limbs 1) at hs
  have HB2 := hid (HB1.out.trans (hb.mono HB1.out.size)); have HX2 := hid (HX1.out.below hb)
  have HZ2 := hid (HZ1.out.below hb)
  have HS2 := hid hs
  obtain ⟨bo, dap, rfl, -, -, -, -, -⟩ := hs
  clear hb HB1 HX1 HZ1
  obtain ⟨w7, hw7, hq7, hb7, k0, k1, k2⟩ := store3 HB2.out (by rw [HG.out]; exact Nat.le_refl _) HX2.out (isQ_of HZ2.out (d := 1) HS2.out)
  have HQ := hid hq7; have HB7 := hid hb7; have HW7 := hid hw7
  obtain ⟨c0, c1, c2, f0, f1, f2⟩ := HX2.out.open3
  have hlt := HX2.out.lt
  clear hw7 hq7 hb7 HB2 HZ2 HS2
  generalize zneg (n) = nb at *
  generalize zlim (n) = lb at *
  generalize limbs (1) = ld at *
  go_wp2
  rw [HW7.out]
  exact bodyPost_ret (v := .agg #[.bool nb, .slice ao lb.length cap, .slice bo ld.length dap]) (by simp [results, Tryz.results23, go_sem, k0, k1, k2]) rfl ⟨_, rfl, HQ.out, HB7.out⟩


set_option maxHeartbeats 1000000 in
theorem ref_zero (w : World) : Calls Tryz.prog 48 #[] w fun e w' => IsRat w 0 1 e w' := by
  obtain ⟨w0, hw0⟩ : ∃ x, x = w.alloc (.cells #[.bool false, .slice none 0 0, .slice none 0 0] 26) := ⟨_, rfl⟩
  have hb0 : Below w.heap.size w w0 := by rw [hw0]; exact (Below.refl _ w).alloc (Nat.le_refl _) _
  have hx0 : Blk w0 w.heap.size #[.bool false, .slice none 0 0, .slice none 0 0] := by rw [hw0]; exact Blk.new ..
  have HB0 := hid hb0
  have HX0 := hid hx0
  have HW := hid hw0.symm
  obtain ⟨g, hg⟩ : ∃ g, g = w.heap.size := ⟨_, rfl⟩
  rw [← hg] at HX0
  have HG := hid hg.symm
  clear hb0 hx0 hw0 hg
  go_enter Tryz.func48, Tryz.ntmps48
  go_wp2_with fail
  rw [HW.out, HG.out]
  refine (ref_of 1 (by omega) (by omega) _).mono ?_
  rintro e w2 ⟨v2, rfl, hs, hb⟩
  change Sees w2 v2 (limbs 1) at hs
  have HB2 := hid (HB0.out.trans (hb.mono HB0.out.size)); have HX2 := hid (HX0.out.below hb)
  have HZ2 := hid (zero_isZ w2)
  have HS2 := hid hs
  obtain ⟨bo, dap, rfl, -, -, -, -, -⟩ := hs
  clear hb HB0 HX0 HW
  obtain ⟨w7, hw7, hq7, hb7, k0, k1, k2⟩ := store3 HB2.out (by rw [HG.out]; exact Nat.le_refl _) HX2.out (isQ_of HZ2.out (d := 1) HS2.out)
  have HQ := hid hq7; have HB7 := hid hb7; have HW7 := hid hw7
  obtain ⟨c0, c1, c2, f0, f1, f2⟩ := HX2.out.open3
  have hlt := HX2.out.lt
  clear hw7 hq7 hb7 HB2 HZ2 HS2
  generalize limbs 1 = ld at *
  go_wp2
  rw [HW7.out]
  exact bodyPost_ret (v := .agg #[.bool false, .slice none 0 0, .slice bo ld.length dap]) (by simp [results, Tryz.results48, go_sem, k0, k1, k2]) rfl ⟨_, rfl, HQ.out, HB7.out⟩


/-- a divided by a divisor. -/
theorem fr_partOf {a b : Value} {l m : List Nat} {w : World} (ha : Sees w a l) (hb : Sees w b m) (hl : l.length ≤ 17592186044416) (h0 : 0 < val m) :
    Calls Tryz.prog 115 #[a, b] w fun e w' => IsNum w (val l / val m) e w' := by
  have HC := hid (nat_divmod' ha hb hl h0)
  obtain ⟨aa, ca, rfl, -, -, -, -, -⟩ := ha
  obtain ⟨ab, cb, rfl, -, -, -, -, -⟩ := hb
  go_enter Tryz.func115, Tryz.ntmps115
  go_wp2_with fail
  refine HC.out.mono ?_
  rintro e w1 ⟨q, r, rfl, hq, hr, hb⟩
  have HQ := hid hq; have HB := hid hb
  obtain ⟨qa, qc, rfl, -, -, -, -, -⟩ := hq
  obtain ⟨ra, rc, rfl, -, -, -, -, -⟩ := hr
  clear hb
  go_wp2
  go_ret
  exact ⟨_, rfl, HQ.out, HB.out⟩

end Go.Proofs.YtjnbonellgpjnaaGreat

set_option linter.unusedVariables false
set_option linter.unusedSimpArgs false
namespace Go.Proofs.YtjnbonellgpjnaaGreat
open Go.RowKit

theorem store2 {a w : World} {g : Nat} {n0 : Bool} {p : Option Addr} {i j : Nat} {z : Int} {x y : Value}
    (hB : Below a.heap.size a w) (hg : a.heap.size ≤ g) (hy : Blk w g #[.bool n0, .slice p i j]) (hv : IsZ w (.agg #[x, y]) z) :
    ∃ w', (w.setCell ⟨g, 0, none⟩ x).setCell ⟨g, 1, none⟩ y = w' ∧ IsZ w' (.agg #[x, y]) z ∧ Below a.heap.size a w' ∧
      w'.cell? ⟨g, 0, none⟩ = some x ∧ w'.cell? ⟨g, 1, none⟩ = some y := by
  obtain ⟨m, e, hm⟩ := hv
  have hgr : w.grownBy ((w.setCell ⟨g, 0, none⟩ x).setCell ⟨g, 1, none⟩ y) (some g) := grownBy_set (grownBy_set (World.grownBy.refl _ _) _ _) _ _
  have hb : Blk ((w.setCell ⟨g, 0, none⟩ x).setCell ⟨g, 1, none⟩ y) g #[x, y] := by
    obtain ⟨t, h⟩ := hy
    exact ⟨t, by simp [World.setCell, Array.getElem?_modify, h]⟩
  obtain ⟨k0, k1, -, -⟩ := hb.open2
  exact ⟨_, rfl, ⟨m, e, hm.store hy (NoInt.two _ _ _ _) hgr⟩, hB.grown hgr hB.size (fun k e => by simp at e; omega), k0, k1⟩

set_option maxRecDepth 100000 in
set_option maxHeartbeats 1000000 in
theorem fr_part {a b : Value} {n : Bool} {l m : List Nat} {w : World} (ha : SeesZ w a n l) (hb : Sees w b m) (hl : l.length ≤ 17592186044416) (hm : m.length ≤ 17592186044416) (h0 : 0 < val m) :
    Calls Tryz.prog 114 #[a, b] w fun e w' => IsInt w (zval n l / (val m : Int)) e w' := by
  obtain ⟨va, rfl, ha⟩ := ha
  obtain ⟨w0, hw0⟩ : ∃ x, x = (w.alloc (.cells #[.bool n, va] 24)).alloc (.cells #[.bool false, .slice none 0 0] 24) := ⟨_, rfl⟩
  have hb0 : Below w.heap.size w w0 := by rw [hw0]; exact ((Below.refl _ w).alloc (Nat.le_refl _) _).alloc (by simp) _
  have hx0 : Blk w0 w.heap.size #[.bool n, va] := by rw [hw0]; exact (Blk.new w _ _).alloc _
  have hy0 : Blk w0 (w.heap.size + 1) #[.bool false, .slice none 0 0] := by
    rw [hw0]
    have := Blk.new (w.alloc (.cells #[.bool n, va] 24)) #[.bool false, .slice none 0 0] 24
    rwa [Deep.nblk_alloc] at this
  have HA := hid (ha.below hb0); have HB := hid (hb.below hb0)
  have hz := zval_false m
  have HC := hid (whole_div (w := w0) (n := n) (k := false) ⟨_, rfl, HA.out⟩ ⟨_, rfl, HB.out⟩ hl hm h0)
  rw [hz] at HC
  have HZ := hid hz
  clear hz
  obtain ⟨aa, ca, rfl, -, -, -, -, -⟩ := ha
  obtain ⟨ab, cb, rfl, -, -, -, -, -⟩ := hb
  have HB0 := hid hb0; have HX0 := hid hx0; have HY0 := hid hy0; have HW := hid hw0.symm
  obtain ⟨g, hg⟩ : ∃ g, g = w.heap.size := ⟨_, rfl⟩
  obtain ⟨r, hr⟩ : ∃ r, r = w.heap.size + 1 := ⟨_, rfl⟩
  rw [← hr] at HY0
  rw [← hg] at HX0
  have HR : Hid (w.heap.size ≤ r) := hid (by omega)
  have HG := hid hg.symm; have HRR := hid hr.symm
  clear hb0 hx0 hy0 hw0 hg hr
  generalize zval n l / (val m : Int) = q at *
  go_enter Tryz.func114, Tryz.ntmps114
  obtain ⟨c0, c1, f0, f1⟩ := HX0.out.open2
  go_wp2_with fail
  rw [HW.out, HRR.out, HG.out]
  refine HC.out.mono ?_
  rintro e w1 ⟨vq, vr, rfl, hq, hr, hb⟩
  have HB1 := hid (HB0.out.trans (hb.mono HB0.out.size)); have HY1 := hid (HY0.out.below hb)
  have HQ := hid hq
  obtain ⟨aq, cq, rfl⟩ := hq.form
  obtain ⟨ar, cr, rfl⟩ := hr.form
  have hlt := HY1.out.lt
  clear hb hq hr HB0 HX0 HY0 HC HW c0 c1 f0 f1
  generalize zneg q = nb at *
  generalize zlim q = lb at *
  obtain ⟨d0, d1, k0, k1⟩ := HY1.out.open2
  go_wp2_with fail
  obtain ⟨w7, hw7, hz7, hb7, m0, m1⟩ := store2 HB1.out HR.out HY1.out HQ.out
  rw [hw7]
  refine bodyPost_ret (v := .agg #[.bool nb, .slice aq lb.length cq]) ?_ rfl ⟨_, rfl, IsZ.below hz7 (((Below.refl _ _).alloc (Nat.le_refl _) _).alloc (by simp) _), ((hb7.alloc hb7.size _).alloc (by simp; have := hb7.size; omega) _)⟩
  have hr7 : r < w7.heap.size := World.block_lt_of_cell? w7 _ m0
  clear hw7
  simp [results, Tryz.results114, go_sem, m0, m1, hr7]
end Go.Proofs.YtjnbonellgpjnaaGreat

set_option linter.unusedVariables false
set_option linter.unusedSimpArgs false
namespace Go.Proofs.YtjnbonellgpjnaaGreat
open Go.RowKit

/-- The plain fraction of z and d. -/
def qnum (z : Int) (d : Nat) : Int := if d = 0 then 0 else z / (Nat.gcd z.natAbs d : Int)
def qden (z : Int) (d : Nat) : Nat := if d = 0 then 1 else d / Nat.gcd z.natAbs d
theorem qnum_zero (z : Int) : qnum z 0 = 0 := rfl
theorem qden_zero (z : Int) : qden z 0 = 1 := rfl
theorem qnum_one (z : Int) : qnum z 1 = z := by unfold qnum; rw [if_neg (by decide), Nat.gcd_one_right]; simp
theorem qden_one (z : Int) : qden z 1 = 1 := by unfold qden; rw [if_neg (by decide), Nat.gcd_one_right]
theorem qnum_pos {z : Int} {d : Nat} (h : d ≠ 0) : qnum z d = z / (Nat.gcd z.natAbs d : Int) := if_neg h
theorem qden_pos {z : Int} {d : Nat} (h : d ≠ 0) : qden z d = d / Nat.gcd z.natAbs d := if_neg h


set_option maxRecDepth 100000 in
set_option maxHeartbeats 2000000 in
theorem fr_reduce {a b : Value} {n : Bool} {l m : List Nat} {w : World} (ha : SeesZ w a n l) (hb : Sees w b m) (hl : l.length ≤ 1000000000) (hm : m.length ≤ 1000000000) :
    Calls Tryz.prog 87 #[a, b] w fun e w' => IsRat w (qnum (zval n l) (val m)) (qden (zval n l) (val m)) e w' := by
  have hpm := hb.ok
  obtain ⟨va, rfl, ha⟩ := ha
  obtain ⟨w0, hw0⟩ : ∃ x, x = (w.alloc (.cells #[.bool n, va] 24)).alloc (.cells #[.bool false, .slice none 0 0, .slice none 0 0] 94) := ⟨_, rfl⟩
  have hb0 : Below w.heap.size w w0 := by rw [hw0]; exact ((Below.refl _ w).alloc (Nat.le_refl _) _).alloc (by simp) _
  have hx0 : Blk w0 w.heap.size #[.bool n, va] := by rw [hw0]; exact (Blk.new w _ _).alloc _
  have hy0 : Blk w0 (w.heap.size + 1) #[.bool false, .slice none 0 0, .slice none 0 0] := by
    rw [hw0]
    have := Blk.new (w.alloc (.cells #[.bool n, va] 24)) #[.bool false, .slice none 0 0, .slice none 0 0] 94
    rwa [Deep.nblk_alloc] at this
  have HA := hid (ha.below hb0); have HB := hid (hb.below hb0)
  obtain ⟨aa, ca, rfl, -, -, -, -, -⟩ := ha
  obtain ⟨ab, cb, rfl, -, -, -, -, -⟩ := hb
  have HB0 := hid hb0; have HX0 := hid hy0; have HY0 := hid hx0; have HW := hid hw0.symm
  obtain ⟨r, hr⟩ : ∃ g, g = w.heap.size := ⟨_, rfl⟩
  obtain ⟨g, hg⟩ : ∃ r, r = w.heap.size + 1 := ⟨_, rfl⟩
  rw [← hg] at HX0
  rw [← hr] at HY0
  have HR : Hid (w.heap.size ≤ g) := hid (by omega)
  have HG := hid hg.symm; have HRR := hid hr.symm
  clear hb0 hx0 hy0 hw0 hg hr
  by_cases h0 : val m = 0
  · rw [h0, qnum_zero, qden_zero]
    have HD0 : Hid (decide (val m = 0) = true) := hid (by simp [h0])
    clear h0
    go_enter Tryz.func87, Tryz.ntmps87
    go_wp2_with fail
    rw [HW.out, HG.out, HRR.out]
    refine (fr_isZero HB.out).mono ?_
    rw [HD0.out]
    rintro e w' ⟨rfl, rfl⟩
    go_wp2_with fail
    refine (fr_of 0 (by omega) (by omega) _).mono ?_
    rintro e w2 ⟨v2, rfl, hq, hb⟩
    have HB2 := hid (HB0.out.trans (hb.mono HB0.out.size)); have HX2 := hid (HX0.out.below hb)
    obtain ⟨ao, cap, bo, dap, rfl⟩ := hq.form
    obtain ⟨w7, hw7, hq7, hb7, k0, k1, k2⟩ := store3 HB2.out HR.out HX2.out hq
    have HQ := hid hq7; have HB7 := hid hb7; have HW7 := hid hw7
    obtain ⟨c0, c1, c2, f0, f1, f2⟩ := HX2.out.open3
    have hlt := HX2.out.lt
    clear hw7 hq7 hb7 hq hb HB0 HX0 HB2 HW
    generalize zneg 0 = nb at *
    generalize zlim 0 = lb at *
    generalize limbs 1 = ld at *
    go_wp2
    rw [HW7.out]
    exact bodyPost_ret (v := .agg #[.bool nb, .slice ao lb.length cap, .slice bo ld.length dap]) (by simp [results, Tryz.results87, go_sem, k0, k1, k2]) rfl ⟨_, rfl, HQ.out, HB7.out⟩
  have HD0 : Hid (decide (val m = 0) = false) := hid (by simp [h0])
  by_cases h1 : val m = 1
  · rw [h1, qnum_one, qden_one]
    have HD1 : Hid (decide (val m = 1) = true) := hid (by simp [h1])
    have HV := hid h1
    clear h0 h1
    obtain ⟨z, hz⟩ : ∃ z, zval n l = z := ⟨_, rfl⟩
    have HZv := hid hz
    rw [hz]
    clear hz
    go_enter Tryz.func87, Tryz.ntmps87
    go_wp2_with fail
    rw [HW.out, HG.out, HRR.out]
    refine (fr_isZero HB.out).mono ?_
    rw [HD0.out]
    rintro e w' ⟨rfl, rfl⟩
    go_wp2_with fail
    refine (fr_isOne HB.out).mono ?_
    rw [HD1.out]
    rintro e w' ⟨rfl, rfl⟩
    obtain ⟨c0, c1, f0, f1⟩ := HY0.out.open2
    go_wp2_with fail
    refine (whole_plain ⟨_, rfl, HA.out⟩ (by omega)).mono ?_
    rw [HZv.out]
    rintro e w1 ⟨v1, rfl, hz, hb⟩
    have HB1 := hid (HB0.out.trans (hb.mono HB0.out.size)); have HX1 := hid (HX0.out.below hb)
    have HZ1 := hid hz; have HBB := hid (HB.out.below hb)
    obtain ⟨ao, cap, rfl⟩ := hz.form
    clear hb hz HB0 HX0 HW c0 c1 f0 f1
    go_wp2_with fail
    refine (nat_plain' HBB.out (by omega)).mono ?_
    rintro e w2 ⟨v2, rfl, hs, hb⟩
    rw [HV.out] at hs
    have HB2 := hid (HB1.out.trans (hb.mono HB1.out.size)); have HX2 := hid (HX1.out.below hb)
    have HZ2 := hid (HZ1.out.below hb)
    have HS2 := hid hs
    obtain ⟨bo, dap, rfl, -, -, -, -, -⟩ := hs
    clear hb HB1 HX1 HZ1
    obtain ⟨w7, hw7, hq7, hb7, k0, k1, k2⟩ := store3 HB2.out (HR.out) HX2.out (isQ_of HZ2.out (d := 1) HS2.out)
    have HQ := hid hq7; have HB7 := hid hb7; have HW7 := hid hw7
    obtain ⟨c0, c1, c2, f0, f1, f2⟩ := HX2.out.open3
    have hlt := HX2.out.lt
    clear hw7 hq7 hb7 HB2 HZ2 HS2
    generalize zneg (z) = nb at *
    generalize zlim (z) = lb at *
    generalize limbs (1) = ld at *
    go_wp2
    rw [HW7.out]
    exact bodyPost_ret (v := .agg #[.bool nb, .slice ao lb.length cap, .slice bo ld.length dap]) (by simp [results, Tryz.results87, go_sem, k0, k1, k2]) rfl ⟨_, rfl, HQ.out, HB7.out⟩
  · rw [qnum_pos h0, qden_pos h0]
    have HD1 : Hid (decide (val m = 1) = false) := hid (by simp [h1])
    have hgp : 0 < Nat.gcd (val l) (val m) := Nat.gcd_pos_of_pos_right _ (by omega)
    have hgl : (limbs (Nat.gcd (val l) (val m))).length ≤ 17592186044416 := by
      have := limbs_length_le (Nat.lt_of_le_of_lt (Nat.gcd_le_right (val l) (by omega : 0 < val m)) (val_lt hpm))
      omega
    rw [zval_abs]
    have HGP := hid hgp; have HGL := hid hgl
    clear h0 h1 hgp hgl
    obtain ⟨G, hG⟩ : ∃ G, Nat.gcd (val l) (val m) = G := ⟨_, rfl⟩
    have HGV := hid hG
    rw [hG] at HGP HGL ⊢
    clear hG
    obtain ⟨z, hz⟩ : ∃ z, zval n l / (G : Int) = z := ⟨_, rfl⟩
    have HZv := hid hz
    obtain ⟨D, hD⟩ : ∃ D, val m / G = D := ⟨_, rfl⟩
    have HDv := hid hD
    rw [hz, hD]
    clear hz hD
    go_enter Tryz.func87, Tryz.ntmps87
    go_wp2_with fail
    rw [HW.out, HG.out, HRR.out]
    refine (fr_isZero HB.out).mono ?_
    rw [HD0.out]
    rintro e w' ⟨rfl, rfl⟩
    go_wp2_with fail
    refine (fr_isOne HB.out).mono ?_
    rw [HD1.out]
    rintro e w' ⟨rfl, rfl⟩
    obtain ⟨c0, c1, f0, f1⟩ := HY0.out.open2
    go_wp2_with fail
    refine (nat_gcd HA.out HB.out hl hm).mono ?_
    rw [HGV.out]
    rintro e w1 ⟨v1, rfl, hs, hb⟩
    have HB1 := hid (HB0.out.trans (hb.mono HB0.out.size)); have HX1 := hid (HX0.out.below hb); have HY1 := hid (HY0.out.below hb)
    have HA1 := hid (HA.out.below hb); have HBB := hid (HB.out.below hb)
    have HS1 := hid hs
    obtain ⟨go, gap, rfl, -, -, -, -, -⟩ := hs
    clear hb HB0 HX0 HY0 HW c0 c1 f0 f1 HA HB
    obtain ⟨c0, c1, f0, f1⟩ := HY1.out.open2
    go_wp2_with fail
    refine (fr_part ⟨_, rfl, HA1.out⟩ HS1.out (by omega) HGL.out (by rw [val_limbs]; exact HGP.out)).mono ?_
    rw [val_limbs, HZv.out]
    rintro e w2 ⟨v2, rfl, hz, hb⟩
    have HB2 := hid (HB1.out.trans (hb.mono HB1.out.size)); have HX2 := hid (HX1.out.below hb)
    have HBB2 := hid (HBB.out.below hb); have HS2 := hid (HS1.out.below hb)
    have HZ2 := hid hz
    obtain ⟨ao, cap, rfl⟩ := hz.form
    clear hb hz HB1 HX1 HY1 HA1 HBB HS1 c0 c1 f0 f1
    go_wp2_with fail
    refine (fr_partOf HBB2.out HS2.out (by omega) (by rw [val_limbs]; exact HGP.out)).mono ?_
    rw [val_limbs, HDv.out]
    rintro e w3 ⟨v3, rfl, hs, hb⟩
    have HB3 := hid (HB2.out.trans (hb.mono HB2.out.size)); have HX3 := hid (HX2.out.below hb)
    have HZ3 := hid (HZ2.out.below hb)
    have HS3 := hid hs
    obtain ⟨bo, dap, rfl, -, -, -, -, -⟩ := hs
    clear hb HB2 HX2 HZ2 HS2 HBB2
    obtain ⟨w7, hw7, hq7, hb7, k0, k1, k2⟩ := store3 HB3.out (HR.out) HX3.out (isQ_of HZ3.out (d := D) HS3.out)
    have HQ := hid hq7; have HB7 := hid hb7; have HW7 := hid hw7
    obtain ⟨c0, c1, c2, f0, f1, f2⟩ := HX3.out.open3
    have hlt := HX3.out.lt
    clear hw7 hq7 hb7 HB3 HZ3 HS3
    generalize zneg (z) = nb at *
    generalize zlim (z) = lb at *
    generalize limbs (D) = ld at *
    go_wp2
    rw [HW7.out]
    exact bodyPost_ret (v := .agg #[.bool nb, .slice ao lb.length cap, .slice bo ld.length dap]) (by simp [results, Tryz.results87, go_sem, k0, k1, k2]) rfl ⟨_, rfl, HQ.out, HB7.out⟩


set_option maxRecDepth 100000 in
set_option maxHeartbeats 2000000 in
theorem fr_plain {a : Value} {n : Bool} {l d : List Nat} {w : World} (ha : SeesQ w a n l d) (hl : l.length ≤ 1000000000) (hm : d.length ≤ 1000000000) :
    Calls Tryz.prog 44 #[a] w fun e w' => IsRat w (qnum (zval n l) (val d)) (qden (zval n l) (val d)) e w' := by
  obtain ⟨va, vd, rfl, ha, hb⟩ := ha
  obtain ⟨w0, hw0⟩ : ∃ x, x = (w.alloc (.cells #[.bool n, va, vd] 26)).alloc (.cells #[.bool false, .slice none 0 0, .slice none 0 0] 26) := ⟨_, rfl⟩
  have hb0 : Below w.heap.size w w0 := by rw [hw0]; exact ((Below.refl _ w).alloc (Nat.le_refl _) _).alloc (by simp) _
  have hx0 : Blk w0 w.heap.size #[.bool n, va, vd] := by rw [hw0]; exact (Blk.new w _ _).alloc _
  have hy0 : Blk w0 (w.heap.size + 1) #[.bool false, .slice none 0 0, .slice none 0 0] := by
    rw [hw0]
    have := Blk.new (w.alloc (.cells #[.bool n, va, vd] 26)) #[.bool false, .slice none 0 0, .slice none 0 0] 26
    rwa [Deep.nblk_alloc] at this
  have HA := hid (ha.below hb0); have HB := hid (hb.below hb0)
  obtain ⟨aa, ca, rfl, -, -, -, -, -⟩ := ha
  obtain ⟨ab, cb, rfl, -, -, -, -, -⟩ := hb
  have HB0 := hid hb0; have HX0 := hid hy0; have HY0 := hid hx0; have HW := hid hw0.symm
  obtain ⟨r, hr⟩ : ∃ g, g = w.heap.size := ⟨_, rfl⟩
  obtain ⟨g, hg⟩ : ∃ r, r = w.heap.size + 1 := ⟨_, rfl⟩
  rw [← hg] at HX0
  rw [← hr] at HY0
  have HR : Hid (w.heap.size ≤ g) := hid (by omega)
  have HG := hid hg.symm; have HRR := hid hr.symm
  clear hb0 hx0 hy0 hw0 hg hr
  have HC := hid (fr_reduce (w := w0) (n := n) ⟨_, rfl, HA.out⟩ HB.out hl hm)
  generalize qnum (zval n l) (val d) = z at *
  generalize qden (zval n l) (val d) = D at *
  obtain ⟨c0, c1, c2, f0, f1, f2⟩ := HY0.out.open3
  go_enter Tryz.func44, Tryz.ntmps44
  go_wp2_with fail
  rw [HW.out, HG.out, HRR.out]
  refine HC.out.mono ?_
  rintro e w2 ⟨v2, rfl, hq, hb⟩
  clear c0 c1 c2 f0 f1 f2
  have HB2 := hid (HB0.out.trans (hb.mono HB0.out.size)); have HX2 := hid (HX0.out.below hb)
  obtain ⟨ao, cap, bo, dap, rfl⟩ := hq.form
  obtain ⟨w7, hw7, hq7, hb7, k0, k1, k2⟩ := store3 HB2.out HR.out HX2.out hq
  have HQ := hid hq7; have HB7 := hid hb7; have HW7 := hid hw7
  obtain ⟨c0, c1, c2, f0, f1, f2⟩ := HX2.out.open3
  have hlt := HX2.out.lt
  clear hw7 hq7 hb7 hq hb HB0 HX0 HB2 HW HC
  generalize zneg z = nb at *
  generalize zlim z = lb at *
  generalize limbs D = ld at *
  go_wp2
  rw [HW7.out]
  exact bodyPost_ret (v := .agg #[.bool nb, .slice ao lb.length cap, .slice bo ld.length dap]) (by simp [results, Tryz.results44, go_sem, k0, k1, k2]) rfl ⟨_, rfl, HQ.out, HB7.out⟩

end Go.Proofs.YtjnbonellgpjnaaGreat
