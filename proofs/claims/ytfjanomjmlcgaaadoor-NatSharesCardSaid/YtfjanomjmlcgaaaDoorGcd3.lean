/- nat.lookAhead by its contract. -/
import Derived.Test.YtfjanomjmlcgaaaDoorGcd1
import Derived.Test.YtfjanomjmlcgaaaDoorMul
set_option linter.unusedVariables false
set_option linter.unusedSimpArgs false
namespace Go.Proofs.YtfjanomjmlcgaaaDoor
open Go.RowKit

/-- A struct of five cells in a block of its own. -/
def Box5 (w : World) (g : Nat) (a b c d e : Value) : Prop := ∃ t, w.heap[g]? = some (.cells #[a, b, c, d, e] t (0, 0))
theorem Box5.new (w : World) (a b c d e : Value) (t : TypeId) : Box5 (w.alloc (.cells #[a, b, c, d, e] t)) w.heap.size a b c d e := ⟨t, Deep.blk_alloc_new w _⟩
theorem Box5.cells {w : World} {g : Nat} {a b c d e : Value} (h : Box5 w g a b c d e) : w.cell? ⟨g, 0, none⟩ = some a ∧ w.cell? ⟨g, 1, none⟩ = some b ∧ w.cell? ⟨g, 2, none⟩ = some c ∧ w.cell? ⟨g, 3, none⟩ = some d ∧ w.cell? ⟨g, 4, none⟩ = some e ∧
    w.frozen? ⟨g, 0, none⟩ = false ∧ w.frozen? ⟨g, 1, none⟩ = false ∧ w.frozen? ⟨g, 2, none⟩ = false ∧ w.frozen? ⟨g, 3, none⟩ = false ∧ w.frozen? ⟨g, 4, none⟩ = false := by
  obtain ⟨t, h⟩ := h
  refine ⟨?_, ?_, ?_, ?_, ?_, ?_, ?_, ?_, ?_, ?_⟩ <;> first | (simp only [World.cell?, h]; rfl) | (simp only [World.frozen?, h]; rfl)
theorem Box5.lt {w : World} {g : Nat} {a b c d e : Value} (h : Box5 w g a b c d e) : g < w.heap.size := World.block_lt_of_cell? w _ h.cells.1
theorem Box5.below {w w' : World} {g : Nat} {a b c d e : Value} (h : Box5 w g a b c d e) (hb : Below w.heap.size w w') : Box5 w' g a b c d e := by
  have hlt := h.lt
  obtain ⟨t, h⟩ := h
  exact ⟨t, (hb.block g hlt).trans h⟩
theorem Box5.alloc {w : World} {g : Nat} {a b c d e : Value} (h : Box5 w g a b c d e) (o : Obj) : Box5 (w.alloc o) g a b c d e := h.below ((Below.refl _ w).alloc (Nat.le_refl _) o)
theorem Box5.of_block {w w' : World} {g : Nat} {a b c d e : Value} (h : Box5 w g a b c d e) (e1 : w'.heap[g]? = w.heap[g]?) : Box5 w' g a b c d e := let ⟨t, h⟩ := h; ⟨t, e1.trans h⟩
theorem Box5.grown {w w' : World} {g : Nat} {a b c d e : Value} (h : Box5 w g a b c d e) {r : Option Nat} (hg : w.grownBy w' r) (hr : some g ≠ r) : Box5 w' g a b c d e := h.of_block (hg.block g h.lt hr)
theorem Box5.drew {w : World} {g : Nat} {a b c d e : Value} (h : Box5 w g a b c d e) : Box5 w.drew g a b c d e := h
theorem Box5.s0 {w : World} {g : Nat} {a b c d e : Value} (h : Box5 w g a b c d e) (v : Value) : Box5 (w.setCell ⟨g, 0, none⟩ v) g v b c d e := by
  obtain ⟨t, h⟩ := h; exact ⟨t, by simp [World.setCell, Array.getElem?_modify, h]⟩
theorem Box5.s1 {w : World} {g : Nat} {a b c d e : Value} (h : Box5 w g a b c d e) (v : Value) : Box5 (w.setCell ⟨g, 1, none⟩ v) g a v c d e := by
  obtain ⟨t, h⟩ := h; exact ⟨t, by simp [World.setCell, Array.getElem?_modify, h]⟩
theorem Box5.s2 {w : World} {g : Nat} {a b c d e : Value} (h : Box5 w g a b c d e) (v : Value) : Box5 (w.setCell ⟨g, 2, none⟩ v) g a b v d e := by
  obtain ⟨t, h⟩ := h; exact ⟨t, by simp [World.setCell, Array.getElem?_modify, h]⟩
theorem Box5.s3 {w : World} {g : Nat} {a b c d e : Value} (h : Box5 w g a b c d e) (v : Value) : Box5 (w.setCell ⟨g, 3, none⟩ v) g a b c v e := by
  obtain ⟨t, h⟩ := h; exact ⟨t, by simp [World.setCell, Array.getElem?_modify, h]⟩
theorem Box5.s4 {w : World} {g : Nat} {a b c d e : Value} (h : Box5 w g a b c d e) (v : Value) : Box5 (w.setCell ⟨g, 4, none⟩ v) g a b c d v := by
  obtain ⟨t, h⟩ := h; exact ⟨t, by simp [World.setCell, Array.getElem?_modify, h]⟩
/-- A round's stores. -/
theorem Box5.round {w : World} {g : Nat} {a b c d e : Value} (h : Box5 w g a b c d e) (x0 x2 x1 x3 x4 : Value) :
    Box5 (((((w.setCell ⟨g, 0, none⟩ x0).setCell ⟨g, 2, none⟩ x2).setCell ⟨g, 1, none⟩ x1).setCell ⟨g, 3, none⟩ x3).setCell ⟨g, 4, none⟩ x4) g x0 x1 x2 x3 x4 := ((((h.s0 x0).s2 x2).s1 x1).s3 x3).s4 x4
theorem grown_round (w : World) (g : Nat) (x0 x2 x1 x3 x4 : Value) :
    w.grownBy (((((w.setCell ⟨g, 0, none⟩ x0).setCell ⟨g, 2, none⟩ x2).setCell ⟨g, 1, none⟩ x1).setCell ⟨g, 3, none⟩ x3).setCell ⟨g, 4, none⟩ x4) (some g) :=
  grownBy_set (grownBy_set (grownBy_set (grownBy_set (grownBy_set (World.grownBy.refl _ _) _ _) _ _) _ _) _ _) _ _
/-- The result's cells, stored. -/
theorem Box5.all {w : World} {g : Nat} {a b c d e : Value} (h : Box5 w g a b c d e) (x0 x1 x2 x3 x4 : Value) :
    Box5 (((((w.setCell ⟨g, 0, none⟩ x0).setCell ⟨g, 1, none⟩ x1).setCell ⟨g, 2, none⟩ x2).setCell ⟨g, 3, none⟩ x3).setCell ⟨g, 4, none⟩ x4) g x0 x1 x2 x3 x4 := ((((h.s0 x0).s1 x1).s2 x2).s3 x3).s4 x4
theorem grown_all (w : World) (g : Nat) (x0 x2 x1 x3 x4 : Value) :
    w.grownBy (((((w.setCell ⟨g, 0, none⟩ x0).setCell ⟨g, 1, none⟩ x1).setCell ⟨g, 2, none⟩ x2).setCell ⟨g, 3, none⟩ x3).setCell ⟨g, 4, none⟩ x4) (some g) :=
  grownBy_set (grownBy_set (grownBy_set (grownBy_set (grownBy_set (World.grownBy.refl _ _) _ _) _ _) _ _) _ _) _ _

/-- What lookAhead hands back. -/
def Looked (w : World) (A B : Nat) (e : Ending) (w' : World) : Prop :=
  ∃ aa ab ba bb o, e = .returned (.agg #[.int .u64 (aa : Nat), .int .u64 (ab : Nat), .int .u64 (ba : Nat), .int .u64 (bb : Nat), .bool o]) ∧ (aa < 4294967296 ∧ ab < 4294967296 ∧ ba < 4294967296 ∧ bb < 4294967296) ∧ (0 < ab → ∃ p q, Steps A B aa ab ba bb o p q) ∧ Below w.heap.size w w'

/-- Where the highest 64 digits begin. -/
theorem place_of {A : Nat} (h : 2 < (limbs A).length) : ∃ p i n, bitsN A = p + 64 ∧ p = 32 * i + n ∧ n < 32 ∧ i + 1 < (limbs A).length ∧ A / 2 ^ p < 18446744073709551616 := by
  have hp : 0 < A := by
    rcases Nat.eq_zero_or_pos A with h0 | h0
    · subst h0; simp [limbs_zero] at h
    · exact h0
  have h1 := bitsN_limbs hp
  have h2 := bitsN_le ((limbs_ok A).getD ((limbs A).length - 1))
  have h3 : 0 < bitsN ((limbs A).getD ((limbs A).length - 1) 0) := by
    unfold bitsN
    rw [if_neg (limbs_last hp).2]
    omega
  have h4 : A < 2 ^ bitsN A := by
    unfold bitsN
    rw [if_neg (by omega)]
    exact Nat.lt_log2_self
  generalize bitsN ((limbs A).getD ((limbs A).length - 1) 0) = z at *
  obtain ⟨p, hpe⟩ : ∃ p, bitsN A = p + 64 := ⟨bitsN A - 64, by omega⟩
  refine ⟨p, p / 32, p % 32, hpe, by omega, by omega, by omega, ?_⟩
  rw [hpe, Nat.pow_add] at h4
  exact Nat.div_lt_of_lt_mul (by simpa using h4)

set_option maxRecDepth 100000 in
set_option maxHeartbeats 4000000 in
theorem nat_lookAhead (a b : Option Addr) (la ca lb cb A B : Nat) (w : World) (ha : Sees w (.slice a la ca) (limbs A)) (hb : Sees w (.slice b lb cb) (limbs B)) (h3 : 2 < (limbs A).length) (hle : B ≤ A) (hl : (limbs A).length ≤ 1000000000000) :
    Calls Tryd.prog 66 #[.slice a la ca, .slice b lb cb] w fun e w' => Looked w A B e w' := by
  obtain ⟨p, i, n, hbits, hpi, hn, hil, hX⟩ := place_of h3
  have HBITS := hid (fun w' (hb : Below w.heap.size w w') => nat_bits a la ca (limbs A) w' (ha.below hb))
  rw [val_limbs, hbits] at HBITS
  have CX := fun w' (hb : Below w.heap.size w w') => nat_wordAt (.slice a la ca) (limbs A) p i n w' (ha.below hb) hpi hn (by omega)
  have CY := fun w' (hb' : Below w.heap.size w w') => nat_wordAt (.slice b lb cb) (limbs B) p i n w' (hb.below hb') hpi hn (by omega)
  rw [val_limbs] at CX CY
  have hYX : B / 2 ^ p ≤ A / 2 ^ p := Nat.div_le_div_right hle
  rw [Nat.mod_eq_of_lt hX] at CX
  rw [Nat.mod_eq_of_lt (by omega)] at CY
  have hpp := Nat.two_pow_pos p
  have hA := (Nat.div_add_mod A (2 ^ p)).symm
  have hB := (Nat.div_add_mod B (2 ^ p)).symm
  have hal := Nat.mod_lt A hpp
  have hbe := Nat.mod_lt B hpp
  obtain ⟨X, hXe⟩ : ∃ X, A / 2 ^ p = X := ⟨_, rfl⟩
  obtain ⟨Y, hYe⟩ : ∃ Y, B / 2 ^ p = Y := ⟨_, rfl⟩
  obtain ⟨al, hale⟩ : ∃ z, A % 2 ^ p = z := ⟨_, rfl⟩
  obtain ⟨be, hbee⟩ : ∃ z, B % 2 ^ p = z := ⟨_, rfl⟩
  obtain ⟨P, hPe⟩ : ∃ z, 2 ^ p = z := ⟨_, rfl⟩
  rw [hXe] at CX hA hX hYX
  rw [hYe] at CY hB hYX
  rw [hale] at hA hal
  rw [hbee] at hB hbe
  rw [hPe] at hA hB hal hbe
  rw [Nat.mul_comm] at hA hB
  have HCX := hid CX; have HCY := hid CY; have HB0 := hid HBITS
  have HA := hid hA; have HB := hid hB; have HAL := hid hal; have HBE := hid hbe
  have L0 : Hid (Look A B X Y P X Y 0 0 1 0 0 1 false) := Look.start hYX
  have epl : ((p + 64 : Nat) : Int) - 64 = (p : Int) := by omega
  have epl2 : (p : Int) + 64 - 64 = (p : Int) := by omega
  have ewp : IntKind.i64.wrap (p : Int) = (p : Int) := by rw [IntKind.wrap_i64]; omega
  clear hA hB hal hbe hXe hYe hale hbee hPe hpp CX CY HBITS hle h3 ha hb hbits hpi
  go_enter Tryd.func66, Tryd.ntmps66
  go_wp2_with fail
  obtain ⟨r, hr⟩ : ∃ r, r = w.heap.size := ⟨_, rfl⟩
  obtain ⟨w0, hw0⟩ : ∃ x, x = w.alloc (.cells #[.int .u64 0, .int .u64 0, .int .u64 0, .int .u64 0, .bool false] 68) := ⟨_, rfl⟩
  have B0 : Hid (Below w.heap.size w w0) := by rw [hw0]; exact (Below.refl _ w).alloc (Nat.le_refl _) _
  have R0 : Hid (Box5 w0 r (.int .u64 0) (.int .u64 0) (.int .u64 0) (.int .u64 0) (.bool false)) := by rw [hw0, hr]; exact Box5.new w _ _ _ _ _ _
  have HR : Hid (w.heap.size ≤ r ∧ r < w0.heap.size) := ⟨by omega, by rw [hw0]; simp; omega⟩
  rw [← hw0, ← hr]
  clear hw0 hr
  refine (HB0.out.out w0 B0.out).mono ?_
  rintro e w' ⟨rfl, rfl⟩
  go_wp2_with fail
  refine (HCX.out w0 B0.out).mono ?_
  rintro e w' ⟨rfl, rfl⟩
  go_wp2_with fail
  refine (HCY.out w0 B0.out).mono ?_
  rintro e w' ⟨rfl, rfl⟩
  clear HCX HCY HB0
  go_wp2
  obtain ⟨g, hg⟩ : ∃ g, g = w0.heap.size := ⟨_, rfl⟩
  obtain ⟨w1, hw1⟩ : ∃ x, x = w0.alloc (.cells #[.int .u64 0, .int .u64 0, .int .u64 1, .int .u64 0, .bool false] 68) := ⟨_, rfl⟩
  have B1 : Hid (Below w.heap.size w w1) := by rw [hw1]; exact B0.out.alloc B0.out.size _
  have G1 : Hid (Box5 w1 g (.int .u64 ((0 : Nat) : Int)) (.int .u64 ((0 : Nat) : Int)) (.int .u64 ((1 : Nat) : Int)) (.int .u64 ((0 : Nat) : Int)) (.bool false)) := by rw [hw1, hg]; exact Box5.new w0 _ _ _ _ _ _
  have R1 : Hid (Box5 w1 r (.int .u64 0) (.int .u64 0) (.int .u64 0) (.int .u64 0) (.bool false)) := by rw [hw1]; exact R0.out.alloc _
  have HG : Hid (w.heap.size ≤ r ∧ r < g ∧ w.heap.size ≤ g) := by
    have := HR.out
    refine ⟨?_, ?_, ?_⟩ <;> omega
  rw [← hw1, ← hg]
  clear hw1 hg R0 HR B0 epl epl2 ewp hil hn
  go_loopg [6, 7, 9, 10] Y (fun gh v6 v7 v9 v10 wr => ∃ (x y aa ab ba bb na nb : Nat) (o : Bool), v6 = .int .u64 x ∧ v7 = .int .u64 y ∧ v9 = .int .u64 na ∧ v10 = .int .u64 nb ∧ Hid (y = gh) ∧ x < 18446744073709551616 ∧ y ≤ x ∧ na ≤ nb ∧ nb < 18446744073709551616 ∧ Hid (Look A B X Y P x y aa ab ba bb na nb o) ∧ Hid (Box5 wr g (.int .u64 aa) (.int .u64 ab) (.int .u64 ba) (.int .u64 bb) (.bool o)) ∧ Hid (w1.grownBy wr (some g)))
  case atStart => exact ⟨X, Y, 0, 0, 1, 0, 0, 1, false, rfl, rfl, rfl, rfl, rfl, hX, hYX, by omega, by omega, L0, G1, World.grownBy.refl _ _⟩
  case round =>
    clear L0 G1
    obtain ⟨x, y, aa, ab, ba, bb, na, nb, o, rfl, rfl, rfl, rfl, hgk, hx, hyx, hna, hnb, hlook, hbox, hgr⟩ := hrel
    obtain ⟨sm1, sm2, sm3, sm4⟩ := hlook.out.smalls
    obtain ⟨c0, c1, c2, c3, c4, f0, f1, f2, f3, f4⟩ := hbox.out.cells
    have done : Hid (Looked w A B (.returned (.agg #[.int .u64 (aa : Nat), .int .u64 (ab : Nat), .int .u64 (ba : Nat), .int .u64 (bb : Nat), .bool o])) (((((wr.setCell ⟨r, 0, none⟩ (.int .u64 aa)).setCell ⟨r, 1, none⟩ (.int .u64 ab)).setCell ⟨r, 2, none⟩ (.int .u64 ba)).setCell ⟨r, 3, none⟩ (.int .u64 bb)).setCell ⟨r, 4, none⟩ (.bool o))) := by
      have hb : Below w.heap.size w wr := B1.out.grown hgr.out B1.out.size (fun k e => by simp at e; have := HG.out; omega)
      exact ⟨aa, ab, ba, bb, o, rfl, ⟨sm1, sm2, sm3, sm4⟩, fun h => hlook.out.apply h, hb.grown (grown_all _ _ _ _ _ _ _) hb.size (fun k e => by simp at e; have := HG.out; omega)⟩
    have R2 := hid (R1.out.grown hgr.out (by simp; have := HG.out; omega))
    by_cases h1 : nb ≤ y
    · by_cases h2 : bb + nb ≤ x - y
      · have y0 : 0 < y := by have := hlook.out.pos; omega
        obtain ⟨q, hq⟩ : ∃ q, q = x / y := ⟨_, rfl⟩
        obtain ⟨s, hs⟩ : ∃ s, s = x % y := ⟨_, rfl⟩
        have hxq : x = y * q + s := by rw [hq, hs]; exact (Nat.div_add_mod x y).symm
        have hsy : s < y := by rw [hs]; exact Nat.mod_lt _ y0
        have eq1 : (x : Int) / (y : Int) = (q : Int) := by rw [hq]; exact (Int.natCast_ediv _ _).symm
        have er1 : (x : Int) % (y : Int) = (s : Int) := by rw [hs]; exact (Int.natCast_emod _ _).symm
        have eq2 : Int.tdiv (x : Int) (y : Int) = (q : Int) := by rw [Int.tdiv_eq_ediv_of_nonneg (by omega)]; exact eq1
        have er2 : Int.tmod (x : Int) (y : Int) = (s : Int) := by rw [Int.tmod_eq_emod_of_nonneg (by omega)]; exact er1
        have hqx : q ≤ x := by rw [hq]; exact Nat.div_le_self _ _
        have ew1 : IntKind.u64.wrap (q : Int) = (q : Int) := by rw [IntKind.wrap_u64]; omega
        have ew2 : IntKind.u64.wrap (s : Int) = (s : Int) := by rw [IntKind.wrap_u64]; omega
        have hstep := hlook.out.step hX HA.out HB.out HAL.out HBE.out h1 h2 hxq hsy
        obtain ⟨fit1, fit2, fit3, -⟩ := hlook.out.fits hX h1 hxq
        have fit4 := hstep.nle
        obtain ⟨D, hD⟩ : ∃ D, D = x - y := ⟨_, rfl⟩
        obtain ⟨S, hS⟩ : ∃ S, S = bb + nb := ⟨_, rfl⟩
        have exy : IntKind.u64.wrap ((x : Int) - (y : Int)) = (D : Int) := by rw [IntKind.wrap_u64]; omega
        have ebn : IntKind.u64.wrap ((bb : Int) + (nb : Int)) = (S : Int) := by rw [IntKind.wrap_u64]; omega
        rw [← hD, ← hS] at h2
        obtain ⟨z1, hz1⟩ : ∃ z, z = q * na := ⟨_, rfl⟩
        obtain ⟨z2, hz2⟩ : ∃ z, z = q * nb := ⟨_, rfl⟩
        rw [← hz1] at fit2 fit4 hstep
        rw [← hz2] at fit2 fit3 fit4 hstep
        have ez1 : IntKind.u64.wrap ((q : Int) * (na : Int)) = (z1 : Int) := by rw [hz1, ← Int.natCast_mul]; exact wrap_u64 _ (by omega)
        have ez2 : IntKind.u64.wrap ((q : Int) * (nb : Int)) = (z2 : Int) := by rw [hz2, ← Int.natCast_mul]; exact wrap_u64 _ (by omega)
        obtain ⟨N1, hN1⟩ : ∃ z, z = ba + z1 := ⟨_, rfl⟩
        obtain ⟨N2, hN2⟩ : ∃ z, z = bb + z2 := ⟨_, rfl⟩
        rw [← hN1] at fit4 hstep
        rw [← hN2] at fit3 fit4 hstep
        have en1 : IntKind.u64.wrap ((ba : Int) + (z1 : Int)) = (N1 : Int) := by rw [IntKind.wrap_u64]; omega
        have en2 : IntKind.u64.wrap ((bb : Int) + (z2 : Int)) = (N2 : Int) := by rw [IntKind.wrap_u64]; omega
        have hy0 : ¬ (y : Int) = 0 := by omega
        have HST := hid hstep
        have BX := hid (hbox.out.drew.round (.int .u64 ba) (.int .u64 na) (.int .u64 bb) (.int .u64 nb) (.bool (!o)))
        have GX := hid (grownBy_trans (grownBy_drew hgr.out) (grown_round wr.drew g (.int .u64 ba) (.int .u64 na) (.int .u64 bb) (.int .u64 nb) (.bool (!o))))
        clear hstep hlook hq hs hxq hD hS hz1 hz2 hN1 hN2 fit1 fit2 done R2
        go_wp2
        go_region
        go_wp2
        go_roundg s
        case rel => exact ⟨y, s, ba, bb, na, nb, N1, N2, !o, rfl, rfl, rfl, rfl, rfl, by omega, by omega, fit4, fit3, HST, BX, GX⟩
        case measure => have := hgk.out; omega
      · obtain ⟨D, hD⟩ : ∃ D, D = x - y := ⟨_, rfl⟩
        obtain ⟨S, hS⟩ : ∃ S, S = bb + nb := ⟨_, rfl⟩
        have hnn : bb + nb < 18446744073709551616 := by
          have h5 := hlook.out.sumX
          have h6 := hlook.out.pos
          have h7 : bb ≤ y * bb := Nat.le_mul_of_pos_left _ (by omega)
          have h8 : nb ≤ x * nb := Nat.le_mul_of_pos_left _ (by omega)
          omega
        have exy : IntKind.u64.wrap ((x : Int) - (y : Int)) = (D : Int) := by rw [IntKind.wrap_u64]; omega
        have ebn : IntKind.u64.wrap ((bb : Int) + (nb : Int)) = (S : Int) := by rw [IntKind.wrap_u64]; omega
        rw [← hD, ← hS] at h2
        obtain ⟨d0, d1, d2, d3, d4, k0, k1, k2, k3, k4⟩ := R2.out.cells
        have HX := hid (R2.out.all (.int .u64 (aa : Nat)) (.int .u64 (ab : Nat)) (.int .u64 (ba : Nat)) (.int .u64 (bb : Nat)) (.bool o)).cells
        clear hD hS hnn hlook hgr hbox
        go_wp2
        refine bodyPost_ret (v := .agg #[.int .u64 (aa : Nat), .int .u64 (ab : Nat), .int .u64 (ba : Nat), .int .u64 (bb : Nat), .bool o]) ?_ rfl done.out
        obtain ⟨e0, e1, e2, e3, e4, -⟩ := HX.out
        simp [results, Tryd.results66, go_sem, e0, e1, e2, e3, e4]
    · obtain ⟨d0, d1, d2, d3, d4, k0, k1, k2, k3, k4⟩ := R2.out.cells
      have HX := hid (R2.out.all (.int .u64 (aa : Nat)) (.int .u64 (ab : Nat)) (.int .u64 (ba : Nat)) (.int .u64 (bb : Nat)) (.bool o)).cells
      clear hlook hgr hbox
      go_wp2
      refine bodyPost_ret (v := .agg #[.int .u64 (aa : Nat), .int .u64 (ab : Nat), .int .u64 (ba : Nat), .int .u64 (bb : Nat), .bool o]) ?_ rfl done.out
      obtain ⟨e0, e1, e2, e3, e4, -⟩ := HX.out
      simp [results, Tryd.results66, go_sem, e0, e1, e2, e3, e4]
end Go.Proofs.YtfjanomjmlcgaaaDoor
