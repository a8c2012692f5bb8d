/- nat.lookAhead by its contract. (nat.steps).apply by its contract. nat.Gcd by its contract. -/
import Derived.Test.YtjnbonellgpjnaaGreatKH
import Derived.Test.YtjnbonellgpjnaaGreatKD
import Derived.Test.YtjnbonellgpjnaaGreatKB
import Derived.Deep.RegionHeld3
set_option linter.unusedVariables false
set_option linter.unusedSimpArgs false
namespace Go.Proofs.YtjnbonellgpjnaaGreat
open Go.RowKit

/-- A struct of five cells in a block of its own. -/
def Box5 (w : World) (g : Nat) (a b c d e : Value) : Prop := ∃ t, w.heap[g]? = some (.cells #[a, b, c, d, e] t (0, 0))
theorem Box5.new (w : World) (a b c d e : Value) (t : TypeId) : Box5 (w.alloc (.cells #[a, b, c, d, e] t)) w.heap.size a b c d e := ⟨t, Deep.blk_alloc_new w _⟩
theorem Box5.cells {w : World} {g : Nat} {a b c d e : Value} (h : Box5 w g a b c d e) : w.cell? ⟨g, 0, none⟩ = some a ∧ w.cell? ⟨g, 1, none⟩ = some b ∧ w.cell? ⟨g, 2, none⟩ = some c ∧ w.cell? ⟨g, 3, none⟩ = some d ∧ w.cell? ⟨g, 4, none⟩ = some e ∧
    w.frozen? ⟨g, 0, none⟩ = false ∧ w.frozen? ⟨g, 1, none⟩ = false ∧ w.frozen? ⟨g, 2, none⟩ = false ∧ w.frozen? ⟨g, 3, none⟩ = false ∧ w.frozen? ⟨g, 4, none⟩ = false := by
  obtain ⟨t, h⟩ := h
  refine ⟨?_, ?_, ?_, ?_, ?_, ?_, ?_, ?_, ?_, ?_⟩ <;> first | (simp only [World.cell?, h]; rfl) | (simp only [World.frozen?, h]; rfl)
theorem Box5.lt {w : World} {g : Nat} {a b c d e : Value} (h : Box5 w g a b c d e) : g < w.heap.size := World.block_lt_of_cell? w _ h.cells.1
theorem Box5.below {w w' : World} {g : Nat} {a b c d e : Value} (h : Box5 w g a b c d e) (hb : Below w.heap.size w w') : Box5 w' g a b c d e := by
  have hlt := h.lt
  obtain ⟨t, h⟩ := h
  exact ⟨t, (hb.block g hlt).trans h⟩
theorem Box5.alloc {w : World} {g : Nat} {a b c d e : Value} (h : Box5 w g a b c d e) (o : Obj) : Box5 (w.alloc o) g a b c d e := h.below ((Below.refl _ w).alloc (Nat.le_refl _) o)
theorem Box5.of_block {w w' : World} {g : Nat} {a b c d e : Value} (h : Box5 w g a b c d e) (e1 : w'.heap[g]? = w.heap[g]?) : Box5 w' g a b c d e := let ⟨t, h⟩ := h; ⟨t, e1.trans h⟩
theorem Box5.grown {w w' : World} {g : Nat} {a b c d e : Value} (h : Box5 w g a b c d e) {r : Option Nat} (hg : w.grownBy w' r) (hr : some g ≠ r) : Box5 w' g a b c d e := h.of_block (hg.block g h.lt hr)
theorem Box5.drew {w : World} {g : Nat} {a b c d e : Value} (h : Box5 w g a b c d e) : Box5 w.drew g a b c d e := h
theorem Box5.s0 {w : World} {g : Nat} {a b c d e : Value} (h : Box5 w g a b c d e) (v : Value) : Box5 (w.setCell ⟨g, 0, none⟩ v) g v b c d e := by
  obtain ⟨t, h⟩ := h; exact ⟨t, by simp [World.setCell, Array.getElem?_modify, h]⟩
theorem Box5.s1 {w : World} {g : Nat} {a b c d e : Value} (h : Box5 w g a b c d e) (v : Value) : Box5 (w.setCell ⟨g, 1, none⟩ v) g a v c d e := by
  obtain ⟨t, h⟩ := h; exact ⟨t, by simp [World.setCell, Array.getElem?_modify, h]⟩
theorem Box5.s2 {w : World} {g : Nat} {a b c d e : Value} (h : Box5 w g a b c d e) (v : Value) : Box5 (w.setCell ⟨g, 2, none⟩ v) g a b v d e := by
  obtain ⟨t, h⟩ := h; exact ⟨t, by simp [World.setCell, Array.getElem?_modify, h]⟩
theorem Box5.s3 {w : World} {g : Nat} {a b c d e : Value} (h : Box5 w g a b c d e) (v : Value) : Box5 (w.setCell ⟨g, 3, none⟩ v) g a b c v e := by
  obtain ⟨t, h⟩ := h; exact ⟨t, by simp [World.setCell, Array.getElem?_modify, h]⟩
theorem Box5.s4 {w : World} {g : Nat} {a b c d e : Value} (h : Box5 w g a b c d e) (v : Value) : Box5 (w.setCell ⟨g, 4, none⟩ v) g a b c d v := by
  obtain ⟨t, h⟩ := h; exact ⟨t, by simp [World.setCell, Array.getElem?_modify, h]⟩
/-- A round's stores. -/
theorem Box5.round {w : World} {g : Nat} {a b c d e : Value} (h : Box5 w g a b c d e) (x0 x2 x1 x3 x4 : Value) :
    Box5 (((((w.setCell ⟨g, 0, none⟩ x0).setCell ⟨g, 2, none⟩ x2).setCell ⟨g, 1, none⟩ x1).setCell ⟨g, 3, none⟩ x3).setCell ⟨g, 4, none⟩ x4) g x0 x1 x2 x3 x4 := ((((h.s0 x0).s2 x2).s1 x1).s3 x3).s4 x4
theorem grown_round (w : World) (g : Nat) (x0 x2 x1 x3 x4 : Value) :
    w.grownBy (((((w.setCell ⟨g, 0, none⟩ x0).setCell ⟨g, 2, none⟩ x2).setCell ⟨g, 1, none⟩ x1).setCell ⟨g, 3, none⟩ x3).setCell ⟨g, 4, none⟩ x4) (some g) :=
  grownBy_set (grownBy_set (grownBy_set (grownBy_set (grownBy_set (World.grownBy.refl _ _) _ _) _ _) _ _) _ _) _ _
/-- The result's cells, stored. -/
theorem Box5.all {w : World} {g : Nat} {a b c d e : Value} (h : Box5 w g a b c d e) (x0 x1 x2 x3 x4 : Value) :
    Box5 (((((w.setCell ⟨g, 0, none⟩ x0).setCell ⟨g, 1, none⟩ x1).setCell ⟨g, 2, none⟩ x2).setCell ⟨g, 3, none⟩ x3).setCell ⟨g, 4, none⟩ x4) g x0 x1 x2 x3 x4 := ((((h.s0 x0).s1 x1).s2 x2).s3 x3).s4 x4
theorem grown_all (w : World) (g : Nat) (x0 x2 x1 x3 x4 : Value) :
    w.grownBy (((((w.setCell ⟨g, 0, none⟩ x0).setCell ⟨g, 1, none⟩ x1).setCell ⟨g, 2, none⟩ x2).setCell ⟨g, 3, none⟩ x3).setCell ⟨g, 4, none⟩ x4) (some g) :=
  grownBy_set (grownBy_set (grownBy_set (grownBy_set (grownBy_set (World.grownBy.refl _ _) _ _) _ _) _ _) _ _) _ _

/-- What lookAhead hands back. -/
def Looked (w : World) (A B : Nat) (e : Ending) (w' : World) : Prop :=
  ∃ aa ab ba bb o, e = .returned (.agg #[.int .u64 (aa : Nat), .int .u64 (ab : Nat), .int .u64 (ba : Nat), .int .u64 (bb : Nat), .bool o]) ∧ (aa < 4294967296 ∧ ab < 4294967296 ∧ ba < 4294967296 ∧ bb < 4294967296) ∧ (0 < ab → ∃ p q, Steps A B aa ab ba bb o p q) ∧ Below w.heap.size w w'

/-- Where the highest 64 digits begin. -/
theorem place_of {A : Nat} (h : 2 < (limbs A).length) : ∃ p i n, bitsN A = p + 64 ∧ p = 32 * i + n ∧ n < 32 ∧ i + 1 < (limbs A).length ∧ A / 2 ^ p < 18446744073709551616 := by
  have hp : 0 < A := by
    rcases Nat.eq_zero_or_pos A with h0 | h0
    · subst h0; simp [limbs_zero] at h
    · exact h0
  have h1 := bitsN_limbs hp
  have h2 := bitsN_le ((limbs_ok A).getD ((limbs A).length - 1))
  have h3 : 0 < bitsN ((limbs A).getD ((limbs A).length - 1) 0) := by
    unfold bitsN
    rw [if_neg (limbs_last hp).2]
    omega
  have h4 : A < 2 ^ bitsN A := by
    unfold bitsN
    rw [if_neg (by omega)]
    exact Nat.lt_log2_self
  generalize bitsN ((limbs A).getD ((limbs A).length - 1) 0) = z at *
  obtain ⟨p, hpe⟩ : ∃ p, bitsN A = p + 64 := ⟨bitsN A - 64, by omega⟩
  refine ⟨p, p / 32, p % 32, hpe, by omega, by omega, by omega, ?_⟩
  rw [hpe, Nat.pow_add] at h4
  exact Nat.div_lt_of_lt_mul (by simpa using h4)

set_option maxRecDepth 100000 in
set_option maxHeartbeats 4000000 in
theorem nat_lookAhead (a b : Option Addr) (la ca lb cb A B : Nat) (w : World) (ha : Sees w (.slice a la ca) (limbs A)) (hb : Sees w (.slice b lb cb) (limbs B)) (h3 : 2 < (limbs A).length) (hle : B ≤ A) (hl : (limbs A).length ≤ 1000000000000) :
    Calls Tryz.prog 127 #[.slice a la ca, .slice b lb cb] w fun e w' => Looked w A B e w' := by
  obtain ⟨p, i, n, hbits, hpi, hn, hil, hX⟩ := place_of h3
  have HBITS := hid (fun w' (hb : Below w.heap.size w w') => nat_bits a la ca (limbs A) w' (ha.below hb))
  rw [val_limbs, hbits] at HBITS
  have CX := fun w' (hb : Below w.heap.size w w') => nat_wordAt (.slice a la ca) (limbs A) p i n w' (ha.below hb) hpi hn (by omega)
  have CY := fun w' (hb' : Below w.heap.size w w') => nat_wordAt (.slice b lb cb) (limbs B) p i n w' (hb.below hb') hpi hn (by omega)
  rw [val_limbs] at CX CY
  have hYX : B / 2 ^ p ≤ A / 2 ^ p := Nat.div_le_div_right hle
  rw [Nat.mod_eq_of_lt hX] at CX
  rw [Nat.mod_eq_of_lt (by omega)] at CY
  have hpp := Nat.two_pow_pos p
  have hA := (Nat.div_add_mod A (2 ^ p)).symm
  have hB := (Nat.div_add_mod B (2 ^ p)).symm
  have hal := Nat.mod_lt A hpp
  have hbe := Nat.mod_lt B hpp
  obtain ⟨X, hXe⟩ : ∃ X, A / 2 ^ p = X := ⟨_, rfl⟩
  obtain ⟨Y, hYe⟩ : ∃ Y, B / 2 ^ p = Y := ⟨_, rfl⟩
  obtain ⟨al, hale⟩ : ∃ z, A % 2 ^ p = z := ⟨_, rfl⟩
  obtain ⟨be, hbee⟩ : ∃ z, B % 2 ^ p = z := ⟨_, rfl⟩
  obtain ⟨P, hPe⟩ : ∃ z, 2 ^ p = z := ⟨_, rfl⟩
  rw [hXe] at CX hA hX hYX
  rw [hYe] at CY hB hYX
  rw [hale] at hA hal
  rw [hbee] at hB hbe
  rw [hPe] at hA hB hal hbe
  rw [Nat.mul_comm] at hA hB
  have HCX := hid CX; have HCY := hid CY; have HB0 := hid HBITS
  have HA := hid hA; have HB := hid hB; have HAL := hid hal; have HBE := hid hbe
  have L0 : Hid (Look A B X Y P X Y 0 0 1 0 0 1 false) := Look.start hYX
  have epl : ((p + 64 : Nat) : Int) - 64 = (p : Int) := by omega
  have epl2 : (p : Int) + 64 - 64 = (p : Int) := by omega
  have ewp : IntKind.i64.wrap (p : Int) = (p : Int) := by rw [IntKind.wrap_i64]; omega
  clear hA hB hal hbe hXe hYe hale hbee hPe hpp CX CY HBITS hle h3 ha hb hbits hpi
  go_enter Tryz.func127, Tryz.ntmps127
  go_wp2_with fail
  obtain ⟨r, hr⟩ : ∃ r, r = w.heap.size := ⟨_, rfl⟩
  obtain ⟨w0, hw0⟩ : ∃ x, x = w.alloc (.cells #[.int .u64 0, .int .u64 0, .int .u64 0, .int .u64 0, .bool false] 119) := ⟨_, rfl⟩
  have B0 : Hid (Below w.heap.size w w0) := by rw [hw0]; exact (Below.refl _ w).alloc (Nat.le_refl _) _
  have R0 : Hid (Box5 w0 r (.int .u64 0) (.int .u64 0) (.int .u64 0) (.int .u64 0) (.bool false)) := by rw [hw0, hr]; exact Box5.new w _ _ _ _ _ _
  have HR : Hid (w.heap.size ≤ r ∧ r < w0.heap.size) := ⟨by omega, by rw [hw0]; simp; omega⟩
  rw [← hw0, ← hr]
  clear hw0 hr
  refine (HB0.out.out w0 B0.out).mono ?_
  rintro e w' ⟨rfl, rfl⟩
  go_wp2_with fail
  refine (HCX.out w0 B0.out).mono ?_
  rintro e w' ⟨rfl, rfl⟩
  go_wp2_with fail
  refine (HCY.out w0 B0.out).mono ?_
  rintro e w' ⟨rfl, rfl⟩
  clear HCX HCY HB0
  go_wp2
  obtain ⟨g, hg⟩ : ∃ g, g = w0.heap.size := ⟨_, rfl⟩
  obtain ⟨w1, hw1⟩ : ∃ x, x = w0.alloc (.cells #[.int .u64 0, .int .u64 0, .int .u64 1, .int .u64 0, .bool false] 119) := ⟨_, rfl⟩
  have B1 : Hid (Below w.heap.size w w1) := by rw [hw1]; exact B0.out.alloc B0.out.size _
  have G1 : Hid (Box5 w1 g (.int .u64 ((0 : Nat) : Int)) (.int .u64 ((0 : Nat) : Int)) (.int .u64 ((1 : Nat) : Int)) (.int .u64 ((0 : Nat) : Int)) (.bool false)) := by rw [hw1, hg]; exact Box5.new w0 _ _ _ _ _ _
  have R1 : Hid (Box5 w1 r (.int .u64 0) (.int .u64 0) (.int .u64 0) (.int .u64 0) (.bool false)) := by rw [hw1]; exact R0.out.alloc _
  have HG : Hid (w.heap.size ≤ r ∧ r < g ∧ w.heap.size ≤ g) := by
    have := HR.out
    refine ⟨?_, ?_, ?_⟩ <;> omega
  rw [← hw1, ← hg]
  clear hw1 hg R0 HR B0 epl epl2 ewp hil hn
  go_loopg [6, 7, 9, 10] Y (fun gh v6 v7 v9 v10 wr => ∃ (x y aa ab ba bb na nb : Nat) (o : Bool), v6 = .int .u64 x ∧ v7 = .int .u64 y ∧ v9 = .int .u64 na ∧ v10 = .int .u64 nb ∧ Hid (y = gh) ∧ x < 18446744073709551616 ∧ y ≤ x ∧ na ≤ nb ∧ nb < 18446744073709551616 ∧ Hid (Look A B X Y P x y aa ab ba bb na nb o) ∧ Hid (Box5 wr g (.int .u64 aa) (.int .u64 ab) (.int .u64 ba) (.int .u64 bb) (.bool o)) ∧ Hid (w1.grownBy wr (some g)))
  case atStart => exact ⟨X, Y, 0, 0, 1, 0, 0, 1, false, rfl, rfl, rfl, rfl, rfl, hX, hYX, by omega, by omega, L0, G1, World.grownBy.refl _ _⟩
  case round =>
    clear L0 G1
    obtain ⟨x, y, aa, ab, ba, bb, na, nb, o, rfl, rfl, rfl, rfl, hgk, hx, hyx, hna, hnb, hlook, hbox, hgr⟩ := hrel
    obtain ⟨sm1, sm2, sm3, sm4⟩ := hlook.out.smalls
    obtain ⟨c0, c1, c2, c3, c4, f0, f1, f2, f3, f4⟩ := hbox.out.cells
    have done : Hid (Looked w A B (.returned (.agg #[.int .u64 (aa : Nat), .int .u64 (ab : Nat), .int .u64 (ba : Nat), .int .u64 (bb : Nat), .bool o])) (((((wr.setCell ⟨r, 0, none⟩ (.int .u64 aa)).setCell ⟨r, 1, none⟩ (.int .u64 ab)).setCell ⟨r, 2, none⟩ (.int .u64 ba)).setCell ⟨r, 3, none⟩ (.int .u64 bb)).setCell ⟨r, 4, none⟩ (.bool o))) := by
      have hb : Below w.heap.size w wr := B1.out.grown hgr.out B1.out.size (fun k e => by simp at e; have := HG.out; omega)
      exact ⟨aa, ab, ba, bb, o, rfl, ⟨sm1, sm2, sm3, sm4⟩, fun h => hlook.out.apply h, hb.grown (grown_all _ _ _ _ _ _ _) hb.size (fun k e => by simp at e; have := HG.out; omega)⟩
    have R2 := hid (R1.out.grown hgr.out (by simp; have := HG.out; omega))
    by_cases h1 : nb ≤ y
    · by_cases h2 : bb + nb ≤ x - y
      · have y0 : 0 < y := by have := hlook.out.pos; omega
        obtain ⟨q, hq⟩ : ∃ q, q = x / y := ⟨_, rfl⟩
        obtain ⟨s, hs⟩ : ∃ s, s = x % y := ⟨_, rfl⟩
        have hxq : x = y * q + s := by rw [hq, hs]; exact (Nat.div_add_mod x y).symm
        have hsy : s < y := by rw [hs]; exact Nat.mod_lt _ y0
        have eq1 : (x : Int) / (y : Int) = (q : Int) := by rw [hq]; exact (Int.natCast_ediv _ _).symm
        have er1 : (x : Int) % (y : Int) = (s : Int) := by rw [hs]; exact (Int.natCast_emod _ _).symm
        have eq2 : Int.tdiv (x : Int) (y : Int) = (q : Int) := by rw [Int.tdiv_eq_ediv_of_nonneg (by omega)]; exact eq1
        have er2 : Int.tmod (x : Int) (y : Int) = (s : Int) := by rw [Int.tmod_eq_emod_of_nonneg (by omega)]; exact er1
        have hqx : q ≤ x := by rw [hq]; exact Nat.div_le_self _ _
        have ew1 : IntKind.u64.wrap (q : Int) = (q : Int) := by rw [IntKind.wrap_u64]; omega
        have ew2 : IntKind.u64.wrap (s : Int) = (s : Int) := by rw [IntKind.wrap_u64]; omega
        have hstep := hlook.out.step hX HA.out HB.out HAL.out HBE.out h1 h2 hxq hsy
        obtain ⟨fit1, fit2, fit3, -⟩ := hlook.out.fits hX h1 hxq
        have fit4 := hstep.nle
        obtain ⟨D, hD⟩ : ∃ D, D = x - y := ⟨_, rfl⟩
        obtain ⟨S, hS⟩ : ∃ S, S = bb + nb := ⟨_, rfl⟩
        have exy : IntKind.u64.wrap ((x : Int) - (y : Int)) = (D : Int) := by rw [IntKind.wrap_u64]; omega
        have ebn : IntKind.u64.wrap ((bb : Int) + (nb : Int)) = (S : Int) := by rw [IntKind.wrap_u64]; omega
        rw [← hD, ← hS] at h2
        obtain ⟨z1, hz1⟩ : ∃ z, z = q * na := ⟨_, rfl⟩
        obtain ⟨z2, hz2⟩ : ∃ z, z = q * nb := ⟨_, rfl⟩
        rw [← hz1] at fit2 fit4 hstep
        rw [← hz2] at fit2 fit3 fit4 hstep
        have ez1 : IntKind.u64.wrap ((q : Int) * (na : Int)) = (z1 : Int) := by rw [hz1, ← Int.natCast_mul]; exact wrap_u64 _ (by omega)
        have ez2 : IntKind.u64.wrap ((q : Int) * (nb : Int)) = (z2 : Int) := by rw [hz2, ← Int.natCast_mul]; exact wrap_u64 _ (by omega)
        obtain ⟨N1, hN1⟩ : ∃ z, z = ba + z1 := ⟨_, rfl⟩
        obtain ⟨N2, hN2⟩ : ∃ z, z = bb + z2 := ⟨_, rfl⟩
        rw [← hN1] at fit4 hstep
        rw [← hN2] at fit3 fit4 hstep
        have en1 : IntKind.u64.wrap ((ba : Int) + (z1 : Int)) = (N1 : Int) := by rw [IntKind.wrap_u64]; omega
        have en2 : IntKind.u64.wrap ((bb : Int) + (z2 : Int)) = (N2 : Int) := by rw [IntKind.wrap_u64]; omega
        have hy0 : ¬ (y : Int) = 0 := by omega
        have HST := hid hstep
        have BX := hid (hbox.out.drew.round (.int .u64 ba) (.int .u64 na) (.int .u64 bb) (.int .u64 nb) (.bool (!o)))
        have GX := hid (grownBy_trans (grownBy_drew hgr.out) (grown_round wr.drew g (.int .u64 ba) (.int .u64 na) (.int .u64 bb) (.int .u64 nb) (.bool (!o))))
        clear hstep hlook hq hs hxq hD hS hz1 hz2 hN1 hN2 fit1 fit2 done R2
        go_wp2
        go_region
        go_wp2
        go_roundg s
        case rel => exact ⟨y, s, ba, bb, na, nb, N1, N2, !o, rfl, rfl, rfl, rfl, rfl, by omega, by omega, fit4, fit3, HST, BX, GX⟩
        case measure => have := hgk.out; omega
      · obtain ⟨D, hD⟩ : ∃ D, D = x - y := ⟨_, rfl⟩
        obtain ⟨S, hS⟩ : ∃ S, S = bb + nb := ⟨_, rfl⟩
        have hnn : bb + nb < 18446744073709551616 := by
          have h5 := hlook.out.sumX
          have h6 := hlook.out.pos
          have h7 : bb ≤ y * bb := Nat.le_mul_of_pos_left _ (by omega)
          have h8 : nb ≤ x * nb := Nat.le_mul_of_pos_left _ (by omega)
          omega
        have exy : IntKind.u64.wrap ((x : Int) - (y : Int)) = (D : Int) := by rw [IntKind.wrap_u64]; omega
        have ebn : IntKind.u64.wrap ((bb : Int) + (nb : Int)) = (S : Int) := by rw [IntKind.wrap_u64]; omega
        rw [← hD, ← hS] at h2
        obtain ⟨d0, d1, d2, d3, d4, k0, k1, k2, k3, k4⟩ := R2.out.cells
        have HX := hid (R2.out.all (.int .u64 (aa : Nat)) (.int .u64 (ab : Nat)) (.int .u64 (ba : Nat)) (.int .u64 (bb : Nat)) (.bool o)).cells
        clear hD hS hnn hlook hgr hbox
        go_wp2
        refine bodyPost_ret (v := .agg #[.int .u64 (aa : Nat), .int .u64 (ab : Nat), .int .u64 (ba : Nat), .int .u64 (bb : Nat), .bool o]) ?_ rfl done.out
        obtain ⟨e0, e1, e2, e3, e4, -⟩ := HX.out
        simp [results, Tryz.results127, go_sem, e0, e1, e2, e3, e4]
    · obtain ⟨d0, d1, d2, d3, d4, k0, k1, k2, k3, k4⟩ := R2.out.cells
      have HX := hid (R2.out.all (.int .u64 (aa : Nat)) (.int .u64 (ab : Nat)) (.int .u64 (ba : Nat)) (.int .u64 (bb : Nat)) (.bool o)).cells
      clear hlook hgr hbox
      go_wp2
      refine bodyPost_ret (v := .agg #[.int .u64 (aa : Nat), .int .u64 (ab : Nat), .int .u64 (ba : Nat), .int .u64 (bb : Nat), .bool o]) ?_ rfl done.out
      obtain ⟨e0, e1, e2, e3, e4, -⟩ := HX.out
      simp [results, Tryz.results127, go_sem, e0, e1, e2, e3, e4]
end Go.Proofs.YtjnbonellgpjnaaGreat

set_option linter.unusedVariables false
set_option linter.unusedSimpArgs false
namespace Go.Proofs.YtjnbonellgpjnaaGreat
open Go.RowKit

/-- Both results are told by numbers as many limbs as b's can hold. -/
theorem steps_comb {A B aa ab ba bb p q n : Nat} {o : Bool} (h : Steps A B aa ab ba bb o p q) (hB : B < 4294967296 ^ n) : ∃ k1 k2, p < 4294967296 ^ n ∧ q < 4294967296 ^ n ∧
    (if o then (p + B * ab + 4294967296 ^ n * k1 = A % 4294967296 ^ n * aa ∨ p + B * ab = A % 4294967296 ^ n * aa + 4294967296 ^ n * k1) ∧ (q + A % 4294967296 ^ n * ba + 4294967296 ^ n * k2 = B * bb ∨ q + A % 4294967296 ^ n * ba = B * bb + 4294967296 ^ n * k2)
     else (p + A % 4294967296 ^ n * aa + 4294967296 ^ n * k1 = B * ab ∨ p + A % 4294967296 ^ n * aa = B * ab + 4294967296 ^ n * k1) ∧ (q + B * bb + 4294967296 ^ n * k2 = A % 4294967296 ^ n * ba ∨ q + B * bb = A % 4294967296 ^ n * ba + 4294967296 ^ n * k2)) := by
  have hd := (Nat.mod_add_div A (4294967296 ^ n)).symm
  have hp : p < 4294967296 ^ n := Nat.lt_of_le_of_lt h.le hB
  have hq : q < 4294967296 ^ n := Nat.lt_trans h.lt hp
  have e1 := h.eqa
  have e2 := h.eqb
  generalize 4294967296 ^ n = M at *
  generalize A % M = L at *
  generalize A / M = H at *
  subst hd
  refine ⟨H * aa, H * ba, hp, hq, ?_⟩
  cases o
  · simp only [Bool.false_eq_true, if_false] at e1 e2 ⊢
    refine ⟨.inl ?_, .inr ?_⟩
    · rw [Nat.mul_add, Nat.mul_comm aa L, Nat.mul_left_comm] at e1
      rw [Nat.mul_comm B, ← e1, Nat.mul_comm H aa]; omega
    · rw [Nat.mul_add, Nat.mul_comm ba L, Nat.mul_left_comm] at e2
      rw [Nat.mul_comm B, e2, Nat.mul_comm H ba]
  · simp only [if_true] at e1 e2 ⊢
    refine ⟨.inr ?_, .inl ?_⟩
    · rw [Nat.mul_add, Nat.mul_comm aa L, Nat.mul_left_comm] at e1
      rw [Nat.mul_comm B, e1, Nat.mul_comm H aa]
    · rw [Nat.mul_add, Nat.mul_comm ba L, Nat.mul_left_comm] at e2
      rw [Nat.mul_comm B, ← e2, Nat.mul_comm H ba]; omega

/-- The slice to a place, its capacity kept: 'a[:n]'. -/
theorem Sees.front {w : World} {ao : Option Addr} {len cap : Nat} {l : List Nat} (h : Sees w (.slice ao len cap) l) (n : Nat) (hn : n ≤ l.length) : Sees w (.slice ao n cap) (l.take n) := by
  obtain ⟨ao', cap', h1, h2, h3, h4, hn0, h5⟩ := h
  simp only [Value.slice.injEq] at h1
  obtain ⟨rfl, rfl, rfl⟩ := h1
  have hl : (l.take n).length = n := by simp; omega
  refine ⟨ao, cap, by rw [hl], by omega, by omega, h4.take n, hn0, fun hp => ?_⟩
  obtain ⟨b, o, ha, hcell⟩ := h5 (by omega)
  refine ⟨b, o, ha, fun i hi => ?_⟩
  rw [hl] at hi
  rw [hcell i (by omega), List.getD_eq_getElem?_getD, List.getD_eq_getElem?_getD, List.getElem?_take_of_lt hi]
theorem val_front {l : List Nat} (h : Ok l) (n : Nat) (hn : n ≤ l.length) : val (l.take n) = val l % 4294967296 ^ n := by
  have h1 := val_split l n hn
  have h2 := val_lt (h.take n)
  rw [List.length_take, Nat.min_eq_left hn] at h2
  rw [h1, Nat.add_mul_mod_self_left, Nat.mod_eq_of_lt h2]

/-- nat.combine, the length said apart. -/
theorem nat_combine' {A B : Option Addr} {ca cb m n d k len : Nat} {a b : List Nat} {w : World} (ha : Sees w (.slice A len ca) a) (hb : Sees w (.slice B len cb) b) (hal : a.length = len) (hm : m < 4294967296) (hn : n < 4294967296) (hl : len ≤ 35184372088832)
    (hd : d < 4294967296 ^ len) (e : d + val b * n + 4294967296 ^ len * k = val a * m ∨ d + val b * n = val a * m + 4294967296 ^ len * k) :
    Calls Tryz.prog 136 #[.slice A len ca, .int .u64 m, .slice B len cb, .int .u64 n] w fun e w' => IsNum w d e w' := by
  subst hal
  exact nat_combine A B ca cb m n d k a b w ha hb hm hn hl hd e

set_option maxRecDepth 100000 in
set_option maxHeartbeats 4000000 in
theorem nat_apply {a b : Option Addr} {la ca n cb A B aa ab ba bb p q : Nat} {o : Bool} {w : World} (ha : Sees w (.slice a la ca) (limbs A)) (hb : Sees w (.slice b n cb) (limbs B)) (hs : Steps A B aa ab ba bb o p q) (sm : aa < 4294967296 ∧ ab < 4294967296 ∧ ba < 4294967296 ∧ bb < 4294967296) (hle : (limbs B).length ≤ (limbs A).length) (hl : (limbs A).length ≤ 35184372088832) :
    Calls Tryz.prog 128 #[.agg #[.int .u64 (aa : Nat), .int .u64 (ab : Nat), .int .u64 (ba : Nat), .int .u64 (bb : Nat), .bool o], .slice a la ca, .slice b n cb] w fun e w' => ∃ u v, e = .returned (.tuple #[u, v]) ∧ Sees w' u (limbs p) ∧ Sees w' v (limbs q) ∧ Below w.heap.size w w' := by
  have hn : n = (limbs B).length := hb.len_eq.1
  have hla : la = (limbs A).length := ha.len_eq.1
  rw [← hn] at hle
  have hlt : n ≤ la := by omega
  have hBn : B < 4294967296 ^ n := by rw [hn]; exact lt_pow_length B
  obtain ⟨k1, k2, hp, hq, hcomb⟩ := steps_comb hs hBn
  obtain ⟨s1, s2, s3, s4⟩ := sm
  have hf := ha.front n (by omega)
  have hfl : ((limbs A).take n).length = n := by simp; omega
  have hfv : val ((limbs A).take n) = A % 4294967296 ^ n := by rw [val_front (limbs_ok A) n (by omega), val_limbs]
  obtain ⟨f, hfe⟩ : ∃ f, (limbs A).take n = f := ⟨_, rfl⟩
  rw [hfe] at hf hfl hfv
  obtain ⟨bl, hbe⟩ : ∃ f, limbs B = f := ⟨_, rfl⟩
  have hbv : val bl = B := by rw [← hbe, val_limbs]
  rw [hbe] at hb hn
  rw [← hfv, ← hbv] at hcomb
  have hca : n ≤ ca := by have := ha.len_eq.2; omega
  have HLN : Hid (n ≤ 35184372088832) := by show n ≤ 35184372088832; omega
  obtain ⟨w0, hw0⟩ : ∃ x, x = w.alloc (.cells #[.int .u64 (aa : Nat), .int .u64 (ab : Nat), .int .u64 (ba : Nat), .int .u64 (bb : Nat), .bool o] 119) := ⟨_, rfl⟩
  obtain ⟨g, hg⟩ : ∃ g, g = w.heap.size := ⟨_, rfl⟩
  have B0 : Hid (Below w.heap.size w w0) := by rw [hw0]; exact (Below.refl _ w).alloc (Nat.le_refl _) _
  have X0 : Hid (Box5 w0 g (.int .u64 (aa : Nat)) (.int .u64 (ab : Nat)) (.int .u64 (ba : Nat)) (.int .u64 (bb : Nat)) (.bool o)) := by rw [hw0, hg]; exact Box5.new w _ _ _ _ _ _
  have HW0 := hid hw0.symm; have HG := hid hg.symm
  have HF := hid (hf.below B0.out); have HB := hid (hb.below B0.out)
  have hnl : (n : Int) ≤ (la : Int) := by omega
  have hnc : (n : Int) ≤ (ca : Int) := by omega
  clear hs hBn hfe hbe hw0 hg ha hb hf hla hfv hbv
  cases o
  · simp only [Bool.false_eq_true, if_false] at hcomb
    have HC := hid hcomb
    have C1 := hid (fun w' (h : Below w0.heap.size w0 w') => nat_combine' (HB.out.below h) (HF.out.below h) hn.symm s2 s1 HLN.out hp hcomb.1)
    have C2 := hid (fun w' (h : Below w0.heap.size w0 w') => nat_combine' (HF.out.below h) (HB.out.below h) hfl s3 s4 HLN.out hq hcomb.2)
    clear hcomb HC hp hq hn hfl HF HB
    go_enter Tryz.func128, Tryz.ntmps128
    obtain ⟨c0, c1, c2, c3, c4, f0, f1, f2, f3, f4⟩ := X0.out.cells
    go_wp2
    rw [HW0.out, HG.out]
    have HD := hid ((Below.refl w0.heap.size w0).drew)
    clear HW0 HG
    go_region_held3 (fun w' => w'.cell? ⟨g, 0, none⟩ = some (.int .u64 (aa : Nat)) ∧ w'.cell? ⟨g, 1, none⟩ = some (.int .u64 (ab : Nat)) ∧ w'.cell? ⟨g, 2, none⟩ = some (.int .u64 (ba : Nat)) ∧ w'.cell? ⟨g, 3, none⟩ = some (.int .u64 (bb : Nat)) ∧ Hid (Below w0.heap.size w0 w')) (exact ⟨by assumption, by assumption, by assumption, by assumption, by assumption⟩) (first
      | (go_at_call 136
         with_reducible refine (C1.out _ (Hid.out (by assumption))).mono ?_
         rintro e wx ⟨u, rfl, hs, hb⟩
         have hbn := hid (step_below (w := w0) (Hid.out (by assumption)) hb)
         obtain ⟨xc0, xc1, xc2, xc3, -⟩ := (X0.out.below hbn.out).cells
         try replace HV := hid (HV.out.below hb)
         have HU := hid hs
         clear hs hb)
      | (go_at_call 136
         with_reducible refine (C2.out _ (Hid.out (by assumption))).mono ?_
         rintro e wx ⟨v, rfl, hs, hb⟩
         have hbn := hid (step_below (w := w0) (Hid.out (by assumption)) hb)
         obtain ⟨xc0, xc1, xc2, xc3, -⟩ := (X0.out.below hbn.out).cells
         try replace HU := hid (HU.out.below hb)
         have HV := hid hs
         clear hs hb))
    all_goals
      go_wp2
      go_ret2
      exact ⟨u, v, rfl, HU.out, HV.out, B0.out.trans (hbn.out.mono B0.out.size)⟩
  · simp only [if_true] at hcomb
    have HC := hid hcomb
    have C1 := hid (fun w' (h : Below w0.heap.size w0 w') => nat_combine' (HF.out.below h) (HB.out.below h) hfl s1 s2 HLN.out hp hcomb.1)
    have C2 := hid (fun w' (h : Below w0.heap.size w0 w') => nat_combine' (HB.out.below h) (HF.out.below h) hn.symm s4 s3 HLN.out hq hcomb.2)
    clear hcomb HC hp hq hn hfl HF HB
    go_enter Tryz.func128, Tryz.ntmps128
    obtain ⟨c0, c1, c2, c3, c4, f0, f1, f2, f3, f4⟩ := X0.out.cells
    go_wp2
    rw [HW0.out, HG.out]
    have HD := hid ((Below.refl w0.heap.size w0).drew)
    clear HW0 HG
    go_region_held3 (fun w' => w'.cell? ⟨g, 0, none⟩ = some (.int .u64 (aa : Nat)) ∧ w'.cell? ⟨g, 1, none⟩ = some (.int .u64 (ab : Nat)) ∧ w'.cell? ⟨g, 2, none⟩ = some (.int .u64 (ba : Nat)) ∧ w'.cell? ⟨g, 3, none⟩ = some (.int .u64 (bb : Nat)) ∧ Hid (Below w0.heap.size w0 w')) (exact ⟨by assumption, by assumption, by assumption, by assumption, by assumption⟩) (first
      | (go_at_call 136
         with_reducible refine (C1.out _ (Hid.out (by assumption))).mono ?_
         rintro e wx ⟨u, rfl, hs, hb⟩
         have hbn := hid (step_below (w := w0) (Hid.out (by assumption)) hb)
         obtain ⟨xc0, xc1, xc2, xc3, -⟩ := (X0.out.below hbn.out).cells
         try replace HV := hid (HV.out.below hb)
         have HU := hid hs
         clear hs hb)
      | (go_at_call 136
         with_reducible refine (C2.out _ (Hid.out (by assumption))).mono ?_
         rintro e wx ⟨v, rfl, hs, hb⟩
         have hbn := hid (step_below (w := w0) (Hid.out (by assumption)) hb)
         obtain ⟨xc0, xc1, xc2, xc3, -⟩ := (X0.out.below hbn.out).cells
         try replace HU := hid (HU.out.below hb)
         have HV := hid hs
         clear hs hb))
    all_goals
      go_wp2
      go_ret2
      exact ⟨u, v, rfl, HU.out, HV.out, B0.out.trans (hbn.out.mono B0.out.size)⟩
end Go.Proofs.YtjnbonellgpjnaaGreat

set_option linter.unusedVariables false
set_option linter.unusedSimpArgs false
namespace Go.Proofs.YtjnbonellgpjnaaGreat
open Go.RowKit

theorem limbs_length_mono {x y : Nat} (h : x ≤ y) : (limbs x).length ≤ (limbs y).length := by
  rcases Nat.lt_or_ge (limbs y).length (limbs x).length with h1 | h1
  · have := limbs_length_lt h1; omega
  · exact h1

/-- What holds at the head of each round. -/
structure GcdAt (w wr : World) (X Y M p q : Nat) (a b : Option Addr) (la ca lb cb : Nat) : Prop where
  seesA : Sees wr (.slice a la ca) (limbs p)
  seesB : Sees wr (.slice b lb cb) (limbs q)
  le : q ≤ p
  len : (limbs p).length ≤ M
  gcd : Nat.gcd p q = Nat.gcd X Y
  bel : Below w.heap.size w wr

set_option maxRecDepth 100000 in
set_option maxHeartbeats 4000000 in
theorem nat_gcd {a b : Value} {l m : List Nat} {w : World} (ha : Sees w a l) (hb : Sees w b m) (hl : l.length ≤ 1000000000) (hm : m.length ≤ 1000000000) :
    Calls Tryz.prog 113 #[a, b] w fun e w' => IsNum w (Nat.gcd (val l) (val m)) e w' := by
  have hA := ha; have hB := hb
  obtain ⟨A0, cA0, rfl, -, -, -, -, -⟩ := ha
  obtain ⟨B0, cB0, rfl, -, -, -, -, -⟩ := hb
  have hlx := (limbs_prefix hA.ok).2
  have hly := (limbs_prefix hB.ok).2
  go_enter Tryz.func113, Tryz.ntmps113
  go_wp2_with fail
  refine (trim_sees _ _ _ _ _ hA).mono ?_
  rintro e w' ⟨⟨A, rfl, hA1, -⟩, rfl⟩
  go_wp2_with fail
  refine (trim_sees _ _ _ _ _ hB).mono ?_
  rintro e w' ⟨⟨B, rfl, hB1, -⟩, rfl⟩
  obtain ⟨X, hX⟩ : ∃ X, val l = X := ⟨_, rfl⟩
  obtain ⟨Y, hY⟩ : ∃ Y, val m = Y := ⟨_, rfl⟩
  rw [hX] at hA1 hlx
  rw [hY] at hB1 hly
  simp only [hX, hY]
  have HA := hid hA1; have HB := hid hB1
  have hlx : (limbs X).length ≤ 1000000000 := by omega
  have hly : (limbs Y).length ≤ 1000000000 := by omega
  have HCMP := hid (nat_cmp _ _ _ _ _ _ _ _ w hA1 hB1)
  rw [val_limbs, val_limbs] at HCMP
  have HXE := hid hX; have HYE := hid hY
  clear hX hY hA hB hA1 hB1 hl hm
  go_wp2_with fail
  refine HCMP.out.mono ?_
  have hz : (cmpI X Y < 0 ↔ X < Y) := by
    unfold cmpI
    by_cases h : X < Y
    · simp [h]
    · rw [if_neg h]; split <;> simp [h]
  generalize cmpI X Y = z at hz ⊢
  have HZ := hid hz
  clear hz HCMP
  rintro e w1 ⟨rfl, hb1⟩
  have HA1 := hid (HA.out.below hb1)
  have HB1 := hid (HB.out.below hb1)
  have HBEL := hid hb1
  clear hb1 HA HB
  by_cases hlt : z < 0
  · have I0 : Hid (GcdAt w w1 X Y 1000000000 Y X B A (limbs Y).length (limbs Y).length (limbs X).length (limbs X).length) := ⟨HB1.out, HA1.out, by have := (HZ.out).1 hlt; omega, hly, Nat.gcd_comm _ _, HBEL.out⟩
    clear HA1 HB1 HZ HBEL
    obtain ⟨n0, hn0⟩ : ∃ n, n = X := ⟨_, rfl⟩
    have I1 : Hid (X = n0) := hn0.symm
    clear hn0
    go_wp2
    go_loopg [0, 1] n0 (fun gh v0 v1 wr => ∃ (p q : Nat) (a b : Option Addr) (la ca lb cb : Nat), Hid (GcdAt w wr X Y 1000000000 p q a b la ca lb cb) ∧ v0 = .slice a la ca ∧ v1 = .slice b lb cb ∧ Hid (q = gh))
    case atStart => exact ⟨_, _, _, _, _, _, _, _, I0, rfl, rfl, I1⟩
    case round =>
      clear I0 I1
      obtain ⟨p, q, a, b, la, ca, lb, cb, hI, rfl, rfl, hgk⟩ := hrel
      have hpl := hI.out.len
      have hqp := limbs_length_mono hI.out.le
      obtain rfl : lb = (limbs q).length := hI.out.seesB.len_eq.1
      by_cases h2 : 2 < (limbs q).length
      · have HLK := hid (nat_lookAhead a b la ca _ cb p q wr hI.out.seesA hI.out.seesB (by omega) hI.out.le (by omega))
        clear hlx hly
        go_wp2_with fail
        refine HLK.out.mono ?_
        rintro e w2 ⟨aa, ab, ba, bb, o, rfl, hsm, hst, hb2⟩
        have HSM := hid hsm; have HST := hid hst
        have HA2 := hid (hI.out.seesA.below hb2); have HB2 := hid (hI.out.seesB.below hb2)
        have hab : ab < 4294967296 := hsm.2.1
        obtain ⟨g, hg⟩ : ∃ g, g = w2.heap.size := ⟨_, rfl⟩
        obtain ⟨w3, hw3⟩ : ∃ x, x = w2.alloc (.cells #[.int .u64 (aa : Nat), .int .u64 (ab : Nat), .int .u64 (ba : Nat), .int .u64 (bb : Nat), .bool o] 119) := ⟨_, rfl⟩
        have hb3 : Below w2.heap.size w2 w3 := by rw [hw3]; exact (Below.refl _ w2).alloc (Nat.le_refl _) _
        have HX3 : Hid (Box5 w3 g (.int .u64 (aa : Nat)) (.int .u64 (ab : Nat)) (.int .u64 (ba : Nat)) (.int .u64 (bb : Nat)) (.bool o)) := by rw [hw3, hg]; exact Box5.new w2 _ _ _ _ _ _
        have B3 := hid (step_below (step_below hI.out.bel hb2) hb3)
        replace HA2 := hid (HA2.out.below hb3); replace HB2 := hid (HB2.out.below hb3)
        have HW3 := hid hw3.symm; have HG := hid hg.symm
        have HLE := hid hI.out.le; have HGC := hid hI.out.gcd
        clear hsm hst hb2 hw3 hg hb3 HLK hI
        by_cases h0 : 0 < ab
        · obtain ⟨p2, q2, hs2⟩ := HST.out h0
          have HAP := hid (nat_apply HA2.out HB2.out hs2 HSM.out hqp (by omega))
          have HS2 := hid hs2
          obtain ⟨c0, c1, c2, c3, c4, -⟩ := HX3.out.cells
          clear HST HSM hs2
          go_wp2_with fail
          rw [HW3.out, HG.out]
          refine HAP.out.mono ?_
          rintro e w4 ⟨u, v, rfl, hu, hv, hb4⟩
          have HU := hid hu; have HV := hid hv
          have B4 := hid (step_below B3.out hb4)
          obtain ⟨ua, uc, rfl, -, -, -, -, -⟩ := hu
          obtain ⟨va, vc, rfl, -, -, -, -, -⟩ := hv
          have hlen : (limbs p2).length ≤ 1000000000 := by
            have := limbs_length_mono (Nat.le_trans HS2.out.le HLE.out)
            omega
          have HLEN := hid hlen
          clear hb4 HAP HW3 HG HX3 c0 c1 c2 c3 c4 HA2 HB2 B3 hlen hpl hqp h2
          go_wp2
          go_roundg q2
          case rel => exact ⟨p2, q2, _, _, _, _, _, _, ⟨HU.out, HV.out, Nat.le_of_lt HS2.out.lt, HLEN.out, HS2.out.gcd.trans HGC.out, B4.out⟩, rfl, rfl, rfl⟩
          case measure => have h3 := hgk.out; have h4 := HS2.out.lt; have h5 := HS2.out.le; omega
        · obtain ⟨c0, c1, c2, c3, c4, -⟩ := HX3.out.cells
          have hq0 : 0 < val (limbs q) := by
            rw [val_limbs]
            rcases Nat.eq_zero_or_pos q with h0 | h0
            · subst h0; simp [limbs_zero] at h2
            · exact h0
          have CD := nat_divmod' HA2.out HB2.out (by omega) hq0
          rw [val_limbs, val_limbs] at CD
          rw [val_limbs] at hq0
          have HCD := hid CD
          have HQ0 := hid hq0
          clear HST HSM CD hq0
          go_wp2_with fail
          rw [HW3.out, HG.out]
          refine HCD.out.mono ?_
          rintro e w4 ⟨qq, v, rfl, hqq, hv, hb4⟩
          have HV := hid hv
          have B4 := hid (step_below B3.out hb4)
          have HB4 := hid (HB2.out.below hb4)
          obtain ⟨ta, tc, rfl, -, -, -, -, -⟩ := hqq
          obtain ⟨va, vc, rfl, -, -, -, -, -⟩ := hv
          have HLEN : Hid ((limbs q).length ≤ 1000000000) := by show _ ≤ _; omega
          clear hb4 HCD HW3 HG HX3 c0 c1 c2 c3 c4 HA2 HB2 B3 hpl hqp h2
          go_wp2
          go_roundg (p % q)
          case rel => exact ⟨q, p % q, _, _, _, _, _, _, ⟨HB4.out, HV.out, Nat.le_of_lt (Nat.mod_lt _ HQ0.out), HLEN.out, by rw [Nat.gcd_comm, ← Nat.gcd_rec, Nat.gcd_comm]; exact HGC.out, B4.out⟩, rfl, rfl, rfl⟩
          case measure => have h3 := hgk.out; have h4 := Nat.mod_lt p HQ0.out; omega
      · clear hlx hly
        have HA2 := hid hI.out.seesA; have HB2 := hid hI.out.seesB
        have HLE := hid hI.out.le; have HGC := hid hI.out.gcd; have B3 := hid hI.out.bel
        clear hI
        rcases Nat.eq_zero_or_pos q with h0 | h0
        · subst h0
          have hg0 := HGC.out
          rw [Nat.gcd_zero_right] at hg0
          have HG0 := hid hg0
          have CP := nat_plain' HA2.out (by omega)
          rw [val_limbs] at CP
          have HCP := hid CP
          have e0 : (limbs 0).length = 0 := rfl
          clear hg0 CP HGC
          go_wp2_with fail
          refine HCP.out.mono ?_
          rintro e w4 ⟨v, rfl, hv, hb4⟩
          have HV := hid hv; have B4 := hid (step_below B3.out hb4)
          clear hv hb4 HCP
          go_wp2
          go_ret
          refine ⟨_, rfl, ?_, B4.out⟩
          have := HV.out
          rw [HG0.out] at this
          rw [HXE.out, HYE.out]
          exact this
        · have hq64 : q < 18446744073709551616 := by
            have h3 := lt_pow_length q
            have h4 : 4294967296 ^ (limbs q).length ≤ 4294967296 ^ 2 := Nat.pow_le_pow_right (by decide) (by omega)
            have h5 : (4294967296 : Nat) ^ 2 = 18446744073709551616 := by decide
            omega
          obtain ⟨s, hs⟩ : ∃ s, s = p % q := ⟨_, rfl⟩
          have hsq : s < q := by rw [hs]; exact Nat.mod_lt _ h0
          have CD := nat_divmod' HA2.out HB2.out (by omega) (by rw [val_limbs]; exact h0)
          rw [val_limbs, val_limbs, ← hs] at CD
          have HCD := hid CD
          have hg2 : Nat.gcd q s = Nat.gcd X Y := by rw [hs, Nat.gcd_comm, ← Nat.gcd_rec, Nat.gcd_comm]; exact HGC.out
          have HG2 := hid hg2
          have ex : q % 4294967296 + q / 4294967296 % 4294967296 * 4294967296 = q := by omega
          have ey : s % 4294967296 + s / 4294967296 % 4294967296 * 4294967296 = s := by omega
          have C1 := fun w' (h : Sees w' (.slice b (limbs q).length cb) (limbs q)) => nat_wordAt0 _ _ _ _ w' h (limb_zero q) (limb_one q)
          have C2 := fun w' v (h : Sees w' v (limbs s)) => nat_wordAt0 _ _ _ _ w' h (limb_zero s) (limb_one s)
          rw [ex] at C1
          rw [ey] at C2
          have HC1 := hid C1; have HC2 := hid C2
          have hgl : Nat.gcd q s < 18446744073709551616 := by
            have := Nat.gcd_le_left s h0
            omega
          have HC3 := hid (fun w' => nat_wordGcd q s hq64 (by omega) w')
          have HC4 := hid (fun w' => nat_fromWord _ hgl w')
          obtain ⟨G, hG⟩ : ∃ G, Nat.gcd q s = G := ⟨_, rfl⟩
          rw [hG] at HC4 HC3 HG2
          have hbl : ¬ ((limbs q).length : Int) = 0 := by have := (limbs_last h0).1; omega
          clear hs CD hg2 ex ey C1 C2 hgl hG HGC
          go_wp2_with fail
          refine HCD.out.mono ?_
          rintro e w4 ⟨qq, v, rfl, hqq, hv, hb4⟩
          have HV := hid hv
          have B4 := hid (step_below B3.out hb4)
          have HB4 := hid (HB2.out.below hb4)
          obtain ⟨ta, tc, rfl, -, -, -, -, -⟩ := hqq
          obtain ⟨va, vc, rfl, -, -, -, -, -⟩ := hv
          clear hb4 HCD HA2 HB2 B3
          go_wp2_with fail
          refine (HC1.out _ HB4.out).mono ?_
          rintro e w5 ⟨rfl, rfl⟩
          go_wp2_with fail
          refine (HC2.out _ _ HV.out).mono ?_
          rintro e w6 ⟨rfl, rfl⟩
          go_wp2_with fail
          refine (HC3.out _).mono ?_
          rintro e w7 ⟨rfl, hb7⟩
          have B7 := hid (step_below B4.out hb7)
          clear hb7
          go_wp2_with fail
          refine (HC4.out _).mono ?_
          rintro e w8 ⟨v, rfl, hv8, hb8⟩
          have HV8 := hid hv8; have B8 := hid (step_below B7.out hb8)
          clear hv8 hb8
          go_wp2
          go_ret
          refine ⟨_, rfl, ?_, B8.out⟩
          have := HV8.out
          rw [HG2.out] at this
          rw [HXE.out, HYE.out]
          exact this
  · have I0 : Hid (GcdAt w w1 X Y 1000000000 X Y A B (limbs X).length (limbs X).length (limbs Y).length (limbs Y).length) := ⟨HA1.out, HB1.out, Nat.le_of_not_lt (fun h => hlt (HZ.out.2 h)), hlx, rfl, HBEL.out⟩
    obtain ⟨n0, hn0⟩ : ∃ n, n = Y := ⟨_, rfl⟩
    have I1 : Hid (Y = n0) := hn0.symm
    clear HA1 HB1 HZ HBEL hn0
    go_wp2
    go_loopg [0, 1] n0 (fun gh v0 v1 wr => ∃ (p q : Nat) (a b : Option Addr) (la ca lb cb : Nat), Hid (GcdAt w wr X Y 1000000000 p q a b la ca lb cb) ∧ v0 = .slice a la ca ∧ v1 = .slice b lb cb ∧ Hid (q = gh))
    case atStart => exact ⟨_, _, _, _, _, _, _, _, I0, rfl, rfl, I1⟩
    case round =>
      clear I0 I1
      obtain ⟨p, q, a, b, la, ca, lb, cb, hI, rfl, rfl, hgk⟩ := hrel
      have hpl := hI.out.len
      have hqp := limbs_length_mono hI.out.le
      obtain rfl : lb = (limbs q).length := hI.out.seesB.len_eq.1
      by_cases h2 : 2 < (limbs q).length
      · have HLK := hid (nat_lookAhead a b la ca _ cb p q wr hI.out.seesA hI.out.seesB (by omega) hI.out.le (by omega))
        clear hlx hly
        go_wp2_with fail
        refine HLK.out.mono ?_
        rintro e w2 ⟨aa, ab, ba, bb, o, rfl, hsm, hst, hb2⟩
        have HSM := hid hsm; have HST := hid hst
        have HA2 := hid (hI.out.seesA.below hb2); have HB2 := hid (hI.out.seesB.below hb2)
        have hab : ab < 4294967296 := hsm.2.1
        obtain ⟨g, hg⟩ : ∃ g, g = w2.heap.size := ⟨_, rfl⟩
        obtain ⟨w3, hw3⟩ : ∃ x, x = w2.alloc (.cells #[.int .u64 (aa : Nat), .int .u64 (ab : Nat), .int .u64 (ba : Nat), .int .u64 (bb : Nat), .bool o] 119) := ⟨_, rfl⟩
        have hb3 : Below w2.heap.size w2 w3 := by rw [hw3]; exact (Below.refl _ w2).alloc (Nat.le_refl _) _
        have HX3 : Hid (Box5 w3 g (.int .u64 (aa : Nat)) (.int .u64 (ab : Nat)) (.int .u64 (ba : Nat)) (.int .u64 (bb : Nat)) (.bool o)) := by rw [hw3, hg]; exact Box5.new w2 _ _ _ _ _ _
        have B3 := hid (step_below (step_below hI.out.bel hb2) hb3)
        replace HA2 := hid (HA2.out.below hb3); replace HB2 := hid (HB2.out.below hb3)
        have HW3 := hid hw3.symm; have HG := hid hg.symm
        have HLE := hid hI.out.le; have HGC := hid hI.out.gcd
        clear hsm hst hb2 hw3 hg hb3 HLK hI
        by_cases h0 : 0 < ab
        · obtain ⟨p2, q2, hs2⟩ := HST.out h0
          have HAP := hid (nat_apply HA2.out HB2.out hs2 HSM.out hqp (by omega))
          have HS2 := hid hs2
          obtain ⟨c0, c1, c2, c3, c4, -⟩ := HX3.out.cells
          clear HST HSM hs2
          go_wp2_with fail
          rw [HW3.out, HG.out]
          refine HAP.out.mono ?_
          rintro e w4 ⟨u, v, rfl, hu, hv, hb4⟩
          have HU := hid hu; have HV := hid hv
          have B4 := hid (step_below B3.out hb4)
          obtain ⟨ua, uc, rfl, -, -, -, -, -⟩ := hu
          obtain ⟨va, vc, rfl, -, -, -, -, -⟩ := hv
          have hlen : (limbs p2).length ≤ 1000000000 := by
            have := limbs_length_mono (Nat.le_trans HS2.out.le HLE.out)
            omega
          have HLEN := hid hlen
          clear hb4 HAP HW3 HG HX3 c0 c1 c2 c3 c4 HA2 HB2 B3 hlen hpl hqp h2
          go_wp2
          go_roundg q2
          case rel => exact ⟨p2, q2, _, _, _, _, _, _, ⟨HU.out, HV.out, Nat.le_of_lt HS2.out.lt, HLEN.out, HS2.out.gcd.trans HGC.out, B4.out⟩, rfl, rfl, rfl⟩
          case measure => have h3 := hgk.out; have h4 := HS2.out.lt; have h5 := HS2.out.le; omega
        · obtain ⟨c0, c1, c2, c3, c4, -⟩ := HX3.out.cells
          have hq0 : 0 < val (limbs q) := by
            rw [val_limbs]
            rcases Nat.eq_zero_or_pos q with h0 | h0
            · subst h0; simp [limbs_zero] at h2
            · exact h0
          have CD := nat_divmod' HA2.out HB2.out (by omega) hq0
          rw [val_limbs, val_limbs] at CD
          rw [val_limbs] at hq0
          have HCD := hid CD
          have HQ0 := hid hq0
          clear HST HSM CD hq0
          go_wp2_with fail
          rw [HW3.out, HG.out]
          refine HCD.out.mono ?_
          rintro e w4 ⟨qq, v, rfl, hqq, hv, hb4⟩
          have HV := hid hv
          have B4 := hid (step_below B3.out hb4)
          have HB4 := hid (HB2.out.below hb4)
          obtain ⟨ta, tc, rfl, -, -, -, -, -⟩ := hqq
          obtain ⟨va, vc, rfl, -, -, -, -, -⟩ := hv
          have HLEN : Hid ((limbs q).length ≤ 1000000000) := by show _ ≤ _; omega
          clear hb4 HCD HW3 HG HX3 c0 c1 c2 c3 c4 HA2 HB2 B3 hpl hqp h2
          go_wp2
          go_roundg (p % q)
          case rel => exact ⟨q, p % q, _, _, _, _, _, _, ⟨HB4.out, HV.out, Nat.le_of_lt (Nat.mod_lt _ HQ0.out), HLEN.out, by rw [Nat.gcd_comm, ← Nat.gcd_rec, Nat.gcd_comm]; exact HGC.out, B4.out⟩, rfl, rfl, rfl⟩
          case measure => have h3 := hgk.out; have h4 := Nat.mod_lt p HQ0.out; omega
      · clear hlx hly
        have HA2 := hid hI.out.seesA; have HB2 := hid hI.out.seesB
        have HLE := hid hI.out.le; have HGC := hid hI.out.gcd; have B3 := hid hI.out.bel
        clear hI
        rcases Nat.eq_zero_or_pos q with h0 | h0
        · subst h0
          have hg0 := HGC.out
          rw [Nat.gcd_zero_right] at hg0
          have HG0 := hid hg0
          have CP := nat_plain' HA2.out (by omega)
          rw [val_limbs] at CP
          have HCP := hid CP
          have e0 : (limbs 0).length = 0 := rfl
          clear hg0 CP HGC
          go_wp2_with fail
          refine HCP.out.mono ?_
          rintro e w4 ⟨v, rfl, hv, hb4⟩
          have HV := hid hv; have B4 := hid (step_below B3.out hb4)
          clear hv hb4 HCP
          go_wp2
          go_ret
          refine ⟨_, rfl, ?_, B4.out⟩
          have := HV.out
          rw [HG0.out] at this
          rw [HXE.out, HYE.out]
          exact this
        · have hq64 : q < 18446744073709551616 := by
            have h3 := lt_pow_length q
            have h4 : 4294967296 ^ (limbs q).length ≤ 4294967296 ^ 2 := Nat.pow_le_pow_right (by decide) (by omega)
            have h5 : (4294967296 : Nat) ^ 2 = 18446744073709551616 := by decide
            omega
          obtain ⟨s, hs⟩ : ∃ s, s = p % q := ⟨_, rfl⟩
          have hsq : s < q := by rw [hs]; exact Nat.mod_lt _ h0
          have CD := nat_divmod' HA2.out HB2.out (by omega) (by rw [val_limbs]; exact h0)
          rw [val_limbs, val_limbs, ← hs] at CD
          have HCD := hid CD
          have hg2 : Nat.gcd q s = Nat.gcd X Y := by rw [hs, Nat.gcd_comm, ← Nat.gcd_rec, Nat.gcd_comm]; exact HGC.out
          have HG2 := hid hg2
          have ex : q % 4294967296 + q / 4294967296 % 4294967296 * 4294967296 = q := by omega
          have ey : s % 4294967296 + s / 4294967296 % 4294967296 * 4294967296 = s := by omega
          have C1 := fun w' (h : Sees w' (.slice b (limbs q).length cb) (limbs q)) => nat_wordAt0 _ _ _ _ w' h (limb_zero q) (limb_one q)
          have C2 := fun w' v (h : Sees w' v (limbs s)) => nat_wordAt0 _ _ _ _ w' h (limb_zero s) (limb_one s)
          rw [ex] at C1
          rw [ey] at C2
          have HC1 := hid C1; have HC2 := hid C2
          have hgl : Nat.gcd q s < 18446744073709551616 := by
            have := Nat.gcd_le_left s h0
            omega
          have HC3 := hid (fun w' => nat_wordGcd q s hq64 (by omega) w')
          have HC4 := hid (fun w' => nat_fromWord _ hgl w')
          obtain ⟨G, hG⟩ : ∃ G, Nat.gcd q s = G := ⟨_, rfl⟩
          rw [hG] at HC4 HC3 HG2
          have hbl : ¬ ((limbs q).length : Int) = 0 := by have := (limbs_last h0).1; omega
          clear hs CD hg2 ex ey C1 C2 hgl hG HGC
          go_wp2_with fail
          refine HCD.out.mono ?_
          rintro e w4 ⟨qq, v, rfl, hqq, hv, hb4⟩
          have HV := hid hv
          have B4 := hid (step_below B3.out hb4)
          have HB4 := hid (HB2.out.below hb4)
          obtain ⟨ta, tc, rfl, -, -, -, -, -⟩ := hqq
          obtain ⟨va, vc, rfl, -, -, -, -, -⟩ := hv
          clear hb4 HCD HA2 HB2 B3
          go_wp2_with fail
          refine (HC1.out _ HB4.out).mono ?_
          rintro e w5 ⟨rfl, rfl⟩
          go_wp2_with fail
          refine (HC2.out _ _ HV.out).mono ?_
          rintro e w6 ⟨rfl, rfl⟩
          go_wp2_with fail
          refine (HC3.out _).mono ?_
          rintro e w7 ⟨rfl, hb7⟩
          have B7 := hid (step_below B4.out hb7)
          clear hb7
          go_wp2_with fail
          refine (HC4.out _).mono ?_
          rintro e w8 ⟨v, rfl, hv8, hb8⟩
          have HV8 := hid hv8; have B8 := hid (step_below B7.out hb8)
          clear hv8 hb8
          go_wp2
          go_ret
          refine ⟨_, rfl, ?_, B8.out⟩
          have := HV8.out
          rw [HG2.out] at this
          rw [HXE.out, HYE.out]
          exact this
end Go.Proofs.YtjnbonellgpjnaaGreat
