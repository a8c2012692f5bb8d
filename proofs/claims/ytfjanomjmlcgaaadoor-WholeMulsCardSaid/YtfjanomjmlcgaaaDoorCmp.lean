/- nat.Cmp, nat.Bits by their contracts. -/
import Derived.Test.YtfjanomjmlcgaaaDoorTrim
import Derived.Test.YtfjanomjmlcgaaaDoorShelf
import Derived.Deep.QuietTactic
import Derived.BigQuiet
set_option linter.unusedVariables false
set_option linter.unusedSimpArgs false
namespace Go.Proofs.YtfjanomjmlcgaaaDoor
open Go.RowKit

theorem quiet_add_left {P : Program} {f : FuncId} {args : Array Value} {w : World} {a n : Nat} {v : Value}
    (h : Calls P f args (w.drewN (a + n)) fun e w' => e = .returned v ∧ w.drewN (a + n) = w') :
    Calls P f args (w.drewN (a + n)) fun e w'' => e = .returned v ∧ ∃ m, w'' = w.drewN (a + m) :=
  h.mono fun _ _ ⟨he, hm⟩ => ⟨he, n, hm.symm⟩
theorem quiet_left {P : Program} {f : FuncId} {args : Array Value} {w : World} {n : Nat} {v : Value}
    (h : Calls P f args (w.drewN n) fun e w' => e = .returned v ∧ w.drewN n = w') : Calls P f args (w.drewN n) fun e w'' => e = .returned v ∧ ∃ m, w'' = w.drewN m :=
  h.mono fun _ _ ⟨he, hm⟩ => ⟨he, n, hm.symm⟩

theorem order_any (b : Bool) (w : World) :
    Calls Tryd.prog 71 #[.bool b] w fun e w' => e = .returned (.int .i64 (if b then -1 else 1)) ∧ w = w' := by
  cases b <;> (go_enter Tryd.func71, Tryd.ntmps71; go_wp2; go_ret; exact ⟨rfl, rfl⟩)

/-- -1, 0 or 1. -/
def cmpI (x y : Nat) : Int := if x < y then -1 else if y < x then 1 else 0
theorem cmpI_lt {x y : Nat} (h : x < y) : cmpI x y = -1 := by unfold cmpI; rw [if_pos h]
theorem cmpI_gt {x y : Nat} (h : y < x) : cmpI x y = 1 := by unfold cmpI; rw [if_neg (by omega), if_pos h]
theorem cmpI_eq {x y : Nat} (h : x = y) : cmpI x y = 0 := by unfold cmpI; rw [if_neg (by omega), if_neg (by omega)]

/-- What the walk of Cmp needs of two plain lists. -/
theorem cmp_diff {x y : Nat} {p q : List Nat} (hp : limbs x = p) (hq : limbs y = q) (n : Nat) (hl : p.length = q.length) (hn : n < p.length) (he : ∀ i, n < i → i < p.length → p.getD i 0 = q.getD i 0) :
    (p.getD n 0 < q.getD n 0 → x < y) ∧ (q.getD n 0 < p.getD n 0 → y < x) := by
  have hd : p.drop (n + 1) = q.drop (n + 1) := by
    apply List.ext_getElem? 
    intro i
    rw [List.getElem?_drop, List.getElem?_drop]
    by_cases h : n + 1 + i < p.length
    · have := he (n + 1 + i) (by omega) h
      rw [List.getD_eq_getElem?_getD, List.getD_eq_getElem?_getD, List.getElem?_eq_getElem h, List.getElem?_eq_getElem (by omega)] at this
      rw [List.getElem?_eq_getElem h, List.getElem?_eq_getElem (by omega)]
      simpa using this
    · rw [List.getElem?_eq_none (by omega), List.getElem?_eq_none (by omega)]
  have op : Ok p := hp ▸ limbs_ok x
  have oq : Ok q := hq ▸ limbs_ok y
  have vx : val p = x := by rw [← hp, val_limbs]
  have vy : val q = y := by rw [← hq, val_limbs]
  constructor
  · intro h; have := val_lt_of_top op oq n hl hn hd h; omega
  · intro h; have := val_lt_of_top oq op n hl.symm (by omega) hd.symm h; omega

theorem cmp_same {x y : Nat} {p q : List Nat} (hp : limbs x = p) (hq : limbs y = q) (hl : p.length = q.length) (he : ∀ i, i < p.length → p.getD i 0 = q.getD i 0) : x = y := by
  have : p = q := by
    apply List.ext_getElem?
    intro i
    by_cases h : i < p.length
    · have := he i h
      rw [List.getD_eq_getElem?_getD, List.getD_eq_getElem?_getD, List.getElem?_eq_getElem h, List.getElem?_eq_getElem (by omega)] at this
      rw [List.getElem?_eq_getElem h, List.getElem?_eq_getElem (by omega)]
      simpa using this
    · rw [List.getElem?_eq_none (by omega), List.getElem?_eq_none (by omega)]
  exact limbs_inj (by rw [hp, hq, this])

theorem ret_int {k : IntKind} {a b : Int} (h : a = b) : Ending.returned (.int k a) = .returned (.int k b) := by rw [h]
theorem below_drewN {B : Nat} {a w : World} (h : Below B a w) (n : Nat) : Below B a (w.drewN n) := ⟨h.os, h.tape, h.output, h.size, h.block⟩

theorem nat_cmp (a b : Option Addr) (la ca lb cb : Nat) (l m : List Nat) (w : World) (ha : Sees w (.slice a la ca) l) (hb : Sees w (.slice b lb cb) m) :
    Calls Tryd.prog 22 #[.slice a la ca, .slice b lb cb] w fun e w' => e = .returned (.int .i64 (cmpI (val l) (val m))) ∧ Below w.heap.size w w' := by
  go_enter Tryd.func22, Tryd.ntmps22
  go_wp2_with fail
  refine (trim_sees _ _ _ _ _ ha).mono ?_
  rintro e w' ⟨⟨A, rfl, hA, -⟩, rfl⟩
  have HA := hid hA; clear hA
  go_wp2_with fail
  refine (trim_sees _ _ _ _ _ hb).mono ?_
  rintro e w' ⟨⟨B, rfl, hB, -⟩, rfl⟩
  have HB := hid hB; clear hB
  clear ha hb
  obtain ⟨p, hp⟩ : ∃ p, limbs (val l) = p := ⟨_, rfl⟩
  obtain ⟨q, hq⟩ : ∃ q, limbs (val m) = q := ⟨_, rfl⟩
  rw [hp] at HA
  rw [hq] at HB
  simp only [hp, hq]
  have hpl := HA.out.len
  have hql := HB.out.len
  have HP := hid hp; clear hp
  have HQ := hid hq; clear hq
  rcases Nat.lt_trichotomy p.length q.length with h | h | h
  · have hxy : val l < val m := limbs_length_lt (by rw [HP.out, HQ.out]; exact h)
    have HC := hid (cmpI_lt hxy); clear hxy
    go_wp2_with (refine (order_any _ _).mono ?_; rintro e w' ⟨rfl, rfl⟩)
    go_ret
    exact ⟨ret_int (by rw [HC.out]), Below.refl _ _⟩
  · have H := hid h
    have h1 : p.length ≤ q.length := by omega
    have h2 : q.length ≤ p.length := by omega
    clear h
    go_wp2
    go_loopw [24] (fun v wr => ∃ k m : Nat, k ≤ p.length ∧ v = .int .i64 k ∧ wr = w.drewN m ∧ Hid (∀ i, p.length - k ≤ i → i < p.length → p.getD i 0 = q.getD i 0)) (fun v _ => p.length - (intOf v).toNat)
    case atStart => exact ⟨0, 0, Nat.zero_le _, rfl, rfl, fun i hi hi' => absurd hi' (by omega)⟩
    case round =>
      obtain ⟨k, m, hk, rfl, rfl, hz⟩ := hrel
      by_cases hlt : k < p.length
      · obtain ⟨b1, o1, rfl, hc1'⟩ := HA.out.at (by omega)
        obtain ⟨b2, o2, rfl, hc2'⟩ := HB.out.at (by omega)
        have hc1 := hc1' (p.length - 1 - k) (by omega)
        have hc2 := hc2' (p.length - 1 - k) (by omega)
        clear hc1' hc2'
        by_cases he : p.getD (p.length - 1 - k) 0 = q.getD (p.length - 1 - k) 0
        · have ht : ((p[p.length - 1 - k]?.getD 0 : Nat) != ((q[p.length - 1 - k]?.getD 0 : Nat) : Int)) = false := by
            rw [List.getD_eq_getElem?_getD, List.getD_eq_getElem?_getD] at he; simp [he]
          have HE := hid he; clear he
          have hz' : ∀ i, p.length - (k + 1) ≤ i → i < p.length → p.getD i 0 = q.getD i 0 := by
            intro i hi hi'
            by_cases e : i = p.length - 1 - k
            · rw [e]; exact HE.out
            · exact hz.out i (by omega) hi'
          have HZ := hid hz'; clear hz' hz
          go_wp2
          go_quiet (fail)
          go_wp2
          go_roundw
          case rel => exact ⟨k + 1, m + nq, by omega, by go_num, rfl, HZ⟩
          case measure => simp [intOf]; omega
        · have ht : ((p[p.length - 1 - k]?.getD 0 : Nat) != ((q[p.length - 1 - k]?.getD 0 : Nat) : Int)) = true := by
            rw [List.getD_eq_getElem?_getD, List.getD_eq_getElem?_getD] at he
            rw [bne_iff_ne]; omega
          obtain ⟨d1, d2⟩ := cmp_diff HP.out HQ.out (p.length - 1 - k) H.out (by omega) (fun i hi hi' => hz.out i (by omega) hi')
          rw [List.getD_eq_getElem?_getD, List.getD_eq_getElem?_getD] at d1 d2
          rw [List.getD_eq_getElem?_getD, List.getD_eq_getElem?_getD] at he
          have D1 := hid d1; have D2 := hid d2; have HE := hid he
          clear d1 d2 hz he
          by_cases hg : p[p.length - 1 - k]?.getD 0 < q[p.length - 1 - k]?.getD 0
          · have HC := hid (cmpI_lt (D1.out hg))
            go_wp2
            go_quiet (fail)
            go_wp2
            rw [World.drewN_drewN]
            go_quiet ((go_at_call 71; exact quiet_add_left (order_any _ _)))
            go_wp2
            go_ret
            first | exact ⟨ret_int (by rw [HC.out]), below_drewN (below_drewN (Below.refl _ _) _) _⟩ | exact ⟨ret_int (by rw [HC.out]), below_drewN (Below.refl _ _) _⟩
          · have HC := hid (cmpI_gt (D2.out (by have := HE.out; omega)))
            go_wp2
            go_quiet (fail)
            go_wp2
            rw [World.drewN_drewN]
            go_quiet ((go_at_call 71; exact quiet_add_left (order_any _ _)))
            go_wp2
            go_ret
            first | exact ⟨ret_int (by rw [HC.out]), below_drewN (below_drewN (Below.refl _ _) _) _⟩ | exact ⟨ret_int (by rw [HC.out]), below_drewN (Below.refl _ _) _⟩
      · have HC := hid (cmpI_eq (cmp_same HP.out HQ.out H.out (fun i hi => hz.out i (by omega) hi)))
        clear hz
        go_wp2
        go_ret
        exact ⟨ret_int (by rw [HC.out]), below_drewN (Below.refl _ _) _⟩
  · have hxy : val m < val l := limbs_length_lt (by rw [HP.out, HQ.out]; exact h)
    have HC := hid (cmpI_gt hxy); clear hxy
    go_wp2_with (refine (order_any _ _).mono ?_; rintro e w' ⟨rfl, rfl⟩)
    go_ret
    exact ⟨ret_int (by rw [HC.out]), Below.refl _ _⟩
/-- How many binary digits a number has. -/
def bitsN (x : Nat) : Nat := if x = 0 then 0 else Nat.log2 x + 1

theorem bitLenAux_eq (f x : Nat) (h : x < 2 ^ f) : Lib.bitLenAux f x = bitsN x := by
  induction f generalizing x with
  | zero => have : x = 0 := by simpa using h
            subst this; rfl
  | succ f ih =>
    by_cases e : x = 0
    · subst e; rfl
    · simp only [Lib.bitLenAux, e, if_false]
      rw [ih (x / 2) (by rw [Nat.pow_succ] at h; omega)]
      unfold bitsN
      rw [if_neg e]
      by_cases e2 : x / 2 = 0
      · rw [if_pos e2]
        have : x = 1 := by omega
        subst this; rfl
      · rw [if_neg e2]
        have : Nat.log2 x = Nat.log2 (x / 2) + 1 := by
          rw [Nat.log2_def]; rw [if_pos (by omega)]
        omega
theorem bitLen_eq (x : Nat) (h : x < 4294967296) : Lib.bitLen x = bitsN x :=
  bitLenAux_eq 64 x (Nat.lt_of_lt_of_le h (by decide))

theorem bitsN_mul (k x y : Nat) (hy : 0 < y) (hx : x < 2 ^ k) : bitsN (x + 2 ^ k * y) = k + bitsN y := by
  have hp : 0 < 2 ^ k := Nat.two_pow_pos k
  have hpos : 2 ^ k * 1 ≤ 2 ^ k * y := Nat.mul_le_mul_left _ hy
  unfold bitsN
  rw [if_neg (by omega), if_neg (by omega)]
  have h1 := Nat.log2_self_le (n := y) (by omega)
  have h2 := Nat.lt_log2_self (n := y)
  have : Nat.log2 (x + 2 ^ k * y) = k + Nat.log2 y := by
    rw [Nat.log2_eq_iff (by omega)]
    constructor
    · rw [Nat.pow_add]
      have := Nat.mul_le_mul_left (2 ^ k) h1
      omega
    · rw [Nat.add_assoc, Nat.pow_add]
      have : 2 ^ k * (y + 1) ≤ 2 ^ k * 2 ^ (Nat.log2 y + 1) := Nat.mul_le_mul_left _ h2
      rw [Nat.mul_add] at this
      omega
  omega

theorem pow_limbs (k : Nat) : 4294967296 ^ k = 2 ^ (32 * k) := by rw [Nat.pow_mul]

/-- The binary digits of a plain list. -/
theorem bitsN_limbs {x : Nat} (h : 0 < x) : bitsN x = 32 * ((limbs x).length - 1) + bitsN ((limbs x).getD ((limbs x).length - 1) 0) := by
  obtain ⟨h1, h2⟩ := limbs_last h
  have e := val_split (limbs x) ((limbs x).length - 1) (by omega)
  rw [val_limbs, val_drop _ _ (by omega)] at e
  have hd : (limbs x).drop ((limbs x).length - 1 + 1) = [] := List.drop_eq_nil_iff.2 (by omega)
  rw [hd, val_nil, Nat.mul_zero, Nat.add_zero, pow_limbs] at e
  have hlt := val_lt ((limbs_ok x).take ((limbs x).length - 1))
  rw [List.length_take, Nat.min_eq_left (by omega), pow_limbs] at hlt
  have := bitsN_mul _ _ _ (Nat.pos_of_ne_zero h2) hlt
  rw [← e] at this
  exact this

theorem bitsN_le {x : Nat} (h : x < 4294967296) : bitsN x ≤ 32 := by
  unfold bitsN
  by_cases e : x = 0
  · rw [if_pos e]; omega
  · rw [if_neg e]
    have := (Nat.log2_lt e (k := 32)).2 (by simpa using h)
    omega

theorem nat_bits (ao : Option Addr) (len cap : Nat) (l : List Nat) (w : World) (h : Sees w (.slice ao len cap) l) :
    Calls Tryd.prog 20 #[.slice ao len cap] w fun e w' => e = .returned (.int .i64 (bitsN (val l) : Nat)) ∧ w = w' := by
  go_enter Tryd.func20, Tryd.ntmps20
  go_wp2_with fail
  refine (trim_sees _ _ _ _ _ h).mono ?_
  rintro e w' ⟨⟨A, rfl, hA, -⟩, rfl⟩
  clear h
  have hlen := hA.len
  by_cases h0 : val l = 0
  · have HC : Hid (bitsN (val l) = 0) := by rw [h0]; rfl
    have HL : Hid ((limbs (val l)).length = 0) := by rw [h0]; rfl
    have hl0 : (limbs (val l)).length < 1 := by have := HL.out; omega
    clear h0 hA
    go_wp2
    go_ret
    exact ⟨ret_int (by rw [HC.out]; rfl), rfl⟩
  · have h1 : 1 ≤ (limbs (val l)).length := (limbs_last (Nat.pos_of_ne_zero h0)).1
    obtain ⟨b, o, rfl, hcell⟩ := hA.at (by omega)
    have hc := hcell ((limbs (val l)).length - 1) (by omega)
    have hok := hA.ok.getD ((limbs (val l)).length - 1)
    have HC := hid (bitsN_limbs (Nat.pos_of_ne_zero h0))
    clear hcell hA h0
    generalize hp : limbs (val l) = p at *
    have HP := hid hp; clear hp
    have hbl := bitsN_le hok
    rw [List.getD_eq_getElem?_getD] at hok
    have he := bitLen_eq _ hok
    have hb32 : Lib.bitLen (p[p.length - 1]?.getD 0) ≤ 32 := by rw [he]; rw [List.getD_eq_getElem?_getD] at hbl; exact hbl
    have HE := hid he; clear he
    go_wp2_with (refine (Tryd.bits_Len32 _ _ (by omega) (by omega)).mono ?_; rintro e w' ⟨rfl, rfl⟩)
    go_ret
    refine ⟨ret_int ?_, rfl⟩
    rw [HC.out, HE.out, List.getD_eq_getElem?_getD]
    omega
end Go.Proofs.YtfjanomjmlcgaaaDoor
