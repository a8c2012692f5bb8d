/- What the rows' steps share: a slice that came in reads as limbs; the world in which the listed tables lie. bits.Add32, bits.Sub32; nat.addTo, nat.takeFrom in place. nat.Add by its contract. nat.takeFrom in place. nat.Sub by its contracts. The contracts of layer 1's sums, for whatever value reads as a list of limbs. -/
import Derived.Test.YtjnbonellgpjnaaGreatRows
import Derived.Test.YtjnbonellgpjnaaGreatKA
import Derived.ProofKit
import Derived.OpenShut
import Derived.SizedLaws
import Derived.Lay
import Derived.LaidOnce
import Derived.Deep.RegionWith
set_option linter.unusedVariables false
set_option linter.unusedSimpArgs false
namespace Go.Proofs.YtjnbonellgpjnaaGreat
open Go.ChangeShapes Go.WideShapes Go.ChangeAt Go.RowKit

theorem own : ownKnob Tryz.prog.godebug = none := by kernel_rfl
theorem laidOut : laidOutB Tryz.prog = true := by kernel_rfl
theorem cells_u32 : Tryz.prog.cellsOf 98 = 1 := by kernel_rfl
theorem bytes_u32 : Tryz.prog.bytesOf 98 = 4 := by kernel_rfl

/-- Two steps of a walk. -/
theorem step_below {w a b : World} (h : Below w.heap.size w a) (k : Below a.heap.size a b) : Below w.heap.size w b := h.trans (k.mono h.size)

set_option maxRecDepth 100000 in
/-- A slice of limbs that came in reads as a list of limbs. -/
theorem open_limbs {H : Type} {enc : TypeId × Value → H} {W : World} {base : Nat} {v : Value} {d : DataW H} {ps : List MemPlace}
    (hval : Value.okWide Tryz.prog W .any base 22 v) (h : DataW.Trod enc Tryz.prog W 0 (fun _ => true) true 22 v d ps) (hsz : ∀ elems spare, d = .slice elems spare → (elems.length + spare.length) * Tryz.prog.bytesOf 98 ≤ reachBytes) :
    ∃ l, Sees W v l ∧ l.length ≤ 35184372087808 := by
  obtain ⟨a0, len, cap, rfl⟩ := okWide_slice Tryz.underlying22 hval
  obtain ⟨fuel, hf⟩ := h
  rcases open_ints Tryz.underlying22 Tryz.underlying98 cells_u32 hf with ⟨hcs, hx⟩ | ⟨a, len', cap', zs, hcs, _, hl, hm, hz, hx, hcell, hwz⟩
  · simp only [Value.cells, List.cons.injEq, Value.slice.injEq, and_true] at hcs
    obtain ⟨rfl, rfl, rfl⟩ := hcs
    exact ⟨[], Sees.nil W, by simp⟩
  · simp only [Value.cells, List.cons.injEq, Value.slice.injEq, and_true] at hcs
    obtain ⟨rfl, rfl, rfl⟩ := hcs
    simp only [if_true] at hz
    have hd : d = .slice (lits .u32 (zs.take len)) (lits .u32 (zs.drop len)) := congrArg Prod.fst hx
    have hsz2 := hsz _ _ hd
    rw [bytes_u32] at hsz2
    simp only [lits, List.length_map, List.length_take, List.length_drop, reachBytes] at hsz2
    have hrange : ∀ i, 0 ≤ zs.getD i 0 ∧ zs.getD i 0 < 4294967296 := fun i => by
      rw [List.getD_eq_getElem?_getD]
      cases e : zs[i]? with
      | none => decide
      | some z =>
        have := hwz z (List.mem_of_getElem? e)
        simp [Lit.wf, IntKind.min, IntKind.max, IntKind.signed, IntKind.bits] at this
        simp only [Option.getD_some]
        omega
    have hlen : ((zs.take len).map Int.toNat).length = len := by simp; omega
    refine ⟨(zs.take len).map Int.toNat, ⟨some a, cap, by rw [hlen], by omega, by omega, ?_, (fun e => by cases e), fun hp => ?_⟩, by omega⟩
    · intro x hx'
      obtain ⟨z, hz', rfl⟩ := List.mem_map.1 hx'
      obtain ⟨i, hi, rfl⟩ := List.getElem_of_mem (List.mem_of_mem_take hz')
      have := hrange i
      rw [List.getD_eq_getElem?_getD, List.getElem?_eq_getElem hi] at this
      simp only [Option.getD_some] at this
      omega
    · obtain ⟨b, off, rfl, hc⟩ := ints_at hcell (by omega)
      refine ⟨b, off, rfl, fun i hi => ?_⟩
      rw [hc i (by omega)]
      have e : ((((zs.take len).map Int.toNat).getD i 0 : Nat) : Int) = zs.getD i 0 := by
        have h1 := (hrange i).1
        rw [List.getD_eq_getElem?_getD, List.getElem?_map, List.getElem?_take_of_lt (by omega)]
        rw [List.getD_eq_getElem?_getD] at h1 ⊢
        cases e2 : zs[i]? with
        | none => simp
        | some z => rw [e2] at h1; simp at h1 ⊢; omega
      rw [e]

end Go.Proofs.YtjnbonellgpjnaaGreat

set_option linter.unusedVariables false
set_option linter.unusedSimpArgs false
namespace Go.Proofs.YtjnbonellgpjnaaGreat
open Go.RowKit

theorem ret_pair {k l : IntKind} {a b c d : Int} (h : a = b) (h' : c = d) : Ending.returned (.tuple #[.int k a, .int l c]) = .returned (.tuple #[.int k b, .int l d]) := by rw [h, h']

theorem add32 (x y c : Nat) (hx : x < 4294967296) (hy : y < 4294967296) (hc : c ≤ 1) : ∃ s d : Nat, s < 4294967296 ∧ d ≤ 1 ∧ Hid (x + y + c = s + 4294967296 * d) ∧
    ∀ w, Calls Tryz.prog 134 #[.int .u32 x, .int .u32 y, .int .u32 c] w fun e w' => e = .returned (.tuple #[.int .u32 s, .int .u32 d]) ∧ w' = w := by
  refine ⟨(x + y + c) % 4294967296, (x + y + c) / 4294967296, by omega, by omega, by show _ = _; omega, fun w => ?_⟩
  go_enter Tryz.func134, Tryz.ntmps134
  go_wp2
  go_ret2
  exact ⟨ret_pair (by omega) (by omega), rfl⟩

/-- The borrow of bits.Sub32, as its text says it. -/
def borrowRaw (x y d : Int) : Int :=
  bits BinOp.or IntKind.u32 (bits BinOp.and IntKind.u32 (bits BinOp.xor IntKind.u32 IntKind.u32.max x) y) (bits BinOp.and IntKind.u32 (bits BinOp.xor IntKind.u32 IntKind.u32.max (bits BinOp.xor IntKind.u32 x y)) d) / 2147483648

theorem sub32_raw (x y c : Nat) (hx : x < 4294967296) (hy : y < 4294967296) (hc : c ≤ 1) (w : World) :
    Calls Tryz.prog 138 #[.int .u32 x, .int .u32 y, .int .u32 c] w fun e w' => e = .returned (.tuple #[.int .u32 (((x : Int) - y - c) % 4294967296), .int .u32 (borrowRaw x y (((x : Int) - y - c) % 4294967296))]) ∧ w' = w := by
  go_enter Tryz.func138, Tryz.ntmps138
  go_wp2
  all_goals first | (exfalso; rename_i h; revert h; decide) | skip
  go_ret2
  exact ⟨rfl, rfl⟩

theorem top_bit (x : Nat) (h : x < 4294967296) : x >>> 31 = 0 ∨ x >>> 31 = 1 := by
  rw [Nat.shiftRight_eq_div_pow]; omega

theorem borrow_nat (x y d : Nat) (hx : x < 4294967296) (hy : y < 4294967296) (hd : d < 4294967296) :
    borrowRaw x y d = (((((4294967295 ^^^ x) &&& y) ||| ((4294967295 ^^^ (x ^^^ y)) &&& d)) >>> 31 : Nat) : Int) := by
  have hm : IntKind.u32.max = ((4294967295 : Nat) : Int) := by decide
  have h32 : (4294967296 : Nat) = 2 ^ 32 := by decide
  have l1 : 4294967295 ^^^ x < 4294967296 := by rw [h32]; exact Nat.xor_lt_two_pow (by decide) (by omega)
  have l2 : x ^^^ y < 4294967296 := by rw [h32]; exact Nat.xor_lt_two_pow (by omega) (by omega)
  have l3 : 4294967295 ^^^ (x ^^^ y) < 4294967296 := by rw [h32]; exact Nat.xor_lt_two_pow (by decide) (by omega)
  have l4 : (4294967295 ^^^ x) &&& y < 4294967296 := Nat.lt_of_le_of_lt Nat.and_le_right hy
  have l5 : (4294967295 ^^^ (x ^^^ y)) &&& d < 4294967296 := Nat.lt_of_le_of_lt Nat.and_le_right hd
  unfold borrowRaw
  rw [hm, u32_xor_nat _ _ (by decide) hx, u32_and_nat _ _ l1 hy, u32_xor_nat _ _ hx hy, u32_xor_nat _ _ (by decide) l2, u32_and_nat _ _ l3 hd, u32_or_nat _ _ l4 l5, Nat.shiftRight_eq_div_pow]
  rfl

theorem borrow_eq (x y c d : Nat) (hx : x < 4294967296) (hy : y < 4294967296) (hc : c ≤ 1) (hd : d < 4294967296) (e : (x + 4294967296 + 4294967296 - y - c) % 4294967296 = d) :
    borrowRaw x y d = ((if x < y + c then 1 else 0 : Nat) : Int) := by
  rw [borrow_nat x y d hx hy hd]
  congr 1
  rw [Nat.shiftRight_or_distrib, Nat.shiftRight_and_distrib, Nat.shiftRight_and_distrib, Nat.shiftRight_xor_distrib, Nat.shiftRight_xor_distrib, Nat.shiftRight_xor_distrib]
  have h1 : (4294967295 : Nat) >>> 31 = 1 := by decide
  rw [h1]
  have ex := Nat.shiftRight_eq_div_pow x 31
  have ey := Nat.shiftRight_eq_div_pow y 31
  have ed := Nat.shiftRight_eq_div_pow d 31
  rcases top_bit x hx with hx1 | hx1 <;> rcases top_bit y hy with hy1 | hy1 <;> rcases top_bit d hd with hd1 | hd1 <;> rw [hx1, hy1, hd1] <;> rw [hx1] at ex <;> rw [hy1] at ey <;> rw [hd1] at ed <;> simp <;> omega

theorem sub32 (x y c : Nat) (hx : x < 4294967296) (hy : y < 4294967296) (hc : c ≤ 1) : ∃ s d : Nat, s < 4294967296 ∧ d ≤ 1 ∧ Hid (x + 4294967296 * d = s + y + c) ∧
    ∀ w, Calls Tryz.prog 138 #[.int .u32 x, .int .u32 y, .int .u32 c] w fun e w' => e = .returned (.tuple #[.int .u32 s, .int .u32 d]) ∧ w' = w := by
  refine ⟨(x + 4294967296 + 4294967296 - y - c) % 4294967296, if x < y + c then 1 else 0, by omega, by split <;> omega, by show _ = _; split <;> omega, fun w => ?_⟩
  refine (sub32_raw x y c hx hy hc w).mono fun e w' ⟨he, hw⟩ => ⟨?_, hw⟩
  subst he
  have e1 : ((x : Int) - y - c) % 4294967296 = (((x + 4294967296 + 4294967296 - y - c) % 4294967296 : Nat) : Int) := by omega
  rw [e1]
  exact ret_pair rfl (borrow_eq x y c _ hx hy hc (by omega) rfl)

/-- What addTo leaves. -/
def AddedTo (w : World) (g o n y : Nat) (s : List Nat) (e : Ending) (w' : World) : Prop :=
  ∃ t c, e = .returned (.int .u32 (c : Nat)) ∧ AddTo s o n y t c ∧ Row w' g t ∧ w.grownBy w' (some g)

set_option maxHeartbeats 1000000 in
theorem nat_addTo (g o n cap : Nat) (B : Option Addr) (cb : Nat) (s m : List Nat) (w : World) (hr : Row w g s) (hs : Ok s) (hb : Sees w (.slice B m.length cb) m) (hne : 0 < m.length → ∀ a, B = some a → a.block ≠ g)
    (hmn : m.length ≤ n) (hn : o + n ≤ s.length) (hsl : s.length ≤ 70368744177664) :
    Calls Tryz.prog 122 #[.slice (some ⟨g, o, none⟩) n cap, .slice B m.length cb] w fun e w' => AddedTo w g o n (val m) s e w' := by
  have HR := hid hr; have HS := hid hs; have HB := hid hb; have HN := hid hne
  clear hr hs hb hne
  go_enter Tryz.func122, Tryz.ntmps122
  go_wp2
  go_loopw [5, 10] (fun v5 v wr => ∃ (k c : Nat) (t : List Nat), k ≤ m.length ∧ v = .int .i64 k ∧ v5 = .int .u32 c ∧ c ≤ 1 ∧ Hid (AddTo s o k (valF (fun i => m.getD i 0) k) t c) ∧ Hid (Row wr g t) ∧ Hid (w.grownBy wr (some g))) (fun _ v _ => m.length - (intOf v).toNat)
  case atStart => exact ⟨0, 0, s, Nat.zero_le _, rfl, rfl, by omega, AddTo.start HS.out o, HR, World.grownBy.refl _ _⟩
  case round =>
    obtain ⟨k, c, t, hk, rfl, rfl, hc1, ha, hrow, hg⟩ := hrel
    by_cases hlt : k < m.length
    · obtain ⟨b2, o2, rfl, hcb'⟩ := HB.out.at (by omega)
      have hcb := hg.out.cell (hcb' k hlt) (by have := HN.out (by omega) _ rfl; simpa using this)
      have htl := ha.out.part.len
      have hca := hrow.out.cell (i := o + k) (by omega)
      have hfr := hrow.out.frozen (o + k)
      have hox := ha.out.part.ok.getD (o + k)
      have hob := HB.out.ok.getD k
      have hsame := ha.out.part.out (o + k) (.inr (by omega))
      obtain ⟨x, d, hx, hd, hxd, hcall⟩ := add32 (t.getD (o + k) 0) (m.getD k 0) c hox hob hc1
      have hstep := ha.out.step (by omega) (m.getD k 0) x d hx hd (by rw [← hsame]; exact hxd.out)
      have HStep : Hid (AddTo s o (k + 1) (valF (fun i => m.getD i 0) (k + 1)) (t.set (o + k) x) d) := hstep
      have HRow := hid (hrow.out.set (o + k) x)
      have HG := hid (grownBy_set (i := o + k) (v := .int .u32 (x : Nat)) hg.out)
      have HCall := hid hcall
      have hkn : k < n := by omega
      clear hstep hcall hxd hsame hcb'
      generalize t.getD (o + k) 0 = u at *
      generalize m.getD k 0 = v at *
      go_wp2
      go_region_with (go_at_call 134; refine (HCall.out _).mono ?_; rintro e w' ⟨rfl, rfl⟩)
      all_goals
        go_wp2
        go_roundw
        case rel => exact ⟨k + 1, d, t.set (o + k) x, by omega, by go_num, rfl, hd, HStep, HRow, grownBy_drew HG.out⟩
        case measure => simp [intOf]; omega
    · obtain rfl : k = m.length := by omega
      have hv : valF (fun i => m.getD i 0) m.length = val m := (val_valF m m.length (Nat.le_refl _)).symm
      rw [hv] at ha
      clear hv
      go_wp2
      go_loopw [5, 35] (fun v5 v wr => ∃ (j c : Nat) (t : List Nat), m.length + j ≤ n ∧ v = .int .i64 j ∧ v5 = .int .u32 c ∧ c ≤ 1 ∧ Hid (AddTo s o (m.length + j) (val m) t c) ∧ Hid (Row wr g t) ∧ Hid (w.grownBy wr (some g))) (fun _ v _ => n - (intOf v).toNat)
      case atStart => exact ⟨0, c, t, by omega, rfl, rfl, hc1, ha, hrow, hg⟩
      case round =>
        clear ha hrow hg
        obtain ⟨j, c, t, hj, rfl, rfl, hc1, ha, hrow, hg⟩ := hrel
        by_cases hlt : m.length + j < n
        · have htl := ha.out.part.len
          have hca := hrow.out.cell (i := o + (m.length + j)) (by omega)
          have hfr := hrow.out.frozen (o + (m.length + j))
          have hox := ha.out.part.ok.getD (o + (m.length + j))
          have hsame := ha.out.part.out (o + (m.length + j)) (.inr (by omega))
          obtain ⟨x, d, hx, hd, hxd, hcall⟩ := add32 (t.getD (o + (m.length + j)) 0) 0 c hox (by decide) hc1
          have hstep := ha.out.step (by omega) 0 x d hx hd (by rw [← hsame]; exact hxd.out)
          have HStep : Hid (AddTo s o (m.length + (j + 1)) (val m) (t.set (o + (m.length + j)) x) d) := by rw [Nat.mul_zero, Nat.add_zero] at hstep; exact hstep
          have HRow := hid (hrow.out.set (o + (m.length + j)) x)
          have HG := hid (grownBy_set (i := o + (m.length + j)) (v := .int .u32 (x : Nat)) hg.out)
          have HCall := hid hcall
          clear hstep hcall hxd hsame
          generalize t.getD (o + (m.length + j)) 0 = u at *
          go_wp2_with (go_at_call 134; refine (HCall.out _).mono ?_; rintro e w' ⟨rfl, rfl⟩)
          go_roundw
          case rel => exact ⟨j + 1, d, t.set (o + (m.length + j)) x, by omega, by go_num, rfl, hd, HStep, HRow, HG⟩
          case measure => simp [intOf]; omega
        · have hjn : m.length + j = n := by omega
          have HA : Hid (AddTo s o n (val m) t c) := by rw [← hjn]; exact ha
          clear ha hjn
          go_wp2
          go_ret
          exact ⟨t, c, rfl, HA.out, hrow.out, hg.out⟩
end Go.Proofs.YtjnbonellgpjnaaGreat

set_option linter.unusedVariables false
set_option linter.unusedSimpArgs false
namespace Go.Proofs.YtjnbonellgpjnaaGreat
open Go.RowKit

/-- What addTo makes of a number and a zero limb above it: the sum. -/
theorem AddTo.total {s t : List Nat} {n y c : Nat} (h : AddTo s 0 n y t c) (hl : s.length = n) (hc : val s + y < 4294967296 ^ n) : val t = val s + y := by
  have h1 := h.sum
  rw [seg_all t n (by rw [h.part.len, hl]; exact Nat.le_refl _), seg_all s n (by omega)] at h1
  have : c = 0 := by
    rcases Nat.eq_zero_or_pos c with h0 | h0
    · exact h0
    · have : 4294967296 ^ n * 1 ≤ 4294967296 ^ n * c := Nat.mul_le_mul_left _ h0
      omega
  rw [this] at h1
  omega

theorem val_pad (l : List Nat) (k : Nat) : val (l ++ List.replicate k 0) = val l := by
  rw [val_append, val_replicate]; simp

/-- Add, behind the two trims, the longer one first. -/
theorem hsz : (Tryz.prog.info? 98).map (·.size) = some 1 := by kernel_rfl

theorem add_fits {p q : List Nat} (hp : Ok p) (hq : Ok q) (h : q.length ≤ p.length) : val (p ++ List.replicate 1 0) + val q < 4294967296 ^ (p.length + 1) := by
  have h1 := val_lt hp
  have h2 := val_lt hq
  have h3 : 4294967296 ^ q.length ≤ 4294967296 ^ p.length := Nat.pow_le_pow_right (by decide) h
  rw [val_pad, Nat.pow_succ]
  omega

/-- A difference, and true. -/
def IsPair (w : World) (x : Nat) (e : Ending) (w' : World) : Prop := ∃ v, e = .returned (.tuple #[v, .bool true]) ∧ Sees w' v (limbs x) ∧ Below w.heap.size w w'

/-- A new row of N zero limbs, into which p is about to be copied. -/
theorem made_copy {w : World} {A : Option Addr} {c : Nat} {p : List Nat} (h : Sees w (.slice A p.length c) p) (N : Nat) :
    Hid ((w.alloc (.cells (madeCells #[Value.int .u32 0] N) 98)).heap[w.heap.size]? = some (.cells (List.replicate N (Value.int .u32 0)).toArray 98 (0, 0))) ∧
    Hid (Below w.heap.size w (w.alloc (.cells (madeCells #[Value.int .u32 0] N) 98))) ∧
    Hid (0 < (enc p).length → ∃ ad, A = some ad ∧ ∀ j v, (enc p)[j]? = some v → (w.alloc (.cells (madeCells #[Value.int .u32 0] N) 98)).cell? (ad.add j) = some v) := by
  have hbel : Below w.heap.size w (w.alloc (.cells (madeCells #[Value.int .u32 0] N) 98)) := (Below.refl _ w).alloc (Nat.le_refl _) _
  refine ⟨?_, hbel, fun hp => ?_⟩
  · show _ = _
    rw [Deep.blk_alloc_new, ← toList_madeCells_one]
  · rw [enc_length] at hp
    obtain ⟨b, o, rfl, -⟩ := h.at hp
    exact ⟨_, rfl, (h.below hbel).news⟩

set_option maxHeartbeats 1000000 in
theorem nat_add (a b : Option Addr) (la ca lb cb : Nat) (l m : List Nat) (w : World) (ha : Sees w (.slice a la ca) l) (hb : Sees w (.slice b lb cb) m) (hl : l.length ≤ 35184372088832) (hm : m.length ≤ 35184372088832) :
    Calls Tryz.prog 102 #[.slice a la ca, .slice b lb cb] w fun e w' => IsNum w (val l + val m) e w' := by
  have hlen1 := (limbs_prefix ha.ok).2
  have hlen2 := (limbs_prefix hb.ok).2
  go_enter Tryz.func102, Tryz.ntmps102
  go_wp2_with fail
  refine (trim_sees _ _ _ _ _ ha).mono ?_
  rintro e w' ⟨⟨A, rfl, hA, -⟩, rfl⟩
  have HA := hid hA; clear hA
  go_wp2_with fail
  refine (trim_sees _ _ _ _ _ hb).mono ?_
  rintro e w' ⟨⟨B, rfl, hB, -⟩, rfl⟩
  have HB := hid hB; clear hB ha hb
  obtain ⟨p, hp⟩ : ∃ p, limbs (val l) = p := ⟨_, rfl⟩
  obtain ⟨q, hq⟩ : ∃ q, limbs (val m) = q := ⟨_, rfl⟩
  rw [hp] at HA hlen1
  rw [hq] at HB hlen2
  simp only [hp, hq]
  have HP := hid hp; clear hp
  have HQ := hid hq; clear hq
  have hp1 : p.length ≤ 35184372088832 := by omega
  have hq1 : q.length ≤ 35184372088832 := by omega
  clear hlen1 hlen2 hl hm
  by_cases h : p.length < q.length
  · have hmk := run_make_row' (P := Tryz.prog) 22 98 (.int .u32 0) 4 Tryz.underlying22 info_u32 rfl .i64 .i64 (q.length + 1) (by omega) (by omega)
    have ec : ((q.length + 1 : Nat) : Int) = (q.length : Int) + 1 := by omega
    rw [ec] at hmk
    clear ec
    obtain ⟨HB1, HB2, HB3⟩ := made_copy HB.out (q.length + 1)
    go_wp2_with (with_reducible refine wpList_copy_splice rfl (.tmp 21) (.tmp 22) 22 22 rfl 98 Tryz.underlying22 hsz (some ⟨w.heap.size, 0, none⟩) B (q.length + 1) (q.length + 1) q.length q.length rfl rfl w.heap.size 0 (List.replicate (q.length + 1) (Value.int .u32 0)) 98 HB1.out (enc q) ?hn1 (fun h => ⟨rfl, HB3.out h⟩) ?hfit1 (enc_one q) w.heap.size w HB2.out (Nat.le_refl _) ?_)
    case hn1 => first | exact enc_length _ | (rw [enc_length]; exact (Nat.min_eq_left (by omega)).symm)
    case hfit1 => first | (rw [enc_length, List.length_replicate]; omega) | (rw [enc_length]; omega) | (simp [enc_length]; done)
    intro w2 hg2 hb2
    have hrow := Row.of_splice hg2.out (by omega)
    have e1 : q.length + 1 - q.length = 1 := by omega
    rw [e1] at hrow
    have HROW := hid hrow
    have HB4 := hid hb2
    clear hg2 e1 hrow hb2 hmk HB1 HB2 HB3
    go_wp2_with fail
    refine (nat_addTo w.heap.size 0 (q.length + 1) (q.length + 1) A p.length (q ++ List.replicate 1 0) p w2 HROW.out (HB.out.ok.append (Ok.replicate 1)) (HA.out.below HB4.out) (fun h a e => by subst e; have := HA.out.lt h; omega) (by omega) (by simp) (by simp; omega)).mono ?_
    rintro e w3 ⟨t, c, rfl, hadd, hrow3, hgb⟩
    have htl := hadd.part.len
    rw [List.length_append, List.length_replicate] at htl
    have hs3 : Sees w3 (.slice (some ⟨w.heap.size, 0, none⟩) (q.length + 1) (q.length + 1)) t := by
      have := hrow3.sees hadd.part.ok 0 (q.length + 1) (q.length + 1) (by omega) (Nat.le_refl _) (by omega)
      rwa [List.drop_zero, List.take_of_length_le (by omega)] at this
    have hv := hadd.total (by simp) (add_fits HB.out.ok HA.out.ok (by omega))
    rw [val_pad] at hv
    have HV := hid hv
    have HS3 := hid hs3
    have HB5 : Hid (Below w.heap.size w w3) := HB4.out.grown hgb (HB4.out.size) (fun k e => by simp at e; omega)
    clear hadd hrow3 hgb htl hs3 hv
    go_wp2_with fail
    refine (trim_sees _ _ _ _ _ HS3.out).mono ?_
    rintro e w4 ⟨⟨R, rfl, hR, -⟩, rfl⟩
    have HRR := hid hR; clear hR
    go_wp2
    go_ret
    refine ⟨_, rfl, ?_, HB5.out⟩
    have e := HV.out
    rw [← HP.out, ← HQ.out, val_limbs, val_limbs] at e
    rw [e, Nat.add_comm] at HRR
    rw [e, Nat.add_comm]
    exact HRR.out
  · have hmk := run_make_row' (P := Tryz.prog) 22 98 (.int .u32 0) 4 Tryz.underlying22 info_u32 rfl .i64 .i64 (p.length + 1) (by omega) (by omega)
    have ec : ((p.length + 1 : Nat) : Int) = (p.length : Int) + 1 := by omega
    rw [ec] at hmk
    clear ec
    obtain ⟨HB1, HB2, HB3⟩ := made_copy HA.out (p.length + 1)
    go_wp2_with (with_reducible refine wpList_copy_splice rfl (.tmp 21) (.tmp 22) 22 22 rfl 98 Tryz.underlying22 hsz (some ⟨w.heap.size, 0, none⟩) A (p.length + 1) (p.length + 1) p.length p.length rfl rfl w.heap.size 0 (List.replicate (p.length + 1) (Value.int .u32 0)) 98 HB1.out (enc p) ?hn2 (fun h => ⟨rfl, HB3.out h⟩) ?hfit2 (enc_one p) w.heap.size w HB2.out (Nat.le_refl _) ?_)
    case hn2 => first | exact enc_length _ | (rw [enc_length]; exact (Nat.min_eq_left (by omega)).symm)
    case hfit2 => first | (rw [enc_length, List.length_replicate]; omega) | (rw [enc_length]; omega) | (simp [enc_length]; done)
    intro w2 hg2 hb2
    have hrow := Row.of_splice hg2.out (by omega)
    have e1 : p.length + 1 - p.length = 1 := by omega
    rw [e1] at hrow
    have HROW := hid hrow
    have HB4 := hid hb2
    clear hg2 e1 hrow hb2 hmk HB1 HB2 HB3
    go_wp2_with fail
    refine (nat_addTo w.heap.size 0 (p.length + 1) (p.length + 1) B q.length (p ++ List.replicate 1 0) q w2 HROW.out (HA.out.ok.append (Ok.replicate 1)) (HB.out.below HB4.out) (fun h a e => by subst e; have := HB.out.lt h; omega) (by omega) (by simp) (by simp; omega)).mono ?_
    rintro e w3 ⟨t, c, rfl, hadd, hrow3, hgb⟩
    have htl := hadd.part.len
    rw [List.length_append, List.length_replicate] at htl
    have hs3 : Sees w3 (.slice (some ⟨w.heap.size, 0, none⟩) (p.length + 1) (p.length + 1)) t := by
      have := hrow3.sees hadd.part.ok 0 (p.length + 1) (p.length + 1) (by omega) (Nat.le_refl _) (by omega)
      rwa [List.drop_zero, List.take_of_length_le (by omega)] at this
    have hv := hadd.total (by simp) (add_fits HA.out.ok HB.out.ok (by omega))
    rw [val_pad] at hv
    have HV := hid hv
    have HS3 := hid hs3
    have HB5 : Hid (Below w.heap.size w w3) := HB4.out.grown hgb (HB4.out.size) (fun k e => by simp at e; omega)
    clear hadd hrow3 hgb htl hs3 hv
    go_wp2_with fail
    refine (trim_sees _ _ _ _ _ HS3.out).mono ?_
    rintro e w4 ⟨⟨R, rfl, hR, -⟩, rfl⟩
    have HRR := hid hR; clear hR
    go_wp2
    go_ret
    refine ⟨_, rfl, ?_, HB5.out⟩
    have e := HV.out
    rw [← HP.out, ← HQ.out, val_limbs, val_limbs] at e
    rw [e] at HRR
    rw [e]
    exact HRR.out
end Go.Proofs.YtjnbonellgpjnaaGreat

set_option linter.unusedVariables false
set_option linter.unusedSimpArgs false
namespace Go.Proofs.YtjnbonellgpjnaaGreat
open Go.RowKit

/-- What takeFrom leaves. -/
def TakenFrom (w : World) (g o n y : Nat) (s : List Nat) (e : Ending) (w' : World) : Prop :=
  ∃ t c, e = .returned (.tuple #[]) ∧ TakeFrom s o n y t c ∧ Row w' g t ∧ w.grownBy w' (some g)

set_option maxHeartbeats 1000000 in
theorem nat_takeFrom (g o n cap : Nat) (B : Option Addr) (cb : Nat) (s m : List Nat) (w : World) (hr : Row w g s) (hs : Ok s) (hb : Sees w (.slice B m.length cb) m) (hne : 0 < m.length → ∀ a, B = some a → a.block ≠ g)
    (hmn : m.length ≤ n) (hn : o + n ≤ s.length) (hsl : s.length ≤ 70368744177664) :
    Calls Tryz.prog 139 #[.slice (some ⟨g, o, none⟩) n cap, .slice B m.length cb] w fun e w' => TakenFrom w g o n (val m) s e w' := by
  have HR := hid hr; have HS := hid hs; have HB := hid hb; have HN := hid hne
  clear hr hs hb hne
  go_enter Tryz.func139, Tryz.ntmps139
  go_wp2
  go_loopw [4, 9] (fun v5 v wr => ∃ (k c : Nat) (t : List Nat), k ≤ m.length ∧ v = .int .i64 k ∧ v5 = .int .u32 c ∧ c ≤ 1 ∧ Hid (TakeFrom s o k (valF (fun i => m.getD i 0) k) t c) ∧ Hid (Row wr g t) ∧ Hid (w.grownBy wr (some g))) (fun _ v _ => m.length - (intOf v).toNat)
  case atStart => exact ⟨0, 0, s, Nat.zero_le _, rfl, rfl, by omega, TakeFrom.start HS.out o, HR, World.grownBy.refl _ _⟩
  case round =>
    obtain ⟨k, c, t, hk, rfl, rfl, hc1, ha, hrow, hg⟩ := hrel
    by_cases hlt : k < m.length
    · obtain ⟨b2, o2, rfl, hcb'⟩ := HB.out.at (by omega)
      have hcb := hg.out.cell (hcb' k hlt) (by have := HN.out (by omega) _ rfl; simpa using this)
      have htl := ha.out.part.len
      have hca := hrow.out.cell (i := o + k) (by omega)
      have hfr := hrow.out.frozen (o + k)
      have hox := ha.out.part.ok.getD (o + k)
      have hob := HB.out.ok.getD k
      have hsame := ha.out.part.out (o + k) (.inr (by omega))
      obtain ⟨x, d, hx, hd, hxd, hcall⟩ := sub32 (t.getD (o + k) 0) (m.getD k 0) c hox hob hc1
      have hstep := ha.out.step (by omega) (m.getD k 0) x d hx hd (by rw [← hsame]; exact hxd.out)
      have HStep : Hid (TakeFrom s o (k + 1) (valF (fun i => m.getD i 0) (k + 1)) (t.set (o + k) x) d) := hstep
      have HRow := hid (hrow.out.set (o + k) x)
      have HG := hid (grownBy_set (i := o + k) (v := .int .u32 (x : Nat)) hg.out)
      have HCall := hid hcall
      have hkn : k < n := by omega
      clear hstep hcall hxd hsame hcb'
      generalize t.getD (o + k) 0 = u at *
      generalize m.getD k 0 = v at *
      go_wp2
      go_region_with (go_at_call 138; refine (HCall.out _).mono ?_; rintro e w' ⟨rfl, rfl⟩)
      all_goals
        go_wp2
        go_roundw
        case rel => exact ⟨k + 1, d, t.set (o + k) x, by omega, by go_num, rfl, hd, HStep, HRow, grownBy_drew HG.out⟩
        case measure => simp [intOf]; omega
    · obtain rfl : k = m.length := by omega
      have hv : valF (fun i => m.getD i 0) m.length = val m := (val_valF m m.length (Nat.le_refl _)).symm
      rw [hv] at ha
      clear hv
      go_wp2
      go_loopw [4, 34] (fun v5 v wr => ∃ (j c : Nat) (t : List Nat), m.length + j ≤ n ∧ v = .int .i64 j ∧ v5 = .int .u32 c ∧ c ≤ 1 ∧ Hid (TakeFrom s o (m.length + j) (val m) t c) ∧ Hid (Row wr g t) ∧ Hid (w.grownBy wr (some g))) (fun _ v _ => n - (intOf v).toNat)
      case atStart => exact ⟨0, c, t, by omega, rfl, rfl, hc1, ha, hrow, hg⟩
      case round =>
        clear ha hrow hg
        obtain ⟨j, c, t, hj, rfl, rfl, hc1, ha, hrow, hg⟩ := hrel
        by_cases hlt : m.length + j < n
        · have htl := ha.out.part.len
          have hca := hrow.out.cell (i := o + (m.length + j)) (by omega)
          have hfr := hrow.out.frozen (o + (m.length + j))
          have hox := ha.out.part.ok.getD (o + (m.length + j))
          have hsame := ha.out.part.out (o + (m.length + j)) (.inr (by omega))
          obtain ⟨x, d, hx, hd, hxd, hcall⟩ := sub32 (t.getD (o + (m.length + j)) 0) 0 c hox (by decide) hc1
          have hstep := ha.out.step (by omega) 0 x d hx hd (by rw [← hsame]; exact hxd.out)
          have HStep : Hid (TakeFrom s o (m.length + (j + 1)) (val m) (t.set (o + (m.length + j)) x) d) := by rw [Nat.mul_zero, Nat.add_zero] at hstep; exact hstep
          have HRow := hid (hrow.out.set (o + (m.length + j)) x)
          have HG := hid (grownBy_set (i := o + (m.length + j)) (v := .int .u32 (x : Nat)) hg.out)
          have HCall := hid hcall
          clear hstep hcall hxd hsame
          generalize t.getD (o + (m.length + j)) 0 = u at *
          go_wp2_with (go_at_call 138; refine (HCall.out _).mono ?_; rintro e w' ⟨rfl, rfl⟩)
          go_roundw
          case rel => exact ⟨j + 1, d, t.set (o + (m.length + j)) x, by omega, by go_num, rfl, hd, HStep, HRow, HG⟩
          case measure => simp [intOf]; omega
        · have hjn : m.length + j = n := by omega
          have HA : Hid (TakeFrom s o n (val m) t c) := by rw [← hjn]; exact ha
          clear ha hjn
          go_wp2
          go_end0
          exact ⟨t, c, rfl, HA.out, hrow.out, hg.out⟩
end Go.Proofs.YtjnbonellgpjnaaGreat

set_option linter.unusedVariables false
set_option linter.unusedSimpArgs false
namespace Go.Proofs.YtjnbonellgpjnaaGreat
open Go.RowKit

theorem TakeFrom.total {s t : List Nat} {n y c : Nat} (h : TakeFrom s 0 n y t c) (hl : s.length = n) (hy : y ≤ val s) : val t = val s - y := by
  have h1 := h.sum
  rw [seg_all t n (by rw [h.part.len, hl]; exact Nat.le_refl _), seg_all s n (by omega)] at h1
  have h2 := val_lt h.part.ok
  rw [h.part.len, hl] at h2
  have : c = 0 := by
    rcases Nat.eq_zero_or_pos c with h0 | h0
    · exact h0
    · have : 4294967296 ^ n * 1 ≤ 4294967296 ^ n * c := Nat.mul_le_mul_left _ h0
      omega
  rw [this] at h1
  omega

theorem length_le_of_le {x y : Nat} (h : y ≤ x) : (limbs y).length ≤ (limbs x).length := by
  rcases Nat.lt_or_ge (limbs x).length (limbs y).length with h1 | h1
  · have := limbs_length_lt h1; omega
  · exact h1

set_option maxHeartbeats 1000000 in
theorem nat_sub_no (a b : Option Addr) (la ca lb cb : Nat) (l m : List Nat) (w : World) (ha : Sees w (.slice a la ca) l) (hb : Sees w (.slice b lb cb) m) (hlt : val l < val m) :
    Calls Tryz.prog 137 #[.slice a la ca, .slice b lb cb] w fun e w' => e = .returned (.tuple #[.slice none 0 0, .bool false]) ∧ Below w.heap.size w w' := by
  go_enter Tryz.func137, Tryz.ntmps137
  go_wp2_with fail
  refine (trim_sees _ _ _ _ _ ha).mono ?_
  rintro e w' ⟨⟨A, rfl, hA, -⟩, rfl⟩
  have HA := hid hA; clear hA
  go_wp2_with fail
  refine (trim_sees _ _ _ _ _ hb).mono ?_
  rintro e w' ⟨⟨B, rfl, hB, -⟩, rfl⟩
  have HB := hid hB; clear hB ha hb
  go_wp2_with fail
  refine (nat_cmp _ _ _ _ _ _ _ _ _ HA.out HB.out).mono ?_
  rw [val_limbs, val_limbs, cmpI_lt hlt]
  rintro e w1 ⟨rfl, hb1⟩
  clear hlt
  go_wp2
  go_ret2
  exact ⟨rfl, hb1⟩

set_option maxHeartbeats 1000000 in
theorem nat_sub_ok (a b : Option Addr) (la ca lb cb : Nat) (l m : List Nat) (w : World) (ha : Sees w (.slice a la ca) l) (hb : Sees w (.slice b lb cb) m) (hl : l.length ≤ 35184372088832) (hle : val m ≤ val l) :
    Calls Tryz.prog 137 #[.slice a la ca, .slice b lb cb] w fun e w' => IsPair w (val l - val m) e w' := by
  have hlen1 := (limbs_prefix ha.ok).2
  have hpq := length_le_of_le hle
  go_enter Tryz.func137, Tryz.ntmps137
  go_wp2_with fail
  refine (trim_sees _ _ _ _ _ ha).mono ?_
  rintro e w' ⟨⟨A, rfl, hA, -⟩, rfl⟩
  have HA := hid hA; clear hA
  go_wp2_with fail
  refine (trim_sees _ _ _ _ _ hb).mono ?_
  rintro e w' ⟨⟨B, rfl, hB, -⟩, rfl⟩
  have HB := hid hB; clear hB ha hb
  have hz : 0 ≤ cmpI (val l) (val m) := by unfold cmpI; rw [if_neg (by omega)]; split <;> decide
  obtain ⟨p, hp⟩ : ∃ p, limbs (val l) = p := ⟨_, rfl⟩
  obtain ⟨q, hq⟩ : ∃ q, limbs (val m) = q := ⟨_, rfl⟩
  rw [hp] at HA hlen1
  rw [hq] at HB
  rw [hp, hq] at hpq
  simp only [hp, hq]
  have hvp : val p = val l := by rw [← hp, val_limbs]
  have hvq : val q = val m := by rw [← hq, val_limbs]
  have HP := hid hvp; have HQ := hid hvq; clear hp hq
  have hp1 : p.length ≤ 35184372088832 := by omega
  have HLE := hid hle
  rw [← hvp, ← hvq] at hz
  clear hlen1 hl hle hvp hvq
  go_wp2_with fail
  refine (nat_cmp _ _ _ _ _ _ _ _ _ HA.out HB.out).mono ?_
  generalize cmpI (val p) (val q) = z at hz ⊢
  rintro e w1 ⟨rfl, hb1⟩
  have HA1 : Hid (Sees w1 (.slice A p.length p.length) p) := HA.out.below hb1
  have HB1' : Hid (Sees w1 (.slice B q.length q.length) q) := HB.out.below hb1
  have HBEL := hid hb1
  clear hb1
  have hmk := run_make_row' (P := Tryz.prog) 22 98 (.int .u32 0) 4 Tryz.underlying22 info_u32 rfl .i64 .i64 p.length (by omega) (by omega)
  obtain ⟨HB1, HB2, HB3⟩ := made_copy HA1.out p.length
  go_wp2_with (with_reducible refine wpList_copy_splice rfl (.tmp 18) (.tmp 19) 22 22 rfl 98 Tryz.underlying22 hsz (some ⟨w1.heap.size, 0, none⟩) A p.length p.length p.length p.length rfl rfl w1.heap.size 0 (List.replicate p.length (Value.int .u32 0)) 98 HB1.out (enc p) ?hn1 (fun h => ⟨rfl, HB3.out h⟩) ?hfit1 (enc_one p) w1.heap.size w1 HB2.out (Nat.le_refl _) ?_)
  case hn1 => first | exact enc_length _ | (rw [enc_length]; exact (Nat.min_eq_left (by omega)).symm)
  case hfit1 => first | (rw [enc_length, List.length_replicate]; omega) | (rw [enc_length]; omega) | (simp [enc_length]; done)
  intro w2 hg2 hb2
  have hrow := Row.of_splice hg2.out (by omega)
  have e1 : p.length - p.length = 0 := by omega
  rw [e1, List.replicate_zero, List.append_nil] at hrow
  have HROW := hid hrow
  have HB4 := hid hb2
  clear hg2 e1 hrow hb2 hmk HB1 HB2 HB3
  go_wp2_with fail
  refine (nat_takeFrom w1.heap.size 0 p.length p.length B q.length p q w2 HROW.out HA.out.ok (HB1'.out.below HB4.out) (fun h a e => by subst e; have := HB1'.out.lt h; omega) (by omega) (by omega) (by omega)).mono ?_
  rintro e w3 ⟨t, c, rfl, hadd, hrow3, hgb⟩
  have htl := hadd.part.len
  have hs3 : Sees w3 (.slice (some ⟨w1.heap.size, 0, none⟩) p.length p.length) t := by
    have := hrow3.sees hadd.part.ok 0 p.length p.length (by omega) (Nat.le_refl _) (by omega)
    rwa [List.drop_zero, List.take_of_length_le (by omega)] at this
  have hv := hadd.total rfl (by rw [HP.out, HQ.out]; exact HLE.out)
  have HV := hid hv
  have HS3 := hid hs3
  have HB5 : Hid (Below w.heap.size w w3) := HBEL.out.trans ((HB4.out.grown hgb (HB4.out.size) (fun k e => by simp at e; omega)).mono HBEL.out.size)
  clear hadd hrow3 hgb htl hs3 hv
  go_wp2_with fail
  refine (trim_sees _ _ _ _ _ HS3.out).mono ?_
  rintro e w4 ⟨⟨R, rfl, hR, -⟩, rfl⟩
  have HRR := hid hR; clear hR
  go_wp2
  go_ret2
  refine ⟨_, rfl, ?_, HB5.out⟩
  have e := HV.out
  rw [HP.out, HQ.out] at e
  rw [e] at HRR
  rw [e]
  exact HRR.out
end Go.Proofs.YtjnbonellgpjnaaGreat

set_option linter.unusedVariables false
set_option linter.unusedSimpArgs false
namespace Go.Proofs.YtjnbonellgpjnaaGreat
open Go.RowKit

theorem nat_add' {a b : Value} {l m : List Nat} {w : World} (ha : Sees w a l) (hb : Sees w b m) (hl : l.length ≤ 35184372088832) (hm : m.length ≤ 35184372088832) :
    Calls Tryz.prog 102 #[a, b] w fun e w' => ∃ v, e = .returned v ∧ Sees w' v (limbs (val l + val m)) ∧ Below w.heap.size w w' := by
  have hA := ha; have hB := hb
  obtain ⟨A, ca, rfl, -, -, -, -, -⟩ := ha
  obtain ⟨B, cb, rfl, -, -, -, -, -⟩ := hb
  exact nat_add _ _ _ _ _ _ _ _ _ hA hB hl hm
theorem nat_cmp' {a b : Value} {l m : List Nat} {w : World} (ha : Sees w a l) (hb : Sees w b m) :
    Calls Tryz.prog 65 #[a, b] w fun e w' => e = .returned (.int .i64 (cmpI (val l) (val m))) ∧ Below w.heap.size w w' := by
  have hA := ha; have hB := hb
  obtain ⟨A, ca, rfl, -, -, -, -, -⟩ := ha
  obtain ⟨B, cb, rfl, -, -, -, -, -⟩ := hb
  exact nat_cmp _ _ _ _ _ _ _ _ _ hA hB
theorem nat_bits' {a : Value} {l : List Nat} {w : World} (ha : Sees w a l) :
    Calls Tryz.prog 63 #[a] w fun e w' => e = .returned (.int .i64 (bitsN (val l) : Nat)) ∧ w = w' := by
  have hA := ha
  obtain ⟨A, ca, rfl, -, -, -, -, -⟩ := ha
  exact nat_bits _ _ _ _ _ hA
theorem nat_sub_no' {a b : Value} {l m : List Nat} {w : World} (ha : Sees w a l) (hb : Sees w b m) (hlt : val l < val m) :
    Calls Tryz.prog 137 #[a, b] w fun e w' => e = .returned (.tuple #[.slice none 0 0, .bool false]) ∧ Below w.heap.size w w' := by
  have hA := ha; have hB := hb
  obtain ⟨A, ca, rfl, -, -, -, -, -⟩ := ha
  obtain ⟨B, cb, rfl, -, -, -, -, -⟩ := hb
  exact nat_sub_no _ _ _ _ _ _ _ _ _ hA hB hlt
theorem nat_sub_ok' {a b : Value} {l m : List Nat} {w : World} (ha : Sees w a l) (hb : Sees w b m) (hl : l.length ≤ 35184372088832) (hle : val m ≤ val l) :
    Calls Tryz.prog 137 #[a, b] w fun e w' => ∃ v, e = .returned (.tuple #[v, .bool true]) ∧ Sees w' v (limbs (val l - val m)) ∧ Below w.heap.size w w' := by
  have hA := ha; have hB := hb
  obtain ⟨A, ca, rfl, -, -, -, -, -⟩ := ha
  obtain ⟨B, cb, rfl, -, -, -, -, -⟩ := hb
  exact nat_sub_ok _ _ _ _ _ _ _ _ _ hA hB hl hle
theorem nat_plain' {a : Value} {l : List Nat} {w : World} (ha : Sees w a l) (hl : l.length ≤ 35184372088832) :
    Calls Tryz.prog 112 #[a] w fun e w' => ∃ v, e = .returned v ∧ Sees w' v (limbs (val l)) ∧ Below w.heap.size w w' :=
  (plain_any a l w ha hl).mono fun _ _ h => h.sees (by have := (limbs_prefix ha.ok).2; omega)

theorem val_lt' {l : List Nat} (h : Ok l) (k : Nat) (hk : l.length ≤ k) : val l < 4294967296 ^ k :=
  Nat.lt_of_lt_of_le (val_lt h) (Nat.pow_le_pow_right (by decide) hk)
/-- A sum is a limb longer at most. -/
theorem sum_length {l m : List Nat} (hl : Ok l) (hm : Ok m) (k : Nat) (h1 : l.length ≤ k) (h2 : m.length ≤ k) : (limbs (val l + val m)).length ≤ k + 1 := by
  apply limbs_length_le
  have := val_lt' hl k h1
  have := val_lt' hm k h2
  rw [Nat.pow_succ]
  omega
/-- A difference is no longer. -/
theorem sub_length {l : List Nat} (hl : Ok l) (k : Nat) (h1 : l.length ≤ k) (y : Nat) : (limbs (val l - y)).length ≤ k := by
  apply limbs_length_le
  have := val_lt' hl k h1
  omega
end Go.Proofs.YtjnbonellgpjnaaGreat
