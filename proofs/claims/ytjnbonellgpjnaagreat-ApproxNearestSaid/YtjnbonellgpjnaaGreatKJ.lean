/- Division bit by bit, as the document's reference has it: the numbers. No program in it. The document's push, take in place. One binary digit of a list of limbs. The document's bit by its contract. The document's DivMod by its contract. The document's Gcd of layer 1 by its contract. -/
import Derived.Test.YtjnbonellgpjnaaGreatKD
import Derived.Test.YtjnbonellgpjnaaGreatKB
import Derived.Test.YtjnbonellgpjnaaGreatKA
import Derived.Test.YtjnbonellgpjnaaGreatKG
set_option linter.unusedVariables false
set_option linter.unusedSimpArgs false
namespace Go.Proofs.YtjnbonellgpjnaaGreat

theorem val_set_add {t : List Nat} {i x y : Nat} (hy : t.getD i 0 = y) (hi : i < t.length) : val (t.set i (y + x)) = val t + 4294967296 ^ i * x := by
  induction t generalizing i with
  | nil => simp at hi
  | cons z l ih =>
    cases i with
    | zero => simp at hy; subst hy; simp [val_cons]; omega
    | succ i =>
      simp only [List.set_cons_succ, val_cons, List.getD_cons_succ, List.length_cons] at *
      rw [ih hy (by omega), Nat.pow_succ, Nat.mul_add]
      have : 4294967296 ^ i * 4294967296 * x = 4294967296 * (4294967296 ^ i * x) := by rw [Nat.mul_right_comm, Nat.mul_comm]
      omega

/-- What 'push' has done behind k limbs. -/
def PushTo (s : List Nat) (k more : Nat) (t : List Nat) (c : Nat) : Prop := AddMul s 0 k (seg s 0 k + more) t c
theorem PushTo.start {s : List Nat} (h : Ok s) (more : Nat) (hm : more < 4294967296) : PushTo s 0 more s more :=
  ⟨Part.refl h 0, hm, by rw [seg_zero]; simp⟩
theorem PushTo.step {s t : List Nat} {k more c : Nat} (h : PushTo s k more t c) (hk : k < s.length) (x d : Nat) (hx : x < 4294967296) (hd : d < 4294967296) (e : s.getD k 0 * 2 + c = x + 4294967296 * d) :
    PushTo s (k + 1) more (t.set k x) d := by
  have h1 := AddMul.step h (by omega) (s.getD k 0) x d hx hd (by rw [Nat.zero_add]; omega)
  rw [Nat.zero_add] at h1
  have e2 : seg s 0 (k + 1) + more = seg s 0 k + more + 4294967296 ^ k * s.getD k 0 := by rw [seg_succ, Nat.zero_add]; omega
  show AddMul s 0 (k + 1) (seg s 0 (k + 1) + more) (t.set k x) d
  rw [e2]
  exact h1
theorem PushTo.total {s t : List Nat} {more c : Nat} (h : PushTo s s.length more t c) (hf : 2 * val s + more < 4294967296 ^ s.length) : val t = 2 * val s + more ∧ Ok t ∧ t.length = s.length := by
  have h1 := h.sum
  rw [seg_all s _ (Nat.le_refl _), seg_all t _ (by rw [h.part.len]; exact Nat.le_refl _)] at h1
  refine ⟨?_, h.part.ok, h.part.len⟩
  have h2 : c = 0 := by
    rcases Nat.eq_zero_or_pos c with h0 | h0
    · exact h0
    · have : 4294967296 ^ s.length * 1 ≤ 4294967296 ^ s.length * c := Nat.mul_le_mul_left _ h0
      omega
  rw [h2] at h1
  omega

/-- What is known above place k. -/
structure RefTo (a b k : Nat) (r q : List Nat) : Prop where
  okr : Ok r
  okq : Ok q
  rest : val r = a / 2 ^ k % b
  quot : val q = a / 2 ^ k / b * 2 ^ k

theorem bit_split (a k : Nat) : a / 2 ^ k = 2 * (a / 2 ^ (k + 1)) + a / 2 ^ k % 2 := by
  rw [Nat.pow_succ, ← Nat.div_div_eq_div_mul]; omega
theorem RefTo.start {a b n j m : Nat} (h : a < 2 ^ n) : RefTo a b n (List.replicate j 0) (List.replicate m 0) := by
  refine ⟨Ok.replicate _, Ok.replicate _, ?_, ?_⟩ <;> rw [val_replicate, Nat.div_eq_of_lt h] <;> simp
theorem RefTo.pushed {a b k : Nat} {r q : List Nat} (h : RefTo a b (k + 1) r q) (hb : 0 < b) : 2 * val r + a / 2 ^ k % 2 < 2 * b := by
  rw [h.rest]
  have := Nat.mod_lt (a / 2 ^ (k + 1)) hb
  omega
theorem RefTo.less {a b k : Nat} {r q r1 : List Nat} (h : RefTo a b (k + 1) r q) (hb : 0 < b) (ok1 : Ok r1) (h1 : val r1 = 2 * val r + a / 2 ^ k % 2) (hlt : val r1 < b) : RefTo a b k r1 q := by
  have hs := bit_split a k
  have hd := Nat.div_add_mod (a / 2 ^ (k + 1)) b
  have e : a / 2 ^ k = b * (2 * (a / 2 ^ (k + 1) / b)) + val r1 := by
    rw [hs, h1, h.rest]
    have : b * (2 * (a / 2 ^ (k + 1) / b)) = 2 * (b * (a / 2 ^ (k + 1) / b)) := Nat.mul_left_comm ..
    omega
  refine ⟨ok1, h.okq, ?_, ?_⟩
  · rw [e, Nat.mul_add_mod, Nat.mod_eq_of_lt hlt]
  · rw [h.quot, e, Nat.mul_add_div hb, Nat.div_eq_of_lt hlt, Nat.add_zero, Nat.pow_succ]
    generalize a / (2 ^ k * 2) / b = z
    rw [Nat.mul_comm _ 2, ← Nat.mul_assoc, Nat.mul_comm z 2, Nat.add_zero]
theorem RefTo.more {a b k : Nat} {r q r1 r2 q2 : List Nat} (h : RefTo a b (k + 1) r q) (hb : 0 < b) (ok2 : Ok r2) (okq : Ok q2) (h1 : val r1 = 2 * val r + a / 2 ^ k % 2) (hge : b ≤ val r1) (h2 : val r2 = val r1 - b) (hq : val q2 = val q + 2 ^ k) : RefTo a b k r2 q2 := by
  have hs := bit_split a k
  have hd := Nat.div_add_mod (a / 2 ^ (k + 1)) b
  have hp := h.pushed hb
  have e : a / 2 ^ k = b * (2 * (a / 2 ^ (k + 1) / b) + 1) + val r2 := by
    rw [hs, h2, h1, h.rest]
    rw [h1, h.rest] at hge
    have : b * (2 * (a / 2 ^ (k + 1) / b) + 1) = 2 * (b * (a / 2 ^ (k + 1) / b)) + b := by rw [Nat.mul_add, Nat.mul_left_comm, Nat.mul_one]
    omega
  have hlt : val r2 < b := by omega
  refine ⟨ok2, okq, ?_, ?_⟩
  · rw [e, Nat.mul_add_mod, Nat.mod_eq_of_lt hlt]
  · rw [hq, h.quot, e, Nat.mul_add_div hb, Nat.div_eq_of_lt hlt, Nat.pow_succ]
    generalize a / (2 ^ k * 2) / b = z
    rw [Nat.mul_comm _ 2, ← Nat.mul_assoc, Nat.mul_comm z 2, Nat.add_zero, Nat.add_mul, Nat.one_mul]
theorem RefTo.total {a b : Nat} {r q : List Nat} (h : RefTo a b 0 r q) : val q = a / b ∧ val r = a % b := by
  have h1 := h.rest
  have h2 := h.quot
  simp only [Nat.pow_zero, Nat.div_one, Nat.mul_one] at h1 h2
  exact ⟨h2, h1⟩

theorem limb_pow (j h : Nat) : 4294967296 ^ j * 2 ^ h = 2 ^ (32 * j + h) := by
  rw [Nat.pow_add, Nat.pow_mul]

/-- The limb in which the quotient's next bit is set has room for it. -/
theorem limb_room {q : List Nat} {j h m : Nat} (hok : Ok q) (hj : j < q.length) (hh : h < 32) (hv : val q = m * 2 ^ (32 * j + h + 1)) : q.getD j 0 + 2 ^ h < 4294967296 := by
  have h1 : val (q.drop j) = m * 2 ^ (h + 1) := by
    rw [val_drop_div hok, hv]
    have e : (4294967296 : Nat) ^ j = 2 ^ (32 * j) := by rw [Nat.pow_mul]
    rw [e, show 32 * j + h + 1 = (h + 1) + 32 * j by omega, Nat.pow_add, ← Nat.mul_assoc, Nat.mul_div_cancel _ (Nat.two_pow_pos _)]
  rw [val_drop q j hj] at h1
  have h2 := hok.getD j
  obtain ⟨k, hk⟩ : ∃ k, h + 1 + k = 32 := ⟨31 - h, by omega⟩
  have e2 : (4294967296 : Nat) = 2 ^ (h + 1) * 2 ^ k := by rw [← Nat.pow_add, hk]
  have hdvd : 2 ^ (h + 1) ∣ q.getD j 0 := by
    have d1 : 2 ^ (h + 1) ∣ q.getD j 0 + 4294967296 * val (q.drop (j + 1)) := by rw [h1]; exact Nat.dvd_mul_left _ _
    have d2 : 2 ^ (h + 1) ∣ 4294967296 * val (q.drop (j + 1)) := by rw [e2, Nat.mul_assoc]; exact Nat.dvd_mul_right _ _
    exact (Nat.dvd_add_iff_left d2).2 d1
  obtain ⟨c, hc⟩ := hdvd
  rw [hc] at h2 ⊢
  have h3 : c < 2 ^ k := by rw [e2] at h2; exact Nat.lt_of_mul_lt_mul_left h2
  have h4 : 2 ^ (h + 1) * (c + 1) ≤ 2 ^ (h + 1) * 2 ^ k := Nat.mul_le_mul_left _ h3
  rw [← e2, Nat.mul_succ] at h4
  have h5 : 2 ^ (h + 1) = 2 * 2 ^ h := by rw [Nat.pow_succ, Nat.mul_comm]
  have := Nat.two_pow_pos h
  omega
end Go.Proofs.YtjnbonellgpjnaaGreat

set_option linter.unusedVariables false
set_option linter.unusedSimpArgs false
namespace Go.Proofs.YtjnbonellgpjnaaGreat
open Go.RowKit

/-- What push leaves. -/
def Pushed (w : World) (g more : Nat) (s : List Nat) (e : Ending) (w' : World) : Prop :=
  ∃ t c, e = .returned (.tuple #[]) ∧ PushTo s s.length more t c ∧ Row w' g t ∧ w.grownBy w' (some g)

set_option maxRecDepth 100000 in
set_option maxHeartbeats 1000000 in
theorem ref_push (g cap more : Nat) (s : List Nat) (w : World) (hr : Row w g s) (hs : Ok s) (hm : more ≤ 1) (hsl : s.length ≤ 70368744177664) :
    Calls Tryz.prog 116 #[.slice (some ⟨g, 0, none⟩) s.length cap, .int .u32 more] w fun e w' => Pushed w g more s e w' := by
  have HR := hid hr; have HS := hid hs
  have H0 := hid (PushTo.start hs more (by omega))
  clear hr hs
  go_enter Tryz.func116, Tryz.ntmps116
  go_wp2
  go_loopw [1, 4] (fun v1 v4 wr => ∃ (k c : Nat) (t : List Nat), k ≤ s.length ∧ v4 = .int .i64 k ∧ v1 = .int .u32 c ∧ c ≤ 1 ∧ Hid (PushTo s k more t c) ∧ Hid (Row wr g t) ∧ Hid (w.grownBy wr (some g))) (fun _ v _ => s.length - (intOf v).toNat)
  case atStart => exact ⟨0, more, s, Nat.zero_le _, rfl, rfl, hm, H0, HR, World.grownBy.refl _ _⟩
  case round =>
    obtain ⟨k, c, t, hk, rfl, rfl, hc1, ha, hrow, hg⟩ := hrel
    by_cases hlt : k < s.length
    · have htl := ha.out.part.len
      have hca := hrow.out.cell (i := k) (by omega)
      have hfr := hrow.out.frozen k
      have hox := ha.out.part.ok.getD k
      have hsame := ha.out.part.out k (.inr (by omega))
      have hstep := fun x d h1 h2 h3 => ha.out.step hlt x d h1 h2 h3
      rw [← hsame] at hstep
      have HST := hid hstep
      clear hstep hsame
      generalize t.getD k 0 = u at *
      obtain ⟨y, hy⟩ : ∃ y : Nat, (u * 2) % 4294967296 = y := ⟨_, rfl⟩
      obtain ⟨x, hx⟩ : ∃ x : Nat, (y + c) % 4294967296 = x := ⟨_, rfl⟩
      obtain ⟨d, hd⟩ : ∃ d : Nat, u / 2147483648 = d := ⟨_, rfl⟩
      have e1 : IntKind.u32.wrap ((u : Int) * 2) = (y : Int) := by rw [IntKind.wrap_u32]; omega
      have e1' : ((u : Int) * 2) % 4294967296 = (y : Int) := by omega
      have e2 : IntKind.u32.wrap ((y : Int) + (c : Int)) = (x : Int) := by rw [IntKind.wrap_u32]; omega
      have e2' : ((y : Int) + (c : Int)) % 4294967296 = (x : Int) := by omega
      have e3 : (u : Int) / 2147483648 = (d : Int) := by omega
      have hx1 : x < 4294967296 := by omega
      have hd1 : d ≤ 1 := by omega
      have HStep := hid (HST.out x d hx1 (by omega) (by omega))
      have HRow := hid (hrow.out.set k x)
      have HG := hid (grownBy_set (i := k) (v := .int .u32 (x : Nat)) hg.out)
      clear HST hy hx hd
      go_wp2
      go_roundw
      case rel => exact ⟨k + 1, d, t.set k x, by omega, by go_num, by first | rfl | rw [e3], hd1, HStep, by first | exact HRow | (rw [e2']; exact HRow) | (rw [e2]; exact HRow), by first | exact HG | (rw [e2']; exact HG) | (rw [e2]; exact HG)⟩
      case measure => simp [intOf]; omega
    · obtain rfl : k = s.length := by omega
      go_wp2
      go_end0
      exact ⟨t, c, rfl, ha.out, hrow.out, hg.out⟩

/-- What take leaves. -/
def Tooken (w : World) (g y : Nat) (s : List Nat) (e : Ending) (w' : World) : Prop :=
  ∃ t c, e = .returned (.tuple #[]) ∧ TakeFrom s 0 s.length y t c ∧ Row w' g t ∧ w.grownBy w' (some g)

set_option maxRecDepth 100000 in
set_option maxHeartbeats 2000000 in
theorem ref_take (g cap : Nat) (B : Option Addr) (cb : Nat) (s m : List Nat) (w : World) (hr : Row w g s) (hs : Ok s) (hb : Sees w (.slice B m.length cb) m) (hne : 0 < m.length → ∀ a, B = some a → a.block ≠ g) (hml : m.length ≤ s.length) (hsl : s.length ≤ 70368744177664) :
    Calls Tryz.prog 117 #[.slice (some ⟨g, 0, none⟩) s.length cap, .slice B m.length cb] w fun e w' => Tooken w g (val m) s e w' := by
  have HR := hid hr; have HS := hid hs; have HB := hid hb; have HN := hid hne
  have H0 : Hid (TakeFrom s 0 0 (valF (fun i => m.getD i 0) 0) s 0) := TakeFrom.start hs 0
  clear hr hs hb hne
  go_enter Tryz.func117, Tryz.ntmps117
  go_wp2
  go_loopw [4, 5] (fun v4 v5 wr => ∃ (k c : Nat) (t : List Nat), k ≤ s.length ∧ v5 = .int .i64 k ∧ v4 = .int .i64 c ∧ c ≤ 1 ∧ Hid (TakeFrom s 0 k (valF (fun i => m.getD i 0) k) t c) ∧ Hid (Row wr g t) ∧ Hid (w.grownBy wr (some g))) (fun _ v _ => s.length - (intOf v).toNat)
  case atStart => exact ⟨0, 0, s, Nat.zero_le _, rfl, rfl, by omega, H0, HR, World.grownBy.refl _ _⟩
  case round =>
    obtain ⟨k, c, t, hk, rfl, rfl, hc1, ha, hrow, hg⟩ := hrel
    by_cases hlt : k < s.length
    · have htl := ha.out.part.len
      have hca := hrow.out.cell (i := k) (by omega)
      have hfr := hrow.out.frozen k
      have hox := ha.out.part.ok.getD k
      have hoy := HB.out.ok.getD k
      have hsame := ha.out.part.out k (.inr (by omega))
      have hstep := fun x d h1 h2 h3 => ha.out.step (by omega) (m.getD k 0) x d h1 h2 h3
      rw [Nat.zero_add, ← hsame] at hstep
      have HST : Hid (∀ x d, x < 4294967296 → d ≤ 1 → t.getD k 0 + 4294967296 * d = x + m.getD k 0 + c → TakeFrom s 0 (k + 1) (valF (fun i => m.getD i 0) (k + 1)) (t.set k x) d) := hstep
      have H2 : k < m.length → ∃ b1 o1, B = some ⟨b1, o1, none⟩ ∧ wr.cell? ⟨b1, o1 + k, none⟩ = some (.int .u32 (m.getD k 0 : Nat)) := fun h => by
        obtain ⟨b1, o1, e, hc⟩ := HB.out.at (by omega)
        subst e
        exact ⟨b1, o1, rfl, hg.out.cell (hc _ h) (by have := HN.out (by omega) _ rfl; simpa using this)⟩
      have z2 : ¬ k < m.length → m.getD k 0 = 0 := fun h => by rw [List.getD_eq_getElem?_getD, List.getElem?_eq_none (by omega)]; rfl
      clear hstep hsame
      generalize t.getD k 0 = x at *
      generalize m.getD k 0 = y at *
      by_cases hkm : k < m.length
      · obtain ⟨b2, q2, rfl, hy⟩ := H2 hkm
        clear H2 z2
        by_cases hneg : x < c + y
        · obtain ⟨z, hz⟩ : ∃ z : Nat, (x : Int) - c - y + 4294967296 = (z : Int) := ⟨((x : Int) - c - y + 4294967296).toNat, by omega⟩
          have hz1 : z < 4294967296 := by omega
          have ez : (z : Int) % 4294967296 = (z : Int) := by omega
          have HStep := hid (HST.out z 1 hz1 (by omega) (by omega))
          have HRow := hid (hrow.out.set k z)
          have HG := hid (grownBy_set (i := k) (v := .int .u32 (z : Nat)) hg.out)
          clear HST
          go_wp2
          go_roundw
          case rel => exact ⟨k + 1, 1, t.set k z, by omega, by go_num, rfl, by omega, HStep, HRow, HG⟩
          case measure => simp [intOf]; omega
        · obtain ⟨z, hz⟩ : ∃ z : Nat, (x : Int) - c - y = (z : Int) := ⟨((x : Int) - c - y).toNat, by omega⟩
          have hz1 : z < 4294967296 := by omega
          have ez : (z : Int) % 4294967296 = (z : Int) := by omega
          have HStep := hid (HST.out z 0 hz1 (by omega) (by omega))
          have HRow := hid (hrow.out.set k z)
          have HG := hid (grownBy_set (i := k) (v := .int .u32 (z : Nat)) hg.out)
          clear HST
          go_wp2
          go_roundw
          case rel => exact ⟨k + 1, 0, t.set k z, by omega, by go_num, rfl, by omega, HStep, HRow, HG⟩
          case measure => simp [intOf]; omega
      · obtain rfl := z2 hkm
        clear H2 z2
        by_cases hneg : x < c
        · obtain ⟨z, hz⟩ : ∃ z : Nat, (x : Int) - c + 4294967296 = (z : Int) := ⟨((x : Int) - c + 4294967296).toNat, by omega⟩
          have hz1 : z < 4294967296 := by omega
          have ez : (z : Int) % 4294967296 = (z : Int) := by omega
          have HStep := hid (HST.out z 1 hz1 (by omega) (by omega))
          have HRow := hid (hrow.out.set k z)
          have HG := hid (grownBy_set (i := k) (v := .int .u32 (z : Nat)) hg.out)
          clear HST
          go_wp2
          go_roundw
          case rel => exact ⟨k + 1, 1, t.set k z, by omega, by go_num, rfl, by omega, HStep, HRow, HG⟩
          case measure => simp [intOf]; omega
        · obtain ⟨z, hz⟩ : ∃ z : Nat, (x : Int) - c = (z : Int) := ⟨((x : Int) - c).toNat, by omega⟩
          have hz1 : z < 4294967296 := by omega
          have ez : (z : Int) % 4294967296 = (z : Int) := by omega
          have HStep := hid (HST.out z 0 hz1 (by omega) (by omega))
          have HRow := hid (hrow.out.set k z)
          have HG := hid (grownBy_set (i := k) (v := .int .u32 (z : Nat)) hg.out)
          clear HST
          go_wp2
          go_roundw
          case rel => exact ⟨k + 1, 0, t.set k z, by omega, by go_num, rfl, by omega, HStep, HRow, HG⟩
          case measure => simp [intOf]; omega
    · obtain rfl : k = s.length := by omega
      have hv : valF (fun i => m.getD i 0) s.length = val m := (val_valF m s.length hml).symm
      rw [hv] at ha
      clear hv
      go_wp2
      go_end0
      exact ⟨t, c, rfl, ha.out, hrow.out, hg.out⟩
end Go.Proofs.YtjnbonellgpjnaaGreat

set_option linter.unusedVariables false
set_option linter.unusedSimpArgs false
namespace Go.Proofs.YtjnbonellgpjnaaGreat
/-- A binary digit of a number is one of a limb's. -/
theorem bit_limb {l : List Nat} (hok : Ok l) (q h : Nat) (hh : h < 32) : l.getD q 0 / 2 ^ h % 2 = val l / 2 ^ (32 * q + h) % 2 := by
  rw [← pow_limb, ← Nat.div_div_eq_div_mul, ← val_drop_div hok]
  rcases Nat.lt_or_ge q l.length with h1 | h1
  · rw [val_drop l q h1]
    have e : (4294967296 : Nat) = 2 ^ h * (2 * 2 ^ (31 - h)) := by
      have : 2 ^ h * (2 * 2 ^ (31 - h)) = 2 ^ 32 := by
        rw [Nat.mul_left_comm, ← Nat.pow_add, show h + (31 - h) = 31 by omega]
      rw [this]
    rw [e, Nat.mul_assoc, Nat.add_mul_div_left _ _ (Nat.two_pow_pos h), Nat.mul_assoc]
    omega
  · rw [List.drop_eq_nil_iff.2 h1, List.getD_eq_getElem?_getD, List.getElem?_eq_none h1, val_nil, Nat.zero_div]
    simp
end Go.Proofs.YtjnbonellgpjnaaGreat

set_option linter.unusedVariables false
set_option linter.unusedSimpArgs false
namespace Go.Proofs.YtjnbonellgpjnaaGreat
open Go.RowKit

theorem and_one (c : Nat) (h : c < 4294967296) : bits .and .u32 (c : Int) 1 = ((c % 2 : Nat) : Int) := by
  have := u32_and_nat c 1 h (by decide)
  rw [Nat.and_one_is_mod] at this
  exact this

set_option maxRecDepth 100000 in
set_option maxHeartbeats 800000 in
theorem ref_bit (a : Option Addr) (ca : Nat) (l : List Nat) (k q h b : Nat) (w : World) (ha : Sees w (.slice a l.length ca) l) (hkq : k = 32 * q + h) (hh : h < 32) (hk : k ≤ 70368744177664) (hb : val l / 2 ^ k % 2 = b) :
    Calls Tryz.prog 104 #[.slice a l.length ca, .int .i64 k] w fun e w' => e = .returned (.int .u32 (b : Nat)) ∧ w = w' := by
  have hlen := ha.len
  have hbit := bit_limb ha.ok q h hh
  rw [← hkq, hb] at hbit
  have e1 : (k : Int) / 32 = (q : Int) := by omega
  have e2 : (k : Int) % 32 = (h : Int) := by omega
  have hok := ha.ok.getD q
  have HA := hid ha
  clear ha hkq hb
  go_enter Tryz.func104, Tryz.ntmps104
  by_cases hq : q < l.length
  · obtain ⟨b1, o1, rfl, hcell⟩ := HA.out.at (by omega)
    have hca := hcell q hq
    generalize l.getD q 0 = x at *
    obtain ⟨c, hc⟩ : ∃ c, c = x / 2 ^ h := ⟨_, rfl⟩
    have hc32 : c < 4294967296 := by rw [hc]; exact Nat.lt_of_le_of_lt (Nat.div_le_self _ _) hok
    have f1 : (x : Int) / 2 ^ h = (c : Int) := by rw [hc, Int.natCast_ediv, Int.natCast_pow]; rfl
    have f2 : bits .and .u32 (c : Int) 1 = (b : Int) := by rw [and_one c hc32, hc, hbit]
    clear hbit hc hcell
    go_wp2
    go_ret
    exact ⟨rfl, rfl⟩
  · have hz : l.getD q 0 = 0 := by rw [List.getD_eq_getElem?_getD, List.getElem?_eq_none (by omega)]; rfl
    rw [hz, Nat.zero_div] at hbit
    obtain rfl : b = 0 := by omega
    clear hbit hz
    go_wp2
    go_ret
    exact ⟨rfl, rfl⟩
end Go.Proofs.YtjnbonellgpjnaaGreat

set_option linter.unusedVariables false
set_option linter.unusedSimpArgs false
namespace Go.Proofs.YtjnbonellgpjnaaGreat
open Go.RowKit

theorem ref_plain' {a : Value} {l : List Nat} {w : World} (ha : Sees w a l) (hl : l.length ≤ 35184372088832) :
    Calls Tryz.prog 89 #[a] w fun e w' => ∃ v, e = .returned v ∧ Sees w' v (limbs (val l)) ∧ Below w.heap.size w w' :=
  (ref_plain a l w ha hl).mono fun _ _ h => h.sees (by have := (limbs_prefix ha.ok).2; omega)

/-- The document's Small, whatever the number. -/
theorem ref_small_any {a : Value} {l : List Nat} {w : World} (ha : Sees w a l) (hl : l.length ≤ 35184372088000) :
    Calls Tryz.prog 69 #[a] w fun e w' => ∃ (n : Nat) (b : Bool), e = .returned (.tuple #[.int .i64 n, .bool b]) ∧ Hid (b = true → n = val l ∧ n < 9223372036854775808) ∧ Hid (val l < 9223372036854775808 → b = true) ∧ Below w.heap.size w w' := by
  by_cases h : val l < 9223372036854775808
  · refine (ref_small_ok ha hl h).mono ?_
    rintro e w' ⟨rfl, hb⟩
    exact ⟨_, _, rfl, fun _ => ⟨rfl, h⟩, fun _ => rfl, hb⟩
  · refine (ref_small_no ha hl h).mono ?_
    rintro e w' ⟨rfl, hb⟩
    exact ⟨0, false, rfl, (fun e => by cases e), fun h' => absurd h' h, hb⟩

set_option maxRecDepth 100000 in
set_option maxHeartbeats 4000000 in
theorem ref_div_zero {a b : Value} {l m : List Nat} {w : World} (ha : Sees w a l) (hb : Sees w b m) (hl : l.length ≤ 35184372088000) (hm : m.length ≤ 35184372088000) (h0 : val m = 0) :
    Calls Tryz.prog 92 #[a, b] w fun e w' => e = .returned (.tuple #[.slice none 0 0, .slice none 0 0, .bool false]) ∧ Below w.heap.size w w' := by
  have HA := hid ha; have HB := hid hb
  clear ha hb
  go_enter Tryz.func92, Tryz.ntmps92
  go_wp2_with fail
  refine (ref_plain' HA.out (by omega)).mono ?_
  rintro e w1 ⟨va, rfl, hs1, hb1⟩
  have HB1 := hid (HB.out.below hb1); have B1 := hid hb1
  clear hs1 hb1 HA HB
  go_wp2_with fail
  refine (ref_plain' HB1.out (by omega)).mono ?_
  rintro e w2 ⟨vb, rfl, hs2, hb2⟩
  rw [h0, limbs_zero] at hs2
  have B2 := hid (B1.out.trans (hb2.mono B1.out.size))
  obtain ⟨ao, cap, rfl, -, -, -, -, -⟩ := hs2
  clear hb2 HB1 h0
  go_wp2
  go_ret3
  exact ⟨rfl, B2.out⟩

set_option maxRecDepth 100000 in
set_option maxHeartbeats 4000000 in
theorem ref_div_pos {a b : Value} {l m : List Nat} {w : World} (ha : Sees w a l) (hb : Sees w b m) (hl : l.length ≤ 100000) (hm : m.length ≤ 100000) (h0 : 0 < val m) :
    Calls Tryz.prog 92 #[a, b] w fun e w' => ∃ q r, e = .returned (.tuple #[q, r, .bool true]) ∧ Sees w' q (limbs (val l / val m)) ∧ Sees w' r (limbs (val l % val m)) ∧ Below w.heap.size w w' := by
  have hlp := (limbs_prefix ha.ok).2
  have hlq := (limbs_prefix hb.ok).2
  have HA := hid ha; have HB := hid hb
  clear ha hb
  go_enter Tryz.func92, Tryz.ntmps92
  go_wp2_with fail
  refine (ref_plain' HA.out (by omega)).mono ?_
  rintro e w1 ⟨va, rfl, hs1, hb1⟩
  have HB1 := hid (HB.out.below hb1); have B1 := hid hb1; have HS1 := hid hs1
  clear hs1 hb1 HA HB
  go_wp2_with fail
  refine (ref_plain' HB1.out (by omega)).mono ?_
  rintro e w2 ⟨vb, rfl, hs2, hb2⟩
  have B2 := hid (B1.out.trans (hb2.mono B1.out.size))
  have HS2 := hid (HS1.out.below hb2); have HT2 := hid hs2
  clear hb2 HB1 B1 HS1 hs2
  obtain ⟨X, hX⟩ : ∃ X, val l = X := ⟨_, rfl⟩
  obtain ⟨Y, hY⟩ : ∃ Y, val m = Y := ⟨_, rfl⟩
  rw [hX] at HS2 hlp
  rw [hY] at HT2 h0 hlq
  have HX := hid hX; have HY := hid hY
  have hpl : (limbs X).length ≤ 100000 := by omega
  have hql : (limbs Y).length ≤ 100000 := by omega
  have hq0 : 0 < (limbs Y).length := (limbs_last h0).1
  clear hX hY hl hm hlp hlq
  obtain ⟨A, cA, rfl, -, -, -, -, -⟩ := id HS2.out
  obtain ⟨B, cB, rfl, -, -, -, -, -⟩ := id HT2.out
  go_wp2_with fail
  refine (ref_small_any HS2.out (by omega)).mono ?_
  rintro e w3 ⟨x, bx, rfl, hx1, hx2, hb3⟩
  have B3 := hid (B2.out.trans (hb3.mono B2.out.size))
  have HS3 := hid (HS2.out.below hb3); have HT3 := hid (HT2.out.below hb3)
  rw [val_limbs] at hx1 hx2
  clear hb3 HS2 HT2 B2
  go_wp2_with fail
  refine (ref_small_any HT3.out (by omega)).mono ?_
  rintro e w4 ⟨y, bY, rfl, hy1, hy2, hb4⟩
  have B4 := hid (B3.out.trans (hb4.mono B3.out.size))
  have HS4 := hid (HS3.out.below hb4); have HT4 := hid (HT3.out.below hb4)
  rw [val_limbs] at hy1 hy2
  clear hb4 HS3 HT3 B3
  by_cases hboth : bx = true ∧ bY = true
  · obtain ⟨rfl, rfl⟩ := hboth
    obtain ⟨rfl, hxl⟩ := hx1.out rfl
    obtain ⟨rfl, hyl⟩ := hy1.out rfl
    obtain ⟨q, hq⟩ : ∃ q, q = x / y := ⟨_, rfl⟩
    obtain ⟨r, hr⟩ : ∃ r, r = x % y := ⟨_, rfl⟩
    have hq64 : q < 9223372036854775808 := by rw [hq]; exact Nat.lt_of_le_of_lt (Nat.div_le_self _ _) hxl
    have hr64 : r < 9223372036854775808 := by rw [hr]; exact Nat.lt_of_le_of_lt (Nat.mod_le _ _) hxl
    have eq1 : (x : Int) / (y : Int) = (q : Int) := by rw [hq]; exact (Int.natCast_ediv _ _).symm
    have er1 : (x : Int) % (y : Int) = (r : Int) := by rw [hr]; exact (Int.natCast_emod _ _).symm
    have eq2 : Int.tdiv (x : Int) (y : Int) = (q : Int) := by rw [Int.tdiv_eq_ediv_of_nonneg (by omega)]; exact eq1
    have er2 : Int.tmod (x : Int) (y : Int) = (r : Int) := by rw [Int.tmod_eq_emod_of_nonneg (by omega)]; exact er1
    have ew1 : IntKind.i64.wrap (q : Int) = (q : Int) := by rw [IntKind.wrap_i64]; omega
    have ew2 : IntKind.i64.wrap (r : Int) = (r : Int) := by rw [IntKind.wrap_i64]; omega
    have hy0 : ¬ (y : Int) = 0 := by omega
    have HQ := hid hq; have HR := hid hr
    clear hq hr hx1 hx2 hy1 hy2 hpl hql hq0
    have HC := hid (fun (n : Nat) (hn : n < 9223372036854775808) w => ref_of (n : Int) (by omega) (by omega) w)
    go_wp2
    go_region_with (go_at_call 51; refine (HC.out _ (by assumption) _).mono ?_; rw [Int.toNat_natCast]; rintro e w' ⟨v, rfl, hs, hb⟩; have HS := hid hs; have HB := hid hb; clear hs hb)
    all_goals
      rename_i wq vq HSQ HBF
      go_wp2
      go_ret3
      refine ⟨vq, v, rfl, ?_, ?_, ?_⟩
      · have h := HSQ.out.below HB.out
        have e := HQ.out
        rw [e] at h
        rw [HX.out, HY.out]
        exact h
      · have h := HS.out
        have e := HR.out
        rw [e] at h
        rw [HX.out, HY.out]
        exact h
      · exact B4.out.drew.trans ((HBF.out.trans (HB.out.mono HBF.out.size)).mono B4.out.drew.size)
  · have hnb : bitsN X ≤ 32 * (limbs X).length := by
      rcases Nat.eq_zero_or_pos X with hz | hz
      · rw [hz]; unfold bitsN; simp
      · have h3 := bitsN_limbs hz
        have h4 := bitsN_le ((limbs_ok X).getD ((limbs X).length - 1))
        have h5 := (limbs_last hz).1
        omega
    have hXlt : X < 2 ^ bitsN X := by
      unfold bitsN
      by_cases hz : X = 0
      · subst hz; simp
      · rw [if_neg hz]; exact Nat.lt_log2_self
    obtain ⟨nb, hnbe⟩ : ∃ nb, bitsN X = nb := ⟨_, rfl⟩
    rw [hnbe] at hnb hXlt
    have HNB := hid hnbe; have HXLT := hid hXlt
    obtain ⟨p, hp⟩ : ∃ p, limbs X = p := ⟨_, rfl⟩
    obtain ⟨q, hq⟩ : ∃ q, limbs Y = q := ⟨_, rfl⟩
    have hvp : val p = X := by rw [← hp, val_limbs]
    have hvq : val q = Y := by rw [← hq, val_limbs]
    rw [hp] at HS4 hpl hnb
    rw [hq] at HT4 hql hq0
    simp only [hp, hq]
    have HVP := hid hvp; have HVQ := hid hvq
    have hmk1 := run_make_row' (P := Tryz.prog) 22 98 (.int .u32 0) 4 Tryz.underlying22 info_u32 rfl .i64 .i64 p.length (by omega) (by omega)
    have hmk2 := run_make_row' (P := Tryz.prog) 22 98 (.int .u32 0) 4 Tryz.underlying22 info_u32 rfl .i64 .i64 (q.length + 1) (by omega) (by omega)
    rw [show ((q.length + 1 : Nat) : Int) = (q.length : Int) + 1 by omega] at hmk2
    obtain ⟨gQ, hgQ⟩ : ∃ g, g = w4.heap.size := ⟨_, rfl⟩
    obtain ⟨gR, hgR⟩ : ∃ g, g = w4.heap.size + 1 := ⟨_, rfl⟩
    obtain ⟨w5, hw5⟩ : ∃ x, x = (w4.alloc (.cells (madeCells #[Value.int .u32 0] p.length) 98)).alloc (.cells (madeCells #[Value.int .u32 0] (q.length + 1)) 98) := ⟨_, rfl⟩
    have Q5 : Hid (Row w5 gQ (List.replicate p.length 0)) := by rw [hw5, hgQ]; exact (Row.made w4 _).alloc _
    have R5 : Hid (Row w5 gR (List.replicate (q.length + 1) 0)) := by
      rw [hw5, hgR]
      have := Row.made (w4.alloc (.cells (madeCells #[Value.int .u32 0] p.length) 98)) (q.length + 1)
      rw [Deep.nblk_alloc] at this
      exact this
    have hb5 : Below w4.heap.size w4 w5 := by rw [hw5]; exact ((Below.refl _ w4).alloc (Nat.le_refl _) _).alloc (by simp) _
    have B5 := hid (B4.out.trans (hb5.mono B4.out.size))
    have HS5 := hid (HS4.out.below hb5); have HT5 := hid (HT4.out.below hb5)
    have HG : Hid (gQ ≠ gR ∧ w.heap.size ≤ gQ ∧ w.heap.size ≤ gR) := by have := B4.out.size; refine ⟨?_, ?_, ?_⟩ <;> omega
    have HAL := hid (fun (h : 0 < p.length) (a' : Addr) (e : A = some a') => (e ▸ HS4.out : Sees w4 (.slice (some a') p.length cA) p).lt h)
    have HBL := hid (fun (a' : Addr) (e : B = some a') => (e ▸ HT4.out : Sees w4 (.slice (some a') q.length cB) q).lt hq0)
    have HGS : Hid (w4.heap.size ≤ gQ ∧ w4.heap.size ≤ gR) := by constructor <;> omega
    have HW5 := hid hw5.symm; have HGQ := hid hgQ.symm; have HGR := hid hgR.symm
    have HNOT := hid hboth
    clear hw5 hgQ hgR hb5 hp hq hvp hvq hXlt hnbe hx1 hx2 hy1 hy2 hboth HS4 HT4
    cases bx <;> cases bY
    all_goals first
      | (exact absurd ⟨rfl, rfl⟩ HNOT.out)
      | skip
    all_goals
      clear HNOT
      go_wp2_with fail
      rw [HW5.out, HGR.out, HGQ.out]
      clear HW5 HGR HGQ hmk1 hmk2
      refine (ref_bits _ _ _ HS5.out (by omega)).mono ?_
      rintro e w6 ⟨rfl, hb6⟩
      rw [HVP.out, HNB.out]
      have Q6 := hid (Q5.out.below hb6 Q5.out.lt); have R6 := hid (R5.out.below hb6 R5.out.lt)
      have HS6 := hid (HS5.out.below hb6); have HT6 := hid (HT5.out.below hb6)
      have B6 := hid (B5.out.trans (hb6.mono B5.out.size))
      clear hb6 Q5 R5 HS5 HT5 B5 B4
      go_wp2
      have L0 : Hid (RefTo X Y nb (List.replicate (q.length + 1) 0) (List.replicate p.length 0)) := RefTo.start HXLT.out
      clear HXLT
      go_loopg [13] nb (fun gh v13 wr => ∃ (z : Int) (r qs : List Nat), v13 = .int .i64 z ∧ Hid (z + 1 = gh) ∧ gh ≤ nb ∧ Hid (RefTo X Y gh r qs) ∧ Hid (r.length = q.length + 1) ∧ Hid (qs.length = p.length) ∧ Hid (Row wr gR r) ∧ Hid (Row wr gQ qs) ∧ Hid (Sees wr (.slice A p.length cA) p) ∧ Hid (Sees wr (.slice B q.length cB) q) ∧ Hid (Below w.heap.size w wr))
      case atStart => exact ⟨_, _, _, rfl, (by show _ = _; omega), Nat.le_refl _, L0, (by show _ = _; simp), (by show _ = _; simp), R6, Q6, HS6, HT6, B6⟩
      case round =>
        clear L0 R6 Q6 HS6 HT6 B6
        obtain ⟨z, r, qs, rfl, hz1, hkn, href, hrl, hql2, hrR, hrQ, hsA, hsB, hbel⟩ := hrel
        cases gk with
        | zero =>
          have hz2 : z = -1 := by have := hz1.out; omega
          subst hz2
          have htot := href.out.total
          have hr1 := hrl.out
          have hq1 := hql2.out
          have hqs : Sees wr (.slice (some ⟨gQ, 0, none⟩) p.length p.length) qs := by
            have := hrQ.out.sees href.out.okq 0 p.length p.length (by omega) (Nat.le_refl _) (by omega)
            rwa [List.drop_zero, List.take_of_length_le (by omega)] at this
          have hrs : Sees wr (.slice (some ⟨gR, 0, none⟩) (q.length + 1) (q.length + 1)) r := by
            have := hrR.out.sees href.out.okr 0 (q.length + 1) (q.length + 1) (by omega) (Nat.le_refl _) (by omega)
            rwa [List.drop_zero, List.take_of_length_le (by omega)] at this
          have HQS := hid hqs; have HRS := hid hrs; have HT := hid htot
          have hb1 : qs.length ≤ 100000 := by omega
          have hb2 : r.length ≤ 100001 := by omega
          clear hz1 href hrl hql2 hrR hrQ hsA hsB htot hqs hrs hr1 hq1
          go_wp2_with fail
          refine (ref_plain' HQS.out (by omega)).mono ?_
          rintro e w7 ⟨v7, rfl, hs7, hb7⟩
          have HS7 := hid hs7; have HRS7 := hid (HRS.out.below hb7)
          have B7 := hid (hbel.out.trans (hb7.mono hbel.out.size))
          clear hs7 hb7 HQS HRS
          go_wp2_with fail
          refine (ref_plain' HRS7.out (by omega)).mono ?_
          rintro e w8 ⟨v8, rfl, hs8, hb8⟩
          have HS8 := hid hs8; have HS78 := hid (HS7.out.below hb8)
          have B8 := hid (B7.out.trans (hb8.mono B7.out.size))
          clear hs8 hb8 HS7 HRS7 B7
          go_wp2
          go_ret3
          refine ⟨v7, v8, rfl, ?_, ?_, B8.out⟩
          · have h1 := HS78.out
            have h2 := HT.out.1
            rw [h2] at h1
            rw [HX.out, HY.out]
            exact h1
          · have h1 := HS8.out
            have h2 := HT.out.2
            rw [h2] at h1
            rw [HX.out, HY.out]
            exact h1
        | succ k =>
          have hz2 : z = (k : Int) := by have := hz1.out; omega
          subst hz2
          clear hz1
          obtain ⟨b, hbe⟩ : ∃ b, X / 2 ^ k % 2 = b := ⟨_, rfl⟩
          have hb1 : b ≤ 1 := by omega
          have hrlen := hrl.out
          have hqlen := hql2.out
          have hpush := href.out.pushed h0
          rw [hbe] at hpush
          have hYlt : Y < 4294967296 ^ q.length := by have := val_lt hsB.out.ok; rwa [HVQ.out] at this
          have hfit : 2 * val r + b < 4294967296 ^ r.length := by
            rw [hrlen, Nat.pow_succ]
            omega
          have HFIT := hid hfit; have HBE := hid hbe
          have CB := hid (ref_bit A cA p k (k / 32) (k % 32) b wr hsA.out (by omega) (by omega) (by omega) (by rw [HVP.out]; exact hbe))
          have CP := ref_push gR (q.length + 1) b r wr hrR.out href.out.okr hb1 (by omega)
          rw [hrlen] at CP
          have HCP := hid CP
          clear hbe hpush hYlt hfit CP
          go_wp2_with fail
          refine CB.out.mono ?_
          rintro e w7 ⟨rfl, rfl⟩
          go_wp2_with fail
          refine HCP.out.mono ?_
          rintro e w8 ⟨t, c, rfl, hpt, hr8, hg8⟩
          obtain ⟨hv8, hok8, hl8⟩ := PushTo.total hpt HFIT.out
          have R8 := hid hr8
          have Q8 := hid (hrQ.out.grown hg8 (by simp; have := HG.out; omega))
          have SA8 : Hid (Sees w8 (.slice A p.length cA) p) := by
            by_cases hp0 : 0 < p.length
            · exact hsA.out.grown hg8 (fun a' e => by have := HAL.out hp0 a' e; have := HGS.out; omega)
            · exact hsA.out.any hp0 _
          have SB8 : Hid (Sees w8 (.slice B q.length cB) q) := hsB.out.grown hg8 (fun a' e => by have := HBL.out a' e; have := HGS.out; omega)
          have B8 : Hid (Below w.heap.size w w8) := hbel.out.grown hg8 hbel.out.size (fun k' e => by simp at e; have := HG.out; omega)
          have hl8' : t.length = q.length + 1 := by omega
          have hts : Sees w8 (.slice (some ⟨gR, 0, none⟩) t.length t.length) t := by
            have := hr8.sees hok8 0 t.length t.length (by omega) (Nat.le_refl _) (by omega)
            rwa [List.drop_zero, List.take_of_length_le (by omega)] at this
          have CC := ref_cmp _ _ _ _ _ _ w8 hts SB8.out
          rw [hl8', HVQ.out] at CC
          have HCC := hid CC
          have HV8 := hid hv8; have HO8 := hid hok8; have HL8 := hid hl8'
          clear hpt hr8 hg8 CB HCP hrQ hsA hsB hbel hrR hv8 hok8 hl8 hl8' hts CC HFIT
          rcases Nat.lt_or_ge (val t) Y with hlt | hge
          · rw [cmpI_lt hlt] at HCC
            have HREF := hid (href.out.less h0 HO8.out (by rw [HV8.out, HBE.out]) hlt)
            clear hlt
            go_wp2_with fail
            refine HCC.out.mono ?_
            rintro e w9 ⟨rfl, rfl⟩
            go_wp2
            go_roundg k
            case rel => exact ⟨(k : Int) - 1, t, qs, by go_num, (by show _ = _; omega), by omega, HREF, HL8, hql2, R8, Q8, SA8, SB8, B8⟩
            case measure => omega
          · have hz0 : 0 ≤ cmpI (val t) Y := by unfold cmpI; rw [if_neg (by omega)]; split <;> decide
            generalize cmpI (val t) Y = zc at hz0 HCC
            have HGE := hid hge
            have CT := ref_take gR (q.length + 1) B cB t q w8 R8.out HO8.out SB8.out (fun _ a' e => by have := HBL.out a' e; have := HGS.out; omega) (by have := HL8.out; omega) (by have := HL8.out; omega)
            rw [HL8.out, HVQ.out] at CT
            have HCT := hid CT
            clear hge CT
            go_wp2_with fail
            refine HCC.out.mono ?_
            rintro e w9 ⟨rfl, rfl⟩
            go_wp2_with fail
            refine HCT.out.mono ?_
            rintro e w10 ⟨u, c2, rfl, htk, hr10, hg10⟩
            have hv10 := TakeFrom.total htk rfl HGE.out
            have R10 := hid hr10
            have Q10 := hid (Q8.out.grown hg10 (by simp; have := HG.out; omega))
            have SA10 : Hid (Sees w10 (.slice A p.length cA) p) := by
              by_cases hp0 : 0 < p.length
              · exact SA8.out.grown hg10 (fun a' e => by have := HAL.out hp0 a' e; have := HGS.out; omega)
              · exact SA8.out.any hp0 _
            have SB10 : Hid (Sees w10 (.slice B q.length cB) q) := SB8.out.grown hg10 (fun a' e => by have := HBL.out a' e; have := HGS.out; omega)
            have B10 : Hid (Below w.heap.size w w10) := B8.out.grown hg10 B8.out.size (fun k' e => by simp at e; have := HG.out; omega)
            have HU1 : Hid (u.length = q.length + 1) := by have h1 := htk.part.len; have h2 := HL8.out; show _ = _; omega
            have HUO := hid htk.part.ok
            obtain ⟨j, h, hkj, hh⟩ : ∃ j h, k = 32 * j + h ∧ h < 32 := ⟨k / 32, k % 32, by omega, by omega⟩
            have hjl : j < p.length := by omega
            have hroom := limb_room (m := X / 2 ^ (k + 1) / Y) href.out.okq (by omega : j < qs.length) hh (by rw [href.out.quot, hkj])
            have hca := Q10.out.cell (i := j) (by omega)
            have hfr := Q10.out.frozen j
            have hok2 := href.out.okq.getD j
            have hmore := fun q2 okq hq2 => href.out.more (r2 := u) (q2 := q2) h0 HUO.out okq (by rw [HV8.out, HBE.out]) HGE.out (by rw [hv10]) hq2
            have hset := val_set_add (t := qs) (i := j) (x := 2 ^ h) rfl (by omega)
            rw [limb_pow, ← hkj] at hset
            obtain ⟨P, hP⟩ : ∃ P, 2 ^ h = P := ⟨_, rfl⟩
            have hPl : P ≤ 2147483648 := by
              rw [← hP]
              have : 2 ^ h ≤ 2 ^ 31 := Nat.pow_le_pow_right (by decide) (by omega)
              simpa using this
            have eP : (2 : Int) ^ h = (P : Int) := by rw [← hP, Int.natCast_pow]; rfl
            rw [hP] at hroom hset
            obtain ⟨x2, hx2⟩ : ∃ x2, x2 = qs.getD j 0 + P := ⟨_, rfl⟩
            rw [← hx2] at hroom hset
            have HREF := hid (hmore _ (href.out.okq.set j x2 hroom) hset)
            have HRow := hid (Q10.out.set j x2)
            generalize qs.getD j 0 = u2 at *
            have emin : min h 32 = h := Nat.min_eq_left (by omega)
            have t1 : Int.tdiv (k : Int) 32 = (j : Int) := by rw [Int.tdiv_eq_ediv_of_nonneg (by omega)]; omega
            have t2 : IntKind.i64.wrap (j : Int) = (j : Int) := by rw [IntKind.wrap_i64]; omega
            have t3 : Int.tmod (k : Int) 32 = (h : Int) := by rw [Int.tmod_eq_emod_of_nonneg (by omega)]; omega
            have t4 : IntKind.i64.wrap (h : Int) = (h : Int) := by rw [IntKind.wrap_i64]; omega
            have t5 : (0 : Int) ≤ (j : Int) := by omega
            have t6 : (j : Int) < (p.length : Int) := by omega
            have t7 : (0 : Int) ≤ (h : Int) := by omega
            have t8 : (P : Int) % 4294967296 = (P : Int) := by omega
            have t9 : IntKind.u32.wrap ((u2 : Int) + (P : Int)) = (x2 : Int) := by rw [IntKind.wrap_u32]; omega
            have HKJ := hid hkj
            clear htk hr10 hg10 hmore hset hP hx2 hv10 href HCC HCT hz0 hkj
            go_wp2
            go_region
            have hset2 := grownBy_set (World.grownBy.refl w10 (some gQ)) j (.int .u32 (x2 : Nat))
            have SA11 : Hid (Sees (w10.setCell ⟨gQ, j, none⟩ (.int .u32 (x2 : Nat))) (.slice A p.length cA) p) := by
              by_cases hp0 : 0 < p.length
              · exact SA10.out.grown hset2 (fun a' e => by have := HAL.out hp0 a' e; have := HGS.out; omega)
              · exact SA10.out.any hp0 _
            have SB11 : Hid (Sees (w10.setCell ⟨gQ, j, none⟩ (.int .u32 (x2 : Nat))) (.slice B q.length cB) q) := SB10.out.grown hset2 (fun a' e => by have := HBL.out a' e; have := HGS.out; omega)
            have B11 : Hid (Below w.heap.size w (w10.setCell ⟨gQ, j, none⟩ (.int .u32 (x2 : Nat)))) := B10.out.grown hset2 B10.out.size (fun k' e => by simp at e; have := HG.out; omega)
            have R11 := hid (R10.out.setOther (a := ⟨gQ, j, none⟩) (by have := HG.out; simp; omega) (.int .u32 (x2 : Nat)))
            have HQL : Hid ((qs.set j x2).length = p.length) := by show _ = _; rw [List.length_set]; exact hql2.out
            go_wp2
            go_roundg k
            case rel => exact ⟨(k : Int) - 1, u, qs.set j x2, by go_num, (by show _ = _; omega), by omega, HREF, HU1, HQL, R11.out.drew, HRow.out.drew, SA11.out, SB11.out, B11.out.drew⟩
            case measure => omega
end Go.Proofs.YtjnbonellgpjnaaGreat

set_option linter.unusedVariables false
set_option linter.unusedSimpArgs false
namespace Go.Proofs.YtjnbonellgpjnaaGreat
open Go.RowKit

theorem limbs_length_mono' {x y : Nat} (h : x ≤ y) : (limbs x).length ≤ (limbs y).length := by
  rcases Nat.lt_or_ge (limbs y).length (limbs x).length with h1 | h1
  · have := limbs_length_lt h1; omega
  · exact h1

structure RefGcdAt (w wr : World) (X Y p q : Nat) (a b : Option Addr) (la ca lb cb : Nat) : Prop where
  seesA : Sees wr (.slice a la ca) (limbs p)
  seesB : Sees wr (.slice b lb cb) (limbs q)
  lenA : (limbs p).length ≤ 100000
  lenB : (limbs q).length ≤ 100000
  gcd : Nat.gcd p q = Nat.gcd X Y
  bel : Below w.heap.size w wr

set_option maxRecDepth 100000 in
set_option maxHeartbeats 4000000 in
theorem ref_gcd {a b : Value} {l m : List Nat} {w : World} (ha : Sees w a l) (hb : Sees w b m) (hl : l.length ≤ 100000) (hm : m.length ≤ 100000) :
    Calls Tryz.prog 91 #[a, b] w fun e w' => IsNum w (Nat.gcd (val l) (val m)) e w' := by
  have hlp := (limbs_prefix ha.ok).2
  have hlq := (limbs_prefix hb.ok).2
  have HA := hid ha; have HB := hid hb
  clear ha hb
  go_enter Tryz.func91, Tryz.ntmps91
  go_wp2_with fail
  refine (ref_plain' HA.out (by omega)).mono ?_
  rintro e w1 ⟨va, rfl, hs1, hb1⟩
  have HB1 := hid (HB.out.below hb1); have B1 := hid hb1; have HS1 := hid hs1
  clear hs1 hb1 HA HB
  go_wp2_with fail
  refine (ref_plain' HB1.out (by omega)).mono ?_
  rintro e w2 ⟨vb, rfl, hs2, hb2⟩
  have B2 := hid (step_below B1.out hb2)
  have HS2 := hid (HS1.out.below hb2); have HT2 := hid hs2
  clear hb2 HB1 B1 HS1 hs2
  obtain ⟨X, hX⟩ : ∃ X, val l = X := ⟨_, rfl⟩
  obtain ⟨Y, hY⟩ : ∃ Y, val m = Y := ⟨_, rfl⟩
  rw [hX] at HS2 hlp
  rw [hY] at HT2 hlq
  have HX := hid hX; have HY := hid hY
  obtain ⟨A, cA, rfl, -, -, -, -, -⟩ := id HS2.out
  obtain ⟨B, cB, rfl, -, -, -, -, -⟩ := id HT2.out
  have I0 : Hid (RefGcdAt w w2 X Y X Y A B (limbs X).length cA (limbs Y).length cB) := ⟨HS2.out, HT2.out, by omega, by omega, rfl, B2.out⟩
  clear hX hY hl hm hlp hlq HS2 HT2 B2
  go_wp2
  go_loopg [0, 1] Y (fun gh v0 v1 wr => ∃ (p q : Nat) (a b : Option Addr) (la ca lb cb : Nat), Hid (RefGcdAt w wr X Y p q a b la ca lb cb) ∧ v0 = .slice a la ca ∧ v1 = .slice b lb cb ∧ Hid (q = gh))
  case atStart => exact ⟨_, _, _, _, _, _, _, _, I0, rfl, rfl, rfl⟩
  case round =>
    clear I0
    obtain ⟨p, q, a, b, la, ca, lb, cb, hI, rfl, rfl, hgk⟩ := hrel
    obtain rfl : lb = (limbs q).length := hI.out.seesB.len_eq.1
    have hpl := hI.out.lenA
    have hql := hI.out.lenB
    have HA2 := hid hI.out.seesA; have HB2 := hid hI.out.seesB
    have HGC := hid hI.out.gcd; have B3 := hid hI.out.bel
    clear hI
    rcases Nat.eq_zero_or_pos q with h0 | h0
    · subst h0
      have hg0 := HGC.out
      rw [Nat.gcd_zero_right] at hg0
      have HG0 := hid hg0
      have e0 : (limbs 0).length = 0 := rfl
      clear hg0 HGC
      go_wp2
      go_ret
      refine ⟨_, rfl, ?_, B3.out⟩
      have := HA2.out
      rw [HG0.out] at this
      rw [HX.out, HY.out]
      exact this
    · have hbl : 0 < (limbs q).length := (limbs_last h0).1
      go_wp2_with fail
      refine (ref_small_any HA2.out (by omega)).mono ?_
      rintro e w3 ⟨x, bx, rfl, hx1, hx2, hb3⟩
      have B4 := hid (step_below B3.out hb3)
      have HS3 := hid (HA2.out.below hb3); have HT3 := hid (HB2.out.below hb3)
      rw [val_limbs] at hx1 hx2
      clear hb3 HA2 HB2 B3 hx2
      go_wp2_with fail
      refine (ref_small_any HT3.out (by omega)).mono ?_
      rintro e w4 ⟨y, bY, rfl, hy1, hy2, hb4⟩
      have B5 := hid (step_below B4.out hb4)
      have HS4 := hid (HS3.out.below hb4); have HT4 := hid (HT3.out.below hb4)
      rw [val_limbs] at hy1 hy2
      clear hb4 HS3 HT3 B4 hy2
      by_cases hboth : bx = true ∧ bY = true
      · obtain ⟨rfl, rfl⟩ := hboth
        obtain ⟨rfl, hxl⟩ := hx1.out rfl
        obtain ⟨rfl, hyl⟩ := hy1.out rfl
        clear hx1 hy1 HS4 HT4 hbl hpl hql
        go_wp2
        go_loopg [5, 7] y (fun gh v5 v7 ws => ∃ s t : Nat, v5 = .int .i64 s ∧ v7 = .int .i64 t ∧ Hid (t = gh) ∧ s < 9223372036854775808 ∧ t < 9223372036854775808 ∧ Hid (Nat.gcd s t = Nat.gcd X Y) ∧ Hid (Below w.heap.size w ws))
        case atStart => exact ⟨x, y, rfl, rfl, rfl, hxl, hyl, HGC, B5⟩
        case round =>
          clear hgk HGC B5 hxl hyl h0
          obtain ⟨s, t, rfl, rfl, hgk, hs, ht, hgc, hbel⟩ := hrel
          rcases Nat.eq_zero_or_pos t with h0 | h0
          · subst h0
            have hg0 := hgc.out
            rw [Nat.gcd_zero_right] at hg0
            have HG0 := hid hg0
            have CO := ref_of (s : Int) (by omega) (by omega)
            rw [Int.toNat_natCast] at CO
            have HCO := hid CO
            clear CO hg0 hgc hgk
            go_wp2_with fail
            refine (HCO.out _).mono ?_
            rintro e w5 ⟨v, rfl, hv, hb5⟩
            have HV := hid hv; have B6 := hid (step_below hbel.out hb5)
            clear hv hb5 HCO
            go_wp2
            try rw [Exit.noGoto_ret]
            go_ret
            refine ⟨_, rfl, ?_, B6.out⟩
            have := HV.out
            rw [HG0.out] at this
            rw [HX.out, HY.out]
            exact this
          · obtain ⟨r, hr⟩ : ∃ r, r = s % t := ⟨_, rfl⟩
            have er1 : (s : Int) % (t : Int) = (r : Int) := by rw [hr]; exact (Int.natCast_emod _ _).symm
            have er2 : Int.tmod (s : Int) (t : Int) = (r : Int) := by rw [Int.tmod_eq_emod_of_nonneg (by omega)]; exact er1
            have hrq : r < t := by rw [hr]; exact Nat.mod_lt _ h0
            have ew2 : IntKind.i64.wrap (r : Int) = (r : Int) := by rw [IntKind.wrap_i64]; omega
            have hy0 : ¬ (t : Int) = 0 := by omega
            have hg2 : Nat.gcd t r = Nat.gcd X Y := by rw [hr, Nat.gcd_comm, ← Nat.gcd_rec, Nat.gcd_comm]; exact hgc.out
            have HG := hid hg2
            clear hr hg2 hgc
            go_wp2
            go_region
            all_goals
              go_wp2
              go_roundg r
              case rel => exact ⟨t, r, rfl, rfl, rfl, ht, by omega, HG, by first | exact hbel | exact hbel.out.drew⟩
              case measure => have := hgk.out; omega
      · have CD := ref_div_pos HS4.out HT4.out (by omega) (by omega) (by rw [val_limbs]; exact h0)
        rw [val_limbs, val_limbs] at CD
        have HCD := hid CD
        have HNOT := hid hboth
        clear hx1 hy1 CD hboth
        cases bx <;> cases bY
        all_goals first
          | (exact absurd ⟨rfl, rfl⟩ HNOT.out)
          | skip
        all_goals
          clear HNOT
          go_wp2_with fail
          refine HCD.out.mono ?_
          rintro e w5 ⟨qq, v, rfl, hqq, hv, hb5⟩
          have HV := hid hv
          have B6 := hid (step_below B5.out hb5)
          have HB5 := hid (HT4.out.below hb5)
          obtain ⟨ta, tc, rfl, -, -, -, -, -⟩ := hqq
          obtain ⟨va, vc, rfl, -, -, -, -, -⟩ := hv
          have HQ0 := hid h0
          have hrl : (limbs (p % q)).length ≤ (limbs q).length := limbs_length_mono' (Nat.le_of_lt (Nat.mod_lt _ h0))
          have HLA : Hid ((limbs q).length ≤ 100000) := hql
          have HLB : Hid ((limbs (p % q)).length ≤ 100000) := by show _ ≤ _; omega
          clear hb5 HCD HS4 HT4 B5 hpl hql hrl
          go_wp2
          go_roundg (p % q)
          case rel => exact ⟨q, p % q, _, _, _, _, _, _, ⟨HB5.out, HV.out, HLA.out, HLB.out, by rw [Nat.gcd_comm, ← Nat.gcd_rec, Nat.gcd_comm]; exact HGC.out, B6.out⟩, rfl, rfl, rfl⟩
          case measure => have h3 := hgk.out; have h4 := Nat.mod_lt p HQ0.out; omega
end Go.Proofs.YtjnbonellgpjnaaGreat
