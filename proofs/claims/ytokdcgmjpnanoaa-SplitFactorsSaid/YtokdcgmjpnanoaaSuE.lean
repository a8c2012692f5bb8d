/- What fixed finds: mathematics; its rows and leads in memory. -/
import Derived.Test.YtokdcgmjpnanoaaSuD

set_option linter.unusedVariables false
set_option linter.unusedSimpArgs false
namespace Go.Proofs.Ytokdcgmjpnanoaa
open Go.RowKit

def rowL (n : Nat) (F : Nat → Int) : List Int := (List.range n).map F
theorem rowL_len (n : Nat) (F : Nat → Int) : (rowL n F).length = n := by simp [rowL]
theorem getD_rowL {n : Nat} (F : Nat → Int) {k : Nat} (hk : k < n) : (rowL n F).getD k 0 = F k := by
  rw [List.getD_eq_getElem?_getD, rowL, List.getElem?_map, List.getElem?_range hk]; rfl
theorem Ker.same {q n : Nat} {m : Nat → Nat → Int} {v v' : Nat → Int} (h : Ker q n m v) (e : ∀ i, i < n → v' i % (q : Int) = v i % (q : Int)) : Ker q n m v' := fun k hk => by
  rw [← h k hk]
  exact sm_mod n fun i hi => by rw [Int.mul_emod, e i hi, ← Int.mul_emod]
theorem rows_fixed {q n : Nat} (hq : IsP q) {f l : List Int} {m : Nat → Nat → Int} (hf : Mo q f) (hl : f.length = n + 1) (hll : l.length = n) (hr : ∀ i, i < n → RowIs q f i n (m i)) : M q f (ppow l q) l ↔ Ker q n m (fun i => l.getD i 0) := by
  have h := fixed_iff hq (row := fun i => rowL n (m i)) hf hl hll (fun i hi => by rw [rowL_len]; exact Nat.le_refl _) (fun i hi => (hr i hi).eq _ (rowL_len _ _) (fun k hk => getD_rowL _ hk))
  rw [h]
  constructor
  · intro k
    exact k.congr fun i j hi hj => by rw [getD_rowL _ hj]
  · intro k
    exact k.congr fun i j hi hj => by rw [getD_rowL _ hj]
/-- No row but the first leads none: what is fixed is a number. -/
theorem fixed_none {q n used : Nat} (hq : IsP q) {f v : List Int} {m : Nat → Nat → Int} {M' : Nat → Nat → Int} {lead : Nat → Int} (hf : Mo q f) (hl : f.length = n + 1) (hr : ∀ i, i < n → RowIs q f i n (m i)) (he : Ech q n n used 0 lead m M') (h : M q f (ppow v q) v) : ∃ c, M q f v [c] := by
  obtain ⟨Q, R, e, hR⟩ := div_ex hq hf.nf_ne v
  rw [hf.dg, hl] at hR
  obtain ⟨l, hlen, hle⟩ : ∃ l : List Int, l.length = n ∧ E q R l := by
    refine ⟨rowL n (fun k => (nf q R).getD k 0), rowL_len _ _, ?_⟩
    refine (nf_E q R).symm.trans (cf_E fun k => ?_)
    rcases Nat.lt_or_ge k n with hk | hk
    · rw [getD_rowL _ hk]
    · rw [getD_over' (nf q R) k (by unfold dg at hR; omega), getD_over' (rowL n _) k (by rw [rowL_len]; exact hk)]
  have h1 : M q f v l := by
    obtain ⟨a, ha⟩ := e
    obtain ⟨b, hb⟩ := hle
    refine ⟨Q, padd a b, fun x => ?_⟩
    have e1 := ha x; have e2 := hb x
    simp only [ev_padd, ev_pmul] at *
    grind
  have h2 : M q f (ppow l q) l := ((h1.symm.pow q).trans h).trans h1
  have h3 := (rows_fixed hq hf hl hlen hr).1 h2
  have h4 := he.none h3
  refine ⟨l.getD 0 0, h1.trans (E.m f (cf_E fun k => ?_))⟩
  rcases Nat.eq_zero_or_pos k with h0 | h0
  · subst h0; rfl
  · rcases Nat.lt_or_ge k n with hk | hk
    · rw [h4 k h0 hk, getD_over' [_] k (by simp; omega)]; rfl
    · rw [getD_over' l k (by omega), getD_over' [_] k (by simp; omega)]
theorem fixed_found {q n used free : Nat} (hq : IsP q) {f l : List Int} {m : Nat → Nat → Int} {M' : Nat → Nat → Int} {lead : Nat → Int} (hf : Mo q f) (hl : f.length = n + 1) (hr : ∀ i, i < n → RowIs q f i n (m i)) (he : Ech q n n used free lead m M') (hfr : 1 ≤ free)
    (hll : l.length = n) (hv : ∀ c, c < n → l.getD c 0 % (q : Int) = (if c = free then 1 else if 0 ≤ lead c then -(M' free (lead c).toNat) else 0) % (q : Int)) : M q f (ppow (nf q l) q) (nf q l) ∧ 2 ≤ (nf q l).length ∧ (nf q l).length < f.length := by
  have h1 := (rows_fixed hq hf hl hll hr).2 (he.found hfr hv)
  have h2 := (nf_E q l)
  refine ⟨(((h2.pow q).m f).trans h1).trans (h2.symm.m f), ?_, ?_⟩
  · have hfn : free < n := by
      rcases he.fre with h3 | h3
      · omega
      · exact h3.1
    have h3 := E_cf h2 free
    have h5 : (1 : Int) % (q : Int) = 1 := Int.emod_eq_of_lt (by omega) (by have := hq.1; omega)
    rw [hv free hfn, if_pos rfl, h5] at h3
    rcases Nat.lt_or_ge free (nf q l).length with h4 | h4
    · omega
    · rw [getD_over' _ _ h4] at h3; simp at h3
  · have := nf_len q l; omega
/-- Of what has no square factor, and nothing fixed but numbers, there are no factors. -/
theorem fixed_irr {q : Nat} (hq : IsP q) {f : List Int} (hf : Mo q f) (h2 : 2 ≤ f.length) (hs : SqF q f) (h : ∀ v, M q f (ppow v q) v → ∃ c, M q f v [c]) : Irr q f := by
  by_cases hi : Irr q f
  · exact hi
  · obtain ⟨v, h1, h3⟩ := fixed_ex hq hf h2 hs hi
    obtain ⟨c, hc⟩ := h v h1
    exact absurd hc (h3 c)

/-- The rows, and what leads each, in memory. -/
structure FixSt (w0 : World) (gm cm gl n : Nat) (G : Nat → Nat) (w : World) (lead : Nat → Int) (m : Nat → Nat → Int) : Prop where
  mat : MatS w0.heap.size w (.slice (some ⟨gm, 0, none⟩) n cm) n n G m
  led : ∃ l, RowW w gl l ∧ l.length = n ∧ ∀ r, r < n → l.getD r 0 = lead r
  gl0 : w0.heap.size ≤ gl
  ngm : gm ≠ gl
  nG : ∀ j, j < n → G j ≠ gl
  bel : Below w0.heap.size w0 w
namespace FixSt
variable {w0 w w' : World} {gm cm gl n : Nat} {G : Nat → Nat} {lead : Nat → Int} {m : Nat → Nat → Int}
theorem congr {m' : Nat → Nat → Int} (h : FixSt w0 gm cm gl n G w lead m) (e : ∀ j k, j < n → k < n → m' j k = m j k) : FixSt w0 gm cm gl n G w lead m' :=
  ⟨h.mat.congr e, h.led, h.gl0, h.ngm, h.nG, h.bel⟩
theorem below (h : FixSt w0 gm cm gl n G w lead m) (hb : Below w.heap.size w w') : FixSt w0 gm cm gl n G w' lead m := by
  obtain ⟨l, h1, h2⟩ := h.led
  exact ⟨h.mat.below hb, ⟨l, h1.below hb, h2⟩, h.gl0, h.ngm, h.nG, step_below h.bel hb⟩
theorem drewN (h : FixSt w0 gm cm gl n G w lead m) (d : Nat) : FixSt w0 gm cm gl n G (w.drewN d) lead m := h.below (below_drewN (Below.refl _ _) d)
theorem put (h : FixSt w0 gm cm gl n G w lead m) {i k : Nat} (hi : i < n) (hk : k < n) (x : Int) : FixSt w0 gm cm gl n G (w.setCell ⟨G i, k, none⟩ (.int .i64 x)) lead (fun j l => if j = i ∧ l = k then x else m j l) := by
  obtain ⟨l, h1, h2⟩ := h.led
  exact ⟨h.mat.set hi hk x, ⟨l, h1.of_block (heap_set_ne (h.nG i hi)), h2⟩, h.gl0, h.ngm, h.nG, h.bel.setCell (h.mat.ge i hi) _⟩
theorem lput (h : FixSt w0 gm cm gl n G w lead m) {i : Nat} (hi : i < n) (x : Int) : FixSt w0 gm cm gl n G (w.setCell ⟨gl, i, none⟩ (.int .i64 x)) (fun j => if j = i then x else lead j) m := by
  obtain ⟨l, h1, h2, h3⟩ := h.led
  refine ⟨h.mat.other _ (fun e => h.ngm (Option.some.inj e)) h.nG, ⟨l.set i x, h1.set (by omega) x, by simpa using h2, fun r hr => ?_⟩, h.gl0, h.ngm, h.nG, h.bel.setCell h.gl0 _⟩
  rw [getD_setG, h2]
  by_cases e : i = r
  · subst e; rw [if_pos ⟨rfl, hr⟩, if_pos rfl]
  · rw [if_neg (fun z => e z.1), if_neg (fun z => e z.symm)]; exact h3 r hr
theorem lcell (h : FixSt w0 gm cm gl n G w lead m) {i : Nat} (hi : i < n) : w.cell? ⟨gl, i, none⟩ = some (.int .i64 (lead i)) ∧ w.frozen? ⟨gl, i, none⟩ = false := by
  obtain ⟨l, h1, h2, h3⟩ := h.led
  exact ⟨by rw [h1.cell (by omega), h3 i hi], h1.frozen i⟩
theorem at_ (h : FixSt w0 gm cm gl n G w lead m) {i k : Nat} (hi : i < n) (hk : k < n) : w.cell? ⟨gm, i, none⟩ = some (.slice (some ⟨G i, 0, none⟩) n n) ∧ w.cell? ⟨G i, k, none⟩ = some (.int .i64 (m i k)) ∧ w.frozen? ⟨G i, k, none⟩ = false :=
  ⟨h.mat.top hi, h.mat.cell hi hk, h.mat.frozen hi k⟩
end FixSt

/-- Columns a and u change places in the rows ahead of i. -/
def swM (m : Nat → Nat → Int) (a u i j l : Nat) : Int := if j < i then m j (if l = a then u else if l = u then a else l) else m j l
def scM (q : Nat) (m : Nat → Nat → Int) (u : Nat) (iv : Int) (i j l : Nat) : Int := if j < i ∧ l = u then (m j l * iv) % (q : Int) else m j l
def lsM (q : Nat) (m : Nat → Nat → Int) (c u k j l : Nat) : Int := if l < k ∧ l ≠ u then (m j l - m c l * m j u) % (q : Int) else m j l
def lsR (q : Nat) (m : Nat → Nat → Int) (c u k i j l : Nat) : Int := if l = k then (if j < i then (m j k - m c k * m j u) % (q : Int) else m j k) else lsM q m c u k j l
section
variable {w0 w w' : World} {gm cm gl n : Nat} {G : Nat → Nat} {lead : Nat → Int} {m : Nat → Nat → Int} {a u i : Nat}
theorem swM_next (h : FixSt w0 gm cm gl n G w lead (swM m a u i)) (hi : i < n) (ha : a < n) (hu : u < n) : FixSt w0 gm cm gl n G ((w.setCell ⟨G i, a, none⟩ (.int .i64 (m i u))).setCell ⟨G i, u, none⟩ (.int .i64 (m i a))) lead (swM m a u (i + 1)) := by
  refine ((h.put hi ha (m i u)).put hi hu (m i a)).congr fun j l hj hl => ?_
  by_cases e : j = i
  · subst e
    by_cases e1 : l = u
    · subst e1
      by_cases e2 : l = a
      · subst e2; simp [swM]
      · simp [swM, e2]
    · by_cases e2 : l = a
      · subst e2; simp [swM, e1]
      · simp [swM, e1, e2]
  · by_cases e1 : j < i
    · have : j < i + 1 := by omega
      simp [swM, e, e1, this]
    · have : ¬ j < i + 1 := by omega
      simp [swM, e, e1, this]
theorem scM_next {q : Nat} {iv : Int} (h : FixSt w0 gm cm gl n G w lead (scM q m u iv i)) (hi : i < n) (hu : u < n) : FixSt w0 gm cm gl n G (w.setCell ⟨G i, u, none⟩ (.int .i64 ((m i u * iv) % (q : Int)))) lead (scM q m u iv (i + 1)) := by
  refine (h.put hi hu _).congr fun j l hj hl => ?_
  unfold scM
  by_cases e1 : l = u
  · subst e1
    by_cases e : j = i
    · subst e; rw [if_pos ⟨by omega, rfl⟩, if_pos ⟨rfl, rfl⟩]
    · rw [if_neg (fun (z : j = i ∧ l = l) => e z.1)]
      by_cases e2 : j < i
      · rw [if_pos ⟨by omega, rfl⟩, if_pos ⟨e2, rfl⟩]
      · rw [if_neg (by omega), if_neg (by omega)]
  · rw [if_neg (fun z => e1 z.2), if_neg (fun z => e1 z.2), if_neg (fun z => e1 z.2)]
theorem lsR_next {q c k : Nat} (h : FixSt w0 gm cm gl n G w lead (lsR q m c u k i)) (hi : i < n) (hk : k < n) : FixSt w0 gm cm gl n G (w.setCell ⟨G i, k, none⟩ (.int .i64 ((m i k - m c k * m i u) % (q : Int)))) lead (lsR q m c u k (i + 1)) := by
  refine (h.put hi hk _).congr fun j l hj hl => ?_
  unfold lsR
  by_cases e1 : l = k
  · subst e1
    rw [if_pos rfl, if_pos rfl]
    by_cases e : j = i
    · subst e; rw [if_pos (by omega), if_pos ⟨rfl, rfl⟩]
    · rw [if_neg (fun (z : j = i ∧ l = l) => e z.1)]
      by_cases e2 : j < i
      · rw [if_pos (by omega), if_pos e2]
      · rw [if_neg (by omega), if_neg e2]
  · rw [if_neg e1, if_neg e1, if_neg (fun z => e1 z.2)]
theorem lsR_zero {q c k : Nat} (h : FixSt w0 gm cm gl n G w lead (lsM q m c u k)) : FixSt w0 gm cm gl n G w lead (lsR q m c u k 0) :=
  h.congr fun j l hj hl => by
    unfold lsR
    by_cases e : l = k
    · subst e; rw [if_pos rfl, if_neg (by omega), lsM, if_neg (by omega)]
    · rw [if_neg e]
theorem lsR_all {q c k : Nat} (h : FixSt w0 gm cm gl n G w lead (lsR q m c u k n)) (hk : k ≠ u) : FixSt w0 gm cm gl n G w lead (lsM q m c u (k + 1)) :=
  h.congr fun j l hj hl => by
    unfold lsR
    by_cases e : l = k
    · subst e; rw [if_pos rfl, if_pos hj, lsM, if_pos ⟨by omega, hk⟩]
    · rw [if_neg e]; unfold lsM
      by_cases e2 : l < k
      · by_cases e3 : l = u
        · rw [if_neg (fun z => z.2 e3), if_neg (fun z => z.2 e3)]
        · rw [if_pos ⟨by omega, e3⟩, if_pos ⟨e2, e3⟩]
      · rw [if_neg (by omega), if_neg (by omega)]
theorem lsM_same {q c : Nat} (h : FixSt w0 gm cm gl n G w lead (lsM q m c u u)) : FixSt w0 gm cm gl n G w lead (lsM q m c u (u + 1)) :=
  h.congr fun j l hj hl => by
    unfold lsM
    by_cases e : l < u
    · rw [if_pos ⟨by omega, by omega⟩, if_pos ⟨e, by omega⟩]
    · rw [if_neg (by omega), if_neg (by omega)]
theorem swM_zero (h : FixSt w0 gm cm gl n G w lead m) (a u : Nat) : FixSt w0 gm cm gl n G w lead (swM m a u 0) := h.congr fun j l _ _ => by unfold swM; rw [if_neg (by omega)]
theorem scM_zero (h : FixSt w0 gm cm gl n G w lead m) (q u : Nat) (iv : Int) : FixSt w0 gm cm gl n G w lead (scM q m u iv 0) := h.congr fun j l _ _ => by unfold scM; rw [if_neg (by omega)]
theorem lsM_zero (h : FixSt w0 gm cm gl n G w lead m) (q c u : Nat) : FixSt w0 gm cm gl n G w lead (lsM q m c u 0) := h.congr fun j l _ _ => by unfold lsM; rw [if_neg (by omega)]
end
/-- A column taken. -/
theorem Ech.took {q n c used free a : Nat} (hq : IsP q) {lead lead' : Nat → Int} {M0 m : Nat → Nat → Int} {iv : Int} (h : Ech q n c used free lead M0 m) (hc : c < n) (ha : used ≤ a) (han : a < n) (h0 : m c a ≠ 0) (hiv : (m c a * iv) % (q : Int) = 1) (hl : ∀ r, r < c + 1 → lead' r = if r = c then (used : Int) else lead r) :
    Ech q n (c + 1) (used + 1) free (fun r => if r = c then (used : Int) else lead r) M0 (lsM q (scM q (swM m a used n) used iv n) c used n) :=
  h.take (m1 := swM m a used n) (m2 := scM q (swM m a used n) used iv n) (m3 := lsM q (scM q (swM m a used n) used iv n) c used n) hq hc ha han h0 (fun i k hi hk => by unfold swM; rw [if_pos hi]) hiv
    (fun i k hi hk => by
      unfold scM
      by_cases e : k = used
      · rw [if_pos ⟨hi, e⟩, if_pos e]
      · rw [if_neg (fun z => e z.2), if_neg e])
    (fun i k hi hk => by
      unfold lsM
      by_cases e : k = used
      · rw [if_neg (fun z => z.2 e), if_pos e]
      · rw [if_pos ⟨hk, e⟩, if_neg e]) (fun r => rfl)
end Go.Proofs.Ytokdcgmjpnanoaa
