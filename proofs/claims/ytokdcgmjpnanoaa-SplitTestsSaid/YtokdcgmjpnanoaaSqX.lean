/- split.factors by its contract. -/
import Derived.Test.YtokdcgmjpnanoaaSqW
import Derived.Test.YtokdcgmjpnanoaaSqN
import Derived.Deep.RegionLaw

set_option linter.unusedVariables false
set_option linter.unusedSimpArgs false
namespace Go.Proofs.Ytokdcgmjpnanoaa
open Go.RowKit

theorem step_append_sl {P : Program} {ops : Array Oper} {o : Oper} {a : Act} {w : World} {K : Act → World → Prop} {Q : Exit → Act → World → Prop} {E : Prop}
    (hg : o.guard = none) (s x : Operand) (t : TypeId) (hop : o.op = Op.call { callee := Callee.builtin Builtin.append, args := #[s, x], argTypes := #[t, t] })
    (base : Nat) (e : TypeId) (i : TypeInfo) (bytes : Nat) (h1 : P.underlying t = some (.slice e)) (h2 : P.info? e = some i) (h3 : i.zero = some (.slice none 0 0)) (h4 : i.size = 1) (h5 : i.bytes = bytes)
    (v : Value) (n : Nat) (xs : List Value) (hs : a.eval s = v) (hown : w.ownsRow base e 1 v n xs) (hxs : ∀ u ∈ xs, isSl u) (hall : AllSl w v)
    (ad : Addr) (m c : Nat) (news : List Value) (hx : a.eval x = .slice (some ad) m c) (hn : news.length = m) (hc : ∀ j u, news[j]? = some u → w.cell? (ad.add j) = some u) (h1c : ∀ u ∈ news, isSl u)
    (b1 : n + m ≤ maxLen) (b2 : (n + m) * bytes ≤ 140737488355328) (hbase : base ≤ w.heap.size)
    (hK : ∀ v' w', w'.ownsRow base e 1 v' (n + m) (xs ++ news) → w.grownBy w' v.ownBlock → AllSl w' v' → (v'.ownBlock = v.ownBlock ∨ ∃ g, v'.ownBlock = some g ∧ w.heap.size ≤ g) → K (a.put o.dst v') w') :
    if Region.wanted o (yielded ops a.tmps) = true then Oper.wp P o a w K Q else E := by
  have hw : Region.wanted o (yielded ops a.tmps) = true := by simp [Region.wanted, hg]
  rw [if_pos hw]
  obtain ⟨v', w', hrun, r1, r2, r3, r4⟩ := run_append_sl (P := P) w base t o.type e i bytes h1 h2 h3 h4 h5 v n xs hown hxs hall ad m c news hn hc h1c b1 b2 hbase
  unfold Oper.wp
  simp [execOp, hop, resolve, invoke, builtin, hs, hx, hrun, Result.andThen]
  exact hK v' w' r1 r2 r3 r4
theorem wpList_append_sl {P : Program} {w : World} {ops : Array Oper} {rest : List Oper} {o : Oper} {a : Act} {Q : Exit → Act → World → Prop} (hgd : o.guard = none) (s x : Operand) (t : TypeId)
    (hop : o.op = Op.call { callee := Callee.builtin Builtin.append, args := #[s, x], argTypes := #[t, t] })
    (base : Nat) (e : TypeId) (i : TypeInfo) (bytes : Nat) (h1 : P.underlying t = some (.slice e)) (h2 : P.info? e = some i) (h3 : i.zero = some (.slice none 0 0)) (h4 : i.size = 1) (h5 : i.bytes = bytes)
    (v : Value) (n : Nat) (xs : List Value) (hs : a.eval s = v) (hown : w.ownsRow base e 1 v n xs) (hxs : ∀ u ∈ xs, isSl u) (hall : AllSl w v)
    (ad : Addr) (m c : Nat) (news : List Value) (hx : a.eval x = .slice (some ad) m c) (hn : news.length = m) (hc : ∀ j u, news[j]? = some u → w.cell? (ad.add j) = some u) (h1c : ∀ u ∈ news, isSl u)
    (b1 : n + m ≤ maxLen) (b2 : (n + m) * bytes ≤ 140737488355328) (hbase : base ≤ w.heap.size)
    (h : ∀ v' w', w'.ownsRow base e 1 v' (n + m) (xs ++ news) → w.grownBy w' v.ownBlock → AllSl w' v' → (v'.ownBlock = v.ownBlock ∨ ∃ g, v'.ownBlock = some g ∧ w.heap.size ≤ g) → wpList P ops Q rest (a.put o.dst v') w') : wpList P ops Q (o :: rest) a w :=
  wpList_plain hgd fun _ hK => by
    obtain ⟨v', w', hrun, r1, r2, r3, r4⟩ := run_append_sl (P := P) w base t o.type e i bytes h1 h2 h3 h4 h5 v n xs hown hxs hall ad m c news hn hc h1c b1 b2 hbase
    unfold Oper.wp
    simp [execOp, hop, resolve, invoke, builtin, hs, hx, hrun, Result.andThen]
    exact hK _ _ (h v' w' r1 r2 r3 r4)
theorem ownsRow_mono {w : World} {b b' : Nat} {e : TypeId} {s : Nat} {v : Value} {n : Nat} {xs : List Value} (h : w.ownsRow b e s v n xs) (hb : b' ≤ b) : w.ownsRow b' e s v n xs := by
  obtain ⟨h1, h2⟩ := h
  refine ⟨h1, ?_⟩
  rcases h2 with h2 | ⟨g, cap, cur, a1, a2, a3⟩
  · exact .inl h2
  · exact .inr ⟨g, cap, cur, a1, Nat.le_trans hb a2, a3⟩
theorem OwnsS.mono {w : World} {b b' : Nat} {v : Value} {L : List (List Int)} (h : OwnsS b w v L) (hb : b' ≤ b) : OwnsS b' w v L := by
  obtain ⟨vs, h1, h2, h3⟩ := h; exact ⟨vs, h1, ownsRow_mono h2 hb, h3⟩
theorem ownsRow_block {w w' : World} {b : Nat} {e : TypeId} {s : Nat} {v : Value} {n : Nat} {xs : List Value} (h : w.ownsRow b e s v n xs) (hb : ∀ g, v.ownBlock = some g → w'.heap[g]? = w.heap[g]?) : w'.ownsRow b e s v n xs := by
  obtain ⟨h1, h2⟩ := h
  refine ⟨h1, ?_⟩
  rcases h2 with h2 | ⟨g, cap, cur, rfl, a2, a3, a4⟩
  · exact .inl h2
  · exact .inr ⟨g, cap, cur, rfl, a2, (hb g rfl).trans a3, a4⟩
theorem OwnsS.keep {q bc bp bd bs n base : Nat} {w w' : World} {v : Value} {L : List (List Int)} (h : OwnsS base w v L) (S : Spl q bc bp bd bs n w) (k : KeepX bc bs w w') (hc : bc < base) (hs : bs < base) (hl : ∀ g ∈ L, g.length ≠ 1) : OwnsS base w' v L := by
  obtain ⟨vs, h1, h2, h3, h4⟩ := h
  have hb : ∀ g, v.ownBlock = some g → w'.heap[g]? = w.heap[g]? := fun g hg => by
    have := h2.lt g hg
    exact k.block g this.2 (by omega) (by omega)
  refine ⟨vs, h1, ownsRow_block h2 hb, fun g hg i x hx => h3 g hg i x ?_, fun i hi => (h4 i hi).keep2 S k (hl _ ?_)⟩
  · simp only [World.cell?, hb g hg] at hx; exact hx
  · rw [List.getD_eq_getElem?_getD, List.getElem?_eq_getElem hi]; exact List.getElem_mem hi
theorem OwnsS.isRow {base : Nat} {w : World} {v : Value} {L : List (List Int)} (h : OwnsS base w v L) (hL : L ≠ []) : ∃ g c, v = .slice (some ⟨g, 0, none⟩) L.length c := by
  obtain ⟨vs, h1, h2, -⟩ := h
  rcases h2.2 with ⟨rfl, h0⟩ | ⟨g, cap, cur, rfl, -⟩
  · exact absurd (List.eq_nil_of_length_eq_zero h0) hL
  · exact ⟨g, cap, rfl⟩
theorem factors_len {q : Nat} (hq : IsP q) : ∀ l : List (List Int), (∀ g ∈ l, Irr q g) → nf q (prodL l) ≠ [] ∧ l.length + 1 ≤ dg q (prodL l)
  | [], _ => ⟨(Mo.one hq).nf_ne, by rw [show prodL [] = [1] from rfl, dg_one hq]; simp⟩
  | g :: l, h => by
    have hg := h g (by simp)
    obtain ⟨h1, h2⟩ := factors_len hq l (fun x hx => h x (by simp [hx]))
    have h3 := dg_mul hq hg.mo.nf_ne h1
    refine ⟨mul_ne hq hg.mo.nf_ne h1, ?_⟩
    rw [hg.mo.dg] at h3
    have := hg.two
    show l.length + 1 + 1 ≤ dg q (pmul g (prodL l))
    omega
theorem FactorsOf.len {q : Nat} (hq : IsP q) {f : List Int} {l : List (List Int)} (h : FactorsOf q f l) (hf : Mo q f) : l.length + 1 ≤ f.length := by
  have := (factors_len hq l h.irr).2
  rw [dg_congr h.eq, hf.dg] at this; exact this
theorem FactorsOf.ne {q : Nat} (hq : IsP q) {f : List Int} {l : List (List Int)} (h : FactorsOf q f l) (hf : Mo q f) (h2 : 2 ≤ f.length) : l ≠ [] := by
  rintro rfl
  have := dg_congr h.eq
  rw [hf.dg, show prodL [] = [1] from rfl, dg_one hq] at this; omega
def FacTells (q bc bp bd bs K m : Nat) (f : List Int) (w : World) (e : Ending) (w' : World) : Prop :=
  ∃ v L, ∃ K' : Nat, e = .returned v ∧ OwnsS w.heap.size w' v L ∧ FactorsOf q f L ∧ Spl q bc bp bd bs K' w' ∧ K' ≤ K + m ∧ KeepX bc bs w w'

set_option maxRecDepth 100000 in
set_option maxHeartbeats 4000000 in
theorem mod_factors {q bc bp bd bs D : Nat} (hq : IsP q) (hD : D < 64) : ∀ (n : Nat) (vf : Value) (f : List Int) (K : Nat) (w : World), f.length ≤ n → f.length ≤ 64 → Spl q bc bp bd bs K w → (∃ ao cap, vf = .slice ao f.length cap) → (f.length ≠ 1 → SeesI w vf f) → Mo q f → SqF q f → AllD q f (D + 1) → K + f.length * 274877906946 < 1152921504606846976 →
    Calls Try.prog 17 #[vSpl q bc bp bd bs, vf, .int .i64 ((D : Int) + 1)] w fun e w' => FacTells q bc bp bd bs K ((f.length - 2) * 274877906946) f w e w' := by
  obtain ⟨hq0, hq2⟩ := isP_bounds hq
  intro n
  induction n with
  | zero => intro vf f K w h _ _ _ _ mf; exact absurd (List.eq_nil_of_length_eq_zero (by omega)) mf.ne
  | succ n ih =>
    intro vf f K w hn hl S hvf hf mf sf af hK
    obtain ⟨ao, cap, rfl⟩ := hvf
    -- the box
    obtain ⟨b0, hb0⟩ : ∃ b0, b0 = w.heap.size := ⟨_, rfl⟩
    have hY : Below w.heap.size w (w.alloc (.cells #[.int .i64 q, vNext bc bp bd bs] 36)) := (Below.refl _ w).alloc (Nat.le_refl _) _
    have hY1 : (w.alloc (.cells #[.int .i64 q, vNext bc bp bd bs] 36)).cell? ⟨b0, 0, none⟩ = some (.int .i64 q) := by rw [hb0, World.cell?_alloc_at _ _ _ _ rfl]; rfl
    have hY2 : (w.alloc (.cells #[.int .i64 q, vNext bc bp bd bs] 36)).cell? ⟨b0, 1, none⟩ = some (vNext bc bp bd bs) := by rw [hb0, World.cell?_alloc_at _ _ _ _ rfl]; rfl
    obtain ⟨Y, hYe⟩ : ∃ Y, Y = w.alloc (.cells #[.int .i64 q, vNext bc bp bd bs] 36) := ⟨_, rfl⟩
    have hYs : b0 < Y.heap.size := by rw [hYe, hb0]; simp
    rw [← hYe] at hY hY1 hY2
    have HKw : Hid (KeepX bc bs w Y) := KeepX.of_below hY
    have HSY := hidP (S.below hY)
    have HB0 := hidP hb0
    have HYe := hidP hYe
    have hlt : bc < w.heap.size ∧ bs < w.heap.size := by
      obtain ⟨z, -, -, hz⟩ := S.s
      exact ⟨lt_of_block S.c, lt_of_block hz⟩
    by_cases h1 : f.length = 1
    · have e1 : f = [1] := mf.is_one hq (by omega)
      subst e1
      have HR : Hid (FacTells q bc bp bd bs K ((([1] : List Int).length - 2) * 274877906946) [1] w (.returned (.slice none 0 0)) Y) := ⟨_, [], K, rfl, OwnsS.nil _ _, FactorsOf.nil, HSY.out, Nat.le_add_right _ _, HKw.out⟩
      clear ih hf mf hn hl hY hY1 hY2 hYs hb0 hYe S sf af h1
      unfold vSpl
      go_enter Try.func17, Try.ntmps17
      go_wp2
      rw [← HB0.out, ← HYe.out]
      go_wp2_with fail
      go_ret
      exact HR.out
    · have h2 := mf.two_of h1
      have hfs := hf h1
      by_cases h3 : f.length = D + 2
      · -- one factor
        have hI : Irr q f := af.irr hq mf (by omega) (by omega)
        have hb : Below Y.heap.size Y (Y.alloc (.cells #[.slice ao f.length cap] 22)) := (Below.refl _ Y).alloc (Nat.le_refl _) _
        have hown : (Y.alloc (.cells #[.slice ao f.length cap] 22)).ownsRow w.heap.size 22 1 (.slice (some ⟨Y.heap.size, 0, none⟩) 1 1) 1 [.slice ao f.length cap] :=
          ⟨rfl, .inr ⟨Y.heap.size, 1, _, rfl, hY.size, Deep.blk_alloc_new Y _, Nat.le_refl _, by decide, rfl, rfl⟩⟩
        have hO : OwnsS w.heap.size (Y.alloc (.cells #[.slice ao f.length cap] 22)) (.slice (some ⟨Y.heap.size, 0, none⟩) 1 1) [f] := by
          refine ⟨[.slice ao f.length cap], rfl, hown, fun g hg i x hx => ?_, fun i hi => ?_⟩
          · simp only [Value.ownBlock, Option.some.injEq] at hg
            subst hg
            rw [World.cell?_alloc_at _ _ _ _ rfl] at hx
            rcases Nat.eq_zero_or_pos i with z | z
            · subst z; simp at hx; rw [← hx]; exact notInt_slice _ _ _
            · rw [Array.getElem?_eq_none (by simp; omega)] at hx; cases hx
          · obtain rfl : i = 0 := by simp at hi; omega
            exact (SeesI.below hfs hY).below hb
        have HR : Hid (FacTells q bc bp bd bs K ((f.length - 2) * 274877906946) f w (.returned (.slice (some ⟨Y.heap.size, 0, none⟩) 1 1)) (Y.alloc (.cells #[.slice ao f.length cap] 22))) :=
          ⟨_, [f], K, rfl, hO, FactorsOf.single hI, HSY.out.below hb, Nat.le_add_right _ _, HKw.out.trans (KeepX.of_below hb)⟩
        have d0 : ((f.length : Int) == 1) = false := by rw [beq_eq_false_iff_ne]; omega
        have d1 : (((f.length : Int) - 1) == ((D : Int) + 1)) = true := by rw [beq_iff_eq]; omega
        have d2 : IntKind.i64.wrap ((f.length : Int) - 1) = (f.length : Int) - 1 := by rw [IntKind.wrap_i64]; omega
        have hs1 : Y.heap.size = b0 + 1 := by have := HYe.out; rw [this, HB0.out]; simp
        rw [hs1] at HR
        obtain ⟨F, hF⟩ : ∃ F, f.length = F := ⟨_, rfl⟩
        rw [hF] at HR d0 d1 d2
        rw [hF]
        clear ih hf mf hn hl hY hY1 hY2 hYs hb0 hYe S sf af h1 h2 h3 hfs hI hb hown hO hF hs1
        unfold vSpl
        go_enter Try.func17, Try.ntmps17
        go_wp2
        rw [← HB0.out, ← HYe.out]
        go_wp2_with fail
        go_ret
        exact HR.out
      · have hDl : D + 2 < f.length := by
          obtain ⟨g, hg, hgf⟩ := irr_factor hq _ f (Nat.le_refl _) (by rw [mf.dg]; exact h2)
          have := af g hg hgf
          have := irr_le hq hg mf hgf
          omega
        have hne : b0 ≠ bc ∧ b0 ≠ bs := by omega
        have HCell : Hid (∀ wr, KeepX bc bs Y wr → wr.cell? ⟨b0, 0, none⟩ = some (.int .i64 q) ∧ wr.cell? ⟨b0, 1, none⟩ = some (vNext bc bp bd bs) ∧ b0 < wr.heap.size) := fun wr h => ⟨(h.cell hYs hne.1 hne.2).trans hY1, (h.cell hYs hne.1 hne.2).trans hY2, Nat.lt_of_lt_of_le hYs h.size⟩
        have HFv : Hid (∀ wr, KeepX bc bs Y wr → SeesI wr (.slice ao f.length cap) f) := fun wr h => hfs.keep2 S (HKw.out.trans h) (by omega)
        have hlq : f.length * q ≤ 64 * 2147483648 := Nat.mul_le_mul hl (by omega)
        have HCP := hidP (mod_part (D := D) HSY.out (HFv.out Y (KeepX.refl Y)) (by omega) hq mf sf af (by omega) hDl (by omega))
        have d0 : ((f.length : Int) == 1) = false := by rw [beq_eq_false_iff_ne]; omega
        have d1 : (((f.length : Int) - 1) == ((D : Int) + 1)) = false := by rw [beq_eq_false_iff_ne]; omega
        have d2 : IntKind.i64.wrap ((f.length : Int) - 1) = (f.length : Int) - 1 := by rw [IntKind.wrap_i64]; omega
        obtain ⟨F, hF⟩ : ∃ F, f.length = F := ⟨_, rfl⟩
        have HFl := hidP hF
        rw [hF] at d0 d1 d2 HFv HCP hl hn h2 hDl hlq hK
        rw [hF]
        have HQ := hidP hq
        have HM := hidP mf
        have HSf := hidP sf
        have HA := hidP af
        have HIH := hidP ih
        have HLt := hidP hlt
        have e1 := hY1
        have e2 := hY2
        unfold vNext at e2
        unfold vSpl vNext at HCP
        clear ih hf mf hY hY1 hY2 hb0 hYe S sf af h1 h3 hfs hF hne hlt hq
        unfold vSpl vNext
        go_enter Try.func17, Try.ntmps17
        go_upto_region 1 with fail
        unfold vNext at HYe
        rw [← HB0.out, ← HYe.out]
        go_wp2_with fail
        refine HCP.out.mono ?_
        rintro e w1 ⟨a1, c1, P, K1, rfl, hs1, mP, dP, lP2, lPF, S1, hK1, hk1⟩
        have HKp1 := hidP hk1
        obtain ⟨x1, x2, x3⟩ := HCell.out w1 hk1
        unfold vNext at x2
        have CQ := hidP (mod_quotD (HFv.out w1 hk1) hs1 (by have := HFl.out; omega) HQ.out HM.out mP dP)
        have HP1 : Hid (∀ w2, Below w1.heap.size w1 w2 → SeesI w2 (.slice a1 P.length c1) P) := fun w2 h => SeesI.below hs1 h
        have HMP := hidP mP
        have HDP := hidP dP
        have HS1 := hidP S1
        have HLP := hidP (And.intro lP2 lPF)
        have HK1 := hidP hK1
        clear hs1 mP dP lP2 lPF S1 hK1 hk1 HCP e1 e2
        go_wp2_with fail
        refine CQ.out.mono ?_
        rintro e w2 ⟨v2, R, rfl, hs2, mR, hE, hlen, hb2⟩
        have HK2 : Hid (KeepX bc bs Y w2) := HKp1.out.trans (KeepX.of_below hb2)
        have HS2 := hidP (HS1.out.below hb2)
        have HP2 := hidP (HP1.out w2 hb2)
        obtain ⟨y1, y2, y3⟩ := HCell.out w2 HK2.out
        unfold vNext at y2
        obtain ⟨a2, c2, e2, -⟩ := SeesF.form hs2
        subst e2
        have dR : Dv q R f := ⟨P, hE.trans (.of_ev fun x => by simp only [ev_pmul]; grind)⟩
        have hlp := HLP.out
        have hFl := HFl.out
        have hk1 := HK1.out
        have CF1 : Hid (∀ w3, Below w2.heap.size w2 w3 → Calls Try.prog 17 #[vSpl q bc bp bd bs, .slice a1 P.length c1, .int .i64 ((D : Int) + 1)] w3 fun e w' => FacTells q bc bp bd bs K1 ((P.length - 2) * 274877906946) P w3 e w') :=
          fun w3 h => HIH.out _ P K1 w3 (by omega) (by omega) (HS2.out.below h) ⟨_, _, rfl⟩ (fun _ => HP2.out.below h) HMP.out (HSf.out.dv HDP.out) (HA.out.dv HDP.out) (by omega)
        have CF2 : Hid (∀ w3 K2, KeepX bc bs w2 w3 → Spl q bc bp bd bs K2 w3 → K2 ≤ K1 + (P.length - 2) * 274877906946 → Calls Try.prog 17 #[vSpl q bc bp bd bs, .slice a2 R.length c2, .int .i64 ((D : Int) + 1)] w3 fun e w' => FacTells q bc bp bd bs K2 ((R.length - 2) * 274877906946) R w3 e w') :=
          fun w3 K2 h S hk => HIH.out _ R K2 w3 (by omega) (by omega) S ⟨_, _, rfl⟩ (fun h1 => SeesI.keep2 hs2 HS2.out h h1) mR (HSf.out.dv dR) (HA.out.dv dR) (by omega)
        have HE := hidP hE
        have HMR := hidP mR
        have HLn := hidP hlen
        have HD2 := hidP ((Below.refl w2.heap.size w2).drew)
        unfold vSpl vNext at CF1 CF2
        clear hs2 mR hE hlen hb2 dR hlp hFl hk1 CQ HP1 HP2
        obtain ⟨i0, hi, hz0, hz1, hz2⟩ := info_parts info_list
        have HI := hidP hi
        have HI0 := hidP hz0
        have HI1 := hidP hz1
        have HI2 := hidP hz2
        have HYw : Hid (w.heap.size ≤ Y.heap.size) := HKw.out.size
        clear hi hz0 hz1 hz2
        go_upto_region 7 with fail
        go_region_law (first
          | (go_simp
             go_at_call 17
             refine (CF1.out _ (by first | exact Below.refl _ _ | exact HD2.out)).mono ?_
             rintro e wA ⟨vA, L1, KA, rfl, hoA, hfA, hsA, hkA, hqA⟩
             have HkA : Hid (KeepX bc bs w2 wA) := by first | exact hqA | exact (KeepX.of_below HD2.out).trans hqA
             obtain ⟨z1, z2, z3⟩ := HCell.out wA (HK2.out.trans HkA.out)
             unfold vNext at z2
             have HoA : Hid (OwnsS w2.heap.size wA vA L1) := hoA
             have HfA := hidP hfA
             have HsA := hidP hsA
             have HKA := hidP hkA
             have HDA := hidP ((Below.refl wA.heap.size wA).drew)
             clear CF1 hoA hfA hsA hkA hqA)
          | (go_simp
             go_at_call 17
             first
             | (refine (CF2.out _ KA HkA.out HsA.out HKA.out).mono ?_
                rintro e wB ⟨vB, L2, KB, rfl, hoB, hfB, hsB, hkB, hqB⟩
                have HqB : Hid (KeepX bc bs wA wB) := hqB)
             | (refine (CF2.out _ KA (HkA.out.trans (KeepX.of_below HDA.out)) (HsA.out.below HDA.out) HKA.out).mono ?_
                rintro e wB ⟨vB, L2, KB, rfl, hoB, hfB, hsB, hkB, hqB⟩
                have HqB : Hid (KeepX bc bs wA wB) := (KeepX.of_below HDA.out).trans hqB)
             have hsz : w.heap.size ≤ w2.heap.size := Nat.le_trans HYw.out HK2.out.size
             have ho1 : OwnsS w2.heap.size wB vA L1 := HoA.out.keep HsA.out HqB.out (by have := HLt.out; omega) (by have := HLt.out; omega) (fun g hg => by have := (HfA.out.irr g hg).two; omega)
             have hl1 := HfA.out.len HQ.out HMP.out
             have hl2 := hfB.len HQ.out HMR.out
             obtain ⟨g2, cc2, eB⟩ := hoB.isRow (hfB.ne HQ.out HMR.out (by have := HLn.out; have := HLP.out; omega))
             subst eB
             obtain ⟨vs1, p1, p2, p3, p4⟩ := ho1
             obtain ⟨vs2, r1, r2, r3, r4⟩ := hoB
             have HOwn : Hid (wB.ownsRow w.heap.size 22 1 vA L1.length vs1) := ownsRow_mono p2 hsz
             have HGl : Hid (∀ k, vA.ownBlock = some k → w2.heap.size ≤ k) := fun k e => (p2.lt k e).1
             have HSl1 := hidP (seesSl p1 p4)
             have HAll1 := hidP p3
             have Hp1 := hidP p1
             have Hp4 := hidP p4
             have Hr1 := hidP r1
             have Hr4 := hidP r4
             have HSl2 := hidP (seesSl r1 r4)
             have HNw : Hid (∀ j u, vs2[j]? = some u → wB.cell? ((⟨g2, 0, none⟩ : Addr).add j) = some u) := r2.cells (g := g2) rfl
             have HLl : Hid (L1.length + L2.length ≤ 128) := by have := HLn.out; have := HLP.out; have := HFl.out; show _ ≤ _; omega
             have HfB := hidP hfB
             have HsB := hidP hsB
             have HKB := hidP hkB
             have HSz : Hid (w.heap.size ≤ wB.heap.size) := Nat.le_trans hsz (Nat.le_trans HkA.out.size HqB.out.size)
             clear CF2 hsz hl1 hl2 p1 p2 p3 p4 r1 r2 r3 r4 hfB hsB hkB hqB)
          | (refine step_append_sl rfl (.tmp 31) (.tmp 35) 25 rfl w.heap.size 22 i0 24 Try.underlying25 HI.out HI0.out HI1.out HI2.out vA L1.length vs1 (by simp [Act.eval, Act.put]) HOwn.out HSl1.out HAll1.out ⟨g2, 0, none⟩ L2.length cc2 vs2 (by simp [Act.eval, Act.put]) Hr1.out HNw.out HSl2.out (by have := HLl.out; unfold maxLen; omega) (by have := HLl.out; omega) HSz.out ?_
             intro v' w4 hown4 hgrow hall4 _
             have HO4 := hidP hown4
             have HG4 := hidP hgrow
             have HA4 := hidP hall4
             clear hown4 hgrow hall4)
          | fail)
        all_goals
          have hk24 : KeepX bc bs w2 w4 := by
            have h1 := HkA.out.trans HqB.out
            have h2 := HG4.out
            exact ⟨h2.os.trans h1.os, h2.tape.trans h1.tape, h2.output.trans h1.output, Nat.le_trans h1.size h2.size, fun k hk n1 n2 => (h2.block k (Nat.lt_of_lt_of_le hk h1.size) (fun e => by have := HGl.out k e.symm; omega)).trans (h1.block k hk n1 n2)⟩
          have hs4 : Spl q bc bp bd bs KB w4 := by
            obtain ⟨z, za, zb, hz⟩ := HsB.out.s
            have hb : ∀ k, k < w2.heap.size → w4.heap[k]? = wB.heap[k]? := fun k hk => HG4.out.block k (Nat.lt_of_lt_of_le hk (Nat.le_trans HkA.out.size HqB.out.size)) (fun e => by have := HGl.out k e.symm; omega)
            have hsz : w.heap.size ≤ w2.heap.size := Nat.le_trans HYw.out HK2.out.size
            have := HLt.out
            exact HS2.out.of_keep hk24 ((hb bc (by omega)).trans HsB.out.c) ⟨z, za, zb, (hb bs (by omega)).trans hz⟩
          have HR : Hid (FacTells q bc bp bd bs K ((F - 2) * 274877906946) f w (.returned v') w4) := by
            refine ⟨v', L1 ++ L2, KB, rfl, OwnsS.app Hp1.out HAll1.out Hp4.out Hr1.out Hr4.out HO4.out HG4.out HA4.out, HfA.out.app HfB.out (HE.out.trans (.of_ev fun x => by simp only [ev_pmul]; grind)), hs4, ?_, HKw.out.trans (HK2.out.trans hk24)⟩
            have := HKA.out; have := HKB.out; have := HK1.out; have := HLn.out; have := HLP.out; have := HFl.out
            omega
          clear hk24 hs4
          go_wp2
          go_ret
          exact HR.out
end Go.Proofs.Ytokdcgmjpnanoaa
