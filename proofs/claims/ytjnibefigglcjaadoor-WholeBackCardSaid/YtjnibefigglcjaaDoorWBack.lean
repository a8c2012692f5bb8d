/- primroselaw02.WholeBack answers true for every whole number, text and int that may be in memory: what is told of a whole number is read as that number, and a text that is read is told again; an int is its number's (of the first 60 limbs, a text of at most 600 bytes). No condition beyond the row's own (the listed tables of the library are as its text lays them). -/
import Derived.Test.YtjnibefigglcjaaDoorZ13
import Derived.Deep.RegionHeld3
set_option linter.unusedVariables false
set_option linter.unusedSimpArgs false
namespace Go.Proofs.YtjnibefigglcjaaDoor.wholeBack
open Go.ChangeShapes Go.WideShapes Go.ChangeAt Go.RowKit

theorem parse_told {Z : Int} (hl : (dec Z.natAbs).length ≤ 10000) (w : World) : Calls Tryd.prog 48 #[.string (textZ Z)] w fun e w' => ∃ v, e = .returned (.tuple #[v, .int .i64 0]) ∧ IsZ w' v Z ∧ Below w.heap.size w w' := by
  have hp := parse_text Z hl
  refine (whole_parse (textZ Z) w (by have := textZ_size Z hl; omega)).mono ?_
  rintro e w' ⟨v, rfl, hz, hb⟩
  rw [hp.2] at hz
  rw [hp.1]
  exact ⟨v, rfl, hz, hb⟩

set_option maxRecDepth 100000 in
set_option maxHeartbeats 8000000 in
theorem walk {va : Value} {n : Bool} {la : List Nat} {w : World} (hA : SeesZ w va n la) (hla : la.length ≤ 35184372087808) (t : ByteArray) (ht : t.size ≤ 140737488355328) (i : Int) (wi : (Lit.int .i64 i).wf = true) :
    Calls Tryd.prog 12 #[va, .string t, .int .i64 i] w fun e w' => e = .returned (.bool true) ∧ Below w.heap.size w w' := by
  have hi1 : -9223372036854775808 ≤ i ∧ i < 9223372036854775808 := by
    simp [Lit.wf, IntKind.min, IntKind.max, IntKind.signed, IntKind.bits] at wi
    omega
  have HOF := hid (fun w => whole_of i hi1.1 hi1.2 w)
  have hsm : ∃ (sm : Int) (sb : Bool), smallI (zneg i) (zlim i) = sm ∧ smallB (zlim i) = sb ∧ sb = decide (-9223372036854775807 ≤ i) ∧ (sb = true → sm = i) ∧ (sb = false → i = -9223372036854775808) := by
    by_cases h : -9223372036854775807 ≤ i
    · obtain ⟨h1, h2⟩ := small_all i h hi1.2
      exact ⟨_, _, rfl, rfl, by rw [h2]; simp [h], fun _ => h1, fun hh => by rw [h2] at hh; simp at hh⟩
    · obtain rfl : i = -9223372036854775808 := by omega
      exact ⟨_, _, rfl, rfl, by rw [small_least.2]; simp, (fun hh => by rw [small_least.2] at hh; cases hh), fun _ => rfl⟩
  obtain ⟨sm, sb, e1, e2, e3, e4, e5⟩ := hsm
  have HSM := hid (And.intro e1 e2); have HSB := hid e3; have HSV := hid e4; have HSL := hid e5
  clear hi1 wi e1 e2 e3 e4 e5
  obtain ⟨mA, rfl, hA⟩ := hA
  have HA := hid hA
  obtain ⟨aA, cA, rfl, -, -, -, -, -⟩ := hA
  obtain ⟨w0, gA, hw0, b0, eA, xA⟩ := one_box w (.bool n) (.slice aA la.length cA) 34
  have HW0 := hid hw0.symm; have HBel := hid b0
  have GA : Hid (w.heap.size ≤ gA) := by show w.heap.size ≤ gA; omega
  have EA := hid eA.symm
  have XA := hid xA
  replace HA : Hid (SeesZ w0 (.agg #[.bool n, .slice aA la.length cA]) n la) := ⟨_, rfl, HA.out.below b0⟩
  clear hw0 b0 eA xA
  go_enter Tryd.func12, Tryd.ntmps12
  go_wp2_with fail
  rw [HW0.out, EA.out]
  clear HW0 EA
  skip
  refine (awakeZ_any _).mono ?_
  rintro e w1 ⟨rfl, hb⟩
  have HBx := hid (step_below HBel.out hb)
  clear HBel
  have HBel := HBx
  clear HBx
  replace HA := hid (HA.out.below hb)
  replace XA := hid (XA.out.below hb)
  clear hb
  obtain ⟨XAc0, XAc1, XAf0, XAf1⟩ := XA.out.cells
  have hkA : (la.take 60).length ≤ 60 := by simp; omega
  go_wp2_with fail
  refine (law_shortZ 60 HA.out (by omega)).mono ?_
  rintro e w2 ⟨⟨sA, rfl, hs⟩, hb⟩
  clear XAc0 XAc1 XAf0 XAf1
  have HBx := hid (step_below HBel.out hb)
  clear HBel
  have HBel := HBx
  clear HBx
  replace XA := hid (XA.out.below hb)
  obtain ⟨pA, hpA⟩ : ∃ p, p = la.take 60 := ⟨_, rfl⟩
  rw [← hpA] at hs hkA
  have HPA := hid hpA
  clear hpA HA hb
  obtain ⟨bA, dA, rfl⟩ := hs.form
  obtain ⟨yA, hyA⟩ : ∃ y, y = (w2.setCell ⟨gA, 0, none⟩ (.bool n)).setCell ⟨gA, 1, none⟩ (.slice bA pA.length dA) := ⟨_, rfl⟩
  have HA : Hid (SeesZ yA (.agg #[.bool n, .slice bA pA.length dA]) n pA) := by rw [hyA]; exact hs.box XA.out _ _
  have XA' : Hid (Box yA gA (.bool n) (.slice bA pA.length dA)) := by rw [hyA]; exact XA.out.set _ _
  replace HBel : Hid (Below w.heap.size w yA) := by rw [hyA]; exact below_box HBel.out GA.out HBel.out.size _ _
  obtain ⟨XAc0, XAc1, XAf0, XAf1⟩ := XA.out.cells
  have hltA := XA.out.lt
  have HYA := hid hyA.symm
  clear hs hyA
  go_wp2_with fail
  rw [HYA.out]
  clear HYA XAc0 XAc1 XAf0 XAf1 hltA
  clear XA
  have XA := XA'
  clear XA'
  obtain ⟨XAc0, XAc1, XAf0, XAf1⟩ := XA.out.cells
  obtain ⟨Z, hZe⟩ : ∃ Z, zval n pA = Z := ⟨_, rfl⟩
  have hdl : (dec Z.natAbs).length ≤ 10000 := by rw [← hZe, zval_abs]; exact dec_len HA.out.ok (by omega)
  have HZE := hid hZe; have HTOLD := hid (fun w => parse_told hdl w)
  clear hZe hdl
  skip
  refine (whole_text HA.out (by omega)).mono ?_
  rw [HZE.out]
  rintro e w3 ⟨rfl, hb⟩
  clear XAc0 XAc1 XAf0 XAf1
  have HBx := hid (step_below HBel.out hb)
  clear HBel
  have HBel := HBx
  clear HBx
  replace HA := hid (HA.out.below hb)
  replace XA := hid (XA.out.below hb)
  clear hb
  obtain ⟨XAc0, XAc1, XAf0, XAf1⟩ := XA.out.cells
  go_wp2_with fail
  refine (HTOLD.out _).mono ?_
  rintro e w4 ⟨vb, rfl, hz, hb⟩
  clear XAc0 XAc1 XAf0 XAf1
  have HBx := hid (step_below HBel.out hb)
  clear HBel
  have HBel := HBx
  clear HBx
  replace HA := hid (HA.out.below hb)
  replace XA := hid (XA.out.below hb)
  clear hb
  obtain ⟨XAc0, XAc1, XAf0, XAf1⟩ := XA.out.cells
  clear HTOLD
  obtain ⟨ao, ca, rfl⟩ := hz.form
  obtain ⟨yB, gB, hyB, bB, eB, xB⟩ := one_box w4 (.bool (zneg Z)) (.slice ao (zlim Z).length ca) 34
  have HYB := hid hyB.symm; have EB := hid eB.symm; have XB := hid xB; have HBn := hid (step_below HBel.out bB); have HB : Hid (SeesZ yB (.agg #[.bool (zneg Z), .slice ao (zlim Z).length ca]) (zneg Z) (zlim Z)) := hz.below bB
  clear HBel
  have HBel := HBn
  clear HBn XAc0 XAc1 XAf0 XAf1
  replace HA := hid (HA.out.below bB)
  replace XA := hid (XA.out.below bB)
  clear hyB eB xB bB hz
  generalize hnb : zneg Z = nb at *
  generalize hlb : zlim Z = lb at *
  have HNB := hid (And.intro hnb hlb)
  clear hnb hlb
  obtain ⟨XAc0, XAc1, XAf0, XAf1⟩ := XA.out.cells
  obtain ⟨XBc0, XBc1, XBf0, XBf1⟩ := XB.out.cells
  go_wp2_with fail
  rw [HYB.out, EB.out]
  clear HYB EB
  skip
  refine (HOF.out _).mono ?_
  rintro e w5 ⟨vo, rfl, hz, hb⟩
  clear XAc0 XAc1 XAf0 XAf1 XBc0 XBc1 XBf0 XBf1
  have HBx := hid (step_below HBel.out hb)
  clear HBel
  have HBel := HBx
  clear HBx
  replace HA := hid (HA.out.below hb)
  replace HB := hid (HB.out.below hb)
  replace XA := hid (XA.out.below hb)
  replace XB := hid (XB.out.below hb)
  clear hb
  have HO := hid hz
  clear hz
  obtain ⟨XAc0, XAc1, XAf0, XAf1⟩ := XA.out.cells
  obtain ⟨XBc0, XBc1, XBf0, XBf1⟩ := XB.out.cells
  go_wp2_with fail
  refine (whole_small HO.out.sees).mono ?_
  rw [HSM.out.1, HSM.out.2]
  rintro e w6 ⟨rfl, hb⟩
  clear XAc0 XAc1 XAf0 XAf1 XBc0 XBc1 XBf0 XBf1
  have HBx := hid (step_below HBel.out hb)
  clear HBel
  have HBel := HBx
  clear HBx
  replace HA := hid (HA.out.below hb)
  replace HB := hid (HB.out.below hb)
  replace XA := hid (XA.out.below hb)
  replace XB := hid (XB.out.below hb)
  clear hb
  clear HO
  obtain ⟨XAc0, XAc1, XAf0, XAf1⟩ := XA.out.cells
  obtain ⟨XBc0, XBc1, XBf0, XBf1⟩ := XB.out.cells
  clear HOF HSM
  cases sb
  · obtain rfl : i = -9223372036854775808 := HSL.out rfl
    clear HSV HSB HSL
    go_wp2
    have HD := hid ((Below.refl w6.heap.size w6).drew)
    refine wp_region_held_drew (S := (fun w' => w'.cell? ⟨gA, 0, none⟩ = some (.bool n) ∧ w'.cell? ⟨gA, 1, none⟩ = some (.slice bA pA.length dA) ∧ w'.cell? ⟨gB, 0, none⟩ = some (.bool nb) ∧ w'.cell? ⟨gB, 1, none⟩ = some (.slice ao lb.length ca) ∧ Hid (Below w6.heap.size w6 w'))) (by kernel_rfl) ?_ (fun hHeld => ?_)
    · exact ⟨by assumption, by assumption, by assumption, by assumption, by assumption⟩
    refine wpAnyH_take (i := 0) (oi := { dst := some 31, op := Op.move (Operand.tmp 9), type := 49, pos := "law.go:124", after := #[], guard := none }) (v := ?_) rfl (by kernel_rfl) (by kernel_rfl) (by kernel_rfl) (fun _ _ _ h => h) (Or.inl ⟨by rfl, ?_⟩) (by assumption) ?_
    rotate_left 1
    · intro w hSw
      try dsimp only at hSw
      go_simp
      all_goals with_reducible rfl
    try simp only [Act.put, List.setIfInBounds_toArray, List.set_cons_zero, List.set_cons_succ]
    refine wpAnyH_take (i := 1) (oi := { dst := some 32, op := Op.binOp BinOp.neq 49 (Operand.tmp 31) (Operand.const (Value.int IntKind.i64 0)) 49, type := 4, pos := "law.go:124", after := #[{ on := 0, ground := Ground.data }], guard := none }) (v := ?_) rfl (by kernel_rfl) (by kernel_rfl) (by kernel_rfl) (fun _ _ _ h => h) (Or.inl ⟨by rfl, ?_⟩) (by assumption) ?_
    rotate_left 1
    · intro w hSw
      try dsimp only at hSw
      go_simp
      all_goals with_reducible rfl
    try simp only [Act.put, List.setIfInBounds_toArray, List.set_cons_zero, List.set_cons_succ]
    refine wpAnyH_take (i := 2) (oi := { dst := some 33, op := Op.move (Operand.tmp 32), type := 4, pos := "law.go:124", after := #[{ on := 1, ground := Ground.data }], guard := none }) (v := ?_) rfl (by kernel_rfl) (by kernel_rfl) (by kernel_rfl) (fun _ _ _ h => h) (Or.inl ⟨by rfl, ?_⟩) (by assumption) ?_
    rotate_left 1
    · intro w hSw
      try dsimp only at hSw
      go_simp
      all_goals with_reducible rfl
    try simp only [Act.put, List.setIfInBounds_toArray, List.set_cons_zero, List.set_cons_succ]
    refine wpAnyH_take (i := 3) (oi := { dst := some 34, op := Op.load 34 (Operand.tmp 8), type := 34, pos := "law.go:124", after := #[{ on := 2, ground := Ground.guard }], guard := some (2, false) }) (v := ?_) rfl (by kernel_rfl) (by kernel_rfl) (by kernel_rfl) (fun _ _ _ h => h) (Or.inl ⟨by rfl, ?_⟩) (by assumption) ?_
    rotate_left 1
    · intro w hSw
      try dsimp only at hSw
      go_simp
      all_goals with_reducible rfl
    try simp only [Act.put, List.setIfInBounds_toArray, List.set_cons_zero, List.set_cons_succ]
    refine wpAnyH_take (i := 4) (oi := { dst := some 35, op := Op.load 34 (Operand.tmp 3), type := 34, pos := "law.go:124", after := #[{ on := 2, ground := Ground.guard }], guard := some (2, false) }) (v := ?_) rfl (by kernel_rfl) (by kernel_rfl) (by kernel_rfl) (fun _ _ _ h => h) (Or.inl ⟨by rfl, ?_⟩) (by assumption) ?_
    rotate_left 1
    · intro w hSw
      try dsimp only at hSw
      go_simp
      all_goals with_reducible rfl
    try simp only [Act.put, List.setIfInBounds_toArray, List.set_cons_zero, List.set_cons_succ]
    refine wpAnyH_ready (rs := [5]) (by kernel_rfl) (by simp) ?_
    refine AllReadyH.cons (o := { dst := some 36, op := Op.call { callee := Callee.value (Operand.func 27), args := #[Operand.tmp 35], argTypes := #[34] }, type := 34, pos := "law.go:124", after := #[{ on := 4, ground := Ground.data }, { on := 2, ground := Ground.chain }, { on := 2, ground := Ground.guard }], guard := some (2, false) }) rfl (fun K hK => ?_) AllReadyH.nil
    go_simp
    go_at_call 27
    refine (whole_plain (by exact SeesZ.below HA.out (Hid.out (by assumption))) (by omega)).mono ?_
    rintro e wx ⟨vp, rfl, hz, hb⟩
    have hbn := hid (step_below (w := w6) (Hid.out (by assumption)) hb)
    obtain ⟨xc0, xc1, -, -⟩ := (XA.out.below hbn.out).cells
    obtain ⟨yc0, yc1, -, -⟩ := (XB.out.below hbn.out).cells
    have HPL := hid hz
    clear hz hb
    refine hK.out _ _ ?_ (fun hHeld5 => ?_)
    · exact ⟨by assumption, by assumption, by assumption, by assumption, by assumption⟩
    clear hK K
    try simp only [Act.put, List.setIfInBounds_toArray, List.set_cons_zero, List.set_cons_succ]
    refine wpAnyH_ready (rs := [6]) (by kernel_rfl) (by simp) ?_
    refine AllReadyH.cons (o := { dst := some 37, op := Op.call { callee := Callee.value (Operand.func 26), args := #[Operand.tmp 34, Operand.tmp 36], argTypes := #[34, 34] }, type := 4, pos := "law.go:124", after := #[{ on := 3, ground := Ground.data }, { on := 5, ground := Ground.data }, { on := 5, ground := Ground.chain }, { on := 2, ground := Ground.guard }], guard := some (2, false) }) rfl (fun K hK => ?_) AllReadyH.nil
    go_simp
    go_at_call 26
    refine (law_sameZ (n := nb) (l := lb) (by exact SeesZ.below HB.out (Hid.out (by assumption))) (by have h := HPL.out; rw [HZE.out] at h; have h2 : SeesZ _ _ (zneg Z) (zlim Z) := h; rw [HNB.out.1, HNB.out.2] at h2; exact h2)).mono ?_
    rintro e wx2 ⟨rfl, hb⟩
    have hbn2 := hid (step_below (w := w6) (Hid.out (by assumption)) hb)
    obtain ⟨xd0, xd1, -, -⟩ := (XA.out.below hbn2.out).cells
    obtain ⟨yd0, yd1, -, -⟩ := (XB.out.below hbn2.out).cells
    clear hb
    refine hK.out _ _ ?_ (fun hHeld6 => ?_)
    · exact ⟨by assumption, by assumption, by assumption, by assumption, by assumption⟩
    clear hK K
    try simp only [Act.put, List.setIfInBounds_toArray, List.set_cons_zero, List.set_cons_succ]
    refine wpAnyH_take (i := 7) (oi := { dst := some 38, op := Op.unOp UnOp.not 4 (Operand.tmp 37), type := 4, pos := "law.go:124", after := #[{ on := 6, ground := Ground.data }, { on := 2, ground := Ground.guard }], guard := some (2, false) }) (v := ?_) rfl (by kernel_rfl) (by kernel_rfl) (by kernel_rfl) (fun _ _ _ h => h) (Or.inl ⟨by rfl, ?_⟩) (by assumption) ?_
    rotate_left 1
    · intro w hSw
      try dsimp only at hSw
      go_simp
      all_goals with_reducible rfl
    try simp only [Act.put, List.setIfInBounds_toArray, List.set_cons_zero, List.set_cons_succ]
    refine wpAnyH_take (i := 8) (oi := { dst := some 39, op := Op.pick (Operand.tmp 33) (Operand.const (Value.bool true)) (Operand.tmp 38), type := 4, pos := "law.go:124", after := #[{ on := 2, ground := Ground.data }, { on := 7, ground := Ground.data }], guard := none }) (v := ?_) rfl (by kernel_rfl) (by kernel_rfl) (by kernel_rfl) (fun _ _ _ h => h) (Or.inl ⟨by rfl, ?_⟩) (by assumption) ?_
    rotate_left 1
    · intro w hSw
      try dsimp only at hSw
      go_simp
      all_goals with_reducible rfl
    try simp only [Act.put, List.setIfInBounds_toArray, List.set_cons_zero, List.set_cons_succ]
    refine wpAnyH_take (i := 9) (oi := { dst := some 40, op := Op.move (Operand.tmp 39), type := 4, pos := "law.go:124", after := #[{ on := 8, ground := Ground.data }, { on := 6, ground := Ground.chain }], guard := none }) (v := ?_) rfl (by kernel_rfl) (by kernel_rfl) (by kernel_rfl) (fun _ _ _ h => h) (Or.inl ⟨by rfl, ?_⟩) (by assumption) ?_
    rotate_left 1
    · intro w hSw
      try dsimp only at hSw
      go_simp
      all_goals with_reducible rfl
    try simp only [Act.put, List.setIfInBounds_toArray, List.set_cons_zero, List.set_cons_succ]
    refine wpAnyH_take (i := 10) (oi := { dst := some 41, op := Op.move (Operand.tmp 11), type := 4, pos := "law.go:124", after := #[{ on := 9, ground := Ground.guard }], guard := some (9, false) }) (v := ?_) rfl (by kernel_rfl) (by kernel_rfl) (by kernel_rfl) (fun _ _ _ h => h) (Or.inl ⟨by rfl, ?_⟩) (by assumption) ?_
    rotate_left 1
    · intro w hSw
      try dsimp only at hSw
      go_simp
      all_goals with_reducible rfl
    try simp only [Act.put, List.setIfInBounds_toArray, List.set_cons_zero, List.set_cons_succ]
    refine wpAnyH_take (i := 11) (oi := { dst := some 42, op := Op.move (Operand.tmp 2), type := 3, pos := "law.go:124", after := #[{ on := 9, ground := Ground.guard }], guard := some (9, false) }) (v := ?_) rfl (by kernel_rfl) (by kernel_rfl) (by kernel_rfl) (fun _ _ _ h => h) (Or.inl ⟨by rfl, ?_⟩) (by assumption) ?_
    rotate_left 1
    · intro w hSw
      try dsimp only at hSw
      go_simp
      all_goals with_reducible rfl
    try simp only [Act.put, List.setIfInBounds_toArray, List.set_cons_zero, List.set_cons_succ]
    refine wpAnyH_take (i := 12) (oi := { dst := some 43, op := Op.binOp BinOp.geq 3 (Operand.tmp 42) (Operand.const (Value.int IntKind.i64 (-9223372036854775807))) 3, type := 4, pos := "law.go:124", after := #[{ on := 11, ground := Ground.data }, { on := 9, ground := Ground.guard }], guard := some (9, false) }) (v := ?_) rfl (by kernel_rfl) (by kernel_rfl) (by kernel_rfl) (fun _ _ _ h => h) (Or.inl ⟨by rfl, ?_⟩) (by assumption) ?_
    rotate_left 1
    · intro w hSw
      try dsimp only at hSw
      go_simp
      all_goals with_reducible rfl
    try simp only [Act.put, List.setIfInBounds_toArray, List.set_cons_zero, List.set_cons_succ]
    refine wpAnyH_take (i := 13) (oi := { dst := some 44, op := Op.binOp BinOp.neq 4 (Operand.tmp 41) (Operand.tmp 43) 4, type := 4, pos := "law.go:124", after := #[{ on := 10, ground := Ground.data }, { on := 12, ground := Ground.data }, { on := 9, ground := Ground.guard }], guard := some (9, false) }) (v := ?_) rfl (by kernel_rfl) (by kernel_rfl) (by kernel_rfl) (fun _ _ _ h => h) (Or.inl ⟨by rfl, ?_⟩) (by assumption) ?_
    rotate_left 1
    · intro w hSw
      try dsimp only at hSw
      go_simp
      all_goals with_reducible rfl
    try simp only [Act.put, List.setIfInBounds_toArray, List.set_cons_zero, List.set_cons_succ]
    refine wpAnyH_take (i := 14) (oi := { dst := some 45, op := Op.pick (Operand.tmp 40) (Operand.const (Value.bool true)) (Operand.tmp 44), type := 4, pos := "law.go:124", after := #[{ on := 9, ground := Ground.data }, { on := 13, ground := Ground.data }], guard := none }) (v := ?_) rfl (by kernel_rfl) (by kernel_rfl) (by kernel_rfl) (fun _ _ _ h => h) (Or.inl ⟨by rfl, ?_⟩) (by assumption) ?_
    rotate_left 1
    · intro w hSw
      try dsimp only at hSw
      go_simp
      all_goals with_reducible rfl
    try simp only [Act.put, List.setIfInBounds_toArray, List.set_cons_zero, List.set_cons_succ]
    refine wpAnyH_take (i := 15) (oi := { dst := some 46, op := Op.move (Operand.tmp 45), type := 4, pos := "law.go:124", after := #[{ on := 14, ground := Ground.data }, { on := 9, ground := Ground.chain }], guard := none }) (v := ?_) rfl (by kernel_rfl) (by kernel_rfl) (by kernel_rfl) (fun _ _ _ h => h) (Or.inl ⟨by rfl, ?_⟩) (by assumption) ?_
    rotate_left 1
    · intro w hSw
      try dsimp only at hSw
      go_simp
      all_goals with_reducible rfl
    try simp only [Act.put, List.setIfInBounds_toArray, List.set_cons_zero, List.set_cons_succ]
    refine wpAnyH_take (i := 16) (oi := { dst := some 47, op := Op.move (Operand.tmp 11), type := 4, pos := "law.go:124", after := #[{ on := 15, ground := Ground.guard }], guard := some (15, false) }) (v := ?_) rfl (by kernel_rfl) (by kernel_rfl) (by kernel_rfl) (fun _ _ _ h => h) (Or.inl ⟨by rfl, ?_⟩) (by assumption) ?_
    rotate_left 1
    · intro w hSw
      try dsimp only at hSw
      go_simp
      all_goals with_reducible rfl
    try simp only [Act.put, List.setIfInBounds_toArray, List.set_cons_zero, List.set_cons_succ]
    refine wpAnyH_take (i := 17) (oi := { dst := some 48, op := Op.move (Operand.tmp 47), type := 4, pos := "law.go:124", after := #[{ on := 16, ground := Ground.data }, { on := 15, ground := Ground.chain }, { on := 15, ground := Ground.guard }], guard := some (15, false) }) (v := ?_) rfl (by kernel_rfl) (by kernel_rfl) (by kernel_rfl) (fun _ _ _ h => h) (Or.inl ⟨by rfl, ?_⟩) (by assumption) ?_
    rotate_left 1
    · intro w hSw
      try dsimp only at hSw
      go_simp
      all_goals with_reducible rfl
    try simp only [Act.put, List.setIfInBounds_toArray, List.set_cons_zero, List.set_cons_succ]
    refine wpAnyH_take (i := 18) (oi := { dst := some 49, op := Op.move (Operand.tmp 10), type := 3, pos := "law.go:124", after := #[{ on := 17, ground := Ground.guard }], guard := some (17, true) }) (v := undef) rfl (by kernel_rfl) (by kernel_rfl) (by kernel_rfl) (fun _ _ _ h => h) (Or.inr ⟨by rfl, rfl⟩) (by assumption) ?_
    try simp only [Act.put, List.setIfInBounds_toArray, List.set_cons_zero, List.set_cons_succ]
    refine wpAnyH_take (i := 19) (oi := { dst := some 50, op := Op.move (Operand.tmp 2), type := 3, pos := "law.go:124", after := #[{ on := 17, ground := Ground.guard }], guard := some (17, true) }) (v := undef) rfl (by kernel_rfl) (by kernel_rfl) (by kernel_rfl) (fun _ _ _ h => h) (Or.inr ⟨by rfl, rfl⟩) (by assumption) ?_
    try simp only [Act.put, List.setIfInBounds_toArray, List.set_cons_zero, List.set_cons_succ]
    refine wpAnyH_take (i := 20) (oi := { dst := some 51, op := Op.binOp BinOp.neq 3 (Operand.tmp 49) (Operand.tmp 50) 3, type := 4, pos := "law.go:124", after := #[{ on := 18, ground := Ground.data }, { on := 19, ground := Ground.data }, { on := 17, ground := Ground.guard }], guard := some (17, true) }) (v := undef) rfl (by kernel_rfl) (by kernel_rfl) (by kernel_rfl) (fun _ _ _ h => h) (Or.inr ⟨by rfl, rfl⟩) (by assumption) ?_
    try simp only [Act.put, List.setIfInBounds_toArray, List.set_cons_zero, List.set_cons_succ]
    refine wpAnyH_take (i := 21) (oi := { dst := some 52, op := Op.pick (Operand.tmp 48) (Operand.tmp 51) (Operand.const (Value.bool false)), type := 4, pos := "law.go:124", after := #[{ on := 17, ground := Ground.data }, { on := 20, ground := Ground.data }, { on := 15, ground := Ground.guard }], guard := some (15, false) }) (v := ?_) rfl (by kernel_rfl) (by kernel_rfl) (by kernel_rfl) (fun _ _ _ h => h) (Or.inl ⟨by rfl, ?_⟩) (by assumption) ?_
    rotate_left 1
    · intro w hSw
      try dsimp only at hSw
      go_simp
      all_goals with_reducible rfl
    try simp only [Act.put, List.setIfInBounds_toArray, List.set_cons_zero, List.set_cons_succ]
    refine wpAnyH_take (i := 22) (oi := { dst := some 53, op := Op.pick (Operand.tmp 46) (Operand.const (Value.bool true)) (Operand.tmp 52), type := 4, pos := "law.go:124", after := #[{ on := 15, ground := Ground.data }, { on := 21, ground := Ground.data }], guard := none }) (v := ?_) rfl (by kernel_rfl) (by kernel_rfl) (by kernel_rfl) (fun _ _ _ h => h) (Or.inl ⟨by rfl, ?_⟩) (by assumption) ?_
    rotate_left 1
    · intro w hSw
      try dsimp only at hSw
      go_simp
      all_goals with_reducible rfl
    try simp only [Act.put, List.setIfInBounds_toArray, List.set_cons_zero, List.set_cons_succ]
    refine wpAnyH_done (by kernel_rfl) ?_ _
    clear hHeld hHeld5
    have hHeld7 := hHeld6
    clear hHeld6
    clear hHeld7
    have HX := hid (And.intro (step_below HBel.out hbn2.out) (SeesZ.below HA.out hbn2.out))
    clear HBel HA HB XA XB XAc0 XAc1 XAf0 XAf1 XBc0 XBc1 XBf0 XBf1 xc0 xc1 yc0 yc1 xd0 xd1 yd0 yd1 hbn hbn2 HPL HD HNB HZE
    try clear HHi
    by_cases hs : 600 < t.size
    · go_wp2
      go_ret
      exact ⟨rfl, HX.out.1⟩
    · have HP := hid (fun w => whole_parse t w ht)
      have HSZ := hid hs
      go_wp2_with fail
      refine (HP.out _).mono ?_
      rintro e w7 ⟨vc, rfl, hz, hb⟩
      have HB7 := hid (step_below HX.out.1 hb)
      clear HX HP hb
      obtain ⟨E, hE⟩ : ∃ E, errZ t = E := ⟨_, rfl⟩
      rw [hE]
      have HEE := hid hE
      clear hE
      obtain ⟨co, cc, rfl⟩ := hz.form
      obtain ⟨yC, gC, hyC, bC, eC, xC⟩ := one_box w7 (.bool (zneg (valZ t))) (.slice co (zlim (valZ t)).length cc) 34
      have HYC := hid hyC.symm; have EC := hid eC.symm; have XC := hid xC; have HBC := hid (step_below HB7.out bC); have HZC := hid (hz.below bC)
      clear hyC eC xC hz bC HB7
      by_cases hE0 : E = 0
      · subst hE0
        have HTX : Hid (textZ (zval (zneg (valZ t)) (zlim (valZ t))) = t) := hid (by rw [zval_plain]; exact text_parse t HEE.out)
        have HLN : Hid ((zlim (valZ t)).length ≤ 1000) := hid (by have := valZ_len t; have h := HSZ.out; omega)
        clear HEE HSZ hs
        go_wp2_with fail
        rw [HYC.out, EC.out]
        clear HYC EC
        refine (whole_text HZC.out.sees HLN.out).mono ?_
        rintro e wx ⟨rfl, hb⟩
        rw [HTX.out]
        have HBD := hid (step_below HBC.out hb)
        clear hb HBC
        go_wp2
        go_ret
        exact ⟨by simp, HBD.out⟩
      · have HV0 : Hid (zneg (valZ t) = false ∧ zlim (valZ t) = []) := hid (by rw [valZ_err t (by rw [HEE.out]; exact hE0)]; exact ⟨rfl, rfl⟩)
        have hE1 : ¬ ((E : Nat) : Int) = 0 := by omega
        clear HEE HSZ hs
        go_wp2_with fail
        rw [HYC.out, EC.out]
        clear HYC EC
        refine (law_sameZ (n := zneg (valZ t)) (l := zlim (valZ t)) HZC.out.sees (by rw [HV0.out.1, HV0.out.2]; exact (zero_isZ _).sees)).mono ?_
        rintro e wx ⟨rfl, hb⟩
        have HBD := hid (step_below HBC.out hb)
        clear hb HBC
        go_wp2
        go_ret
        exact ⟨by simp, HBD.out⟩
  · have hd : decide (-9223372036854775807 ≤ i) = true := HSB.out.symm
    have HSI := hid (HSV.out rfl)
    clear HSV HSB HSL
    go_wp2
    have hi : (-9223372036854775807 ≤ i) = True := by simpa using hd
    obtain rfl : sm = i := HSI.out
    clear hd HSI
    have HD := hid ((Below.refl w6.heap.size w6).drew)
    first | go_region_held3 (fun w' => w'.cell? ⟨gA, 0, none⟩ = some (.bool n) ∧ w'.cell? ⟨gA, 1, none⟩ = some (.slice bA pA.length dA) ∧ w'.cell? ⟨gB, 0, none⟩ = some (.bool nb) ∧ w'.cell? ⟨gB, 1, none⟩ = some (.slice ao lb.length ca) ∧ Hid (Below w6.heap.size w6 w')) (exact ⟨by assumption, by assumption, by assumption, by assumption, by assumption⟩) (first
      | (go_at_call 27
         refine (whole_plain (by exact SeesZ.below HA.out (Hid.out (by assumption))) (by omega)).mono ?_
         rintro e wx ⟨vp, rfl, hz, hb⟩
         have hbn := hid (step_below (w := w6) (Hid.out (by assumption)) hb)
         obtain ⟨xc0, xc1, -, -⟩ := (XA.out.below hbn.out).cells
         obtain ⟨yc0, yc1, -, -⟩ := (XB.out.below hbn.out).cells
         have HPL := hid hz
         clear hz hb)
      | (go_at_call 26
         refine (law_sameZ (n := nb) (l := lb) (by exact SeesZ.below HB.out (Hid.out (by assumption))) (by have h := HPL.out; rw [HZE.out] at h; have h2 : SeesZ _ _ (zneg Z) (zlim Z) := h; rw [HNB.out.1, HNB.out.2] at h2; exact h2)).mono ?_
         rintro e wx2 ⟨rfl, hb⟩
         have hbn2 := hid (step_below (w := w6) (Hid.out (by assumption)) hb)
         obtain ⟨xd0, xd1, -, -⟩ := (XA.out.below hbn2.out).cells
         obtain ⟨yd0, yd1, -, -⟩ := (XB.out.below hbn2.out).cells
         clear hb)) | fail
    rename_i hHd
    clear hHd
    have HX := hid (And.intro (step_below HBel.out hbn2.out) (SeesZ.below HA.out hbn2.out))
    clear HBel HA HB XA XB XAc0 XAc1 XAf0 XAf1 XBc0 XBc1 XBf0 XBf1 xc0 xc1 yc0 yc1 xd0 xd1 yd0 yd1 hbn hbn2 HPL HD HNB HZE
    try clear HHi
    by_cases hs : 600 < t.size
    · go_wp2
      go_ret
      exact ⟨rfl, HX.out.1⟩
    · have HP := hid (fun w => whole_parse t w ht)
      have HSZ := hid hs
      go_wp2_with fail
      refine (HP.out _).mono ?_
      rintro e w7 ⟨vc, rfl, hz, hb⟩
      have HB7 := hid (step_below HX.out.1 hb)
      clear HX HP hb
      obtain ⟨E, hE⟩ : ∃ E, errZ t = E := ⟨_, rfl⟩
      rw [hE]
      have HEE := hid hE
      clear hE
      obtain ⟨co, cc, rfl⟩ := hz.form
      obtain ⟨yC, gC, hyC, bC, eC, xC⟩ := one_box w7 (.bool (zneg (valZ t))) (.slice co (zlim (valZ t)).length cc) 34
      have HYC := hid hyC.symm; have EC := hid eC.symm; have XC := hid xC; have HBC := hid (step_below HB7.out bC); have HZC := hid (hz.below bC)
      clear hyC eC xC hz bC HB7
      by_cases hE0 : E = 0
      · subst hE0
        have HTX : Hid (textZ (zval (zneg (valZ t)) (zlim (valZ t))) = t) := hid (by rw [zval_plain]; exact text_parse t HEE.out)
        have HLN : Hid ((zlim (valZ t)).length ≤ 1000) := hid (by have := valZ_len t; have h := HSZ.out; omega)
        clear HEE HSZ hs
        go_wp2_with fail
        rw [HYC.out, EC.out]
        clear HYC EC
        refine (whole_text HZC.out.sees HLN.out).mono ?_
        rintro e wx ⟨rfl, hb⟩
        rw [HTX.out]
        have HBD := hid (step_below HBC.out hb)
        clear hb HBC
        go_wp2
        go_ret
        exact ⟨by simp, HBD.out⟩
      · have HV0 : Hid (zneg (valZ t) = false ∧ zlim (valZ t) = []) := hid (by rw [valZ_err t (by rw [HEE.out]; exact hE0)]; exact ⟨rfl, rfl⟩)
        have hE1 : ¬ ((E : Nat) : Int) = 0 := by omega
        clear HEE HSZ hs
        go_wp2_with fail
        rw [HYC.out, EC.out]
        clear HYC EC
        refine (law_sameZ (n := zneg (valZ t)) (l := zlim (valZ t)) HZC.out.sees (by rw [HV0.out.1, HV0.out.2]; exact (zero_isZ _).sees)).mono ?_
        rintro e wx ⟨rfl, hb⟩
        have HBD := hid (step_below HBC.out hb)
        clear hb HBC
        go_wp2
        go_ret
        exact ⟨by simp, HBD.out⟩

/-! ### The row's step and the card -/
set_option maxRecDepth 100000 in
theorem contract (H : Type) (enc : TypeId × Value → H) (W : World) (base : Nat) (args : Array Value) (ds gs : List (DataW H)) (before : List MemPlace)
    (hval0 : ∀ (j : Nat) t v, Tryd.f12.params[j]? = some t → args[j]? = some v → Value.okWide Tryd.prog W .any base t v)
    (hW : DataW.Whole enc Tryd.prog Tryd.f12.params.toList Rows.wholeBackSpec.vars false W args.toList ds gs before)
    (hsz0 : (DataW.weightsEach Tryd.prog (Tryd.f12.params.toList ++ Rows.wholeBackSpec.plain.varTypes Tryd.prog) (ds ++ gs)).all (· ≤ reachBytes) = true) :
    Calls Tryd.prog 12 args W fun e W' => ∃ v, e = .returned v ∧ Rows.wholeBackSpec.post enc Tryd.prog Tryd.f12 false true false false W args v W' := by
  have hW' := hW
  obtain ⟨p, q, hA0, hV, rfl, hfz, hnd⟩ := hW
  have hA : DataW.TrodAll enc Tryd.prog W 0 (fun _ => true) true Tryd.f12.params.toList args.toList ds p := hA0
  have hval : ∀ (j : Nat) t v, Tryd.f12.params[j]? = some t → args[j]? = some v → Value.okWide Tryd.prog W .any base t v := hval0
  have hsz : (DataW.weightsEach Tryd.prog (Tryd.f12.params.toList ++ []) (ds ++ gs)).all (· ≤ reachBytes) = true := hsz0
  rw [Tryd.params12] at hA hval hsz
  obtain ⟨v0, vs0, d0, ds0, p0, q0, hargs, rfl, rfl, h0, r0⟩ := trodAll_cons hA
  obtain ⟨v1, vs1, d1, ds1, p1, q1, rfl, rfl, rfl, h1, r1⟩ := trodAll_cons r0
  obtain ⟨v2, vs2, d2, ds2, p2, q2, rfl, rfl, rfl, h2, r2⟩ := trodAll_cons r1
  obtain ⟨rfl, rfl, rfl⟩ := trodAll_nil r2
  obtain rfl : args = #[v0, v1, v2] := by cases args; simp_all
  obtain ⟨rfl, rfl⟩ := trodVars_none hV
  obtain ⟨g0, l0, s0, b0⟩ := open_z (hval 0 34 v0 rfl rfl) h0 (fun parts e => by subst e; exact sized_part hsz (j := 0) (t := 34) rfl rfl)
  have k1 := h1
  have z1 := fun bytes e => sized_string hsz (j := 1) (t := 9) (bytes := bytes) rfl e
  obtain ⟨t1, rfl, rfl, rfl, wt1⟩ := Go.ChangeMaps.open_string Tryd.underlying9 (hval 1 9 v1 rfl rfl) h1
  have k2 := h2
  obtain ⟨n2, rfl, rfl, rfl, wn2⟩ := open_int Tryd.underlying3 (hval 2 3 v2 rfl rfl) h2
  refine (walk s0 b0 t1 (by have h := z1 _ rfl; have e : t1.data.toList.length = t1.size := by {cases t1; rfl}; rw [e] at h; exact Nat.le_trans h (by decide)) n2 wn2).mono fun e W' ⟨he, hb⟩ => ?_
  subst he
  exact ⟨_, rfl, _, _, _, _, _, _, hW', trodAll_cons_mk (shut_bool Tryd.underlying4 _) trodAll_mk0, trodAll_cons_mk (Below.trod laidOut (by kernel_rfl) (of_decide_eq_true (by kernel_rfl)) h0 hb (fun x hx => by first | cases hx; done | (have := hW'.lt x (by simp [hx]); simpa using this))) (trodAll_cons_mk (Below.trod laidOut (by kernel_rfl) (of_decide_eq_true (by kernel_rfl)) k1 hb (fun x hx => by first | cases hx; done | (have := hW'.lt x (by simp [hx]); simpa using this))) (trodAll_cons_mk (Below.trod laidOut (by kernel_rfl) (of_decide_eq_true (by kernel_rfl)) k2 hb (fun x hx => by first | cases hx; done | (have := hW'.lt x (by simp [hx]); simpa using this))) (trodAll_mk0))), rfl, hb.frame _, fun h => by cases h⟩

set_option maxRecDepth 100000 in
theorem lifted (os : Os) (started : os.Started) (H : Type) (enc : TypeId × Value → H) :
    ReturnsInHanded {} Tryd.checked os 12 .any (fun w args => (Rows.wholeBackSpec.pre enc Tryd.prog Tryd.f12 [] false w args ∧ laidMetH Tryd.prog laidList w) ∧ sizedMet enc Tryd.prog Tryd.f12 (OpenSpec.ofChange Rows.wholeBackSpec) false w args)
      (Rows.wholeBackSpec.post enc Tryd.prog Tryd.f12 false true false false) := by
  refine returnsInHanded_of_change_and (C := Tryd.checked) (X := fun w _ => laidMetH Tryd.prog laidList w) (fun _ _ _ hh h => h.of_heap hh) own started (by kernel_rfl) Tryd.func12
    (ChangeSpec.witness_shaped (enc := enc) (C := Tryd.checked) (os := os) (X := fun w _ => laidMetH Tryd.prog laidList w) false (World.laidAll Tryd.prog os laidList) #[.agg #[.bool false, .slice none 0 0], .string .empty, .int .i64 0] 8 (World.laidAll_os _ _ _)
      (World.shaped_of_ZipB (by kernel_rfl) (by kernel_rfl)) (by kernel_rfl) (by kernel_rfl) (by kernel_rfl) (laid_met os _)) ?_
  intro W base args ds gs before hval0 hW _ hsz _ _
  exact contract H enc W base args ds gs before hval0 hW hsz

theorem said : Rows.WholeBackSaid :=
  OpenClaim.holds_of_wide 12 Tryd.f12 rfl rfl rfl rfl rfl rfl rfl ⟨rfl, rfl, rfl, rfl, rfl⟩ rfl rfl rfl rfl rfl (by kernel_rfl) Tryd.func12 (by kernel_rfl)
    (of_decide_eq_true (by kernel_rfl)) (by unfold Func.isWrapper; first | (rw [if_pos (by decide +kernel)]; kernel_rfl) | (rw [if_neg (by decide +kernel)]; exact ⟨rfl, rfl⟩))
    (fun os started H enc _ => lifted os started H enc)

theorem plain (f : FuncId) (fn : Func) (hf : Tryd.pinned.checked.prog.funcNamed "primrose/primroselaw02.WholeBack" = some f) (hfn : Tryd.pinned.checked.prog.funcs[f]? = some fn) :
    false = Tryd.pinned.checked.prog.looks [] ∧ ∀ (j : Nat) t, fn.params[j]? = some t → Tryd.pinned.checked.prog.wantsStandIn t = false := by
  obtain rfl : f = 12 := Option.some.inj ((show Tryd.prog.funcNamed "primrose/primroselaw02.WholeBack" = some 12 by kernel_rfl).symm.trans hf) |>.symm
  obtain rfl : fn = Tryd.f12 := (Option.some.inj (Tryd.func12.symm.trans hfn)).symm
  refine ⟨by kernel_rfl, fun j t ht => ?_⟩
  rw [Tryd.params12] at ht
  have hm : t ∈ [34, 9, 3] := by simpa using Array.mem_of_getElem? ht
  have hall : ([34, 9, 3].all fun u => !Tryd.prog.wantsStandIn u) = true := by kernel_rfl
  exact (show Tryd.prog.wantsStandIn t = false by simpa using List.all_eq_true.1 hall t hm)

/-- THE CARD. -/
theorem card : Rows.WholeBackCardSaid :=
  Claim7.holds_tied_plain_at .later [] _ _ _ _ said (fun _ h => by cases h) (by kernel_rfl) (fun _ h => by cases h) wholeBack_row_tie rfl ⟨rfl, rfl⟩ (by kernel_rfl) rfl plain (by kernel_rfl)
end Go.Proofs.YtjnibefigglcjaaDoor.wholeBack
