/- split.newSplitter by its contract. -/
import Derived.Test.YtokdcgmjpnanoaaSqX

set_option linter.unusedVariables false
set_option linter.unusedSimpArgs false
namespace Go.Proofs.Ytokdcgmjpnanoaa
open Go.RowKit

theorem five_allocs (w : World) (o1 o2 o3 o4 o5 : Obj) : ∃ W, W = ((((w.alloc o1).alloc o2).alloc o3).alloc o4).alloc o5 ∧ W.heap[w.heap.size]? = some o1 ∧ W.heap[w.heap.size + 1]? = some o2 ∧ W.heap[w.heap.size + 1 + 1]? = some o3 ∧ W.heap[w.heap.size + 1 + 1 + 1]? = some o4 ∧ W.heap[w.heap.size + 1 + 1 + 1 + 1]? = some o5 ∧ Below w.heap.size w W := by
  refine ⟨_, rfl, ?_⟩
  have s1 : (w.alloc o1).heap.size = w.heap.size + 1 := by simp
  have s2 : ((w.alloc o1).alloc o2).heap.size = w.heap.size + 1 + 1 := by simp
  have s3 : (((w.alloc o1).alloc o2).alloc o3).heap.size = w.heap.size + 1 + 1 + 1 := by simp
  have s4 : ((((w.alloc o1).alloc o2).alloc o3).alloc o4).heap.size = w.heap.size + 1 + 1 + 1 + 1 := by simp
  have b (a : World) (o : Obj) (k : Nat) (x : Obj) (h : a.heap[k]? = some x) : (a.alloc o).heap[k]? = some x := by
    have hk := lt_of_block h
    exact (((Below.refl a.heap.size a).alloc (Nat.le_refl _) o).block k hk).trans h
  have e1 := Deep.blk_alloc_new w o1
  have e2 := Deep.blk_alloc_new (w.alloc o1) o2
  have e3 := Deep.blk_alloc_new ((w.alloc o1).alloc o2) o3
  have e4 := Deep.blk_alloc_new (((w.alloc o1).alloc o2).alloc o3) o4
  have e5 := Deep.blk_alloc_new ((((w.alloc o1).alloc o2).alloc o3).alloc o4) o5
  rw [s1] at e2; rw [s2] at e3; rw [s3] at e4; rw [s4] at e5
  exact ⟨b _ _ _ _ (b _ _ _ _ (b _ _ _ _ (b _ _ _ _ e1))), b _ _ _ _ (b _ _ _ _ (b _ _ _ _ e2)), b _ _ _ _ (b _ _ _ _ e3), b _ _ _ _ e4, e5,
    (((((Below.refl _ w).alloc (Nat.le_refl _) _).alloc (by omega) _).alloc (by omega) _).alloc (by omega) _).alloc (by omega) _⟩

set_option maxRecDepth 100000 in
set_option maxHeartbeats 2000000 in
theorem mod_newSplitter {vd : Value} {q : Nat} {d : List Int} {w : World} (hd : SeesI w vd d) :
    Calls Try.prog 16 #[.int .i64 q, vd] w fun e w' => ∃ bc bp bd bs, e = .returned (vSpl q bc bp bd bs) ∧ Spl q bc bp bd bs 0 w' ∧ Below w.heap.size w w' ∧ w.heap.size ≤ bc ∧ w.heap.size ≤ bs := by
  obtain ⟨ad, cd, rfl, -⟩ := SeesF.form hd
  obtain ⟨W, hW, h1, h2, h3, h4, h5, hb⟩ := five_allocs w (.cells #[.int .i64 q] 3 (0, 0)) (.cells #[.slice ad d.length cd] 22 (0, 0)) (.cells #[.int .i64 q, vNext (w.heap.size + 1 + 1 + 1) w.heap.size (w.heap.size + 1) (w.heap.size + 1 + 1 + 1 + 1)] 36 (0, 0)) (.cells #[.int .i64 0] 3 (0, 0)) (.cells #[.int .u64 0] 49 (0, 0))
  have hdW : SeesI W (.slice ad d.length cd) d := SeesI.below hd hb
  have HSp : Hid (Spl q (w.heap.size + 1 + 1 + 1) w.heap.size (w.heap.size + 1) (w.heap.size + 1 + 1 + 1 + 1) 0 W) := by
    refine ⟨h4, h1, ⟨_, d, h2, hdW, ?_⟩, ⟨0, by omega, by omega, h5⟩, by omega, by omega, by omega⟩
    rcases Nat.eq_zero_or_pos d.length with z | z
    · exact Or.inl (List.eq_nil_of_length_eq_zero z)
    · right
      obtain ⟨b, o, ha, hc⟩ := hd.at z
      have := World.block_lt_of_cell? w _ (hc 0 z)
      exact ⟨b, o, d.length, cd, by rw [ha], by simp at this; omega⟩
  have HB := hidP hb
  have HW := hidP hW
  have c0 : W.cell? ⟨w.heap.size + 1 + 1, 0, none⟩ = some (.int .i64 q) := by simp only [World.cell?, h3]; rfl
  have c1 : W.cell? ⟨w.heap.size + 1 + 1, 1, none⟩ = some (.func (.func 37) #[] #[.pointer (some ⟨w.heap.size + 1 + 1 + 1, 0, none⟩), .pointer (some ⟨w.heap.size, 0, none⟩), .pointer (some ⟨w.heap.size + 1, 0, none⟩), .pointer (some ⟨w.heap.size + 1 + 1 + 1 + 1, 0, none⟩)]) := by simp only [World.cell?, h3]; rfl
  clear hd hdW h1 h2 h3 h4 h5 hb hW
  go_enter Try.func16, Try.ntmps16
  go_wp2_with fail
  unfold vNext at HW
  rw [← HW.out]
  exact bodyPost_ret (v := vSpl q (w.heap.size + 1 + 1 + 1) w.heap.size (w.heap.size + 1) (w.heap.size + 1 + 1 + 1 + 1)) (by simp [results, Try.results16, go_sem, c0, c1, vSpl, vNext]) rfl ⟨_, _, _, _, rfl, HSp.out, HB.out, by omega, by omega⟩
end Go.Proofs.Ytokdcgmjpnanoaa
