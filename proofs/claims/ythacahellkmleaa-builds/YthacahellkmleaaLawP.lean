/- The contract of one step of a script, kind by kind, on either pair. -/
import Derived.Test.YthacahellkmleaaLaw
namespace Go.Proofs.Ythacahellkmleaa
open Go.RowKit

theorem tmod_two (x : Int) : -1 ≤ x.tmod 2 ∧ x.tmod 2 ≤ 1 := by
  by_cases h : 0 ≤ x
  · rw [Int.tmod_eq_emod_of_nonneg h]; omega
  · have e : x.tmod 2 = -((-x).tmod 2) := by rw [Int.neg_tmod]; omega
    rw [e, Int.tmod_eq_emod_of_nonneg (by omega)]; omega

set_option maxRecDepth 100000 in
set_option maxHeartbeats 2000000 in
theorem plain_leaf0 (w : World) (B wb : Nat) (t u : Tw) (h : Two w B t u) (hB : B ≤ w.heap.size) (c0 : w.cell? ⟨wb, 3, none⟩ = some (.pointer (some ⟨t.b, 0, none⟩))) (c1 : w.cell? ⟨wb, 4, none⟩ = some (.pointer (some ⟨t.r, 0, none⟩))) (hwb : wb < w.heap.size)
    (on op a b n p q : Int) (f1 f2 : Value) (hon : (on.tmod 2 != 0) = false) (p1 : -9223372036854775808 ≤ p) (p2 : p ≤ 9223372036854775807) (q1 : -9223372036854775808 ≤ q) (q2 : q ≤ 9223372036854775807) :
    Calls Try.prog 17 #[.pointer (some ⟨wb, 0, none⟩), .agg #[.int .i64 1, .int .i64 on, .int .i64 op, .int .i64 a, .int .i64 b, .int .i64 n, .int .i64 p, .int .i64 q, f1, f2]] w fun e w' => e = .returned (.bool true) ∧ PairPost w B t u (leafR t.cl t.ms p q).2.2 t.cl w' := by
  have HT := hide h
  obtain ⟨tb, tv, tr, trv, tms, tcl⟩ := t
  simp only at c0 c1
  have tm := tmod_two on
  clear h
  have HB : Hid (Below w.heap.size w ((w.alloc (.cells #[.int .i64 1, .int .i64 on, .int .i64 op, .int .i64 a, .int .i64 b, .int .i64 n, .int .i64 p, .int .i64 q, f1, f2] 57)).alloc (.cells #[.pointer (some ⟨tb, 0, none⟩), .pointer (some ⟨tr, 0, none⟩)] 50))) := ((Below.refl _ _).alloc (Nat.le_refl _) _).alloc (by simp) _
  have HO : Hid (((w.alloc (.cells #[.int .i64 1, .int .i64 on, .int .i64 op, .int .i64 a, .int .i64 b, .int .i64 n, .int .i64 p, .int .i64 q, f1, f2] 57)).alloc (.cells #[.pointer (some ⟨tb, 0, none⟩), .pointer (some ⟨tr, 0, none⟩)] 50)).heap[w.heap.size]? = some (.cells #[.int .i64 1, .int .i64 on, .int .i64 op, .int .i64 a, .int .i64 b, .int .i64 n, .int .i64 p, .int .i64 q, f1, f2] 57 (0, 0))) := by
    rw [Hid, Below.heap_alloc _ _ _ (by simp)]; exact heap_alloc_new w _
  have HU : Hid (((w.alloc (.cells #[.int .i64 1, .int .i64 on, .int .i64 op, .int .i64 a, .int .i64 b, .int .i64 n, .int .i64 p, .int .i64 q, f1, f2] 57)).alloc (.cells #[.pointer (some ⟨tb, 0, none⟩), .pointer (some ⟨tr, 0, none⟩)] 50)).heap[w.heap.size + 1]? = some (.cells #[.pointer (some ⟨tb, 0, none⟩), .pointer (some ⟨tr, 0, none⟩)] 50 (0, 0))) := new_at _ _ _ (by simp)
  go_enter Try.func17, Try.ntmps17
  go_wp2_with fail
  refine (leaf_any _ B tb tv tms tcl (HT.out.ok.g.below HB.out) (Nat.le_trans hB HB.out.size) p q p1 p2 q1 q2).mono ?_
  rintro e w1 hp
  have HP := hide hp
  obtain ⟨rfl, v', g', hM, hO'⟩ := hp
  have hK := (HT.out.ok.g.below HB.out).mut_keep hM [57, 50] (by simp) (by simp)
  have o1 : w1.heap[w.heap.size]? = some (.cells #[.int .i64 1, .int .i64 on, .int .i64 op, .int .i64 a, .int .i64 b, .int .i64 n, .int .i64 p, .int .i64 q, f1, f2] 57 (0, 0)) := by rw [hK _ _ _ (by simp) HO.out]; exact HO.out
  have u1 : w1.heap[w.heap.size + 1]? = some (.cells #[.pointer (some ⟨tb, 0, none⟩), .pointer (some ⟨tr, 0, none⟩)] 50 (0, 0)) := by rw [hK _ _ _ (by simp) HU.out]; exact HU.out
  have z2 : w1.cell? ⟨w.heap.size, 2, none⟩ = some (.int .i64 op) := by rw [cell_of_row w1 _ 2 _ _ _ o1]; rfl
  have z3 : w1.cell? ⟨w.heap.size, 3, none⟩ = some (.int .i64 a) := by rw [cell_of_row w1 _ 3 _ _ _ o1]; rfl
  have z4 : w1.cell? ⟨w.heap.size, 4, none⟩ = some (.int .i64 b) := by rw [cell_of_row w1 _ 4 _ _ _ o1]; rfl
  have z6 : w1.cell? ⟨w.heap.size, 6, none⟩ = some (.int .i64 p) := by rw [cell_of_row w1 _ 6 _ _ _ o1]; rfl
  have z7 : w1.cell? ⟨w.heap.size, 7, none⟩ = some (.int .i64 q) := by rw [cell_of_row w1 _ 7 _ _ _ o1]; rfl
  have y1 : w1.cell? ⟨w.heap.size + 1, 1, none⟩ = some (.pointer (some ⟨tr, 0, none⟩)) := by rw [cell_of_row w1 _ 1 _ _ _ u1]; rfl
  have hz1 : B ≤ w1.heap.size := Nat.le_trans (Nat.le_trans hB HB.out.size) hM.size
  have HR := hide (HT.out.mid HB.out HP.out)
  clear g' hM hO' hK o1 u1
  go_wp2_with fail
  refine (rleaf_any _ B tr trv tms tcl HR.out hz1 p q p1 p2 q1 q2).mono ?_
  rintro e w2 hr
  have HF := hide (HT.out.step hB HB.out HP.out hr)
  obtain ⟨rfl, _⟩ := hr
  clear HP HR HO HU
  go_wp2_with (go_at_call 38; refine (num_any _ _).mono ?_; rintro e w' ⟨rfl, rfl⟩)
  go_ret
  exact ⟨ret_bool (by simp), HF.out⟩

set_option maxRecDepth 100000 in
set_option maxHeartbeats 2000000 in
theorem plain_node0 (w : World) (B wb : Nat) (t u : Tw) (h : Two w B t u) (hB : B ≤ w.heap.size) (c0 : w.cell? ⟨wb, 3, none⟩ = some (.pointer (some ⟨t.b, 0, none⟩))) (c1 : w.cell? ⟨wb, 4, none⟩ = some (.pointer (some ⟨t.r, 0, none⟩))) (hwb : wb < w.heap.size)
    (on op a b n p q : Int) (f1 f2 : Value) (hon : (on.tmod 2 != 0) = false) :
    Calls Try.prog 17 #[.pointer (some ⟨wb, 0, none⟩), .agg #[.int .i64 2, .int .i64 on, .int .i64 op, .int .i64 a, .int .i64 b, .int .i64 n, .int .i64 p, .int .i64 q, f1, f2]] w fun e w' => e = .returned (.bool true) ∧ PairPost w B t u (nodeR t.cl t.ms op a b).2.2 t.cl w' := by
  have HT := hide h
  obtain ⟨tb, tv, tr, trv, tms, tcl⟩ := t
  simp only at c0 c1
  have tm := tmod_two on
  clear h
  have HB : Hid (Below w.heap.size w ((w.alloc (.cells #[.int .i64 2, .int .i64 on, .int .i64 op, .int .i64 a, .int .i64 b, .int .i64 n, .int .i64 p, .int .i64 q, f1, f2] 57)).alloc (.cells #[.pointer (some ⟨tb, 0, none⟩), .pointer (some ⟨tr, 0, none⟩)] 50))) := ((Below.refl _ _).alloc (Nat.le_refl _) _).alloc (by simp) _
  have HO : Hid (((w.alloc (.cells #[.int .i64 2, .int .i64 on, .int .i64 op, .int .i64 a, .int .i64 b, .int .i64 n, .int .i64 p, .int .i64 q, f1, f2] 57)).alloc (.cells #[.pointer (some ⟨tb, 0, none⟩), .pointer (some ⟨tr, 0, none⟩)] 50)).heap[w.heap.size]? = some (.cells #[.int .i64 2, .int .i64 on, .int .i64 op, .int .i64 a, .int .i64 b, .int .i64 n, .int .i64 p, .int .i64 q, f1, f2] 57 (0, 0))) := by
    rw [Hid, Below.heap_alloc _ _ _ (by simp)]; exact heap_alloc_new w _
  have HU : Hid (((w.alloc (.cells #[.int .i64 2, .int .i64 on, .int .i64 op, .int .i64 a, .int .i64 b, .int .i64 n, .int .i64 p, .int .i64 q, f1, f2] 57)).alloc (.cells #[.pointer (some ⟨tb, 0, none⟩), .pointer (some ⟨tr, 0, none⟩)] 50)).heap[w.heap.size + 1]? = some (.cells #[.pointer (some ⟨tb, 0, none⟩), .pointer (some ⟨tr, 0, none⟩)] 50 (0, 0))) := new_at _ _ _ (by simp)
  go_enter Try.func17, Try.ntmps17
  go_wp2_with fail
  refine (node_any _ B tb tv tms tcl (HT.out.ok.g.below HB.out) (Nat.le_trans hB HB.out.size) op a b).mono ?_
  rintro e w1 hp
  have HP := hide hp
  obtain ⟨rfl, v', g', hM, hO'⟩ := hp
  have hK := (HT.out.ok.g.below HB.out).mut_keep hM [57, 50] (by simp) (by simp)
  have o1 : w1.heap[w.heap.size]? = some (.cells #[.int .i64 2, .int .i64 on, .int .i64 op, .int .i64 a, .int .i64 b, .int .i64 n, .int .i64 p, .int .i64 q, f1, f2] 57 (0, 0)) := by rw [hK _ _ _ (by simp) HO.out]; exact HO.out
  have u1 : w1.heap[w.heap.size + 1]? = some (.cells #[.pointer (some ⟨tb, 0, none⟩), .pointer (some ⟨tr, 0, none⟩)] 50 (0, 0)) := by rw [hK _ _ _ (by simp) HU.out]; exact HU.out
  have z2 : w1.cell? ⟨w.heap.size, 2, none⟩ = some (.int .i64 op) := by rw [cell_of_row w1 _ 2 _ _ _ o1]; rfl
  have z3 : w1.cell? ⟨w.heap.size, 3, none⟩ = some (.int .i64 a) := by rw [cell_of_row w1 _ 3 _ _ _ o1]; rfl
  have z4 : w1.cell? ⟨w.heap.size, 4, none⟩ = some (.int .i64 b) := by rw [cell_of_row w1 _ 4 _ _ _ o1]; rfl
  have z6 : w1.cell? ⟨w.heap.size, 6, none⟩ = some (.int .i64 p) := by rw [cell_of_row w1 _ 6 _ _ _ o1]; rfl
  have z7 : w1.cell? ⟨w.heap.size, 7, none⟩ = some (.int .i64 q) := by rw [cell_of_row w1 _ 7 _ _ _ o1]; rfl
  have y1 : w1.cell? ⟨w.heap.size + 1, 1, none⟩ = some (.pointer (some ⟨tr, 0, none⟩)) := by rw [cell_of_row w1 _ 1 _ _ _ u1]; rfl
  have hz1 : B ≤ w1.heap.size := Nat.le_trans (Nat.le_trans hB HB.out.size) hM.size
  have HR := hide (HT.out.mid HB.out HP.out)
  clear g' hM hO' hK o1 u1
  go_wp2_with fail
  refine (rnode_any _ B tr trv tms tcl HR.out hz1 op a b).mono ?_
  rintro e w2 hr
  have HF := hide (HT.out.step hB HB.out HP.out hr)
  obtain ⟨rfl, _⟩ := hr
  clear HP HR HO HU
  go_wp2_with (go_at_call 38; refine (num_any _ _).mono ?_; rintro e w' ⟨rfl, rfl⟩)
  go_ret
  exact ⟨ret_bool (by simp), HF.out⟩

set_option maxRecDepth 100000 in
set_option maxHeartbeats 2000000 in
theorem plain_scale0 (w : World) (B wb : Nat) (t u : Tw) (h : Two w B t u) (hB : B ≤ w.heap.size) (c0 : w.cell? ⟨wb, 3, none⟩ = some (.pointer (some ⟨t.b, 0, none⟩))) (c1 : w.cell? ⟨wb, 4, none⟩ = some (.pointer (some ⟨t.r, 0, none⟩))) (hwb : wb < w.heap.size)
    (on op a b n p q : Int) (f1 f2 : Value) (hon : (on.tmod 2 != 0) = false) (p1 : -9223372036854775808 ≤ p) (p2 : p ≤ 9223372036854775807) (q1 : -9223372036854775808 ≤ q) (q2 : q ≤ 9223372036854775807) :
    Calls Try.prog 17 #[.pointer (some ⟨wb, 0, none⟩), .agg #[.int .i64 3, .int .i64 on, .int .i64 op, .int .i64 a, .int .i64 b, .int .i64 n, .int .i64 p, .int .i64 q, f1, f2]] w fun e w' => e = .returned (.bool true) ∧ PairPost w B t u (scaleR t.cl t.ms a p q).2.2 t.cl w' := by
  have HT := hide h
  obtain ⟨tb, tv, tr, trv, tms, tcl⟩ := t
  simp only at c0 c1
  have tm := tmod_two on
  clear h
  have HB : Hid (Below w.heap.size w ((w.alloc (.cells #[.int .i64 3, .int .i64 on, .int .i64 op, .int .i64 a, .int .i64 b, .int .i64 n, .int .i64 p, .int .i64 q, f1, f2] 57)).alloc (.cells #[.pointer (some ⟨tb, 0, none⟩), .pointer (some ⟨tr, 0, none⟩)] 50))) := ((Below.refl _ _).alloc (Nat.le_refl _) _).alloc (by simp) _
  have HO : Hid (((w.alloc (.cells #[.int .i64 3, .int .i64 on, .int .i64 op, .int .i64 a, .int .i64 b, .int .i64 n, .int .i64 p, .int .i64 q, f1, f2] 57)).alloc (.cells #[.pointer (some ⟨tb, 0, none⟩), .pointer (some ⟨tr, 0, none⟩)] 50)).heap[w.heap.size]? = some (.cells #[.int .i64 3, .int .i64 on, .int .i64 op, .int .i64 a, .int .i64 b, .int .i64 n, .int .i64 p, .int .i64 q, f1, f2] 57 (0, 0))) := by
    rw [Hid, Below.heap_alloc _ _ _ (by simp)]; exact heap_alloc_new w _
  have HU : Hid (((w.alloc (.cells #[.int .i64 3, .int .i64 on, .int .i64 op, .int .i64 a, .int .i64 b, .int .i64 n, .int .i64 p, .int .i64 q, f1, f2] 57)).alloc (.cells #[.pointer (some ⟨tb, 0, none⟩), .pointer (some ⟨tr, 0, none⟩)] 50)).heap[w.heap.size + 1]? = some (.cells #[.pointer (some ⟨tb, 0, none⟩), .pointer (some ⟨tr, 0, none⟩)] 50 (0, 0))) := new_at _ _ _ (by simp)
  go_enter Try.func17, Try.ntmps17
  go_wp2_with fail
  refine (scale_any _ B tb tv tms tcl (HT.out.ok.g.below HB.out) (Nat.le_trans hB HB.out.size) a p q p1 p2 q1 q2).mono ?_
  rintro e w1 hp
  have HP := hide hp
  obtain ⟨rfl, v', g', hM, hO'⟩ := hp
  have hK := (HT.out.ok.g.below HB.out).mut_keep hM [57, 50] (by simp) (by simp)
  have o1 : w1.heap[w.heap.size]? = some (.cells #[.int .i64 3, .int .i64 on, .int .i64 op, .int .i64 a, .int .i64 b, .int .i64 n, .int .i64 p, .int .i64 q, f1, f2] 57 (0, 0)) := by rw [hK _ _ _ (by simp) HO.out]; exact HO.out
  have u1 : w1.heap[w.heap.size + 1]? = some (.cells #[.pointer (some ⟨tb, 0, none⟩), .pointer (some ⟨tr, 0, none⟩)] 50 (0, 0)) := by rw [hK _ _ _ (by simp) HU.out]; exact HU.out
  have z2 : w1.cell? ⟨w.heap.size, 2, none⟩ = some (.int .i64 op) := by rw [cell_of_row w1 _ 2 _ _ _ o1]; rfl
  have z3 : w1.cell? ⟨w.heap.size, 3, none⟩ = some (.int .i64 a) := by rw [cell_of_row w1 _ 3 _ _ _ o1]; rfl
  have z4 : w1.cell? ⟨w.heap.size, 4, none⟩ = some (.int .i64 b) := by rw [cell_of_row w1 _ 4 _ _ _ o1]; rfl
  have z6 : w1.cell? ⟨w.heap.size, 6, none⟩ = some (.int .i64 p) := by rw [cell_of_row w1 _ 6 _ _ _ o1]; rfl
  have z7 : w1.cell? ⟨w.heap.size, 7, none⟩ = some (.int .i64 q) := by rw [cell_of_row w1 _ 7 _ _ _ o1]; rfl
  have y1 : w1.cell? ⟨w.heap.size + 1, 1, none⟩ = some (.pointer (some ⟨tr, 0, none⟩)) := by rw [cell_of_row w1 _ 1 _ _ _ u1]; rfl
  have hz1 : B ≤ w1.heap.size := Nat.le_trans (Nat.le_trans hB HB.out.size) hM.size
  have HR := hide (HT.out.mid HB.out HP.out)
  clear g' hM hO' hK o1 u1
  go_wp2_with fail
  refine (rscale_any _ B tr trv tms tcl HR.out hz1 a p q p1 p2 q1 q2).mono ?_
  rintro e w2 hr
  have HF := hide (HT.out.step hB HB.out HP.out hr)
  obtain ⟨rfl, _⟩ := hr
  clear HP HR HO HU
  go_wp2_with (go_at_call 38; refine (num_any _ _).mono ?_; rintro e w' ⟨rfl, rfl⟩)
  go_ret
  exact ⟨ret_bool (by simp), HF.out⟩

set_option maxRecDepth 100000 in
set_option maxHeartbeats 2000000 in
theorem plain_leaf1 (w : World) (B wb : Nat) (t u : Tw) (h : Two w B t u) (hB : B ≤ w.heap.size) (c0 : w.cell? ⟨wb, 5, none⟩ = some (.pointer (some ⟨t.b, 0, none⟩))) (c1 : w.cell? ⟨wb, 6, none⟩ = some (.pointer (some ⟨t.r, 0, none⟩))) (hwb : wb < w.heap.size)
    (on op a b n p q : Int) (f1 f2 : Value) (hon : (on.tmod 2 != 0) = true) (p1 : -9223372036854775808 ≤ p) (p2 : p ≤ 9223372036854775807) (q1 : -9223372036854775808 ≤ q) (q2 : q ≤ 9223372036854775807) :
    Calls Try.prog 17 #[.pointer (some ⟨wb, 0, none⟩), .agg #[.int .i64 1, .int .i64 on, .int .i64 op, .int .i64 a, .int .i64 b, .int .i64 n, .int .i64 p, .int .i64 q, f1, f2]] w fun e w' => e = .returned (.bool true) ∧ PairPost w B t u (leafR t.cl t.ms p q).2.2 t.cl w' := by
  have HT := hide h
  obtain ⟨tb, tv, tr, trv, tms, tcl⟩ := t
  simp only at c0 c1
  have tm := tmod_two on
  clear h
  have HB : Hid (Below w.heap.size w ((w.alloc (.cells #[.int .i64 1, .int .i64 on, .int .i64 op, .int .i64 a, .int .i64 b, .int .i64 n, .int .i64 p, .int .i64 q, f1, f2] 57)).alloc (.cells #[.pointer (some ⟨tb, 0, none⟩), .pointer (some ⟨tr, 0, none⟩)] 50))) := ((Below.refl _ _).alloc (Nat.le_refl _) _).alloc (by simp) _
  have HO : Hid (((w.alloc (.cells #[.int .i64 1, .int .i64 on, .int .i64 op, .int .i64 a, .int .i64 b, .int .i64 n, .int .i64 p, .int .i64 q, f1, f2] 57)).alloc (.cells #[.pointer (some ⟨tb, 0, none⟩), .pointer (some ⟨tr, 0, none⟩)] 50)).heap[w.heap.size]? = some (.cells #[.int .i64 1, .int .i64 on, .int .i64 op, .int .i64 a, .int .i64 b, .int .i64 n, .int .i64 p, .int .i64 q, f1, f2] 57 (0, 0))) := by
    rw [Hid, Below.heap_alloc _ _ _ (by simp)]; exact heap_alloc_new w _
  have HU : Hid (((w.alloc (.cells #[.int .i64 1, .int .i64 on, .int .i64 op, .int .i64 a, .int .i64 b, .int .i64 n, .int .i64 p, .int .i64 q, f1, f2] 57)).alloc (.cells #[.pointer (some ⟨tb, 0, none⟩), .pointer (some ⟨tr, 0, none⟩)] 50)).heap[w.heap.size + 1]? = some (.cells #[.pointer (some ⟨tb, 0, none⟩), .pointer (some ⟨tr, 0, none⟩)] 50 (0, 0))) := new_at _ _ _ (by simp)
  go_enter Try.func17, Try.ntmps17
  go_wp2_with fail
  refine (leaf_any _ B tb tv tms tcl (HT.out.ok.g.below HB.out) (Nat.le_trans hB HB.out.size) p q p1 p2 q1 q2).mono ?_
  rintro e w1 hp
  have HP := hide hp
  obtain ⟨rfl, v', g', hM, hO'⟩ := hp
  have hK := (HT.out.ok.g.below HB.out).mut_keep hM [57, 50] (by simp) (by simp)
  have o1 : w1.heap[w.heap.size]? = some (.cells #[.int .i64 1, .int .i64 on, .int .i64 op, .int .i64 a, .int .i64 b, .int .i64 n, .int .i64 p, .int .i64 q, f1, f2] 57 (0, 0)) := by rw [hK _ _ _ (by simp) HO.out]; exact HO.out
  have u1 : w1.heap[w.heap.size + 1]? = some (.cells #[.pointer (some ⟨tb, 0, none⟩), .pointer (some ⟨tr, 0, none⟩)] 50 (0, 0)) := by rw [hK _ _ _ (by simp) HU.out]; exact HU.out
  have z2 : w1.cell? ⟨w.heap.size, 2, none⟩ = some (.int .i64 op) := by rw [cell_of_row w1 _ 2 _ _ _ o1]; rfl
  have z3 : w1.cell? ⟨w.heap.size, 3, none⟩ = some (.int .i64 a) := by rw [cell_of_row w1 _ 3 _ _ _ o1]; rfl
  have z4 : w1.cell? ⟨w.heap.size, 4, none⟩ = some (.int .i64 b) := by rw [cell_of_row w1 _ 4 _ _ _ o1]; rfl
  have z6 : w1.cell? ⟨w.heap.size, 6, none⟩ = some (.int .i64 p) := by rw [cell_of_row w1 _ 6 _ _ _ o1]; rfl
  have z7 : w1.cell? ⟨w.heap.size, 7, none⟩ = some (.int .i64 q) := by rw [cell_of_row w1 _ 7 _ _ _ o1]; rfl
  have y1 : w1.cell? ⟨w.heap.size + 1, 1, none⟩ = some (.pointer (some ⟨tr, 0, none⟩)) := by rw [cell_of_row w1 _ 1 _ _ _ u1]; rfl
  have hz1 : B ≤ w1.heap.size := Nat.le_trans (Nat.le_trans hB HB.out.size) hM.size
  have HR := hide (HT.out.mid HB.out HP.out)
  clear g' hM hO' hK o1 u1
  go_wp2_with fail
  refine (rleaf_any _ B tr trv tms tcl HR.out hz1 p q p1 p2 q1 q2).mono ?_
  rintro e w2 hr
  have HF := hide (HT.out.step hB HB.out HP.out hr)
  obtain ⟨rfl, _⟩ := hr
  clear HP HR HO HU
  go_wp2_with (go_at_call 38; refine (num_any _ _).mono ?_; rintro e w' ⟨rfl, rfl⟩)
  go_ret
  exact ⟨ret_bool (by simp), HF.out⟩

set_option maxRecDepth 100000 in
set_option maxHeartbeats 2000000 in
theorem plain_node1 (w : World) (B wb : Nat) (t u : Tw) (h : Two w B t u) (hB : B ≤ w.heap.size) (c0 : w.cell? ⟨wb, 5, none⟩ = some (.pointer (some ⟨t.b, 0, none⟩))) (c1 : w.cell? ⟨wb, 6, none⟩ = some (.pointer (some ⟨t.r, 0, none⟩))) (hwb : wb < w.heap.size)
    (on op a b n p q : Int) (f1 f2 : Value) (hon : (on.tmod 2 != 0) = true) :
    Calls Try.prog 17 #[.pointer (some ⟨wb, 0, none⟩), .agg #[.int .i64 2, .int .i64 on, .int .i64 op, .int .i64 a, .int .i64 b, .int .i64 n, .int .i64 p, .int .i64 q, f1, f2]] w fun e w' => e = .returned (.bool true) ∧ PairPost w B t u (nodeR t.cl t.ms op a b).2.2 t.cl w' := by
  have HT := hide h
  obtain ⟨tb, tv, tr, trv, tms, tcl⟩ := t
  simp only at c0 c1
  have tm := tmod_two on
  clear h
  have HB : Hid (Below w.heap.size w ((w.alloc (.cells #[.int .i64 2, .int .i64 on, .int .i64 op, .int .i64 a, .int .i64 b, .int .i64 n, .int .i64 p, .int .i64 q, f1, f2] 57)).alloc (.cells #[.pointer (some ⟨tb, 0, none⟩), .pointer (some ⟨tr, 0, none⟩)] 50))) := ((Below.refl _ _).alloc (Nat.le_refl _) _).alloc (by simp) _
  have HO : Hid (((w.alloc (.cells #[.int .i64 2, .int .i64 on, .int .i64 op, .int .i64 a, .int .i64 b, .int .i64 n, .int .i64 p, .int .i64 q, f1, f2] 57)).alloc (.cells #[.pointer (some ⟨tb, 0, none⟩), .pointer (some ⟨tr, 0, none⟩)] 50)).heap[w.heap.size]? = some (.cells #[.int .i64 2, .int .i64 on, .int .i64 op, .int .i64 a, .int .i64 b, .int .i64 n, .int .i64 p, .int .i64 q, f1, f2] 57 (0, 0))) := by
    rw [Hid, Below.heap_alloc _ _ _ (by simp)]; exact heap_alloc_new w _
  have HU : Hid (((w.alloc (.cells #[.int .i64 2, .int .i64 on, .int .i64 op, .int .i64 a, .int .i64 b, .int .i64 n, .int .i64 p, .int .i64 q, f1, f2] 57)).alloc (.cells #[.pointer (some ⟨tb, 0, none⟩), .pointer (some ⟨tr, 0, none⟩)] 50)).heap[w.heap.size + 1]? = some (.cells #[.pointer (some ⟨tb, 0, none⟩), .pointer (some ⟨tr, 0, none⟩)] 50 (0, 0))) := new_at _ _ _ (by simp)
  go_enter Try.func17, Try.ntmps17
  go_wp2_with fail
  refine (node_any _ B tb tv tms tcl (HT.out.ok.g.below HB.out) (Nat.le_trans hB HB.out.size) op a b).mono ?_
  rintro e w1 hp
  have HP := hide hp
  obtain ⟨rfl, v', g', hM, hO'⟩ := hp
  have hK := (HT.out.ok.g.below HB.out).mut_keep hM [57, 50] (by simp) (by simp)
  have o1 : w1.heap[w.heap.size]? = some (.cells #[.int .i64 2, .int .i64 on, .int .i64 op, .int .i64 a, .int .i64 b, .int .i64 n, .int .i64 p, .int .i64 q, f1, f2] 57 (0, 0)) := by rw [hK _ _ _ (by simp) HO.out]; exact HO.out
  have u1 : w1.heap[w.heap.size + 1]? = some (.cells #[.pointer (some ⟨tb, 0, none⟩), .pointer (some ⟨tr, 0, none⟩)] 50 (0, 0)) := by rw [hK _ _ _ (by simp) HU.out]; exact HU.out
  have z2 : w1.cell? ⟨w.heap.size, 2, none⟩ = some (.int .i64 op) := by rw [cell_of_row w1 _ 2 _ _ _ o1]; rfl
  have z3 : w1.cell? ⟨w.heap.size, 3, none⟩ = some (.int .i64 a) := by rw [cell_of_row w1 _ 3 _ _ _ o1]; rfl
  have z4 : w1.cell? ⟨w.heap.size, 4, none⟩ = some (.int .i64 b) := by rw [cell_of_row w1 _ 4 _ _ _ o1]; rfl
  have z6 : w1.cell? ⟨w.heap.size, 6, none⟩ = some (.int .i64 p) := by rw [cell_of_row w1 _ 6 _ _ _ o1]; rfl
  have z7 : w1.cell? ⟨w.heap.size, 7, none⟩ = some (.int .i64 q) := by rw [cell_of_row w1 _ 7 _ _ _ o1]; rfl
  have y1 : w1.cell? ⟨w.heap.size + 1, 1, none⟩ = some (.pointer (some ⟨tr, 0, none⟩)) := by rw [cell_of_row w1 _ 1 _ _ _ u1]; rfl
  have hz1 : B ≤ w1.heap.size := Nat.le_trans (Nat.le_trans hB HB.out.size) hM.size
  have HR := hide (HT.out.mid HB.out HP.out)
  clear g' hM hO' hK o1 u1
  go_wp2_with fail
  refine (rnode_any _ B tr trv tms tcl HR.out hz1 op a b).mono ?_
  rintro e w2 hr
  have HF := hide (HT.out.step hB HB.out HP.out hr)
  obtain ⟨rfl, _⟩ := hr
  clear HP HR HO HU
  go_wp2_with (go_at_call 38; refine (num_any _ _).mono ?_; rintro e w' ⟨rfl, rfl⟩)
  go_ret
  exact ⟨ret_bool (by simp), HF.out⟩

set_option maxRecDepth 100000 in
set_option maxHeartbeats 2000000 in
theorem plain_scale1 (w : World) (B wb : Nat) (t u : Tw) (h : Two w B t u) (hB : B ≤ w.heap.size) (c0 : w.cell? ⟨wb, 5, none⟩ = some (.pointer (some ⟨t.b, 0, none⟩))) (c1 : w.cell? ⟨wb, 6, none⟩ = some (.pointer (some ⟨t.r, 0, none⟩))) (hwb : wb < w.heap.size)
    (on op a b n p q : Int) (f1 f2 : Value) (hon : (on.tmod 2 != 0) = true) (p1 : -9223372036854775808 ≤ p) (p2 : p ≤ 9223372036854775807) (q1 : -9223372036854775808 ≤ q) (q2 : q ≤ 9223372036854775807) :
    Calls Try.prog 17 #[.pointer (some ⟨wb, 0, none⟩), .agg #[.int .i64 3, .int .i64 on, .int .i64 op, .int .i64 a, .int .i64 b, .int .i64 n, .int .i64 p, .int .i64 q, f1, f2]] w fun e w' => e = .returned (.bool true) ∧ PairPost w B t u (scaleR t.cl t.ms a p q).2.2 t.cl w' := by
  have HT := hide h
  obtain ⟨tb, tv, tr, trv, tms, tcl⟩ := t
  simp only at c0 c1
  have tm := tmod_two on
  clear h
  have HB : Hid (Below w.heap.size w ((w.alloc (.cells #[.int .i64 3, .int .i64 on, .int .i64 op, .int .i64 a, .int .i64 b, .int .i64 n, .int .i64 p, .int .i64 q, f1, f2] 57)).alloc (.cells #[.pointer (some ⟨tb, 0, none⟩), .pointer (some ⟨tr, 0, none⟩)] 50))) := ((Below.refl _ _).alloc (Nat.le_refl _) _).alloc (by simp) _
  have HO : Hid (((w.alloc (.cells #[.int .i64 3, .int .i64 on, .int .i64 op, .int .i64 a, .int .i64 b, .int .i64 n, .int .i64 p, .int .i64 q, f1, f2] 57)).alloc (.cells #[.pointer (some ⟨tb, 0, none⟩), .pointer (some ⟨tr, 0, none⟩)] 50)).heap[w.heap.size]? = some (.cells #[.int .i64 3, .int .i64 on, .int .i64 op, .int .i64 a, .int .i64 b, .int .i64 n, .int .i64 p, .int .i64 q, f1, f2] 57 (0, 0))) := by
    rw [Hid, Below.heap_alloc _ _ _ (by simp)]; exact heap_alloc_new w _
  have HU : Hid (((w.alloc (.cells #[.int .i64 3, .int .i64 on, .int .i64 op, .int .i64 a, .int .i64 b, .int .i64 n, .int .i64 p, .int .i64 q, f1, f2] 57)).alloc (.cells #[.pointer (some ⟨tb, 0, none⟩), .pointer (some ⟨tr, 0, none⟩)] 50)).heap[w.heap.size + 1]? = some (.cells #[.pointer (some ⟨tb, 0, none⟩), .pointer (some ⟨tr, 0, none⟩)] 50 (0, 0))) := new_at _ _ _ (by simp)
  go_enter Try.func17, Try.ntmps17
  go_wp2_with fail
  refine (scale_any _ B tb tv tms tcl (HT.out.ok.g.below HB.out) (Nat.le_trans hB HB.out.size) a p q p1 p2 q1 q2).mono ?_
  rintro e w1 hp
  have HP := hide hp
  obtain ⟨rfl, v', g', hM, hO'⟩ := hp
  have hK := (HT.out.ok.g.below HB.out).mut_keep hM [57, 50] (by simp) (by simp)
  have o1 : w1.heap[w.heap.size]? = some (.cells #[.int .i64 3, .int .i64 on, .int .i64 op, .int .i64 a, .int .i64 b, .int .i64 n, .int .i64 p, .int .i64 q, f1, f2] 57 (0, 0)) := by rw [hK _ _ _ (by simp) HO.out]; exact HO.out
  have u1 : w1.heap[w.heap.size + 1]? = some (.cells #[.pointer (some ⟨tb, 0, none⟩), .pointer (some ⟨tr, 0, none⟩)] 50 (0, 0)) := by rw [hK _ _ _ (by simp) HU.out]; exact HU.out
  have z2 : w1.cell? ⟨w.heap.size, 2, none⟩ = some (.int .i64 op) := by rw [cell_of_row w1 _ 2 _ _ _ o1]; rfl
  have z3 : w1.cell? ⟨w.heap.size, 3, none⟩ = some (.int .i64 a) := by rw [cell_of_row w1 _ 3 _ _ _ o1]; rfl
  have z4 : w1.cell? ⟨w.heap.size, 4, none⟩ = some (.int .i64 b) := by rw [cell_of_row w1 _ 4 _ _ _ o1]; rfl
  have z6 : w1.cell? ⟨w.heap.size, 6, none⟩ = some (.int .i64 p) := by rw [cell_of_row w1 _ 6 _ _ _ o1]; rfl
  have z7 : w1.cell? ⟨w.heap.size, 7, none⟩ = some (.int .i64 q) := by rw [cell_of_row w1 _ 7 _ _ _ o1]; rfl
  have y1 : w1.cell? ⟨w.heap.size + 1, 1, none⟩ = some (.pointer (some ⟨tr, 0, none⟩)) := by rw [cell_of_row w1 _ 1 _ _ _ u1]; rfl
  have hz1 : B ≤ w1.heap.size := Nat.le_trans (Nat.le_trans hB HB.out.size) hM.size
  have HR := hide (HT.out.mid HB.out HP.out)
  clear g' hM hO' hK o1 u1
  go_wp2_with fail
  refine (rscale_any _ B tr trv tms tcl HR.out hz1 a p q p1 p2 q1 q2).mono ?_
  rintro e w2 hr
  have HF := hide (HT.out.step hB HB.out HP.out hr)
  obtain ⟨rfl, _⟩ := hr
  clear HP HR HO HU
  go_wp2_with (go_at_call 38; refine (num_any _ _).mono ?_; rintro e w' ⟨rfl, rfl⟩)
  go_ret
  exact ⟨ret_bool (by simp), HF.out⟩

set_option maxRecDepth 100000 in
set_option maxHeartbeats 2000000 in
theorem plain_len0 (w : World) (B wb : Nat) (t u : Tw) (h : Two w B t u) (hB : B ≤ w.heap.size) (c0 : w.cell? ⟨wb, 3, none⟩ = some (.pointer (some ⟨t.b, 0, none⟩))) (c1 : w.cell? ⟨wb, 4, none⟩ = some (.pointer (some ⟨t.r, 0, none⟩))) (hwb : wb < w.heap.size)
    (on op a b n p q : Int) (f1 f2 : Value) (hon : (on.tmod 2 != 0) = false) :
    Calls Try.prog 17 #[.pointer (some ⟨wb, 0, none⟩), .agg #[.int .i64 4, .int .i64 on, .int .i64 op, .int .i64 a, .int .i64 b, .int .i64 n, .int .i64 p, .int .i64 q, f1, f2]] w fun e w' => e = .returned (.bool true) ∧ PairPost w B t u t.ms t.cl w' := by
  have HT := hide h
  obtain ⟨tb, tv, tr, trv, tms, tcl⟩ := t
  simp only at c0 c1
  have tm := tmod_two on
  clear h
  have HB : Hid (Below w.heap.size w ((w.alloc (.cells #[.int .i64 4, .int .i64 on, .int .i64 op, .int .i64 a, .int .i64 b, .int .i64 n, .int .i64 p, .int .i64 q, f1, f2] 57)).alloc (.cells #[.pointer (some ⟨tb, 0, none⟩), .pointer (some ⟨tr, 0, none⟩)] 50))) := ((Below.refl _ _).alloc (Nat.le_refl _) _).alloc (by simp) _
  have hf := HT.out.ok.g.few
  simp only at hf
  go_enter Try.func17, Try.ntmps17
  go_wp2_with fail
  go_region_held3 (fun w' => w'.cell? ⟨w.heap.size + 1, 0, none⟩ = some (.pointer (some ⟨tb, 0, none⟩)) ∧ w'.cell? ⟨w.heap.size + 1, 1, none⟩ = some (.pointer (some ⟨tr, 0, none⟩)))
    (go_keep)
    (first | (go_at_call 8; refine (len_any _ B tb tv tms tcl (HT.out.ok.g.below HB.out).drew).mono ?_; rintro e w' ⟨rfl, rfl⟩) | (go_at_call 20; refine (rlen_any _ B tr trv tms tcl (HT.out.ok.rg.below (HB.out.drew))).mono ?_; rintro e w' ⟨rfl, rfl⟩))
  all_goals
    go_wp2
    go_ret
    exact ⟨ret_bool (by simp), HT.out.still hB HB.out.drew⟩

set_option maxRecDepth 100000 in
set_option maxHeartbeats 2000000 in
theorem plain_close0 (w : World) (B wb : Nat) (t u : Tw) (h : Two w B t u) (hB : B ≤ w.heap.size) (c0 : w.cell? ⟨wb, 3, none⟩ = some (.pointer (some ⟨t.b, 0, none⟩))) (c1 : w.cell? ⟨wb, 4, none⟩ = some (.pointer (some ⟨t.r, 0, none⟩))) (hwb : wb < w.heap.size)
    (on op a b n p q : Int) (f1 f2 : Value) (hon : (on.tmod 2 != 0) = false) :
    Calls Try.prog 17 #[.pointer (some ⟨wb, 0, none⟩), .agg #[.int .i64 5, .int .i64 on, .int .i64 op, .int .i64 a, .int .i64 b, .int .i64 n, .int .i64 p, .int .i64 q, f1, f2]] w fun e w' => e = .returned (.bool true) ∧ PairPost w B t u t.ms true w' := by
  have HT := hide h
  obtain ⟨tb, tv, tr, trv, tms, tcl⟩ := t
  simp only at c0 c1
  have tm := tmod_two on
  clear h
  have HB : Hid (Below w.heap.size w ((w.alloc (.cells #[.int .i64 5, .int .i64 on, .int .i64 op, .int .i64 a, .int .i64 b, .int .i64 n, .int .i64 p, .int .i64 q, f1, f2] 57)).alloc (.cells #[.pointer (some ⟨tb, 0, none⟩), .pointer (some ⟨tr, 0, none⟩)] 50))) := ((Below.refl _ _).alloc (Nat.le_refl _) _).alloc (by simp) _
  have HU : Hid (((w.alloc (.cells #[.int .i64 5, .int .i64 on, .int .i64 op, .int .i64 a, .int .i64 b, .int .i64 n, .int .i64 p, .int .i64 q, f1, f2] 57)).alloc (.cells #[.pointer (some ⟨tb, 0, none⟩), .pointer (some ⟨tr, 0, none⟩)] 50)).heap[w.heap.size + 1]? = some (.cells #[.pointer (some ⟨tb, 0, none⟩), .pointer (some ⟨tr, 0, none⟩)] 50 (0, 0))) := new_at _ _ _ (by simp)
  have HF := hide (HT.out.shut hB HB.out)
  have H0 := hide (HT.out.below HB.out)
  go_enter Try.func17, Try.ntmps17
  go_wp2_with fail
  refine (close_any _ B tb tv tms tcl H0.out.ok.g).mono ?_
  rintro e w1 ⟨rfl, rfl⟩
  have hM := (Mut.refl ((w.alloc (.cells #[.int .i64 5, .int .i64 on, .int .i64 op, .int .i64 a, .int .i64 b, .int .i64 n, .int .i64 p, .int .i64 q, f1, f2] 57)).alloc (.cells #[.pointer (some ⟨tb, 0, none⟩), .pointer (some ⟨tr, 0, none⟩)] 50)) tb tv.ownBlock).set 1 (.bool true)
  have hK := H0.out.ok.g.mut_keep hM [50, 77] (by simp) (by simp)
  have u1 := (hK _ _ _ (by simp) HU.out).trans HU.out
  have r1 := (hK _ _ _ (by simp) H0.out.ok.rg.cells).trans H0.out.ok.rg.cells
  have y1 := (cell_of_row _ _ 1 _ _ _ u1)
  have s1 := (cell_of_row _ _ 1 _ _ _ r1)
  have s2 : (((w.alloc (.cells #[.int .i64 5, .int .i64 on, .int .i64 op, .int .i64 a, .int .i64 b, .int .i64 n, .int .i64 p, .int .i64 q, f1, f2] 57)).alloc (.cells #[.pointer (some ⟨tb, 0, none⟩), .pointer (some ⟨tr, 0, none⟩)] 50)).setCell ⟨tb, 1, none⟩ (.bool true)).frozen? ⟨tr, 1, none⟩ = false := by simp only [World.frozen?, r1]; simp
  simp only [List.getElem?_toArray, List.getElem?_cons_succ, List.getElem?_cons_zero] at y1 s1
  clear hM hK u1 r1 H0 HU
  generalize ((w.alloc (.cells #[.int .i64 5, .int .i64 on, .int .i64 op, .int .i64 a, .int .i64 b, .int .i64 n, .int .i64 p, .int .i64 q, f1, f2] 57)).alloc (.cells #[.pointer (some ⟨tb, 0, none⟩), .pointer (some ⟨tr, 0, none⟩)] 50)) = w0 at *
  generalize hw1 : w0.setCell ⟨tb, 1, none⟩ (.bool true) = w1 at *
  clear hw1
  go_wp2
  go_ret
  exact ⟨rfl, HF.out⟩

set_option maxRecDepth 100000 in
set_option maxHeartbeats 2000000 in
theorem plain_other0 (w : World) (B wb : Nat) (t u : Tw) (h : Two w B t u) (hB : B ≤ w.heap.size) (c0 : w.cell? ⟨wb, 3, none⟩ = some (.pointer (some ⟨t.b, 0, none⟩))) (c1 : w.cell? ⟨wb, 4, none⟩ = some (.pointer (some ⟨t.r, 0, none⟩))) (hwb : wb < w.heap.size)
    (on op a b n p q : Int) (f1 f2 : Value) (hon : (on.tmod 2 != 0) = false) (kind : Int) (k1 : (kind == 1) = false) (k2 : (kind == 2) = false) (k3 : (kind == 3) = false) (k4 : (kind == 4) = false) (k5 : (kind == 5) = false) (k6 : (kind == 6) = false) (k7 : (kind == 7) = false) :
    Calls Try.prog 17 #[.pointer (some ⟨wb, 0, none⟩), .agg #[.int .i64 kind, .int .i64 on, .int .i64 op, .int .i64 a, .int .i64 b, .int .i64 n, .int .i64 p, .int .i64 q, f1, f2]] w fun e w' => e = .returned (.bool true) ∧ PairPost w B t u t.ms t.cl w' := by
  have HT := hide h
  obtain ⟨tb, tv, tr, trv, tms, tcl⟩ := t
  simp only at c0 c1
  have tm := tmod_two on
  clear h
  have HB : Hid (Below w.heap.size w ((w.alloc (.cells #[.int .i64 kind, .int .i64 on, .int .i64 op, .int .i64 a, .int .i64 b, .int .i64 n, .int .i64 p, .int .i64 q, f1, f2] 57)).alloc (.cells #[.pointer (some ⟨tb, 0, none⟩), .pointer (some ⟨tr, 0, none⟩)] 50))) := ((Below.refl _ _).alloc (Nat.le_refl _) _).alloc (by simp) _
  go_enter Try.func17, Try.ntmps17
  go_wp2
  go_ret
  exact ⟨rfl, HT.out.still hB HB.out⟩

set_option maxRecDepth 100000 in
set_option maxHeartbeats 2000000 in
theorem plain_len1 (w : World) (B wb : Nat) (t u : Tw) (h : Two w B t u) (hB : B ≤ w.heap.size) (c0 : w.cell? ⟨wb, 5, none⟩ = some (.pointer (some ⟨t.b, 0, none⟩))) (c1 : w.cell? ⟨wb, 6, none⟩ = some (.pointer (some ⟨t.r, 0, none⟩))) (hwb : wb < w.heap.size)
    (on op a b n p q : Int) (f1 f2 : Value) (hon : (on.tmod 2 != 0) = true) :
    Calls Try.prog 17 #[.pointer (some ⟨wb, 0, none⟩), .agg #[.int .i64 4, .int .i64 on, .int .i64 op, .int .i64 a, .int .i64 b, .int .i64 n, .int .i64 p, .int .i64 q, f1, f2]] w fun e w' => e = .returned (.bool true) ∧ PairPost w B t u t.ms t.cl w' := by
  have HT := hide h
  obtain ⟨tb, tv, tr, trv, tms, tcl⟩ := t
  simp only at c0 c1
  have tm := tmod_two on
  clear h
  have HB : Hid (Below w.heap.size w ((w.alloc (.cells #[.int .i64 4, .int .i64 on, .int .i64 op, .int .i64 a, .int .i64 b, .int .i64 n, .int .i64 p, .int .i64 q, f1, f2] 57)).alloc (.cells #[.pointer (some ⟨tb, 0, none⟩), .pointer (some ⟨tr, 0, none⟩)] 50))) := ((Below.refl _ _).alloc (Nat.le_refl _) _).alloc (by simp) _
  have hf := HT.out.ok.g.few
  simp only at hf
  go_enter Try.func17, Try.ntmps17
  go_wp2_with fail
  go_region_held3 (fun w' => w'.cell? ⟨w.heap.size + 1, 0, none⟩ = some (.pointer (some ⟨tb, 0, none⟩)) ∧ w'.cell? ⟨w.heap.size + 1, 1, none⟩ = some (.pointer (some ⟨tr, 0, none⟩)))
    (go_keep)
    (first | (go_at_call 8; refine (len_any _ B tb tv tms tcl (HT.out.ok.g.below HB.out).drew).mono ?_; rintro e w' ⟨rfl, rfl⟩) | (go_at_call 20; refine (rlen_any _ B tr trv tms tcl (HT.out.ok.rg.below (HB.out.drew))).mono ?_; rintro e w' ⟨rfl, rfl⟩))
  all_goals
    go_wp2
    go_ret
    exact ⟨ret_bool (by simp), HT.out.still hB HB.out.drew⟩

set_option maxRecDepth 100000 in
set_option maxHeartbeats 2000000 in
theorem plain_close1 (w : World) (B wb : Nat) (t u : Tw) (h : Two w B t u) (hB : B ≤ w.heap.size) (c0 : w.cell? ⟨wb, 5, none⟩ = some (.pointer (some ⟨t.b, 0, none⟩))) (c1 : w.cell? ⟨wb, 6, none⟩ = some (.pointer (some ⟨t.r, 0, none⟩))) (hwb : wb < w.heap.size)
    (on op a b n p q : Int) (f1 f2 : Value) (hon : (on.tmod 2 != 0) = true) :
    Calls Try.prog 17 #[.pointer (some ⟨wb, 0, none⟩), .agg #[.int .i64 5, .int .i64 on, .int .i64 op, .int .i64 a, .int .i64 b, .int .i64 n, .int .i64 p, .int .i64 q, f1, f2]] w fun e w' => e = .returned (.bool true) ∧ PairPost w B t u t.ms true w' := by
  have HT := hide h
  obtain ⟨tb, tv, tr, trv, tms, tcl⟩ := t
  simp only at c0 c1
  have tm := tmod_two on
  clear h
  have HB : Hid (Below w.heap.size w ((w.alloc (.cells #[.int .i64 5, .int .i64 on, .int .i64 op, .int .i64 a, .int .i64 b, .int .i64 n, .int .i64 p, .int .i64 q, f1, f2] 57)).alloc (.cells #[.pointer (some ⟨tb, 0, none⟩), .pointer (some ⟨tr, 0, none⟩)] 50))) := ((Below.refl _ _).alloc (Nat.le_refl _) _).alloc (by simp) _
  have HU : Hid (((w.alloc (.cells #[.int .i64 5, .int .i64 on, .int .i64 op, .int .i64 a, .int .i64 b, .int .i64 n, .int .i64 p, .int .i64 q, f1, f2] 57)).alloc (.cells #[.pointer (some ⟨tb, 0, none⟩), .pointer (some ⟨tr, 0, none⟩)] 50)).heap[w.heap.size + 1]? = some (.cells #[.pointer (some ⟨tb, 0, none⟩), .pointer (some ⟨tr, 0, none⟩)] 50 (0, 0))) := new_at _ _ _ (by simp)
  have HF := hide (HT.out.shut hB HB.out)
  have H0 := hide (HT.out.below HB.out)
  go_enter Try.func17, Try.ntmps17
  go_wp2_with fail
  refine (close_any _ B tb tv tms tcl H0.out.ok.g).mono ?_
  rintro e w1 ⟨rfl, rfl⟩
  have hM := (Mut.refl ((w.alloc (.cells #[.int .i64 5, .int .i64 on, .int .i64 op, .int .i64 a, .int .i64 b, .int .i64 n, .int .i64 p, .int .i64 q, f1, f2] 57)).alloc (.cells #[.pointer (some ⟨tb, 0, none⟩), .pointer (some ⟨tr, 0, none⟩)] 50)) tb tv.ownBlock).set 1 (.bool true)
  have hK := H0.out.ok.g.mut_keep hM [50, 77] (by simp) (by simp)
  have u1 := (hK _ _ _ (by simp) HU.out).trans HU.out
  have r1 := (hK _ _ _ (by simp) H0.out.ok.rg.cells).trans H0.out.ok.rg.cells
  have y1 := (cell_of_row _ _ 1 _ _ _ u1)
  have s1 := (cell_of_row _ _ 1 _ _ _ r1)
  have s2 : (((w.alloc (.cells #[.int .i64 5, .int .i64 on, .int .i64 op, .int .i64 a, .int .i64 b, .int .i64 n, .int .i64 p, .int .i64 q, f1, f2] 57)).alloc (.cells #[.pointer (some ⟨tb, 0, none⟩), .pointer (some ⟨tr, 0, none⟩)] 50)).setCell ⟨tb, 1, none⟩ (.bool true)).frozen? ⟨tr, 1, none⟩ = false := by simp only [World.frozen?, r1]; simp
  simp only [List.getElem?_toArray, List.getElem?_cons_succ, List.getElem?_cons_zero] at y1 s1
  clear hM hK u1 r1 H0 HU
  generalize ((w.alloc (.cells #[.int .i64 5, .int .i64 on, .int .i64 op, .int .i64 a, .int .i64 b, .int .i64 n, .int .i64 p, .int .i64 q, f1, f2] 57)).alloc (.cells #[.pointer (some ⟨tb, 0, none⟩), .pointer (some ⟨tr, 0, none⟩)] 50)) = w0 at *
  generalize hw1 : w0.setCell ⟨tb, 1, none⟩ (.bool true) = w1 at *
  clear hw1
  go_wp2
  go_ret
  exact ⟨rfl, HF.out⟩

set_option maxRecDepth 100000 in
set_option maxHeartbeats 2000000 in
theorem plain_other1 (w : World) (B wb : Nat) (t u : Tw) (h : Two w B t u) (hB : B ≤ w.heap.size) (c0 : w.cell? ⟨wb, 5, none⟩ = some (.pointer (some ⟨t.b, 0, none⟩))) (c1 : w.cell? ⟨wb, 6, none⟩ = some (.pointer (some ⟨t.r, 0, none⟩))) (hwb : wb < w.heap.size)
    (on op a b n p q : Int) (f1 f2 : Value) (hon : (on.tmod 2 != 0) = true) (kind : Int) (k1 : (kind == 1) = false) (k2 : (kind == 2) = false) (k3 : (kind == 3) = false) (k4 : (kind == 4) = false) (k5 : (kind == 5) = false) (k6 : (kind == 6) = false) (k7 : (kind == 7) = false) :
    Calls Try.prog 17 #[.pointer (some ⟨wb, 0, none⟩), .agg #[.int .i64 kind, .int .i64 on, .int .i64 op, .int .i64 a, .int .i64 b, .int .i64 n, .int .i64 p, .int .i64 q, f1, f2]] w fun e w' => e = .returned (.bool true) ∧ PairPost w B t u t.ms t.cl w' := by
  have HT := hide h
  obtain ⟨tb, tv, tr, trv, tms, tcl⟩ := t
  simp only at c0 c1
  have tm := tmod_two on
  clear h
  have HB : Hid (Below w.heap.size w ((w.alloc (.cells #[.int .i64 kind, .int .i64 on, .int .i64 op, .int .i64 a, .int .i64 b, .int .i64 n, .int .i64 p, .int .i64 q, f1, f2] 57)).alloc (.cells #[.pointer (some ⟨tb, 0, none⟩), .pointer (some ⟨tr, 0, none⟩)] 50))) := ((Below.refl _ _).alloc (Nat.le_refl _) _).alloc (by simp) _
  go_enter Try.func17, Try.ntmps17
  go_wp2
  go_ret
  exact ⟨rfl, HT.out.still hB HB.out⟩

end Go.Proofs.Ythacahellkmleaa
