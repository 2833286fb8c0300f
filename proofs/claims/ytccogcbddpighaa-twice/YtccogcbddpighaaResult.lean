/- The contract of result: what an op makes of ratios, and whether its bottom is small enough. -/
import Derived.Test.YtccogcbddpighaaKeep
namespace Go.Proofs.Ytccogcbddpighaa
open Go.RowKit

/-- What the call leaves. -/
def ResPost (w : World) (r : Bk.Rt) (e : Ending) (w' : World) : Prop :=
  e = .returned (.tuple #[.agg #[.int .i64 r.1, .int .i64 r.2], .bool (decide (r.2 ≤ 100000))]) ∧ Below w.heap.size w w'

theorem five {w w1 : World} {o0 o1 o2 : Obj} {a3 b3 a4 b4 : Value} (hb : Below (((((w.alloc o0).alloc o1).alloc o2).alloc (.cells #[a3, b3] 35)).alloc (.cells #[a4, b4] 35)).heap.size (((((w.alloc o0).alloc o1).alloc o2).alloc (.cells #[a3, b3] 35)).alloc (.cells #[a4, b4] 35)) w1) :
    w1.cell? ⟨w.heap.size + 3, 0, none⟩ = some a3 ∧ w1.cell? ⟨w.heap.size + 3, 1, none⟩ = some b3 ∧ w1.cell? ⟨w.heap.size + 4, 0, none⟩ = some a4 ∧ w1.cell? ⟨w.heap.size + 4, 1, none⟩ = some b4 ∧
    w1.frozen? ⟨w.heap.size + 3, 0, none⟩ = false ∧ w1.frozen? ⟨w.heap.size + 3, 1, none⟩ = false ∧ w1.frozen? ⟨w.heap.size + 4, 0, none⟩ = false ∧ w1.frozen? ⟨w.heap.size + 4, 1, none⟩ = false ∧
    w.heap.size + 5 ≤ w1.heap.size ∧ Below w.heap.size w w1 := by
  have hz := hb.size
  simp only [World.size_alloc] at hz
  refine ⟨?_, ?_, ?_, ?_, ?_, ?_, ?_, ?_, by omega, ?_⟩
  · rw [hb.cell (p := ⟨w.heap.size + 3, 0, none⟩) (by simp)]; simp [go_sem]
  · rw [hb.cell (p := ⟨w.heap.size + 3, 1, none⟩) (by simp)]; simp [go_sem]
  · rw [hb.cell (p := ⟨w.heap.size + 4, 0, none⟩) (by simp)]; simp [go_sem]
  · rw [hb.cell (p := ⟨w.heap.size + 4, 1, none⟩) (by simp)]; simp [go_sem]
  · rw [hb.frozen (p := ⟨w.heap.size + 3, 0, none⟩) (by simp)]; simp [go_sem]
  · rw [hb.frozen (p := ⟨w.heap.size + 3, 1, none⟩) (by simp)]; simp [go_sem]
  · rw [hb.frozen (p := ⟨w.heap.size + 4, 0, none⟩) (by simp)]; simp [go_sem]
  · rw [hb.frozen (p := ⟨w.heap.size + 4, 1, none⟩) (by simp)]; simp [go_sem]
  · refine Below.trans ?_ (hb.mono (by simp; omega))
    go_grown

set_option maxHeartbeats 1000000 in
theorem result_avg (a1 a2 b1 b2 r1 r2 : Int) (w : World) (ha : Bk.Okr (a1, a2)) (hb : Bk.Okr (b1, b2)) (hr : Bk.Okr (r1, r2)) :
    Calls Try.prog 16 #[.int .i64 3, .agg #[.int .i64 a1, .int .i64 a2], .agg #[.int .i64 b1, .int .i64 b2], .agg #[.int .i64 r1, .int .i64 r2]] w (ResPost w (Bk.small (a1 * b2 + b1 * a2) (2 * a2 * b2))) := by
  obtain ⟨k1, k2, k3, k4⟩ := ha
  obtain ⟨l1, l2, l3, l4⟩ := hb
  obtain ⟨s1, s2, s3, s4⟩ := hr
  simp only at k1 k2 k3 k4 l1 l2 l3 l4 s1 s2 s3 s4
  have n1 := Bk.mul_bd a1 b2 a2 b2 k3 k4 (by omega) (by omega) (by omega) (by omega)
  have n2 := Bk.mul_bd b1 a2 b2 a2 l3 l4 (by omega) (by omega) (by omega) (by omega)
  have m1 := Bk.mul_pos_bd a2 b2 k1 k2 l1 l2
  rw [Int.mul_comm b2 a2] at n2
  have M2 : Hid (2 * a2 * b2 = 2 * (a2 * b2)) := Int.mul_assoc ..
  have m3 : 2 * a2 * b2 ≤ 20000000000 ∧ 1 ≤ 2 * a2 * b2 := by rw [M2.out]; omega
  go_enter Try.func16, Try.ntmps16
  go_wp2_with fail
  refine (small_any _ _ _ (by omega) (by omega) (by omega) (by omega)).mono ?_
  rintro e w1 ⟨rfl, hb1⟩
  generalize Bk.small (a1 * b2 + b1 * a2) (2 * a2 * b2) = r at *
  obtain ⟨x, y⟩ := r
  obtain ⟨d0, d1, d2, d3, d4, d5, d6, d7, hz, hbw⟩ := five hb1
  have HB : Hid (Below w.heap.size w w1) := hbw
  clear hb1 hbw
  go_wp2
  go_region
  go_wp2
  refine bodyPost_ret (v := .tuple #[.agg #[.int .i64 x, .int .i64 y], .bool (decide (y ≤ 100000))]) (by simp [results, Try.results16, go_sem, d0, d1]) rfl ⟨rfl, ?_⟩
  have hbw := HB.out
  go_grown

set_option maxHeartbeats 1000000 in
theorem result_mul (a1 a2 b1 b2 r1 r2 : Int) (w : World) (ha : Bk.Okr (a1, a2)) (hb : Bk.Okr (b1, b2)) (hr : Bk.Okr (r1, r2)) :
    Calls Try.prog 16 #[.int .i64 4, .agg #[.int .i64 a1, .int .i64 a2], .agg #[.int .i64 b1, .int .i64 b2], .agg #[.int .i64 r1, .int .i64 r2]] w (ResPost w (Bk.small (a1 * b1) (a2 * b2))) := by
  obtain ⟨k1, k2, k3, k4⟩ := ha
  obtain ⟨l1, l2, l3, l4⟩ := hb
  obtain ⟨s1, s2, s3, s4⟩ := hr
  simp only at k1 k2 k3 k4 l1 l2 l3 l4 s1 s2 s3 s4
  have n1 := Bk.mul_bd a1 b1 a2 b2 k3 k4 l3 l4 (by omega) (by omega)
  have m1 := Bk.mul_pos_bd a2 b2 k1 k2 l1 l2
  go_enter Try.func16, Try.ntmps16
  go_wp2_with fail
  refine (small_any _ _ _ (by omega) (by omega) (by omega) (by omega)).mono ?_
  rintro e w1 ⟨rfl, hb1⟩
  generalize Bk.small (a1 * b1) (a2 * b2) = r at *
  obtain ⟨x, y⟩ := r
  obtain ⟨d0, d1, d2, d3, d4, d5, d6, d7, hz, hbw⟩ := five hb1
  have HB : Hid (Below w.heap.size w w1) := hbw
  clear hb1 hbw
  go_wp2
  go_region
  go_wp2
  refine bodyPost_ret (v := .tuple #[.agg #[.int .i64 x, .int .i64 y], .bool (decide (y ≤ 100000))]) (by simp [results, Try.results16, go_sem, d0, d1]) rfl ⟨rfl, ?_⟩
  have hbw := HB.out
  go_grown

set_option maxHeartbeats 1000000 in
theorem result_scale (a1 a2 b1 b2 r1 r2 : Int) (w : World) (ha : Bk.Okr (a1, a2)) (hb : Bk.Okr (b1, b2)) (hr : Bk.Okr (r1, r2)) :
    Calls Try.prog 16 #[.int .i64 5, .agg #[.int .i64 a1, .int .i64 a2], .agg #[.int .i64 b1, .int .i64 b2], .agg #[.int .i64 r1, .int .i64 r2]] w (ResPost w (Bk.small (a1 * r1) (a2 * r2))) := by
  obtain ⟨k1, k2, k3, k4⟩ := ha
  obtain ⟨l1, l2, l3, l4⟩ := hb
  obtain ⟨s1, s2, s3, s4⟩ := hr
  simp only at k1 k2 k3 k4 l1 l2 l3 l4 s1 s2 s3 s4
  have n1 := Bk.mul_bd a1 r1 a2 r2 k3 k4 s3 s4 (by omega) (by omega)
  have m1 := Bk.mul_pos_bd a2 r2 k1 k2 s1 s2
  go_enter Try.func16, Try.ntmps16
  go_wp2_with fail
  refine (small_any _ _ _ (by omega) (by omega) (by omega) (by omega)).mono ?_
  rintro e w1 ⟨rfl, hb1⟩
  generalize Bk.small (a1 * r1) (a2 * r2) = r at *
  obtain ⟨x, y⟩ := r
  obtain ⟨d0, d1, d2, d3, d4, d5, d6, d7, hz, hbw⟩ := five hb1
  have HB : Hid (Below w.heap.size w w1) := hbw
  clear hb1 hbw
  go_wp2
  go_region
  go_wp2
  refine bodyPost_ret (v := .tuple #[.agg #[.int .i64 x, .int .i64 y], .bool (decide (y ≤ 100000))]) (by simp [results, Try.results16, go_sem, d0, d1]) rfl ⟨rfl, ?_⟩
  have hbw := HB.out
  go_grown

set_option maxHeartbeats 1000000 in
theorem result_neg (a1 a2 b1 b2 r1 r2 : Int) (w : World) (ha : Bk.Okr (a1, a2)) :
    Calls Try.prog 16 #[.int .i64 2, .agg #[.int .i64 a1, .int .i64 a2], .agg #[.int .i64 b1, .int .i64 b2], .agg #[.int .i64 r1, .int .i64 r2]] w (ResPost w (-a1, a2)) := by
  obtain ⟨k1, k2, k3, k4⟩ := ha
  simp only at k1 k2 k3 k4
  go_enter Try.func16, Try.ntmps16
  go_wp2
  go_region
  go_wp2
  refine bodyPost_ret (v := .tuple #[.agg #[.int .i64 (-a1), .int .i64 (a2)], .bool (decide (a2 ≤ 100000))]) (by simp [results, Try.results16, go_sem, k2]) rfl ⟨rfl, ?_⟩
  go_grown

set_option maxHeartbeats 1000000 in
theorem result_absn (a1 a2 b1 b2 r1 r2 : Int) (w : World) (ha : Bk.Okr (a1, a2)) (hs : a1 < 0) :
    Calls Try.prog 16 #[.int .i64 8, .agg #[.int .i64 a1, .int .i64 a2], .agg #[.int .i64 b1, .int .i64 b2], .agg #[.int .i64 r1, .int .i64 r2]] w (ResPost w (-a1, a2)) := by
  obtain ⟨k1, k2, k3, k4⟩ := ha
  simp only at k1 k2 k3 k4
  go_enter Try.func16, Try.ntmps16
  go_wp2
  go_region
  go_wp2
  refine bodyPost_ret (v := .tuple #[.agg #[.int .i64 (-a1), .int .i64 (a2)], .bool (decide (a2 ≤ 100000))]) (by simp [results, Try.results16, go_sem, k2]) rfl ⟨rfl, ?_⟩
  go_grown

set_option maxHeartbeats 1000000 in
theorem result_absp (a1 a2 b1 b2 r1 r2 : Int) (w : World) (ha : Bk.Okr (a1, a2)) (hs : ¬ a1 < 0) :
    Calls Try.prog 16 #[.int .i64 8, .agg #[.int .i64 a1, .int .i64 a2], .agg #[.int .i64 b1, .int .i64 b2], .agg #[.int .i64 r1, .int .i64 r2]] w (ResPost w (a1, a2)) := by
  obtain ⟨k1, k2, k3, k4⟩ := ha
  simp only at k1 k2 k3 k4
  go_enter Try.func16, Try.ntmps16
  go_wp2
  go_region
  go_wp2
  refine bodyPost_ret (v := .tuple #[.agg #[.int .i64 (a1), .int .i64 (a2)], .bool (decide (a2 ≤ 100000))]) (by simp [results, Try.results16, go_sem, k2]) rfl ⟨rfl, ?_⟩
  go_grown

set_option maxHeartbeats 1000000 in
theorem result_mint (a1 a2 b1 b2 r1 r2 : Int) (w : World) (ha : Bk.Okr (a1, a2)) (hb : Bk.Okr (b1, b2)) (hs : Bk.lessB (b1, b2) (a1, a2) = true) :
    Calls Try.prog 16 #[.int .i64 6, .agg #[.int .i64 a1, .int .i64 a2], .agg #[.int .i64 b1, .int .i64 b2], .agg #[.int .i64 r1, .int .i64 r2]] w (ResPost w (b1, b2)) := by
  go_enter Try.func16, Try.ntmps16
  go_wp2_with fail
  refine (below_any (b1, b2) (a1, a2) _ (by assumption) (by assumption)).mono ?_
  rintro e w1 ⟨rfl, hb1⟩
  have e1 := hb1.cell (p := ⟨w.heap.size + 1, 0, none⟩) (by simp)
  have e2 := hb1.cell (p := ⟨w.heap.size + 1, 1, none⟩) (by simp)
  simp [go_sem] at e1 e2
  obtain ⟨d0, d1, d2, d3, d4, d5, d6, d7, hz, hbw⟩ := five hb1
  have HB : Hid (Below w.heap.size w w1) := hbw
  clear hb1 hbw
  go_wp2
  go_region
  go_wp2
  refine bodyPost_ret (v := .tuple #[.agg #[.int .i64 b1, .int .i64 b2], .bool (decide (b2 ≤ 100000))]) (by simp [results, Try.results16, go_sem, d0, d1]) rfl ⟨rfl, ?_⟩
  have hbw := HB.out
  go_grown

set_option maxHeartbeats 1000000 in
theorem result_minf (a1 a2 b1 b2 r1 r2 : Int) (w : World) (ha : Bk.Okr (a1, a2)) (hb : Bk.Okr (b1, b2)) (hs : Bk.lessB (b1, b2) (a1, a2) = false) :
    Calls Try.prog 16 #[.int .i64 6, .agg #[.int .i64 a1, .int .i64 a2], .agg #[.int .i64 b1, .int .i64 b2], .agg #[.int .i64 r1, .int .i64 r2]] w (ResPost w (a1, a2)) := by
  go_enter Try.func16, Try.ntmps16
  go_wp2_with fail
  refine (below_any (b1, b2) (a1, a2) _ (by assumption) (by assumption)).mono ?_
  rintro e w1 ⟨rfl, hb1⟩
  have e1 := hb1.cell (p := ⟨w.heap.size + 1, 0, none⟩) (by simp)
  have e2 := hb1.cell (p := ⟨w.heap.size + 1, 1, none⟩) (by simp)
  simp [go_sem] at e1 e2
  obtain ⟨d0, d1, d2, d3, d4, d5, d6, d7, hz, hbw⟩ := five hb1
  have HB : Hid (Below w.heap.size w w1) := hbw
  clear hb1 hbw
  go_wp2
  go_region
  go_wp2
  refine bodyPost_ret (v := .tuple #[.agg #[.int .i64 a1, .int .i64 a2], .bool (decide (a2 ≤ 100000))]) (by simp [results, Try.results16, go_sem, d0, d1]) rfl ⟨rfl, ?_⟩
  have hbw := HB.out
  go_grown

set_option maxHeartbeats 1000000 in
theorem result_maxt (a1 a2 b1 b2 r1 r2 : Int) (w : World) (ha : Bk.Okr (a1, a2)) (hb : Bk.Okr (b1, b2)) (hs : Bk.lessB (a1, a2) (b1, b2) = true) :
    Calls Try.prog 16 #[.int .i64 7, .agg #[.int .i64 a1, .int .i64 a2], .agg #[.int .i64 b1, .int .i64 b2], .agg #[.int .i64 r1, .int .i64 r2]] w (ResPost w (b1, b2)) := by
  go_enter Try.func16, Try.ntmps16
  go_wp2_with fail
  refine (below_any (a1, a2) (b1, b2) _ (by assumption) (by assumption)).mono ?_
  rintro e w1 ⟨rfl, hb1⟩
  have e1 := hb1.cell (p := ⟨w.heap.size + 1, 0, none⟩) (by simp)
  have e2 := hb1.cell (p := ⟨w.heap.size + 1, 1, none⟩) (by simp)
  simp [go_sem] at e1 e2
  obtain ⟨d0, d1, d2, d3, d4, d5, d6, d7, hz, hbw⟩ := five hb1
  have HB : Hid (Below w.heap.size w w1) := hbw
  clear hb1 hbw
  go_wp2
  go_region
  go_wp2
  refine bodyPost_ret (v := .tuple #[.agg #[.int .i64 b1, .int .i64 b2], .bool (decide (b2 ≤ 100000))]) (by simp [results, Try.results16, go_sem, d0, d1]) rfl ⟨rfl, ?_⟩
  have hbw := HB.out
  go_grown

set_option maxHeartbeats 1000000 in
theorem result_maxf (a1 a2 b1 b2 r1 r2 : Int) (w : World) (ha : Bk.Okr (a1, a2)) (hb : Bk.Okr (b1, b2)) (hs : Bk.lessB (a1, a2) (b1, b2) = false) :
    Calls Try.prog 16 #[.int .i64 7, .agg #[.int .i64 a1, .int .i64 a2], .agg #[.int .i64 b1, .int .i64 b2], .agg #[.int .i64 r1, .int .i64 r2]] w (ResPost w (a1, a2)) := by
  go_enter Try.func16, Try.ntmps16
  go_wp2_with fail
  refine (below_any (a1, a2) (b1, b2) _ (by assumption) (by assumption)).mono ?_
  rintro e w1 ⟨rfl, hb1⟩
  have e1 := hb1.cell (p := ⟨w.heap.size + 1, 0, none⟩) (by simp)
  have e2 := hb1.cell (p := ⟨w.heap.size + 1, 1, none⟩) (by simp)
  simp [go_sem] at e1 e2
  obtain ⟨d0, d1, d2, d3, d4, d5, d6, d7, hz, hbw⟩ := five hb1
  have HB : Hid (Below w.heap.size w w1) := hbw
  clear hb1 hbw
  go_wp2
  go_region
  go_wp2
  refine bodyPost_ret (v := .tuple #[.agg #[.int .i64 a1, .int .i64 a2], .bool (decide (a2 ≤ 100000))]) (by simp [results, Try.results16, go_sem, d0, d1]) rfl ⟨rfl, ?_⟩
  have hbw := HB.out
  go_grown


theorem result_any (op : Int) (a b r : Bk.Rt) (w : World) (h2 : 2 ≤ op) (h8 : op ≤ 8) (ha : Bk.Okr a) (hb : Bk.Okr b) (hr : Bk.Okr r) :
    Calls Try.prog 16 #[.int .i64 op, .agg #[.int .i64 a.1, .int .i64 a.2], .agg #[.int .i64 b.1, .int .i64 b.2], .agg #[.int .i64 r.1, .int .i64 r.2]] w (ResPost w (Bk.result op a b r)) := by
  obtain ⟨a1, a2⟩ := a
  obtain ⟨b1, b2⟩ := b
  obtain ⟨r1, r2⟩ := r
  have h : op = 2 ∨ op = 3 ∨ op = 4 ∨ op = 5 ∨ op = 6 ∨ op = 7 ∨ op = 8 := by omega
  rcases h with rfl | rfl | rfl | rfl | rfl | rfl | rfl
  · rw [show Bk.result 2 (a1, a2) (b1, b2) (r1, r2) = (-a1, a2) by simp [Bk.result]]
    exact result_neg a1 a2 b1 b2 r1 r2 w ha
  · rw [show Bk.result 3 (a1, a2) (b1, b2) (r1, r2) = Bk.small (a1 * b2 + b1 * a2) (2 * a2 * b2) by simp [Bk.result]]
    exact result_avg a1 a2 b1 b2 r1 r2 w ha hb hr
  · rw [show Bk.result 4 (a1, a2) (b1, b2) (r1, r2) = Bk.small (a1 * b1) (a2 * b2) by simp [Bk.result]]
    exact result_mul a1 a2 b1 b2 r1 r2 w ha hb hr
  · rw [show Bk.result 5 (a1, a2) (b1, b2) (r1, r2) = Bk.small (a1 * r1) (a2 * r2) by simp [Bk.result]]
    exact result_scale a1 a2 b1 b2 r1 r2 w ha hb hr
  · cases hs : Bk.lessB (b1, b2) (a1, a2) with
    | true =>
      rw [show Bk.result 6 (a1, a2) (b1, b2) (r1, r2) = (b1, b2) by simp [Bk.result, hs]]
      exact result_mint a1 a2 b1 b2 r1 r2 w ha hb hs
    | false =>
      rw [show Bk.result 6 (a1, a2) (b1, b2) (r1, r2) = (a1, a2) by simp [Bk.result, hs]]
      exact result_minf a1 a2 b1 b2 r1 r2 w ha hb hs
  · cases hs : Bk.lessB (a1, a2) (b1, b2) with
    | true =>
      rw [show Bk.result 7 (a1, a2) (b1, b2) (r1, r2) = (b1, b2) by simp [Bk.result, hs]]
      exact result_maxt a1 a2 b1 b2 r1 r2 w ha hb hs
    | false =>
      rw [show Bk.result 7 (a1, a2) (b1, b2) (r1, r2) = (a1, a2) by simp [Bk.result, hs]]
      exact result_maxf a1 a2 b1 b2 r1 r2 w ha hb hs
  · by_cases hs : a1 < 0
    · rw [show Bk.result 8 (a1, a2) (b1, b2) (r1, r2) = (-a1, a2) by simp [Bk.result, hs]]
      exact result_absn a1 a2 b1 b2 r1 r2 w ha hs
    · rw [show Bk.result 8 (a1, a2) (b1, b2) (r1, r2) = (a1, a2) by simp [Bk.result, hs]]
      exact result_absp a1 a2 b1 b2 r1 r2 w ha hs
end Go.Proofs.Ytccogcbddpighaa
