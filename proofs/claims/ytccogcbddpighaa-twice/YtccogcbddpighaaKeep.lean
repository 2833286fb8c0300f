/- Contracts of the small functions that plans are made by: pick, small, below, result. -/
import Derived.Test.YtccogcbddpighaaNum
import Derived.Test.YtccogcbddpighaaPlanM
namespace Go.Proofs.Ytccogcbddpighaa
open Go.RowKit

theorem neg_mod (c n : Int) (h : c < 0) : -(c + 1).tmod n = -(c + 1) % n := by
  rw [← Int.neg_tmod, Int.tmod_eq_emod_of_nonneg (by omega)]

set_option maxHeartbeats 400000 in
theorem pick_any (c n : Int) (w : World) (h1 : -9223372036854775808 ≤ c) (h2 : c ≤ 9223372036854775807) (h3 : 1 ≤ n) (h4 : n ≤ 1000000) :
    Calls Try.prog 9 #[.int .i64 c, .int .i64 n] w fun e w' => e = .returned (.int .i64 (Bk.pick c n)) ∧ w = w' := by
  have hn : (n == 0) = false := by simp; omega
  unfold Bk.pick
  by_cases h : c < 0
  · rw [if_pos h]
    go_enter Try.func9, Try.ntmps9
    go_wp2
    go_ret
    exact ⟨ret_int (neg_mod c n h), rfl⟩
  · rw [if_neg h]
    go_enter Try.func9, Try.ntmps9
    go_wp2
    go_ret
    exact ⟨rfl, rfl⟩

set_option maxHeartbeats 400000 in
theorem below_any (a b : Bk.Rt) (w : World) (ha : Bk.Okr a) (hb : Bk.Okr b) :
    Calls Try.prog 22 #[.agg #[.int .i64 a.1, .int .i64 a.2], .agg #[.int .i64 b.1, .int .i64 b.2]] w fun e w' => e = .returned (.bool (Bk.lessB a b)) ∧ Below w.heap.size w w' := by
  obtain ⟨a1, a2, a3, a4⟩ := ha
  obtain ⟨b1, b2, b3, b4⟩ := hb
  have n1 := Bk.mul_bd a.1 b.2 a.2 b.2 a3 a4 (by omega) (by omega) (by omega) (by omega)
  have n2 := Bk.mul_bd b.1 a.2 b.2 a.2 b3 b4 (by omega) (by omega) (by omega) (by omega)
  have m1 := Bk.mul_pos_bd a.2 b.2 a1 a2 b1 b2
  rw [Int.mul_comm b.2 a.2] at n2
  unfold Bk.lessB
  obtain ⟨x, y⟩ := a
  obtain ⟨z, u⟩ := b
  simp only at *
  go_enter Try.func22, Try.ntmps22
  go_wp2
  go_ret
  refine ⟨rfl, ?_⟩
  go_grown

theorem tdiv_bd (p g : Int) (h1 : -20000000000 ≤ p) (h2 : p ≤ 20000000000) : -20000000000 ≤ p.tdiv g ∧ p.tdiv g ≤ 20000000000 := by
  have := Int.natAbs_tdiv p g
  have h3 : (p.tdiv g).natAbs ≤ p.natAbs := by rw [this]; exact Nat.div_le_self _ _
  omega

set_option maxHeartbeats 1000000 in
theorem small_any (p q : Int) (w : World) (h1 : -20000000000 ≤ p) (h2 : p ≤ 20000000000) (h3 : 1 ≤ q) (h4 : q ≤ 20000000000) :
    Calls Try.prog 15 #[.int .i64 p, .int .i64 q] w fun e w' => e = .returned (.agg #[.int .i64 (Bk.small p q).1, .int .i64 (Bk.small p q).2]) ∧ Below w.heap.size w w' := by
  have u0 := Bk.usg_nonneg p
  have u1 : Bk.usg p ≤ 20000000000 := by unfold Bk.usg; split <;> omega
  have g0 := Bk.gcd_pos_left q (Bk.usg p) (by omega)
  have g1 := Bk.gcd_le_left q (Bk.usg p) (by omega)
  have hg : (Bk.gcd q (Bk.usg p) == 0) = false := by simp; omega
  have t1 := tdiv_bd p (Bk.gcd q (Bk.usg p)) h1 h2
  have t2 : 0 ≤ q / Bk.gcd q (Bk.usg p) := Int.ediv_nonneg (by omega) (by omega)
  have t3 : q / Bk.gcd q (Bk.usg p) ≤ q := Int.ediv_le_self _ (by omega)
  have HU : Hid (Bk.usg p = if p < 0 then -p else p) := rfl
  unfold Bk.small
  generalize Bk.usg p = up at *
  by_cases hp : p < 0
  all_goals
    go_enter Try.func15, Try.ntmps15
    go_wp2
    go_loop [5, 6] (fun a b => ∃ x y : Int, 0 ≤ x ∧ x ≤ 20000000000 ∧ 1 ≤ y ∧ y ≤ 20000000000 ∧ a = .int .i64 x ∧ b = .int .i64 y ∧ Hid (Bk.gcd y x = Bk.gcd q up)) (fun a _ => (intOf a).toNat)
    case atStart =>
      refine ⟨up, q, by omega, by omega, by omega, by omega, ?_, rfl, rfl⟩
      have := HU.out
      first | rw [this, if_pos hp] | rw [this, if_neg (by omega)]
    case round =>
      obtain ⟨x, y, hx0, hx1, hy0, hy1, rfl, rfl, hgx⟩ := hrel
      by_cases hx : 0 < x
      · have hm0 : 0 ≤ y % x := Int.emod_nonneg _ (by omega)
        have hm1 : y % x < x := Int.emod_lt_of_pos _ hx
        have hx' : (x == 0) = false := by simp; omega
        go_wp2
        go_round
        case rel => exact ⟨y % x, x, by omega, by omega, by omega, by omega, rfl, rfl, by rw [Hid, Bk.gcd_step y x (by omega) (by omega)]; exact hgx.out⟩
        case measure => simp [intOf]; omega
      · have hx2 : x = 0 := by omega
        subst hx2
        obtain rfl : y = Bk.gcd q up := by rw [← hgx.out, Bk.gcd_zero y (by omega)]
        go_wp2
        go_region
        go_wp2
        refine bodyPost_ret (v := .agg #[.int .i64 (p.tdiv (Bk.gcd q up)), .int .i64 (q / Bk.gcd q up)]) (by simp [results, Try.results15, go_sem]) rfl ⟨rfl, ?_⟩
        go_grown
end Go.Proofs.Ytccogcbddpighaa
