/- Contracts of the program's functions on numbers: a size without its sign, the greatest common divisor, a ratio in lowest terms, for all numbers of 64 bits. -/
import Derived.Test.YtccogcbddpighaaRows
import Derived.Test.YtccogcbddpighaaPlain
import Derived.WalkKit
import Derived.WalkSpells
import Derived.WalkLawsBesides
import Derived.BigQuiet
import Derived.Deep.QuietTactic
import Derived.Handy
namespace Go.Proofs.Ytccogcbddpighaa
open Go.RowKit

theorem wrap_minus (n : Int) (h1 : -9223372036854775808 ≤ n) (h : n < 0) : IntKind.u64.wrap (-IntKind.u64.wrap n) = -n := by
  rw [IntKind.wrap_u64, IntKind.wrap_u64]; omega
theorem ret_int {k : IntKind} {a b : Int} (h : a = b) : Ending.returned (.int k a) = .returned (.int k b) := by rw [h]

set_option maxHeartbeats 400000 in
theorem unsigned_any (n : Int) (w : World) (h1 : -9223372036854775808 ≤ n) (h2 : n ≤ 9223372036854775807) :
    Calls Try.prog 20 #[.int .i64 n] w fun e w' => e = .returned (.int .u64 (Bk.usg n)) ∧ w = w' := by
  by_cases h : n < 0
  · rw [Bk.usg_neg h]
    go_enter Try.func20, Try.ntmps20
    go_wp2
    go_ret
    exact ⟨ret_int (wrap_minus n h1 h), rfl⟩
  · rw [Bk.usg_pos h]
    go_enter Try.func20, Try.ntmps20
    go_wp2
    go_ret
    exact ⟨rfl, rfl⟩

set_option maxHeartbeats 400000 in
theorem gcd_any (m n : Int) (w : World) (h1 : 0 ≤ m) (h2 : m ≤ 9223372036854775808) (h3 : 0 ≤ n) (h4 : n ≤ 9223372036854775808) :
    Calls Try.prog 21 #[.int .u64 m, .int .u64 n] w fun e w' => e = .returned (.int .u64 (Bk.gcd m n)) ∧ ∃ k, w' = w.drewN k := by
  go_enter Try.func21, Try.ntmps21
  go_wp2
  go_loopw [0, 1] (fun a b wr => ∃ x y : Int, 0 ≤ x ∧ x ≤ 9223372036854775808 ∧ 0 ≤ y ∧ y ≤ 9223372036854775808 ∧ a = .int .u64 x ∧ b = .int .u64 y ∧ Bk.gcd x y = Bk.gcd m n ∧ ∃ k, wr = w.drewN k) (fun _ b _ => (intOf b).toNat)
  case atStart => exact ⟨m, n, h1, h2, h3, h4, rfl, rfl, rfl, 0, rfl⟩
  case round =>
    obtain ⟨x, y, hx0, hx1, hy0, hy1, rfl, rfl, hg, k, rfl⟩ := hrel
    have HG : Hid (Bk.gcd x y = Bk.gcd m n) := hg
    clear hg
    by_cases hy : y = 0
    · subst hy
      go_wp2
      go_ret
      rw [← HG.out, Bk.gcd_zero x hx0]
      exact ⟨rfl, k, rfl⟩
    · have hy' : (y != 0) = true := by simpa using hy
      have hm0 : 0 ≤ x % y := Int.emod_nonneg _ hy
      have hm1 : x % y < y := Int.emod_lt_of_pos _ (by omega)
      go_wp2
      go_quiet (fail)
      go_wp2
      go_roundw
      case rel => exact ⟨y, x % y, by omega, by omega, by omega, by omega, rfl, rfl, by rw [Bk.gcd_step x y hx0 hy0]; exact HG.out, k + nq, by rw [World.drewN_drewN]⟩
      case measure => simp [intOf]; omega

-- p / q is no number from -1 to 1
set_option maxHeartbeats 400000 in
theorem lowest_bad (p q : Int) (w : World) (p1 : -9223372036854775808 ≤ p) (p2 : p ≤ 9223372036854775807) (q1 : -9223372036854775808 ≤ q) (q2 : q ≤ 9223372036854775807) (hb : Bk.bad p q = true) :
    Calls Try.prog 12 #[.int .i64 p, .int .i64 q] w fun e w' => e = .returned (.tuple #[.agg #[.int .u64 0, .int .u64 0, .int .u64 0], .bool false]) ∧ Below w.heap.size w w' := by
  have a0 := Bk.usg_nonneg p
  have a1 := Bk.usg_le p p1 p2
  have b0 := Bk.usg_nonneg q
  have b1 := Bk.usg_le q q1 q2
  have hz : (Bk.usg q == 0) = true ∨ ((Bk.usg q == 0) = false ∧ Bk.usg q < Bk.usg p) := by
    simp [Bk.bad] at hb; simp; omega
  clear hb
  rcases hz with hz | ⟨hz, hlt⟩
  all_goals
    go_enter Try.func12, Try.ntmps12
    go_wp2_with (go_at_call 20; refine (unsigned_any _ _ (by assumption) (by assumption)).mono ?_; rintro e w' ⟨rfl, rfl⟩)
    refine bodyPost_ret (v := .tuple #[.agg #[.int .u64 0, .int .u64 0, .int .u64 0], .bool false]) (by simp [results, Try.results12, go_sem]) rfl ⟨rfl, ?_⟩
    go_grown

theorem quo_u64 (x y : Int) (h0 : 0 ≤ x) (h1 : x ≤ 9223372036854775808) (h2 : 0 < y) : 0 ≤ x / y ∧ x / y ≤ 9223372036854775808 :=
  ⟨Int.ediv_nonneg h0 (by omega), Int.le_trans (Int.ediv_le_self _ h0) h1⟩

-- p / q is a number from -1 to 1
set_option maxHeartbeats 1000000 in
theorem lowest_ok (p q : Int) (w : World) (p1 : -9223372036854775808 ≤ p) (p2 : p ≤ 9223372036854775807) (q1 : -9223372036854775808 ≤ q) (q2 : q ≤ 9223372036854775807) (hb : Bk.bad p q = false) :
    Calls Try.prog 12 #[.int .i64 p, .int .i64 q] w fun e w' => e = .returned (.tuple #[.agg #[.int .u64 (Bk.sgn p q), .int .u64 (Bk.top p q), .int .u64 (Bk.bot p q)], .bool true]) ∧ Below w.heap.size w w' := by
  have a0 := Bk.usg_nonneg p
  have a1 := Bk.usg_le p p1 p2
  have b0 := Bk.usg_nonneg q
  have b1 := Bk.usg_le q q1 q2
  have hz : (Bk.usg q == 0) = false ∧ Bk.usg p ≤ Bk.usg q := by
    simp [Bk.bad] at hb; simp; omega
  obtain ⟨hz, hle⟩ := hz
  have hz1 : 0 < Bk.usg q := by simp at hz; omega
  clear hb
  have g0 := Bk.gcd_pos_left (Bk.usg q) (Bk.usg p) hz1
  have g1 := Bk.gcd_le_left (Bk.usg q) (Bk.usg p) hz1
  have g2 : (Bk.gcd (Bk.usg q) (Bk.usg p) == 0) = false := by simp; omega
  have t1 := quo_u64 (Bk.usg p) (Bk.gcd (Bk.usg q) (Bk.usg p)) a0 a1 g0
  have t2 := quo_u64 (Bk.usg q) (Bk.gcd (Bk.usg q) (Bk.usg p)) b0 b1 g0
  have hs : ((p != 0) = false ∧ Bk.sgn p q = 0) ∨ ((p != 0) = true ∧ decide (p < 0) = true ∧ decide (q < 0) = true ∧ Bk.sgn p q = 0) ∨ ((p != 0) = true ∧ decide (p < 0) = true ∧ decide (q < 0) = false ∧ Bk.sgn p q = 1) ∨ ((p != 0) = true ∧ decide (p < 0) = false ∧ decide (q < 0) = true ∧ Bk.sgn p q = 1) ∨ ((p != 0) = true ∧ decide (p < 0) = false ∧ decide (q < 0) = false ∧ Bk.sgn p q = 0) := by
    unfold Bk.sgn Bk.below
    by_cases c0 : p = 0
    · simp [c0]
    · by_cases c1 : p < 0 <;> by_cases c2 : q < 0 <;> simp [c0, c1, c2]
  unfold Bk.top Bk.bot
  rcases hs with ⟨c0, hs⟩ | ⟨c0, c1, c2, hs⟩ | ⟨c0, c1, c2, hs⟩ | ⟨c0, c1, c2, hs⟩ | ⟨c0, c1, c2, hs⟩
  all_goals
    rw [hs]; clear hs
    go_enter Try.func12, Try.ntmps12
    go_wp2_with (first | (go_at_call 20; refine (unsigned_any _ _ (by assumption) (by assumption)).mono ?_; rintro e w' ⟨rfl, rfl⟩) | (go_at_call 21; refine (gcd_any _ _ _ (by omega) (by omega) (by omega) (by omega)).mono ?_; rintro e w' ⟨rfl, k, rfl⟩))
    go_region
    go_wp2
    refine bodyPost_ret (v := .tuple #[.agg #[_, _, _], .bool true]) (by simp [results, Try.results12, go_sem]) rfl ⟨rfl, ?_⟩
    go_grown
    refine below_drewN ?_ _
    go_grown
end Go.Proofs.Ytccogcbddpighaa
