/- Two arrays of six numbers, compared as values: the run of the comparison is that of the numbers, one by one. -/
import Derived.Test.YtccogcbddpighaaRows
import Derived.WalkKit
import Derived.ChangeKeysEq
namespace Go.Proofs.Ytccogcbddpighaa
open Go.RowKit

def mkEq (a0 a1 a2 a3 a4 a5 b0 b1 b2 b3 b4 b5 : Int) : Bool := a0 == b0 && (a1 == b1 && (a2 == b2 && (a3 == b3 && (a4 == b4 && a5 == b5))))

theorem Try.infoWord : (Try.prog.info? 44).map (fun i => (i.zero, i.size, i.bytes)) = some (some (.int .u64 0), 1, 8) := by kernel_rfl

theorem eq_int (w : World) (d : Nat) (a b : Int) : (Op.equalIn (d + 1) 44 (.int .u64 a) (.int .u64 b)).run Try.prog w = .ok (a == b) w := by
  simp [Op.equalIn, run_underlying Try.underlying44]

theorem part_at (w : World) (xs : Array Value) (j : Nat) (v : Value) (h : xs[j]? = some v) : (part 44 xs j).run Try.prog w = .ok v w :=
  run_part_plain w (by kernel_rfl) h

theorem items_step (w : World) (d : Nat) (xs ys : Array Value) (j : Nat) (js : List Nat) (a b : Int) (hx : xs[j]? = some (.int .u64 a)) (hy : ys[j]? = some (.int .u64 b)) (r : Bool)
    (ih : (Op.eqItems (d + 1) 44 1 xs ys js).run Try.prog w = .ok r w) :
    (Op.eqItems (d + 1) 44 1 xs ys (j :: js)).run Try.prog w = .ok (a == b && r) w := by
  simp only [Op.eqItems, Sem.run_bind, Nat.mul_one, part_at w xs j _ hx, part_at w ys j _ hy, Result.andThen_ok, eq_int]
  cases h : (a == b)
  · simp
  · simp only [Bool.not_true, Bool.false_eq_true, if_false, Bool.true_and]; exact ih

theorem equalIn_mk (w : World) (d : Nat) (a0 a1 a2 a3 a4 a5 b0 b1 b2 b3 b4 b5 : Int) :
    (Op.equalIn (d + 2) 51 (.agg #[.int .u64 a0, .int .u64 a1, .int .u64 a2, .int .u64 a3, .int .u64 a4, .int .u64 a5]) (.agg #[.int .u64 b0, .int .u64 b1, .int .u64 b2, .int .u64 b3, .int .u64 b4, .int .u64 b5])).run Try.prog w = .ok (mkEq a0 a1 a2 a3 a4 a5 b0 b1 b2 b3 b4 b5) w := by
  obtain ⟨i0, hi, _⟩ := info_parts Try.infoWord
  rw [run_equalIn_array w (d + 1) _ _ Try.underlying51 hi]
  rw [show Try.prog.cellsOf 44 = 1 by kernel_rfl, show List.range 6 = [0, 1, 2, 3, 4, 5] from rfl]
  have e : (mkEq a0 a1 a2 a3 a4 a5 b0 b1 b2 b3 b4 b5) = (a0 == b0 && (a1 == b1 && (a2 == b2 && (a3 == b3 && (a4 == b4 && (a5 == b5 && true)))))) := by simp [mkEq]
  rw [e]
  exact items_step w d _ _ _ _ _ _ rfl rfl _ (items_step w d _ _ _ _ _ _ rfl rfl _ (items_step w d _ _ _ _ _ _ rfl rfl _ (items_step w d _ _ _ _ _ _ rfl rfl _ (items_step w d _ _ _ _ _ _ rfl rfl _ (items_step w d _ _ _ _ _ _ rfl rfl _ (by simp [Op.eqItems]))))))

theorem run_eql_mk (w : World) (a0 a1 a2 a3 a4 a5 b0 b1 b2 b3 b4 b5 : Int) :
    (binOp .eql 51 (.agg #[.int .u64 a0, .int .u64 a1, .int .u64 a2, .int .u64 a3, .int .u64 a4, .int .u64 a5]) (.agg #[.int .u64 b0, .int .u64 b1, .int .u64 b2, .int .u64 b3, .int .u64 b4, .int .u64 b5])).run Try.prog w = .ok (.bool (mkEq a0 a1 a2 a3 a4 a5 b0 b1 b2 b3 b4 b5)) w := by
  simp only [binOp]
  simp [Op.equal, Op.maxDepth, equalIn_mk w 9998]

theorem mkEq_iff (a0 a1 a2 a3 a4 a5 b0 b1 b2 b3 b4 b5 : Int) : mkEq a0 a1 a2 a3 a4 a5 b0 b1 b2 b3 b4 b5 = true ↔ (a0, a1, a2, a3, a4, a5) = (b0, b1, b2, b3, b4, b5) := by
  simp [mkEq]
end Go.Proofs.Ytccogcbddpighaa
