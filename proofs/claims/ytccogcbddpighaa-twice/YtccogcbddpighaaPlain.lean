/- Plain mathematics for the seed brook: sizes without a sign, the greatest common divisor by its steps, a ratio in lowest terms; nothing of the program is named here. -/
namespace Go.Proofs.Ytccogcbddpighaa
namespace Bk

/-- A number without its sign. -/
def usg (n : Int) : Int := if n < 0 then -n else n
theorem usg_nonneg (n : Int) : 0 ≤ usg n := by unfold usg; split <;> omega
theorem usg_neg {n : Int} (h : n < 0) : usg n = -n := by unfold usg; rw [if_pos h]
theorem usg_pos {n : Int} (h : ¬ n < 0) : usg n = n := by unfold usg; rw [if_neg h]
theorem usg_le (n : Int) (h1 : -9223372036854775808 ≤ n) (h2 : n ≤ 9223372036854775807) : usg n ≤ 9223372036854775808 := by unfold usg; split <;> omega
theorem usg_zero {n : Int} : usg n = 0 ↔ n = 0 := by unfold usg; split <;> omega

/-- The greatest common divisor, as a whole number. -/
def gcd (m n : Int) : Int := ((Nat.gcd m.toNat n.toNat : Nat) : Int)
theorem gcd_zero (m : Int) (h : 0 ≤ m) : gcd m 0 = m := by unfold gcd; simp; omega
theorem toNat_emod (m n : Int) (hm : 0 ≤ m) (hn : 0 ≤ n) : (m % n).toNat = m.toNat % n.toNat := by
  obtain ⟨a, rfl⟩ := Int.eq_ofNat_of_zero_le hm
  obtain ⟨b, rfl⟩ := Int.eq_ofNat_of_zero_le hn
  rw [Int.toNat_natCast, Int.toNat_natCast, ← Int.natCast_emod, Int.toNat_natCast]
theorem gcd_step (m n : Int) (hm : 0 ≤ m) (hn : 0 ≤ n) : gcd n (m % n) = gcd m n := by
  unfold gcd
  rw [toNat_emod m n hm hn, Nat.gcd_comm m.toNat n.toNat, Nat.gcd_rec n.toNat m.toNat, Nat.gcd_comm]
theorem gcd_nonneg (m n : Int) : 0 ≤ gcd m n := by unfold gcd; omega
theorem gcd_pos_left (m n : Int) (hm : 0 < m) : 0 < gcd m n := by
  unfold gcd
  have := Nat.gcd_pos_of_pos_left n.toNat (show 0 < m.toNat by omega)
  omega
theorem gcd_le_left (m n : Int) (hm : 0 < m) : gcd m n ≤ m := by
  unfold gcd
  have := Nat.gcd_le_left n.toNat (show 0 < m.toNat by omega)
  omega

/-- Is p / q no number from -1 to 1? -/
def bad (p q : Int) : Bool := usg q == 0 || decide (usg p > usg q)
/-- Is p / q below 0? -/
def below (p q : Int) : Bool := p != 0 && (decide (p < 0) != decide (q < 0))
def sgn (p q : Int) : Int := if below p q then 1 else 0
/-- p and q without their signs, in lowest terms. -/
def top (p q : Int) : Int := usg p / gcd (usg q) (usg p)
def bot (p q : Int) : Int := usg q / gcd (usg q) (usg p)
end Bk
end Go.Proofs.Ytccogcbddpighaa
