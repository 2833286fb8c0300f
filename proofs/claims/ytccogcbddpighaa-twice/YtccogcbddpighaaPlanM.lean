/- Plain mathematics of plans: which of n things a raw number speaks of, ratios as small as may be, what an op makes of them, and the rows of a plan, with the bounds that they keep. -/
import Derived.Test.YtccogcbddpighaaPlain
namespace Go.Proofs.Ytccogcbddpighaa
namespace Bk

def pick (c n : Int) : Int := (if c < 0 then -(c + 1) else c) % n
theorem pick_bd (c n : Int) (h : 0 < n) : 0 ≤ pick c n ∧ pick c n < n := by
  unfold pick; exact ⟨Int.emod_nonneg _ (by omega), Int.emod_lt_of_pos _ h⟩

abbrev Rt := Int × Int
/-- p / q as small as may be. -/
def small (p q : Int) : Rt := (p.tdiv (gcd q (usg p)), q / gcd q (usg p))
/-- A ratio as plans have them. -/
structure Okr (r : Rt) : Prop where
  lo : 1 ≤ r.2
  hi : r.2 ≤ 100000
  up : r.1 ≤ r.2
  dn : -r.2 ≤ r.1

theorem gcd_dvd_left (m n : Int) (hm : 0 ≤ m) : ∃ k, m = gcd m n * k ∧ 0 ≤ k := by
  unfold gcd
  obtain ⟨k, hk⟩ := Nat.gcd_dvd_left m.toNat n.toNat
  refine ⟨k, ?_, by omega⟩
  have h1 : ((m.toNat : Nat) : Int) = ((Nat.gcd m.toNat n.toNat * k : Nat) : Int) := congrArg _ hk
  rw [Int.natCast_mul] at h1
  rw [← h1]; omega
theorem gcd_dvd_right (m n : Int) (hn : 0 ≤ n) : ∃ k, n = gcd m n * k ∧ 0 ≤ k := by
  unfold gcd
  obtain ⟨k, hk⟩ := Nat.gcd_dvd_right m.toNat n.toNat
  refine ⟨k, ?_, by omega⟩
  have h1 : ((n.toNat : Nat) : Int) = ((Nat.gcd m.toNat n.toNat * k : Nat) : Int) := congrArg _ hk
  rw [Int.natCast_mul] at h1
  rw [← h1]; omega

/-- What small makes: p and q over their greatest common divisor. -/
theorem small_is (p q : Int) (hq : 0 < q) : ∃ g x y : Int, 0 < g ∧ gcd q (usg p) = g ∧ p = g * x ∧ q = g * y ∧ small p q = (x, y) := by
  have hg := gcd_pos_left q (usg p) hq
  obtain ⟨y, hy, _⟩ := gcd_dvd_left q (usg p) (by omega)
  obtain ⟨x, hx, _⟩ := gcd_dvd_right q (usg p) (usg_nonneg p)
  by_cases hp : p < 0
  · refine ⟨gcd q (usg p), -x, y, hg, rfl, ?_, hy, ?_⟩
    · rw [Int.mul_neg, ← hx, usg_neg hp]; omega
    · unfold small
      generalize gcd q (usg p) = g at *
      rw [usg_neg hp] at hx
      have : p = g * (-x) := by rw [Int.mul_neg, ← hx]; omega
      rw [this, hy, Int.mul_tdiv_cancel_left _ (by omega), Int.mul_ediv_cancel_left _ (by omega)]
  · refine ⟨gcd q (usg p), x, y, hg, rfl, ?_, hy, ?_⟩
    · rw [← hx, usg_pos hp]
    · unfold small
      generalize gcd q (usg p) = g at *
      rw [usg_pos hp] at hx
      rw [hx, hy, Int.mul_tdiv_cancel_left _ (by omega), Int.mul_ediv_cancel_left _ (by omega)]

theorem small_ok (p q : Int) (hq : 0 < q) (h1 : p ≤ q) (h2 : -q ≤ p) : 1 ≤ (small p q).2 ∧ (small p q).2 ≤ q ∧ (small p q).1 ≤ (small p q).2 ∧ -(small p q).2 ≤ (small p q).1 := by
  obtain ⟨g, x, y, hg, _, rfl, rfl, hs⟩ := small_is p q hq
  rw [hs]
  have hy : 0 < y := by
    rcases Int.lt_or_le 0 y with h | h
    · exact h
    · have h0 : 0 ≤ g * (-y) := Int.mul_nonneg (Int.le_of_lt hg) (by omega)
      rw [Int.mul_neg] at h0
      omega
  refine ⟨by show 1 ≤ y; omega, ?_, Int.le_of_mul_le_mul_left h1 hg, ?_⟩
  · show y ≤ g * y
    have := Int.mul_le_mul_of_nonneg_right (show (1 : Int) ≤ g by omega) (show 0 ≤ y by omega)
    omega
  · have : g * (-y) ≤ g * x := by rw [Int.mul_neg]; exact h2
    exact Int.le_of_mul_le_mul_left this hg

def lessB (a b : Rt) : Bool := decide (a.1 * b.2 < b.1 * a.2)
def result (op : Int) (a b r : Rt) : Rt :=
  if op = 2 then (-a.1, a.2)
  else if op = 8 then (if a.1 < 0 then (-a.1, a.2) else a)
  else if op = 3 then small (a.1 * b.2 + b.1 * a.2) (2 * a.2 * b.2)
  else if op = 4 then small (a.1 * b.1) (a.2 * b.2)
  else if op = 5 then small (a.1 * r.1) (a.2 * r.2)
  else if op = 6 then (if lessB b a then b else a)
  else if op = 7 then (if lessB a b then b else a)
  else a

/-- Products of bounded numbers. -/
theorem mul_bd (x y m n : Int) (h1 : x ≤ m) (h2 : -m ≤ x) (h3 : y ≤ n) (h4 : -n ≤ y) (hm : 0 ≤ m) (hn : 0 ≤ n) : x * y ≤ m * n ∧ -(m * n) ≤ x * y := by
  have a : (x * y).natAbs ≤ (m * n).natAbs := by
    rw [Int.natAbs_mul, Int.natAbs_mul]
    exact Nat.mul_le_mul (by omega) (by omega)
  have b : 0 ≤ m * n := Int.mul_nonneg hm hn
  omega
theorem mul_pos_bd (x y : Int) (h1 : 1 ≤ x) (h2 : x ≤ 100000) (h3 : 1 ≤ y) (h4 : y ≤ 100000) : 1 ≤ x * y ∧ x * y ≤ 10000000000 := by
  have a := Int.mul_le_mul h2 h4 (by omega) (by omega)
  have b := Int.mul_pos (show 0 < x by omega) (show 0 < y by omega)
  omega

structure Row where
  op : Int
  a : Int
  b : Int
  p : Int
  q : Int
  is : Rt

def isAt (l : List Row) (k : Int) : Rt := ((l[(k - 1).toNat]?).map Row.is).getD (0, 1)
def num (c : Int) : Int := pick (c.tdiv 7) (2 * (1 + pick c 7) + 1) - (1 + pick c 7)
def row (l : List Row) (c : Int) : Row :=
  if l.length < 3 then ⟨1, 0, 0, num c, 1 + pick c 7, small (num c) (1 + pick c 7)⟩
  else if (result (2 + pick (c.tdiv 105) 7) (isAt l (1 + pick (c.tdiv 3) l.length)) (isAt l (1 + pick (c.tdiv 11) l.length)) (small (num c) (1 + pick c 7))).2 ≤ 100000 then
    ⟨2 + pick (c.tdiv 105) 7, 1 + pick (c.tdiv 3) l.length, 1 + pick (c.tdiv 11) l.length, num c, 1 + pick c 7, result (2 + pick (c.tdiv 105) 7) (isAt l (1 + pick (c.tdiv 3) l.length)) (isAt l (1 + pick (c.tdiv 11) l.length)) (small (num c) (1 + pick c 7))⟩
  else ⟨8, 1 + pick (c.tdiv 3) l.length, 1 + pick (c.tdiv 11) l.length, num c, 1 + pick c 7, result 8 (isAt l (1 + pick (c.tdiv 3) l.length)) (isAt l (1 + pick (c.tdiv 11) l.length)) (small (num c) (1 + pick c 7))⟩
/-- A row behind the third, by what its parts are. -/
def rowBig (op a b p q : Int) (ra rb s : Rt) : Row :=
  if (result op ra rb s).2 ≤ 100000 then ⟨op, a, b, p, q, result op ra rb s⟩ else ⟨8, a, b, p, q, result 8 ra rb s⟩
theorem row_big (l : List Row) (c : Int) (h : ¬ l.length < 3) : row l c = rowBig (2 + pick (c.tdiv 105) 7) (1 + pick (c.tdiv 3) l.length) (1 + pick (c.tdiv 11) l.length) (num c) (1 + pick c 7) (isAt l (1 + pick (c.tdiv 3) l.length)) (isAt l (1 + pick (c.tdiv 11) l.length)) (small (num c) (1 + pick c 7)) := by
  unfold row rowBig; rw [if_neg h]
def planTo (raw : List Int) : Nat → List Row
  | 0 => []
  | k + 1 => planTo raw k ++ [row (planTo raw k) (raw.getD k 0)]
theorem planTo_length (raw : List Int) (k : Nat) : (planTo raw k).length = k := by
  induction k with
  | zero => rfl
  | succ k ih => simp [planTo, ih]
def plan (raw : List Int) : List Row := planTo raw (min raw.length 11)

/-- What holds of a row at the place k. -/
structure Okrow (k : Nat) (r : Row) : Prop where
  leaf : k < 3 → r.op = 1
  op : 3 ≤ k → 2 ≤ r.op ∧ r.op ≤ 8 ∧ 1 ≤ r.a ∧ r.a ≤ k ∧ 1 ≤ r.b ∧ r.b ≤ k
  q1 : 1 ≤ r.q
  q7 : r.q ≤ 7
  p1 : r.p ≤ r.q
  p2 : -r.q ≤ r.p
  is : Okr r.is

theorem result_ok (op : Int) (a b r : Rt) (ha : Okr a) (hb : Okr b) (hr : Okr r) : 1 ≤ (result op a b r).2 ∧ (result op a b r).2 ≤ 20000000000 ∧ (result op a b r).1 ≤ (result op a b r).2 ∧ -(result op a b r).2 ≤ (result op a b r).1 := by
  obtain ⟨a1, a2, a3, a4⟩ := ha
  obtain ⟨b1, b2, b3, b4⟩ := hb
  obtain ⟨r1, r2, r3, r4⟩ := hr
  have m1 := mul_pos_bd a.2 b.2 a1 a2 b1 b2
  have m2 := mul_pos_bd a.2 r.2 a1 a2 r1 r2
  have n1 := mul_bd a.1 b.2 a.2 b.2 a3 a4 (by omega) (by omega) (by omega) (by omega)
  have n2 := mul_bd b.1 a.2 b.2 a.2 b3 b4 (by omega) (by omega) (by omega) (by omega)
  have n3 := mul_bd a.1 b.1 a.2 b.2 a3 a4 b3 b4 (by omega) (by omega)
  have n4 := mul_bd a.1 r.1 a.2 r.2 a3 a4 r3 r4 (by omega) (by omega)
  rw [Int.mul_comm b.2 a.2] at n2
  unfold result
  split
  · exact ⟨a1, by show a.2 ≤ _; omega, by show -a.1 ≤ a.2; omega, by show -a.2 ≤ -a.1; omega⟩
  split
  · split
    · exact ⟨a1, by show a.2 ≤ _; omega, by show -a.1 ≤ a.2; omega, by show -a.2 ≤ -a.1; omega⟩
    · exact ⟨a1, by omega, a3, a4⟩
  split
  · have h := small_ok (a.1 * b.2 + b.1 * a.2) (2 * a.2 * b.2) (by rw [Int.mul_assoc]; omega) (by rw [Int.mul_assoc]; omega) (by rw [Int.mul_assoc]; omega)
    rw [Int.mul_assoc] at h ⊢
    exact ⟨h.1, by omega, h.2.2.1, h.2.2.2⟩
  split
  · have h := small_ok (a.1 * b.1) (a.2 * b.2) (by omega) (by omega) (by omega)
    exact ⟨h.1, by omega, h.2.2.1, h.2.2.2⟩
  split
  · have h := small_ok (a.1 * r.1) (a.2 * r.2) (by omega) (by omega) (by omega)
    exact ⟨h.1, by omega, h.2.2.1, h.2.2.2⟩
  split
  · split
    · exact ⟨b1, by omega, b3, b4⟩
    · exact ⟨a1, by omega, a3, a4⟩
  split
  · split
    · exact ⟨b1, by omega, b3, b4⟩
    · exact ⟨a1, by omega, a3, a4⟩
  · exact ⟨a1, by omega, a3, a4⟩

theorem num_bd (c : Int) : num c ≤ 1 + pick c 7 ∧ -(1 + pick c 7) ≤ num c ∧ 1 ≤ 1 + pick c 7 ∧ 1 + pick c 7 ≤ 7 := by
  have h := pick_bd c 7 (by omega)
  have h2 := pick_bd (c.tdiv 7) (2 * (1 + pick c 7) + 1) (by omega)
  unfold num; omega
theorem small_num (c : Int) : Okr (small (num c) (1 + pick c 7)) := by
  have h := num_bd c
  have := small_ok (num c) (1 + pick c 7) (by omega) (by omega) (by omega)
  exact ⟨by omega, by omega, by omega, by omega⟩

theorem isAt_ok (l : List Row) (h : ∀ k r, l[k]? = some r → Okrow k r) (k : Int) : Okr (isAt l k) := by
  unfold isAt
  cases hx : l[(k - 1).toNat]? with
  | none => exact ⟨by decide, by decide, by decide, by decide⟩
  | some r => exact (h _ r hx).is

theorem row_ok (l : List Row) (h : ∀ k r, l[k]? = some r → Okrow k r) (c : Int) : Okrow l.length (row l c) := by
  have hn := num_bd c
  unfold row
  split
  · exact ⟨fun _ => rfl, fun _ => by omega, hn.2.2.1, hn.2.2.2, hn.1, hn.2.1, small_num c⟩
  · rename_i hl
    have pa := pick_bd (c.tdiv 3) l.length (by omega)
    have pb := pick_bd (c.tdiv 11) l.length (by omega)
    have po := pick_bd (c.tdiv 105) 7 (by omega)
    split
    · rename_i hq
      have hr := result_ok (2 + pick (c.tdiv 105) 7) _ _ _ (isAt_ok l h (1 + pick (c.tdiv 3) l.length)) (isAt_ok l h (1 + pick (c.tdiv 11) l.length)) (small_num c)
      refine ⟨fun h3 => absurd h3 (by omega), fun _ => ⟨?_, ?_, ?_, ?_, ?_, ?_⟩, hn.2.2.1, hn.2.2.2, hn.1, hn.2.1, ⟨hr.1, hq, hr.2.2.1, hr.2.2.2⟩⟩ <;> simp only <;> omega
    · have ha := isAt_ok l h (1 + pick (c.tdiv 3) l.length)
      have hr := result_ok 8 _ _ _ (isAt_ok l h (1 + pick (c.tdiv 3) l.length)) (isAt_ok l h (1 + pick (c.tdiv 11) l.length)) (small_num c)
      refine ⟨fun h3 => absurd h3 (by omega), fun _ => ⟨?_, ?_, ?_, ?_, ?_, ?_⟩, hn.2.2.1, hn.2.2.2, hn.1, hn.2.1, ⟨hr.1, ?_, hr.2.2.1, hr.2.2.2⟩⟩
      case refine_7 =>
        simp only
        unfold result
        rw [if_neg (by decide), if_pos rfl]
        split
        · exact ha.hi
        · exact ha.hi
      all_goals simp only <;> omega

theorem planTo_ok (raw : List Int) (n : Nat) : ∀ k r, (planTo raw n)[k]? = some r → Okrow k r := by
  induction n with
  | zero => intro k r h; simp [planTo] at h
  | succ n ih =>
    intro k r h
    rw [planTo, List.getElem?_append] at h
    split at h
    · exact ih k r h
    · rename_i hk
      rw [planTo_length] at hk h
      have : k = n := by
        have := (List.getElem?_eq_some_iff.1 h).1
        simp at this; omega
      subst this
      simp at h
      subst h
      have := row_ok (planTo raw k) ih (raw.getD k 0)
      rw [planTo_length] at this
      simpa using this
end Bk
end Go.Proofs.Ytccogcbddpighaa
