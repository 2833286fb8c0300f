/- Plain mathematics of building twice: a row that is built again, its ratio written larger, is the node that was there. -/
import Derived.Test.YtccogcbddpighaaBuiltM
namespace Go.Proofs.Ytccogcbddpighaa
namespace Bk

theorem usg_mul_neg (p k : Int) (hk : 0 < k) : usg (p * -k) = usg p * k := by
  unfold usg
  by_cases hp : p < 0
  · have h1 : 0 < -p * k := Int.mul_pos (by omega) hk
    have h2 : p * -k = -p * k := by rw [Int.mul_neg, Int.neg_mul]
    rw [h2, if_neg (by omega), if_pos hp]
  · rw [if_neg hp]
    have h0 : p * -k = -(p * k) := Int.mul_neg _ _
    by_cases h1 : p = 0
    · subst h1; simp
    · have h2 : 0 < p * k := Int.mul_pos (by omega) hk
      rw [h0, if_pos (by omega)]; omega
theorem usg_mul (p k : Int) (hk : 0 < k) : usg (p * k) = usg p * k := by
  have h := usg_mul_neg (-p) k hk
  rw [Int.neg_mul_neg] at h
  rw [h]
  congr 1
  unfold usg
  split <;> split <;> omega

theorem gcd_mul (m n k : Int) (hm : 0 ≤ m) (hn : 0 ≤ n) (hk : 0 < k) : gcd (m * k) (n * k) = gcd m n * k := by
  unfold gcd
  obtain ⟨a, rfl⟩ := Int.eq_ofNat_of_zero_le hm
  obtain ⟨b, rfl⟩ := Int.eq_ofNat_of_zero_le hn
  obtain ⟨c, rfl⟩ := Int.eq_ofNat_of_zero_le (Int.le_of_lt hk)
  rw [← Int.natCast_mul, ← Int.natCast_mul, Int.toNat_natCast, Int.toNat_natCast, Int.toNat_natCast, Int.toNat_natCast, Nat.gcd_mul_right, Int.natCast_mul]

theorem div_mul (x g k : Int) (hk : 0 < k) : (x * k) / (g * k) = x / g := Int.mul_ediv_mul_of_pos_left x g hk

theorem lt_mul_neg (p k : Int) (hk : 0 < k) : (p * -k < 0) ↔ 0 < p := by
  rw [Int.mul_neg]
  constructor
  · intro h
    rcases Int.lt_or_le 0 p with h1 | h1
    · exact h1
    · have : 0 ≤ (-p) * k := Int.mul_nonneg (by omega) (by omega)
      rw [Int.neg_mul] at this; omega
  · intro h; have := Int.mul_pos h hk; omega
theorem lt_mul (p k : Int) (hk : 0 < k) : (p * k < 0) ↔ p < 0 := by
  have h := lt_mul_neg (-p) k hk
  rw [Int.neg_mul_neg] at h
  rw [h]; omega
theorem ne_mul_neg (p k : Int) (hk : 0 < k) : (p * -k = 0) ↔ p = 0 := by
  rw [Int.mul_neg, Int.neg_eq_zero, Int.mul_eq_zero]; omega
theorem ne_mul (p k : Int) (hk : 0 < k) : (p * k = 0) ↔ p = 0 := by
  rw [Int.mul_eq_zero]; omega

theorem ratio_neg (p q k : Int) (hk : 0 < k) (hq : 0 < q) : sgn (p * -k) (q * -k) = sgn p q ∧ top (p * -k) (q * -k) = top p q ∧ bot (p * -k) (q * -k) = bot p q := by
  have u0 := usg_nonneg p
  have u1 := usg_nonneg q
  have hg := gcd_mul (usg q) (usg p) k u1 u0 hk
  refine ⟨?_, ?_, ?_⟩
  · unfold sgn below
    have e1 : (p * -k != 0) = (p != 0) := by
      rw [Bool.eq_iff_iff]; simp only [bne_iff_ne, ne_eq, ne_mul_neg p k hk]
    have e2 : decide (p * -k < 0) = decide (0 < p) := by simp only [lt_mul_neg p k hk]
    have e3 : decide (q * -k < 0) = decide (0 < q) := by simp only [lt_mul_neg q k hk]
    rw [e1, e2, e3]
    by_cases hp : p = 0
    · simp [hp]
    · have h1 : decide (0 < q) = true := by simpa using hq
      have h2 : decide (q < 0) = false := by simp; omega
      rw [h1, h2]
      by_cases h3 : p < 0
      · have : ¬ 0 < p := by omega
        simp [hp, h3, this]
      · have : 0 < p := by omega
        simp [h3, this]
  · unfold top; rw [usg_mul_neg p k hk, usg_mul_neg q k hk, hg, div_mul _ _ _ hk]
  · unfold bot; rw [usg_mul_neg p k hk, usg_mul_neg q k hk, hg, div_mul _ _ _ hk]
theorem ratio_pos (p q k : Int) (hk : 0 < k) : sgn (p * k) (q * k) = sgn p q ∧ top (p * k) (q * k) = top p q ∧ bot (p * k) (q * k) = bot p q := by
  have u0 := usg_nonneg p
  have u1 := usg_nonneg q
  have hg := gcd_mul (usg q) (usg p) k u1 u0 hk
  refine ⟨?_, ?_, ?_⟩
  · unfold sgn below
    have e1 : (p * k != 0) = (p != 0) := by
      rw [Bool.eq_iff_iff]; simp only [bne_iff_ne, ne_eq, ne_mul p k hk]
    have e2 : decide (p * k < 0) = decide (p < 0) := by simp only [lt_mul p k hk]
    have e3 : decide (q * k < 0) = decide (q < 0) := by simp only [lt_mul q k hk]
    rw [e1, e2, e3]
  · unfold top; rw [usg_mul p k hk, usg_mul q k hk, hg, div_mul _ _ _ hk]
  · unfold bot; rw [usg_mul p k hk, usg_mul q k hk, hg, div_mul _ _ _ hk]

theorem bad_neg (p q k : Int) (hk : 0 < k) (h : bad p q = false) : bad (p * -k) (q * -k) = false := by
  have u0 := usg_nonneg p
  have u1 := usg_nonneg q
  simp only [bad, Bool.or_eq_false_iff, beq_eq_false_iff_ne, decide_eq_false_iff_not] at h ⊢
  rw [usg_mul_neg p k hk, usg_mul_neg q k hk]
  have h1 : 0 < usg q * k := Int.mul_pos (by omega) hk
  have h2 : usg p * k ≤ usg q * k := Int.mul_le_mul_of_nonneg_right (by omega) (by omega)
  omega
theorem bad_pos (p q k : Int) (hk : 0 < k) (h : bad p q = false) : bad (p * k) (q * k) = false := by
  have u0 := usg_nonneg p
  have u1 := usg_nonneg q
  simp only [bad, Bool.or_eq_false_iff, beq_eq_false_iff_ne, decide_eq_false_iff_not] at h ⊢
  rw [usg_mul p k hk, usg_mul q k hk]
  have h1 : 0 < usg q * k := Int.mul_pos (by omega) hk
  have h2 : usg p * k ≤ usg q * k := Int.mul_le_mul_of_nonneg_right (by omega) (by omega)
  omega

/-- A row that is built again, its ratio k times as large. -/
def again (ms : List Mk) (hs : List Int) (r : Row) (k : Int) : Int × Int × List Mk :=
  if r.op = 1 then leafR false ms (r.p * -k) (r.q * -k) else if r.op = 5 then scaleR false ms (hAt hs r.a) (r.p * k) (r.q * k) else nodeR false ms r.op (hAt hs r.a) (hAt hs r.b)

theorem again_add {j : Nat} {ms : List Mk} {hs : List Int} {r : Row} (hg : Good ms.length hs) (hl : j ≤ hs.length) (hr : Okrow j r) (k : Int) (hk : 0 < k) : again ms hs r k = addR ms (made hs r) := by
  have hb := bad_row r.p r.q hr.q1 hr.p1 hr.p2
  have b1 := bad_neg r.p r.q k hk hb
  have b2 := bad_pos r.p r.q k hk hb
  obtain ⟨n1, n2, n3⟩ := ratio_neg r.p r.q k hk (by have := hr.q1; omega)
  obtain ⟨m1, m2, m3⟩ := ratio_pos r.p r.q k hk
  unfold again made
  by_cases h1 : r.op = 1
  · simp [h1, leafR, b1, n1, n2, n3]
  · have h3 : 3 ≤ j := by
      rcases Nat.lt_or_ge j 3 with h | h
      · exact absurd (hr.leaf h) h1
      · exact h
    obtain ⟨o2, o8, a1, a2, c1, c2⟩ := hr.op h3
    have ha := (hAt_good hg r.a a1 (by omega)).2
    have hb' := (hAt_good hg r.b c1 (by omega)).2
    by_cases h5 : r.op = 5
    · simp [h5, scaleR, ha, b2, m1, m2, m3]
    · have hop : r.op = 2 ∨ r.op = 3 ∨ r.op = 4 ∨ r.op = 6 ∨ r.op = 7 ∨ r.op = 8 := by omega
      rcases hop with h | h | h | h | h | h <;> simp [h, nodeR, ha, hb', twoB, oneB]

/-- What was built stays at its place. -/
theorem bld_grow (l : List Row) (hl : ∀ k r, l[k]? = some r → Okrow k r) (n : Nat) (hn : n ≤ l.length) (h24 : n ≤ 24) (k : Nat) (hk : k ≤ n) : (∃ t, (bld l n).1 = (bld l k).1 ++ t) ∧ (∃ t, (bld l n).2 = (bld l k).2 ++ t) := by
  induction n with
  | zero => obtain rfl : k = 0 := by omega
            exact ⟨⟨[], by simp⟩, ⟨[], by simp⟩⟩
  | succ n ih =>
    rcases Nat.lt_or_ge n k with h | h
    · obtain rfl : k = n + 1 := by omega
      exact ⟨⟨[], by simp⟩, ⟨[], by simp⟩⟩
    · obtain ⟨⟨t, ht⟩, ⟨s, hs⟩⟩ := ih (by omega) (by omega) h
      have hb := bld_ok l hl n (by omega) (by omega)
      have hr : l[n]? = some l[n] := List.getElem?_eq_getElem (by omega)
      have ha := add_room (bld l n).1 (made (bld l n).2 l[n]) (by have := hb.few; omega)
      obtain ⟨x, hx⟩ := ha.2.2.2.2.2.1
      have e : bld l (n + 1) = (addL (bld l n).1 (made (bld l n).2 l[n]), (bld l n).2 ++ [addH (bld l n).1 (made (bld l n).2 l[n])]) := by
        rw [bld, hr]; simp only [bstep_add hb.good hb.len (hl n _ hr), addR]
      rw [e]
      exact ⟨⟨t ++ x, by show addL _ _ = _; rw [hx, ht, List.append_assoc]⟩, ⟨s ++ [addH (bld l n).1 (made (bld l n).2 l[n])], by simp only [hs, List.append_assoc]⟩⟩

theorem hAt_append (hs t : List Int) (a : Int) (h1 : 1 ≤ a) (h2 : a ≤ hs.length) : hAt (hs ++ t) a = hAt hs a := by
  unfold hAt; rw [List.getElem?_append_left (by omega)]

theorem made_append (hs t : List Int) (r : Row) (k : Nat) (hr : Okrow k r) (hl : hs.length = k) : made (hs ++ t) r = made hs r := by
  unfold made
  by_cases h1 : r.op = 1
  · simp [h1]
  · have h3 : 3 ≤ k := by
      rcases Nat.lt_or_ge k 3 with h | h
      · exact absurd (hr.leaf h) h1
      · exact h
    obtain ⟨o2, o8, a1, a2, c1, c2⟩ := hr.op h3
    rw [hAt_append hs t r.a a1 (by omega), hAt_append hs t r.b c1 (by omega)]

/-- Built again, each row gives its handle, and no node more. -/
theorem again_same (l : List Row) (hl : ∀ k r, l[k]? = some r → Okrow k r) (h24 : l.length ≤ 23) (j : Nat) (r : Row) (hr : l[j]? = some r) (k : Int) (hk : 0 < k) :
    ∃ h, (bld l l.length).2[j]? = some h ∧ again (bld l l.length).1 (bld l l.length).2 r k = (h, 0, (bld l l.length).1) := by
  have hj : j < l.length := (List.getElem?_eq_some_iff.1 hr).1
  have hb := bld_ok l hl l.length (Nat.le_refl _) (by omega)
  have hbj := bld_ok l hl j (by omega) (by omega)
  obtain ⟨⟨t, ht⟩, ⟨s, hs⟩⟩ := bld_grow l hl l.length (Nat.le_refl _) (by omega) (j + 1) hj
  obtain ⟨_, ⟨s0, hs0⟩⟩ := bld_grow l hl l.length (Nat.le_refl _) (by omega) j (by omega)
  rw [again_add hb.good (by rw [hb.len]; omega) (hl j r hr) k hk]
  have e : bld l (j + 1) = (addL (bld l j).1 (made (bld l j).2 r), (bld l j).2 ++ [addH (bld l j).1 (made (bld l j).2 r)]) := by
    rw [bld, hr]; simp only [bstep_add hbj.good hbj.len (hl j _ hr), addR]
  have hm : made (bld l l.length).2 r = made (bld l j).2 r := by rw [hs0]; exact made_append _ _ r j (hl j r hr) hbj.len
  rw [hm]
  have ha := add_room (bld l j).1 (made (bld l j).2 r) (by have := hbj.few; omega)
  generalize hmk : made (bld l j).2 r = m at *
  rw [e] at ht hs
  simp only at ht hs
  have hmem : m ∈ addL (bld l j).1 m := List.mem_iff_getElem?.2 ⟨_, ha.2.2.2.2.2.2⟩
  have hidx : (addL (bld l j).1 m).idxOf m + 1 = addH (bld l j).1 m := by
    by_cases hx : m ∈ (bld l j).1
    · simp [addL, addH, hx]
    · have hr' : ¬ 24 ≤ (bld l j).1.length := by have := hbj.few; omega
      simp only [addL, addH, if_neg hx, if_neg hr']
      rw [List.idxOf_append, if_neg hx]; simp
  have hin : m ∈ (bld l l.length).1 := by rw [ht]; exact List.mem_append_left _ hmem
  refine ⟨addH (bld l j).1 m, ?_, ?_⟩
  · rw [hs, List.append_assoc, List.getElem?_append_right (by rw [hbj.len]; exact Nat.le_refl _), hbj.len]; simp
  · simp only [addR, addE, addH, addL, if_pos hin]
    rw [ht, List.idxOf_append, if_pos hmem]
    simp only [Prod.mk.injEq, and_true]
    rw [show ((addL (bld l j).1 m).idxOf m : Int) + 1 = addH (bld l j).1 m from by exact_mod_cast hidx]
    simp [addH]
end Bk
end Go.Proofs.Ytccogcbddpighaa
