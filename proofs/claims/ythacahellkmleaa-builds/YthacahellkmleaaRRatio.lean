/- The contract of the document's ratio: p over q goes into a node, in lowest terms, or it can't be. -/
import Derived.Test.YthacahellkmleaaRNum
namespace Go.Proofs.Ythacahellkmleaa
open Go.RowKit

/-- The cells of a node of the document's answer. -/
def ncells (op : Int) (pv x2 x3 x4 x5 x6 x7 x8 : Value) (ng : Bool) (p q : Int) : Array Value :=
  #[.int .i64 op, pv, x2, x3, x4, x5, x6, x7, x8, .bool ng, .int .u64 p, .int .u64 q]
/-- A node at block nb. -/
def NodeB (w : World) (nb : Nat) (op : Int) (pv x2 x3 x4 x5 x6 x7 x8 : Value) (ng : Bool) (p q : Int) : Prop :=
  w.heap[nb]? = some (.cells (ncells op pv x2 x3 x4 x5 x6 x7 x8 ng p q) 105 (0, 0))

theorem NodeB.facts {w : World} {nb : Nat} {op : Int} {pv x2 x3 x4 x5 x6 x7 x8 : Value} {ng : Bool} {p q : Int} (h : NodeB w nb op pv x2 x3 x4 x5 x6 x7 x8 ng p q) :
    w.cell? ⟨nb, 0, none⟩ = some (.int .i64 op) ∧ w.cell? ⟨nb, 1, none⟩ = some pv ∧ w.cell? ⟨nb, 2, none⟩ = some x2 ∧ w.cell? ⟨nb, 3, none⟩ = some x3 ∧ w.cell? ⟨nb, 4, none⟩ = some x4 ∧ w.cell? ⟨nb, 5, none⟩ = some x5 ∧
    w.cell? ⟨nb, 9, none⟩ = some (.bool ng) ∧ w.cell? ⟨nb, 10, none⟩ = some (.int .u64 p) ∧ w.cell? ⟨nb, 11, none⟩ = some (.int .u64 q) ∧ (∀ o, w.frozen? ⟨nb, o, none⟩ = false) := by
  unfold NodeB ncells at h
  refine ⟨?_, ?_, ?_, ?_, ?_, ?_, ?_, ?_, ?_, fun o => by simp [World.frozen?, h]⟩
  · rw [cell_of_row w nb 0 _ _ _ h]; rfl
  · rw [cell_of_row w nb 1 _ _ _ h]; rfl
  · rw [cell_of_row w nb 2 _ _ _ h]; rfl
  · rw [cell_of_row w nb 3 _ _ _ h]; rfl
  · rw [cell_of_row w nb 4 _ _ _ h]; rfl
  · rw [cell_of_row w nb 5 _ _ _ h]; rfl
  · rw [cell_of_row w nb 9 _ _ _ h]; rfl
  · rw [cell_of_row w nb 10 _ _ _ h]; rfl
  · rw [cell_of_row w nb 11 _ _ _ h]; rfl

theorem NodeB.below {w w' : World} {nb : Nat} {op : Int} {pv x2 x3 x4 x5 x6 x7 x8 : Value} {ng : Bool} {p q : Int} (h : NodeB w nb op pv x2 x3 x4 x5 x6 x7 x8 ng p q) (hb : Below w.heap.size w w') : NodeB w' nb op pv x2 x3 x4 x5 x6 x7 x8 ng p q := by
  unfold NodeB at h ⊢; rw [hb.block _ (block_lt h)]; exact h
theorem NodeB.set23 {w : World} {nb : Nat} {op : Int} {pv x2 x3 x4 x5 x6 x7 x8 : Value} {ng : Bool} {p q : Int} (h : NodeB w nb op pv x2 x3 x4 x5 x6 x7 x8 ng p q) (a b : Value) : NodeB ((w.setCell ⟨nb, 2, none⟩ a).setCell ⟨nb, 3, none⟩ b) nb op pv a b x4 x5 x6 x7 x8 ng p q := by
  unfold NodeB at h ⊢; rw [heap_setCell_at (heap_setCell_at h a) b]; simp [ncells]
theorem NodeB.set45 {w : World} {nb : Nat} {op : Int} {pv x2 x3 x4 x5 x6 x7 x8 : Value} {ng : Bool} {p q : Int} (h : NodeB w nb op pv x2 x3 x4 x5 x6 x7 x8 ng p q) (a b : Value) : NodeB ((w.setCell ⟨nb, 4, none⟩ a).setCell ⟨nb, 5, none⟩ b) nb op pv x2 x3 a b x6 x7 x8 ng p q := by
  unfold NodeB at h ⊢; rw [heap_setCell_at (heap_setCell_at h a) b]; simp [ncells]
theorem NodeB.setpq {w : World} {nb : Nat} {op : Int} {pv x2 x3 x4 x5 x6 x7 x8 : Value} {ng : Bool} {p q : Int} (h : NodeB w nb op pv x2 x3 x4 x5 x6 x7 x8 ng p q) (a b : Int) (g : Bool) : NodeB (((w.setCell ⟨nb, 10, none⟩ (.int .u64 a)).setCell ⟨nb, 11, none⟩ (.int .u64 b)).setCell ⟨nb, 9, none⟩ (.bool g)) nb op pv x2 x3 x4 x5 x6 x7 x8 g a b := by
  unfold NodeB at h ⊢; rw [heap_setCell_at (heap_setCell_at (heap_setCell_at h _) _) _]; simp [ncells]
theorem NodeB.setparts {w : World} {nb : Nat} {op : Int} {pv x2 x3 x4 x5 x6 x7 x8 : Value} {ng : Bool} {p q : Int} (h : NodeB w nb op pv x2 x3 x4 x5 x6 x7 x8 ng p q) (a : Value) : NodeB (w.setCell ⟨nb, 1, none⟩ a) nb op a x2 x3 x4 x5 x6 x7 x8 ng p q := by
  unfold NodeB at h ⊢; rw [heap_setCell_at h a]; simp [ncells]

/-- Mut at one block, step by step. -/
theorem Mut.refl (w : World) (b : Nat) (o : Option Nat) : Mut w w b o := ⟨rfl, rfl, rfl, Nat.le_refl _, fun _ _ _ _ => rfl⟩
theorem Mut.set {w w1 : World} {b : Nat} {o : Option Nat} (h : Mut w w1 b o) (i : Nat) (v : Value) : Mut w (w1.setCell ⟨b, i, none⟩ v) b o :=
  ⟨h.os, h.tape, h.output, by simp only [World.size_setCell]; exact h.size, fun k hk k1 k2 => by rw [Below.heap_setCell _ _ _ _ (by simpa using k1)]; exact h.block k hk k1 k2⟩

set_option maxHeartbeats 1000000 in
theorem ratio_bad (w : World) (nb : Nat) (p q : Int) (p1 : -9223372036854775808 ≤ p) (p2 : p ≤ 9223372036854775807) (q1 : -9223372036854775808 ≤ q) (q2 : q ≤ 9223372036854775807) (hb : Bk.bad p q = true) :
    Calls Try.prog 51 #[.pointer (some ⟨nb, 0, none⟩), .int .i64 p, .int .i64 q] w fun e w' => e = .returned (.bool false) ∧ w = w' := by
  have a0 := Bk.usg_nonneg p
  have a1 := Bk.usg_le p p1 p2
  have b0 := Bk.usg_nonneg q
  have b1 := Bk.usg_le q q1 q2
  have hz : (Bk.usg q == 0) = true ∨ ((Bk.usg q == 0) = false ∧ Bk.usg q < Bk.usg p) := by
    simp [Bk.bad] at hb; simp; omega
  clear hb
  rcases hz with hz | ⟨hz, hlt⟩
  all_goals
    go_enter Try.func51, Try.ntmps51
    go_wp2_with (go_at_call 55; refine (rplain_any _ _ (by assumption) (by assumption)).mono ?_; rintro e w' ⟨rfl, rfl⟩)
    go_ret
    exact ⟨rfl, rfl⟩

/-- Is the ratio below 0, as the document's answer reckons it? -/
theorem neg_eq (p q : Int) : Bk.below p q = (decide (0 < Bk.usg p) && (decide (p < 0) != decide (q < 0))) := by
  unfold Bk.below
  congr 1
  have h := @Bk.usg_zero p
  have h2 := Bk.usg_nonneg p
  rw [Bool.eq_iff_iff]; simp only [bne_iff_ne, ne_eq, decide_eq_true_eq]; omega

/-- What the call leaves. -/
def RatioPost (w : World) (nb : Nat) (op : Int) (pv x6 x7 x8 : Value) (p q : Int) (e : Ending) (w' : World) : Prop :=
  e = .returned (.bool true) ∧ (∃ x2 x3 x4 x5, NodeB w' nb op pv x2 x3 x4 x5 x6 x7 x8 (Bk.below p q) (Bk.top p q) (Bk.bot p q)) ∧ Mut w w' nb none

set_option maxHeartbeats 4000000 in
theorem ratio_ok (w : World) (nb : Nat) (op : Int) (pv x2 x3 x4 x5 x6 x7 x8 : Value) (ng : Bool) (pp qq : Int) (hn : NodeB w nb op pv x2 x3 x4 x5 x6 x7 x8 ng pp qq) (p q : Int) (p1 : -9223372036854775808 ≤ p) (p2 : p ≤ 9223372036854775807) (q1 : -9223372036854775808 ≤ q) (q2 : q ≤ 9223372036854775807) (hb : Bk.bad p q = false) :
    Calls Try.prog 51 #[.pointer (some ⟨nb, 0, none⟩), .int .i64 p, .int .i64 q] w (RatioPost w nb op pv x6 x7 x8 p q) := by
  have a0 := Bk.usg_nonneg p
  have a1 := Bk.usg_le p p1 p2
  have b0 := Bk.usg_nonneg q
  have b1 := Bk.usg_le q q1 q2
  have hz : (Bk.usg q == 0) = false ∧ Bk.usg p ≤ Bk.usg q := by
    simp [Bk.bad] at hb; simp; omega
  obtain ⟨hz, hle⟩ := hz
  have hz1 : 0 < Bk.usg q := by simp at hz; omega
  clear hb
  have g0 := Bk.gcd_pos_left (Bk.usg q) (Bk.usg p) hz1
  have g1 := Bk.gcd_le_left (Bk.usg q) (Bk.usg p) hz1
  have g2 : (Bk.gcd (Bk.usg q) (Bk.usg p) == 0) = false := by simp; omega
  have t1 := quo_u64 (Bk.usg p) (Bk.gcd (Bk.usg q) (Bk.usg p)) a0 a1 g0
  have t2 := quo_u64 (Bk.usg q) (Bk.gcd (Bk.usg q) (Bk.usg p)) b0 b1 g0
  have HN := hide hn
  obtain ⟨n0, n1, n2, n3, n4, n5, n9, n10, n11, nf⟩ := hn.facts
  clear hn
  have HE : Hid (Bk.below p q = (decide (0 < Bk.usg p) && (decide (p < 0) != decide (q < 0)))) := neg_eq p q
  have HT : Hid (Bk.top p q = Bk.usg p / Bk.gcd (Bk.usg q) (Bk.usg p)) := rfl
  have HU : Hid (Bk.bot p q = Bk.usg q / Bk.gcd (Bk.usg q) (Bk.usg p)) := rfl
  go_enter Try.func51, Try.ntmps51
  go_wp2_with (go_at_call 55; refine (rplain_any _ _ (by assumption) (by assumption)).mono ?_; rintro e w' ⟨rfl, rfl⟩)
  go_loop [9, 10] (fun a b => ∃ x y : Int, 0 ≤ x ∧ x ≤ 9223372036854775808 ∧ 1 ≤ y ∧ y ≤ 9223372036854775808 ∧ a = .int .u64 x ∧ b = .int .u64 y ∧ Hid (Bk.gcd y x = Bk.gcd (Bk.usg q) (Bk.usg p))) (fun a _ => (intOf a).toNat)
  case atStart => exact ⟨Bk.usg p, Bk.usg q, a0, a1, by omega, b1, rfl, rfl, rfl⟩
  case round =>
    obtain ⟨x, y, hx0, hx1, hy0, hy1, rfl, rfl, hgx⟩ := hrel
    by_cases hx : 0 < x
    · have hm0 : 0 ≤ y % x := Int.emod_nonneg _ (by omega)
      have hm1 : y % x < x := Int.emod_lt_of_pos _ hx
      have hx' : (x == 0) = false := by simp; omega
      go_wp2
      go_round
      case rel => exact ⟨y % x, x, by omega, by omega, by omega, by omega, rfl, rfl, by rw [Hid, Bk.gcd_step y x (by omega) (by omega)]; exact hgx.out⟩
      case measure => simp [intOf]; omega
    · have hx2 : x = 0 := by omega
      subst hx2
      obtain rfl : y = Bk.gcd (Bk.usg q) (Bk.usg p) := by rw [← hgx.out, Bk.gcd_zero y (by omega)]
      clear hgx
      generalize Bk.gcd (Bk.usg q) (Bk.usg p) = g at *
      generalize Bk.usg p = up at *
      generalize Bk.usg q = uq at *
      by_cases c0 : 0 < up
      · have d0 : decide (0 < up) = true := by simpa using c0
        by_cases c1 : p < 0
        · have d1 : decide (p < 0) = true := by simpa using c1
          by_cases c2 : q < 0
          · have d2 : decide (q < 0) = true := by simpa using c2
            replace HE : Hid (Bk.below p q = false) := HE.out.trans (by rw [d0, d1, d2]; rfl)
            go_wp2_with fail
            refine (of_any _ _ (by omega) (by omega)).mono ?_
            rintro e w2 ⟨⟨x, rfl, s, a, n, c, rfl, hs1, hs2⟩, hb2⟩
            have N2 := hide ((HN.out.setpq (up / g) (uq / g) false).below hb2)
            have M2 := hide (((((Mut.refl w nb none).set 10 (.int .u64 (up / g))).set 11 (.int .u64 (uq / g))).set 9 (.bool false)).trans_below hb2)
            clear n0 n1 n2 n3 n4 n5 n9 n10 n11 nf hb2
            obtain ⟨n0, n1, n2, n3, n4, n5, n9, n10, n11, nf⟩ := N2.out.facts
            go_wp2_with fail
            refine (of_any _ _ (by omega) (by omega)).mono ?_
            rintro e w4 ⟨⟨x, rfl, s4, a4, m4, c4, rfl, hs4, hs5⟩, hb4⟩
            have N4 := hide ((N2.out.set23 (.int .i64 s) (.slice a n c)).below hb4)
            have M4 := hide (((M2.out.set 2 (.int .i64 s)).set 3 (.slice a n c)).trans_below hb4)
            clear n0 n1 n2 n3 n4 n5 n9 n10 n11 nf hb4
            obtain ⟨n0, n1, n2, n3, n4, n5, n9, n10, n11, nf⟩ := N4.out.facts
            go_wp2
            go_ret
            refine ⟨rfl, ⟨.int .i64 s, .slice a n c, .int .i64 s4, .slice a4 m4 c4, ?_⟩, (M4.out.set 4 _).set 5 _⟩
            rw [HE.out, HT.out, HU.out]
            exact N4.out.set45 _ _
          · have d2 : decide (q < 0) = false := by simpa using c2
            replace HE : Hid (Bk.below p q = true) := HE.out.trans (by rw [d0, d1, d2]; rfl)
            go_wp2_with fail
            refine (of_any _ _ (by omega) (by omega)).mono ?_
            rintro e w2 ⟨⟨x, rfl, s, a, n, c, rfl, hs1, hs2⟩, hb2⟩
            have N2 := hide ((HN.out.setpq (up / g) (uq / g) true).below hb2)
            have M2 := hide (((((Mut.refl w nb none).set 10 (.int .u64 (up / g))).set 11 (.int .u64 (uq / g))).set 9 (.bool true)).trans_below hb2)
            clear n0 n1 n2 n3 n4 n5 n9 n10 n11 nf hb2
            obtain ⟨n0, n1, n2, n3, n4, n5, n9, n10, n11, nf⟩ := N2.out.facts
            go_wp2_with fail
            refine (bneg_any _ s a n c hs1 hs2).mono ?_
            rintro e w3 ⟨⟨x, rfl, s', a', n', c', rfl, hs1', hs2'⟩, hb3⟩
            have N3 := hide ((N2.out.set23 (.int .i64 s) (.slice a n c)).below hb3)
            have M3 := hide (((M2.out.set 2 (.int .i64 s)).set 3 (.slice a n c)).trans_below hb3)
            clear n0 n1 n2 n3 n4 n5 n9 n10 n11 nf hb3
            obtain ⟨n0, n1, n2, n3, n4, n5, n9, n10, n11, nf⟩ := N3.out.facts
            go_wp2_with fail
            refine (of_any _ _ (by omega) (by omega)).mono ?_
            rintro e w4 ⟨⟨x, rfl, s4, a4, m4, c4, rfl, hs4, hs5⟩, hb4⟩
            have N4 := hide ((N3.out.set23 (.int .i64 s') (.slice a' n' c')).below hb4)
            have M4 := hide (((M3.out.set 2 (.int .i64 s')).set 3 (.slice a' n' c')).trans_below hb4)
            clear n0 n1 n2 n3 n4 n5 n9 n10 n11 nf hb4
            obtain ⟨n0, n1, n2, n3, n4, n5, n9, n10, n11, nf⟩ := N4.out.facts
            go_wp2
            go_ret
            refine ⟨rfl, ⟨.int .i64 s', .slice a' n' c', .int .i64 s4, .slice a4 m4 c4, ?_⟩, (M4.out.set 4 _).set 5 _⟩
            rw [HE.out, HT.out, HU.out]
            exact N4.out.set45 _ _
        · have d1 : decide (p < 0) = false := by simpa using c1
          by_cases c2 : q < 0
          · have d2 : decide (q < 0) = true := by simpa using c2
            replace HE : Hid (Bk.below p q = true) := HE.out.trans (by rw [d0, d1, d2]; rfl)
            go_wp2_with fail
            refine (of_any _ _ (by omega) (by omega)).mono ?_
            rintro e w2 ⟨⟨x, rfl, s, a, n, c, rfl, hs1, hs2⟩, hb2⟩
            have N2 := hide ((HN.out.setpq (up / g) (uq / g) true).below hb2)
            have M2 := hide (((((Mut.refl w nb none).set 10 (.int .u64 (up / g))).set 11 (.int .u64 (uq / g))).set 9 (.bool true)).trans_below hb2)
            clear n0 n1 n2 n3 n4 n5 n9 n10 n11 nf hb2
            obtain ⟨n0, n1, n2, n3, n4, n5, n9, n10, n11, nf⟩ := N2.out.facts
            go_wp2_with fail
            refine (bneg_any _ s a n c hs1 hs2).mono ?_
            rintro e w3 ⟨⟨x, rfl, s', a', n', c', rfl, hs1', hs2'⟩, hb3⟩
            have N3 := hide ((N2.out.set23 (.int .i64 s) (.slice a n c)).below hb3)
            have M3 := hide (((M2.out.set 2 (.int .i64 s)).set 3 (.slice a n c)).trans_below hb3)
            clear n0 n1 n2 n3 n4 n5 n9 n10 n11 nf hb3
            obtain ⟨n0, n1, n2, n3, n4, n5, n9, n10, n11, nf⟩ := N3.out.facts
            go_wp2_with fail
            refine (of_any _ _ (by omega) (by omega)).mono ?_
            rintro e w4 ⟨⟨x, rfl, s4, a4, m4, c4, rfl, hs4, hs5⟩, hb4⟩
            have N4 := hide ((N3.out.set23 (.int .i64 s') (.slice a' n' c')).below hb4)
            have M4 := hide (((M3.out.set 2 (.int .i64 s')).set 3 (.slice a' n' c')).trans_below hb4)
            clear n0 n1 n2 n3 n4 n5 n9 n10 n11 nf hb4
            obtain ⟨n0, n1, n2, n3, n4, n5, n9, n10, n11, nf⟩ := N4.out.facts
            go_wp2
            go_ret
            refine ⟨rfl, ⟨.int .i64 s', .slice a' n' c', .int .i64 s4, .slice a4 m4 c4, ?_⟩, (M4.out.set 4 _).set 5 _⟩
            rw [HE.out, HT.out, HU.out]
            exact N4.out.set45 _ _
          · have d2 : decide (q < 0) = false := by simpa using c2
            replace HE : Hid (Bk.below p q = false) := HE.out.trans (by rw [d0, d1, d2]; rfl)
            go_wp2_with fail
            refine (of_any _ _ (by omega) (by omega)).mono ?_
            rintro e w2 ⟨⟨x, rfl, s, a, n, c, rfl, hs1, hs2⟩, hb2⟩
            have N2 := hide ((HN.out.setpq (up / g) (uq / g) false).below hb2)
            have M2 := hide (((((Mut.refl w nb none).set 10 (.int .u64 (up / g))).set 11 (.int .u64 (uq / g))).set 9 (.bool false)).trans_below hb2)
            clear n0 n1 n2 n3 n4 n5 n9 n10 n11 nf hb2
            obtain ⟨n0, n1, n2, n3, n4, n5, n9, n10, n11, nf⟩ := N2.out.facts
            go_wp2_with fail
            refine (of_any _ _ (by omega) (by omega)).mono ?_
            rintro e w4 ⟨⟨x, rfl, s4, a4, m4, c4, rfl, hs4, hs5⟩, hb4⟩
            have N4 := hide ((N2.out.set23 (.int .i64 s) (.slice a n c)).below hb4)
            have M4 := hide (((M2.out.set 2 (.int .i64 s)).set 3 (.slice a n c)).trans_below hb4)
            clear n0 n1 n2 n3 n4 n5 n9 n10 n11 nf hb4
            obtain ⟨n0, n1, n2, n3, n4, n5, n9, n10, n11, nf⟩ := N4.out.facts
            go_wp2
            go_ret
            refine ⟨rfl, ⟨.int .i64 s, .slice a n c, .int .i64 s4, .slice a4 m4 c4, ?_⟩, (M4.out.set 4 _).set 5 _⟩
            rw [HE.out, HT.out, HU.out]
            exact N4.out.set45 _ _
      · have d0 : decide (0 < up) = false := by simpa using c0
        replace HE : Hid (Bk.below p q = false) := HE.out.trans (by rw [d0]; rfl)
        go_wp2_with fail
        refine (of_any _ _ (by omega) (by omega)).mono ?_
        rintro e w2 ⟨⟨x, rfl, s, a, n, c, rfl, hs1, hs2⟩, hb2⟩
        have N2 := hide ((HN.out.setpq (up / g) (uq / g) false).below hb2)
        have M2 := hide (((((Mut.refl w nb none).set 10 (.int .u64 (up / g))).set 11 (.int .u64 (uq / g))).set 9 (.bool false)).trans_below hb2)
        clear n0 n1 n2 n3 n4 n5 n9 n10 n11 nf hb2
        obtain ⟨n0, n1, n2, n3, n4, n5, n9, n10, n11, nf⟩ := N2.out.facts
        go_wp2_with fail
        refine (of_any _ _ (by omega) (by omega)).mono ?_
        rintro e w4 ⟨⟨x, rfl, s4, a4, m4, c4, rfl, hs4, hs5⟩, hb4⟩
        have N4 := hide ((N2.out.set23 (.int .i64 s) (.slice a n c)).below hb4)
        have M4 := hide (((M2.out.set 2 (.int .i64 s)).set 3 (.slice a n c)).trans_below hb4)
        clear n0 n1 n2 n3 n4 n5 n9 n10 n11 nf hb4
        obtain ⟨n0, n1, n2, n3, n4, n5, n9, n10, n11, nf⟩ := N4.out.facts
        go_wp2
        go_ret
        refine ⟨rfl, ⟨.int .i64 s, .slice a n c, .int .i64 s4, .slice a4 m4 c4, ?_⟩, (M4.out.set 4 _).set 5 _⟩
        rw [HE.out, HT.out, HU.out]
        exact N4.out.set45 _ _
end Go.Proofs.Ythacahellkmleaa
