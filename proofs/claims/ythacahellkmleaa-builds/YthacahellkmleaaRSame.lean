/- The contract of the document's same: two nodes are made of the same just where what they are made of is equal. -/
import Derived.Test.YthacahellkmleaaRRatio
namespace Go.Proofs.Ythacahellkmleaa
open Go.RowKit

/-- The parts of a node, by what it is made of. -/
def partsOf (m : Mk) : List Int := if m.1 = 1 then [] else if twoB m.1 then [m.2.1, m.2.2.1] else [m.2.1]
/-- What a node can be made of: nothing stands where its op has nothing. -/
structure Okm (m : Mk) : Prop where
  sg : m.2.2.2.1 = 0 ∨ m.2.2.2.1 = 1
  leaf : m.1 = 1 → m.2.1 = 0 ∧ m.2.2.1 = 0
  one : m.1 ≠ 1 → twoB m.1 = false → m.2.2.1 = 0
  bare : m.1 ≠ 1 → m.1 ≠ 5 → m.2.2.2.1 = 0 ∧ m.2.2.2.2.1 = 0 ∧ m.2.2.2.2.2 = 0

theorem partsOf_len {a b : Mk} (h : a.1 = b.1) : (partsOf a).length = (partsOf b).length := by
  unfold partsOf; rw [h]; split
  · rfl
  · split <;> rfl
theorem partsOf_few (m : Mk) : (partsOf m).length ≤ 2 := by
  unfold partsOf; split
  · simp
  · split <;> simp

theorem mk_eq_iff {a b : Mk} (ha : Okm a) (hb : Okm b) : a = b ↔ (a.1 = b.1 ∧ (a.2.2.2.1 == 1) = (b.2.2.2.1 == 1) ∧ a.2.2.2.2.1 = b.2.2.2.2.1 ∧ a.2.2.2.2.2 = b.2.2.2.2.2 ∧ partsOf a = partsOf b) := by
  constructor
  · rintro rfl; exact ⟨rfl, rfl, rfl, rfl, rfl⟩
  · rintro ⟨h1, h2, h3, h4, h5⟩
    obtain ⟨a0, a1, a2, a3, a4, a5⟩ := a
    obtain ⟨b0, b1, b2, b3, b4, b5⟩ := b
    obtain ⟨sa, al, ao, ab⟩ := ha
    obtain ⟨sb, bl, bo, bb⟩ := hb
    simp only at h1 h2 h3 h4 sa al ao ab sb bl bo bb
    subst h1
    have h3' : a3 = b3 := by
      rcases sa with rfl | rfl <;> rcases sb with rfl | rfl <;> simp_all
    unfold partsOf at h5
    simp only at h5
    by_cases e1 : a0 = 1
    · have x := al e1; have y := bl e1
      simp [h3', h3, h4, x, y]
    · rw [if_neg e1, if_neg e1] at h5
      cases e2 : twoB a0 with
      | true => simp only [e2, if_true, List.cons.injEq, and_true] at h5; simp [h3', h3, h4, h5]
      | false =>
        simp only [e2, Bool.false_eq_true, if_false, List.cons.injEq, and_true] at h5
        have x := ao e1 e2; have y := bo e1 e2
        simp [h3', h3, h4, h5, x, y]

/-- Parts in memory: their handles. -/
def PartsAt (w : World) (pv : Value) (hs : List Int) : Prop :=
  ∃ a c, pv = .slice a hs.length c ∧ (hs = [] ∨ ∃ g cur, a = some ⟨g, 0, none⟩ ∧ w.heap[g]? = some (.cells cur 109 (0, 0)) ∧ ∀ j h, hs[j]? = some h → cur[j * 4]? = some (.int .i64 h))
/-- A node of the document's answer in memory, made of m. -/
def NodeAt (w : World) (nb : Nat) (m : Mk) : Prop :=
  ∃ pv x2 x3 x4 x5 x6 x7 x8, NodeB w nb m.1 pv x2 x3 x4 x5 x6 x7 x8 (m.2.2.2.1 == 1) m.2.2.2.2.1 m.2.2.2.2.2 ∧ PartsAt w pv (partsOf m)

set_option maxRecDepth 100000 in
set_option maxHeartbeats 4000000 in
theorem same_any (w : World) (na nb : Nat) (a b : Mk) (ha : NodeAt w na a) (hb : NodeAt w nb b) (oa : Okm a) (ob : Okm b) :
    Calls Try.prog 58 #[.pointer (some ⟨na, 0, none⟩), .pointer (some ⟨nb, 0, none⟩)] w fun e w' => e = .returned (.bool (decide (a = b))) ∧ ∃ k, w' = w.drewN k := by
  have hiff := mk_eq_iff oa ob
  have hlen := @partsOf_len a b
  have few := partsOf_few a
  obtain ⟨pa, _, _, _, _, _, _, _, hA, aa, ca, rfl, hpa⟩ := ha
  obtain ⟨pb, _, _, _, _, _, _, _, hB, ab, cb, rfl, hpb⟩ := hb
  generalize partsOf a = qa at *
  generalize partsOf b = qb at *
  obtain ⟨p0, p1, _, _, _, _, p9, p10, p11, _⟩ := hA.facts
  obtain ⟨q0, q1, _, _, _, _, q9, q10, q11, _⟩ := hB.facts
  generalize a.1 = a0 at *
  generalize b.1 = b0 at *
  generalize (a.2.2.2.1 == 1) = a3 at *
  generalize (b.2.2.2.1 == 1) = b3 at *
  generalize a.2.2.2.2.1 = a4 at *
  generalize b.2.2.2.2.1 = b4 at *
  generalize a.2.2.2.2.2 = a5 at *
  generalize b.2.2.2.2.2 = b5 at *
  clear hA hB oa ob
  by_cases h0 : a0 = b0
  · subst h0
    have hl := hlen rfl
    rw [← hl] at q1
    have hl2 : qb.length ≤ 2 := by omega
    obtain ⟨n, hn⟩ : ∃ n, qa.length = n := ⟨_, rfl⟩
    rw [hn] at p1 q1 few
    have HNA := hide hn
    have HNB := hide (hl.symm.trans hn)
    clear hn hl hl2
    by_cases h3 : a3 = b3
    · subst h3
      by_cases h4 : a4 = b4
      · subst h4
        by_cases h5 : a5 = b5
        · subst h5
          replace hiff : a = b ↔ qa = qb := hiff.trans (by simp)
          have HI := hide hiff
          have HPA := hide hpa
          have HPB := hide hpb
          clear hiff hlen hpa hpb
          go_enter Try.func58, Try.ntmps58
          go_wp2
          go_quiet (fail)
          go_wp2
          go_loopw [5] (fun i wr => ∃ k : Nat, k ≤ n ∧ i = .int .i64 k ∧ Hid (∀ j, j < k → qa[j]? = qb[j]?) ∧ ∃ m, wr = w.drewN m) (fun i _ => n - (intOf i).toNat)
          case atStart => exact ⟨0, Nat.zero_le _, rfl, fun j hj => absurd hj (Nat.not_lt_zero j), _, rfl⟩
          case round =>
            obtain ⟨k, hk, rfl, hsame, m, rfl⟩ := hrel
            by_cases hlt : k < n
            · have ea : qa[k]? = some (qa[k]'(by rw [HNA.out]; exact hlt)) := List.getElem?_eq_getElem _
              have eb : qb[k]? = some (qb[k]'(by rw [HNB.out]; exact hlt)) := List.getElem?_eq_getElem _
              generalize qa[k]'(by rw [HNA.out]; exact hlt) = x at ea
              generalize qb[k]'(by rw [HNB.out]; exact hlt) = y at eb
              have hqa : qa ≠ [] := by intro h; rw [h] at ea; simp at ea
              have hqb : qb ≠ [] := by intro h; rw [h] at eb; simp at eb
              obtain ⟨ga, cura, rfl, hga, hca⟩ := HPA.out.resolve_left hqa
              obtain ⟨gb, curb, rfl, hgb, hcb⟩ := HPB.out.resolve_left hqb
              have ra : w.cell? ⟨ga, k * 4, none⟩ = some (.int .i64 x) := by rw [cell_of_row w ga _ _ _ _ hga]; exact hca k x ea
              have rb : w.cell? ⟨gb, k * 4, none⟩ = some (.int .i64 y) := by rw [cell_of_row w gb _ _ _ _ hgb]; exact hcb k y eb
              have k0 : (0 : Int) ≤ (k : Int) := Int.natCast_nonneg _
              have k1 : (k : Int) < (n : Int) := by omega
              have EA := hide ea
              have EB := hide eb
              clear hga hca hgb hcb ea eb hqa hqb
              by_cases hxy : x = y
              · subst hxy
                go_wp2
                go_quiet (fail)
                go_wp2
                go_roundw
                case rel =>
                  refine ⟨k + 1, by omega, by go_num, fun j hj => ?_, m + nq, by simp⟩
                  rcases Nat.lt_succ_iff_lt_or_eq.1 hj with h1 | h1
                  · exact hsame.out j h1
                  · subst h1; rw [EA.out, EB.out]
                case measure => simp [intOf]; omega
              · have hxy' : (x != y) = true := by simpa using hxy
                have HF : Hid (decide (a = b) = false) := by
                  rw [Hid, decide_eq_false_iff_not, HI.out]; intro h
                  have := EA.out; rw [h, EB.out] at this; exact hxy (Option.some.inj this).symm
                go_wp2
                go_quiet (fail)
                go_wp2
                go_ret
                rw [HF.out]
                exact ⟨rfl, _, World.drewN_drewN _ _ _⟩
            · have HT : Hid (decide (a = b) = true) := by
                rw [Hid, decide_eq_true_eq, HI.out]
                refine List.ext_getElem? fun j => ?_
                rcases Nat.lt_or_ge j k with h1 | h1
                · exact hsame.out j h1
                · rw [List.getElem?_eq_none (by rw [HNA.out]; omega), List.getElem?_eq_none (by rw [HNB.out]; omega)]
              go_wp2
              go_ret
              rw [HT.out]
              exact ⟨rfl, _, rfl⟩
        · have hx : (a5 != b5) = true := by simpa using h5
          have HI : Hid (decide (a = b) = false) := by rw [Hid, decide_eq_false_iff_not, hiff]; simp [h5]
          clear hiff hlen
          go_enter Try.func58, Try.ntmps58
          go_wp2
          go_quiet (fail)
          go_wp2
          go_ret
          rw [HI.out]
          exact ⟨rfl, _, rfl⟩
      · have hx : (a4 != b4) = true := by simpa using h4
        have HI : Hid (decide (a = b) = false) := by rw [Hid, decide_eq_false_iff_not, hiff]; simp [h4]
        clear hiff hlen
        go_enter Try.func58, Try.ntmps58
        go_wp2
        go_quiet (fail)
        go_wp2
        go_ret
        rw [HI.out]
        exact ⟨rfl, _, rfl⟩
    · have HI : Hid (decide (a = b) = false) := by rw [Hid, decide_eq_false_iff_not, hiff]; simp [h3]
      clear hiff hlen
      cases a3 <;> cases b3
      · exact absurd rfl h3
      · clear h3
        go_enter Try.func58, Try.ntmps58
        go_wp2
        go_quiet (fail)
        go_wp2
        go_ret
        rw [HI.out]
        exact ⟨rfl, _, rfl⟩
      · clear h3
        go_enter Try.func58, Try.ntmps58
        go_wp2
        go_quiet (fail)
        go_wp2
        go_ret
        rw [HI.out]
        exact ⟨rfl, _, rfl⟩
      · exact absurd rfl h3
  · have hx : (a0 != b0) = true := by simpa using h0
    have HI : Hid (decide (a = b) = false) := by rw [Hid, decide_eq_false_iff_not, hiff]; simp [h0]
    clear hiff hlen
    go_enter Try.func58, Try.ntmps58
    go_wp2
    go_quiet (fail)
    go_wp2
    go_ret
    rw [HI.out]
    exact ⟨rfl, _, rfl⟩
end Go.Proofs.Ythacahellkmleaa
