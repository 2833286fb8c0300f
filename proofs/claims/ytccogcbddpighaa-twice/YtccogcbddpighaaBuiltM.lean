/- Plain mathematics of what is built of a plan: the nodes, and the handles of the rows; every row is taken, and its handle is one of the nodes. -/
import Derived.Test.YtccogcbddpighaaCalls
import Derived.Test.YtccogcbddpighaaPlanM
namespace Go.Proofs.Ytccogcbddpighaa
namespace Bk

def hAt (hs : List Int) (a : Int) : Int := (hs[(a - 1).toNat]?).getD 0
/-- One row more: the handle, the error, the nodes. -/
def bstep (ms : List Mk) (hs : List Int) (r : Row) : Int × Int × List Mk :=
  if r.op = 1 then leafR false ms r.p r.q else if r.op = 5 then scaleR false ms (hAt hs r.a) r.p r.q else nodeR false ms r.op (hAt hs r.a) (hAt hs r.b)
def bld (l : List Row) : Nat → List Mk × List Int
  | 0 => ([], [])
  | k + 1 => match l[k]? with
    | some r => ((bstep (bld l k).1 (bld l k).2 r).2.2, (bld l k).2 ++ [(bstep (bld l k).1 (bld l k).2 r).1])
    | none => bld l k

theorem bad_row (p q : Int) (q1 : 1 ≤ q) (p1 : p ≤ q) (p2 : -q ≤ p) : bad p q = false := by
  have e1 : usg q = q := usg_pos (by omega)
  have e2 : usg p ≤ q := by unfold usg; split <;> omega
  simp only [bad, e1, Bool.or_eq_false_iff, beq_eq_false_iff_ne, decide_eq_false_iff_not]
  omega

/-- Adding where there is room: no error; the handle is a node's; the nodes that were there stay at their places. -/
theorem add_room (ms : List Mk) (m : Mk) (h : ms.length < 24) : addE ms m = 0 ∧ 1 ≤ addH ms m ∧ addH ms m ≤ (addL ms m).length ∧ (addL ms m).length ≤ ms.length + 1 ∧ ms.length ≤ (addL ms m).length ∧ (∃ t, addL ms m = ms ++ t) ∧ (addL ms m)[(addH ms m - 1).toNat]? = some m := by
  by_cases hm : m ∈ ms
  · have h1 : ms.idxOf m < ms.length := List.idxOf_lt_length_iff.2 hm
    simp only [addE, addH, addL, if_pos hm]
    refine ⟨trivial, by omega, by omega, by omega, Nat.le_refl _, ⟨[], by simp⟩, ?_⟩
    rw [show ((ms.idxOf m : Int) + 1 - 1).toNat = ms.idxOf m by omega]
    exact List.getElem?_eq_some_iff.2 ⟨h1, List.getElem_idxOf h1⟩
  · have hr : ¬ 24 ≤ ms.length := by omega
    simp only [addE, addH, addL, if_neg hm, if_neg hr]
    refine ⟨trivial, by omega, by simp, by simp, by simp, ⟨[m], rfl⟩, ?_⟩
    rw [show ((ms.length : Int) + 1 - 1).toNat = ms.length by omega]
    simp

/-- Every handle is a node's. -/
def Good (n : Nat) (hs : List Int) : Prop := ∀ h ∈ hs, 1 ≤ h ∧ h ≤ n
theorem hAt_good {n : Nat} {hs : List Int} (h : Good n hs) (a : Int) (h1 : 1 ≤ a) (h2 : a ≤ hs.length) : hs[(a - 1).toNat]? = some (hAt hs a) ∧ hasB n (hAt hs a) = true := by
  have hlt : (a - 1).toNat < hs.length := by omega
  have e : hs[(a - 1).toNat]? = some hs[(a - 1).toNat] := List.getElem?_eq_getElem hlt
  have := h _ (List.getElem_mem hlt)
  unfold hAt
  rw [e]
  refine ⟨rfl, ?_⟩
  show hasB n hs[(a - 1).toNat] = true
  simp only [hasB, Bool.and_eq_true, decide_eq_true_eq]; exact this

/-- What a row is made of. -/
def made (hs : List Int) (r : Row) : Mk :=
  if r.op = 1 then (1, 0, 0, sgn r.p r.q, top r.p r.q, bot r.p r.q) else if r.op = 5 then (5, hAt hs r.a, 0, sgn r.p r.q, top r.p r.q, bot r.p r.q) else if oneB r.op then (r.op, hAt hs r.a, 0, 0, 0, 0) else (r.op, hAt hs r.a, hAt hs r.b, 0, 0, 0)

theorem bstep_add {k : Nat} {ms : List Mk} {hs : List Int} {r : Row} (hg : Good ms.length hs) (hl : hs.length = k) (hr : Okrow k r) : bstep ms hs r = addR ms (made hs r) := by
  have hb := bad_row r.p r.q hr.q1 hr.p1 hr.p2
  unfold bstep made
  by_cases h1 : r.op = 1
  · simp [h1, leafR, hb]
  · have hk : 3 ≤ k := by
      rcases Nat.lt_or_ge k 3 with h | h
      · exact absurd (hr.leaf h) h1
      · exact h
    obtain ⟨o2, o8, a1, a2, b1, b2⟩ := hr.op hk
    have ha := (hAt_good hg r.a a1 (by omega)).2
    have hb' := (hAt_good hg r.b b1 (by omega)).2
    by_cases h5 : r.op = 5
    · simp [h5, scaleR, ha, hb]
    · have hop : r.op = 2 ∨ r.op = 3 ∨ r.op = 4 ∨ r.op = 6 ∨ r.op = 7 ∨ r.op = 8 := by omega
      rcases hop with h | h | h | h | h | h <;> simp [h, nodeR, ha, hb', twoB, oneB]

structure Bok (k : Nat) (s : List Mk × List Int) : Prop where
  len : s.2.length = k
  few : s.1.length ≤ k
  good : Good s.1.length s.2

theorem bld_ok (l : List Row) (hl : ∀ k r, l[k]? = some r → Okrow k r) (n : Nat) (hn : n ≤ l.length) (h24 : n ≤ 24) : Bok n (bld l n) := by
  induction n with
  | zero => exact ⟨rfl, Nat.le_refl _, fun h hh => by simp [bld] at hh⟩
  | succ n ih =>
    obtain ⟨i1, i2, i3⟩ := ih (by omega) (by omega)
    have hr : l[n]? = some l[n] := List.getElem?_eq_getElem (by omega)
    have hs := bstep_add i3 i1 (hl n _ hr)
    have ha := add_room (bld l n).1 (made (bld l n).2 l[n]) (by omega)
    have hb : bld l (n + 1) = (addL (bld l n).1 (made (bld l n).2 l[n]), (bld l n).2 ++ [addH (bld l n).1 (made (bld l n).2 l[n])]) := by
      rw [bld, hr]; simp only [hs, addR]
    rw [hb]
    refine ⟨by simp [i1], by simp only; omega, ?_⟩
    intro h hh
    simp only [List.mem_append, List.mem_singleton] at hh
    rcases hh with hh | hh
    · have := i3 h hh; simp only; omega
    · subst hh; simp only; omega
end Bk
end Go.Proofs.Ytccogcbddpighaa
