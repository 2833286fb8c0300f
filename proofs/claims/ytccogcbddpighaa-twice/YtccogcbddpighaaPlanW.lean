/- The contract of plan: of raw numbers, the rows of a plan, in new memory. -/
import Derived.Test.YtccogcbddpighaaResult
import Derived.Deep.AppendLies
import Derived.Deep.RegionHeld3
import Derived.Deep.CutRange
namespace Go.Proofs.Ytccogcbddpighaa
open Go.RowKit

/-- The cells of a plan's row, and of a plan. -/
def prow (r : Bk.Row) : List Value := [.int .i64 r.op, .int .i64 r.a, .int .i64 r.b, .int .i64 r.p, .int .i64 r.q, .int .i64 r.is.1, .int .i64 r.is.2]
def prows : List Bk.Row → List Value
  | [] => []
  | r :: l => prow r ++ prows l
theorem prows_length (l : List Bk.Row) : (prows l).length = l.length * 7 := by
  induction l with
  | nil => rfl
  | cons m r ih => simp [prows, prow, ih]; omega
theorem prows_append (a b : List Bk.Row) : prows (a ++ b) = prows a ++ prows b := by
  induction a with
  | nil => rfl
  | cons m r ih => simp [prows, ih]
theorem prows_at (l : List Bk.Row) (k j : Nat) (r : Bk.Row) (h : l[k]? = some r) (hj : j < 7) : (prows l)[k * 7 + j]? = (prow r)[j]? := by
  induction l generalizing k with
  | nil => simp at h
  | cons x t ih =>
    cases k with
    | zero =>
      simp at h; subst h
      rw [prows, List.getElem?_append_left (by simp [prow]; omega)]; simp
    | succ k =>
      rw [prows, List.getElem?_append_right (by simp [prow]; omega)]
      have := ih k (by simpa using h)
      rw [← this]; congr 1; simp [prow]; omega

theorem owns_at {w : World} {B e s : Nat} {v : Value} {n : Nat} {xs : List Value} (h : w.ownsRow B e s v n xs) {g cap : Nat} (hv : v = .slice (some ⟨g, 0, none⟩) n cap) (j : Nat) (u : Value) (hu : xs[j]? = some u) : w.cell? ⟨g, j, none⟩ = some u := by
  rcases h.2 with ⟨h0, h1⟩ | ⟨g', cap', cur, hv', _, hg, hn, _, hsz, htake⟩
  · rw [hv] at h0; cases h0
  · rw [hv] at hv'
    cases hv'
    rw [cell_of_row w g _ cur _ _ hg]
    rw [← htake, List.getElem?_take] at hu
    split at hu
    · rw [← Array.getElem?_toList, hu]
    · cases hu

theorem owns_below {w w' : World} {B e s : Nat} {v : Value} {n : Nat} {xs : List Value} (h : w.ownsRow B e s v n xs) (hb : Below w.heap.size w w') : w'.ownsRow B e s v n xs := by
  refine ⟨h.1, ?_⟩
  rcases h.2 with hn | ⟨g, cap, cur, rfl, h1, hgg, rest⟩
  · exact .inl hn
  · refine .inr ⟨g, cap, cur, rfl, h1, ?_, rest⟩
    rw [hb.block g (Array.getElem?_eq_some_iff.1 hgg).1]; exact hgg

theorem Try.infoPlan : (Try.prog.info? 37).map (fun i => (i.zero, i.size, i.bytes)) = some (some (.agg #[.int .i64 0, .int .i64 0, .int .i64 0, .int .i64 0, .int .i64 0, .int .i64 0, .int .i64 0]), 7, 56) := by kernel_rfl

theorem tdiv_in (c n : Int) (hn : 1 ≤ n) (h : -9223372036854775808 ≤ c ∧ c ≤ 9223372036854775807) : -9223372036854775808 ≤ c.tdiv n ∧ c.tdiv n ≤ 9223372036854775807 := by
  by_cases h0 : 0 ≤ c
  · rw [Int.tdiv_eq_ediv_of_nonneg h0]
    have h1 := Int.ediv_nonneg h0 (show 0 ≤ n by omega)
    have h2 := Int.ediv_le_self n h0
    omega
  · have e : c.tdiv n = -((-c).tdiv n) := by rw [Int.neg_tdiv]; omega
    rw [e, Int.tdiv_eq_ediv_of_nonneg (by omega)]
    have h1 := Int.ediv_nonneg (show 0 ≤ -c by omega) (show 0 ≤ n by omega)
    have h2 := Int.ediv_le_self n (show 0 ≤ -c by omega)
    omega

/-- Within a row's bounds. -/
structure Okr2 (p q : Int) : Prop where
  up : p ≤ q
  dn : -q ≤ p

/-- What the call leaves. -/
def PlanPost (w : World) (zs : List Int) (e : Ending) (w' : World) : Prop :=
  ∃ v, e = .returned v ∧ w'.ownsRow w.heap.size 37 7 v (Bk.plan zs).length (prows (Bk.plan zs)) ∧ Below w.heap.size w w'

def planRel (w : World) (zs : List Int) (k : Nat) (v : Value) (wr : World) : Prop :=
  wr.ownsRow w.heap.size 37 7 v k (prows (Bk.planTo zs k)) ∧ Below w.heap.size w wr

/-- One row more, by the append. -/
theorem planRel_step {w wr w1 w2 : World} {zs : List Int} {k g cap : Nat} {v : Value} (h : planRel w zs k v wr) (hb : Below wr.heap.size wr w1)
    (hown : w2.ownsRow w.heap.size 37 7 (.slice (some ⟨g, 0, none⟩) (k + 1) cap) (k + 1) (prows (Bk.planTo zs k) ++ prow (Bk.row (Bk.planTo zs k) (zs.getD k 0)))) (hgrow : w1.grownBy w2 v.ownBlock) :
    planRel w zs (k + 1) (.slice (some ⟨g, 0, none⟩) (k + 1) cap) w2 := by
  refine ⟨?_, ?_⟩
  · rw [Bk.planTo, prows_append]; simpa [prows] using hown
  · have h1 : Below w.heap.size w w1 := h.2.trans (hb.mono h.2.size)
    exact h1.grown hgrow h1.size fun j hj => (h.1.lt j hj).1

theorem hide {p : Prop} (h : p) : Hid p := h

/-- The parts of a row behind the third. -/
theorem plan_parts {w1 : World} {B k g cap : Nat} {zs : List Int} (h : w1.ownsRow B 37 7 (.slice (some ⟨g, 0, none⟩) k cap) k (prows (Bk.planTo zs k))) (c : Int) (hk : ¬ k < 3) (ia ib : Nat)
    (hia : Bk.pick (c.tdiv 3) k = ia) (hib : Bk.pick (c.tdiv 11) k = ib) (la : ia < k) (lb : ib < k) :
    ∃ a1 a2 b1 b2 : Int, Bk.Okr (a1, a2) ∧ Bk.Okr (b1, b2) ∧ w1.cell? ⟨g, ia * 7 + 5, none⟩ = some (.int .i64 a1) ∧ w1.cell? ⟨g, ia * 7 + 6, none⟩ = some (.int .i64 a2) ∧
      w1.cell? ⟨g, ib * 7 + 5, none⟩ = some (.int .i64 b1) ∧ w1.cell? ⟨g, ib * 7 + 6, none⟩ = some (.int .i64 b2) ∧
      Bk.row (Bk.planTo zs k) c = Bk.rowBig (2 + Bk.pick (c.tdiv 105) 7) (1 + ia) (1 + ib) (Bk.num c) (1 + Bk.pick c 7) (a1, a2) (b1, b2) (Bk.small (Bk.num c) (1 + Bk.pick c 7)) := by
  have hra : (Bk.planTo zs k)[ia]? = some ((Bk.planTo zs k)[ia]'(by rw [Bk.planTo_length]; exact la)) := List.getElem?_eq_getElem _
  have hrb : (Bk.planTo zs k)[ib]? = some ((Bk.planTo zs k)[ib]'(by rw [Bk.planTo_length]; exact lb)) := List.getElem?_eq_getElem _
  generalize (Bk.planTo zs k)[ia]'(by rw [Bk.planTo_length]; exact la) = ra at hra
  generalize (Bk.planTo zs k)[ib]'(by rw [Bk.planTo_length]; exact lb) = rb at hrb
  refine ⟨ra.is.1, ra.is.2, rb.is.1, rb.is.2, (Bk.planTo_ok zs k ia _ hra).is, (Bk.planTo_ok zs k ib _ hrb).is, ?_, ?_, ?_, ?_, ?_⟩
  · exact owns_at h rfl _ _ (prows_at _ ia 5 _ hra (by decide))
  · exact owns_at h rfl _ _ (prows_at _ ia 6 _ hra (by decide))
  · exact owns_at h rfl _ _ (prows_at _ ib 5 _ hrb (by decide))
  · exact owns_at h rfl _ _ (prows_at _ ib 6 _ hrb (by decide))
  · rw [Bk.row_big _ _ (by rw [Bk.planTo_length]; exact hk), Bk.planTo_length, hia, hib]
    have e1 : Bk.isAt (Bk.planTo zs k) (1 + (ia : Int)) = ra.is := by
      rw [Bk.isAt, show (1 + (ia : Int) - 1).toNat = ia by omega, hra]; rfl
    have e2 : Bk.isAt (Bk.planTo zs k) (1 + (ib : Int)) = rb.is := by
      rw [Bk.isAt, show (1 + (ib : Int) - 1).toNat = ib by omega, hrb]; rfl
    rw [e1, e2]

/-- What is known behind a callee that turns nothing old, of the row under way and of the rows that are there. -/
theorem after_call {w1 W w2 : World} {c0 c1 c2 c3 c4 c5 c6 : Value} {g : Nat} (hb : Below W.heap.size W w2) (hg : g < w1.heap.size)
    (hW : Below (w1.heap.size + 1) (w1.alloc (.cells #[c0, c1, c2, c3, c4, c5, c6] 37)) W) :
    Hid (Below w1.heap.size w1 w2) ∧ Hid (w2.heap[w1.heap.size]? = some (.cells #[c0, c1, c2, c3, c4, c5, c6] 37 (0, 0))) ∧ w1.heap.size < w2.heap.size ∧ g < w2.heap.size ∧
    w2.cell? ⟨w1.heap.size, 0, none⟩ = some c0 ∧ w2.cell? ⟨w1.heap.size, 1, none⟩ = some c1 ∧ w2.cell? ⟨w1.heap.size, 2, none⟩ = some c2 ∧ w2.cell? ⟨w1.heap.size, 3, none⟩ = some c3 ∧ w2.cell? ⟨w1.heap.size, 4, none⟩ = some c4 ∧ w2.cell? ⟨w1.heap.size, 5, none⟩ = some c5 ∧ w2.cell? ⟨w1.heap.size, 6, none⟩ = some c6 ∧
    w2.frozen? ⟨w1.heap.size, 0, none⟩ = false ∧ w2.frozen? ⟨w1.heap.size, 5, none⟩ = false ∧ w2.frozen? ⟨w1.heap.size, 6, none⟩ = false ∧ (∀ j, w2.cell? ⟨g, j, none⟩ = w1.cell? ⟨g, j, none⟩) := by
  have hs := hW.size
  have hz := hb.size
  simp only [World.size_alloc] at hs
  have h0 : w2.heap[w1.heap.size]? = some (.cells #[c0, c1, c2, c3, c4, c5, c6] 37 (0, 0)) := by
    rw [hb.block _ (by omega), hW.block _ (by omega)]; exact heap_alloc_new w1 _
  have hB : Below w1.heap.size w1 w2 := (((Below.refl _ _).alloc (Nat.le_refl _) _).trans (hW.mono (by omega))).trans (hb.mono (by omega))
  refine ⟨hB, h0, by omega, by omega, ?_, ?_, ?_, ?_, ?_, ?_, ?_, ?_, ?_, ?_, fun j => hB.cell (p := ⟨g, j, none⟩) hg⟩
  · rw [cell_of_row w2 _ 0 _ _ _ h0]; rfl
  · rw [cell_of_row w2 _ 1 _ _ _ h0]; rfl
  · rw [cell_of_row w2 _ 2 _ _ _ h0]; rfl
  · rw [cell_of_row w2 _ 3 _ _ _ h0]; rfl
  · rw [cell_of_row w2 _ 4 _ _ _ h0]; rfl
  · rw [cell_of_row w2 _ 5 _ _ _ h0]; rfl
  · rw [cell_of_row w2 _ 6 _ _ _ h0]; rfl
  · simp [World.frozen?, h0]
  · simp [World.frozen?, h0]
  · simp [World.frozen?, h0]

/-- A block of two cells that was made right ahead of the callee. -/
theorem after_two {w1 w2 : World} {x : Obj} {a b : Value} (hb : Below ((w1.alloc x).alloc (.cells #[a, b] 35)).drew.heap.size ((w1.alloc x).alloc (.cells #[a, b] 35)).drew w2) :
    w2.cell? ⟨w1.heap.size + 1, 0, none⟩ = some a ∧ w2.cell? ⟨w1.heap.size + 1, 1, none⟩ = some b ∧ w2.frozen? ⟨w1.heap.size + 1, 0, none⟩ = false ∧ w2.frozen? ⟨w1.heap.size + 1, 1, none⟩ = false ∧ w1.heap.size + 1 < w2.heap.size := by
  have hz := hb.size
  simp at hz
  refine ⟨?_, ?_, ?_, ?_, by omega⟩
  · rw [hb.cell (p := ⟨w1.heap.size + 1, 0, none⟩) (by simp)]; simp [go_sem]
  · rw [hb.cell (p := ⟨w1.heap.size + 1, 1, none⟩) (by simp)]; simp [go_sem]
  · rw [hb.frozen (p := ⟨w1.heap.size + 1, 0, none⟩) (by simp)]; simp [go_sem]
  · rw [hb.frozen (p := ⟨w1.heap.size + 1, 1, none⟩) (by simp)]; simp [go_sem]

/-- The row under way at w1's end, and a ratio at the block I. -/
structure AfterIs (w1 wx : World) (I : Nat) (c0 c1 c2 c3 c4 c5 c6 r1 r2 : Value) : Prop where
  row : wx.heap[w1.heap.size]? = some (.cells #[c0, c1, c2, c3, c4, c5, c6] 37 (0, 0))
  is : wx.heap[I]? = some (.cells #[r1, r2] 35 (0, 0))
  up : w1.heap.size < I
  old : Below w1.heap.size w1 wx

theorem afterIs_new {w1 w2 : World} {c0 c1 c2 c3 c4 c5 c6 r1 r2 : Value} (hB : Below w1.heap.size w1 w2) (hX : w2.heap[w1.heap.size]? = some (.cells #[c0, c1, c2, c3, c4, c5, c6] 37 (0, 0))) :
    AfterIs w1 (w2.alloc (.cells #[r1, r2] 35)) w2.heap.size c0 c1 c2 c3 c4 c5 c6 r1 r2 := by
  have h1 : w1.heap.size < w2.heap.size := by
    rcases Nat.lt_or_ge w1.heap.size w2.heap.size with h | h
    · exact h
    · rw [Array.getElem?_eq_none h] at hX; cases hX
  exact ⟨by rw [Below.heap_alloc _ _ _ h1]; exact hX, heap_alloc_new _ _, h1, hB.alloc hB.size _⟩

theorem afterIs_set {w1 wx : World} {I : Nat} {c0 c1 c2 c3 c4 c5 c6 a b r1 r2 : Value} (h : AfterIs w1 wx I c0 c1 c2 c3 c4 c5 c6 a b) :
    AfterIs w1 ((wx.setCell ⟨I, 0, none⟩ r1).setCell ⟨I, 1, none⟩ r2) I c0 c1 c2 c3 c4 c5 c6 r1 r2 := by
  obtain ⟨h1, h2, h3, h4⟩ := h
  refine ⟨?_, ?_, h3, (h4.setCell (p := ⟨I, 0, none⟩) (Nat.le_of_lt h3) _).setCell (p := ⟨I, 1, none⟩) (Nat.le_of_lt h3) _⟩
  · rw [Below.heap_setCell _ _ _ _ (by simp; omega), Below.heap_setCell _ _ _ _ (by simp; omega)]; exact h1
  · simp [World.setCell, Array.getElem?_modify, h2]

theorem afterIs_two {w1 w2 : World} {c0 c1 c2 c3 c4 c5 c6 a b : Value} (hB : Below w1.heap.size w1 w2) (hX : w2.heap[w1.heap.size]? = some (.cells #[c0, c1, c2, c3, c4, c5, c6] 37 (0, 0)))
    {x : Obj} (hb : Below ((w1.alloc x).alloc (.cells #[a, b] 35)).drew.heap.size ((w1.alloc x).alloc (.cells #[a, b] 35)).drew w2) :
    AfterIs w1 w2 (w1.heap.size + 1) c0 c1 c2 c3 c4 c5 c6 a b := by
  refine ⟨hX, ?_, by omega, hB⟩
  rw [hb.block _ (by simp)]
  have h1 := heap_alloc_new (w1.alloc x) (.cells #[a, b] 35)
  rw [World.size_alloc] at h1
  exact h1

theorem afterIs_op {w1 wx : World} {I : Nat} {c0 c1 c2 c3 c4 c5 c6 r1 r2 : Value} (h : AfterIs w1 wx I c0 c1 c2 c3 c4 c5 c6 r1 r2) (u : Value) :
    AfterIs w1 (wx.setCell ⟨w1.heap.size, 0, none⟩ u) I u c1 c2 c3 c4 c5 c6 r1 r2 := by
  obtain ⟨h1, h2, h3, h4⟩ := h
  refine ⟨?_, ?_, h3, h4.setCell (p := ⟨w1.heap.size, 0, none⟩) (Nat.le_refl _) _⟩
  · simp [World.setCell, Array.getElem?_modify, h1]
  · rw [Below.heap_setCell _ _ _ _ (by simp; omega)]; exact h2

theorem afterIs_below {w1 wx w2 : World} {I : Nat} {c0 c1 c2 c3 c4 c5 c6 r1 r2 : Value} (h : AfterIs w1 wx I c0 c1 c2 c3 c4 c5 c6 r1 r2) (hb : Below wx.drew.heap.size wx.drew w2) :
    AfterIs w1 w2 I c0 c1 c2 c3 c4 c5 c6 r1 r2 := by
  obtain ⟨h1, h2, h3, h4⟩ := h
  have lt1 : w1.heap.size < wx.heap.size := (Array.getElem?_eq_some_iff.1 h1).1
  have lt2 : I < wx.heap.size := (Array.getElem?_eq_some_iff.1 h2).1
  exact ⟨(hb.block _ lt1).trans h1, (hb.block _ lt2).trans h2, h3, (h4.drew).trans (hb.mono h4.size)⟩

theorem new_at (w : World) (o : Obj) (n : Nat) (h : w.heap.size = n) : (w.alloc o).heap[n]? = some o := by subst h; exact heap_alloc_new w o

theorem owns_set {w : World} {B e s : Nat} {v : Value} {n : Nat} {xs : List Value} (h : w.ownsRow B e s v n xs) {b : Nat} (hne : v.ownBlock ≠ some b) (i : Nat) (u : Value) : (w.setCell ⟨b, i, none⟩ u).ownsRow B e s v n xs := by
  refine ⟨h.1, ?_⟩
  rcases h.2 with hn | ⟨g, cap, cur, rfl, h1, hgg, rest⟩
  · exact .inl hn
  · refine .inr ⟨g, cap, cur, rfl, h1, ?_, rest⟩
    rw [Below.heap_setCell _ _ _ _ (by simpa [Value.ownBlock] using hne)]; exact hgg

theorem AfterIs.facts {w1 wx : World} {I : Nat} {c0 c1 c2 c3 c4 c5 c6 r1 r2 : Value} (h : AfterIs w1 wx I c0 c1 c2 c3 c4 c5 c6 r1 r2) {g : Nat} (hg : g < w1.heap.size) :
    wx.cell? ⟨w1.heap.size, 0, none⟩ = some c0 ∧ wx.cell? ⟨w1.heap.size, 1, none⟩ = some c1 ∧ wx.cell? ⟨w1.heap.size, 2, none⟩ = some c2 ∧ wx.cell? ⟨w1.heap.size, 3, none⟩ = some c3 ∧ wx.cell? ⟨w1.heap.size, 4, none⟩ = some c4 ∧ wx.cell? ⟨w1.heap.size, 5, none⟩ = some c5 ∧ wx.cell? ⟨w1.heap.size, 6, none⟩ = some c6 ∧
    wx.frozen? ⟨w1.heap.size, 0, none⟩ = false ∧ wx.frozen? ⟨w1.heap.size, 5, none⟩ = false ∧ wx.frozen? ⟨w1.heap.size, 6, none⟩ = false ∧
    wx.cell? ⟨I, 0, none⟩ = some r1 ∧ wx.cell? ⟨I, 1, none⟩ = some r2 ∧ wx.frozen? ⟨I, 0, none⟩ = false ∧ wx.frozen? ⟨I, 1, none⟩ = false ∧
    ¬ I = w1.heap.size ∧ ¬ w1.heap.size = I ∧ w1.heap.size < wx.heap.size ∧ I < wx.heap.size ∧ ¬ g = I ∧ ¬ I = g ∧ (∀ j, wx.cell? ⟨g, j, none⟩ = w1.cell? ⟨g, j, none⟩) := by
  obtain ⟨h0, h1, h2, h3⟩ := h
  have lt1 : w1.heap.size < wx.heap.size := (Array.getElem?_eq_some_iff.1 h0).1
  have lt2 : I < wx.heap.size := (Array.getElem?_eq_some_iff.1 h1).1
  refine ⟨?_, ?_, ?_, ?_, ?_, ?_, ?_, ?_, ?_, ?_, ?_, ?_, ?_, ?_, by omega, by omega, lt1, lt2, by omega, by omega, fun j => h3.cell (p := ⟨g, j, none⟩) hg⟩
  · rw [cell_of_row wx _ 0 _ _ _ h0]; rfl
  · rw [cell_of_row wx _ 1 _ _ _ h0]; rfl
  · rw [cell_of_row wx _ 2 _ _ _ h0]; rfl
  · rw [cell_of_row wx _ 3 _ _ _ h0]; rfl
  · rw [cell_of_row wx _ 4 _ _ _ h0]; rfl
  · rw [cell_of_row wx _ 5 _ _ _ h0]; rfl
  · rw [cell_of_row wx _ 6 _ _ _ h0]; rfl
  · simp [World.frozen?, h0]
  · simp [World.frozen?, h0]
  · simp [World.frozen?, h0]
  · rw [cell_of_row wx _ 0 _ _ _ h1]; rfl
  · rw [cell_of_row wx _ 1 _ _ _ h1]; rfl
  · simp [World.frozen?, h1]
  · simp [World.frozen?, h1]

set_option maxRecDepth 100000 in
set_option maxHeartbeats 4000000 in
theorem plan_any (w : World) (zs : List Int) (b off cap : Nat) (hb : b < w.heap.size) (hne : 0 < zs.length) (hlen : zs.length ≤ maxLen)
    (hc : ∀ j x, zs[j]? = some x → w.cell? ⟨b, off + j, none⟩ = some (.int .i64 x)) (hz : ∀ x ∈ zs, -9223372036854775808 ≤ x ∧ x ≤ 9223372036854775807) :
    Calls Try.prog 7 #[.slice (some ⟨b, off, none⟩) zs.length cap] w (PlanPost w zs) := by
  unfold maxLen at hlen
  obtain ⟨i0, hi0, hz0, hz1, hz2⟩ := info_parts Try.infoPlan
  have HC : Hid (∀ j x, zs[j]? = some x → w.cell? ⟨b, off + j, none⟩ = some (.int .i64 x)) := hc
  have HZ : Hid (∀ x ∈ zs, -9223372036854775808 ≤ x ∧ x ≤ 9223372036854775807) := hz
  clear hc hz
  go_enter Try.func7, Try.ntmps7
  go_wp2
  go_loopw [3, 4] (fun v i wr => ∃ k : Nat, k ≤ zs.length ∧ k ≤ 11 ∧ i = .int .i64 k ∧ planRel w zs k v wr) (fun _ i _ => zs.length - (intOf i).toNat)
  case atStart => exact ⟨0, Nat.zero_le _, by decide, rfl, ⟨World.ownsRow_nil _ _ _ _, Below.refl _ _⟩⟩
  case round =>
    obtain ⟨k, hk1, hk2, rfl, HR⟩ := hrel
    by_cases hlt : k < zs.length ∧ k < 11
    · obtain ⟨hlt, hlt2⟩ := hlt
      have hx : zs[k]? = some zs[k] := List.getElem?_eq_getElem hlt
      have hgd : zs.getD k 0 = zs[k] := by simp [hx]
      have hcb := HZ.out zs[k] (List.getElem_mem hlt)
      have hcell : wr.cell? ⟨b, off + k, none⟩ = some (.int .i64 zs[k]) := by rw [HR.2.cell (p := ⟨b, off + k, none⟩) hb]; exact HC.out k _ hx
      have HGD : Hid (zs.getD k 0 = zs[k]) := hgd
      clear hx hgd
      generalize zs[k] = c at *
      have pq := Bk.pick_bd c 7 (by decide)
      have pn := Bk.num_bd c
      have t7 : -9223372036854775808 ≤ c.tdiv 7 ∧ c.tdiv 7 ≤ 9223372036854775807 := tdiv_in c 7 (by decide) hcb
      have t105 : -9223372036854775808 ≤ c.tdiv 105 ∧ c.tdiv 105 ≤ 9223372036854775807 := tdiv_in c 105 (by decide) hcb
      have t3 : -9223372036854775808 ≤ c.tdiv 3 ∧ c.tdiv 3 ≤ 9223372036854775807 := tdiv_in c 3 (by decide) hcb
      have t11 : -9223372036854775808 ≤ c.tdiv 11 ∧ c.tdiv 11 ≤ 9223372036854775807 := tdiv_in c 11 (by decide) hcb
      have pq2 := Bk.pick_bd (c.tdiv 7) (2 * (1 + Bk.pick c 7) + 1) (by omega)
      have hps : Okr2 (Bk.pick (c.tdiv 7) (2 * (1 + Bk.pick c 7) + 1) - (1 + Bk.pick c 7)) (1 + Bk.pick c 7) := ⟨by omega, by omega⟩
      by_cases hk3 : k < 3
      · go_wp2_with (first | (go_at_call 9; refine (pick_any _ _ _ (by omega) (by omega) (by omega) (by omega)).mono ?_; rintro e w' ⟨rfl, rfl⟩))
        refine (small_any _ _ _ (by omega) (by omega) (by omega) (by omega)).mono ?_
        rintro e w1 ⟨rfl, hb1⟩
        have HROW : Hid (Bk.row (Bk.planTo zs k) (zs.getD k 0) = ⟨1, 0, 0, Bk.pick (c.tdiv 7) (2 * (1 + Bk.pick c 7) + 1) - (1 + Bk.pick c 7), 1 + Bk.pick c 7, Bk.small (Bk.pick (c.tdiv 7) (2 * (1 + Bk.pick c 7) + 1) - (1 + Bk.pick c 7)) (1 + Bk.pick c 7)⟩) := by
          rw [Hid, HGD.out, Bk.row, if_pos (by rw [Bk.planTo_length]; exact hk3)]; rfl
        generalize Bk.small (Bk.pick (c.tdiv 7) (2 * (1 + Bk.pick c 7) + 1) - (1 + Bk.pick c 7)) (1 + Bk.pick c 7) = s at *
        generalize Bk.pick (c.tdiv 7) (2 * (1 + Bk.pick c 7) + 1) - (1 + Bk.pick c 7) = p at *
        obtain ⟨s1, s2⟩ := s
        have hz3 := hb1.size
        have HB1 : Hid (Below wr.heap.size wr w1) := hb1
        have hown : w1.ownsRow w.heap.size 37 7 u3 k (prows (Bk.planTo zs k)) := owns_below HR.1 hb1
        have HO : Hid (w1.ownsRow w.heap.size 37 7 u3 k (prows (Bk.planTo zs k))) := hown
        have hbw : w.heap.size ≤ wr.heap.size := HR.2.size
        clear hb1 hown
        go_wp2_with (at_builtin; refine wpList_append_lies _ rfl _ _ 29 rfl w.heap.size 37 i0 _ 7 56 Try.underlying29 hi0 hz0 hz1 hz2 rfl (by omega) u3 k (prows (Bk.planTo zs k)) rfl ((HO.out.alloc _).alloc _) ⟨w1.heap.size + 1, 0, none⟩ 1 1 [.int .i64 1, .int .i64 0, .int .i64 0, .int .i64 p, .int .i64 (1 + Bk.pick c 7), .int .i64 s1, .int .i64 s2] rfl rfl ?c1 ?c2 (by omega) ?c3 ?c4 ?c5 (w1.heap.size + 2) ?c6 ?_)
        case c1 => exact World.news_of_block (cs := #[.int .i64 1, .int .i64 0, .int .i64 0, .int .i64 p, .int .i64 (1 + Bk.pick c 7), .int .i64 s1, .int .i64 s2]) (t := 37) (fr := (0, 0)) (by rw [← World.size_alloc w1 (.cells #[.int .i64 1, .int .i64 0, .int .i64 0, .int .i64 p, .int .i64 (1 + Bk.pick c 7), .int .i64 s1, .int .i64 s2] 37)]; exact heap_alloc_new _ _)
        case c2 => simp [Value.oneCell']
        case c3 => unfold maxLen; omega
        case c4 => omega
        case c5 => simp; omega
        case c6 => simp
        intro g cap' w2 hown2 hgrow2 _ _
        have HRR : planRel w zs (k + 1) (.slice (some ⟨g, 0, none⟩) (k + 1) cap') w2 := by
          refine planRel_step HR ((HB1.out.alloc (by omega) _).alloc (by simp; omega) _) ?_ hgrow2
          rw [HROW.out]; exact hown2
        clear hgrow2 hown2
        go_wp2
        go_roundw
        case rel => exact ⟨k + 1, by omega, by omega, by go_num, HRR⟩
        case measure => simp [intOf]; omega
      · obtain ⟨g, capl, hv, hgB, hgl⟩ := HR.1.form (by omega)
        subst hv
        obtain ⟨ia, hia⟩ := Int.eq_ofNat_of_zero_le (Bk.pick_bd (c.tdiv 3) k (by omega)).1
        obtain ⟨ib, hib⟩ := Int.eq_ofNat_of_zero_le (Bk.pick_bd (c.tdiv 11) k (by omega)).1
        have la : ia < k := by have := (Bk.pick_bd (c.tdiv 3) k (by omega)).2; omega
        have lb : ib < k := by have := (Bk.pick_bd (c.tdiv 11) k (by omega)).2; omega
        have po := Bk.pick_bd (c.tdiv 105) 7 (by decide)
        go_wp2_with (first | (go_at_call 9; refine (pick_any _ _ _ (by omega) (by omega) (by omega) (by omega)).mono ?_; rintro e w' ⟨rfl, rfl⟩))
        refine (small_any _ _ _ (by omega) (by omega) (by omega) (by omega)).mono ?_
        rintro e w1 ⟨rfl, hb1⟩
        have hz3 := hb1.size
        have HB1 : Hid (Below wr.heap.size wr w1) := hb1
        clear hb1
        go_wp2_with (first | (go_at_call 9; refine (pick_any _ _ _ (by omega) (by omega) (by omega) (by omega)).mono ?_; rintro e w' ⟨rfl, rfl⟩))
        obtain ⟨a1, a2, b1, b2, oka, okb, ca5, ca6, cb5, cb6, hrow⟩ := plan_parts (owns_below HR.1 HB1.out) c hk3 ia ib hia hib la lb
        have oks := Bk.small_num c
        rw [show Bk.num c = Bk.pick (c.tdiv 7) (2 * (1 + Bk.pick c 7) + 1) - (1 + Bk.pick c 7) from rfl] at oks hrow
        rw [show Bk.row (Bk.planTo zs k) c = Bk.row (Bk.planTo zs k) (zs.getD k 0) from by rw [HGD.out]] at hrow
        have HROW := hide hrow
        clear hrow pn HGD
        generalize Bk.small (Bk.pick (c.tdiv 7) (2 * (1 + Bk.pick c 7) + 1) - (1 + Bk.pick c 7)) (1 + Bk.pick c 7) = s at *
        generalize Bk.pick (c.tdiv 7) (2 * (1 + Bk.pick c 7) + 1) - (1 + Bk.pick c 7) = p at *
        generalize Bk.pick (c.tdiv 105) 7 = o5 at *
        generalize Bk.pick c 7 = q7 at *
        obtain ⟨s1, s2⟩ := s
        have hgl1 : g < w1.heap.size := by omega
        have gn1 : ¬ g = w1.heap.size + 1 := by omega
        have gn2 : ¬ w1.heap.size + 1 = g := by omega
        have ja0 : (0 : Int) ≤ (ia : Int) := Int.natCast_nonneg _
        have ja1 : (ia : Int) < (k : Int) := by omega
        have jb0 : (0 : Int) ≤ (ib : Int) := Int.natCast_nonneg _
        have jb1 : (ib : Int) < (k : Int) := by omega
        have wa : IntKind.i64.wrap (1 + (ia : Int) - 1) = (ia : Int) := by rw [IntWalk.i64_in _ (by omega)]; omega
        have wb : IntKind.i64.wrap (1 + (ib : Int) - 1) = (ib : Int) := by rw [IntWalk.i64_in _ (by omega)]; omega
        clear hia hib hcell hcb t7 t105 t3 t11 pq2
        go_cut [9, 10] from 11 to 115 (fun t9 t10 wx => ∃ I : Nat, t9 = .pointer (some ⟨I, 0, none⟩) ∧ t10 = .bool (decide ((Bk.result (2 + o5) (a1, a2) (b1, b2) (s1, s2)).2 ≤ 100000)) ∧ Hid (AfterIs w1 wx I (.int .i64 (2 + o5)) (.int .i64 (1 + ia)) (.int .i64 (1 + ib)) (.int .i64 p) (.int .i64 (1 + q7)) (.int .i64 s1) (.int .i64 s2) (.int .i64 (Bk.result (2 + o5) (a1, a2) (b1, b2) (s1, s2)).1) (.int .i64 (Bk.result (2 + o5) (a1, a2) (b1, b2) (s1, s2)).2)))
        case first =>
          go_region_held3 (fun w' => w'.cell? ⟨w1.heap.size, 0, none⟩ = some (.int .i64 (2 + o5)) ∧ w'.cell? ⟨w1.heap.size, 1, none⟩ = some (.int .i64 (1 + ia)) ∧ w'.cell? ⟨w1.heap.size, 2, none⟩ = some (.int .i64 (1 + ib)) ∧ w'.cell? ⟨w1.heap.size, 5, none⟩ = some (.int .i64 s1) ∧ w'.cell? ⟨w1.heap.size, 6, none⟩ = some (.int .i64 s2) ∧ w'.cell? ⟨g, ia * 7 + 5, none⟩ = some (.int .i64 a1) ∧ w'.cell? ⟨g, ia * 7 + 6, none⟩ = some (.int .i64 a2) ∧ w'.cell? ⟨g, ib * 7 + 5, none⟩ = some (.int .i64 b1) ∧ w'.cell? ⟨g, ib * 7 + 6, none⟩ = some (.int .i64 b2))
            (go_keep)
            ((go_at_call 16; refine (result_any (2 + o5) (a1, a2) (b1, b2) (s1, s2) _ (by omega) (by omega) oka okb oks).mono ?_; rintro e w2 ⟨rfl, hb2⟩; obtain ⟨HB2, HX2, z1, z2, e0, e1, e2, e3, e4, e5, e6, f0, f5, f6, eg⟩ := after_call (c0 := .int .i64 (2 + o5)) (c1 := .int .i64 (1 + ia)) (c2 := .int .i64 (1 + ib)) (c3 := .int .i64 p) (c4 := .int .i64 (1 + q7)) (c5 := .int .i64 s1) (c6 := .int .i64 s2) hb2 hgl1 (by go_grown); (try (have hn := after_two hb2; obtain ⟨n0, n1, n2, n3, n4⟩ := hn))))
          all_goals go_wp2
          all_goals go_meet
          all_goals first | exact ⟨_, rfl, rfl, afterIs_new HB2.out HX2.out⟩ | exact ⟨_, rfl, rfl, afterIs_set (afterIs_two HB2.out HX2.out hb2)⟩
        case rest =>
          obtain ⟨I, rfl, rfl, HJ⟩ := hcut
          have hgX : (Value.slice (some ⟨g, 0, none⟩) k capl).ownBlock ≠ some w1.heap.size := by simp [Value.ownBlock]; omega
          have HO := hide (owns_below (owns_below HR.1 HB1.out) HJ.out.old)
          have hbw : w.heap.size ≤ wr.heap.size := HR.2.size
          obtain ⟨e0, e1, e2, e3, e4, e5, e6, f0, f5, f6, j0, j1, l0, l1, m0, m1, z1, z2, m2, m3, eg⟩ := HJ.out.facts hgl1
          by_cases hok : (Bk.result (2 + o5) (a1, a2) (b1, b2) (s1, s2)).2 ≤ 100000
          · have hok' : decide ((Bk.result (2 + o5) (a1, a2) (b1, b2) (s1, s2)).2 ≤ 100000) = true := by simpa using hok
            replace HROW : Hid (Bk.row (Bk.planTo zs k) (zs.getD k 0) = ⟨2 + o5, 1 + ia, 1 + ib, p, 1 + q7, (Bk.result (2 + o5) (a1, a2) (b1, b2) (s1, s2))⟩) := HROW.out.trans (by rw [Bk.rowBig, if_pos hok])
            clear hok eg
            go_wp2_with (at_builtin; refine wpList_append_lies _ rfl _ _ 29 rfl w.heap.size 37 i0 _ 7 56 Try.underlying29 hi0 hz0 hz1 hz2 rfl (by omega) (.slice (some ⟨g, 0, none⟩) k capl) k (prows (Bk.planTo zs k)) rfl ((owns_set (owns_set HO.out hgX _ _) hgX _ _).alloc _) ⟨wc.heap.size, 0, none⟩ 1 1 [.int .i64 (2 + o5), .int .i64 (1 + ia), .int .i64 (1 + ib), .int .i64 p, .int .i64 (1 + q7), .int .i64 (Bk.result (2 + o5) (a1, a2) (b1, b2) (s1, s2)).1, .int .i64 (Bk.result (2 + o5) (a1, a2) (b1, b2) (s1, s2)).2] rfl rfl ?c1 ?c2 (by omega) ?c3 ?c4 ?c5 (wc.heap.size + 1) ?c6 ?_)
            case c1 => exact World.news_of_block (cs := #[.int .i64 (2 + o5), .int .i64 (1 + ia), .int .i64 (1 + ib), .int .i64 p, .int .i64 (1 + q7), .int .i64 (Bk.result (2 + o5) (a1, a2) (b1, b2) (s1, s2)).1, .int .i64 (Bk.result (2 + o5) (a1, a2) (b1, b2) (s1, s2)).2]) (t := 37) (fr := (0, 0)) (new_at _ _ _ (by simp))
            case c2 => simp [Value.oneCell']
            case c3 => unfold maxLen; omega
            case c4 => omega
            case c5 => simp; omega
            case c6 => simp
            intro g' cap' w2 hown2 hgrow2 _ _
            have HRR : planRel w zs (k + 1) (.slice (some ⟨g', 0, none⟩) (k + 1) cap') w2 := by
              refine planRel_step HR ((((HB1.out.trans (HJ.out.old.mono hz3)).setCell (p := ⟨w1.heap.size, 5, none⟩) hz3 _).setCell (p := ⟨w1.heap.size, 6, none⟩) hz3 _).alloc (by simp; omega) _) ?_ hgrow2
              rw [HROW.out]; exact hown2
            clear hgrow2 hown2
            go_wp2
            go_roundw
            case rel => exact ⟨k + 1, by omega, by omega, by go_num, HRR⟩
            case measure => simp [intOf]; omega

          · have hok' : decide ((Bk.result (2 + o5) (a1, a2) (b1, b2) (s1, s2)).2 ≤ 100000) = false := by simpa using hok
            replace HROW : Hid (Bk.row (Bk.planTo zs k) (zs.getD k 0) = ⟨8, 1 + ia, 1 + ib, p, 1 + q7, (Bk.result 8 (a1, a2) (b1, b2) (s1, s2))⟩) := HROW.out.trans (by rw [Bk.rowBig, if_neg hok])
            clear hok
            go_wp2_with fail
            have HK := hide (afterIs_op HJ.out (.int .i64 8))
            clear e0 e1 e2 e3 e4 e5 e6 f0 f5 f6 j0 j1 l0 l1 m0 m1 z1 z2 m2 m3 eg HO HJ
            generalize wc.setCell ⟨w1.heap.size, 0, none⟩ (.int .i64 8) = wd at *
            obtain ⟨e0, e1, e2, e3, e4, e5, e6, f0, f5, f6, j0, j1, l0, l1, m0, m1, z1, z2, m2, m3, eg⟩ := HK.out.facts hgl1
            have da5 := (eg (ia * 7 + 5)).trans ca5
            have da6 := (eg (ia * 7 + 6)).trans ca6
            have db5 := (eg (ib * 7 + 5)).trans cb5
            have db6 := (eg (ib * 7 + 6)).trans cb6
            clear eg
            go_cut [9, 10] from 11 to 115 (fun t9 _ wx => t9 = .pointer (some ⟨I, 0, none⟩) ∧ Hid (AfterIs w1 wx I (.int .i64 8) (.int .i64 (1 + ia)) (.int .i64 (1 + ib)) (.int .i64 p) (.int .i64 (1 + q7)) (.int .i64 s1) (.int .i64 s2) (.int .i64 (Bk.result 8 (a1, a2) (b1, b2) (s1, s2)).1) (.int .i64 (Bk.result 8 (a1, a2) (b1, b2) (s1, s2)).2)))
            case first =>
              go_region_held3 (fun w' => w'.cell? ⟨w1.heap.size, 0, none⟩ = some (.int .i64 8) ∧ w'.cell? ⟨w1.heap.size, 1, none⟩ = some (.int .i64 (1 + ia)) ∧ w'.cell? ⟨w1.heap.size, 2, none⟩ = some (.int .i64 (1 + ib)) ∧ w'.cell? ⟨w1.heap.size, 5, none⟩ = some (.int .i64 s1) ∧ w'.cell? ⟨w1.heap.size, 6, none⟩ = some (.int .i64 s2) ∧ w'.cell? ⟨g, ia * 7 + 5, none⟩ = some (.int .i64 a1) ∧ w'.cell? ⟨g, ia * 7 + 6, none⟩ = some (.int .i64 a2) ∧ w'.cell? ⟨g, ib * 7 + 5, none⟩ = some (.int .i64 b1) ∧ w'.cell? ⟨g, ib * 7 + 6, none⟩ = some (.int .i64 b2))
                (go_keep)
                ((go_at_call 16; refine (result_any 8 (a1, a2) (b1, b2) (s1, s2) _ (by omega) (by omega) oka okb oks).mono ?_; rintro e w2 ⟨rfl, hb2⟩; have HM := hide (afterIs_below HK.out hb2); obtain ⟨p0, p1, p2, p3, p4, p5, p6, q0, q5, q6, v0, v1, x0, x1, y0, y1, z3, z4, y2, y3, eh⟩ := HM.out.facts hgl1; clear hb2))
              all_goals go_wp2
              all_goals go_meet
              all_goals exact ⟨rfl, afterIs_set HM.out⟩
            case rest =>
              obtain ⟨rfl, HL⟩ := hcut
              have HO2 := hide (owns_below (owns_below HR.1 HB1.out) HL.out.old)
              clear e0 e1 e2 e3 e4 e5 e6 f0 f5 f6 j0 j1 l0 l1 m0 m1 z1 z2 m2 m3 da5 da6 db5 db6
              obtain ⟨e0, e1, e2, e3, e4, e5, e6, f0, f5, f6, j0, j1, l0, l1, m0, m1, z1, z2, m2, m3, eg⟩ := HL.out.facts hgl1
              clear eg
              go_wp2_with (at_builtin; refine wpList_append_lies _ rfl _ _ 29 rfl w.heap.size 37 i0 _ 7 56 Try.underlying29 hi0 hz0 hz1 hz2 rfl (by omega) (.slice (some ⟨g, 0, none⟩) k capl) k (prows (Bk.planTo zs k)) rfl ((owns_set (owns_set HO2.out hgX _ _) hgX _ _).alloc _) ⟨wc.heap.size, 0, none⟩ 1 1 [.int .i64 8, .int .i64 (1 + ia), .int .i64 (1 + ib), .int .i64 p, .int .i64 (1 + q7), .int .i64 (Bk.result 8 (a1, a2) (b1, b2) (s1, s2)).1, .int .i64 (Bk.result 8 (a1, a2) (b1, b2) (s1, s2)).2] rfl rfl ?c1 ?c2 (by omega) ?c3 ?c4 ?c5 (wc.heap.size + 1) ?c6 ?_)
              case c1 => exact World.news_of_block (cs := #[.int .i64 8, .int .i64 (1 + ia), .int .i64 (1 + ib), .int .i64 p, .int .i64 (1 + q7), .int .i64 (Bk.result 8 (a1, a2) (b1, b2) (s1, s2)).1, .int .i64 (Bk.result 8 (a1, a2) (b1, b2) (s1, s2)).2]) (t := 37) (fr := (0, 0)) (new_at _ _ _ (by simp))
              case c2 => simp [Value.oneCell']
              case c3 => unfold maxLen; omega
              case c4 => omega
              case c5 => simp; omega
              case c6 => simp
              intro g' cap' w2 hown2 hgrow2 _ _
              have HRR : planRel w zs (k + 1) (.slice (some ⟨g', 0, none⟩) (k + 1) cap') w2 := by
                refine planRel_step HR ((((HB1.out.trans (HL.out.old.mono hz3)).setCell (p := ⟨w1.heap.size, 5, none⟩) hz3 _).setCell (p := ⟨w1.heap.size, 6, none⟩) hz3 _).alloc (by simp; omega) _) ?_ hgrow2
                rw [HROW.out]; exact hown2
              clear hgrow2 hown2
              go_wp2
              go_roundw
              case rel => exact ⟨k + 1, by omega, by omega, by go_num, HRR⟩
              case measure => simp [intOf]; omega
    · have hmin : k = min zs.length 11 := by omega
      have HP : Hid (PlanPost w zs (.returned u3) wr) := by
        refine ⟨u3, rfl, ?_, HR.2⟩
        have h1 := HR.1
        rw [Bk.plan, Bk.planTo_length, ← hmin]
        exact h1
      clear hmin
      by_cases hl : k < zs.length
      · have hk11 : ¬ k < 11 := fun h => hlt ⟨hl, h⟩
        clear hlt
        go_wp2
        go_ret
        exact HP.out
      · clear hlt
        go_wp2
        go_ret
        exact HP.out

-- no raw numbers: no rows
set_option maxHeartbeats 1000000 in
theorem plan_none (w : World) (a : Option Addr) (cap : Nat) :
    Calls Try.prog 7 #[.slice a 0 cap] w (PlanPost w []) := by
  have HP : Hid (PlanPost w [] (.returned (.slice none 0 0)) w) := ⟨_, rfl, World.ownsRow_nil _ _ _ _, Below.refl _ _⟩
  go_enter Try.func7, Try.ntmps7
  go_wp2
  refine wp_loop_rounds 1 ?_
  rw [rounds_succ]
  go_wp2
  go_ret
  exact HP.out
end Go.Proofs.Ytccogcbddpighaa
