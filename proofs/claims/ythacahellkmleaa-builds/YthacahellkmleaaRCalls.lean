/- Contracts of the document's calls that make nodes: Leaf, Node and Scale, and has and Len, in every graph, at every number. -/
import Derived.Test.YthacahellkmleaaRAdd
namespace Go.Proofs.Ythacahellkmleaa
open Go.RowKit

set_option maxHeartbeats 400000 in
theorem rlen_any (w : World) (B r : Nat) (rv : Value) (ms : List Mk) (cl : Bool) (h : RGr w B r rv ms cl) :
    Calls Try.prog 20 #[.pointer (some ⟨r, 0, none⟩)] w fun e w' => e = .returned (.int .i64 ms.length) ∧ w = w' := by
  obtain ⟨a, c, rfl⟩ := h.slice
  have h0 : w.cell? ⟨r, 0, none⟩ = some (.slice a ms.length c) := by rw [cell_of_row w r 0 _ _ _ h.cells]; rfl
  have hf := h.few
  clear h
  go_enter Try.func20, Try.ntmps20
  go_wp2
  go_ret
  exact ⟨rfl, rfl⟩

set_option maxHeartbeats 400000 in
theorem rhas_any (w : World) (B r : Nat) (rv : Value) (ms : List Mk) (cl : Bool) (h : RGr w B r rv ms cl) (k : Int) :
    Calls Try.prog 48 #[.pointer (some ⟨r, 0, none⟩), .int .i64 k] w fun e w' => e = .returned (.bool (hasB ms.length k)) ∧ w = w' := by
  obtain ⟨a, c, rfl⟩ := h.slice
  have h0 : w.cell? ⟨r, 0, none⟩ = some (.slice a ms.length c) := by rw [cell_of_row w r 0 _ _ _ h.cells]; rfl
  have hf := h.few
  clear h
  by_cases h1 : 0 < k
  · go_enter Try.func48, Try.ntmps48
    go_wp2
    go_ret
    exact ⟨ret_bool (by simp [hasB]; omega), rfl⟩
  · go_enter Try.func48, Try.ntmps48
    go_wp2
    go_ret
    exact ⟨ret_bool (by simp [hasB]; omega), rfl⟩

theorem RGr.closed {w : World} {B r : Nat} {rv : Value} {ms : List Mk} {cl : Bool} (h : RGr w B r rv ms cl) : w.cell? ⟨r, 1, none⟩ = some (.bool cl) := by
  rw [cell_of_row w r 1 _ _ _ h.cells]; rfl

/-- A node that is being made: no ratio yet. -/
abbrev fresh (op : Int) (pv : Value) : Obj := .cells #[.int .i64 op, pv, .int .i64 0, .slice none 0 0, .int .i64 0, .slice none 0 0, .slice none 0 0, .int .i64 0, .slice none 0 0, .bool false, .int .u64 0, .int .u64 0] 105

theorem sgn_below (p q : Int) : (Bk.sgn p q == 1) = Bk.below p q := by
  unfold Bk.sgn; cases Bk.below p q <;> rfl
theorem okm_leaf (p q : Int) : Okm (1, 0, 0, Bk.sgn p q, Bk.top p q, Bk.bot p q) :=
  ⟨by unfold Bk.sgn; split <;> simp, fun _ => ⟨rfl, rfl⟩, fun h => absurd rfl h, fun h => absurd rfl h⟩
theorem okm_scale (a p q : Int) : Okm (5, a, 0, Bk.sgn p q, Bk.top p q, Bk.bot p q) :=
  ⟨by unfold Bk.sgn; split <;> simp, fun h => by simp at h, fun _ _ => rfl, fun _ h => absurd rfl h⟩
theorem okm_one (op a : Int) (h : oneB op = true) : Okm (op, a, 0, 0, 0, 0) :=
  ⟨.inl rfl, fun e => by simp only at e; subst e; simp [oneB] at h, fun _ _ => rfl, fun _ _ => ⟨rfl, rfl, rfl⟩⟩
theorem okm_two (op a b : Int) (h : twoB op = true) : Okm (op, a, b, 0, 0, 0) :=
  ⟨.inl rfl, fun e => by simp only at e; subst e; simp [twoB] at h, fun _ e => absurd (h.symm.trans e) (by simp), fun _ _ => ⟨rfl, rfl, rfl⟩⟩

/-- The node that ratio leaves. -/
theorem node_of_ratio {w' : World} {nb : Nat} {op : Int} {pv x2 x3 x4 x5 x6 x7 x8 : Value} {p q : Int} (h : NodeB w' nb op pv x2 x3 x4 x5 x6 x7 x8 (Bk.below p q) (Bk.top p q) (Bk.bot p q)) (a b : Int) (hp : PartsAt w' pv (partsOf (op, a, b, Bk.sgn p q, Bk.top p q, Bk.bot p q))) :
    NodeAt w' nb (op, a, b, Bk.sgn p q, Bk.top p q, Bk.bot p q) :=
  ⟨pv, x2, x3, x4, x5, x6, x7, x8, by simp only [sgn_below]; exact h, hp⟩

/-- Ratio turns one new block: below it nothing. -/
theorem Mut.below_of {w w' : World} {nb B : Nat} (h : Mut w w' nb none) (hB : B ≤ nb) (hw : B ≤ w.heap.size) : Below B w w' :=
  ⟨h.os, h.tape, h.output, h.size, fun k hk => h.block k (by omega) (by omega) (by simp)⟩

set_option maxHeartbeats 1000000 in
theorem rleaf_any (w : World) (B r : Nat) (rv : Value) (ms : List Mk) (cl : Bool) (h : RGr w B r rv ms cl) (hB : B ≤ w.heap.size) (p q : Int) (p1 : -9223372036854775808 ≤ p) (p2 : p ≤ 9223372036854775807) (q1 : -9223372036854775808 ≤ q) (q2 : q ≤ 9223372036854775807) :
    Calls Try.prog 37 #[.pointer (some ⟨r, 0, none⟩), .int .i64 p, .int .i64 q] w (RPost w B r rv cl (leafR cl ms p q)) := by
  have hc := h.closed
  have HG := hide h
  clear h
  cases cl with
  | true =>
    go_enter Try.func37, Try.ntmps37
    go_wp2
    go_ret2
    exact RPost.same HG.out (Below.refl _ _) _ _ _ rfl
  | false =>
    cases hbad : Bk.bad p q with
    | true =>
      have HX : Hid (leafR false ms p q = (0, 3, ms)) := by simp [Hid, leafR, hbad]
      go_enter Try.func37, Try.ntmps37
      go_wp2_with fail
      refine (ratio_bad _ _ p q p1 p2 q1 q2 hbad).mono ?_
      rintro e w1 ⟨rfl, rfl⟩
      go_wp2
      go_ret2
      exact RPost.same HG.out ((Below.refl _ _).alloc (Nat.le_refl _) _) _ _ _ HX.out
    | false =>
      have HX : Hid (leafR false ms p q = addR ms (1, 0, 0, Bk.sgn p q, Bk.top p q, Bk.bot p q)) := by simp [Hid, leafR, hbad]
      have HN0 : Hid (NodeB (w.alloc (fresh 1 (.slice none 0 0))) w.heap.size 1 (.slice none 0 0) (.int .i64 0) (.slice none 0 0) (.int .i64 0) (.slice none 0 0) (.slice none 0 0) (.int .i64 0) (.slice none 0 0) false 0 0) := heap_alloc_new w _
      go_enter Try.func37, Try.ntmps37
      go_wp2_with fail
      refine (ratio_ok _ _ _ _ _ _ _ _ _ _ _ _ _ _ HN0.out p q p1 p2 q1 q2 hbad).mono ?_
      rintro e w2 ⟨rfl, ⟨x2, x3, x4, x5, hn⟩, hM⟩
      have hb1 : Below w.heap.size w w2 := ((Below.refl _ _).alloc (Nat.le_refl _) _).trans (hM.below_of (Nat.le_refl _) (by simp))
      have HN := hide (node_of_ratio hn 0 0 ⟨none, 0, rfl, .inl rfl⟩)
      have HB := hide hb1
      clear hn hM hb1
      go_wp2_with fail
      refine (radd_any _ B r rv ms false (HG.out.below HB.out) (Nat.le_trans hB HB.out.size) w.heap.size _ HN.out (okm_leaf p q)).mono ?_
      rintro e w3 hp
      have HP := hide (RPost.after HB.out hp)
      obtain ⟨he, _⟩ := hp
      subst he
      go_wp2
      go_ret2
      rw [HX.out]
      exact HP.out

/-- The block of one part. -/
abbrev onePart (a : Int) : Obj := .cells #[.int .i64 a, .int .i64 0, .int .i64 0, .slice none 0 0] 109
theorem parts_one {w : World} {g : Nat} {a : Int} (h : w.heap[g]? = some (onePart a)) : PartsAt w (.slice (some ⟨g, 0, none⟩) 1 1) [a] :=
  ⟨_, 1, rfl, .inr ⟨g, _, rfl, h, fun j x hx => by
    have : j = 0 := by have := (List.getElem?_eq_some_iff.1 hx).1; simp at this; exact this
    subst this; simp at hx; subst hx; rfl⟩⟩
theorem parts_two {w : World} {B g cap : Nat} {a b : Int} (h : w.ownsRow B 109 4 (.slice (some ⟨g, 0, none⟩) 2 cap) 2 ([.int .i64 a, .int .i64 0, .int .i64 0, .slice none 0 0] ++ [.int .i64 b, .int .i64 0, .int .i64 0, .slice none 0 0])) : PartsAt w (.slice (some ⟨g, 0, none⟩) 2 cap) [a, b] := by
  obtain ⟨co, hco⟩ := owns_type h g rfl
  refine ⟨_, cap, rfl, .inr ⟨g, co, rfl, hco, fun j x hx => ?_⟩⟩
  have hj : j < 2 := by have := (List.getElem?_eq_some_iff.1 hx).1; simpa using this
  have key : ∀ i u, ([.int .i64 a, .int .i64 0, .int .i64 0, .slice none 0 0] ++ [.int .i64 b, .int .i64 0, .int .i64 0, .slice none 0 0] : List Value)[i]? = some u → co[i]? = some u := fun i u hu => by
    have := owns_at h rfl i u hu
    rwa [cell_of_row w g i _ _ _ hco] at this
  have : j = 0 ∨ j = 1 := by omega
  rcases this with rfl | rfl
  · simp at hx; subst hx; exact key 0 _ rfl
  · simp at hx; subst hx; exact key 4 _ rfl

set_option maxHeartbeats 1000000 in
theorem rscale_any (w : World) (B r : Nat) (rv : Value) (ms : List Mk) (cl : Bool) (h : RGr w B r rv ms cl) (hB : B ≤ w.heap.size) (a p q : Int) (p1 : -9223372036854775808 ≤ p) (p2 : p ≤ 9223372036854775807) (q1 : -9223372036854775808 ≤ q) (q2 : q ≤ 9223372036854775807) :
    Calls Try.prog 40 #[.pointer (some ⟨r, 0, none⟩), .int .i64 a, .int .i64 p, .int .i64 q] w (RPost w B r rv cl (scaleR cl ms a p q)) := by
  have hc := h.closed
  have HG := hide h
  clear h
  cases cl with
  | true =>
    go_enter Try.func40, Try.ntmps40
    go_wp2_with (first | (go_at_call 48; refine (rhas_any _ B r rv ms true HG.out _).mono ?_; rintro e w' ⟨rfl, rfl⟩))
    go_ret2
    exact RPost.same HG.out (Below.refl _ _) _ _ _ rfl
  | false =>
    cases ha : hasB ms.length a with
    | false =>
      have HX : Hid (scaleR false ms a p q = (0, 2, ms)) := by simp [Hid, scaleR, ha]
      go_enter Try.func40, Try.ntmps40
      go_wp2_with (first | (go_at_call 48; refine (rhas_any _ B r rv ms false HG.out _).mono ?_; rintro e w' ⟨rfl, rfl⟩))
      go_ret2
      exact RPost.same HG.out (Below.refl _ _) _ _ _ HX.out
    | true =>
      cases hbad : Bk.bad p q with
      | true =>
        have HX : Hid (scaleR false ms a p q = (0, 3, ms)) := by simp [Hid, scaleR, hbad, ha]
        go_enter Try.func40, Try.ntmps40
        go_wp2_with (first | (go_at_call 48; refine (rhas_any _ B r rv ms false HG.out _).mono ?_; rintro e w' ⟨rfl, rfl⟩))
        refine (ratio_bad _ _ p q p1 p2 q1 q2 hbad).mono ?_
        rintro e w1 ⟨rfl, rfl⟩
        go_wp2
        go_ret2
        exact RPost.same HG.out (((Below.refl _ _).alloc (Nat.le_refl _) _).alloc (by simp) _) _ _ _ HX.out
      | false =>
        have HX : Hid (scaleR false ms a p q = addR ms (5, a, 0, Bk.sgn p q, Bk.top p q, Bk.bot p q)) := by simp [Hid, scaleR, hbad, ha]
        have HN0 : Hid (NodeB ((w.alloc (onePart a)).alloc (fresh 5 (.slice (some ⟨w.heap.size, 0, none⟩) 1 1))) (w.heap.size + 1) 5 (.slice (some ⟨w.heap.size, 0, none⟩) 1 1) (.int .i64 0) (.slice none 0 0) (.int .i64 0) (.slice none 0 0) (.slice none 0 0) (.int .i64 0) (.slice none 0 0) false 0 0) := new_at _ _ _ (by simp)
        go_enter Try.func40, Try.ntmps40
        go_wp2_with (first | (go_at_call 48; refine (rhas_any _ B r rv ms false HG.out _).mono ?_; rintro e w' ⟨rfl, rfl⟩))
        refine (ratio_ok _ _ _ _ _ _ _ _ _ _ _ _ _ _ HN0.out p q p1 p2 q1 q2 hbad).mono ?_
        rintro e w2 ⟨rfl, ⟨x2, x3, x4, x5, hn⟩, hM⟩
        have hb1 : Below w.heap.size w w2 := (((Below.refl _ _).alloc (Nat.le_refl _) _).alloc (by simp) _).trans (hM.below_of (by omega) (by simp; omega))
        have hpart : w2.heap[w.heap.size]? = some (onePart a) := by
          rw [hM.block w.heap.size (by simp; omega) (by omega) (by simp), Below.heap_alloc _ _ _ (by simp)]; exact heap_alloc_new w _
        have HN := hide (node_of_ratio hn a 0 (by simp only [partsOf]; exact parts_one hpart))
        have HB := hide hb1
        clear hn hM hb1 hpart
        go_wp2_with fail
        refine (radd_any _ B r rv ms false (HG.out.below HB.out) (Nat.le_trans hB HB.out.size) (w.heap.size + 1) _ HN.out (okm_scale a p q)).mono ?_
        rintro e w3 hp
        have HP := hide (RPost.after HB.out hp)
        obtain ⟨he, _⟩ := hp
        subst he
        go_wp2
        go_ret2
        rw [HX.out]
        exact HP.out

theorem Try.infoPart : (Try.prog.info? 109).map (fun i => (i.zero, i.size, i.bytes)) = some (some (.agg #[.int .i64 0, .int .i64 0, .int .i64 0, .slice none 0 0]), 4, 48) := by kernel_rfl

theorem one_not_two {op : Int} (h : oneB op = true) : twoB op = false ∧ op ≠ 1 := by
  simp [oneB] at h; rcases h with rfl | rfl <;> decide

end Go.Proofs.Ythacahellkmleaa
