/- Contracts of the program's calls that make nodes, Leaf, Node and Scale: at every number, in every graph. -/
import Derived.Test.YtccogcbddpighaaAdd
namespace Go.Proofs.Ytccogcbddpighaa
open Go.RowKit

/-- What a call on the graph at b leaves: handle, error, the nodes. -/
def GPost (w : World) (B b : Nat) (v : Value) (cl : Bool) (r : Int × Int × List Mk) (e : Ending) (w' : World) : Prop :=
  e = .returned (.tuple #[.int .i64 r.1, .int .i64 r.2.1]) ∧ ∃ v', Gr w' B b v' r.2.2 cl ∧ Mut w w' b v.ownBlock ∧ (v'.ownBlock = v.ownBlock ∨ ∃ k, v'.ownBlock = some k ∧ w.heap.size ≤ k)

theorem GPost.same {w w' : World} {B b : Nat} {v : Value} {ms : List Mk} {cl : Bool} (h : Gr w B b v ms cl) (hb : Below w.heap.size w w') (H E : Int) (r : Int × Int × List Mk) (hr : r = (H, E, ms)) :
    GPost w B b v cl r (.returned (.tuple #[.int .i64 H, .int .i64 E])) w' := by
  subst hr
  exact ⟨rfl, v, h.below hb, Mut.of_below hb _ _, .inl rfl⟩

def addR (ms : List Mk) (m : Mk) : Int × Int × List Mk := (addH ms m, addE ms m, addL ms m)
theorem GPost.of_add {w w2 w' : World} {B b : Nat} {v : Value} {ms : List Mk} {cl : Bool} {m : Mk} {e : Ending} (hb : Below w.heap.size w w2) (h : AddPost w2 B b v ms cl m e w') (r : Int × Int × List Mk) (hr : r = addR ms m) :
    GPost w B b v cl r e w' := by
  subst hr
  obtain ⟨he, v', h1, h2, h3⟩ := h
  exact ⟨he, v', h1, h2.below_trans hb, h3.elim .inl fun ⟨k, hk, hle⟩ => .inr ⟨k, hk, Nat.le_trans hb.size hle⟩⟩

def leafR (cl : Bool) (ms : List Mk) (p q : Int) : Int × Int × List Mk :=
  if cl then (0, 1, ms) else if Bk.bad p q then (0, 3, ms) else addR ms (1, 0, 0, Bk.sgn p q, Bk.top p q, Bk.bot p q)
def scaleR (cl : Bool) (ms : List Mk) (a p q : Int) : Int × Int × List Mk :=
  if cl then (0, 1, ms) else if hasB ms.length a then (if Bk.bad p q then (0, 3, ms) else addR ms (5, a, 0, Bk.sgn p q, Bk.top p q, Bk.bot p q)) else (0, 2, ms)
def nodeR (cl : Bool) (ms : List Mk) (op a b : Int) : Int × Int × List Mk :=
  if cl then (0, 1, ms) else if hasB ms.length a then (if twoB op then (if hasB ms.length b then addR ms (op, a, b, 0, 0, 0) else (0, 2, ms)) else if oneB op then addR ms (op, a, 0, 0, 0, 0) else (0, 3, ms)) else (0, 2, ms)

theorem Gr.closed {w : World} {B b : Nat} {v : Value} {ms : List Mk} {cl : Bool} (h : Gr w B b v ms cl) : w.cell? ⟨b, 1, none⟩ = some (.bool cl) := by
  rw [cell_of_row w b 1 _ _ _ h.cells]; rfl

theorem ret2_eq {a b c d : Int} (h1 : a = c) (h2 : b = d) : Ending.returned (.tuple #[.int .i64 a, .int .i64 b]) = .returned (.tuple #[.int .i64 c, .int .i64 d]) := by rw [h1, h2]

set_option maxHeartbeats 1000000 in
theorem leaf_any (w : World) (B b : Nat) (v : Value) (ms : List Mk) (cl : Bool) (h : Gr w B b v ms cl) (hB : B ≤ w.heap.size) (p q : Int) (p1 : -9223372036854775808 ≤ p) (p2 : p ≤ 9223372036854775807) (q1 : -9223372036854775808 ≤ q) (q2 : q ≤ 9223372036854775807) :
    Calls Try.prog 5 #[.pointer (some ⟨b, 0, none⟩), .int .i64 p, .int .i64 q] w (GPost w B b v cl (leafR cl ms p q)) := by
  have hc := h.closed
  have HG : Hid (Gr w B b v ms cl) := h
  clear h
  cases cl with
  | true =>
    go_enter Try.func5, Try.ntmps5
    go_wp2
    go_ret2
    exact GPost.same HG.out (Below.refl _ _) _ _ _ rfl
  | false =>
    cases hbad : Bk.bad p q with
    | true =>
      have HX : Hid (leafR false ms p q = (0, 3, ms)) := by simp [Hid, leafR, hbad]
      go_enter Try.func5, Try.ntmps5
      go_wp2_with fail
      refine (lowest_bad p q _ p1 p2 q1 q2 hbad).mono ?_
      rintro e w1 ⟨rfl, hb1⟩
      go_wp2
      go_ret2
      exact GPost.same HG.out (hb1.alloc hb1.size _) _ _ _ HX.out
    | false =>
      have HX : Hid (leafR false ms p q = addR ms (1, 0, 0, Bk.sgn p q, Bk.top p q, Bk.bot p q)) := by simp [Hid, leafR, hbad]
      go_enter Try.func5, Try.ntmps5
      go_wp2_with fail
      refine (lowest_ok p q _ p1 p2 q1 q2 hbad).mono ?_
      rintro e w1 ⟨rfl, hb1⟩
      go_wp2_with fail
      refine (madeOf_any _ 1 0 0 (Bk.sgn p q) (Bk.top p q) (Bk.bot p q) (by decide) (by decide) (by decide) (by decide) (by decide) (by decide)).mono ?_
      rintro e w2 ⟨rfl, hb2⟩
      have hb3 : Below w.heap.size w w2 := (hb1.alloc hb1.size _).trans (hb2.mono (by simp; have := hb1.size; omega))
      have HB3 : Hid (Below w.heap.size w w2) := hb3
      clear hb1 hb2 hb3
      go_wp2_with fail
      refine (add_any _ B b v ms false (HG.out.below HB3.out) (Nat.le_trans hB HB3.out.size) 1 0 0 _ _ _).mono ?_
      rintro e w3 hp
      obtain ⟨he, hp2⟩ := id hp
      subst he
      have HP : Hid (AddPost w2 B b v ms false (1, 0, 0, Bk.sgn p q, Bk.top p q, Bk.bot p q) (.returned (.tuple #[.int .i64 (addH ms (1, 0, 0, Bk.sgn p q, Bk.top p q, Bk.bot p q)), .int .i64 (addE ms (1, 0, 0, Bk.sgn p q, Bk.top p q, Bk.bot p q))])) w3) := hp
      clear hp hp2
      go_wp2
      go_ret2
      exact GPost.of_add HB3.out HP.out _ HX.out

theorem hasB_bound {n : Nat} {a : Int} (hn : n ≤ 24) (h : hasB n a = true) : 1 ≤ a ∧ a ≤ 24 := by
  simp [hasB] at h; omega

set_option maxHeartbeats 1000000 in
theorem scale_any (w : World) (B b : Nat) (v : Value) (ms : List Mk) (cl : Bool) (h : Gr w B b v ms cl) (hB : B ≤ w.heap.size) (a p q : Int) (p1 : -9223372036854775808 ≤ p) (p2 : p ≤ 9223372036854775807) (q1 : -9223372036854775808 ≤ q) (q2 : q ≤ 9223372036854775807) :
    Calls Try.prog 10 #[.pointer (some ⟨b, 0, none⟩), .int .i64 a, .int .i64 p, .int .i64 q] w (GPost w B b v cl (scaleR cl ms a p q)) := by
  have hc := h.closed
  have hf := h.few
  have HG : Hid (Gr w B b v ms cl) := h
  clear h
  cases cl with
  | true =>
    go_enter Try.func10, Try.ntmps10
    go_wp2
    go_ret2
    exact GPost.same HG.out (Below.refl _ _) _ _ _ rfl
  | false =>
    cases ha : hasB ms.length a with
    | false =>
      have HX : Hid (scaleR false ms a p q = (0, 2, ms)) := by simp [Hid, scaleR, ha]
      go_enter Try.func10, Try.ntmps10
      go_wp2_with fail
      refine (has_any _ B b v ms false HG.out a).mono ?_
      rintro e w1 ⟨rfl, rfl⟩
      go_wp2
      go_ret2
      exact GPost.same HG.out (Below.refl _ _) _ _ _ HX.out
    | true =>
      have hab := hasB_bound hf ha
      cases hbad : Bk.bad p q with
      | true =>
        have HX : Hid (scaleR false ms a p q = (0, 3, ms)) := by simp [Hid, scaleR, hbad, ha]
        go_enter Try.func10, Try.ntmps10
        go_wp2_with fail
        refine (has_any _ B b v ms false HG.out a).mono ?_
        rintro e w1 ⟨rfl, rfl⟩
        go_wp2_with fail
        refine (lowest_bad p q _ p1 p2 q1 q2 hbad).mono ?_
        rintro e w1 ⟨rfl, hb1⟩
        go_wp2
        go_ret2
        exact GPost.same HG.out (hb1.alloc hb1.size _) _ _ _ HX.out
      | false =>
        have HX : Hid (scaleR false ms a p q = addR ms (5, a, 0, Bk.sgn p q, Bk.top p q, Bk.bot p q)) := by simp [Hid, scaleR, hbad, ha]
        go_enter Try.func10, Try.ntmps10
        go_wp2_with fail
        refine (has_any _ B b v ms false HG.out a).mono ?_
        rintro e w1 ⟨rfl, rfl⟩
        go_wp2_with fail
        refine (lowest_ok p q _ p1 p2 q1 q2 hbad).mono ?_
        rintro e w1 ⟨rfl, hb1⟩
        go_wp2_with fail
        refine (madeOf_any _ 5 a 0 (Bk.sgn p q) (Bk.top p q) (Bk.bot p q) (by decide) (by decide) (by omega) (by omega) (by decide) (by decide)).mono ?_
        rintro e w2 ⟨rfl, hb2⟩
        have hb3 : Below w.heap.size w w2 := (hb1.alloc hb1.size _).trans (hb2.mono (by simp; have := hb1.size; omega))
        have HB3 : Hid (Below w.heap.size w w2) := hb3
        clear hb1 hb2 hb3
        go_wp2_with fail
        refine (add_any _ B b v ms false (HG.out.below HB3.out) (Nat.le_trans hB HB3.out.size) 5 a 0 _ _ _).mono ?_
        rintro e w3 hp
        obtain ⟨he, hp2⟩ := id hp
        subst he
        have HP : Hid (AddPost w2 B b v ms false (5, a, 0, Bk.sgn p q, Bk.top p q, Bk.bot p q) (.returned (.tuple #[.int .i64 (addH ms (5, a, 0, Bk.sgn p q, Bk.top p q, Bk.bot p q)), .int .i64 (addE ms (5, a, 0, Bk.sgn p q, Bk.top p q, Bk.bot p q))])) w3) := hp
        clear hp hp2
        go_wp2
        go_ret2
        exact GPost.of_add HB3.out HP.out _ HX.out

theorem one_two {op : Int} (h : twoB op = true) : oneB op = false := by
  simp [twoB, oneB] at h ⊢; omega
theorem op_bound {op : Int} (h : twoB op = true ∨ oneB op = true) : 0 ≤ op ∧ op ≤ 8 := by
  simp [twoB, oneB] at h; omega

set_option maxHeartbeats 2000000 in
theorem node_any (w : World) (B b : Nat) (v : Value) (ms : List Mk) (cl : Bool) (h : Gr w B b v ms cl) (hB : B ≤ w.heap.size) (op x y : Int) :
    Calls Try.prog 11 #[.pointer (some ⟨b, 0, none⟩), .int .i64 op, .int .i64 x, .int .i64 y] w (GPost w B b v cl (nodeR cl ms op x y)) := by
  have hc := h.closed
  have hf := h.few
  have HG : Hid (Gr w B b v ms cl) := h
  clear h
  cases cl with
  | true =>
    go_enter Try.func11, Try.ntmps11
    go_wp2_with (first | (go_at_call 18; refine (takesOne_any _ _).mono ?_; rintro e w' ⟨rfl, rfl⟩) | (go_at_call 19; refine (takesTwo_any _ _).mono ?_; rintro e w' ⟨rfl, rfl⟩))
    go_ret2
    exact GPost.same HG.out (Below.refl _ _) _ _ _ rfl
  | false =>
    cases hx : hasB ms.length x with
    | false =>
      have HX : Hid (nodeR false ms op x y = (0, 2, ms)) := by simp [Hid, nodeR, hx]
      go_enter Try.func11, Try.ntmps11
      go_wp2_with (first | (go_at_call 18; refine (takesOne_any _ _).mono ?_; rintro e w' ⟨rfl, rfl⟩) | (go_at_call 19; refine (takesTwo_any _ _).mono ?_; rintro e w' ⟨rfl, rfl⟩) | (go_at_call 17; refine (has_any _ B b v ms false HG.out _).mono ?_; rintro e w' ⟨rfl, rfl⟩))
      go_ret2
      exact GPost.same HG.out (Below.refl _ _) _ _ _ HX.out
    | true =>
      have hxb := hasB_bound hf hx
      cases h2 : twoB op with
      | true =>
        have h1 := one_two h2
        have hob := op_bound (.inl h2)
        cases hy : hasB ms.length y with
        | false =>
          have HX : Hid (nodeR false ms op x y = (0, 2, ms)) := by simp [Hid, nodeR, hx, h2, hy]
          go_enter Try.func11, Try.ntmps11
          go_wp2_with (first | (go_at_call 18; refine (takesOne_any _ _).mono ?_; rintro e w' ⟨rfl, rfl⟩) | (go_at_call 19; refine (takesTwo_any _ _).mono ?_; rintro e w' ⟨rfl, rfl⟩) | (go_at_call 17; refine (has_any _ B b v ms false HG.out _).mono ?_; rintro e w' ⟨rfl, rfl⟩))
          go_ret2
          exact GPost.same HG.out (Below.refl _ _) _ _ _ HX.out
        | true =>
          have hyb := hasB_bound hf hy
          have HX : Hid (nodeR false ms op x y = addR ms (op, x, y, 0, 0, 0)) := by simp [Hid, nodeR, hx, h2, hy]
          go_enter Try.func11, Try.ntmps11
          go_wp2_with (first | (go_at_call 18; refine (takesOne_any _ _).mono ?_; rintro e w' ⟨rfl, rfl⟩) | (go_at_call 19; refine (takesTwo_any _ _).mono ?_; rintro e w' ⟨rfl, rfl⟩) | (go_at_call 17; refine (has_any _ B b v ms false HG.out _).mono ?_; rintro e w' ⟨rfl, rfl⟩))
          refine (madeOf_any _ op x y 0 0 0 (by omega) (by omega) (by omega) (by omega) (by omega) (by omega)).mono ?_
          rintro e w2 ⟨rfl, hb2⟩
          have HB3 : Hid (Below _ _ w2) := hb2
          clear hb2
          go_wp2_with fail
          refine (add_any _ B b v ms false (HG.out.below HB3.out) (Nat.le_trans hB HB3.out.size) op x y 0 0 0).mono ?_
          rintro e w3 hp
          obtain ⟨he, hp2⟩ := id hp
          subst he
          have HP : Hid (AddPost w2 B b v ms false (op, x, y, 0, 0, 0) (.returned (.tuple #[.int .i64 (addH ms (op, x, y, 0, 0, 0)), .int .i64 (addE ms (op, x, y, 0, 0, 0))])) w3) := hp
          clear hp hp2
          go_wp2
          go_ret2
          exact GPost.of_add HB3.out HP.out _ HX.out
      | false =>
        cases h1 : oneB op with
        | false =>
          have HX : Hid (nodeR false ms op x y = (0, 3, ms)) := by simp [Hid, nodeR, hx, h2, h1]
          go_enter Try.func11, Try.ntmps11
          go_wp2_with (first | (go_at_call 18; refine (takesOne_any _ _).mono ?_; rintro e w' ⟨rfl, rfl⟩) | (go_at_call 19; refine (takesTwo_any _ _).mono ?_; rintro e w' ⟨rfl, rfl⟩) | (go_at_call 17; refine (has_any _ B b v ms false HG.out _).mono ?_; rintro e w' ⟨rfl, rfl⟩))
          go_ret2
          exact GPost.same HG.out (Below.refl _ _) _ _ _ HX.out
        | true =>
          have hob := op_bound (.inr h1)
          have HX : Hid (nodeR false ms op x y = addR ms (op, x, 0, 0, 0, 0)) := by simp [Hid, nodeR, hx, h2, h1]
          go_enter Try.func11, Try.ntmps11
          go_wp2_with (first | (go_at_call 18; refine (takesOne_any _ _).mono ?_; rintro e w' ⟨rfl, rfl⟩) | (go_at_call 19; refine (takesTwo_any _ _).mono ?_; rintro e w' ⟨rfl, rfl⟩) | (go_at_call 17; refine (has_any _ B b v ms false HG.out _).mono ?_; rintro e w' ⟨rfl, rfl⟩))
          refine (madeOf_any _ op x 0 0 0 0 (by omega) (by omega) (by omega) (by omega) (by omega) (by omega)).mono ?_
          rintro e w2 ⟨rfl, hb2⟩
          have HB3 : Hid (Below _ _ w2) := hb2
          clear hb2
          go_wp2_with fail
          refine (add_any _ B b v ms false (HG.out.below HB3.out) (Nat.le_trans hB HB3.out.size) op x 0 0 0 0).mono ?_
          rintro e w3 hp
          obtain ⟨he, hp2⟩ := id hp
          subst he
          have HP : Hid (AddPost w2 B b v ms false (op, x, 0, 0, 0, 0) (.returned (.tuple #[.int .i64 (addH ms (op, x, 0, 0, 0, 0)), .int .i64 (addE ms (op, x, 0, 0, 0, 0))])) w3) := hp
          clear hp hp2
          go_wp2
          go_ret2
          exact GPost.of_add HB3.out HP.out _ HX.out
end Go.Proofs.Ytccogcbddpighaa
