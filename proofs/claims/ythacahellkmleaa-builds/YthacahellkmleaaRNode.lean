/- The contract of the document's Node, op by op. -/
import Derived.Test.YthacahellkmleaaRCalls
namespace Go.Proofs.Ythacahellkmleaa
open Go.RowKit

/-- The world in which the second part is put behind the first. -/
abbrev twoW (w : World) (x y op : Int) : World := ((w.alloc (onePart x)).alloc (fresh op (.slice (some ⟨w.heap.size, 0, none⟩) 1 1))).alloc (onePart y)
theorem two_owned (w : World) (x y op : Int) : (twoW w x y op).ownsRow w.heap.size 109 4 (.slice (some ⟨w.heap.size, 0, none⟩) 1 1) 1 [.int .i64 x, .int .i64 0, .int .i64 0, .slice none 0 0] :=
  ⟨rfl, .inr ⟨w.heap.size, 1, #[.int .i64 x, .int .i64 0, .int .i64 0, .slice none 0 0], rfl, Nat.le_refl _, by rw [Below.heap_alloc _ _ _ (by simp; omega), Below.heap_alloc _ _ _ (by simp)]; exact heap_alloc_new w _, Nat.le_refl _, by unfold maxLen; omega, rfl, rfl⟩⟩
theorem two_news (w : World) (x y op : Int) : ∀ j u, ([.int .i64 y, .int .i64 0, .int .i64 0, .slice none 0 0] : List Value)[j]? = some u → (twoW w x y op).cell? ((⟨w.heap.size + 2, 0, none⟩ : Addr).add j) = some u :=
  World.news_of_block (cs := #[.int .i64 y, .int .i64 0, .int .i64 0, .slice none 0 0]) (t := 109) (fr := (0, 0)) (new_at _ _ _ (by simp))
theorem two_node {w w1 : World} {x y op : Int} (h : (twoW w x y op).grownBy w1 (Value.slice (some ⟨w.heap.size, 0, none⟩) 1 1).ownBlock) :
    NodeB w1 (w.heap.size + 1) op (.slice (some ⟨w.heap.size, 0, none⟩) 1 1) (.int .i64 0) (.slice none 0 0) (.int .i64 0) (.slice none 0 0) (.slice none 0 0) (.int .i64 0) (.slice none 0 0) false 0 0 := by
  unfold NodeB
  rw [h.block (w.heap.size + 1) (by simp) (by simp [Value.ownBlock]), Below.heap_alloc _ _ _ (by simp)]
  exact new_at _ _ _ (by simp)
theorem two_after {w w1 : World} {x y op : Int} (h : (twoW w x y op).grownBy w1 (Value.slice (some ⟨w.heap.size, 0, none⟩) 1 1).ownBlock) :
    w1.cell? ⟨w.heap.size + 1, 1, none⟩ = some (.slice (some ⟨w.heap.size, 0, none⟩) 1 1) ∧ w1.frozen? ⟨w.heap.size + 1, 1, none⟩ = false ∧ Hid (Below w.heap.size w w1) := by
  obtain ⟨_, n1, _, _, _, _, _, _, _, nf⟩ := (two_node h).facts
  refine ⟨n1, nf 1, ?_⟩
  have hb : Below w.heap.size w (twoW w x y op) := ((((Below.refl _ _).alloc (Nat.le_refl _) _).alloc (by simp) _).alloc (by simp; omega) _)
  exact hb.grown h (by simp; omega) fun k hk => by simp [Value.ownBlock] at hk; omega

set_option maxRecDepth 100000 in
set_option maxHeartbeats 4000000 in
theorem rnode_2 (w : World) (B r : Nat) (rv : Value) (ms : List Mk) (cl : Bool) (h : RGr w B r rv ms cl) (hB : B ≤ w.heap.size) (x y : Int) :
    Calls Try.prog 39 #[.pointer (some ⟨r, 0, none⟩), .int .i64 2, .int .i64 x, .int .i64 y] w (RPost w B r rv cl (nodeR cl ms 2 x y)) := by
  have hc := h.closed
  have HG := hide h
  clear h
  cases cl with
  | true =>
    go_enter Try.func39, Try.ntmps39
    go_wp2_with (first | (go_at_call 48; refine (rhas_any _ B r rv ms true HG.out _).mono ?_; rintro e w' ⟨rfl, rfl⟩))
    go_ret2
    exact RPost.same HG.out (Below.refl _ _) _ _ _ rfl
  | false =>
    cases hx : hasB ms.length x with
    | false =>
      have HX : Hid (nodeR false ms 2 x y = (0, 2, ms)) := by simp [Hid, nodeR, hx]
      go_enter Try.func39, Try.ntmps39
      go_wp2_with (first | (go_at_call 48; refine (rhas_any _ B r rv ms false HG.out _).mono ?_; rintro e w' ⟨rfl, rfl⟩))
      go_ret2
      exact RPost.same HG.out (Below.refl _ _) _ _ _ HX.out
    | true =>
      have HX : Hid (nodeR false ms 2 x y = addR ms (2, x, 0, 0, 0, 0)) := by simp [Hid, nodeR, hx, twoB, oneB]
      have HN0 : Hid (NodeB ((w.alloc (onePart x)).alloc (fresh 2 (.slice (some ⟨w.heap.size, 0, none⟩) 1 1))) (w.heap.size + 1) 2 (.slice (some ⟨w.heap.size, 0, none⟩) 1 1) (.int .i64 0) (.slice none 0 0) (.int .i64 0) (.slice none 0 0) (.slice none 0 0) (.int .i64 0) (.slice none 0 0) false 0 0) := new_at _ _ _ (by simp)
      have HN : Hid (NodeAt ((w.alloc (onePart x)).alloc (fresh 2 (.slice (some ⟨w.heap.size, 0, none⟩) 1 1))) (w.heap.size + 1) (2, x, 0, 0, 0, 0)) :=
        ⟨_, _, _, _, _, _, _, _, HN0.out, parts_one (by rw [Below.heap_alloc _ _ _ (by simp)]; exact heap_alloc_new w _)⟩
      have HB : Hid (Below w.heap.size w ((w.alloc (onePart x)).alloc (fresh 2 (.slice (some ⟨w.heap.size, 0, none⟩) 1 1)))) := ((Below.refl _ _).alloc (Nat.le_refl _) _).alloc (by simp) _
      go_enter Try.func39, Try.ntmps39
      go_wp2_with (first | (go_at_call 48; refine (rhas_any _ B r rv ms false HG.out _).mono ?_; rintro e w' ⟨rfl, rfl⟩))
      refine (radd_any _ B r rv ms false (HG.out.below HB.out) (Nat.le_trans hB HB.out.size) (w.heap.size + 1) _ HN.out (okm_one 2 x (by decide))).mono ?_
      rintro e w3 hp
      have HP := hide (RPost.after HB.out hp)
      obtain ⟨he, _⟩ := hp
      subst he
      go_wp2
      go_ret2
      rw [HX.out]
      exact HP.out

set_option maxRecDepth 100000 in
set_option maxHeartbeats 4000000 in
theorem rnode_8 (w : World) (B r : Nat) (rv : Value) (ms : List Mk) (cl : Bool) (h : RGr w B r rv ms cl) (hB : B ≤ w.heap.size) (x y : Int) :
    Calls Try.prog 39 #[.pointer (some ⟨r, 0, none⟩), .int .i64 8, .int .i64 x, .int .i64 y] w (RPost w B r rv cl (nodeR cl ms 8 x y)) := by
  have hc := h.closed
  have HG := hide h
  clear h
  cases cl with
  | true =>
    go_enter Try.func39, Try.ntmps39
    go_wp2_with (first | (go_at_call 48; refine (rhas_any _ B r rv ms true HG.out _).mono ?_; rintro e w' ⟨rfl, rfl⟩))
    go_ret2
    exact RPost.same HG.out (Below.refl _ _) _ _ _ rfl
  | false =>
    cases hx : hasB ms.length x with
    | false =>
      have HX : Hid (nodeR false ms 8 x y = (0, 2, ms)) := by simp [Hid, nodeR, hx]
      go_enter Try.func39, Try.ntmps39
      go_wp2_with (first | (go_at_call 48; refine (rhas_any _ B r rv ms false HG.out _).mono ?_; rintro e w' ⟨rfl, rfl⟩))
      go_ret2
      exact RPost.same HG.out (Below.refl _ _) _ _ _ HX.out
    | true =>
      have HX : Hid (nodeR false ms 8 x y = addR ms (8, x, 0, 0, 0, 0)) := by simp [Hid, nodeR, hx, twoB, oneB]
      have HN0 : Hid (NodeB ((w.alloc (onePart x)).alloc (fresh 8 (.slice (some ⟨w.heap.size, 0, none⟩) 1 1))) (w.heap.size + 1) 8 (.slice (some ⟨w.heap.size, 0, none⟩) 1 1) (.int .i64 0) (.slice none 0 0) (.int .i64 0) (.slice none 0 0) (.slice none 0 0) (.int .i64 0) (.slice none 0 0) false 0 0) := new_at _ _ _ (by simp)
      have HN : Hid (NodeAt ((w.alloc (onePart x)).alloc (fresh 8 (.slice (some ⟨w.heap.size, 0, none⟩) 1 1))) (w.heap.size + 1) (8, x, 0, 0, 0, 0)) :=
        ⟨_, _, _, _, _, _, _, _, HN0.out, parts_one (by rw [Below.heap_alloc _ _ _ (by simp)]; exact heap_alloc_new w _)⟩
      have HB : Hid (Below w.heap.size w ((w.alloc (onePart x)).alloc (fresh 8 (.slice (some ⟨w.heap.size, 0, none⟩) 1 1)))) := ((Below.refl _ _).alloc (Nat.le_refl _) _).alloc (by simp) _
      go_enter Try.func39, Try.ntmps39
      go_wp2_with (first | (go_at_call 48; refine (rhas_any _ B r rv ms false HG.out _).mono ?_; rintro e w' ⟨rfl, rfl⟩))
      refine (radd_any _ B r rv ms false (HG.out.below HB.out) (Nat.le_trans hB HB.out.size) (w.heap.size + 1) _ HN.out (okm_one 8 x (by decide))).mono ?_
      rintro e w3 hp
      have HP := hide (RPost.after HB.out hp)
      obtain ⟨he, _⟩ := hp
      subst he
      go_wp2
      go_ret2
      rw [HX.out]
      exact HP.out

set_option maxRecDepth 100000 in
set_option maxHeartbeats 4000000 in
theorem rnode_3 (w : World) (B r : Nat) (rv : Value) (ms : List Mk) (cl : Bool) (h : RGr w B r rv ms cl) (hB : B ≤ w.heap.size) (x y : Int) :
    Calls Try.prog 39 #[.pointer (some ⟨r, 0, none⟩), .int .i64 3, .int .i64 x, .int .i64 y] w (RPost w B r rv cl (nodeR cl ms 3 x y)) := by
  have hc := h.closed
  have HG := hide h
  clear h
  cases cl with
  | true =>
    go_enter Try.func39, Try.ntmps39
    go_wp2_with (first | (go_at_call 48; refine (rhas_any _ B r rv ms true HG.out _).mono ?_; rintro e w' ⟨rfl, rfl⟩))
    go_ret2
    exact RPost.same HG.out (Below.refl _ _) _ _ _ rfl
  | false =>
    cases hx : hasB ms.length x with
    | false =>
      have HX : Hid (nodeR false ms 3 x y = (0, 2, ms)) := by simp [Hid, nodeR, hx]
      go_enter Try.func39, Try.ntmps39
      go_wp2_with (first | (go_at_call 48; refine (rhas_any _ B r rv ms false HG.out _).mono ?_; rintro e w' ⟨rfl, rfl⟩))
      go_ret2
      exact RPost.same HG.out (Below.refl _ _) _ _ _ HX.out
    | true =>
      cases hy : hasB ms.length y with
      | false =>
        have HX : Hid (nodeR false ms 3 x y = (0, 2, ms)) := by simp [Hid, nodeR, hx, hy, twoB]
        go_enter Try.func39, Try.ntmps39
        go_wp2_with (first | (go_at_call 48; refine (rhas_any _ B r rv ms false HG.out _).mono ?_; rintro e w' ⟨rfl, rfl⟩))
        go_ret2
        exact RPost.same HG.out (Below.refl _ _) _ _ _ HX.out
      | true =>
        have HX : Hid (nodeR false ms 3 x y = addR ms (3, x, y, 0, 0, 0)) := by simp [Hid, nodeR, hx, hy, twoB]
        obtain ⟨i0, hi0, hz0, hz1, hz2⟩ := info_parts Try.infoPart
        go_enter Try.func39, Try.ntmps39
        go_wp2_with (first | (go_at_call 48; refine (rhas_any _ B r rv ms false HG.out _).mono ?_; rintro e w' ⟨rfl, rfl⟩) | (at_builtin; refine wpList_append_lies _ rfl _ _ 101 rfl w.heap.size 109 i0 _ 4 48 Try.underlying101 hi0 hz0 hz1 hz2 rfl (by omega) (.slice (some ⟨w.heap.size, 0, none⟩) 1 1) 1 [.int .i64 x, .int .i64 0, .int .i64 0, .slice none 0 0] rfl (two_owned w x y 3) ⟨w.heap.size + 2, 0, none⟩ 1 1 [.int .i64 y, .int .i64 0, .int .i64 0, .slice none 0 0] rfl rfl (two_news w x y 3) (by simp [Value.oneCell']) (by omega) (by unfold maxLen; omega) (by omega) (by simp; omega) (w.heap.size + 3) (by simp) ?_; intro g cap w1 hown1 hgrow hat hlt1; have hta := two_after hgrow; have k0 := hta.1; have k1 := hta.2.1; have HB := hta.2.2; clear hta))
        have HN0 := hide ((two_node hgrow).setparts (.slice (some ⟨g, 0, none⟩) 2 cap))
        have HO := hide hown1
        have hgn : ¬ g = w.heap.size + 1 := by rcases hat with e | e
                                               · simp [Value.ownBlock] at e; omega
                                               · omega
        clear hgrow hown1 hat
        have HN : Hid (NodeAt (w1.setCell ⟨w.heap.size + 1, 1, none⟩ (.slice (some ⟨g, 0, none⟩) 2 cap)) (w.heap.size + 1) (3, x, y, 0, 0, 0)) :=
          ⟨_, _, _, _, _, _, _, _, HN0.out, parts_two (owns_set HO.out (by simp [Value.ownBlock]; omega) _ _)⟩
        have HB2 := hide (HB.out.setCell (p := ⟨w.heap.size + 1, 1, none⟩) (by show w.heap.size ≤ w.heap.size + 1; omega) (.slice (some ⟨g, 0, none⟩) 2 cap))
        refine (radd_any _ B r rv ms false (HG.out.below HB2.out) (Nat.le_trans hB HB2.out.size) (w.heap.size + 1) _ HN.out (okm_two 3 x y (by decide))).mono ?_
        rintro e w3 hp
        have HP := hide (RPost.after HB2.out hp)
        obtain ⟨he, _⟩ := hp
        subst he
        go_wp2
        go_ret2
        rw [HX.out]
        exact HP.out

set_option maxRecDepth 100000 in
set_option maxHeartbeats 4000000 in
theorem rnode_4 (w : World) (B r : Nat) (rv : Value) (ms : List Mk) (cl : Bool) (h : RGr w B r rv ms cl) (hB : B ≤ w.heap.size) (x y : Int) :
    Calls Try.prog 39 #[.pointer (some ⟨r, 0, none⟩), .int .i64 4, .int .i64 x, .int .i64 y] w (RPost w B r rv cl (nodeR cl ms 4 x y)) := by
  have hc := h.closed
  have HG := hide h
  clear h
  cases cl with
  | true =>
    go_enter Try.func39, Try.ntmps39
    go_wp2_with (first | (go_at_call 48; refine (rhas_any _ B r rv ms true HG.out _).mono ?_; rintro e w' ⟨rfl, rfl⟩))
    go_ret2
    exact RPost.same HG.out (Below.refl _ _) _ _ _ rfl
  | false =>
    cases hx : hasB ms.length x with
    | false =>
      have HX : Hid (nodeR false ms 4 x y = (0, 2, ms)) := by simp [Hid, nodeR, hx]
      go_enter Try.func39, Try.ntmps39
      go_wp2_with (first | (go_at_call 48; refine (rhas_any _ B r rv ms false HG.out _).mono ?_; rintro e w' ⟨rfl, rfl⟩))
      go_ret2
      exact RPost.same HG.out (Below.refl _ _) _ _ _ HX.out
    | true =>
      cases hy : hasB ms.length y with
      | false =>
        have HX : Hid (nodeR false ms 4 x y = (0, 2, ms)) := by simp [Hid, nodeR, hx, hy, twoB]
        go_enter Try.func39, Try.ntmps39
        go_wp2_with (first | (go_at_call 48; refine (rhas_any _ B r rv ms false HG.out _).mono ?_; rintro e w' ⟨rfl, rfl⟩))
        go_ret2
        exact RPost.same HG.out (Below.refl _ _) _ _ _ HX.out
      | true =>
        have HX : Hid (nodeR false ms 4 x y = addR ms (4, x, y, 0, 0, 0)) := by simp [Hid, nodeR, hx, hy, twoB]
        obtain ⟨i0, hi0, hz0, hz1, hz2⟩ := info_parts Try.infoPart
        go_enter Try.func39, Try.ntmps39
        go_wp2_with (first | (go_at_call 48; refine (rhas_any _ B r rv ms false HG.out _).mono ?_; rintro e w' ⟨rfl, rfl⟩) | (at_builtin; refine wpList_append_lies _ rfl _ _ 101 rfl w.heap.size 109 i0 _ 4 48 Try.underlying101 hi0 hz0 hz1 hz2 rfl (by omega) (.slice (some ⟨w.heap.size, 0, none⟩) 1 1) 1 [.int .i64 x, .int .i64 0, .int .i64 0, .slice none 0 0] rfl (two_owned w x y 4) ⟨w.heap.size + 2, 0, none⟩ 1 1 [.int .i64 y, .int .i64 0, .int .i64 0, .slice none 0 0] rfl rfl (two_news w x y 4) (by simp [Value.oneCell']) (by omega) (by unfold maxLen; omega) (by omega) (by simp; omega) (w.heap.size + 3) (by simp) ?_; intro g cap w1 hown1 hgrow hat hlt1; have hta := two_after hgrow; have k0 := hta.1; have k1 := hta.2.1; have HB := hta.2.2; clear hta))
        have HN0 := hide ((two_node hgrow).setparts (.slice (some ⟨g, 0, none⟩) 2 cap))
        have HO := hide hown1
        have hgn : ¬ g = w.heap.size + 1 := by rcases hat with e | e
                                               · simp [Value.ownBlock] at e; omega
                                               · omega
        clear hgrow hown1 hat
        have HN : Hid (NodeAt (w1.setCell ⟨w.heap.size + 1, 1, none⟩ (.slice (some ⟨g, 0, none⟩) 2 cap)) (w.heap.size + 1) (4, x, y, 0, 0, 0)) :=
          ⟨_, _, _, _, _, _, _, _, HN0.out, parts_two (owns_set HO.out (by simp [Value.ownBlock]; omega) _ _)⟩
        have HB2 := hide (HB.out.setCell (p := ⟨w.heap.size + 1, 1, none⟩) (by show w.heap.size ≤ w.heap.size + 1; omega) (.slice (some ⟨g, 0, none⟩) 2 cap))
        refine (radd_any _ B r rv ms false (HG.out.below HB2.out) (Nat.le_trans hB HB2.out.size) (w.heap.size + 1) _ HN.out (okm_two 4 x y (by decide))).mono ?_
        rintro e w3 hp
        have HP := hide (RPost.after HB2.out hp)
        obtain ⟨he, _⟩ := hp
        subst he
        go_wp2
        go_ret2
        rw [HX.out]
        exact HP.out

set_option maxRecDepth 100000 in
set_option maxHeartbeats 4000000 in
theorem rnode_6 (w : World) (B r : Nat) (rv : Value) (ms : List Mk) (cl : Bool) (h : RGr w B r rv ms cl) (hB : B ≤ w.heap.size) (x y : Int) :
    Calls Try.prog 39 #[.pointer (some ⟨r, 0, none⟩), .int .i64 6, .int .i64 x, .int .i64 y] w (RPost w B r rv cl (nodeR cl ms 6 x y)) := by
  have hc := h.closed
  have HG := hide h
  clear h
  cases cl with
  | true =>
    go_enter Try.func39, Try.ntmps39
    go_wp2_with (first | (go_at_call 48; refine (rhas_any _ B r rv ms true HG.out _).mono ?_; rintro e w' ⟨rfl, rfl⟩))
    go_ret2
    exact RPost.same HG.out (Below.refl _ _) _ _ _ rfl
  | false =>
    cases hx : hasB ms.length x with
    | false =>
      have HX : Hid (nodeR false ms 6 x y = (0, 2, ms)) := by simp [Hid, nodeR, hx]
      go_enter Try.func39, Try.ntmps39
      go_wp2_with (first | (go_at_call 48; refine (rhas_any _ B r rv ms false HG.out _).mono ?_; rintro e w' ⟨rfl, rfl⟩))
      go_ret2
      exact RPost.same HG.out (Below.refl _ _) _ _ _ HX.out
    | true =>
      cases hy : hasB ms.length y with
      | false =>
        have HX : Hid (nodeR false ms 6 x y = (0, 2, ms)) := by simp [Hid, nodeR, hx, hy, twoB]
        go_enter Try.func39, Try.ntmps39
        go_wp2_with (first | (go_at_call 48; refine (rhas_any _ B r rv ms false HG.out _).mono ?_; rintro e w' ⟨rfl, rfl⟩))
        go_ret2
        exact RPost.same HG.out (Below.refl _ _) _ _ _ HX.out
      | true =>
        have HX : Hid (nodeR false ms 6 x y = addR ms (6, x, y, 0, 0, 0)) := by simp [Hid, nodeR, hx, hy, twoB]
        obtain ⟨i0, hi0, hz0, hz1, hz2⟩ := info_parts Try.infoPart
        go_enter Try.func39, Try.ntmps39
        go_wp2_with (first | (go_at_call 48; refine (rhas_any _ B r rv ms false HG.out _).mono ?_; rintro e w' ⟨rfl, rfl⟩) | (at_builtin; refine wpList_append_lies _ rfl _ _ 101 rfl w.heap.size 109 i0 _ 4 48 Try.underlying101 hi0 hz0 hz1 hz2 rfl (by omega) (.slice (some ⟨w.heap.size, 0, none⟩) 1 1) 1 [.int .i64 x, .int .i64 0, .int .i64 0, .slice none 0 0] rfl (two_owned w x y 6) ⟨w.heap.size + 2, 0, none⟩ 1 1 [.int .i64 y, .int .i64 0, .int .i64 0, .slice none 0 0] rfl rfl (two_news w x y 6) (by simp [Value.oneCell']) (by omega) (by unfold maxLen; omega) (by omega) (by simp; omega) (w.heap.size + 3) (by simp) ?_; intro g cap w1 hown1 hgrow hat hlt1; have hta := two_after hgrow; have k0 := hta.1; have k1 := hta.2.1; have HB := hta.2.2; clear hta))
        have HN0 := hide ((two_node hgrow).setparts (.slice (some ⟨g, 0, none⟩) 2 cap))
        have HO := hide hown1
        have hgn : ¬ g = w.heap.size + 1 := by rcases hat with e | e
                                               · simp [Value.ownBlock] at e; omega
                                               · omega
        clear hgrow hown1 hat
        have HN : Hid (NodeAt (w1.setCell ⟨w.heap.size + 1, 1, none⟩ (.slice (some ⟨g, 0, none⟩) 2 cap)) (w.heap.size + 1) (6, x, y, 0, 0, 0)) :=
          ⟨_, _, _, _, _, _, _, _, HN0.out, parts_two (owns_set HO.out (by simp [Value.ownBlock]; omega) _ _)⟩
        have HB2 := hide (HB.out.setCell (p := ⟨w.heap.size + 1, 1, none⟩) (by show w.heap.size ≤ w.heap.size + 1; omega) (.slice (some ⟨g, 0, none⟩) 2 cap))
        refine (radd_any _ B r rv ms false (HG.out.below HB2.out) (Nat.le_trans hB HB2.out.size) (w.heap.size + 1) _ HN.out (okm_two 6 x y (by decide))).mono ?_
        rintro e w3 hp
        have HP := hide (RPost.after HB2.out hp)
        obtain ⟨he, _⟩ := hp
        subst he
        go_wp2
        go_ret2
        rw [HX.out]
        exact HP.out

set_option maxRecDepth 100000 in
set_option maxHeartbeats 4000000 in
theorem rnode_7 (w : World) (B r : Nat) (rv : Value) (ms : List Mk) (cl : Bool) (h : RGr w B r rv ms cl) (hB : B ≤ w.heap.size) (x y : Int) :
    Calls Try.prog 39 #[.pointer (some ⟨r, 0, none⟩), .int .i64 7, .int .i64 x, .int .i64 y] w (RPost w B r rv cl (nodeR cl ms 7 x y)) := by
  have hc := h.closed
  have HG := hide h
  clear h
  cases cl with
  | true =>
    go_enter Try.func39, Try.ntmps39
    go_wp2_with (first | (go_at_call 48; refine (rhas_any _ B r rv ms true HG.out _).mono ?_; rintro e w' ⟨rfl, rfl⟩))
    go_ret2
    exact RPost.same HG.out (Below.refl _ _) _ _ _ rfl
  | false =>
    cases hx : hasB ms.length x with
    | false =>
      have HX : Hid (nodeR false ms 7 x y = (0, 2, ms)) := by simp [Hid, nodeR, hx]
      go_enter Try.func39, Try.ntmps39
      go_wp2_with (first | (go_at_call 48; refine (rhas_any _ B r rv ms false HG.out _).mono ?_; rintro e w' ⟨rfl, rfl⟩))
      go_ret2
      exact RPost.same HG.out (Below.refl _ _) _ _ _ HX.out
    | true =>
      cases hy : hasB ms.length y with
      | false =>
        have HX : Hid (nodeR false ms 7 x y = (0, 2, ms)) := by simp [Hid, nodeR, hx, hy, twoB]
        go_enter Try.func39, Try.ntmps39
        go_wp2_with (first | (go_at_call 48; refine (rhas_any _ B r rv ms false HG.out _).mono ?_; rintro e w' ⟨rfl, rfl⟩))
        go_ret2
        exact RPost.same HG.out (Below.refl _ _) _ _ _ HX.out
      | true =>
        have HX : Hid (nodeR false ms 7 x y = addR ms (7, x, y, 0, 0, 0)) := by simp [Hid, nodeR, hx, hy, twoB]
        obtain ⟨i0, hi0, hz0, hz1, hz2⟩ := info_parts Try.infoPart
        go_enter Try.func39, Try.ntmps39
        go_wp2_with (first | (go_at_call 48; refine (rhas_any _ B r rv ms false HG.out _).mono ?_; rintro e w' ⟨rfl, rfl⟩) | (at_builtin; refine wpList_append_lies _ rfl _ _ 101 rfl w.heap.size 109 i0 _ 4 48 Try.underlying101 hi0 hz0 hz1 hz2 rfl (by omega) (.slice (some ⟨w.heap.size, 0, none⟩) 1 1) 1 [.int .i64 x, .int .i64 0, .int .i64 0, .slice none 0 0] rfl (two_owned w x y 7) ⟨w.heap.size + 2, 0, none⟩ 1 1 [.int .i64 y, .int .i64 0, .int .i64 0, .slice none 0 0] rfl rfl (two_news w x y 7) (by simp [Value.oneCell']) (by omega) (by unfold maxLen; omega) (by omega) (by simp; omega) (w.heap.size + 3) (by simp) ?_; intro g cap w1 hown1 hgrow hat hlt1; have hta := two_after hgrow; have k0 := hta.1; have k1 := hta.2.1; have HB := hta.2.2; clear hta))
        have HN0 := hide ((two_node hgrow).setparts (.slice (some ⟨g, 0, none⟩) 2 cap))
        have HO := hide hown1
        have hgn : ¬ g = w.heap.size + 1 := by rcases hat with e | e
                                               · simp [Value.ownBlock] at e; omega
                                               · omega
        clear hgrow hown1 hat
        have HN : Hid (NodeAt (w1.setCell ⟨w.heap.size + 1, 1, none⟩ (.slice (some ⟨g, 0, none⟩) 2 cap)) (w.heap.size + 1) (7, x, y, 0, 0, 0)) :=
          ⟨_, _, _, _, _, _, _, _, HN0.out, parts_two (owns_set HO.out (by simp [Value.ownBlock]; omega) _ _)⟩
        have HB2 := hide (HB.out.setCell (p := ⟨w.heap.size + 1, 1, none⟩) (by show w.heap.size ≤ w.heap.size + 1; omega) (.slice (some ⟨g, 0, none⟩) 2 cap))
        refine (radd_any _ B r rv ms false (HG.out.below HB2.out) (Nat.le_trans hB HB2.out.size) (w.heap.size + 1) _ HN.out (okm_two 7 x y (by decide))).mono ?_
        rintro e w3 hp
        have HP := hide (RPost.after HB2.out hp)
        obtain ⟨he, _⟩ := hp
        subst he
        go_wp2
        go_ret2
        rw [HX.out]
        exact HP.out

set_option maxRecDepth 100000 in
set_option maxHeartbeats 4000000 in
theorem rnode_none (w : World) (B r : Nat) (rv : Value) (ms : List Mk) (cl : Bool) (h : RGr w B r rv ms cl) (_hB : B ≤ w.heap.size) (op : Int) (o2 : (op == 2) = false) (o3 : (op == 3) = false) (o4 : (op == 4) = false) (o6 : (op == 6) = false) (o7 : (op == 7) = false) (o8 : (op == 8) = false) (x y : Int) :
    Calls Try.prog 39 #[.pointer (some ⟨r, 0, none⟩), .int .i64 op, .int .i64 x, .int .i64 y] w (RPost w B r rv cl (nodeR cl ms op x y)) := by
  have hc := h.closed
  have HG := hide h
  clear h
  cases cl with
  | true =>
    go_enter Try.func39, Try.ntmps39
    go_wp2_with (first | (go_at_call 48; refine (rhas_any _ B r rv ms true HG.out _).mono ?_; rintro e w' ⟨rfl, rfl⟩))
    go_ret2
    exact RPost.same HG.out (Below.refl _ _) _ _ _ rfl
  | false =>
    cases hx : hasB ms.length x with
    | false =>
      have HX : Hid (nodeR false ms op x y = (0, 2, ms)) := by simp [Hid, nodeR, hx]
      go_enter Try.func39, Try.ntmps39
      go_wp2_with (first | (go_at_call 48; refine (rhas_any _ B r rv ms false HG.out _).mono ?_; rintro e w' ⟨rfl, rfl⟩))
      go_ret2
      exact RPost.same HG.out (Below.refl _ _) _ _ _ HX.out
    | true =>
      have HX : Hid (nodeR false ms op x y = (0, 3, ms)) := by simp [Hid, nodeR, hx, twoB, oneB, o2, o3, o4, o6, o7, o8]
      go_enter Try.func39, Try.ntmps39
      go_wp2_with (first | (go_at_call 48; refine (rhas_any _ B r rv ms false HG.out _).mono ?_; rintro e w' ⟨rfl, rfl⟩))
      go_ret2
      exact RPost.same HG.out (Below.refl _ _) _ _ _ HX.out

theorem rnode_any (w : World) (B r : Nat) (rv : Value) (ms : List Mk) (cl : Bool) (h : RGr w B r rv ms cl) (hB : B ≤ w.heap.size) (op x y : Int) :
    Calls Try.prog 39 #[.pointer (some ⟨r, 0, none⟩), .int .i64 op, .int .i64 x, .int .i64 y] w (RPost w B r rv cl (nodeR cl ms op x y)) := by
  by_cases h2 : op = 2
  · subst h2; exact rnode_2 w B r rv ms cl h hB x y
  by_cases h3 : op = 3
  · subst h3; exact rnode_3 w B r rv ms cl h hB x y
  by_cases h4 : op = 4
  · subst h4; exact rnode_4 w B r rv ms cl h hB x y
  by_cases h6 : op = 6
  · subst h6; exact rnode_6 w B r rv ms cl h hB x y
  by_cases h7 : op = 7
  · subst h7; exact rnode_7 w B r rv ms cl h hB x y
  by_cases h8 : op = 8
  · subst h8; exact rnode_8 w B r rv ms cl h hB x y
  exact rnode_none w B r rv ms cl h hB op (by simpa using h2) (by simpa using h3) (by simpa using h4) (by simpa using h6) (by simpa using h7) (by simpa using h8) x y
end Go.Proofs.Ythacahellkmleaa
