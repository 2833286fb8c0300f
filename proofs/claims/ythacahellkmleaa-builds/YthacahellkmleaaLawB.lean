/- The contracts of begun, known, settle and looks: two new pairs, the document's examples played ahead, and an empty book. -/
import Derived.Test.YthacahellkmleaaLawP
namespace Go.Proofs.Ythacahellkmleaa
open Go.RowKit

/-- Two pairs, and the block that holds them with an empty book. -/
structure St (w : World) (B wb : Nat) (t u : Tw) : Prop where
  two : Two w B t u
  blk : w.heap[wb]? = some (.cells #[.slice none 0 0, .slice none 0 0, .slice none 0 0, ptr t.b, ptr t.r, ptr u.b, ptr u.r] 53 (0, 0))
  low : B ≤ wb

theorem St.facts {w : World} {B wb : Nat} {t u : Tw} (h : St w B wb t u) : w.cell? ⟨wb, 0, none⟩ = some (.slice none 0 0) ∧ w.cell? ⟨wb, 1, none⟩ = some (.slice none 0 0) ∧ w.cell? ⟨wb, 2, none⟩ = some (.slice none 0 0) ∧
    w.cell? ⟨wb, 3, none⟩ = some (.pointer (some ⟨t.b, 0, none⟩)) ∧ w.cell? ⟨wb, 4, none⟩ = some (.pointer (some ⟨t.r, 0, none⟩)) ∧ w.cell? ⟨wb, 5, none⟩ = some (.pointer (some ⟨u.b, 0, none⟩)) ∧ w.cell? ⟨wb, 6, none⟩ = some (.pointer (some ⟨u.r, 0, none⟩)) ∧
    w.frozen? ⟨wb, 1, none⟩ = false ∧ w.frozen? ⟨wb, 2, none⟩ = false ∧ wb < w.heap.size := by
  have hb := h.blk
  refine ⟨?_, ?_, ?_, ?_, ?_, ?_, ?_, by simp [World.frozen?, hb], by simp [World.frozen?, hb], block_lt hb⟩
  · rw [cell_of_row w wb 0 _ _ _ hb]; rfl
  · rw [cell_of_row w wb 1 _ _ _ hb]; rfl
  · rw [cell_of_row w wb 2 _ _ _ hb]; rfl
  · rw [cell_of_row w wb 3 _ _ _ hb]; rfl
  · rw [cell_of_row w wb 4 _ _ _ hb]; rfl
  · rw [cell_of_row w wb 5 _ _ _ hb]; rfl
  · rw [cell_of_row w wb 6 _ _ _ hb]; rfl
theorem St.below {w w' : World} {B wb : Nat} {t u : Tw} (h : St w B wb t u) (hb : Below w.heap.size w w') : St w' B wb t u := ⟨h.two.below hb, by rw [hb.block _ (block_lt h.blk)]; exact h.blk, h.low⟩
/-- The store of what stands there. -/
theorem St.reset {w : World} {B wb : Nat} {t u : Tw} (h : St w B wb t u) : St ((w.setCell ⟨wb, 1, none⟩ (.slice none 0 0)).setCell ⟨wb, 2, none⟩ (.slice none 0 0)) B wb t u := by
  have hM : Mut w ((w.setCell ⟨wb, 1, none⟩ (.slice none 0 0)).setCell ⟨wb, 2, none⟩ (.slice none 0 0)) wb none := ((Mut.refl w wb none).set 1 _).set 2 _
  have hK : ∀ T : List TypeId, 53 ∉ T → KeepT T w ((w.setCell ⟨wb, 1, none⟩ (.slice none 0 0)).setCell ⟨wb, 2, none⟩ (.slice none 0 0)) := fun T hT => KeepT.of_mut hM h.blk hT (fun k hk => by cases hk)
  have hok : ∀ t, TwOk w B t → TwOk ((w.setCell ⟨wb, 1, none⟩ (.slice none 0 0)).setCell ⟨wb, 2, none⟩ (.slice none 0 0)) B t := fun t ht => ⟨ht.g.keepT (hK _ (by simp)), ht.rg.keepT (hK _ (by simp)), ht.lb, ht.lr⟩
  refine ⟨⟨hok _ h.two.ok, hok _ h.two.ok', h.two.nb, h.two.nr, h.two.nv, h.two.nrv⟩, ?_, h.low⟩
  rw [heap_setCell_at (heap_setCell_at h.blk _) _]; rfl
theorem reset_below {w : World} {B wb : Nat} (h : B ≤ wb) : Below B w ((w.setCell ⟨wb, 1, none⟩ (.slice none 0 0)).setCell ⟨wb, 2, none⟩ (.slice none 0 0)) :=
  ((Below.refl _ _).setCell (p := ⟨wb, 1, none⟩) h _).setCell (p := ⟨wb, 2, none⟩) h _

/-- A step on the first pair, on the second. -/
theorem St.first {w w' : World} {B wb : Nat} {t u : Tw} {ms : List Mk} {cl : Bool} (h : St w B wb t u) (hp : PairPost w B t u ms cl w') : ∃ t' : Tw, t'.b = t.b ∧ t'.ms = ms ∧ t'.cl = cl ∧ St w' B wb t' u ∧ Below B w w' := by
  obtain ⟨t', h1, h2, h3, h4, h5, h6, h7⟩ := hp
  refine ⟨t', h1, h3, h4, ⟨h5, ?_, h.low⟩, h6⟩
  rw [h7 _ _ _ (by simp) h.blk, h1, h2]; exact h.blk
theorem St.second {w w' : World} {B wb : Nat} {t u : Tw} {ms : List Mk} {cl : Bool} (h : St w B wb t u) (hp : PairPost w B u t ms cl w') : ∃ u' : Tw, St w' B wb t u' ∧ Below B w w' := by
  obtain ⟨t', h1, h2, _, _, h5, h6, h7⟩ := hp
  refine ⟨t', ⟨h5.symm, ?_, h.low⟩, h6⟩
  rw [h7 _ _ _ (by simp) h.blk, h1, h2]; exact h.blk

/-- One step of a script, of the kinds up to closing. -/
theorem plain_some (w : World) (B wb : Nat) (t u : Tw) (h : St w B wb t u) (hB : B ≤ w.heap.size) (kind on op a b n p q : Int) (f1 f2 : Value) (hk : kind ≤ 5)
    (p1 : -9223372036854775808 ≤ p) (p2 : p ≤ 9223372036854775807) (q1 : -9223372036854775808 ≤ q) (q2 : q ≤ 9223372036854775807) :
    Calls Try.prog 17 #[.pointer (some ⟨wb, 0, none⟩), .agg #[.int .i64 kind, .int .i64 on, .int .i64 op, .int .i64 a, .int .i64 b, .int .i64 n, .int .i64 p, .int .i64 q, f1, f2]] w fun e w' => e = .returned (.bool true) ∧ ∃ t' u', St w' B wb t' u' ∧ Below B w w' := by
  obtain ⟨_, _, _, c3, c4, c5, c6, _, _, hwb⟩ := h.facts
  have one : ∀ {e : Ending} {w' : World} {ms : List Mk} {cl : Bool}, (e = .returned (.bool true) ∧ PairPost w B t u ms cl w') → e = .returned (.bool true) ∧ ∃ t' u', St w' B wb t' u' ∧ Below B w w' := fun ⟨he, hp⟩ => by
    obtain ⟨t', _, _, _, h1, h2⟩ := h.first hp; exact ⟨he, t', u, h1, h2⟩
  have two : ∀ {e : Ending} {w' : World} {ms : List Mk} {cl : Bool}, (e = .returned (.bool true) ∧ PairPost w B u t ms cl w') → e = .returned (.bool true) ∧ ∃ t' u', St w' B wb t' u' ∧ Below B w w' := fun ⟨he, hp⟩ => by
    obtain ⟨u', h1, h2⟩ := h.second hp; exact ⟨he, t, u', h1, h2⟩
  cases hon : (on.tmod 2 != 0) with
  | false =>
    by_cases k1 : kind = 1
    · subst k1; exact (plain_leaf0 w B wb t u h.two hB c3 c4 hwb on op a b n p q f1 f2 hon p1 p2 q1 q2).mono fun e w' hp => one hp
    by_cases k2 : kind = 2
    · subst k2; exact (plain_node0 w B wb t u h.two hB c3 c4 hwb on op a b n p q f1 f2 hon).mono fun e w' hp => one hp
    by_cases k3 : kind = 3
    · subst k3; exact (plain_scale0 w B wb t u h.two hB c3 c4 hwb on op a b n p q f1 f2 hon p1 p2 q1 q2).mono fun e w' hp => one hp
    by_cases k4 : kind = 4
    · subst k4; exact (plain_len0 w B wb t u h.two hB c3 c4 hwb on op a b n p q f1 f2 hon).mono fun e w' hp => one hp
    by_cases k5 : kind = 5
    · subst k5; exact (plain_close0 w B wb t u h.two hB c3 c4 hwb on op a b n p q f1 f2 hon).mono fun e w' hp => one hp
    exact (plain_other0 w B wb t u h.two hB c3 c4 hwb on op a b n p q f1 f2 hon kind (by simpa using k1) (by simpa using k2) (by simpa using k3) (by simpa using k4) (by simpa using k5) (by simp; omega) (by simp; omega)).mono fun e w' hp => one hp
  | true =>
    by_cases k1 : kind = 1
    · subst k1; exact (plain_leaf1 w B wb u t h.two.symm hB c5 c6 hwb on op a b n p q f1 f2 hon p1 p2 q1 q2).mono fun e w' hp => two hp
    by_cases k2 : kind = 2
    · subst k2; exact (plain_node1 w B wb u t h.two.symm hB c5 c6 hwb on op a b n p q f1 f2 hon).mono fun e w' hp => two hp
    by_cases k3 : kind = 3
    · subst k3; exact (plain_scale1 w B wb u t h.two.symm hB c5 c6 hwb on op a b n p q f1 f2 hon p1 p2 q1 q2).mono fun e w' hp => two hp
    by_cases k4 : kind = 4
    · subst k4; exact (plain_len1 w B wb u t h.two.symm hB c5 c6 hwb on op a b n p q f1 f2 hon).mono fun e w' hp => two hp
    by_cases k5 : kind = 5
    · subst k5; exact (plain_close1 w B wb u t h.two.symm hB c5 c6 hwb on op a b n p q f1 f2 hon).mono fun e w' hp => two hp
    exact (plain_other1 w B wb u t h.two.symm hB c5 c6 hwb on op a b n p q f1 f2 hon kind (by simpa using k1) (by simpa using k2) (by simpa using k3) (by simpa using k4) (by simpa using k5) (by simp; omega) (by simp; omega)).mono fun e w' hp => two hp

set_option maxHeartbeats 1000000 in
theorem looks_any (w : World) (B wb : Nat) (t u : Tw) (h : St w B wb t u) :
    Calls Try.prog 19 #[.pointer (some ⟨wb, 0, none⟩)] w fun e w' => e = .returned (.bool true) ∧ w = w' := by
  obtain ⟨c0, _⟩ := h.facts
  clear h
  go_enter Try.func19, Try.ntmps19
  go_wp2
  refine wp_loop_rounds 1 ?_
  rw [rounds_succ]
  go_wp2
  go_ret
  exact ⟨rfl, rfl⟩

set_option maxHeartbeats 1000000 in
theorem settle_any (w : World) (B wb : Nat) (t u : Tw) (h : St w B wb t u) :
    Calls Try.prog 18 #[.pointer (some ⟨wb, 0, none⟩)] w fun e w' => e = .returned (.bool true) ∧ St w' B wb t u ∧ Below B w w' := by
  obtain ⟨_, c1, c2, _, _, _, _, f1, f2, hwb⟩ := h.facts
  have HS := hide h
  clear h
  go_enter Try.func18, Try.ntmps18
  go_wp2
  refine wp_loop_rounds 1 ?_
  rw [rounds_succ]
  go_wp2
  refine wp_loop_rounds 1 ?_
  rw [rounds_succ]
  go_wp2
  go_ret
  exact ⟨rfl, HS.out.reset, reset_below HS.out.low⟩
end Go.Proofs.Ythacahellkmleaa
