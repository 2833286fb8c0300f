/- The contract of known, and of a whole script: Builds answers true. -/
import Derived.Test.YthacahellkmleaaLawG
namespace Go.Proofs.Ythacahellkmleaa
open Go.RowKit

theorem known_leaf : (leafR false [] 1 3).2.2 = [(1, 0, 0, 0, 1, 3)] := by kernel_rfl
theorem known_node : (nodeR false [(1, 0, 0, 0, 1, 3)] 2 1 0).2.2 = [(1, 0, 0, 0, 1, 3), (2, 1, 0, 0, 0, 0)] := by kernel_rfl
theorem known_again : (leafR false [(1, 0, 0, 0, 1, 3), (2, 1, 0, 0, 0, 0)] (-2) (-6)).2.2 = [(1, 0, 0, 0, 1, 3), (2, 1, 0, 0, 0, 0)] := by kernel_rfl

set_option maxRecDepth 100000 in
set_option maxHeartbeats 2000000 in
theorem known_any (w : World) (B wb : Nat) (t u : Tw) (h : St w B wb t u) (hB : B ≤ w.heap.size) (hms : t.ms = []) (hcl : t.cl = false) :
    Calls Try.prog 15 #[.pointer (some ⟨wb, 0, none⟩), .int .i64 5] w fun e w' => e = .returned (.bool true) ∧ ∃ t' u', St w' B wb t' u' ∧ Below B w w' := by
  have s1 : ∀ W : World, Below w.heap.size w W → Calls Try.prog 17 #[.pointer (some ⟨wb, 0, none⟩), .agg #[.int .i64 1, .int .i64 0, .int .i64 0, .int .i64 0, .int .i64 0, .int .i64 0, .int .i64 1, .int .i64 3, .slice none 0 0, .slice none 0 0]] W fun e w' => e = .returned (.bool true) ∧ ∃ t' : Tw, t'.b = t.b ∧ t'.ms = [(1, 0, 0, 0, 1, 3)] ∧ t'.cl = false ∧ St w' B wb t' u ∧ Below B W w' := fun W hW => by
    have hS := h.below hW
    obtain ⟨_, _, _, c3, c4, _, _, _, _, hwb⟩ := hS.facts
    refine (plain_leaf0 W B wb t u hS.two (Nat.le_trans hB hW.size) c3 c4 hwb 0 0 0 0 0 1 3 _ _ (by decide) (by decide) (by decide) (by decide) (by decide)).mono fun e w' ⟨he, hp⟩ => ⟨he, ?_⟩
    rw [hms, hcl, known_leaf] at hp
    exact hS.first hp
  have s2 : ∀ (W : World) (t' : Tw), St W B wb t' u → t'.ms = [(1, 0, 0, 0, 1, 3)] → t'.cl = false → B ≤ W.heap.size → Calls Try.prog 17 #[.pointer (some ⟨wb, 0, none⟩), .agg #[.int .i64 2, .int .i64 0, .int .i64 2, .int .i64 1, .int .i64 0, .int .i64 0, .int .i64 0, .int .i64 0, .slice none 0 0, .slice none 0 0]] W fun e w' => e = .returned (.bool true) ∧ ∃ t'' : Tw, t''.b = t'.b ∧ t''.ms = [(1, 0, 0, 0, 1, 3), (2, 1, 0, 0, 0, 0)] ∧ t''.cl = false ∧ St w' B wb t'' u ∧ Below B W w' := fun W t' hS e1 e2 hW => by
    obtain ⟨_, _, _, c3, c4, _, _, _, _, hwb⟩ := hS.facts
    refine (plain_node0 W B wb t' u hS.two hW c3 c4 hwb 0 2 1 0 0 0 0 _ _ (by decide)).mono fun e w' ⟨he, hp⟩ => ⟨he, ?_⟩
    rw [e1, e2, known_node] at hp
    exact hS.first hp
  have s3 : ∀ (W : World) (t' : Tw), St W B wb t' u → t'.ms = [(1, 0, 0, 0, 1, 3), (2, 1, 0, 0, 0, 0)] → t'.cl = false → B ≤ W.heap.size → Calls Try.prog 17 #[.pointer (some ⟨wb, 0, none⟩), .agg #[.int .i64 1, .int .i64 0, .int .i64 0, .int .i64 0, .int .i64 0, .int .i64 0, .int .i64 (-2), .int .i64 (-6), .slice none 0 0, .slice none 0 0]] W fun e w' => e = .returned (.bool true) ∧ ∃ t'' : Tw, t''.b = t'.b ∧ t''.ms = [(1, 0, 0, 0, 1, 3), (2, 1, 0, 0, 0, 0)] ∧ t''.cl = false ∧ St w' B wb t'' u ∧ Below B W w' := fun W t' hS e1 e2 hW => by
    obtain ⟨_, _, _, c3, c4, _, _, _, _, hwb⟩ := hS.facts
    refine (plain_leaf0 W B wb t' u hS.two hW c3 c4 hwb 0 0 0 0 0 (-2) (-6) _ _ (by decide) (by decide) (by decide) (by decide) (by decide)).mono fun e w' ⟨he, hp⟩ => ⟨he, ?_⟩
    rw [e1, e2, known_again] at hp
    exact hS.first hp
  obtain ⟨_, _, _, c3, _⟩ := h.facts
  have H1 := hide s1
  have H2 := hide s2
  have H3 := hide s3
  have HS := hide h
  clear s1 s2 s3 h hms hcl
  go_enter Try.func15, Try.ntmps15
  go_wp2_with fail
  refine (H1.out _ (Below.refl _ _)).mono ?_
  rintro e w1 ⟨rfl, t1, b1, m1, l1, st1, bl1⟩
  have HB1 := hide bl1
  have HS1 := hide st1
  have hz1 := Nat.le_trans hB bl1.size
  have hc2 := hide (H2.out w1 t1 st1 m1 l1 hz1)
  have E1 := hide b1
  clear st1 bl1 b1 m1 l1
  go_wp2_with fail
  refine hc2.out.mono ?_
  rintro e w2 ⟨rfl, t2, b2, m2, l2, st2, bl2⟩
  have HB2 := hide (HB1.out.trans bl2)
  have hz2 := Nat.le_trans hB HB2.out.size
  have hc3 := hide (H3.out w2 t2 st2 m2 l2 hz2)
  have E2 := hide (b2.trans E1.out)
  clear st2 bl2 b2 m2 l2 hc2 E1 HB1 HS1
  go_wp2_with fail
  refine hc3.out.mono ?_
  rintro e w3 ⟨rfl, t3, b3, m3, l3, st3, bl3⟩
  have HB3 := hide (HB2.out.trans bl3)
  have HS3 := hide st3
  have HL : Hid (Calls Try.prog 8 #[.pointer (some ⟨t.b, 0, none⟩)] w3 fun e w' => e = .returned (.int .i64 2) ∧ w3 = w') := by
    have hlen := len_any w3 B t3.b t3.v t3.ms t3.cl st3.two.ok.g
    rw [m3, b3.trans E2.out] at hlen
    exact hlen
  clear st3 bl3 b3 m3 l3 hc3 E2 HB2
  go_wp2_with (go_at_call 8; refine HL.out.mono ?_; rintro e w' ⟨rfl, rfl⟩)
  go_ret
  exact ⟨rfl, t3, u, HS3.out, HB3.out⟩
end Go.Proofs.Ythacahellkmleaa
