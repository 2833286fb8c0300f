/- The contract of played at the kinds up to closing, and of Builds: true, and nothing that was there has turned. -/
import Derived.Test.YthacahellkmleaaLawK
namespace Go.Proofs.Ythacahellkmleaa
open Go.RowKit

/-- A step of a script in memory. -/
def OpAt (w : World) (b o : Nat) : Prop :=
  ∃ (kind on op a c n p q : Int) (fa ga : Option Addr) (fn fc gn gc : Nat), w.cell? ⟨b, o, none⟩ = some (.int .i64 kind) ∧ w.cell? ⟨b, o + 1, none⟩ = some (.int .i64 on) ∧ w.cell? ⟨b, o + 2, none⟩ = some (.int .i64 op) ∧ w.cell? ⟨b, o + 3, none⟩ = some (.int .i64 a) ∧ w.cell? ⟨b, o + 4, none⟩ = some (.int .i64 c) ∧
    w.cell? ⟨b, o + 5, none⟩ = some (.int .i64 n) ∧ w.cell? ⟨b, o + 6, none⟩ = some (.int .i64 p) ∧ w.cell? ⟨b, o + 7, none⟩ = some (.int .i64 q) ∧ w.cell? ⟨b, o + 8, none⟩ = some (.slice fa fn fc) ∧ w.cell? ⟨b, o + 9, none⟩ = some (.slice ga gn gc) ∧
    -9223372036854775808 ≤ p ∧ p ≤ 9223372036854775807 ∧ -9223372036854775808 ≤ q ∧ q ≤ 9223372036854775807
theorem OpAt.below {w w' : World} {b o B : Nat} (h : OpAt w b o) (hb : Below B w w') (hl : b < B) : OpAt w' b o := by
  obtain ⟨kind, on, op, a, c, n, p, q, fa, ga, fn, fc, gn, gc, c0, c1, c2, c3, c4, c5, c6, c7, c8, c9, r⟩ := h
  have k : ∀ i, w'.cell? ⟨b, i, none⟩ = w.cell? ⟨b, i, none⟩ := fun i => hb.cell (p := ⟨b, i, none⟩) hl
  exact ⟨kind, on, op, a, c, n, p, q, fa, ga, fn, fc, gn, gc, by rw [k]; exact c0, by rw [k]; exact c1, by rw [k]; exact c2, by rw [k]; exact c3, by rw [k]; exact c4, by rw [k]; exact c5, by rw [k]; exact c6, by rw [k]; exact c7, by rw [k]; exact c8, by rw [k]; exact c9, r⟩

/-- Where a script stands: pairs in the new block. -/
def PlayRel (w wr : World) : Prop := ∃ t u, St wr w.heap.size w.heap.size t u ∧ Below w.heap.size w wr

set_option maxRecDepth 100000 in
set_option maxHeartbeats 4000000 in
theorem played_any (w : World) (sa : Option Addr) (len cap : Nat) (hlen : len ≤ maxLen) (hs : 0 < len → ∃ sb so, sa = some ⟨sb, so, none⟩ ∧ sb < w.heap.size ∧ ∀ k, k < len → OpAt w sb (so + k * 10)) :
    Calls Try.prog 5 #[.slice sa len cap, .int .i64 5] w fun e w' => e = .returned (.bool true) ∧ Below w.heap.size w w' := by
  unfold maxLen at hlen
  have HSS := hide hs
  clear hs
  go_enter Try.func5, Try.ntmps5
  go_wp2_with fail
  refine (begun_any _ w.heap.size w.heap.size (Nat.le_refl _) (heap_alloc_new w _)).mono ?_
  rintro e w1 ⟨rfl, bl1, t1, u1, st1, m1, l1⟩
  have B1 := (Below.refl w.heap.size w).alloc (Nat.le_refl _) (.cells #[.slice none 0 0, .slice none 0 0, .slice none 0 0, .pointer none, .pointer none, .pointer none, .pointer none] 53)
  have HB1 := hide (B1.trans bl1)
  have HK := hide (known_any w1 w.heap.size w.heap.size t1 u1 st1 HB1.out.size m1 l1)
  clear B1 bl1 st1 m1 l1
  go_wp2_with fail
  refine HK.out.mono ?_
  rintro e w2 ⟨rfl, t2, u2, st2, bl2⟩
  have HR2 : Hid (PlayRel w w2) := ⟨t2, u2, st2, HB1.out.trans bl2⟩
  clear HK st2 bl2 HB1
  go_wp2
  go_loopw [6, 7] (fun ok i wr => ok = .bool true ∧ ∃ k : Nat, k ≤ len ∧ i = .int .i64 k ∧ Hid (PlayRel w wr)) (fun _ i _ => len - (intOf i).toNat)
  case atStart => exact ⟨rfl, 0, Nat.zero_le _, rfl, HR2.out⟩
  case round =>
    obtain ⟨rfl, k, hk, rfl, HR⟩ := hrel
    clear HR2
    obtain ⟨t, u, hst, hbl⟩ := HR.out
    have hBz := hbl.size
    by_cases hlt : k < len
    · obtain ⟨sb, so, rfl, hsb, hops⟩ := HSS.out (by omega)
      obtain ⟨kind, on, op, a, c, n, p, q, fa, ga, fn, fc, gn, gc, c0, c1, c2, c3, c4, c5, c6, c7, c8, c9, p1, p2, q1, q2⟩ := (hops k hlt).below hbl hsb
      have HST := hide hst
      have HBL := hide hbl
      clear hst hbl hops
      by_cases hkd : kind ≤ 5
      · have hk8 : (kind == 8) = false := by simp; omega
        go_wp2_with fail
        refine (plain_some _ w.heap.size w.heap.size t u (HST.out.below ((Below.refl _ _).alloc (Nat.le_refl _) _)) (by simp; omega) kind on op a c n p q (.slice fa fn fc) (.slice ga gn gc) hkd p1 p2 q1 q2).mono ?_
        rintro e w3 ⟨rfl, t3, u3, st3, bl3⟩
        have HB3 := hide ((HBL.out.alloc hBz _).trans bl3)
        have HS3 := hide st3
        clear c0 c1 c2 c3 c4 c5 c6 c7 c8 c9 st3 bl3
        by_cases h3 : (k : Int) % 3 = 2
        · have h3' : ((k : Int) % 3 == 2) = true := by simpa using h3
          go_wp2_with fail
          refine (settle_any _ w.heap.size w.heap.size t3 u3 HS3.out).mono ?_
          rintro e w4 ⟨rfl, st4, bl4⟩
          have HB4 := hide (HB3.out.trans bl4)
          have HS4 := hide st4
          clear st4 bl4
          go_wp2_with (go_at_call 19; refine (looks_any _ w.heap.size w.heap.size t3 u3 HS4.out).mono ?_; rintro e w' ⟨rfl, rfl⟩)
          go_roundw
          case rel => exact ⟨rfl, k + 1, by omega, by go_num, t3, u3, HS4.out, HB4.out⟩
          case measure => simp [intOf]; omega
        · have h3' : ((k : Int) % 3 == 2) = false := by simpa using h3
          go_wp2_with (go_at_call 19; refine (looks_any _ w.heap.size w.heap.size t3 u3 HS3.out).mono ?_; rintro e w' ⟨rfl, rfl⟩)
          go_roundw
          case rel => exact ⟨rfl, k + 1, by omega, by go_num, t3, u3, HS3.out, HB3.out⟩
          case measure => simp [intOf]; omega
      · go_wp2
        go_roundw
        case rel => exact ⟨rfl, k + 1, by omega, by go_num, t, u, HST.out.below ((Below.refl _ _).alloc (Nat.le_refl _) _), HBL.out.alloc hBz _⟩
        case measure => simp [intOf]; omega
    · have HST := hide hst
      have HBL := hide hbl
      clear hst hbl HSS
      go_wp2_with fail
      refine (settle_any _ w.heap.size w.heap.size t u HST.out).mono ?_
      rintro e w4 ⟨rfl, st4, bl4⟩
      have HB4 := hide (HBL.out.trans bl4)
      have HS4 := hide st4
      clear st4 bl4 HST HBL HR
      go_wp2_with (go_at_call 19; refine (looks_any _ w.heap.size w.heap.size t u HS4.out).mono ?_; rintro e w' ⟨rfl, rfl⟩)
      obtain ⟨_, _, _, c3, c4, c5, c6, _, _, hwb⟩ := HS4.out.facts
      have HL0 := hide (fun m => len_any (w4.drewN m) _ _ _ _ _ (HS4.out.below (below_draws w4 m)).two.ok.g)
      have HL1 := hide (fun m => len_any (w4.drewN m) _ _ _ _ _ (HS4.out.below (below_draws w4 m)).two.ok'.g)
      have HQ0 := hide (fun m => rlen_any (w4.drewN m) _ _ _ _ _ (HS4.out.below (below_draws w4 m)).two.ok.rg)
      have HQ1 := hide (fun m => rlen_any (w4.drewN m) _ _ _ _ _ (HS4.out.below (below_draws w4 m)).two.ok'.rg)
      have few0 := HS4.out.two.ok.g.few
      have few1 := HS4.out.two.ok'.g.few
      have HFIN : Hid (∀ m, Below w.heap.size w (w4.drewN m)) := fun m => below_drewN HB4.out m
      clear HS4 HB4
      go_loopw [6, 13] (fun ok i wr => ok = .bool true ∧ ∃ k : Nat, k ≤ 2 ∧ i = .int .i64 k ∧ ∃ m, wr = w4.drewN m) (fun _ i _ => 2 - (intOf i).toNat)
      case atStart => exact ⟨rfl, 0, by decide, rfl, 0, rfl⟩
      case round =>
        obtain ⟨rfl, k2, hk2, rfl, m, rfl⟩ := hrel
        have hk3 : k2 = 0 ∨ k2 = 1 ∨ k2 = 2 := by omega
        rcases hk3 with rfl | rfl | rfl
        · have hc := fun m => HL0.out m
          have hr := fun m => HQ0.out m
          have HLL := hide hc
          have HQQ := hide hr
          clear hc hr
          go_wp2_with fail
          go_region_held3 (fun w' => w'.cell? ⟨w.heap.size, 3, none⟩ = some (.pointer (some ⟨t.b, 0, none⟩)) ∧ w'.cell? ⟨w.heap.size, 4, none⟩ = some (.pointer (some ⟨t.r, 0, none⟩)))
            (go_keep)
            (first | (go_at_call 8; refine (HLL.out _).mono ?_; rintro e w' ⟨rfl, rfl⟩) | (go_at_call 20; refine (HQQ.out _).mono ?_; rintro e w' ⟨rfl, rfl⟩))
          all_goals
            by_cases hm : (1 : Int) ≤ (t.ms.length : Int)
            · go_wp2
              refine wp_loop_rounds 1 ?_
              rw [rounds_succ]
              go_wp2_with (go_at_call 20; refine (HQQ.out _).mono ?_; rintro e w' ⟨rfl, rfl⟩)
              go_roundw
              case rel => exact ⟨rfl, 1, by decide, by go_num, _, rfl⟩
              case measure => simp [intOf]
            · go_wp2
              refine wp_loop_rounds 1 ?_
              rw [rounds_succ]
              go_wp2_with (go_at_call 20; refine (HQQ.out _).mono ?_; rintro e w' ⟨rfl, rfl⟩)
              go_roundw
              case rel => exact ⟨rfl, 1, by decide, by go_num, _, rfl⟩
              case measure => simp [intOf]
        · have hc := fun m => HL1.out m
          have hr := fun m => HQ1.out m
          have HLL := hide hc
          have HQQ := hide hr
          clear hc hr
          go_wp2_with fail
          go_region_held3 (fun w' => w'.cell? ⟨w.heap.size, 5, none⟩ = some (.pointer (some ⟨u.b, 0, none⟩)) ∧ w'.cell? ⟨w.heap.size, 6, none⟩ = some (.pointer (some ⟨u.r, 0, none⟩)))
            (go_keep)
            (first | (go_at_call 8; refine (HLL.out _).mono ?_; rintro e w' ⟨rfl, rfl⟩) | (go_at_call 20; refine (HQQ.out _).mono ?_; rintro e w' ⟨rfl, rfl⟩))
          all_goals
            by_cases hm : (1 : Int) ≤ (u.ms.length : Int)
            · go_wp2
              refine wp_loop_rounds 1 ?_
              rw [rounds_succ]
              go_wp2_with (go_at_call 20; refine (HQQ.out _).mono ?_; rintro e w' ⟨rfl, rfl⟩)
              go_roundw
              case rel => exact ⟨rfl, 2, by decide, by go_num, _, rfl⟩
              case measure => simp [intOf]
            · go_wp2
              refine wp_loop_rounds 1 ?_
              rw [rounds_succ]
              go_wp2_with (go_at_call 20; refine (HQQ.out _).mono ?_; rintro e w' ⟨rfl, rfl⟩)
              go_roundw
              case rel => exact ⟨rfl, 2, by decide, by go_num, _, rfl⟩
              case measure => simp [intOf]
        · go_wp2
          go_ret
          exact ⟨rfl, HFIN.out _⟩
end Go.Proofs.Ythacahellkmleaa
