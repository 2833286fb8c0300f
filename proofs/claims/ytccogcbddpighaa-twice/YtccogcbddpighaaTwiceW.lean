/- The contract of Twice: it answers true, and nothing that was there has turned. -/
import Derived.Test.YtccogcbddpighaaBuiltW
import Derived.Test.YtccogcbddpighaaTwiceM
namespace Go.Proofs.Ytccogcbddpighaa
open Go.RowKit

theorem leaf_third : leafR false [] 1 3 = (1, 0, [(1, 0, 0, 0, 1, 3)]) := by kernel_rfl
theorem leaf_again : leafR false [(1, 0, 0, 0, 1, 3)] (-2) (-6) = (1, 0, [(1, 0, 0, 0, 1, 3)]) := by kernel_rfl

theorem plan_few (zs : List Int) : (Bk.plan zs).length ≤ 11 := by rw [Bk.plan, Bk.planTo_length]; omega

set_option maxRecDepth 100000 in
set_option maxHeartbeats 4000000 in
theorem twice_core (w : World) (rawv : Value) (zs : List Int) (hplan : ∀ W, Below w.heap.size w W → Calls Try.prog 7 #[rawv] W (PlanPost W zs))
    (factor : Int) (f1 : -9223372036854775808 ≤ factor) (f2 : factor ≤ 9223372036854775807) :
    Calls Try.prog 3 #[rawv, .int .i64 factor] w fun e w' => e = .returned (.bool true) ∧ Below w.heap.size w w' := by
  have HPL := hide hplan
  have pk := Bk.pick_bd factor 1000 (by decide)
  clear hplan
  go_enter Try.func3, Try.ntmps3
  go_wp2_with fail
  refine (new_any _).mono ?_
  rintro e w0 ⟨rfl, rfl⟩
  have G0 : Gr (w.alloc (.cells #[.slice none 0 0, .bool false] 43)) w.heap.size w.heap.size (.slice none 0 0) [] false := Gr.nil _ _ _ (heap_alloc_new w _)
  have B0 : Below w.heap.size w (w.alloc (.cells #[.slice none 0 0, .bool false] 43)) := (Below.refl _ _).alloc (Nat.le_refl _) _
  have L1 : Calls Try.prog 5 #[.pointer (some ⟨w.heap.size, 0, none⟩), .int .i64 1, .int .i64 3] (w.alloc (.cells #[.slice none 0 0, .bool false] 43)) (GPost (w.alloc (.cells #[.slice none 0 0, .bool false] 43)) w.heap.size w.heap.size (.slice none 0 0) false (1, 0, [(1, 0, 0, 0, 1, 3)])) := by
    rw [← leaf_third]; exact leaf_any _ _ _ _ _ _ G0 B0.size 1 3 (by decide) (by decide) (by decide) (by decide)
  have HL1 := hide L1
  clear L1
  go_wp2_with fail
  refine HL1.out.mono ?_
  rintro e w1 ⟨rfl, v1, G1, M1, _⟩
  have B1 := B0.trans (M1.below G0 (Nat.le_refl _) B0.size)
  have L2 : Calls Try.prog 5 #[.pointer (some ⟨w.heap.size, 0, none⟩), .int .i64 (-2), .int .i64 (-6)] w1 (GPost w1 w.heap.size w.heap.size v1 false (1, 0, [(1, 0, 0, 0, 1, 3)])) := by
    rw [← leaf_again]; exact leaf_any _ _ _ _ _ _ G1 B1.size (-2) (-6) (by decide) (by decide) (by decide) (by decide)
  have HL2 := hide L2
  have HG1 := hide G1
  have HB1 := hide B1
  clear L2 G0 B0 M1 HL1 G1 B1
  go_wp2_with fail
  refine HL2.out.mono ?_
  rintro e w2 ⟨rfl, v2, G2, M2, _⟩
  have HB2 := hide (HB1.out.trans (M2.below HG1.out (Nat.le_refl _) HB1.out.size))
  have HG2 := hide G2
  clear G2 M2 HG1 HB1 HL2
  go_wp2_with (go_at_call 6; refine (len_any _ _ _ _ _ _ HG2.out).mono ?_; rintro e w' ⟨rfl, rfl⟩)
  refine (HPL.out _ HB2.out).mono ?_
  rintro e w3 ⟨lv, rfl, ho3, hb3⟩
  have hlv : ∃ a c, lv = .slice a (Bk.plan zs).length c := by
    rcases ho3.2 with ⟨hn, h0⟩ | ⟨g, cap, cur, hv, _⟩
    · exact ⟨none, 0, by rw [hn, h0]⟩
    · exact ⟨_, _, hv⟩
  obtain ⟨la, lc, rfl⟩ := hlv
  have HO3 := hide ho3
  have HB3 := hide (HB2.out.trans (hb3.mono HB2.out.size))
  have hl := Bk.planTo_ok zs (min zs.length 11)
  have h11 := plan_few zs
  rw [show Bk.planTo zs (min zs.length 11) = Bk.plan zs from rfl] at hl
  have HL := hide hl
  clear ho3 hb3 HB2 HG2 hl HPL
  generalize Bk.plan zs = l at *
  go_wp2_with fail
  refine (built_any _ _ _ l HO3.out HL.out h11).mono ?_
  rintro e w4 ⟨v4, hv, rfl, hP4, hb4⟩
  have hhv : ∃ a c, hv = .slice a l.length c := by
    rcases hP4.own.2 with ⟨hn, h0⟩ | ⟨g, cap, cur, hv, _⟩
    · exact ⟨none, 0, by rw [hn, h0]⟩
    · exact ⟨_, _, hv⟩
  obtain ⟨ha, hc, rfl⟩ := hhv
  have HP4 := hide hP4
  have HB4 := hide hb4
  clear hP4 hb4
  go_wp2_with (first | (go_at_call 6; refine (len_any _ _ _ _ _ _ HP4.out.gr).mono ?_; rintro e w' ⟨rfl, rfl⟩) | (go_at_call 9; refine (pick_any _ _ _ (by omega) (by omega) (by omega) (by omega)).mono ?_; rintro e w' ⟨rfl, rfl⟩))
  have hfew := HP4.out.gr.few
  go_loopw [16] (fun i wr => ∃ k : Nat, k ≤ l.length ∧ i = .int .i64 k ∧ ∃ v, Pair wr w3.heap.size w3.heap.size v (Bk.bld l l.length).1 (.slice ha l.length hc) l.length (Bk.bld l l.length).2 ∧ Below w3.heap.size w3 wr) (fun i _ => l.length - (intOf i).toNat)
  case atStart => exact ⟨0, Nat.zero_le _, rfl, v4, HP4.out, HB4.out⟩
  case round =>
    obtain ⟨k, hk, rfl, v, hP, hbw⟩ := hrel
    have hBw := hbw.size
    by_cases hlt : k < l.length
    · have hr : l[k]? = some l[k] := List.getElem?_eq_getElem hlt
      generalize l[k] = r at hr
      obtain ⟨gl, cl, hlv, _, hgl⟩ := HO3.out.form (by omega)
      simp only [Value.slice.injEq, true_and] at hlv
      obtain ⟨rfl, rfl⟩ := hlv
      obtain ⟨gh, ch, hhv, _, hghl⟩ := hP.own.form (by omega)
      simp only [Value.slice.injEq, true_and] at hhv
      obtain ⟨rfl, rfl⟩ := hhv
      have hcl : ∀ j u, (prow r)[j]? = some u → wr.cell? ⟨gl, k * 7 + j, none⟩ = some u := fun j u hu => by
        have hj : j < 7 := by have := (List.getElem?_eq_some_iff.1 hu).1; simpa [prow] using this
        rw [hbw.cell (p := ⟨gl, k * 7 + j, none⟩) hgl]
        exact owns_at HO3.out rfl _ _ ((prows_at l k j r hr hj).trans hu)
      have q0 := hcl 0 _ rfl
      have q1 := hcl 1 _ rfl
      have q2 := hcl 2 _ rfl
      have q3 := hcl 3 _ rfl
      have q4 := hcl 4 _ rfl
      simp only [Nat.add_zero] at q0
      have ok := HL.out k r hr
      obtain ⟨hh, hhk, hst⟩ := Bk.again_same l HL.out (by omega) k r hr (1 + Bk.pick factor 1000) (by omega)
      have chk : wr.cell? ⟨gh, k, none⟩ = some (.int .i64 hh) := owns_at hP.own rfl _ _ (by rw [ints, List.getElem?_map, hhk]; rfl)
      have hbok := Bk.bld_ok l HL.out l.length (Nat.le_refl _) (by omega)
      obtain ⟨op, a, b, p, q, is⟩ := r
      obtain ⟨okleaf, okop, ok1, ok2, ok3, ok4, _⟩ := ok
      simp only at q0 q1 q2 q3 q4 ok1 ok2 ok3 ok4
      have k0 : (0 : Int) ≤ (k : Int) := Int.natCast_nonneg _
      have k1 : (k : Int) < (l.length : Int) := by omega
      have bp := Bk.mul_bd p (1 + Bk.pick factor 1000) 7 1000 (by omega) (by omega) (by omega) (by omega) (by omega) (by omega)
      have bq := Bk.mul_bd q (1 + Bk.pick factor 1000) 7 1000 (by omega) (by omega) (by omega) (by omega) (by omega) (by omega)
      have bpn := Bk.mul_bd p (-(1 + Bk.pick factor 1000)) 7 1000 (by omega) (by omega) (by omega) (by omega) (by omega) (by omega)
      have bqn := Bk.mul_bd q (-(1 + Bk.pick factor 1000)) 7 1000 (by omega) (by omega) (by omega) (by omega) (by omega) (by omega)
      generalize Bk.pick factor 1000 = fk at *
      clear hcl hr hhk
      by_cases h1 : op = 1
      · subst h1
        have HC : ∀ W, Gr W w3.heap.size w3.heap.size v (Bk.bld l l.length).1 false → w3.heap.size ≤ W.heap.size → Calls Try.prog 5 #[.pointer (some ⟨w3.heap.size, 0, none⟩), .int .i64 (p * -(1 + fk)), .int .i64 (q * -(1 + fk))] W (GPost W w3.heap.size w3.heap.size v false (hh, 0, (Bk.bld l l.length).1)) := fun W hG hB => by
          rw [← hst]; simp only [Bk.again, if_pos]; exact leaf_any W _ _ v _ false hG hB _ _ (by omega) (by omega) (by omega) (by omega)
        have HCC := hide HC
        have wk : IntKind.i64.wrap (-(1 + fk)) = -(1 + fk) := IntWalk.i64_in _ (by omega)
        have wp : IntKind.i64.wrap (p * -(1 + fk)) = p * -(1 + fk) := IntWalk.i64_in _ (by omega)
        have wq : IntKind.i64.wrap (q * -(1 + fk)) = q * -(1 + fk) := IntWalk.i64_in _ (by omega)
        clear HC hst okop okleaf hbok q1 q2 bp bq
        go_wp2_with fail
        go_region_held3 (fun w' => w'.cell? ⟨gl, k * 7 + 3, none⟩ = some (.int .i64 p) ∧ w'.cell? ⟨gl, k * 7 + 4, none⟩ = some (.int .i64 q))
          (go_keep)
          ((go_at_call 5; refine (HCC.out _ hP.gr.drew hBw).mono ?_; rintro e w2 ⟨rfl, v', hG, hM0, hO0⟩; have hM := hM0.of_drew; have hQ := hP.call hG hM hO0; have eg : ∀ j, w2.cell? ⟨gl, j, none⟩ = wr.cell? ⟨gl, j, none⟩ := (fun j => ((hM.below hP.gr hP.low hBw).cell (p := ⟨gl, j, none⟩) hgl)); have eh : ∀ j, w2.cell? ⟨gh, j, none⟩ = wr.cell? ⟨gh, j, none⟩ := (fun j => World.cell?_of_block (w := wr) (hM.block gh hghl (fun e => hP.ne (by rw [← e]; rfl)) (fun e => hP.sep gh rfl e.symm)))))
        have HBW := hide (hbw.trans (hM.below hP.gr hP.low hBw))
        have HQ := hide hQ
        have ch2 := (eh k).trans chk
        clear hQ hG hM hM0 hO0 eg eh hP hbw chk
        go_wp2
        go_roundw
        case rel => exact ⟨k + 1, by omega, by go_num, v', HQ.out, HBW.out⟩
        case measure => simp [intOf]; omega

      · have hk3 : 3 ≤ k := by
          rcases Nat.lt_or_ge k 3 with h | h
          · exact absurd (okleaf h) h1
          · exact h
        obtain ⟨o2, o8, oa1, oa2, ob1, ob2⟩ := okop hk3
        simp only at o2 o8 oa1 oa2 ob1 ob2
        have ga := Bk.hAt_good hbok.good a oa1 (by rw [hbok.len]; omega)
        have gb := Bk.hAt_good hbok.good b ob1 (by rw [hbok.len]; omega)
        have ca : wr.cell? ⟨gh, (a - 1).toNat, none⟩ = some (.int .i64 (Bk.hAt (Bk.bld l l.length).2 a)) := owns_at hP.own rfl _ _ (by rw [ints, List.getElem?_map, ga.1]; rfl)
        have cb : wr.cell? ⟨gh, (b - 1).toNat, none⟩ = some (.int .i64 (Bk.hAt (Bk.bld l l.length).2 b)) := owns_at hP.own rfl _ _ (by rw [ints, List.getElem?_map, gb.1]; rfl)
        obtain ⟨ia, rfl⟩ : ∃ ia : Nat, a = (ia : Int) + 1 := ⟨(a - 1).toNat, by omega⟩
        obtain ⟨ib, rfl⟩ : ∃ ib : Nat, b = (ib : Int) + 1 := ⟨(b - 1).toNat, by omega⟩
        rw [show ((ia : Int) + 1 - 1).toNat = ia by omega] at ca
        rw [show ((ib : Int) + 1 - 1).toNat = ib by omega] at cb
        have wa : IntKind.i64.wrap (ia : Int) = (ia : Int) := IntWalk.i64_in _ (by omega)
        have wb : IntKind.i64.wrap (ib : Int) = (ib : Int) := IntWalk.i64_in _ (by omega)
        have ja0 : (0 : Int) ≤ (ia : Int) := Int.natCast_nonneg _
        have ja1 : (ia : Int) < (l.length : Int) := by omega
        have jb0 : (0 : Int) ≤ (ib : Int) := Int.natCast_nonneg _
        have jb1 : (ib : Int) < (l.length : Int) := by omega
        have hop1 : (op == 1) = false := by simp; omega
        clear ga gb hbok okop okleaf oa1 oa2 ob1 ob2 bpn bqn
        by_cases h5 : op = 5
        · subst h5
          have HC : ∀ W, Gr W w3.heap.size w3.heap.size v (Bk.bld l l.length).1 false → w3.heap.size ≤ W.heap.size → Calls Try.prog 10 #[.pointer (some ⟨w3.heap.size, 0, none⟩), .int .i64 (Bk.hAt (Bk.bld l l.length).2 (ia + 1)), .int .i64 (p * (1 + fk)), .int .i64 (q * (1 + fk))] W (GPost W w3.heap.size w3.heap.size v false (hh, 0, (Bk.bld l l.length).1)) := fun W hG hB => by
            rw [← hst]; simp only [Bk.again, if_neg h1, if_pos]; exact scale_any W _ _ v _ false hG hB _ _ _ (by omega) (by omega) (by omega) (by omega)
          have HCC := hide HC
          have wp : IntKind.i64.wrap (p * (1 + fk)) = p * (1 + fk) := IntWalk.i64_in _ (by omega)
          have wq : IntKind.i64.wrap (q * (1 + fk)) = q * (1 + fk) := IntWalk.i64_in _ (by omega)
          generalize Bk.hAt (Bk.bld l l.length).2 (ia + 1) = ga at *
          clear HC hst q2 cb wb
          go_wp2_with fail
          go_region_held3 (fun w' => w'.cell? ⟨gl, k * 7 + 1, none⟩ = some (.int .i64 (ia + 1)) ∧ w'.cell? ⟨gl, k * 7 + 3, none⟩ = some (.int .i64 p) ∧ w'.cell? ⟨gl, k * 7 + 4, none⟩ = some (.int .i64 q) ∧ w'.cell? ⟨gh, ia, none⟩ = some (.int .i64 ga))
            (go_keep)
            ((go_at_call 10; refine (HCC.out _ hP.gr.drew hBw).mono ?_; rintro e w2 ⟨rfl, v', hG, hM0, hO0⟩; have hM := hM0.of_drew; have hQ := hP.call hG hM hO0; have eg : ∀ j, w2.cell? ⟨gl, j, none⟩ = wr.cell? ⟨gl, j, none⟩ := (fun j => ((hM.below hP.gr hP.low hBw).cell (p := ⟨gl, j, none⟩) hgl)); have eh : ∀ j, w2.cell? ⟨gh, j, none⟩ = wr.cell? ⟨gh, j, none⟩ := (fun j => World.cell?_of_block (w := wr) (hM.block gh hghl (fun e => hP.ne (by rw [← e]; rfl)) (fun e => hP.sep gh rfl e.symm)))))
          have HBW := hide (hbw.trans (hM.below hP.gr hP.low hBw))
          have HQ := hide hQ
          have ch2 := (eh k).trans chk
          clear hQ hG hM hM0 hO0 eg eh hP hbw chk
          go_wp2
          go_roundw
          case rel => exact ⟨k + 1, by omega, by go_num, v', HQ.out, HBW.out⟩
          case measure => simp [intOf]; omega

        · have hop5 : (op == 5) = false := by simp; omega
          have HC : ∀ W, Gr W w3.heap.size w3.heap.size v (Bk.bld l l.length).1 false → w3.heap.size ≤ W.heap.size → Calls Try.prog 11 #[.pointer (some ⟨w3.heap.size, 0, none⟩), .int .i64 op, .int .i64 (Bk.hAt (Bk.bld l l.length).2 (ia + 1)), .int .i64 (Bk.hAt (Bk.bld l l.length).2 (ib + 1))] W (GPost W w3.heap.size w3.heap.size v false (hh, 0, (Bk.bld l l.length).1)) := fun W hG hB => by
            rw [← hst]; simp only [Bk.again, if_neg h1, if_neg h5]; exact node_any W _ _ v _ false hG hB _ _ _
          have HCC := hide HC
          generalize Bk.hAt (Bk.bld l l.length).2 (ia + 1) = ga at *
          generalize Bk.hAt (Bk.bld l l.length).2 (ib + 1) = gb at *
          clear HC hst q3 q4 bp bq
          go_wp2_with fail
          go_region_held3 (fun w' => w'.cell? ⟨gl, k * 7, none⟩ = some (.int .i64 op) ∧ w'.cell? ⟨gl, k * 7 + 1, none⟩ = some (.int .i64 (ia + 1)) ∧ w'.cell? ⟨gl, k * 7 + 2, none⟩ = some (.int .i64 (ib + 1)) ∧ w'.cell? ⟨gh, ia, none⟩ = some (.int .i64 ga) ∧ w'.cell? ⟨gh, ib, none⟩ = some (.int .i64 gb))
            (go_keep)
            ((go_at_call 11; refine (HCC.out _ hP.gr.drew hBw).mono ?_; rintro e w2 ⟨rfl, v', hG, hM0, hO0⟩; have hM := hM0.of_drew; have hQ := hP.call hG hM hO0; have eg : ∀ j, w2.cell? ⟨gl, j, none⟩ = wr.cell? ⟨gl, j, none⟩ := (fun j => ((hM.below hP.gr hP.low hBw).cell (p := ⟨gl, j, none⟩) hgl)); have eh : ∀ j, w2.cell? ⟨gh, j, none⟩ = wr.cell? ⟨gh, j, none⟩ := (fun j => World.cell?_of_block (w := wr) (hM.block gh hghl (fun e => hP.ne (by rw [← e]; rfl)) (fun e => hP.sep gh rfl e.symm)))))
          have HBW := hide (hbw.trans (hM.below hP.gr hP.low hBw))
          have HQ := hide hQ
          have ch2 := (eh k).trans chk
          clear hQ hG hM hM0 hO0 eg eh hP hbw chk
          go_wp2
          go_roundw
          case rel => exact ⟨k + 1, by omega, by go_num, v', HQ.out, HBW.out⟩
          case measure => simp [intOf]; omega

    · obtain rfl : k = l.length := by omega
      have HPP := hide hP
      have HE : Hid (Below w.heap.size w wr) := HB3.out.trans (hbw.mono HB3.out.size)
      clear hP hbw
      go_wp2_with (go_at_call 6; refine (len_any _ _ _ _ _ _ HPP.out.gr).mono ?_; rintro e w' ⟨rfl, rfl⟩)
      go_ret
      exact ⟨ret_bool (by simp), HE.out⟩
end Go.Proofs.Ytccogcbddpighaa
