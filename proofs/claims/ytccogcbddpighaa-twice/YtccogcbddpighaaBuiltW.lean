/- The contract of built: of the rows of a plan a graph, and the handles of its rows, both in new memory. -/
import Derived.Test.YtccogcbddpighaaBuiltM
import Derived.Test.YtccogcbddpighaaPlanW
namespace Go.Proofs.Ytccogcbddpighaa
open Go.RowKit

theorem Try.infoInt : (Try.prog.info? 3).map (fun i => (i.zero, i.size, i.bytes)) = some (some (.int .i64 0), 1, 8) := by kernel_rfl

def ints (l : List Int) : List Value := l.map (.int .i64 ·)

/-- A graph and a list of numbers beside it, each in memory of its own, from B on. -/
structure Pair (w : World) (B b : Nat) (v : Value) (ms : List Mk) (hv : Value) (n : Nat) (hs : List Int) : Prop where
  gr : Gr w B b v ms false
  own : w.ownsRow B 3 1 hv n (ints hs)
  ne : hv.ownBlock ≠ some b
  sep : ∀ x, hv.ownBlock = some x → v.ownBlock ≠ some x
  low : B ≤ b

/-- What the call leaves. -/
def BuiltPost (w : World) (l : List Bk.Row) (e : Ending) (w' : World) : Prop :=
  ∃ v hv, e = .returned (.tuple #[.pointer (some ⟨w.heap.size, 0, none⟩), hv]) ∧ Pair w' w.heap.size w.heap.size v (Bk.bld l l.length).1 hv l.length (Bk.bld l l.length).2 ∧ Below w.heap.size w w'

def bltRel (w : World) (l : List Bk.Row) (k : Nat) (hv : Value) (wr : World) : Prop :=
  ∃ v, Pair wr w.heap.size w.heap.size v (Bk.bld l k).1 hv k (Bk.bld l k).2 ∧ Below w.heap.size w wr

/-- A call on the graph leaves the list beside it as it was. -/
theorem Pair.call {w w2 : World} {B b : Nat} {v v' : Value} {ms ms' : List Mk} {hv : Value} {n : Nat} {hs : List Int} (h : Pair w B b v ms hv n hs) (hG : Gr w2 B b v' ms' false) (hM : Mut w w2 b v.ownBlock)
    (hO : v'.ownBlock = v.ownBlock ∨ ∃ k, v'.ownBlock = some k ∧ w.heap.size ≤ k) : Pair w2 B b v' ms' hv n hs := by
  refine ⟨hG, ?_, h.ne, ?_, h.low⟩
  · refine ownsRow_block h.own fun k hk => hM.block k (h.own.lt k hk).2 (fun e => h.ne (by rw [hk, e])) (fun e => h.sep k hk e.symm)
  · intro x hx
    rcases hO with e | ⟨k, hk, hle⟩
    · rw [e]; exact h.sep x hx
    · rw [hk]; have := (h.own.lt x hx).2; simp; omega

theorem Mut.below {w w2 : World} {B b : Nat} {v : Value} {ms : List Mk} {cl : Bool} (hM : Mut w w2 b v.ownBlock) (hG : Gr w B b v ms cl) (hb : B ≤ b) (hB : B ≤ w.heap.size) : Below B w w2 :=
  ⟨hM.os, hM.tape, hM.output, hM.size, fun k hk => hM.block k (by omega) (by omega) (fun e => by have := (hG.lt k e.symm).1; omega)⟩

/-- A number behind the list. -/
theorem Pair.push {w w1 : World} {B b g cap : Nat} {v : Value} {ms : List Mk} {hv : Value} {n : Nat} {hs : List Int} {o : Obj} (h : Pair w B b v ms hv n hs) (x : Int)
    (hown : w1.ownsRow B 3 1 (.slice (some ⟨g, 0, none⟩) (n + 1) cap) (n + 1) (ints hs ++ [.int .i64 x])) (hgrow : (w.alloc o).grownBy w1 hv.ownBlock) (hat : hv.ownBlock = some g ∨ g = w.heap.size + 1) :
    Pair w1 B b v ms (.slice (some ⟨g, 0, none⟩) (n + 1) cap) (n + 1) (hs ++ [x]) := by
  have hbl := block_lt h.gr.cells
  refine ⟨?_, ?_, ?_, ?_, h.low⟩
  · refine h.gr.keep ?_ (fun k hk => ?_) (fun p cs hp => ?_)
    · rw [hgrow.block b (by simp; omega) (fun e => h.ne e.symm), Below.heap_alloc _ _ _ hbl]
    · have hlt := (h.gr.lt k hk).2
      rw [hgrow.block k (by simp; omega) (fun e => h.sep k e.symm hk), Below.heap_alloc _ _ _ hlt]
    · have hlt := block_lt hp
      rw [hgrow.block p (by simp; omega) (fun e => by obtain ⟨cur, hc⟩ := ownsRow_ty h.own e.symm; exact ty_apart hp hc (by decide) rfl), Below.heap_alloc _ _ _ hlt]
  · simpa [ints] using hown
  · rcases hat with e | e
    · simp only [Value.ownBlock]; rw [← e]; exact h.ne
    · simp [Value.ownBlock]; omega
  · intro y hy
    have : y = g := by simpa [Value.ownBlock] using hy.symm
    subst this
    rcases hat with e | e
    · exact h.sep y e
    · intro hv'; have := (h.gr.lt y hv').2; omega

theorem bld_succ (l : List Bk.Row) (k : Nat) (r : Bk.Row) (hr : l[k]? = some r) : Bk.bld l (k + 1) = ((Bk.bstep (Bk.bld l k).1 (Bk.bld l k).2 r).2.2, (Bk.bld l k).2 ++ [(Bk.bstep (Bk.bld l k).1 (Bk.bld l k).2 r).1]) := by
  rw [Bk.bld, hr]

/-- What a row's handle and error are. -/
theorem step_facts (l : List Bk.Row) (hl : ∀ k r, l[k]? = some r → Bk.Okrow k r) (k : Nat) (hk : k < l.length) (h11 : l.length ≤ 11) (r : Bk.Row) (hr : l[k]? = some r) :
    (Bk.bstep (Bk.bld l k).1 (Bk.bld l k).2 r).2.1 = 0 ∧ 1 ≤ (Bk.bstep (Bk.bld l k).1 (Bk.bld l k).2 r).1 ∧ (Bk.bstep (Bk.bld l k).1 (Bk.bld l k).2 r).1 ≤ k + 1 := by
  have hb := Bk.bld_ok l hl k (by omega) (by omega)
  rw [Bk.bstep_add hb.good hb.len (hl k r hr)]
  have := Bk.add_room (Bk.bld l k).1 (Bk.made (Bk.bld l k).2 r) (by have := hb.few; omega)
  have h2 := hb.few
  simp only [addR]
  omega

theorem Gr.drew {w : World} {B b : Nat} {v : Value} {ms : List Mk} {cl : Bool} (h : Gr w B b v ms cl) : Gr w.drew B b v ms cl := ⟨h.cells, h.own, h.ne, h.few⟩
theorem Mut.of_drew {w w2 : World} {b : Nat} {o : Option Nat} (h : Mut w.drew w2 b o) : Mut w w2 b o := ⟨h.os, h.tape, h.output, h.size, h.block⟩

set_option maxRecDepth 100000 in
set_option maxHeartbeats 4000000 in
theorem built_any (w : World) (B0 : Nat) (lv : Value) (l : List Bk.Row) (hown : w.ownsRow B0 37 7 lv l.length (prows l)) (hl : ∀ k r, l[k]? = some r → Bk.Okrow k r) (h11 : l.length ≤ 11) :
    Calls Try.prog 8 #[lv] w (BuiltPost w l) := by
  obtain ⟨i0, hi0, hz0, hz1, hz2⟩ := info_parts Try.infoInt
  have hv : ∃ a c, lv = .slice a l.length c := by
    rcases hown.2 with ⟨hn, h0⟩ | ⟨g, cap, cur, hv, _⟩
    · exact ⟨none, 0, by rw [hn, h0]⟩
    · exact ⟨_, _, hv⟩
  obtain ⟨la, lc, rfl⟩ := hv
  have HOW := hide hown
  have HL := hide hl
  clear hown hl
  go_enter Try.func8, Try.ntmps8
  go_wp2_with (go_at_call 4; refine (new_any _).mono ?_; rintro e w0 ⟨rfl, rfl⟩)
  go_loopw [5, 6] (fun hv i wr => ∃ k : Nat, k ≤ l.length ∧ i = .int .i64 k ∧ bltRel w l k hv wr) (fun _ i _ => l.length - (intOf i).toNat)
  case atStart =>
    refine ⟨0, Nat.zero_le _, rfl, .slice none 0 0, ⟨Gr.nil _ _ _ (heap_alloc_new w _), World.ownsRow_nil _ _ _ _, by simp [Value.ownBlock], by simp [Value.ownBlock], Nat.le_refl _⟩, (Below.refl _ _).alloc (Nat.le_refl _) _⟩
  case round =>
    obtain ⟨k, hk, rfl, v, hP, hbw⟩ := hrel
    have hBw := hbw.size
    by_cases hlt : k < l.length
    · have hr : l[k]? = some l[k] := List.getElem?_eq_getElem hlt
      generalize l[k] = r at hr
      obtain ⟨gl, cl, hlv, _, hgl⟩ := HOW.out.form (by omega)
      simp only [Value.slice.injEq, true_and] at hlv
      obtain ⟨rfl, rfl⟩ := hlv
      have hcl : ∀ j u, (prow r)[j]? = some u → wr.cell? ⟨gl, k * 7 + j, none⟩ = some u := fun j u hu => by
        have hj : j < 7 := by have := (List.getElem?_eq_some_iff.1 hu).1; simpa [prow] using this
        rw [hbw.cell (p := ⟨gl, k * 7 + j, none⟩) hgl]
        exact owns_at HOW.out rfl _ _ ((prows_at l k j r hr hj).trans hu)
      have q0 := hcl 0 _ rfl
      have q1 := hcl 1 _ rfl
      have q2 := hcl 2 _ rfl
      have q3 := hcl 3 _ rfl
      have q4 := hcl 4 _ rfl
      simp only [Nat.add_zero] at q0
      have ok := HL.out k r hr
      obtain ⟨f0, f1, f2⟩ := step_facts l HL.out k hlt h11 r hr
      have HST := hide (bld_succ l k r hr)
      have hbok := Bk.bld_ok l HL.out k hk (by omega)
      generalize hst : Bk.bstep (Bk.bld l k).1 (Bk.bld l k).2 r = st at *
      obtain ⟨hh, ee, ms'⟩ := st
      simp only at f0 f1 f2
      subst f0
      obtain ⟨op, a, b, p, q, is⟩ := r
      obtain ⟨okleaf, okop, ok1, ok2, ok3, ok4, _⟩ := ok
      simp only at q0 q1 q2 q3 q4 ok1 ok2 ok3 ok4
      have k0 : (0 : Int) ≤ (k : Int) := Int.natCast_nonneg _
      have k1 : (k : Int) < (l.length : Int) := by omega
      clear hcl hr
      by_cases h1 : op = 1
      · subst h1
        have HC : ∀ W, Gr W w.heap.size w.heap.size v (Bk.bld l k).1 false → w.heap.size ≤ W.heap.size → Calls Try.prog 5 #[.pointer (some ⟨w.heap.size, 0, none⟩), .int .i64 p, .int .i64 q] W (GPost W w.heap.size w.heap.size v false (hh, 0, ms')) := fun W hG hB => by
          rw [← hst]; simp only [Bk.bstep, if_pos]; exact leaf_any W _ _ v _ false hG hB p q (by omega) (by omega) (by omega) (by omega)
        have HCC := hide HC
        clear HC hst okop okleaf hbok q1 q2
        go_wp2_with fail
        go_region_held3 (fun w' => w'.cell? ⟨gl, k * 7 + 3, none⟩ = some (.int .i64 p) ∧ w'.cell? ⟨gl, k * 7 + 4, none⟩ = some (.int .i64 q))
          (go_keep)
          ((go_at_call 5; refine (HCC.out _ hP.gr.drew hBw).mono ?_; rintro e w2 ⟨rfl, v', hG, hM0, hO0⟩; have hM := hM0.of_drew; have hQ := hP.call hG hM hO0; have eg : ∀ j, w2.cell? ⟨gl, j, none⟩ = wr.cell? ⟨gl, j, none⟩ := (fun j => ((hM.below hP.gr hP.low hBw).cell (p := ⟨gl, j, none⟩) hgl))))
        have HQ := hide hQ
        have HBW := hide (hbw.trans (hM.below hP.gr hP.low hBw))
        clear hQ hG hM hM0 hO0 eg
        go_wp2_with (at_builtin; refine wpList_append_lies _ rfl _ _ 22 rfl w.heap.size 3 i0 _ 1 8 Try.underlying22 hi0 hz0 hz1 hz2 rfl (by omega) u5 k (ints (Bk.bld l k).2) rfl (HQ.out.own.alloc _) ⟨w2.heap.size, 0, none⟩ 1 1 [.int .i64 hh] rfl rfl ?c1 ?c2 (by omega) ?c3 ?c4 ?c5 (w2.heap.size + 1) ?c6 ?_)
        case c1 => exact World.news_of_block (cs := #[.int .i64 hh]) (t := 3) (fr := (0, 0)) (new_at _ _ _ rfl)
        case c2 => simp [Value.oneCell']
        case c3 => unfold maxLen; omega
        case c4 => omega
        case c5 => simp; have := HBW.out.size; omega
        case c6 => simp
        intro g' cap' w3 hown3 hgrow3 hat3 _
        have HRR : bltRel w l (k + 1) (.slice (some ⟨g', 0, none⟩) (k + 1) cap') w3 := by
          have hp3 := HQ.out.push hh hown3 hgrow3 hat3
          refine ⟨v', ?_, (HBW.out.alloc HBW.out.size _).grown hgrow3 (by simp; have := HBW.out.size; omega) fun j hj => (HQ.out.own.lt j hj).1⟩
          rw [HST.out]; exact hp3
        clear hgrow3 hown3
        go_wp2
        go_roundw
        case rel => exact ⟨k + 1, by omega, by go_num, HRR⟩
        case measure => simp [intOf]; omega

      · have hk3 : 3 ≤ k := by
          rcases Nat.lt_or_ge k 3 with h | h
          · exact absurd (okleaf h) h1
          · exact h
        obtain ⟨o2, o8, oa1, oa2, ob1, ob2⟩ := okop hk3
        simp only at o2 o8 oa1 oa2 ob1 ob2
        obtain ⟨gh, ch, hhv, _, hghl⟩ := hP.own.form (by omega)
        subst hhv
        have ga := Bk.hAt_good hbok.good a oa1 (by rw [hbok.len]; exact oa2)
        have gb := Bk.hAt_good hbok.good b ob1 (by rw [hbok.len]; exact ob2)
        have ca : wr.cell? ⟨gh, (a - 1).toNat, none⟩ = some (.int .i64 (Bk.hAt (Bk.bld l k).2 a)) := owns_at hP.own rfl _ _ (by rw [ints, List.getElem?_map, ga.1]; rfl)
        have cb : wr.cell? ⟨gh, (b - 1).toNat, none⟩ = some (.int .i64 (Bk.hAt (Bk.bld l k).2 b)) := owns_at hP.own rfl _ _ (by rw [ints, List.getElem?_map, gb.1]; rfl)
        obtain ⟨ia, rfl⟩ : ∃ ia : Nat, a = (ia : Int) + 1 := ⟨(a - 1).toNat, by omega⟩
        obtain ⟨ib, rfl⟩ : ∃ ib : Nat, b = (ib : Int) + 1 := ⟨(b - 1).toNat, by omega⟩
        rw [show ((ia : Int) + 1 - 1).toNat = ia by omega] at ca
        rw [show ((ib : Int) + 1 - 1).toNat = ib by omega] at cb
        have wa : IntKind.i64.wrap (ia : Int) = (ia : Int) := IntWalk.i64_in _ (by omega)
        have wb : IntKind.i64.wrap (ib : Int) = (ib : Int) := IntWalk.i64_in _ (by omega)
        have ja0 : (0 : Int) ≤ (ia : Int) := Int.natCast_nonneg _
        have ja1 : (ia : Int) < (k : Int) := by omega
        have jb0 : (0 : Int) ≤ (ib : Int) := Int.natCast_nonneg _
        have jb1 : (ib : Int) < (k : Int) := by omega
        have hop1 : (op == 1) = false := by simp; omega
        clear ga gb hbok okop okleaf oa1 oa2 ob1 ob2
        by_cases h5 : op = 5
        · subst h5
          have HC : ∀ W, Gr W w.heap.size w.heap.size v (Bk.bld l k).1 false → w.heap.size ≤ W.heap.size → Calls Try.prog 10 #[.pointer (some ⟨w.heap.size, 0, none⟩), .int .i64 (Bk.hAt (Bk.bld l k).2 (ia + 1)), .int .i64 p, .int .i64 q] W (GPost W w.heap.size w.heap.size v false (hh, 0, ms')) := fun W hG hB => by
            rw [← hst]; simp only [Bk.bstep, if_neg h1, if_pos]; exact scale_any W _ _ v _ false hG hB _ p q (by omega) (by omega) (by omega) (by omega)
          have HCC := hide HC
          generalize Bk.hAt (Bk.bld l k).2 (ia + 1) = ha at *
          clear HC hst q2 cb wb
          go_wp2_with fail
          go_region_held3 (fun w' => w'.cell? ⟨gl, k * 7 + 1, none⟩ = some (.int .i64 (ia + 1)) ∧ w'.cell? ⟨gl, k * 7 + 3, none⟩ = some (.int .i64 p) ∧ w'.cell? ⟨gl, k * 7 + 4, none⟩ = some (.int .i64 q) ∧ w'.cell? ⟨gh, ia, none⟩ = some (.int .i64 ha))
            (go_keep)
            ((go_at_call 10; refine (HCC.out _ hP.gr.drew hBw).mono ?_; rintro e w2 ⟨rfl, v', hG, hM0, hO0⟩; have hM := hM0.of_drew; have hQ := hP.call hG hM hO0; have eg : ∀ j, w2.cell? ⟨gl, j, none⟩ = wr.cell? ⟨gl, j, none⟩ := (fun j => ((hM.below hP.gr hP.low hBw).cell (p := ⟨gl, j, none⟩) hgl)); have eh : ∀ j, w2.cell? ⟨gh, j, none⟩ = wr.cell? ⟨gh, j, none⟩ := (fun j => World.cell?_of_block (w := wr) (hM.block gh hghl (fun e => hP.ne (by rw [← e]; rfl)) (fun e => hP.sep gh rfl e.symm)))))
          clear eh
          have HQ := hide hQ
          have HBW := hide (hbw.trans (hM.below hP.gr hP.low hBw))
          clear hQ hG hM hM0 hO0 eg
          go_wp2_with (at_builtin; refine wpList_append_lies _ rfl _ _ 22 rfl w.heap.size 3 i0 _ 1 8 Try.underlying22 hi0 hz0 hz1 hz2 rfl (by omega) (.slice (some ⟨gh, 0, none⟩) k ch) k (ints (Bk.bld l k).2) rfl (HQ.out.own.alloc _) ⟨w2.heap.size, 0, none⟩ 1 1 [.int .i64 hh] rfl rfl ?c1 ?c2 (by omega) ?c3 ?c4 ?c5 (w2.heap.size + 1) ?c6 ?_)
          case c1 => exact World.news_of_block (cs := #[.int .i64 hh]) (t := 3) (fr := (0, 0)) (new_at _ _ _ rfl)
          case c2 => simp [Value.oneCell']
          case c3 => unfold maxLen; omega
          case c4 => omega
          case c5 => simp; have := HBW.out.size; omega
          case c6 => simp
          intro g' cap' w3 hown3 hgrow3 hat3 _
          have HRR : bltRel w l (k + 1) (.slice (some ⟨g', 0, none⟩) (k + 1) cap') w3 := by
            have hp3 := HQ.out.push hh hown3 hgrow3 hat3
            refine ⟨v', ?_, (HBW.out.alloc HBW.out.size _).grown hgrow3 (by simp; have := HBW.out.size; omega) fun j hj => (HQ.out.own.lt j hj).1⟩
            rw [HST.out]; exact hp3
          clear hgrow3 hown3
          go_wp2
          go_roundw
          case rel => exact ⟨k + 1, by omega, by go_num, HRR⟩
          case measure => simp [intOf]; omega

        · have hop5 : (op == 5) = false := by simp; omega
          have HC : ∀ W, Gr W w.heap.size w.heap.size v (Bk.bld l k).1 false → w.heap.size ≤ W.heap.size → Calls Try.prog 11 #[.pointer (some ⟨w.heap.size, 0, none⟩), .int .i64 op, .int .i64 (Bk.hAt (Bk.bld l k).2 (ia + 1)), .int .i64 (Bk.hAt (Bk.bld l k).2 (ib + 1))] W (GPost W w.heap.size w.heap.size v false (hh, 0, ms')) := fun W hG hB => by
            rw [← hst]; simp only [Bk.bstep, if_neg h1, if_neg h5]; exact node_any W _ _ v _ false hG hB _ _ _
          have HCC := hide HC
          generalize Bk.hAt (Bk.bld l k).2 (ia + 1) = ha at *
          generalize Bk.hAt (Bk.bld l k).2 (ib + 1) = hb at *
          clear HC hst q3 q4
          go_wp2_with fail
          go_region_held3 (fun w' => w'.cell? ⟨gl, k * 7, none⟩ = some (.int .i64 op) ∧ w'.cell? ⟨gl, k * 7 + 1, none⟩ = some (.int .i64 (ia + 1)) ∧ w'.cell? ⟨gl, k * 7 + 2, none⟩ = some (.int .i64 (ib + 1)) ∧ w'.cell? ⟨gh, ia, none⟩ = some (.int .i64 ha) ∧ w'.cell? ⟨gh, ib, none⟩ = some (.int .i64 hb))
            (go_keep)
            ((go_at_call 11; refine (HCC.out _ hP.gr.drew hBw).mono ?_; rintro e w2 ⟨rfl, v', hG, hM0, hO0⟩; have hM := hM0.of_drew; have hQ := hP.call hG hM hO0; have eg : ∀ j, w2.cell? ⟨gl, j, none⟩ = wr.cell? ⟨gl, j, none⟩ := (fun j => ((hM.below hP.gr hP.low hBw).cell (p := ⟨gl, j, none⟩) hgl)); have eh : ∀ j, w2.cell? ⟨gh, j, none⟩ = wr.cell? ⟨gh, j, none⟩ := (fun j => World.cell?_of_block (w := wr) (hM.block gh hghl (fun e => hP.ne (by rw [← e]; rfl)) (fun e => hP.sep gh rfl e.symm)))))
          clear eh
          have HQ := hide hQ
          have HBW := hide (hbw.trans (hM.below hP.gr hP.low hBw))
          clear hQ hG hM hM0 hO0 eg
          go_wp2_with (at_builtin; refine wpList_append_lies _ rfl _ _ 22 rfl w.heap.size 3 i0 _ 1 8 Try.underlying22 hi0 hz0 hz1 hz2 rfl (by omega) (.slice (some ⟨gh, 0, none⟩) k ch) k (ints (Bk.bld l k).2) rfl (HQ.out.own.alloc _) ⟨w2.heap.size, 0, none⟩ 1 1 [.int .i64 hh] rfl rfl ?c1 ?c2 (by omega) ?c3 ?c4 ?c5 (w2.heap.size + 1) ?c6 ?_)
          case c1 => exact World.news_of_block (cs := #[.int .i64 hh]) (t := 3) (fr := (0, 0)) (new_at _ _ _ rfl)
          case c2 => simp [Value.oneCell']
          case c3 => unfold maxLen; omega
          case c4 => omega
          case c5 => simp; have := HBW.out.size; omega
          case c6 => simp
          intro g' cap' w3 hown3 hgrow3 hat3 _
          have HRR : bltRel w l (k + 1) (.slice (some ⟨g', 0, none⟩) (k + 1) cap') w3 := by
            have hp3 := HQ.out.push hh hown3 hgrow3 hat3
            refine ⟨v', ?_, (HBW.out.alloc HBW.out.size _).grown hgrow3 (by simp; have := HBW.out.size; omega) fun j hj => (HQ.out.own.lt j hj).1⟩
            rw [HST.out]; exact hp3
          clear hgrow3 hown3
          go_wp2
          go_roundw
          case rel => exact ⟨k + 1, by omega, by go_num, HRR⟩
          case measure => simp [intOf]; omega

    · obtain rfl : k = l.length := by omega
      have HPP : Hid (BuiltPost w l (.returned (.tuple #[.pointer (some ⟨w.heap.size, 0, none⟩), u5])) wr) := ⟨v, u5, rfl, hP, hbw⟩
      clear hP hbw
      go_wp2
      go_ret2
      exact HPP.out
end Go.Proofs.Ytccogcbddpighaa
