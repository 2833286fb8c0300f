/- The contract of the call that adds a node: one that is there already is found, else it is put behind the others, if there is room. -/
import Derived.Test.YtccogcbddpighaaGraph
import Derived.Test.YtccogcbddpighaaEql
import Derived.Deep.RegionLaw
import Derived.BigQuiet
namespace Go.Proofs.Ytccogcbddpighaa
open Go.RowKit

theorem heap_setCell_at {w : World} {b i : Nat} {cs : Array Value} {t : TypeId} {fr : Nat × Nat} (h : w.heap[b]? = some (.cells cs t fr)) (v : Value) : (w.setCell ⟨b, i, none⟩ v).heap[b]? = some (.cells (cs.setIfInBounds i v) t fr) := by
  simp [World.setCell, Array.getElem?_modify, h]

/-- What the call leaves. -/
def AddPost (w : World) (B b : Nat) (v : Value) (ms : List Mk) (cl : Bool) (m : Mk) (e : Ending) (w' : World) : Prop :=
  e = .returned (.tuple #[.int .i64 (addH ms m), .int .i64 (addE ms m)]) ∧ ∃ v', Gr w' B b v' (addL ms m) cl ∧ Mut w w' b v.ownBlock ∧ (v'.ownBlock = v.ownBlock ∨ ∃ k, v'.ownBlock = some k ∧ w.heap.size ≤ k)

theorem idxOf_first {ms : List Mk} {m : Mk} {k : Nat} (h : ms[k]? = some m) (hno : ∀ j, j < k → ms[j]? ≠ some m) : m ∈ ms ∧ ms.idxOf m = k := by
  obtain ⟨hlt, he⟩ := List.getElem?_eq_some_iff.1 h
  refine ⟨List.mem_iff_getElem?.2 ⟨k, h⟩, ?_⟩
  have hmem : m ∈ ms := List.mem_iff_getElem?.2 ⟨k, h⟩
  have h1 : ms.idxOf m < ms.length := List.idxOf_lt_length_iff.2 hmem
  have h2 : ms[ms.idxOf m] = m := List.getElem_idxOf h1
  rcases Nat.lt_trichotomy (ms.idxOf m) k with hl | hl | hl
  · exact absurd (List.getElem?_eq_some_iff.2 ⟨h1, h2⟩) (hno _ hl)
  · exact hl
  · exfalso
    have h3 := List.not_of_lt_findIdx (p := (· == m)) (xs := ms) (i := k) (by simpa [List.idxOf] using hl)
    simp at h3
    exact h3 he

theorem not_mem_of_none {ms : List Mk} {m : Mk} (hno : ∀ j, j < ms.length → ms[j]? ≠ some m) : m ∉ ms := fun h => by
  obtain ⟨j, hj⟩ := List.mem_iff_getElem?.1 h
  exact hno j (List.getElem?_eq_some_iff.1 hj).1 hj

theorem add_hit {w w' : World} {B b : Nat} {v : Value} {ms : List Mk} {cl : Bool} (h : Gr w B b v ms cl) (m : Mk) (k : Nat) (hk : ms[k]? = some m) (hno : ∀ j, j < k → ms[j]? ≠ some m) (hb : Below w.heap.size w w') :
    AddPost w B b v ms cl m (.returned (.tuple #[.int .i64 ((k : Int) + 1), .int .i64 0])) w' := by
  obtain ⟨h1, h2⟩ := idxOf_first hk hno
  refine ⟨by simp [addH, addE, h1, h2], v, ?_, Mut.of_below hb _ _, .inl rfl⟩
  simp only [addL, if_pos h1]
  exact h.below hb

theorem add_none {w w' : World} {B b : Nat} {v : Value} {ms : List Mk} {cl : Bool} (h : Gr w B b v ms cl) (m : Mk) (hno : ∀ j, j < ms.length → ms[j]? ≠ some m) (hf : 24 ≤ ms.length) (hb : Below w.heap.size w w') :
    AddPost w B b v ms cl m (.returned (.tuple #[.int .i64 0, .int .i64 5])) w' := by
  have h1 := not_mem_of_none hno
  refine ⟨by simp [addH, addE, h1, hf], v, ?_, Mut.of_below hb _ _, .inl rfl⟩
  simp only [addL, if_neg h1, if_pos hf]
  exact h.below hb

theorem heap_two (w : World) (o1 o2 : Obj) : ((w.alloc o1).alloc o2).heap[w.heap.size]? = some o1 ∧ ((w.alloc o1).alloc o2).heap[w.heap.size + 1]? = some o2 := by
  refine ⟨?_, ?_⟩
  · rw [Below.heap_alloc (w.alloc o1) o2 _ (by simp)]; exact heap_alloc_new w o1
  · have := heap_alloc_new (w.alloc o1) o2
    simpa using this

theorem add_some {w wr w0 w1 : World} {B b g cap : Nat} {v d t : Value} {ms : List Mk} {cl : Bool} {o2 : Obj} (h : Gr w B b v ms cl) (m : Mk) (hno : ∀ j, j < ms.length → ms[j]? ≠ some m) (hf : ms.length < 24) (hb : Below w.heap.size w wr)
    (h0 : w0 = ((wr.alloc (.cells (nodeCells m d t) 61 (0, 0))).alloc o2).drew)
    (ps : List Nat) (hl : ps.length = ms.length) (hps : ∀ (k p : Nat) (m : Mk), ps[k]? = some p → ms[k]? = some m → NodeAt wr p m)
    (hown : w1.ownsRow B 59 1 (.slice (some ⟨g, 0, none⟩) (ms.length + 1) cap) (ms.length + 1) (ptrs ps ++ [.pointer (some ⟨wr.heap.size, 0, none⟩)])) (hgrow : w0.grownBy w1 v.ownBlock) (hat : v.ownBlock = some g ∨ g = wr.heap.size + 2) :
    AddPost w B b v ms cl m (.returned (.tuple #[.int .i64 ((ms.length : Int) + 1), .int .i64 0])) (w1.setCell ⟨b, 0, none⟩ (.slice (some ⟨g, 0, none⟩) (ms.length + 1) cap)) := by
  have h1 := not_mem_of_none hno
  have hbl := block_lt h.cells
  have hz := hb.size
  have hb0 : Below w.heap.size w w0 := by
    rw [h0]
    exact ((hb.alloc hz _).alloc (by simp; omega) _).drew
  have hsz0 : w0.heap.size = wr.heap.size + 2 := by rw [h0]; simp
  have hnew : w0.heap[wr.heap.size]? = some (.cells (nodeCells m d t) 61 (0, 0)) := by rw [h0]; exact (heap_two wr _ o2).1
  have h' : Gr w0 B b v ms cl := h.below hb0
  have hgb : g ≠ b := by
    rcases hat with e | e
    · intro he; exact h.ne (by rw [e, he])
    · omega
  have hc1 : w1.heap[b]? = some (.cells #[v, .bool cl] 43 (0, 0)) := by
    rw [hgrow.block b (by omega) (fun e => h.ne e.symm)]; exact h'.cells
  have hp : ∀ (k p : Nat) (m : Mk), ps[k]? = some p → ms[k]? = some m → NodeAt w0 p m := fun k p m k1 k2 => by
    obtain ⟨d', t', hn⟩ := hps k p m k1 k2
    have hlt := block_lt hn
    refine ⟨d', t', ?_⟩
    rw [h0]
    exact ((Below.heap_alloc (wr.alloc _) o2 _ (by simp; omega)).trans (Below.heap_alloc wr _ _ hlt)).trans hn
  have hkeep : ∀ (p : Nat) (cs : Array Value), w0.heap[p]? = some (.cells cs 61 (0, 0)) → w1.heap[p]? = w0.heap[p]? ∧ p ≠ b := fun p cs hp => by
    refine ⟨hgrow.block p (block_lt hp) fun e => ?_, ty_apart hp h'.cells (by decide)⟩
    obtain ⟨cur, hc⟩ := h'.ty e.symm
    exact ty_apart hp hc (by decide) rfl
  refine ⟨by simp [addH, addE, h1, show ¬ 24 ≤ ms.length by omega], .slice (some ⟨g, 0, none⟩) (ms.length + 1) cap, ⟨?_, ?_, ?_, ?_⟩, ?_, ?_⟩
  · exact heap_setCell_at hc1 _
  · simp only [addL, if_neg h1, if_neg (show ¬ 24 ≤ ms.length by omega)]
    refine ⟨ps ++ [wr.heap.size], by simp [hl], ?_, fun k p m' k1 k2 => ?_⟩
    · rw [ptrs_append]
      refine ownsRow_block (w := w1) ?_ fun k hk => ?_
      · simpa [ptrs] using hown
      · have : k = g := by simpa [Value.ownBlock] using hk.symm
        subst this
        exact Below.heap_setCell _ _ _ _ (by simpa using hgb)
    · have hnode : NodeAt w0 p m' := by
        rcases Nat.lt_or_ge k ps.length with hlt | hge
        · rw [List.getElem?_append_left hlt] at k1
          rw [List.getElem?_append_left (by omega)] at k2
          exact hp k p m' k1 k2
        · rw [List.getElem?_append_right hge] at k1
          rw [List.getElem?_append_right (by omega)] at k2
          have hk0 : k - ps.length = 0 := by
            rcases Nat.eq_zero_or_pos (k - ps.length) with e | e
            · exact e
            · rw [List.getElem?_eq_none (by simp; omega)] at k1; cases k1
          rw [hk0] at k1
          rw [← hl, hk0] at k2
          simp at k1 k2
          subst k1 k2
          exact ⟨d, t, hnew⟩
      obtain ⟨d', t', hn⟩ := hnode
      obtain ⟨q1, q2⟩ := hkeep p _ hn
      exact ⟨d', t', by rw [Below.heap_setCell _ _ _ _ (by simpa using q2), q1]; exact hn⟩
  · simpa [Value.ownBlock] using hgb
  · simp only [addL, if_neg h1, if_neg (show ¬ 24 ≤ ms.length by omega)]; simp; omega
  · refine ⟨hgrow.os.trans hb0.os, hgrow.tape.trans hb0.tape, hgrow.output.trans hb0.output, ?_, fun k hk k1 k2 => ?_⟩
    · simp only [World.size_setCell]; exact Nat.le_trans hb0.size hgrow.size
    · rw [Below.heap_setCell _ _ _ _ (by simpa using k1), hgrow.block k (by omega) k2, hb0.block k hk]
  · rcases hat with e | e
    · exact .inl e.symm
    · exact .inr ⟨g, rfl, by omega⟩

theorem Try.infoPtr : (Try.prog.info? 59).map (fun i => (i.zero, i.size, i.bytes)) = some (some (.pointer none), 1, 8) := by kernel_rfl

/-- The block that the parameter lies in. -/
abbrev box (m0 m1 m2 m3 m4 m5 : Int) : Obj := .cells #[.int .u64 m0, .int .u64 m1, .int .u64 m2, .int .u64 m3, .int .u64 m4, .int .u64 m5] 51

theorem box_cell (w wr : World) (m0 m1 m2 m3 m4 m5 : Int) (hb : Below (w.heap.size + 1) (w.alloc (box m0 m1 m2 m3 m4 m5)) wr) : ∀ j u, (mkc (m0, m1, m2, m3, m4, m5))[j]? = some u → wr.cell? ⟨w.heap.size, j, none⟩ = some u := fun j u hu => by
  rw [hb.cell (p := ⟨w.heap.size, j, none⟩) (by simp), cell_of_row _ _ _ _ _ _ (heap_alloc_new w _)]
  simpa [mkc] using hu

theorem below_box {w wr : World} {o : Obj} (hb : Below (w.heap.size + 1) (w.alloc o) wr) : Below w.heap.size w wr :=
  ((Below.refl _ _).alloc (Nat.le_refl _) o).trans (hb.mono (by omega))

theorem frozen_grown {wr w1 : World} {o o2 : Obj} {row : Option Nat} {b : Nat} (hg : ((wr.alloc o).alloc o2).drew.grownBy w1 row) (hb : b < wr.heap.size) (hne : row ≠ some b) (hf : wr.frozen? ⟨b, 0, none⟩ = false) : w1.frozen? ⟨b, 0, none⟩ = false := by
  rw [hg.frozen_far ⟨b, 0, none⟩ (by simp; omega) (Ne.symm hne), ← hf]
  exact World.frozen?_of_block ((Below.heap_alloc _ o2 _ (by simp; omega)).trans (Below.heap_alloc wr o _ hb))
theorem cell_grown {wr w1 : World} {o o2 : Obj} {row : Option Nat} {b : Nat} {u : Value} (hg : ((wr.alloc o).alloc o2).drew.grownBy w1 row) (hb : b < wr.heap.size) (hne : row ≠ some b) (hf : wr.cell? ⟨b, 0, none⟩ = some u) : w1.cell? ⟨b, 0, none⟩ = some u := by
  rw [hg.cell_far ⟨b, 0, none⟩ (by simp; omega) (Ne.symm hne), ← hf]
  exact World.cell?_of_block ((Below.heap_alloc _ o2 _ (by simp; omega)).trans (Below.heap_alloc wr o _ hb))

set_option maxRecDepth 100000 in
set_option maxHeartbeats 4000000 in
theorem add_any (w : World) (B b : Nat) (v : Value) (ms : List Mk) (cl : Bool) (h : Gr w B b v ms cl) (hB : B ≤ w.heap.size) (m0 m1 m2 m3 m4 m5 : Int) :
    Calls Try.prog 13 #[.pointer (some ⟨b, 0, none⟩), .agg #[.int .u64 m0, .int .u64 m1, .int .u64 m2, .int .u64 m3, .int .u64 m4, .int .u64 m5]] w (AddPost w B b v ms cl (m0, m1, m2, m3, m4, m5)) := by
  have hb := h.cells
  obtain ⟨a, c, rfl⟩ := h.slice
  have h0 : w.cell? ⟨b, 0, none⟩ = some (.slice a ms.length c) := by rw [cell_of_row w b 0 _ _ _ hb]; rfl
  have hf := h.few
  have hbl := block_lt hb
  have HG : Hid (Gr w B b (.slice a ms.length c) ms cl) := h
  clear h
  have HB : Hid (w.heap[b]? = some (.cells #[.slice a ms.length c, .bool cl] 43 (0, 0))) := hb
  clear hb
  go_enter Try.func13, Try.ntmps13
  go_wp2
  go_loopw [13] (fun i wr => ∃ k : Nat, k ≤ ms.length ∧ i = .int .i64 k ∧ Hid (∀ j, j < k → ms[j]? ≠ some (m0, m1, m2, m3, m4, m5)) ∧ Hid (Below (w.heap.size + 1) (w.alloc (box m0 m1 m2 m3 m4 m5)) wr)) (fun i _ => ms.length - (intOf i).toNat)
  case atStart => exact ⟨0, Nat.zero_le _, rfl, fun j hj => absurd hj (Nat.not_lt_zero j), Below.refl _ _⟩
  case round =>
    obtain ⟨k, hk, rfl, hno, hbw⟩ := hrel
    have hz1 : w.heap.size < wr.heap.size := by
      have := hbw.out.size
      simp only [World.size_alloc] at this
      exact this
    have bb := box_cell w wr m0 m1 m2 m3 m4 m5 hbw.out
    have d0 := bb 0 _ rfl
    have d1 := bb 1 _ rfl
    have d2 := bb 2 _ rfl
    have d3 := bb 3 _ rfl
    have d4 := bb 4 _ rfl
    have d5 := bb 5 _ rfl
    clear bb
    have e0 : wr.cell? ⟨b, 0, none⟩ = some (.slice a ms.length c) := by rw [(below_box hbw.out).cell (p := ⟨b, 0, none⟩) hbl]; exact h0
    have e1 : wr.frozen? ⟨b, 0, none⟩ = false := by rw [(below_box hbw.out).frozen (p := ⟨b, 0, none⟩) hbl]; simp [World.frozen?, HB.out]
    have hbl' : b < wr.heap.size := by omega
    clear h0
    by_cases hlt : k < ms.length
    · have hm : ms[k]? = some ms[k] := List.getElem?_eq_getElem hlt
      generalize ms[k] = y at hm
      obtain ⟨y0, y1, y2, y3, y4, y5⟩ := y
      obtain ⟨g, cap, p, hv, _, hg, hcp, hc⟩ := (HG.out.below (below_box hbw.out)).at k _ hm
      simp only [Value.slice.injEq, true_and] at hv
      obtain ⟨rfl, rfl⟩ := hv
      have c0 := hc 0 _ rfl
      have c1 := hc 1 _ rfl
      have c2 := hc 2 _ rfl
      have c3 := hc 3 _ rfl
      have c4 := hc 4 _ rfl
      have c5 := hc 5 _ rfl
      have HM : Hid (ms[k]? = some (y0, y1, y2, y3, y4, y5)) := hm
      clear hc hm
      have he := fun w' => run_eql_mk w' y0 y1 y2 y3 y4 y5 m0 m1 m2 m3 m4 m5
      by_cases hy : mkEq y0 y1 y2 y3 y4 y5 m0 m1 m2 m3 m4 m5 = true
      · go_wp2
        go_quiet (fail)
        go_wp2
        go_ret2
        exact add_hit HG.out _ k (by rw [HM.out, (mkEq_iff ..).1 hy]) hno.out (below_drewN (below_box hbw.out) _)
      · have hy' : mkEq y0 y1 y2 y3 y4 y5 m0 m1 m2 m3 m4 m5 = false := by simpa using hy
        have HY : Hid (¬ mkEq y0 y1 y2 y3 y4 y5 m0 m1 m2 m3 m4 m5 = true) := hy
        clear hy
        go_wp2
        go_quiet (fail)
        go_wp2
        go_roundw
        case rel =>
          refine ⟨k + 1, by omega, by go_num, fun j hj => ?_, below_drewN hbw.out _⟩
          rcases Nat.lt_succ_iff_lt_or_eq.1 hj with h1 | h1
          · exact hno.out j h1
          · subst h1
            rw [HM.out]
            intro e
            exact HY.out ((mkEq_iff ..).2 (Option.some.inj e))
        case measure => simp [intOf]; omega
    · obtain rfl : k = ms.length := by omega
      by_cases hfull : 24 ≤ ms.length
      · go_wp2
        go_ret2
        exact add_none HG.out _ hno.out hfull (below_box hbw.out)
      · obtain ⟨i0, hi0, hz0, hz1', hz2⟩ := info_parts Try.infoPtr
        obtain ⟨ps, hl, hown, hps⟩ := (HG.out.below (below_box hbw.out)).own
        have hne : (Value.slice a ms.length c).ownBlock ≠ some b := HG.out.ne
        go_wp2_with fail
        go_region_law ((refine step_append_lies _ (by rfl) _ _ _ (by rfl) B 59 i0 _ 1 8 Try.underlying41 hi0 hz0 hz1' hz2 rfl (by omega) (.slice a ms.length c) ms.length (ptrs ps) (by rfl) (((hown.alloc _).alloc _).drew) ⟨wr.heap.size + 1, 0, none⟩ 1 1 [.pointer (some ⟨wr.heap.size, 0, none⟩)] (by rfl) (by rfl) (World.news_of_block (cs := #[.pointer (some ⟨wr.heap.size, 0, none⟩)]) (t := 59) (fr := (0, 0)) (heap_two wr _ _).2) (by simp [Value.oneCell']) (by omega) (by unfold maxLen; omega) (by omega) (by simp; omega) (wr.heap.size + 2) (by simp) ?_; intro gg cap w1 hown1 hgrow hat hlt1; have hfz1 := frozen_grown hgrow hbl' hne e1; have hce1 := cell_grown hgrow hbl' hne e0))
        all_goals
          go_wp2
          go_ret2
          exact add_some (d := .slice none 0 0) (t := .int .i64 0) HG.out (m0, m1, m2, m3, m4, m5) hno.out (by omega) (below_box hbw.out) rfl ps hl hps hown1 hgrow hat
end Go.Proofs.Ytccogcbddpighaa
