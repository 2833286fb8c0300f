/- The contract of the call that adds a node: one that is there already is found, else it is put behind the others, if there is room. -/
import Derived.Test.YthacahellkmleaaGraph
import Derived.Test.YthacahellkmleaaEql
import Derived.Deep.RegionLaw
namespace Go.Proofs.Ythacahellkmleaa
open Go.RowKit

theorem heap_setCell_at {w : World} {b i : Nat} {cs : Array Value} {t : TypeId} {fr : Nat × Nat} (h : w.heap[b]? = some (.cells cs t fr)) (v : Value) : (w.setCell ⟨b, i, none⟩ v).heap[b]? = some (.cells (cs.setIfInBounds i v) t fr) := by
  simp [World.setCell, Array.getElem?_modify, h]

/-- What the call leaves. -/
def AddPost (w : World) (B b : Nat) (v : Value) (ms : List Mk) (cl : Bool) (m : Mk) (e : Ending) (w' : World) : Prop :=
  e = .returned (.tuple #[.int .i64 (addH ms m), .int .i64 (addE ms m)]) ∧ ∃ v', Gr w' B b v' (addL ms m) cl ∧ Mut w w' b v.ownBlock ∧ (v'.ownBlock = v.ownBlock ∨ ∃ k, v'.ownBlock = some k ∧ w.heap.size ≤ k)

theorem idxOf_first {ms : List Mk} {m : Mk} {k : Nat} (h : ms[k]? = some m) (hno : ∀ j, j < k → ms[j]? ≠ some m) : m ∈ ms ∧ ms.idxOf m = k := by
  obtain ⟨hlt, he⟩ := List.getElem?_eq_some_iff.1 h
  refine ⟨List.mem_iff_getElem?.2 ⟨k, h⟩, ?_⟩
  have hmem : m ∈ ms := List.mem_iff_getElem?.2 ⟨k, h⟩
  have h1 : ms.idxOf m < ms.length := List.idxOf_lt_length_iff.2 hmem
  have h2 : ms[ms.idxOf m] = m := List.getElem_idxOf h1
  rcases Nat.lt_trichotomy (ms.idxOf m) k with hl | hl | hl
  · exact absurd (List.getElem?_eq_some_iff.2 ⟨h1, h2⟩) (hno _ hl)
  · exact hl
  · exfalso
    have h3 := List.not_of_lt_findIdx (p := (· == m)) (xs := ms) (i := k) (by simpa [List.idxOf] using hl)
    simp at h3
    exact h3 he

theorem not_mem_of_none {ms : List Mk} {m : Mk} (hno : ∀ j, j < ms.length → ms[j]? ≠ some m) : m ∉ ms := fun h => by
  obtain ⟨j, hj⟩ := List.mem_iff_getElem?.1 h
  exact hno j (List.getElem?_eq_some_iff.1 hj).1 hj

theorem add_hit {w w' : World} {B b : Nat} {v : Value} {ms : List Mk} {cl : Bool} (h : Gr w B b v ms cl) (m : Mk) (k : Nat) (hk : ms[k]? = some m) (hno : ∀ j, j < k → ms[j]? ≠ some m) (hb : Below w.heap.size w w') :
    AddPost w B b v ms cl m (.returned (.tuple #[.int .i64 ((k : Int) + 1), .int .i64 0])) w' := by
  obtain ⟨h1, h2⟩ := idxOf_first hk hno
  refine ⟨by simp [addH, addE, h1, h2], v, ?_, Mut.of_below hb _ _, .inl rfl⟩
  simp only [addL, if_pos h1]
  exact h.below hb

theorem add_none {w w' : World} {B b : Nat} {v : Value} {ms : List Mk} {cl : Bool} (h : Gr w B b v ms cl) (m : Mk) (hno : ∀ j, j < ms.length → ms[j]? ≠ some m) (hf : 24 ≤ ms.length) (hb : Below w.heap.size w w') :
    AddPost w B b v ms cl m (.returned (.tuple #[.int .i64 0, .int .i64 5])) w' := by
  have h1 := not_mem_of_none hno
  refine ⟨by simp [addH, addE, h1, hf], v, ?_, Mut.of_below hb _ _, .inl rfl⟩
  simp only [addL, if_neg h1, if_pos hf]
  exact h.below hb

theorem add_some {w wr w1 : World} {B b g cap : Nat} {v : Value} {ms : List Mk} {cl : Bool} (h : Gr w B b v ms cl) (m : Mk) (hno : ∀ j, j < ms.length → ms[j]? ≠ some m) (hf : ms.length < 24) (hb : Below w.heap.size w wr)
    (hown : w1.ownsRow B 70 6 (.slice (some ⟨g, 0, none⟩) (ms.length + 1) cap) (ms.length + 1) (rows ms ++ mkc m)) (hgrow : wr.grownBy w1 v.ownBlock) (hat : v.ownBlock = some g ∨ g = wr.heap.size) :
    AddPost w B b v ms cl m (.returned (.tuple #[.int .i64 ((ms.length : Int) + 1), .int .i64 0])) (w1.setCell ⟨b, 0, none⟩ (.slice (some ⟨g, 0, none⟩) (ms.length + 1) cap)) := by
  have h1 := not_mem_of_none hno
  have hbl := block_lt h.cells
  have hz := hb.size
  have hgb : g ≠ b := by
    rcases hat with e | e
    · intro he; exact h.ne (by rw [e, he])
    · omega
  have hc1 : w1.heap[b]? = some (.cells #[v, .bool cl] 62 (0, 0)) := by
    rw [hgrow.block b (by omega) (fun e => h.ne e.symm), hb.block b hbl]; exact h.cells
  refine ⟨by simp [addH, addE, h1, show ¬ 24 ≤ ms.length by omega], .slice (some ⟨g, 0, none⟩) (ms.length + 1) cap, ⟨?_, ?_, ?_, ?_⟩, ?_, ?_⟩
  · exact heap_setCell_at hc1 _
  · simp only [addL, if_neg h1, if_neg (show ¬ 24 ≤ ms.length by omega)]
    rw [rows_append]
    refine ownsRow_block (w := w1) ?_ fun k hk => ?_
    · simpa [rows] using hown
    · have : k = g := by simpa [Value.ownBlock] using hk.symm
      subst this
      exact Below.heap_setCell _ _ _ _ (by simpa using hgb)
  · simpa [Value.ownBlock] using hgb
  · simp only [addL, if_neg h1, if_neg (show ¬ 24 ≤ ms.length by omega)]; simp; omega
  · refine ⟨hgrow.os.trans hb.os, hgrow.tape.trans hb.tape, hgrow.output.trans hb.output, ?_, fun k hk k1 k2 => ?_⟩
    · simp only [World.size_setCell]; exact Nat.le_trans hz hgrow.size
    · rw [Below.heap_setCell _ _ _ _ (by simpa using k1), hgrow.block k (by omega) k2, hb.block k hk]
  · rcases hat with e | e
    · exact .inl e.symm
    · exact .inr ⟨g, rfl, by omega⟩

theorem Try.infoMk : (Try.prog.info? 70).map (fun i => (i.zero, i.size, i.bytes)) = some (some (.agg #[.int .u64 0, .int .u64 0, .int .u64 0, .int .u64 0, .int .u64 0, .int .u64 0]), 6, 48) := by kernel_rfl

/-- The block that the parameter lies in. -/
abbrev box (m0 m1 m2 m3 m4 m5 : Int) : Obj := .cells #[.int .u64 m0, .int .u64 m1, .int .u64 m2, .int .u64 m3, .int .u64 m4, .int .u64 m5] 70

theorem box_cell (w wr : World) (m0 m1 m2 m3 m4 m5 : Int) (hb : Below (w.heap.size + 1) (w.alloc (box m0 m1 m2 m3 m4 m5)) wr) : ∀ j u, (mkc (m0, m1, m2, m3, m4, m5))[j]? = some u → wr.cell? ⟨w.heap.size, j, none⟩ = some u := fun j u hu => by
  rw [hb.cell (p := ⟨w.heap.size, j, none⟩) (by simp), cell_of_row _ _ _ _ _ _ (heap_alloc_new w _)]
  simpa [mkc] using hu

theorem below_box {w wr : World} {o : Obj} (hb : Below (w.heap.size + 1) (w.alloc o) wr) : Below w.heap.size w wr :=
  ((Below.refl _ _).alloc (Nat.le_refl _) o).trans (hb.mono (by omega))

theorem frozen_grown {wr w1 : World} {o : Obj} {row : Option Nat} {b : Nat} (hg : (wr.alloc o).drew.grownBy w1 row) (hb : b < wr.heap.size) (hne : row ≠ some b) (hf : wr.frozen? ⟨b, 0, none⟩ = false) : w1.frozen? ⟨b, 0, none⟩ = false := by
  rw [hg.frozen_far ⟨b, 0, none⟩ (by simp; omega) (Ne.symm hne), ← hf]
  exact World.frozen?_of_block (Below.heap_alloc wr o _ hb)
theorem cell_grown {wr w1 : World} {o : Obj} {row : Option Nat} {b : Nat} {u : Value} (hg : (wr.alloc o).drew.grownBy w1 row) (hb : b < wr.heap.size) (hne : row ≠ some b) (hf : wr.cell? ⟨b, 0, none⟩ = some u) : w1.cell? ⟨b, 0, none⟩ = some u := by
  rw [hg.cell_far ⟨b, 0, none⟩ (by simp; omega) (Ne.symm hne), ← hf]
  exact World.cell?_of_block (Below.heap_alloc wr o _ hb)

set_option maxRecDepth 100000 in
set_option maxHeartbeats 4000000 in
theorem add_any (w : World) (B b : Nat) (v : Value) (ms : List Mk) (cl : Bool) (h : Gr w B b v ms cl) (hB : B ≤ w.heap.size) (m0 m1 m2 m3 m4 m5 : Int) :
    Calls Try.prog 23 #[.pointer (some ⟨b, 0, none⟩), .agg #[.int .u64 m0, .int .u64 m1, .int .u64 m2, .int .u64 m3, .int .u64 m4, .int .u64 m5]] w (AddPost w B b v ms cl (m0, m1, m2, m3, m4, m5)) := by
  have hb := h.cells
  have hv : ∃ a c, v = .slice a ms.length c := by
    rcases h.row.2 with ⟨hn, h0⟩ | ⟨g, cap, cur, hv, _⟩
    · exact ⟨none, 0, by rw [hn, h0]⟩
    · exact ⟨_, _, hv⟩
  obtain ⟨a, c, rfl⟩ := hv
  have h0 : w.cell? ⟨b, 0, none⟩ = some (.slice a ms.length c) := by rw [cell_of_row w b 0 _ _ _ hb]; rfl
  have hf := h.few
  have hbl := block_lt hb
  have HG : Hid (Gr w B b (.slice a ms.length c) ms cl) := h
  clear h
  have HB : Hid (w.heap[b]? = some (.cells #[.slice a ms.length c, .bool cl] 62 (0, 0))) := hb
  clear hb
  go_enter Try.func23, Try.ntmps23
  go_wp2
  go_loopw [13] (fun i wr => ∃ k : Nat, k ≤ ms.length ∧ i = .int .i64 k ∧ Hid (∀ j, j < k → ms[j]? ≠ some (m0, m1, m2, m3, m4, m5)) ∧ Hid (Below (w.heap.size + 1) (w.alloc (box m0 m1 m2 m3 m4 m5)) wr)) (fun i _ => ms.length - (intOf i).toNat)
  case atStart => exact ⟨0, Nat.zero_le _, rfl, fun j hj => absurd hj (Nat.not_lt_zero j), Below.refl _ _⟩
  case round =>
    obtain ⟨k, hk, rfl, hno, hbw⟩ := hrel
    have hz1 : w.heap.size < wr.heap.size := by
      have := hbw.out.size
      simp only [World.size_alloc] at this
      exact this
    have bb := box_cell w wr m0 m1 m2 m3 m4 m5 hbw.out
    have d0 := bb 0 _ rfl
    have d1 := bb 1 _ rfl
    have d2 := bb 2 _ rfl
    have d3 := bb 3 _ rfl
    have d4 := bb 4 _ rfl
    have d5 := bb 5 _ rfl
    clear bb
    have e0 : wr.cell? ⟨b, 0, none⟩ = some (.slice a ms.length c) := by rw [(below_box hbw.out).cell (p := ⟨b, 0, none⟩) hbl]; exact h0
    have e1 : wr.frozen? ⟨b, 0, none⟩ = false := by rw [(below_box hbw.out).frozen (p := ⟨b, 0, none⟩) hbl]; simp [World.frozen?, HB.out]
    have hbl' : b < wr.heap.size := by omega
    clear h0
    by_cases hlt : k < ms.length
    · have hm : ms[k]? = some ms[k] := List.getElem?_eq_getElem hlt
      generalize ms[k] = y at hm
      obtain ⟨y0, y1, y2, y3, y4, y5⟩ := y
      obtain ⟨g, cap, hv, _, hg, hc⟩ := (HG.out.below (below_box hbw.out)).at k _ hm
      simp only [Value.slice.injEq, true_and] at hv
      obtain ⟨rfl, rfl⟩ := hv
      have c0 := hc 0 _ rfl
      have c1 := hc 1 _ rfl
      have c2 := hc 2 _ rfl
      have c3 := hc 3 _ rfl
      have c4 := hc 4 _ rfl
      have c5 := hc 5 _ rfl
      simp only [Nat.add_zero] at c0
      have HM : Hid (ms[k]? = some (y0, y1, y2, y3, y4, y5)) := hm
      clear hc hm
      have he := fun w' => run_eql_mk w' y0 y1 y2 y3 y4 y5 m0 m1 m2 m3 m4 m5
      by_cases hy : mkEq y0 y1 y2 y3 y4 y5 m0 m1 m2 m3 m4 m5 = true
      · go_wp2
        go_ret2
        exact add_hit HG.out _ k (by rw [HM.out, (mkEq_iff ..).1 hy]) hno.out ((below_box hbw.out).alloc (by omega) _)
      · have hy' : mkEq y0 y1 y2 y3 y4 y5 m0 m1 m2 m3 m4 m5 = false := by simpa using hy
        have HY : Hid (¬ mkEq y0 y1 y2 y3 y4 y5 m0 m1 m2 m3 m4 m5 = true) := hy
        clear hy
        go_wp2
        go_roundw
        case rel =>
          refine ⟨k + 1, by omega, by go_num, fun j hj => ?_, hbw.out.alloc (by omega) _⟩
          rcases Nat.lt_succ_iff_lt_or_eq.1 hj with h1 | h1
          · exact hno.out j h1
          · subst h1
            rw [HM.out]
            intro e
            exact HY.out ((mkEq_iff ..).2 (Option.some.inj e))
        case measure => simp [intOf]; omega
    · obtain rfl : k = ms.length := by omega
      by_cases hfull : 24 ≤ ms.length
      · go_wp2
        go_ret2
        exact add_none HG.out _ hno.out hfull (below_box hbw.out)
      · obtain ⟨i0, hi0, hz0, hz1', hz2⟩ := info_parts Try.infoMk
        have hown := (HG.out.below (below_box hbw.out)).row
        have hne : (Value.slice a ms.length c).ownBlock ≠ some b := HG.out.ne
        go_wp2_with fail
        go_region_law ((refine step_append_lies _ (by rfl) _ _ _ (by rfl) B 70 i0 _ 6 48 Try.underlying60 hi0 hz0 hz1' hz2 rfl (by omega) (.slice a ms.length c) ms.length (rows ms) (by rfl) ((hown.alloc _).drew) ⟨wr.heap.size, 0, none⟩ 1 1 (mkc (m0, m1, m2, m3, m4, m5)) (by rfl) (by rfl) (World.news_of_block (cs := #[.int .u64 m0, .int .u64 m1, .int .u64 m2, .int .u64 m3, .int .u64 m4, .int .u64 m5]) (t := 70) (fr := (0, 0)) (heap_alloc_new wr _)) (by simp [mkc, Value.oneCell']) (by omega) (by unfold maxLen; omega) (by omega) (by simp; omega) (wr.heap.size + 1) (by simp) ?_; intro gg cap w1 hown1 hgrow hat hlt1; have hfz1 := frozen_grown hgrow hbl' hne e1; have hce1 := cell_grown hgrow hbl' hne e0))
        all_goals
          go_wp2
          go_ret2
          exact add_some HG.out _ hno.out (by omega) (((below_box hbw.out).alloc (by omega) _).drew) hown1 hgrow (hat.elim .inl fun e => .inr (by rw [e]; simp))
end Go.Proofs.Ythacahellkmleaa
