/- The document's graph in memory, and the contract of its add: a node that is there is found, else it is put behind the others, if there is room. -/
import Derived.Test.YthacahellkmleaaRSame
namespace Go.Proofs.Ythacahellkmleaa
open Go.RowKit

def ptr (p : Nat) : Value := .pointer (some ⟨p, 0, none⟩)
/-- Blocks of these types are as they were. -/
def KeepT (T : List TypeId) (w w' : World) : Prop := ∀ (k : Nat) (cs : Array Value) (t : TypeId), t ∈ T → w.heap[k]? = some (Obj.cells cs t (0, 0)) → w'.heap[k]? = w.heap[k]?
theorem KeepT.of_below {T : List TypeId} {w w' : World} (h : Below w.heap.size w w') : KeepT T w w' := fun k _ _ _ hk => h.block k (block_lt hk)
theorem KeepT.of_mut {T : List TypeId} {w w' : World} {b : Nat} {o : Option Nat} (h : Mut w w' b o) {tb : TypeId} {cb : Array Value} (hb : w.heap[b]? = some (.cells cb tb (0, 0))) (ht : tb ∉ T)
    (ho : ∀ k, o = some k → ∃ co to', w.heap[k]? = some (.cells co to' (0, 0)) ∧ to' ∉ T) : KeepT T w w' := fun k cs t hT hk => by
  refine h.block k (block_lt hk) (fun e => ?_) (fun e => ?_)
  · subst e; rw [hb] at hk; cases hk; exact ht hT
  · obtain ⟨co, to', h1, h2⟩ := ho k e.symm; rw [h1] at hk; cases hk; exact h2 hT
theorem KeepT.mono {T T' : List TypeId} {w w' : World} (h : KeepT T w w') (hT : ∀ t ∈ T', t ∈ T) : KeepT T' w w' := fun k cs t ht hk => h k cs t (hT t ht) hk

theorem NodeAt.keep {w w' : World} {p : Nat} {m : Mk} (h : NodeAt w p m) (hk : KeepT [105, 109] w w') : NodeAt w' p m := by
  obtain ⟨pv, x2, x3, x4, x5, x6, x7, x8, hN, a, c, hpv, hp⟩ := h
  refine ⟨pv, x2, x3, x4, x5, x6, x7, x8, ?_, a, c, hpv, ?_⟩
  · unfold NodeB at hN ⊢; rw [hk _ _ _ (by simp) hN]; exact hN
  · rcases hp with hp | ⟨g, cur, ha, hg, hc⟩
    · exact .inl hp
    · exact .inr ⟨g, cur, ha, by rw [hk _ _ _ (by simp) hg]; exact hg, hc⟩

theorem owns_type {w : World} {B e s : Nat} {v : Value} {n : Nat} {xs : List Value} (h : w.ownsRow B e s v n xs) (k : Nat) (hk : v.ownBlock = some k) : ∃ co, w.heap[k]? = some (.cells co e (0, 0)) := by
  rcases h.2 with ⟨hn, _⟩ | ⟨g, cap, cur, hv, _, hg, _⟩
  · rw [hn] at hk; simp [Value.ownBlock] at hk
  · rw [hv] at hk; simp [Value.ownBlock] at hk; subst hk; exact ⟨cur, hg⟩
theorem owns_keep {w w' : World} {B e s : Nat} {v : Value} {n : Nat} {xs : List Value} (h : w.ownsRow B e s v n xs) (hk : KeepT [e] w w') : w'.ownsRow B e s v n xs :=
  ownsRow_block h fun k hv => by obtain ⟨co, hc⟩ := owns_type h k hv; exact hk k co e (by simp) hc

/-- The document's graph at block r. -/
structure RGr (w : World) (B r : Nat) (rv : Value) (ms : List Mk) (cl : Bool) : Prop where
  cells : w.heap[r]? = some (.cells #[rv, .bool cl] 77 (0, 0))
  row : ∃ ps : List Nat, ps.length = ms.length ∧ w.ownsRow B 100 1 rv ms.length (ps.map ptr) ∧ ∀ (i : Nat) (m : Mk) (p : Nat), ms[i]? = some m → ps[i]? = some p → NodeAt w p m
  few : ms.length ≤ 24
  ok : ∀ m ∈ ms, Okm m

theorem RGr.keep {w w' : World} {B r : Nat} {rv : Value} {ms : List Mk} {cl : Bool} (h : RGr w B r rv ms cl) (hr : w'.heap[r]? = w.heap[r]?) (hv : ∀ k, rv.ownBlock = some k → w'.heap[k]? = w.heap[k]?) (hk : KeepT [105, 109] w w') : RGr w' B r rv ms cl := by
  obtain ⟨h1, ⟨ps, h2, h3, h4⟩, h5, h6⟩ := h
  exact ⟨by rw [hr]; exact h1, ⟨ps, h2, ownsRow_block h3 hv, fun i m p hm hp => (h4 i m p hm hp).keep hk⟩, h5, h6⟩
theorem RGr.keepT {w w' : World} {B r : Nat} {rv : Value} {ms : List Mk} {cl : Bool} (h : RGr w B r rv ms cl) (hk : KeepT [77, 100, 105, 109] w w') : RGr w' B r rv ms cl := by
  obtain ⟨ps, _, h3, _⟩ := h.row
  exact h.keep (hk _ _ _ (by simp) h.cells) (fun k hv => by obtain ⟨co, hc⟩ := owns_type h3 k hv; exact hk k co _ (by simp) hc) (hk.mono (by simp))
theorem RGr.below {w w' : World} {B r : Nat} {rv : Value} {ms : List Mk} {cl : Bool} (h : RGr w B r rv ms cl) (hb : Below w.heap.size w w') : RGr w' B r rv ms cl := h.keepT (KeepT.of_below hb)
theorem Gr.keepT {w w' : World} {B b : Nat} {v : Value} {ms : List Mk} {cl : Bool} (h : Gr w B b v ms cl) (hk : KeepT [62, 70] w w') : Gr w' B b v ms cl :=
  h.keep (hk _ _ _ (by simp) h.cells) (fun k hv => by obtain ⟨co, hc⟩ := owns_type h.row k hv; exact hk k co _ (by simp) hc)
theorem RGr.ne {w : World} {B r : Nat} {rv : Value} {ms : List Mk} {cl : Bool} (h : RGr w B r rv ms cl) : rv.ownBlock ≠ some r := fun e => by
  obtain ⟨ps, _, h3, _⟩ := h.row
  obtain ⟨co, hc⟩ := owns_type h3 r e
  rw [h.cells] at hc; cases hc
theorem RGr.slice {w : World} {B r : Nat} {rv : Value} {ms : List Mk} {cl : Bool} (h : RGr w B r rv ms cl) : ∃ a c, rv = .slice a ms.length c := by
  obtain ⟨ps, _, h3, _⟩ := h.row
  rcases h3.2 with ⟨hn, h0⟩ | ⟨g, cap, cur, hv, _⟩
  · exact ⟨none, 0, by rw [hn, h0]⟩
  · exact ⟨_, _, hv⟩
/-- What a mutation of the document's graph leaves alone. -/
theorem RGr.mut_keep {w w' : World} {B r : Nat} {rv : Value} {ms : List Mk} {cl : Bool} (h : RGr w B r rv ms cl) (hM : Mut w w' r rv.ownBlock) (T : List TypeId) (h1 : 77 ∉ T) (h2 : 100 ∉ T) : KeepT T w w' := by
  obtain ⟨ps, _, h3, _⟩ := h.row
  exact KeepT.of_mut hM h.cells h1 fun k hk => by obtain ⟨co, hc⟩ := owns_type h3 k hk; exact ⟨co, _, hc, h2⟩
theorem Gr.mut_keep {w w' : World} {B b : Nat} {v : Value} {ms : List Mk} {cl : Bool} (h : Gr w B b v ms cl) (hM : Mut w w' b v.ownBlock) (T : List TypeId) (h1 : 62 ∉ T) (h2 : 70 ∉ T) : KeepT T w w' :=
  KeepT.of_mut hM h.cells h1 fun k hk => by obtain ⟨co, hc⟩ := owns_type h.row k hk; exact ⟨co, _, hc, h2⟩

/-- What the call leaves. -/
def RPost (w : World) (B r : Nat) (rv : Value) (cl : Bool) (x : Int × Int × List Mk) (e : Ending) (w' : World) : Prop :=
  e = .returned (.tuple #[.int .i64 x.1, .int .i64 x.2.1]) ∧ ∃ rv', RGr w' B r rv' x.2.2 cl ∧ Mut w w' r rv.ownBlock ∧ (rv'.ownBlock = rv.ownBlock ∨ ∃ k, rv'.ownBlock = some k ∧ w.heap.size ≤ k)
theorem RPost.same {w w' : World} {B r : Nat} {rv : Value} {ms : List Mk} {cl : Bool} (h : RGr w B r rv ms cl) (hb : Below w.heap.size w w') (H E : Int) (x : Int × Int × List Mk) (hx : x = (H, E, ms)) :
    RPost w B r rv cl x (.returned (.tuple #[.int .i64 H, .int .i64 E])) w' := by
  subst hx; exact ⟨rfl, rv, h.below hb, Mut.of_below hb _ _, .inl rfl⟩
theorem RPost.after {w w2 w' : World} {B r : Nat} {rv : Value} {cl : Bool} {x : Int × Int × List Mk} {e : Ending} (hb : Below w.heap.size w w2) (h : RPost w2 B r rv cl x e w') : RPost w B r rv cl x e w' := by
  obtain ⟨he, v', h1, h2, h3⟩ := h
  exact ⟨he, v', h1, h2.below_trans hb, h3.elim .inl fun ⟨k, hk, hle⟩ => .inr ⟨k, hk, Nat.le_trans hb.size hle⟩⟩

theorem radd_some {w wr w1 : World} {B r g cap : Nat} {rv : Value} {ms : List Mk} {cl : Bool} (h : RGr w B r rv ms cl) (m : Mk) (om : Okm m) (nb : Nat) (hn : NodeAt w nb m) (hno : ∀ j, j < ms.length → ms[j]? ≠ some m) (hf : ms.length < 24) (hb : Below w.heap.size w wr)
    (ps : List Nat) (hps : ps.length = ms.length) (hnodes : ∀ (i : Nat) (m : Mk) (p : Nat), ms[i]? = some m → ps[i]? = some p → NodeAt w p m)
    (hown : w1.ownsRow B 100 1 (.slice (some ⟨g, 0, none⟩) (ms.length + 1) cap) (ms.length + 1) (ps.map ptr ++ [ptr nb])) (hgrow : wr.grownBy w1 rv.ownBlock) (hat : rv.ownBlock = some g ∨ g = wr.heap.size) :
    RPost w B r rv cl (addR ms m) (.returned (.tuple #[.int .i64 ((ms.length : Int) + 1), .int .i64 0])) (w1.setCell ⟨r, 0, none⟩ (.slice (some ⟨g, 0, none⟩) (ms.length + 1) cap)) := by
  have h1 := not_mem_of_none hno
  have hbl := block_lt h.cells
  have hz := hb.size
  have hgb : g ≠ r := by
    rcases hat with e | e
    · intro he; exact h.ne (by rw [e, he])
    · omega
  have hc1 : w1.heap[r]? = some (.cells #[rv, .bool cl] 77 (0, 0)) := by
    rw [hgrow.block r (by omega) (fun e => h.ne e.symm), hb.block r hbl]; exact h.cells
  have hM : Mut w (w1.setCell ⟨r, 0, none⟩ (.slice (some ⟨g, 0, none⟩) (ms.length + 1) cap)) r rv.ownBlock := by
    refine ⟨hgrow.os.trans hb.os, hgrow.tape.trans hb.tape, hgrow.output.trans hb.output, ?_, fun k hk k1 k2 => ?_⟩
    · simp only [World.size_setCell]; exact Nat.le_trans hz hgrow.size
    · rw [Below.heap_setCell _ _ _ _ (by simpa using k1), hgrow.block k (by omega) k2, hb.block k hk]
  have hK := h.mut_keep hM [105, 109] (by simp) (by simp)
  have hlist : addL ms m = ms ++ [m] := by simp only [addL, if_neg h1, if_neg (show ¬ 24 ≤ ms.length by omega)]
  refine ⟨by simp [addR, addH, addE, h1, show ¬ 24 ≤ ms.length by omega], .slice (some ⟨g, 0, none⟩) (ms.length + 1) cap, ?_, hM, ?_⟩
  · show RGr _ B r _ (addL ms m) cl
    rw [hlist]
    refine ⟨heap_setCell_at hc1 _, ⟨ps ++ [nb], by simp [hps], ?_, ?_⟩, by simp; omega, ?_⟩
    · refine ownsRow_block (w := w1) ?_ fun k hk => ?_
      · simpa using hown
      · have : k = g := by simpa [Value.ownBlock] using hk.symm
        subst this
        exact Below.heap_setCell _ _ _ _ (by simpa using hgb)
    · intro i m' p hm hp
      rcases Nat.lt_trichotomy i ms.length with hi | hi | hi
      · rw [List.getElem?_append_left hi] at hm
        rw [List.getElem?_append_left (by omega)] at hp
        exact (hnodes i m' p hm hp).keep hK
      · subst hi
        simp at hm
        rw [← hps] at hp
        simp at hp
        subst hm; subst hp
        exact hn.keep hK
      · rw [List.getElem?_eq_none (by simp; omega)] at hm; cases hm
    · intro x hx
      simp at hx
      rcases hx with hx | rfl
      · exact h.ok x hx
      · exact om
  · rcases hat with e | e
    · exact .inl e.symm
    · exact .inr ⟨g, rfl, by omega⟩

theorem Try.infoPtr : (Try.prog.info? 100).map (fun i => (i.zero, i.size, i.bytes)) = some (some (.pointer none), 1, 8) := by kernel_rfl

theorem below_draws (w : World) (n : Nat) : Below w.heap.size w (w.drewN n) := ⟨rfl, rfl, rfl, Nat.le_refl _, fun _ _ => rfl⟩

set_option maxRecDepth 100000 in
set_option maxHeartbeats 4000000 in
theorem radd_any (w : World) (B r : Nat) (rv : Value) (ms : List Mk) (cl : Bool) (h : RGr w B r rv ms cl) (hB : B ≤ w.heap.size) (nb : Nat) (m : Mk) (hn : NodeAt w nb m) (om : Okm m) :
    Calls Try.prog 52 #[.pointer (some ⟨r, 0, none⟩), .pointer (some ⟨nb, 0, none⟩)] w (RPost w B r rv cl (addR ms m)) := by
  obtain ⟨i0, hi0, hz0, hz1, hz2⟩ := info_parts Try.infoPtr
  obtain ⟨a, c, rfl⟩ := h.slice
  obtain ⟨ps, hps, hown, hnodes⟩ := h.row
  have h0 : w.cell? ⟨r, 0, none⟩ = some (.slice a ms.length c) := by rw [cell_of_row w r 0 _ _ _ h.cells]; rfl
  have f0 : w.frozen? ⟨r, 0, none⟩ = false := by simp [World.frozen?, h.cells]
  have hf := h.few
  have hbl := block_lt h.cells
  have HG := hide h
  have HN := hide hn
  have HO := hide hown
  have HNN := hide hnodes
  have HPS := hide hps
  clear h hn hown hnodes hps
  go_enter Try.func52, Try.ntmps52
  go_wp2
  go_loopw [6] (fun i wr => ∃ k : Nat, k ≤ ms.length ∧ i = .int .i64 k ∧ Hid (∀ j, j < k → ms[j]? ≠ some m) ∧ ∃ n, wr = w.drewN n) (fun i _ => ms.length - (intOf i).toNat)
  case atStart => exact ⟨0, Nat.zero_le _, rfl, fun j hj => absurd hj (Nat.not_lt_zero j), 0, rfl⟩
  case round =>
    obtain ⟨k, hk, rfl, hno, n, rfl⟩ := hrel
    by_cases hlt : k < ms.length
    · have hm : ms[k]? = some ms[k] := List.getElem?_eq_getElem hlt
      have hp : ps[k]? = some (ps[k]'(by rw [HPS.out]; exact hlt)) := List.getElem?_eq_getElem _
      generalize ms[k] = y at hm
      generalize ps[k]'(by rw [HPS.out]; exact hlt) = p at hp
      have hy := HNN.out k y p hm hp
      have oy := HG.out.ok y (List.mem_iff_getElem?.2 ⟨k, hm⟩)
      obtain ⟨g, cap, hv, _, hg⟩ := HO.out.form (by omega)
      simp only [Value.slice.injEq, true_and] at hv
      obtain ⟨rfl, rfl⟩ := hv
      have c0 : w.cell? ⟨g, k, none⟩ = some (.pointer (some ⟨p, 0, none⟩)) := owns_at HO.out rfl _ _ (by rw [List.getElem?_map, hp]; rfl)
      have HS := hide (fun n => same_any (w.drewN n) p nb y m (hy.keep (KeepT.of_below (below_draws w n))) (HN.out.keep (KeepT.of_below (below_draws w n))) oy om)
      have HM := hide hm
      clear hm hp hy oy
      by_cases he : y = m
      · subst he
        go_wp2_with (go_at_call 58; refine (HS.out _).mono ?_; rintro e w' ⟨rfl, k', rfl⟩)
        go_ret2
        obtain ⟨x1, x2⟩ := idxOf_first HM.out hno.out
        refine RPost.same HG.out (below_draws w _) _ _ _ ?_
        simp [addR, addH, addE, addL, x1, x2]
      · have he' : decide (y = m) = false := by simpa using he
        have HE := hide he
        clear he
        go_wp2_with (go_at_call 58; refine (HS.out _).mono ?_; rintro e w' ⟨rfl, k', rfl⟩)
        go_roundw
        case rel =>
          refine ⟨k + 1, by omega, by go_num, fun j hj => ?_, n + k', by simp⟩
          rcases Nat.lt_succ_iff_lt_or_eq.1 hj with h1 | h1
          · exact hno.out j h1
          · subst h1; rw [HM.out]; intro e; exact HE.out (Option.some.inj e)
        case measure => simp [intOf]; omega
    · obtain rfl : k = ms.length := by omega
      by_cases hfull : 24 ≤ ms.length
      · go_wp2
        go_ret2
        refine RPost.same HG.out (below_draws w _) _ _ _ ?_
        simp [addR, addH, addE, addL, not_mem_of_none hno.out, hfull]
      · have hne := HG.out.ne
        go_wp2_with (at_builtin; refine wpList_append_lies _ rfl _ _ 75 rfl B 100 i0 _ 1 8 Try.underlying75 hi0 hz0 hz1 hz2 rfl (by omega) (.slice a ms.length c) ms.length (ps.map ptr) rfl ((show (w.drewN n).ownsRow B 100 1 (.slice a ms.length c) ms.length (ps.map ptr) from HO.out).alloc _) ⟨w.heap.size, 0, none⟩ 1 1 [.pointer (some ⟨nb, 0, none⟩)] rfl rfl ?c1 ?c2 (by omega) ?c3 ?c4 ?c5 (w.heap.size + 1) ?c6 ?_)
        case c1 => exact World.news_of_block (cs := #[.pointer (some ⟨nb, 0, none⟩)]) (t := 100) (fr := (0, 0)) (new_at _ _ _ rfl)
        case c2 => simp [Value.oneCell']
        case c3 => unfold maxLen; omega
        case c4 => omega
        case c5 => simp; omega
        case c6 => simp
        intro g cap w1 hown1 hgrow hat _
        have hce : w1.cell? ⟨r, 0, none⟩ = some (.slice a ms.length c) := by
          rw [hgrow.cell_far ⟨r, 0, none⟩ (by simp; omega) (Ne.symm hne), ← h0]
          exact World.cell?_of_block (Below.heap_alloc _ _ _ hbl)
        have hfz : w1.frozen? ⟨r, 0, none⟩ = false := by
          rw [hgrow.frozen_far ⟨r, 0, none⟩ (by simp; omega) (Ne.symm hne), ← f0]
          exact World.frozen?_of_block (Below.heap_alloc _ _ _ hbl)
        have HP := hide (radd_some HG.out m om nb HN.out hno.out (by omega) ((below_draws w n).alloc (Nat.le_refl _) _) ps HPS.out HNN.out hown1 hgrow (hat.elim .inl fun e => .inr (by rw [e]; simp)))
        clear hown1 hgrow hne
        go_wp2
        go_ret2
        exact HP.out
end Go.Proofs.Ythacahellkmleaa
