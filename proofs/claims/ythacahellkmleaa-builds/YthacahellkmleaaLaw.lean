/- Two pairs of graphs, the program's and the document's, in memory: what a call on both graphs of one pair leaves; and the contract of one step of a script. -/
import Derived.Test.YthacahellkmleaaRNode
namespace Go.Proofs.Ythacahellkmleaa
open Go.RowKit

/-- A pair: the program's graph and the document's, of the same nodes, closed or not alike. -/
structure Tw where
  b : Nat
  v : Value
  r : Nat
  rv : Value
  ms : List Mk
  cl : Bool
structure TwOk (w : World) (B : Nat) (t : Tw) : Prop where
  g : Gr w B t.b t.v t.ms t.cl
  rg : RGr w B t.r t.rv t.ms t.cl
  lb : B ≤ t.b
  lr : B ≤ t.r
/-- Two pairs apart. -/
structure Two (w : World) (B : Nat) (t u : Tw) : Prop where
  ok : TwOk w B t
  ok' : TwOk w B u
  nb : t.b ≠ u.b
  nr : t.r ≠ u.r
  nv : ∀ x, t.v.ownBlock = some x → u.v.ownBlock ≠ some x
  nrv : ∀ x, t.rv.ownBlock = some x → u.rv.ownBlock ≠ some x
theorem Two.symm {w : World} {B : Nat} {t u : Tw} (h : Two w B t u) : Two w B u t :=
  ⟨h.ok', h.ok, h.nb.symm, h.nr.symm, fun x hx hy => h.nv x hy hx, fun x hx hy => h.nrv x hy hx⟩
theorem TwOk.below {w w' : World} {B : Nat} {t : Tw} (h : TwOk w B t) (hb : Below w.heap.size w w') : TwOk w' B t := ⟨h.g.below hb, h.rg.below hb, h.lb, h.lr⟩
theorem Two.below {w w' : World} {B : Nat} {t u : Tw} (h : Two w B t u) (hb : Below w.heap.size w w') : Two w' B t u := ⟨h.ok.below hb, h.ok'.below hb, h.nb, h.nr, h.nv, h.nrv⟩

/-- The program's graph of another pair. -/
theorem Gr.other {w w' : World} {B b b' : Nat} {v v' : Value} {ms ms' : List Mk} {cl cl' : Bool} (h : Gr w B b v ms cl) (h' : Gr w B b' v' ms' cl') (hM : Mut w w' b v.ownBlock) (hb : b ≠ b') (hv : ∀ x, v.ownBlock = some x → v'.ownBlock ≠ some x) : Gr w' B b' v' ms' cl' := by
  refine h'.keep (hM.block b' (block_lt h'.cells) hb.symm (fun e => ?_)) fun k hk => hM.block k (h'.row.lt k hk).2 (fun e => ?_) (fun e => hv k e.symm hk)
  · obtain ⟨co, hc⟩ := owns_type h.row b' e.symm; rw [h'.cells] at hc; cases hc
  · subst e; obtain ⟨co, hc⟩ := owns_type h'.row k hk; rw [h.cells] at hc; cases hc
theorem RGr.other {w w' : World} {B b b' : Nat} {v v' : Value} {ms ms' : List Mk} {cl cl' : Bool} (h : RGr w B b v ms cl) (h' : RGr w B b' v' ms' cl') (hM : Mut w w' b v.ownBlock) (hb : b ≠ b') (hv : ∀ x, v.ownBlock = some x → v'.ownBlock ≠ some x) : RGr w' B b' v' ms' cl' := by
  obtain ⟨ps, _, h3, _⟩ := h.row
  obtain ⟨ps', _, h3', _⟩ := h'.row
  refine h'.keep (hM.block b' (block_lt h'.cells) hb.symm (fun e => ?_)) (fun k hk => hM.block k (h3'.lt k hk).2 (fun e => ?_) (fun e => hv k e.symm hk)) (h.mut_keep hM _ (by simp) (by simp))
  · obtain ⟨co, hc⟩ := owns_type h3 b' e.symm; rw [h'.cells] at hc; cases hc
  · subst e; obtain ⟨co, hc⟩ := owns_type h3' k hk; rw [h.cells] at hc; cases hc
theorem RGr.mut_below {w w2 : World} {B b : Nat} {v : Value} {ms : List Mk} {cl : Bool} (hG : RGr w B b v ms cl) (hM : Mut w w2 b v.ownBlock) (hb : B ≤ b) (hB : B ≤ w.heap.size) : Below B w w2 := by
  obtain ⟨ps, _, h3, _⟩ := hG.row
  exact ⟨hM.os, hM.tape, hM.output, hM.size, fun k hk => hM.block k (by omega) (by omega) (fun e => by have := (h3.lt k e.symm).1; omega)⟩

/-- What is left behind a call on a pair, the book and the other pair as they were. -/
def PairPost (w : World) (B : Nat) (t u : Tw) (ms : List Mk) (cl : Bool) (w' : World) : Prop :=
  ∃ t' : Tw, t'.b = t.b ∧ t'.r = t.r ∧ t'.ms = ms ∧ t'.cl = cl ∧ Two w' B t' u ∧ Below B w w' ∧ KeepT [53] w w'

theorem KeepT.trans {T : List TypeId} {a b c : World} (h : KeepT T a b) (k : KeepT T b c) : KeepT T a c := fun i cs t ht hi => by
  have h1 := h i cs t ht hi
  rw [k i cs t ht (by rw [h1]; exact hi), h1]

theorem Two.mid {w w0 w1 : World} {B : Nat} {t u : Tw} {x : Int × Int × List Mk} {e : Ending} (h : Two w B t u) (hb : Below w.heap.size w w0) (P : GPost w0 B t.b t.v t.cl x e w1) : RGr w1 B t.r t.rv t.ms t.cl := by
  obtain ⟨_, v', g', hM, _⟩ := P
  exact (h.ok.rg.below hb).keepT ((h.ok.g.below hb).mut_keep hM _ (by simp) (by simp))

theorem Two.step {w w0 w1 w2 : World} {B : Nat} {t u : Tw} {x : Int × Int × List Mk} {e1 e2 : Ending} (h : Two w B t u) (hB : B ≤ w.heap.size) (hb : Below w.heap.size w w0) (P : GPost w0 B t.b t.v t.cl x e1 w1) (R : RPost w1 B t.r t.rv t.cl x e2 w2) :
    PairPost w B t u x.2.2 t.cl w2 := by
  have hmid := h.mid hb P
  obtain ⟨_, v', g', hM, hO⟩ := P
  obtain ⟨_, rv', r', hR, hQ⟩ := R
  have h0 := h.below hb
  have hz := hb.size
  have hz1 := hM.size
  have ou : Gr w1 B u.b u.v u.ms u.cl := h0.ok.g.other h0.ok'.g hM h.nb h.nv
  have ru : RGr w1 B u.r u.rv u.ms u.cl := h0.ok'.rg.keepT (h0.ok.g.mut_keep hM _ (by simp) (by simp))
  have g2 : Gr w2 B t.b v' x.2.2 t.cl := g'.keepT (hmid.mut_keep hR _ (by simp) (by simp))
  have ou2 : Gr w2 B u.b u.v u.ms u.cl := ou.keepT (hmid.mut_keep hR _ (by simp) (by simp))
  have ru2 : RGr w2 B u.r u.rv u.ms u.cl := hmid.other ru hR h.nr h.nrv
  refine ⟨⟨t.b, v', t.r, rv', x.2.2, t.cl⟩, rfl, rfl, rfl, rfl, ⟨⟨g2, r', h.ok.lb, h.ok.lr⟩, ⟨ou2, ru2, h.ok'.lb, h.ok'.lr⟩, h.nb, h.nr, ?_, ?_⟩, ?_, ?_⟩
  · intro y hy
    rcases hO with e | ⟨k, hk, hle⟩
    · simp only at hy; rw [e] at hy; exact h.nv y hy
    · simp only at hy; rw [hk] at hy; cases hy
      intro e; have := (h0.ok'.g.row.lt y e).2; omega
  · intro y hy
    obtain ⟨ps, _, h3, _⟩ := ru.row
    rcases hQ with e | ⟨k, hk, hle⟩
    · simp only at hy; rw [e] at hy; exact h.nrv y hy
    · simp only at hy; rw [hk] at hy; cases hy
      intro e; have := (h3.lt y e).2; omega
  · exact ((hb.mono hB).trans (hM.below h0.ok.g h.ok.lb (by omega))).trans (hmid.mut_below hR h.ok.lr (by omega))
  · exact ((KeepT.of_below hb).trans (h0.ok.g.mut_keep hM _ (by simp) (by simp))).trans (hmid.mut_keep hR _ (by simp) (by simp))

/-- Nothing but new memory. -/
theorem Two.still {w w' : World} {B : Nat} {t u : Tw} (h : Two w B t u) (hB : B ≤ w.heap.size) (hb : Below w.heap.size w w') : PairPost w B t u t.ms t.cl w' :=
  ⟨t, rfl, rfl, rfl, rfl, h.below hb, hb.mono hB, KeepT.of_below hb⟩

/-- Both graphs of a pair closed. -/
theorem Two.shut {w w0 : World} {B : Nat} {t u : Tw} (h : Two w B t u) (hB : B ≤ w.heap.size) (hb : Below w.heap.size w w0) :
    PairPost w B t u t.ms true ((w0.setCell ⟨t.b, 1, none⟩ (.bool true)).setCell ⟨t.r, 1, none⟩ (.bool true)) := by
  have h0 := h.below hb
  have hz := hb.size
  have hM : Mut w0 (w0.setCell ⟨t.b, 1, none⟩ (.bool true)) t.b t.v.ownBlock := (Mut.refl w0 t.b t.v.ownBlock).set 1 _
  have cg : (w0.setCell ⟨t.b, 1, none⟩ (.bool true)).heap[t.b]? = some (.cells #[t.v, .bool true] 62 (0, 0)) := heap_setCell_at h0.ok.g.cells _
  have g1 : Gr (w0.setCell ⟨t.b, 1, none⟩ (.bool true)) B t.b t.v t.ms true :=
    ⟨cg, ownsRow_block h0.ok.g.row fun k hk => Below.heap_setCell _ _ _ _ (fun e => by simp at e; subst e; exact h0.ok.g.ne hk), h0.ok.g.ne, h0.ok.g.few⟩
  have r1 : RGr (w0.setCell ⟨t.b, 1, none⟩ (.bool true)) B t.r t.rv t.ms t.cl := h0.ok.rg.keepT (h0.ok.g.mut_keep hM _ (by simp) (by simp))
  have ou : Gr (w0.setCell ⟨t.b, 1, none⟩ (.bool true)) B u.b u.v u.ms u.cl := h0.ok.g.other h0.ok'.g hM h.nb h.nv
  have ru : RGr (w0.setCell ⟨t.b, 1, none⟩ (.bool true)) B u.r u.rv u.ms u.cl := h0.ok'.rg.keepT (h0.ok.g.mut_keep hM _ (by simp) (by simp))
  generalize w0.setCell ⟨t.b, 1, none⟩ (.bool true) = w1 at *
  have hz1 := hM.size
  have hR : Mut w1 (w1.setCell ⟨t.r, 1, none⟩ (.bool true)) t.r t.rv.ownBlock := (Mut.refl w1 t.r t.rv.ownBlock).set 1 _
  have g2 : Gr (w1.setCell ⟨t.r, 1, none⟩ (.bool true)) B t.b t.v t.ms true := g1.keepT (r1.mut_keep hR _ (by simp) (by simp))
  have ou2 : Gr (w1.setCell ⟨t.r, 1, none⟩ (.bool true)) B u.b u.v u.ms u.cl := ou.keepT (r1.mut_keep hR _ (by simp) (by simp))
  have ru2 : RGr (w1.setCell ⟨t.r, 1, none⟩ (.bool true)) B u.r u.rv u.ms u.cl := r1.other ru hR h.nr h.nrv
  have hK := r1.mut_keep hR [105, 109] (by simp) (by simp)
  have r2 : RGr (w1.setCell ⟨t.r, 1, none⟩ (.bool true)) B t.r t.rv t.ms true := by
    obtain ⟨ps, h2, h3, h4⟩ := r1.row
    exact ⟨heap_setCell_at r1.cells _, ⟨ps, h2, ownsRow_block h3 fun k hk => Below.heap_setCell _ _ _ _ (fun e => by simp at e; subst e; exact r1.ne hk), fun i m p hm hp => (h4 i m p hm hp).keep hK⟩, r1.few, r1.ok⟩
  refine ⟨⟨t.b, t.v, t.r, t.rv, t.ms, true⟩, rfl, rfl, rfl, rfl, ⟨⟨g2, r2, h.ok.lb, h.ok.lr⟩, ⟨ou2, ru2, h.ok'.lb, h.ok'.lr⟩, h.nb, h.nr, h.nv, h.nrv⟩, ?_, ?_⟩
  · exact ((hb.mono hB).trans (hM.below h0.ok.g h.ok.lb (by omega))).trans (r1.mut_below hR h.ok.lr (by omega))
  · exact ((KeepT.of_below hb).trans (h0.ok.g.mut_keep hM _ (by simp) (by simp))).trans (r1.mut_keep hR _ (by simp) (by simp))

set_option maxHeartbeats 400000 in
theorem num_any (w : World) (e : Int) : Calls Try.prog 38 #[.int .i64 e] w fun x w' => x = .returned (.int .i64 e) ∧ w = w' := by
  go_enter Try.func38, Try.ntmps38
  go_wp2
  go_ret
  exact ⟨rfl, rfl⟩
end Go.Proofs.Ythacahellkmleaa
