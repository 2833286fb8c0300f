/- Proved: whatever script the statement Builds of the seed brook is called with, it returns true, and the script reads afterwards as before; no condition. -/
import Derived.Test.YthacahellkmleaaLawR
import Derived.ProofKit
import Derived.OpenShut
import Derived.ShutString
import Derived.ChangeOld
import Derived.Deep.Slices
import Derived.Deep.Fields
namespace Go.Proofs.Ythacahellkmleaa
open Go.ChangeShapes Go.WideShapes Go.ChangeAt Go.RowKit Go.Deep
set_option linter.unusedVariables false

theorem builds_own : ownKnob Try.prog.godebug = none := by kernel_rfl
theorem builds_laidOut : laidOutB Try.prog = true := by kernel_rfl
theorem builds_cells : Try.prog.cellsOf 57 = 10 := by kernel_rfl

/-- One field of a step, read as a number. -/
theorem field_int {H : Type} {enc : TypeId × Value → H} {w : World} {spare : Nat → Bool} {held : Bool} {n : Nat} {t : TypeId} {v : Value} {y : DataW H × List MemPlace} (ht : Try.prog.underlying t = some (.int .i64)) (h : DataW.trod enc Try.prog w 0 spare held n t [v] = some y) :
    ∃ x : Int, v = .int .i64 x ∧ -9223372036854775808 ≤ x ∧ x ≤ 9223372036854775807 := by
  obtain ⟨x, e, _, hw⟩ := DataW.trod_int ht h
  simp at e
  exact ⟨x, e, bounds_i64 hw⟩
theorem field_slice {H : Type} {enc : TypeId × Value → H} {w : World} {spare : Nat → Bool} {held : Bool} {n : Nat} {t e : TypeId} {v : Value} {y : DataW H × List MemPlace} (ht : Try.prog.underlying t = some (.slice e)) (h : DataW.trod enc Try.prog w 0 spare held n t [v] = some y) :
    ∃ (a : Option Addr) (l c : Nat), v = .slice a l c := by
  rcases open_slice ht h with ⟨e, _⟩ | ⟨a, len, cap, m, n, D, Pl, e, _⟩
  · simp at e; exact ⟨_, _, _, e⟩
  · simp at e; exact ⟨_, _, _, e⟩

/-- The fields of a struct of ten one-cell fields, each by its own. -/
theorem op_fields {H : Type} {enc : TypeId × Value → H} {w : World} {spare : Nat → Bool} {held : Bool} {n b o : Nat} {cs : List Value} {y : DataW H × List MemPlace} {fs : Array Field} (hs : Try.prog.underlying 57 = some (.struct fs))
    (hone : ∀ (i : Nat) (f : Field), fs[i]? = some f → f.offset = i ∧ Try.prog.cellsOf f.type = 1) (hsz : fs.size = 10)
    (hc : w.cells? 0 ⟨b, o, none⟩ 10 = some cs) (h : DataW.trod enc Try.prog w 0 spare held n 57 cs = some y) :
    ∃ m, ∀ (i : Nat) (f : Field), fs[i]? = some f → w.cell? ⟨b, o + i, none⟩ = some (cs.getD i undef) ∧ ∃ z, DataW.trod enc Try.prog w 0 spare held m f.type [cs.getD i undef] = some z := by
  obtain ⟨_, hlen, hcell⟩ := World.cells?_some hc
  obtain ⟨xs, m, _, _, _, hxl, hf⟩ := DataW.trod_struct hs h
  refine ⟨m, fun i f hi => ?_⟩
  have hlt : i < fs.size := (Array.getElem?_eq_some_iff.1 hi).1
  obtain ⟨ho, hc1⟩ := hone i f hi
  have g := hf i f hi
  rw [ho, hc1] at g
  rw [take1_drop cs i undef (by omega), List.getElem?_eq_getElem (by omega)] at g
  refine ⟨?_, _, g⟩
  have := hcell i (by omega)
  rw [Addr.add_mid, List.getElem?_eq_getElem (by omega)] at this
  rw [this]
  simp [List.getD, List.getElem?_eq_getElem (show i < cs.length by omega)]

/-- A step of a script that came in. -/
theorem op_at {H : Type} {enc : TypeId × Value → H} {w : World} {spare : Nat → Bool} {held : Bool} {n b o i : Nat} {cs : List Value} {y : DataW H × List MemPlace}
    (hc : w.cells? 0 ((⟨b, o, none⟩ : Addr).add (i * 10)) 10 = some cs) (h : DataW.trod enc Try.prog w 0 spare held n 57 cs = some y) : OpAt w b (o + i * 10) := by
  rw [Addr.add_mid] at hc
  obtain ⟨m, key⟩ := op_fields Try.underlying57 (hone_of (by kernel_rfl)) rfl hc h
  obtain ⟨e0, y0, g0⟩ := key 0 _ rfl
  obtain ⟨e1, y1, g1⟩ := key 1 _ rfl
  obtain ⟨e2, y2, g2⟩ := key 2 _ rfl
  obtain ⟨e3, y3, g3⟩ := key 3 _ rfl
  obtain ⟨e4, y4, g4⟩ := key 4 _ rfl
  obtain ⟨e5, y5, g5⟩ := key 5 _ rfl
  obtain ⟨e6, y6, g6⟩ := key 6 _ rfl
  obtain ⟨e7, y7, g7⟩ := key 7 _ rfl
  obtain ⟨e8, y8, g8⟩ := key 8 _ rfl
  obtain ⟨e9, y9, g9⟩ := key 9 _ rfl
  clear key hc h
  generalize cs.getD 0 undef = v0 at *
  generalize cs.getD 1 undef = v1 at *
  generalize cs.getD 2 undef = v2 at *
  generalize cs.getD 3 undef = v3 at *
  generalize cs.getD 4 undef = v4 at *
  generalize cs.getD 5 undef = v5 at *
  generalize cs.getD 6 undef = v6 at *
  generalize cs.getD 7 undef = v7 at *
  generalize cs.getD 8 undef = v8 at *
  generalize cs.getD 9 undef = v9 at *
  obtain ⟨x0, rfl, _⟩ := field_int Try.underlying3 g0
  obtain ⟨x1, rfl, _⟩ := field_int Try.underlying3 g1
  obtain ⟨x2, rfl, _⟩ := field_int Try.underlying3 g2
  obtain ⟨x3, rfl, _⟩ := field_int Try.underlying3 g3
  obtain ⟨x4, rfl, _⟩ := field_int Try.underlying3 g4
  obtain ⟨x5, rfl, _⟩ := field_int Try.underlying3 g5
  obtain ⟨x6, rfl, p1, p2⟩ := field_int Try.underlying2 g6
  obtain ⟨x7, rfl, q1, q2⟩ := field_int Try.underlying2 g7
  obtain ⟨fa, fn, fc, rfl⟩ := field_slice Try.underlying22 g8
  obtain ⟨ga, gn, gc, rfl⟩ := field_slice Try.underlying22 g9
  exact ⟨x0, x1, x2, x3, x4, x5, x6, x7, fa, ga, fn, fc, gn, gc, e0, e1, e2, e3, e4, e5, e6, e7, e8, e9, p1, p2, q1, q2⟩

set_option maxHeartbeats 400000 in
theorem builds_walk (w : World) (sa : Option Addr) (len cap : Nat) (hlen : len ≤ maxLen) (hs : 0 < len → ∃ sb so, sa = some ⟨sb, so, none⟩ ∧ sb < w.heap.size ∧ ∀ k, k < len → OpAt w sb (so + k * 10)) :
    Calls Try.prog 3 #[.slice sa len cap] w fun e w' => e = .returned (.bool true) ∧ Below w.heap.size w w' := by
  have H := hide (played_any w sa len cap hlen hs)
  clear hs hlen
  go_enter Try.func3, Try.ntmps3
  go_wp2_with fail
  refine H.out.mono ?_
  rintro e w' ⟨rfl, hb⟩
  have HB := hide hb
  clear hb
  go_wp2
  go_ret
  exact ⟨rfl, HB.out⟩

set_option maxRecDepth 100000 in
theorem builds_lifted (os : Os) (started : os.Started) (H : Type) (enc : TypeId × Value → H) :
    ReturnsInHanded {} Try.checked os 3 .any (Rows.buildsSpec.pre6 enc Try.prog Try.f3 Rows.buildsRow.domain false) (Rows.buildsSpec.post enc Try.prog Try.f3 false true false false) := by
  refine returnsInHanded_of_change (C := Try.checked) builds_own started (by kernel_rfl) Try.func3
    (ChangeSpec.witness6 (enc := enc) (C := Try.checked) false ⟨#[], #[.slice none 0 0], []⟩ 8 (by kernel_rfl) (by kernel_rfl) (by kernel_rfl) (by kernel_rfl)) ?_
  intro W base args ds gs before hval0 hW hcnd _
  have hval : ∀ (j : Nat) t v, Try.f3.params[j]? = some t → args[j]? = some v → Value.okWide Try.prog W .any base t v := hval0
  have hW' := hW
  obtain ⟨p, q, hA0, hV, rfl, hfz, hnd⟩ := hW
  have hA : DataW.TrodAll enc Try.prog W 0 (fun _ => true) true Try.f3.params.toList args.toList ds p := hA0
  rw [Try.params3] at hA hval
  obtain ⟨v0, vs0, d0, ds0, p0, q0, hargs, rfl, rfl, h0, r0⟩ := trodAll_cons hA
  obtain ⟨rfl, rfl, rfl⟩ := trodAll_nil r0
  obtain rfl : args = #[v0] := by cases args; simp_all
  obtain ⟨rfl, rfl⟩ := trodVars_none hV
  obtain ⟨a0, len0, cap0, rfl⟩ := okWide_slice Try.underlying22 (hval 0 22 v0 rfl rfl)
  have k0 := h0
  have lt0 : ∀ x ∈ p0, x.block < W.heap.size := by obtain ⟨m, hm⟩ := k0; exact DataW.trod_lt m _ _ _ hm
  have w0 : len0 ≤ maxLen ∧ (0 < len0 → ∃ sb so, a0 = some ⟨sb, so, none⟩ ∧ sb < W.heap.size ∧ ∀ k, k < len0 → OpAt W sb (so + k * 10)) := by
    obtain ⟨fuel, hf⟩ := h0
    rcases open_slice Try.underlying22 hf with ⟨hcs, _⟩ | ⟨x, l, c, m, n, D, Pl, hcs, _, hl, hm, hmm, _, hx⟩
    · simp [Value.cells] at hcs
      obtain ⟨rfl, rfl, rfl⟩ := hcs
      exact ⟨Nat.zero_le _, fun h => absurd h (Nat.lt_irrefl _)⟩
    · simp [Value.cells] at hcs
      obtain ⟨rfl, rfl, rfl⟩ := hcs
      simp at hmm
      rw [builds_cells] at hx
      refine ⟨Nat.le_trans hl hm, fun hpos => ?_⟩
      obtain ⟨b, o, spot⟩ := x
      obtain ⟨cs', h1, _⟩ := hx 0 (by omega)
      obtain ⟨_, hlen, hcell⟩ := World.cells?_some h1
      have hc0 := hcell 0 (by omega)
      rw [List.getElem?_eq_getElem (by omega)] at hc0
      have hspot : spot = none := by
        have := World.cell?_spot hc0
        simpa [Addr.add] using this
      subst hspot
      refine ⟨b, o, rfl, ?_, fun k hk => ?_⟩
      · have := World.block_lt_of_cell? W _ hc0
        simpa [Addr.add] using this
      · obtain ⟨cs, h1, h2⟩ := hx k (by omega)
        exact op_at h1 h2
  clear hA0 hval0
  refine (builds_walk W a0 len0 cap0 w0.1 w0.2).mono fun e W' ⟨he, bel⟩ => ?_
  subst he
  exact ⟨_, rfl, _, _, _, [], _, [], hW', trodAll_mk1 (shut_bool Try.underlying4 _), (trodAll_cons_mk (Below.trod builds_laidOut (by kernel_rfl) (of_decide_eq_true (by kernel_rfl)) k0 bel lt0) trodAll_mk0), rfl, bel.frame _, fun h => by cases h⟩

theorem builds_over : Rows.buildsRow.holds Try.pinned (OpenSpec.ofChange Rows.buildsSpec) :=
  OpenClaim.holds_of_wide 3 Try.f3 rfl rfl rfl rfl rfl rfl rfl ⟨rfl, rfl, rfl, rfl, rfl⟩ rfl rfl rfl rfl rfl (by kernel_rfl) Try.func3 (by kernel_rfl)
    (of_decide_eq_true (by kernel_rfl)) (by unfold Func.isWrapper; first | (rw [if_pos (by decide +kernel)]; kernel_rfl) | (rw [if_neg (by decide +kernel)]; exact ⟨rfl, rfl⟩))
    (fun os started H enc _ => builds_lifted os started H enc)

theorem builds_proved : Rows.BuildsSaid := builds_over
#print axioms builds_proved
end Go.Proofs.Ythacahellkmleaa
