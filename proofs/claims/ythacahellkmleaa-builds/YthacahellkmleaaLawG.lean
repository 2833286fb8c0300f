/- The contracts of begun and known: two new pairs of graphs, then the document's examples on the first. -/
import Derived.Test.YthacahellkmleaaLawB
namespace Go.Proofs.Ythacahellkmleaa
open Go.RowKit

abbrev newG : Obj := .cells #[.slice none 0 0, .bool false] 62
abbrev newR : Obj := .cells #[.slice none 0 0, .bool false] 77
/-- A new pair. -/
def Fresh (w : World) (B : Nat) (x y : Value) : Prop := ∃ b r, x = ptr b ∧ y = ptr r ∧ w.heap[b]? = some newG ∧ w.heap[r]? = some newR ∧ B ≤ b ∧ B ≤ r
/-- The block of the pairs, k of them made. -/
structure Beg (w0 : World) (B wb : Nat) (k : Nat) (w : World) (x0 y0 x1 y1 : Value) : Prop where
  blk : w.heap[wb]? = some (.cells #[.slice none 0 0, .slice none 0 0, .slice none 0 0, x0, y0, x1, y1] 53 (0, 0))
  old : Below B w0 w
  low : B ≤ wb
  one : 1 ≤ k → Fresh w B x0 y0
  two : 2 ≤ k → Fresh w B x1 y1 ∧ x0 ≠ x1 ∧ y0 ≠ y1

theorem ptr_inj {a b : Nat} (h : ptr a = ptr b) : a = b := by
  simp only [ptr, Value.pointer.injEq, Option.some.injEq, Addr.mk.injEq, and_true] at h; exact h

theorem Fresh.set {w : World} {B wb i : Nat} {x y u : Value} {cs : Array Value} (h : Fresh w B x y) (hb : w.heap[wb]? = some (.cells cs 53 (0, 0))) : Fresh (w.setCell ⟨wb, i, none⟩ u) B x y := by
  obtain ⟨b, r, rfl, rfl, h1, h2, h3, h4⟩ := h
  refine ⟨b, r, rfl, rfl, ?_, ?_, h3, h4⟩
  · rw [Below.heap_setCell _ _ _ _ (fun e => by simp at e; subst e; rw [hb] at h1; cases h1)]; exact h1
  · rw [Below.heap_setCell _ _ _ _ (fun e => by simp at e; subst e; rw [hb] at h2; cases h2)]; exact h2
theorem Fresh.below {w w' : World} {B : Nat} {x y : Value} (h : Fresh w B x y) (hb : Below w.heap.size w w') : Fresh w' B x y := by
  obtain ⟨b, r, rfl, rfl, h1, h2, h3, h4⟩ := h
  exact ⟨b, r, rfl, rfl, by rw [hb.block _ (block_lt h1)]; exact h1, by rw [hb.block _ (block_lt h2)]; exact h2, h3, h4⟩

theorem two_new (X : World) (n : Nat) (hn : X.heap.size = n) (o1 o2 : Obj) : ((X.alloc o1).alloc o2).drew.heap[n]? = some o1 ∧ ((X.alloc o1).alloc o2).drew.heap[n + 1]? = some o2 ∧ Below X.heap.size X ((X.alloc o1).alloc o2).drew := by
  subst hn
  refine ⟨?_, new_at _ _ _ (by simp), (((Below.refl _ _).alloc (Nat.le_refl _) _).alloc (by simp) _).drew⟩
  show ((X.alloc o1).alloc o2).heap[X.heap.size]? = _
  rw [Below.heap_alloc _ _ _ (by simp)]; exact heap_alloc_new X _

theorem Beg.step0 {w0 w w2 : World} {B wb b r : Nat} {x0 y0 x1 y1 : Value} (h : Beg w0 B wb 0 w x0 y0 x1 y1) (hB : B ≤ w.heap.size) (hb : Below ((w.setCell ⟨wb, 3, none⟩ (ptr b)).setCell ⟨wb, 4, none⟩ (ptr r)).heap.size ((w.setCell ⟨wb, 3, none⟩ (ptr b)).setCell ⟨wb, 4, none⟩ (ptr r)) w2) (h1 : w2.heap[b]? = some newG) (h2 : w2.heap[r]? = some newR) (l1 : w.heap.size ≤ b) (l2 : w.heap.size ≤ r) :
    Beg w0 B wb 1 w2 (ptr b) (ptr r) x1 y1 := by
  have hw := block_lt h.blk
  have hk := heap_setCell_at (i := 4) (heap_setCell_at (i := 3) h.blk (ptr b)) (ptr r)
  refine ⟨by rw [hb.block _ (by simp; exact hw), hk]; rfl, (((h.old.setCell (p := ⟨wb, 3, none⟩) h.low _).setCell (p := ⟨wb, 4, none⟩) h.low _).trans (hb.mono (by simp; omega))), h.low, fun _ => ⟨b, r, rfl, rfl, h1, h2, by omega, by omega⟩, fun h => by omega⟩
theorem Beg.step1 {w0 w w2 : World} {B wb b r : Nat} {x0 y0 x1 y1 : Value} (h : Beg w0 B wb 1 w x0 y0 x1 y1) (hB : B ≤ w.heap.size) (hb : Below ((w.setCell ⟨wb, 5, none⟩ (ptr b)).setCell ⟨wb, 6, none⟩ (ptr r)).heap.size ((w.setCell ⟨wb, 5, none⟩ (ptr b)).setCell ⟨wb, 6, none⟩ (ptr r)) w2) (h1 : w2.heap[b]? = some newG) (h2 : w2.heap[r]? = some newR) (l1 : w.heap.size ≤ b) (l2 : w.heap.size ≤ r) :
    Beg w0 B wb 2 w2 x0 y0 (ptr b) (ptr r) := by
  have hw := block_lt h.blk
  have hk := heap_setCell_at (i := 6) (heap_setCell_at (i := 5) h.blk (ptr b)) (ptr r)
  have ho := h.one (Nat.le_refl _)
  refine ⟨by rw [hb.block _ (by simp; exact hw), hk]; rfl, (((h.old.setCell (p := ⟨wb, 5, none⟩) h.low _).setCell (p := ⟨wb, 6, none⟩) h.low _).trans (hb.mono (by simp; omega))), h.low, fun _ => ?_, fun _ => ⟨⟨b, r, rfl, rfl, h1, h2, by omega, by omega⟩, ?_, ?_⟩⟩
  · exact ((ho.set h.blk).set (heap_setCell_at h.blk _)).below hb
  · obtain ⟨b', r', rfl, rfl, g1, g2, _⟩ := ho
    intro e; have := ptr_inj e; have := block_lt g1; omega
  · obtain ⟨b', r', rfl, rfl, g1, g2, _⟩ := ho
    intro e; have := ptr_inj e; have := block_lt g2; omega

theorem Beg.st {w0 w : World} {B wb : Nat} {x0 y0 x1 y1 : Value} (h : Beg w0 B wb 2 w x0 y0 x1 y1) : ∃ t u : Tw, St w B wb t u ∧ t.ms = [] ∧ t.cl = false := by
  obtain ⟨b, r, rfl, rfl, h1, h2, h3, h4⟩ := h.one (by omega)
  obtain ⟨⟨b', r', rfl, rfl, g1, g2, g3, g4⟩, n1, n2⟩ := h.two (Nat.le_refl _)
  have gr : ∀ b, w.heap[b]? = some newG → Gr w B b (.slice none 0 0) [] false := fun b hb => ⟨hb, World.ownsRow_nil _ _ _ _, by simp [Value.ownBlock], by simp⟩
  have rg : ∀ b, w.heap[b]? = some newR → RGr w B b (.slice none 0 0) [] false := fun b hb => ⟨hb, ⟨[], rfl, World.ownsRow_nil _ _ _ _, fun i m p hm => by simp at hm⟩, by simp, fun m hm => by simp at hm⟩
  refine ⟨⟨b, .slice none 0 0, r, .slice none 0 0, [], false⟩, ⟨b', .slice none 0 0, r', .slice none 0 0, [], false⟩, ⟨⟨⟨gr b h1, rg r h2, h3, h4⟩, ⟨gr b' g1, rg r' g2, g3, g4⟩, ?_, ?_, ?_, ?_⟩, h.blk, h.low⟩, rfl, rfl⟩
  · intro e; exact n1 (by simp only at e; rw [e])
  · intro e; exact n2 (by simp only at e; rw [e])
  · intro x hx; simp [Value.ownBlock] at hx
  · intro x hx; simp [Value.ownBlock] at hx

set_option maxRecDepth 100000 in
set_option maxHeartbeats 2000000 in
theorem begun_any (w : World) (B wb : Nat) (hB : B ≤ wb) (hk : w.heap[wb]? = some (.cells #[.slice none 0 0, .slice none 0 0, .slice none 0 0, .pointer none, .pointer none, .pointer none, .pointer none] 53 (0, 0))) :
    Calls Try.prog 14 #[.pointer (some ⟨wb, 0, none⟩)] w fun e w' => e = .returned (.bool true) ∧ Below B w w' ∧ ∃ t u : Tw, St w' B wb t u ∧ t.ms = [] ∧ t.cl = false := by
  have HK := hide hk
  have hwl := block_lt hk
  clear hk
  go_enter Try.func14, Try.ntmps14
  go_wp2
  go_loopw [3] (fun i wr => ∃ k : Nat, k ≤ 2 ∧ i = .int .i64 k ∧ ∃ x0 y0 x1 y1, Hid (Beg w B wb k wr x0 y0 x1 y1)) (fun i _ => 2 - (intOf i).toNat)
  case atStart => exact ⟨0, by decide, rfl, _, _, _, _, ⟨HK.out, Below.refl _ _, hB, fun h => by omega, fun h => by omega⟩⟩
  case round =>
    obtain ⟨k, hk2, rfl, x0, y0, x1, y1, HR⟩ := hrel
    have hz := HR.out.old.size
    have e3 : wr.cell? ⟨wb, 3, none⟩ = some x0 := by rw [cell_of_row wr wb 3 _ _ _ HR.out.blk]; rfl
    have e4 : wr.cell? ⟨wb, 4, none⟩ = some y0 := by rw [cell_of_row wr wb 4 _ _ _ HR.out.blk]; rfl
    have e5 : wr.cell? ⟨wb, 5, none⟩ = some x1 := by rw [cell_of_row wr wb 5 _ _ _ HR.out.blk]; rfl
    have e6 : wr.cell? ⟨wb, 6, none⟩ = some y1 := by rw [cell_of_row wr wb 6 _ _ _ HR.out.blk]; rfl
    have f3 : wr.frozen? ⟨wb, 3, none⟩ = false := by simp [World.frozen?, HR.out.blk]
    have f4 : wr.frozen? ⟨wb, 4, none⟩ = false := by simp [World.frozen?, HR.out.blk]
    have f5 : wr.frozen? ⟨wb, 5, none⟩ = false := by simp [World.frozen?, HR.out.blk]
    have f6 : wr.frozen? ⟨wb, 6, none⟩ = false := by simp [World.frozen?, HR.out.blk]
    have hwl' : wb < wr.heap.size := by omega
    have hBz : B ≤ wr.heap.size := by omega
    have hk3 : k = 0 ∨ k = 1 ∨ k = 2 := by omega
    rcases hk3 with rfl | rfl | rfl
    · go_wp2_with fail
      go_region_with (go_at_call 6; refine (new_any _).mono ?_; rintro e w' ⟨rfl, rfl⟩)
      · obtain ⟨a1, a2, a3⟩ := two_new ((wr.setCell ⟨wb, 3, none⟩ (ptr wr.heap.size)).setCell ⟨wb, 4, none⟩ (ptr (wr.heap.size + 1))) wr.heap.size (by simp) newG newR
        have HS := hide (HR.out.step0 hBz a3 a1 a2 (Nat.le_refl _) (by omega))
        clear a1 a2 a3
        go_wp2
        go_roundw
        case rel => exact ⟨1, by decide, by go_num, _, _, _, _, HS.out⟩
        case measure => simp [intOf]
      · obtain ⟨a1, a2, a3⟩ := two_new ((wr.setCell ⟨wb, 3, none⟩ (ptr (wr.heap.size + 1))).setCell ⟨wb, 4, none⟩ (ptr wr.heap.size)) wr.heap.size (by simp) newR newG
        have HS := hide (HR.out.step0 hBz a3 a2 a1 (by omega) (Nat.le_refl _))
        clear a1 a2 a3
        go_wp2
        go_roundw
        case rel => exact ⟨1, by decide, by go_num, _, _, _, _, HS.out⟩
        case measure => simp [intOf]
    · go_wp2_with fail
      go_region_with (go_at_call 6; refine (new_any _).mono ?_; rintro e w' ⟨rfl, rfl⟩)
      · obtain ⟨a1, a2, a3⟩ := two_new ((wr.setCell ⟨wb, 5, none⟩ (ptr wr.heap.size)).setCell ⟨wb, 6, none⟩ (ptr (wr.heap.size + 1))) wr.heap.size (by simp) newG newR
        have HS := hide (HR.out.step1 hBz a3 a1 a2 (Nat.le_refl _) (by omega))
        clear a1 a2 a3
        go_wp2
        go_roundw
        case rel => exact ⟨2, by decide, by go_num, _, _, _, _, HS.out⟩
        case measure => simp [intOf]
      · obtain ⟨a1, a2, a3⟩ := two_new ((wr.setCell ⟨wb, 5, none⟩ (ptr (wr.heap.size + 1))).setCell ⟨wb, 6, none⟩ (ptr wr.heap.size)) wr.heap.size (by simp) newR newG
        have HS := hide (HR.out.step1 hBz a3 a2 a1 (by omega) (Nat.le_refl _))
        clear a1 a2 a3
        go_wp2
        go_roundw
        case rel => exact ⟨2, by decide, by go_num, _, _, _, _, HS.out⟩
        case measure => simp [intOf]
    · go_wp2
      go_ret
      exact ⟨rfl, HR.out.old, HR.out.st⟩
end Go.Proofs.Ythacahellkmleaa
