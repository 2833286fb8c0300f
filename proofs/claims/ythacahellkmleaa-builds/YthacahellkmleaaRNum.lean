/- Contracts of the document's answer on numbers: a size without its sign, rows of digits, a ratio into a node. -/
import Derived.Test.YthacahellkmleaaBuiltW
namespace Go.Proofs.Ythacahellkmleaa
open Go.RowKit

theorem plain_neg (n : Int) (h1 : -9223372036854775808 ≤ n) (h : n < 0) : IntKind.u64.wrap (IntKind.u64.wrap (-(n + 1)) + 1) = -n := by
  rw [IntKind.wrap_u64, IntKind.wrap_u64]; omega
set_option maxHeartbeats 400000 in
theorem rplain_any (n : Int) (w : World) (h1 : -9223372036854775808 ≤ n) (h2 : n ≤ 9223372036854775807) :
    Calls Try.prog 55 #[.int .i64 n] w fun e w' => e = .returned (.int .u64 (Bk.usg n)) ∧ w = w' := by
  by_cases h : n < 0
  · rw [Bk.usg_neg h]
    go_enter Try.func55, Try.ntmps55
    go_wp2
    go_ret
    refine ⟨ret_int ?_, rfl⟩
    first | rfl | exact plain_neg n h1 h | omega
  · rw [Bk.usg_pos h]
    go_enter Try.func55, Try.ntmps55
    go_wp2
    go_ret
    exact ⟨rfl, rfl⟩

/-- A whole number in memory, of whatever digits. -/
def isBig (x : Value) : Prop := ∃ (s : Int) (a : Option Addr) (n c : Nat), x = .agg #[.int .i64 s, .slice a n c] ∧ -1 ≤ s ∧ s ≤ 1

set_option maxHeartbeats 1000000 in
theorem trimmed_any (w : World) (B : Nat) (dv : Value) (ds : List Int) (hown : w.ownsRow B 3 1 dv ds.length (ints ds)) (hlen : ds.length ≤ 1000) :
    Calls Try.prog 66 #[.int .i64 1, dv] w fun e w' => (∃ x, e = .returned x ∧ isBig x) ∧ Below w.heap.size w w' := by
  have hv : ∃ a c, dv = .slice a ds.length c ∧ ds.length ≤ c ∧ c ≤ maxLen := by
    rcases hown.2 with ⟨hn, h0⟩ | ⟨g, cap, cur, hv, _, _, h1, h2, _⟩
    · exact ⟨none, 0, by rw [hn, h0], by omega, by unfold maxLen; omega⟩
    · exact ⟨_, _, hv, h1, h2⟩
  obtain ⟨a, c, rfl, hcap, hcm⟩ := hv
  unfold maxLen at hcm
  have HO := hide hown
  clear hown
  go_enter Try.func66, Try.ntmps66
  go_wp2
  go_loop [5] (fun n => ∃ k : Nat, k ≤ ds.length ∧ n = .int .i64 k) (fun n => (intOf n).toNat)
  case atStart => exact ⟨ds.length, Nat.le_refl _, rfl⟩
  case round =>
    obtain ⟨k, hk, rfl⟩ := hrel
    cases k with
    | zero =>
      go_wp2
      refine bodyPost_ret (v := .agg #[.int .i64 0, .slice none 0 0]) (by simp [results, Try.results66, go_sem]) rfl ⟨⟨_, rfl, 0, none, 0, 0, rfl, by decide, by decide⟩, ?_⟩
      go_grown
    | succ j =>
      obtain ⟨g, cap, hv, _, hg⟩ := HO.out.form (by omega)
      simp only [Value.slice.injEq, true_and] at hv
      obtain ⟨rfl, rfl⟩ := hv
      have hx : ds[j]? = some ds[j] := List.getElem?_eq_getElem (by omega)
      have hc : w.cell? ⟨g, j, none⟩ = some (.int .i64 ds[j]) := owns_at HO.out rfl _ _ (by rw [ints, List.getElem?_map, hx]; rfl)
      clear hx
      generalize ds[j] = d at hc
      by_cases hd : d = 0
      · subst hd
        go_wp2
        go_round
        case rel => exact ⟨j, by omega, by go_num⟩
        case measure => simp [intOf]
      · have hd' : (d == 0) = false := by simpa using hd
        have hj0 : (((j + 1 : Nat) : Int) == 0) = false := by simp; omega
        go_wp2
        refine bodyPost_ret (v := .agg #[.int .i64 1, .slice (some ⟨g, 0, none⟩) (j + 1) c]) (by simp [results, Try.results66, go_sem]) rfl ⟨⟨_, rfl, 1, _, _, _, rfl, by decide, by decide⟩, ?_⟩
        go_grown

/-- How great a number can be behind k digits of a million. -/
def lim : Nat → Int
  | 0 => 9223372036854775808
  | k + 1 => lim k / 1000000
theorem lim_four : lim 4 = 0 := by decide
theorem lim_le (k : Nat) : lim k ≤ 9223372036854775808 := by
  induction k with
  | zero => exact Int.le_refl _
  | succ k ih => unfold lim; omega

set_option maxHeartbeats 1000000 in
theorem of_any (w : World) (u : Int) (h1 : 0 ≤ u) (h2 : u ≤ 9223372036854775808) :
    Calls Try.prog 56 #[.int .u64 u] w fun e w' => (∃ x, e = .returned x ∧ isBig x) ∧ Below w.heap.size w w' := by
  obtain ⟨i0, hi0, hz0, hz1, hz2⟩ := info_parts Try.infoInt
  go_enter Try.func56, Try.ntmps56
  go_wp2
  go_loopw [0, 3] (fun x d wr => ∃ (y : Int) (ds : List Int), 0 ≤ y ∧ y ≤ lim ds.length ∧ ds.length ≤ 4 ∧ x = .int .u64 y ∧ Hid (wr.ownsRow (w.heap.size + 1) 3 1 d ds.length (ints ds) ∧ Below (w.heap.size + 1) (w.alloc (.cells #[.int .i64 0, .slice none 0 0] 103)) wr)) (fun x _ _ => (intOf x).toNat)
  case atStart => exact ⟨u, [], h1, h2, by decide, rfl, World.ownsRow_nil _ _ _ _, Below.refl _ _⟩
  case round =>
    obtain ⟨y, ds, hy0, hy1, hds, rfl, HR⟩ := hrel
    have hlim := lim_le ds.length
    have hsz := HR.out.2.size
    simp only [World.size_alloc] at hsz
    by_cases hy : 0 < y
    · have hd3 : ds.length ≤ 3 := by
        rcases Nat.lt_or_ge ds.length 4 with h | h
        · omega
        · have : ds.length = 4 := by omega
          rw [this, lim_four] at hy1; omega
      have hm0 : 0 ≤ y % 1000000 := Int.emod_nonneg _ (by decide)
      have hm1 : y % 1000000 < 1000000 := Int.emod_lt_of_pos _ (by decide)
      have hq1 : y / 1000000 < y := by omega
      have HL : Hid (y / 1000000 ≤ lim (ds.length + 1)) := by show _ ≤ lim ds.length / 1000000; omega
      go_wp2_with (at_builtin; refine wpList_append_lies _ rfl _ _ 25 rfl (w.heap.size + 1) 3 i0 _ 1 8 Try.underlying25 hi0 hz0 hz1 hz2 rfl (by omega) u3 ds.length (ints ds) rfl (HR.out.1.alloc _) ⟨wr.heap.size, 0, none⟩ 1 1 [.int .i64 (y % 1000000)] rfl rfl ?c1 ?c2 (by omega) ?c3 ?c4 ?c5 (wr.heap.size + 1) ?c6 ?_)
      case c1 => exact World.news_of_block (cs := #[.int .i64 (y % 1000000)]) (t := 3) (fr := (0, 0)) (new_at _ _ _ rfl)
      case c2 => simp [Value.oneCell']
      case c3 => unfold maxLen; omega
      case c4 => omega
      case c5 => simp; omega
      case c6 => simp
      intro g' cap' w3 hown3 hgrow3 hat3 _
      have HRR : Hid (w3.ownsRow (w.heap.size + 1) 3 1 (.slice (some ⟨g', 0, none⟩) (ds ++ [y % 1000000]).length cap') (ds ++ [y % 1000000]).length (ints (ds ++ [y % 1000000])) ∧ Below (w.heap.size + 1) (w.alloc (.cells #[.int .i64 0, .slice none 0 0] 103)) w3) := by
        refine ⟨by simpa [ints] using hown3, (HR.out.2.alloc hsz _).grown hgrow3 (by simp; omega) fun j hj => (HR.out.1.lt j hj).1⟩
      clear hown3 hgrow3
      go_wp2
      go_roundw
      case rel =>
        refine ⟨y / 1000000, ds ++ [y % 1000000], by omega, ?_, by simp; omega, rfl, ?_⟩
        · simp only [List.length_append, List.length_singleton]; exact HL.out
        · simpa using HRR
      case measure => simp [intOf]; omega
    · have hy' : y = 0 := by omega
      subst hy'
      go_wp2_with fail
      refine (trimmed_any _ _ _ ds HR.out.1 (by omega)).mono ?_
      rintro e w2 ⟨⟨x, rfl, s, a, n, c, rfl, hs1, hs2⟩, hb2⟩
      have hB := HR.out.2
      have hz2' : w.heap.size + 1 ≤ w2.heap.size := Nat.le_trans hsz hb2.size
      have k0 : w2.heap[w.heap.size]? = some (.cells #[.int .i64 0, .slice none 0 0] 103 (0, 0)) := by
        rw [hb2.block _ (by omega), hB.block _ (by omega)]; exact heap_alloc_new w _
      have d0 : w2.cell? ⟨w.heap.size, 0, none⟩ = some (.int .i64 0) := by rw [cell_of_row w2 _ 0 _ _ _ k0]; rfl
      have d1 : w2.cell? ⟨w.heap.size, 1, none⟩ = some (.slice none 0 0) := by rw [cell_of_row w2 _ 1 _ _ _ k0]; rfl
      have f0 : w2.frozen? ⟨w.heap.size, 0, none⟩ = false := by simp [World.frozen?, k0]
      have f1 : w2.frozen? ⟨w.heap.size, 1, none⟩ = false := by simp [World.frozen?, k0]
      have HBB := hide ((((Below.refl _ _).alloc (Nat.le_refl _) _).trans (hB.mono (by omega))).trans (hb2.mono (by omega)) : Below w.heap.size w w2)
      clear k0 hb2 hB
      go_wp2
      refine bodyPost_ret (v := .agg #[.int .i64 s, .slice a n c]) (by simp [results, Try.results56, go_sem, d0, d1]) rfl ⟨⟨_, rfl, s, a, n, c, rfl, hs1, hs2⟩, ?_⟩
      have hbw := HBB.out
      go_grown

set_option maxHeartbeats 400000 in
theorem bneg_any (w : World) (s : Int) (a : Option Addr) (n c : Nat) (h1 : -1 ≤ s) (h2 : s ≤ 1) :
    Calls Try.prog 57 #[.agg #[.int .i64 s, .slice a n c]] w fun e w' => (∃ x, e = .returned x ∧ isBig x) ∧ Below w.heap.size w w' := by
  go_enter Try.func57, Try.ntmps57
  go_wp2
  refine bodyPost_ret (v := .agg #[.int .i64 (-s), .slice a n c]) (by simp [results, Try.results57, go_sem]) rfl ⟨⟨_, rfl, -s, a, n, c, rfl, by omega, by omega⟩, ?_⟩
  go_grown
end Go.Proofs.Ythacahellkmleaa
