/- Contracts of the calls on the program's graph in memory: what a node is made of, looked for and added; a handle; how many nodes there are; a new graph; closing it. -/
import Derived.Test.YthacahellkmleaaNum
import Derived.Deep.AppendLies
import Derived.Deep.RegionHeld3
import Derived.Deep.LoopGhost
namespace Go.Proofs.Ythacahellkmleaa
open Go.RowKit

/-- What a node is made of. -/
abbrev Mk := Int × Int × Int × Int × Int × Int
def mkc (m : Mk) : List Value := [.int .u64 m.1, .int .u64 m.2.1, .int .u64 m.2.2.1, .int .u64 m.2.2.2.1, .int .u64 m.2.2.2.2.1, .int .u64 m.2.2.2.2.2]
def rows : List Mk → List Value
  | [] => []
  | m :: r => mkc m ++ rows r
theorem rows_length (ms : List Mk) : (rows ms).length = ms.length * 6 := by
  induction ms with
  | nil => rfl
  | cons m r ih => simp [rows, mkc, ih]; omega
theorem rows_append (a b : List Mk) : rows (a ++ b) = rows a ++ rows b := by
  induction a with
  | nil => rfl
  | cons m r ih => simp [rows, ih]
theorem rows_at (ms : List Mk) (k j : Nat) (m : Mk) (h : ms[k]? = some m) (hj : j < 6) : (rows ms)[k * 6 + j]? = (mkc m)[j]? := by
  induction ms generalizing k with
  | nil => simp at h
  | cons x r ih =>
    cases k with
    | zero =>
      simp at h; subst h
      rw [rows, List.getElem?_append_left (by simp [mkc]; omega)]; simp
    | succ k =>
      rw [rows, List.getElem?_append_right (by simp [mkc]; omega)]
      have := ih k (by simpa using h)
      rw [← this]; congr 1; simp [mkc]; omega

/-- A graph of the program at block b: its nodes' slice v owns what the nodes are made of. -/
structure Gr (w : World) (B b : Nat) (v : Value) (ms : List Mk) (cl : Bool) : Prop where
  cells : w.heap[b]? = some (.cells #[v, .bool cl] 62 (0, 0))
  row : w.ownsRow B 70 6 v ms.length (rows ms)
  ne : v.ownBlock ≠ some b
  few : ms.length ≤ 24

/-- Outside block b and the row o nothing old has turned. -/
structure Mut (w w' : World) (b : Nat) (o : Option Nat) : Prop where
  os : w'.os = w.os
  tape : w'.tape = w.tape
  output : w'.output = w.output
  size : w.heap.size ≤ w'.heap.size
  block : ∀ k, k < w.heap.size → k ≠ b → some k ≠ o → w'.heap[k]? = w.heap[k]?

theorem block_lt {w : World} {b : Nat} {o : Obj} (h : w.heap[b]? = some o) : b < w.heap.size := by
  rcases Nat.lt_or_ge b w.heap.size with hlt | hge
  · exact hlt
  · rw [Array.getElem?_eq_none hge] at h; cases h

theorem Mut.of_below {w w' : World} (h : Below w.heap.size w w') (b : Nat) (o : Option Nat) : Mut w w' b o :=
  ⟨h.os, h.tape, h.output, h.size, fun k hk _ _ => h.block k hk⟩
theorem Mut.trans_below {w w1 w2 : World} {b : Nat} {o : Option Nat} (h : Mut w w1 b o) (k : Below w1.heap.size w1 w2) : Mut w w2 b o :=
  ⟨k.os.trans h.os, k.tape.trans h.tape, k.output.trans h.output, Nat.le_trans h.size k.size, fun i hi a c => (k.block i (Nat.lt_of_lt_of_le hi h.size)).trans (h.block i hi a c)⟩
theorem Mut.below_trans {w w1 w2 : World} {b : Nat} {o : Option Nat} (h : Below w.heap.size w w1) (k : Mut w1 w2 b o) : Mut w w2 b o :=
  ⟨k.os.trans h.os, k.tape.trans h.tape, k.output.trans h.output, Nat.le_trans h.size k.size, fun i hi a c => (k.block i (Nat.lt_of_lt_of_le hi h.size) a c).trans (h.block i hi)⟩

theorem ownsRow_block {w w' : World} {B : Nat} {e : TypeId} {s : Nat} {v : Value} {n : Nat} {xs : List Value} (h : w.ownsRow B e s v n xs) (hk : ∀ k, v.ownBlock = some k → w'.heap[k]? = w.heap[k]?) : w'.ownsRow B e s v n xs := by
  refine ⟨h.1, ?_⟩
  rcases h.2 with hn | ⟨g, cap, cur, rfl, hb, hgg, rest⟩
  · exact .inl hn
  · exact .inr ⟨g, cap, cur, rfl, hb, by rw [hk g rfl]; exact hgg, rest⟩

theorem Gr.keep {w w' : World} {B b : Nat} {v : Value} {ms : List Mk} {cl : Bool} (h : Gr w B b v ms cl) (hb : w'.heap[b]? = w.heap[b]?) (hk : ∀ k, v.ownBlock = some k → w'.heap[k]? = w.heap[k]?) : Gr w' B b v ms cl :=
  ⟨by rw [hb]; exact h.cells, ownsRow_block h.row hk, h.ne, h.few⟩
theorem Gr.below {w w' : World} {B b : Nat} {v : Value} {ms : List Mk} {cl : Bool} (h : Gr w B b v ms cl) (hb : Below w.heap.size w w') : Gr w' B b v ms cl :=
  h.keep (hb.block _ (block_lt h.cells)) fun k hk => hb.block _ (h.row.lt k hk).2

set_option maxHeartbeats 400000 in
theorem len_any (w : World) (B b : Nat) (v : Value) (ms : List Mk) (cl : Bool) (h : Gr w B b v ms cl) :
    Calls Try.prog 8 #[.pointer (some ⟨b, 0, none⟩)] w fun e w' => e = .returned (.int .i64 ms.length) ∧ w = w' := by
  have hb := h.cells
  have hv : ∃ a c, v = .slice a ms.length c := by
    rcases h.row.2 with ⟨hn, h0⟩ | ⟨g, cap, cur, hv, _⟩
    · exact ⟨none, 0, by rw [hn, h0]⟩
    · exact ⟨_, _, hv⟩
  obtain ⟨a, c, rfl⟩ := hv
  have h0 : w.cell? ⟨b, 0, none⟩ = some (.slice a ms.length c) := by rw [cell_of_row w b 0 _ _ _ hb]; rfl
  have hf := h.few
  clear h hb
  go_enter Try.func8, Try.ntmps8
  go_wp2
  go_ret
  exact ⟨rfl, rfl⟩

set_option maxHeartbeats 400000 in
theorem close_any (w : World) (B b : Nat) (v : Value) (ms : List Mk) (cl : Bool) (h : Gr w B b v ms cl) :
    Calls Try.prog 41 #[.pointer (some ⟨b, 0, none⟩)] w fun e w' => e = .returned (.tuple #[]) ∧ w' = w.setCell ⟨b, 1, none⟩ (.bool true) := by
  have hb := h.cells
  have h0 : w.cell? ⟨b, 1, none⟩ = some (.bool cl) := by rw [cell_of_row w b 1 _ _ _ hb]; rfl
  have h1 : w.frozen? ⟨b, 1, none⟩ = false := by simp [World.frozen?, hb]
  clear h hb
  go_enter Try.func41, Try.ntmps41
  go_wp2
  go_end0
  exact ⟨rfl, rfl⟩

set_option maxHeartbeats 400000 in
theorem new_any (w : World) :
    Calls Try.prog 6 #[] w fun e w' => e = .returned (.pointer (some ⟨w.heap.size, 0, none⟩)) ∧ w' = w.alloc (.cells #[.slice none 0 0, .bool false] 62) := by
  go_enter Try.func6, Try.ntmps6
  go_wp2
  go_ret
  exact ⟨rfl, rfl⟩

theorem ret_bool {a b : Bool} (h : a = b) : Ending.returned (.bool a) = .returned (.bool b) := by rw [h]
/-- The ops that take one node, and two. -/
def oneB (op : Int) : Bool := op == 2 || op == 8
def twoB (op : Int) : Bool := op == 3 || op == 4 || op == 6 || op == 7
/-- Is it a handle? -/
def hasB (n : Nat) (h : Int) : Bool := decide (1 ≤ h) && decide (h ≤ n)
set_option maxHeartbeats 400000 in
theorem has_any (w : World) (B b : Nat) (v : Value) (ms : List Mk) (cl : Bool) (h : Gr w B b v ms cl) (k : Int) :
    Calls Try.prog 27 #[.pointer (some ⟨b, 0, none⟩), .int .i64 k] w fun e w' => e = .returned (.bool (hasB ms.length k)) ∧ w = w' := by
  have hb := h.cells
  have hv : ∃ a c, v = .slice a ms.length c := by
    rcases h.row.2 with ⟨hn, h0⟩ | ⟨g, cap, cur, hv, _⟩
    · exact ⟨none, 0, by rw [hn, h0]⟩
    · exact ⟨_, _, hv⟩
  obtain ⟨a, c, rfl⟩ := hv
  have h0 : w.cell? ⟨b, 0, none⟩ = some (.slice a ms.length c) := by rw [cell_of_row w b 0 _ _ _ hb]; rfl
  have hf := h.few
  clear h hb
  by_cases h1 : 1 ≤ k
  · go_enter Try.func27, Try.ntmps27
    go_wp2
    go_ret
    exact ⟨ret_bool (by simp [hasB, h1]), rfl⟩
  · go_enter Try.func27, Try.ntmps27
    go_wp2
    go_ret
    exact ⟨ret_bool (by simp [hasB]; omega), rfl⟩

set_option maxHeartbeats 400000 in
theorem takesOne_any (w : World) (op : Int) :
    Calls Try.prog 28 #[.int .i64 op] w fun e w' => e = .returned (.bool (oneB op)) ∧ w = w' := by
  go_enter Try.func28, Try.ntmps28
  go_wp2
  all_goals
    go_ret
    exact ⟨ret_bool (by simp [oneB, *]), rfl⟩

set_option maxHeartbeats 400000 in
theorem takesTwo_any (w : World) (op : Int) :
    Calls Try.prog 29 #[.int .i64 op] w fun e w' => e = .returned (.bool (twoB op)) ∧ w = w' := by
  go_enter Try.func29, Try.ntmps29
  go_wp2
  all_goals
    go_ret
    exact ⟨ret_bool (by simp [twoB, *]), rfl⟩

set_option maxHeartbeats 400000 in
theorem madeOf_any (w : World) (op a b x y z : Int) (o0 : 0 ≤ op) (o1 : op ≤ 9223372036854775807) (a0 : 0 ≤ a) (a1 : a ≤ 9223372036854775807) (b0 : 0 ≤ b) (b1 : b ≤ 9223372036854775807) :
    Calls Try.prog 24 #[.int .i64 op, .int .i64 a, .int .i64 b, .agg #[.int .u64 x, .int .u64 y, .int .u64 z]] w fun e w' => e = .returned (.agg #[.int .u64 op, .int .u64 a, .int .u64 b, .int .u64 x, .int .u64 y, .int .u64 z]) ∧ Below w.heap.size w w' := by
  go_enter Try.func24, Try.ntmps24
  go_wp2
  refine bodyPost_ret (v := .agg #[.int .u64 op, .int .u64 a, .int .u64 b, .int .u64 x, .int .u64 y, .int .u64 z]) (by simp [results, Try.results24, go_sem]) rfl ⟨rfl, ?_⟩
  go_grown

/-- The list with what a node is made of added, if it is not there and there is room; its handle; the error. -/
def addL (ms : List Mk) (m : Mk) : List Mk := if m ∈ ms then ms else if 24 ≤ ms.length then ms else ms ++ [m]
def addH (ms : List Mk) (m : Mk) : Int := if m ∈ ms then (ms.idxOf m : Int) + 1 else if 24 ≤ ms.length then 0 else (ms.length : Int) + 1
def addE (ms : List Mk) (m : Mk) : Int := if m ∈ ms then 0 else if 24 ≤ ms.length then 5 else 0

/-- The row's cells at the place k. -/
theorem Gr.at {w : World} {B b : Nat} {v : Value} {ms : List Mk} {cl : Bool} (h : Gr w B b v ms cl) (k : Nat) (m : Mk) (hk : ms[k]? = some m) :
    ∃ g cap, v = .slice (some ⟨g, 0, none⟩) ms.length cap ∧ B ≤ g ∧ g < w.heap.size ∧ ∀ j u, (mkc m)[j]? = some u → w.cell? ⟨g, k * 6 + j, none⟩ = some u := by
  have hlt : k < ms.length := (List.getElem?_eq_some_iff.1 hk).1
  rcases h.row.2 with ⟨_, h0⟩ | ⟨g, cap, cur, hv, hB, hg, hn, hc, hsz, htake⟩
  · omega
  · refine ⟨g, cap, hv, hB, block_lt hg, fun j u hu => ?_⟩
    have hj : j < 6 := by
      have := (List.getElem?_eq_some_iff.1 hu).1
      simpa [mkc] using this
    rw [cell_of_row w g _ cur _ _ hg]
    have h1 := rows_at ms k j m hk hj
    rw [← htake, List.getElem?_take, if_pos (by omega)] at h1
    rw [← Array.getElem?_toList, h1, hu]

end Go.Proofs.Ythacahellkmleaa
