/- Contracts of the calls on the program's graph in memory: what a node is made of, looked for and added; a handle; how many nodes there are; a new graph; closing it. -/
import Derived.Test.YtccogcbddpighaaNum
import Derived.Deep.AppendLies
import Derived.Deep.RegionHeld3
import Derived.Deep.LoopGhost
namespace Go.Proofs.Ytccogcbddpighaa
open Go.RowKit

/-- What a node is made of. -/
abbrev Mk := Int × Int × Int × Int × Int × Int
def mkc (m : Mk) : List Value := [.int .u64 m.1, .int .u64 m.2.1, .int .u64 m.2.2.1, .int .u64 m.2.2.2.1, .int .u64 m.2.2.2.2.1, .int .u64 m.2.2.2.2.2]
/-- The cells of a slice of pointers to nodes. -/
def ptrs (ps : List Nat) : List Value := ps.map fun p => .pointer (some ⟨p, 0, none⟩)
theorem ptrs_append (a b : List Nat) : ptrs (a ++ b) = ptrs a ++ ptrs b := by simp [ptrs]
theorem ptrs_at (ps : List Nat) (k : Nat) : (ptrs ps)[k]? = (ps[k]?).map fun p => .pointer (some ⟨p, 0, none⟩) := by simp [ptrs]
/-- The cells of a node: what it is made of, its digits, how many it has taken. -/
def nodeCells (m : Mk) (d t : Value) : Array Value := #[.int .u64 m.1, .int .u64 m.2.1, .int .u64 m.2.2.1, .int .u64 m.2.2.2.1, .int .u64 m.2.2.2.2.1, .int .u64 m.2.2.2.2.2, d, t]
/-- At block p lies a node that is made of m. -/
def NodeAt (w : World) (p : Nat) (m : Mk) : Prop := ∃ d t, w.heap[p]? = some (.cells (nodeCells m d t) 61 (0, 0))

theorem block_lt {w : World} {b : Nat} {o : Obj} (h : w.heap[b]? = some o) : b < w.heap.size := by
  rcases Nat.lt_or_ge b w.heap.size with hlt | hge
  · exact hlt
  · rw [Array.getElem?_eq_none hge] at h; cases h
/-- Blocks of two types are two. -/
theorem ty_apart {w : World} {p q : Nat} {cs cs' : Array Value} {t t' : TypeId} {f f' : Nat × Nat} (h : w.heap[p]? = some (.cells cs t f)) (h' : w.heap[q]? = some (.cells cs' t' f')) (ht : t ≠ t') : p ≠ q := by
  rintro rfl
  rw [h] at h'
  cases h'
  exact ht rfl
theorem ownsRow_ty {w : World} {B : Nat} {e : TypeId} {s : Nat} {v : Value} {n : Nat} {xs : List Value} (h : w.ownsRow B e s v n xs) {k : Nat} (hk : v.ownBlock = some k) : ∃ cur, w.heap[k]? = some (.cells cur e (0, 0)) := by
  rcases h.2 with ⟨hn, _⟩ | ⟨g, cap, cur, rfl, _, hg, _⟩
  · rw [hn] at hk; cases hk
  · cases hk; exact ⟨cur, hg⟩

/-- A graph of the program at block b: its nodes' slice v owns pointers to nodes. -/
structure Gr (w : World) (B b : Nat) (v : Value) (ms : List Mk) (cl : Bool) : Prop where
  cells : w.heap[b]? = some (.cells #[v, .bool cl] 43 (0, 0))
  own : ∃ ps : List Nat, ps.length = ms.length ∧ w.ownsRow B 59 1 v ms.length (ptrs ps) ∧ ∀ (k p : Nat) (m : Mk), ps[k]? = some p → ms[k]? = some m → NodeAt w p m
  ne : v.ownBlock ≠ some b
  few : ms.length ≤ 24

theorem Gr.lt {w : World} {B b : Nat} {v : Value} {ms : List Mk} {cl : Bool} (h : Gr w B b v ms cl) (k : Nat) (hk : v.ownBlock = some k) : B ≤ k ∧ k < w.heap.size := by
  obtain ⟨ps, _, ho, _⟩ := h.own
  exact ho.lt k hk
theorem Gr.slice {w : World} {B b : Nat} {v : Value} {ms : List Mk} {cl : Bool} (h : Gr w B b v ms cl) : ∃ a c, v = .slice a ms.length c := by
  obtain ⟨ps, _, ho, _⟩ := h.own
  rcases ho.2 with ⟨hn, h0⟩ | ⟨g, cap, cur, hv, _⟩
  · exact ⟨none, 0, by rw [hn, h0]⟩
  · exact ⟨_, _, hv⟩
theorem Gr.ty {w : World} {B b : Nat} {v : Value} {ms : List Mk} {cl : Bool} (h : Gr w B b v ms cl) {k : Nat} (hk : v.ownBlock = some k) : ∃ cur, w.heap[k]? = some (.cells cur 59 (0, 0)) := by
  obtain ⟨ps, _, ho, _⟩ := h.own
  exact ownsRow_ty ho hk
theorem Gr.nil (w : World) (B b : Nat) (h : w.heap[b]? = some (.cells #[.slice none 0 0, .bool false] 43 (0, 0))) : Gr w B b (.slice none 0 0) [] false :=
  ⟨h, ⟨[], rfl, World.ownsRow_nil _ _ _ _, fun k p m hp => by simp at hp⟩, by simp [Value.ownBlock], by simp⟩

/-- Outside block b and the row o nothing old has turned. -/
structure Mut (w w' : World) (b : Nat) (o : Option Nat) : Prop where
  os : w'.os = w.os
  tape : w'.tape = w.tape
  output : w'.output = w.output
  size : w.heap.size ≤ w'.heap.size
  block : ∀ k, k < w.heap.size → k ≠ b → some k ≠ o → w'.heap[k]? = w.heap[k]?

theorem Mut.of_below {w w' : World} (h : Below w.heap.size w w') (b : Nat) (o : Option Nat) : Mut w w' b o :=
  ⟨h.os, h.tape, h.output, h.size, fun k hk _ _ => h.block k hk⟩
theorem Mut.trans_below {w w1 w2 : World} {b : Nat} {o : Option Nat} (h : Mut w w1 b o) (k : Below w1.heap.size w1 w2) : Mut w w2 b o :=
  ⟨k.os.trans h.os, k.tape.trans h.tape, k.output.trans h.output, Nat.le_trans h.size k.size, fun i hi a c => (k.block i (Nat.lt_of_lt_of_le hi h.size)).trans (h.block i hi a c)⟩
theorem Mut.below_trans {w w1 w2 : World} {b : Nat} {o : Option Nat} (h : Below w.heap.size w w1) (k : Mut w1 w2 b o) : Mut w w2 b o :=
  ⟨k.os.trans h.os, k.tape.trans h.tape, k.output.trans h.output, Nat.le_trans h.size k.size, fun i hi a c => (k.block i (Nat.lt_of_lt_of_le hi h.size) a c).trans (h.block i hi)⟩

theorem ownsRow_block {w w' : World} {B : Nat} {e : TypeId} {s : Nat} {v : Value} {n : Nat} {xs : List Value} (h : w.ownsRow B e s v n xs) (hk : ∀ k, v.ownBlock = some k → w'.heap[k]? = w.heap[k]?) : w'.ownsRow B e s v n xs := by
  refine ⟨h.1, ?_⟩
  rcases h.2 with hn | ⟨g, cap, cur, rfl, hb, hgg, rest⟩
  · exact .inl hn
  · exact .inr ⟨g, cap, cur, rfl, hb, by rw [hk g rfl]; exact hgg, rest⟩

theorem Gr.keep {w w' : World} {B b : Nat} {v : Value} {ms : List Mk} {cl : Bool} (h : Gr w B b v ms cl) (hb : w'.heap[b]? = w.heap[b]?) (hk : ∀ k, v.ownBlock = some k → w'.heap[k]? = w.heap[k]?) (hn : ∀ (p : Nat) (cs : Array Value), w.heap[p]? = some (.cells cs 61 (0, 0)) → w'.heap[p]? = w.heap[p]?) : Gr w' B b v ms cl := by
  obtain ⟨ps, hl, ho, hp⟩ := h.own
  refine ⟨by rw [hb]; exact h.cells, ⟨ps, hl, ownsRow_block ho hk, fun k p m h1 h2 => ?_⟩, h.ne, h.few⟩
  obtain ⟨d, t, h3⟩ := hp k p m h1 h2
  exact ⟨d, t, by rw [hn p _ h3]; exact h3⟩
theorem Gr.below {w w' : World} {B b : Nat} {v : Value} {ms : List Mk} {cl : Bool} (h : Gr w B b v ms cl) (hb : Below w.heap.size w w') : Gr w' B b v ms cl :=
  h.keep (hb.block _ (block_lt h.cells)) (fun k hk => hb.block _ (h.lt k hk).2) fun _ _ hp => hb.block _ (block_lt hp)

set_option maxHeartbeats 400000 in
theorem len_any (w : World) (B b : Nat) (v : Value) (ms : List Mk) (cl : Bool) (h : Gr w B b v ms cl) :
    Calls Try.prog 6 #[.pointer (some ⟨b, 0, none⟩)] w fun e w' => e = .returned (.int .i64 ms.length) ∧ w = w' := by
  have hb := h.cells
  obtain ⟨a, c, rfl⟩ := h.slice
  have h0 : w.cell? ⟨b, 0, none⟩ = some (.slice a ms.length c) := by rw [cell_of_row w b 0 _ _ _ hb]; rfl
  have hf := h.few
  clear h hb
  go_enter Try.func6, Try.ntmps6
  go_wp2
  go_ret
  exact ⟨rfl, rfl⟩

set_option maxHeartbeats 400000 in
theorem new_any (w : World) :
    Calls Try.prog 4 #[] w fun e w' => e = .returned (.pointer (some ⟨w.heap.size, 0, none⟩)) ∧ w' = w.alloc (.cells #[.slice none 0 0, .bool false] 43) := by
  go_enter Try.func4, Try.ntmps4
  go_wp2
  go_ret
  exact ⟨rfl, rfl⟩

theorem ret_bool {a b : Bool} (h : a = b) : Ending.returned (.bool a) = .returned (.bool b) := by rw [h]
/-- The ops that take one node, and two. -/
def oneB (op : Int) : Bool := op == 2 || op == 8
def twoB (op : Int) : Bool := op == 3 || op == 4 || op == 6 || op == 7
/-- Is it a handle? -/
def hasB (n : Nat) (h : Int) : Bool := decide (1 ≤ h) && decide (h ≤ n)
set_option maxHeartbeats 400000 in
theorem has_any (w : World) (B b : Nat) (v : Value) (ms : List Mk) (cl : Bool) (h : Gr w B b v ms cl) (k : Int) :
    Calls Try.prog 17 #[.pointer (some ⟨b, 0, none⟩), .int .i64 k] w fun e w' => e = .returned (.bool (hasB ms.length k)) ∧ w = w' := by
  have hb := h.cells
  obtain ⟨a, c, rfl⟩ := h.slice
  have h0 : w.cell? ⟨b, 0, none⟩ = some (.slice a ms.length c) := by rw [cell_of_row w b 0 _ _ _ hb]; rfl
  have hf := h.few
  clear h hb
  by_cases h1 : 1 ≤ k
  · go_enter Try.func17, Try.ntmps17
    go_wp2
    go_ret
    exact ⟨ret_bool (by simp [hasB, h1]), rfl⟩
  · go_enter Try.func17, Try.ntmps17
    go_wp2
    go_ret
    exact ⟨ret_bool (by simp [hasB]; omega), rfl⟩

set_option maxHeartbeats 400000 in
theorem takesOne_any (w : World) (op : Int) :
    Calls Try.prog 18 #[.int .i64 op] w fun e w' => e = .returned (.bool (oneB op)) ∧ w = w' := by
  go_enter Try.func18, Try.ntmps18
  go_wp2
  all_goals
    go_ret
    exact ⟨ret_bool (by simp [oneB, *]), rfl⟩

set_option maxHeartbeats 400000 in
theorem takesTwo_any (w : World) (op : Int) :
    Calls Try.prog 19 #[.int .i64 op] w fun e w' => e = .returned (.bool (twoB op)) ∧ w = w' := by
  go_enter Try.func19, Try.ntmps19
  go_wp2
  all_goals
    go_ret
    exact ⟨ret_bool (by simp [twoB, *]), rfl⟩

set_option maxHeartbeats 400000 in
theorem madeOf_any (w : World) (op a b x y z : Int) (o0 : 0 ≤ op) (o1 : op ≤ 9223372036854775807) (a0 : 0 ≤ a) (a1 : a ≤ 9223372036854775807) (b0 : 0 ≤ b) (b1 : b ≤ 9223372036854775807) :
    Calls Try.prog 14 #[.int .i64 op, .int .i64 a, .int .i64 b, .agg #[.int .u64 x, .int .u64 y, .int .u64 z]] w fun e w' => e = .returned (.agg #[.int .u64 op, .int .u64 a, .int .u64 b, .int .u64 x, .int .u64 y, .int .u64 z]) ∧ Below w.heap.size w w' := by
  go_enter Try.func14, Try.ntmps14
  go_wp2
  refine bodyPost_ret (v := .agg #[.int .u64 op, .int .u64 a, .int .u64 b, .int .u64 x, .int .u64 y, .int .u64 z]) (by simp [results, Try.results14, go_sem]) rfl ⟨rfl, ?_⟩
  go_grown

/-- The list with what a node is made of added, if it is not there and there is room; its handle; the error. -/
def addL (ms : List Mk) (m : Mk) : List Mk := if m ∈ ms then ms else if 24 ≤ ms.length then ms else ms ++ [m]
def addH (ms : List Mk) (m : Mk) : Int := if m ∈ ms then (ms.idxOf m : Int) + 1 else if 24 ≤ ms.length then 0 else (ms.length : Int) + 1
def addE (ms : List Mk) (m : Mk) : Int := if m ∈ ms then 0 else if 24 ≤ ms.length then 5 else 0

/-- The cells of the node at the place k. -/
theorem Gr.at {w : World} {B b : Nat} {v : Value} {ms : List Mk} {cl : Bool} (h : Gr w B b v ms cl) (k : Nat) (m : Mk) (hk : ms[k]? = some m) :
    ∃ g cap p, v = .slice (some ⟨g, 0, none⟩) ms.length cap ∧ B ≤ g ∧ g < w.heap.size ∧ w.cell? ⟨g, k, none⟩ = some (.pointer (some ⟨p, 0, none⟩)) ∧ ∀ j u, (mkc m)[j]? = some u → w.cell? ⟨p, j, none⟩ = some u := by
  have hlt : k < ms.length := (List.getElem?_eq_some_iff.1 hk).1
  obtain ⟨ps, hl, ho, hp⟩ := h.own
  have hpk : ps[k]? = some (ps[k]'(by omega)) := List.getElem?_eq_getElem (by omega)
  generalize ps[k]'(by omega) = p at hpk
  obtain ⟨d, t, hn⟩ := hp k p m hpk hk
  rcases ho.2 with ⟨_, h0⟩ | ⟨g, cap, cur, hv, hB, hg, hn', hc, hsz, htake⟩
  · omega
  · refine ⟨g, cap, p, hv, hB, block_lt hg, ?_, fun j u hu => ?_⟩
    · rw [cell_of_row w g _ cur _ _ hg]
      have h1 := ptrs_at ps k
      rw [← htake, List.getElem?_take, if_pos (by omega), hpk] at h1
      rw [← Array.getElem?_toList, h1]; rfl
    · have hj : j < 6 := by
        have := (List.getElem?_eq_some_iff.1 hu).1
        simpa [mkc] using this
      rw [cell_of_row w p _ _ _ _ hn]
      rw [← hu]
      match j, hj with
      | 0, _ => rfl
      | 1, _ => rfl
      | 2, _ => rfl
      | 3, _ => rfl
      | 4, _ => rfl
      | 5, _ => rfl

end Go.Proofs.Ytccogcbddpighaa
