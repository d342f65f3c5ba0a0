/- The document's own disk and power, as they lie in memory; what of them only looks, and what acts. -/
import Derived.Test.YtkpnllaegkdkkaaDLose
namespace Go.Proofs.Ytkpnllaegkdkkaa
open Go.RowKit

/-- A text as a value. -/
def sv (l : List UInt8) : Value := .string ⟨l.toArray⟩
/-- The document's power at block q. -/
def RPow (q : Nat) (gone : Bool) (left acts : Int) (w : World) : Prop := w.heap[q]? = some (.cells [Value.bool gone, .int .i64 left, .int .i64 acts].toArray 29 (0, 0))
theorem RPow.lt {q : Nat} {gone : Bool} {left acts : Int} {w : World} (h : RPow q gone left acts w) : q < w.heap.size := lt_of_heap h
theorem RPow.c0 {q : Nat} {gone : Bool} {left acts : Int} {w : World} (h : RPow q gone left acts w) : w.cell? ⟨q, 0, none⟩ = some (.bool gone) := by rw [cell_of_list h]; rfl
theorem RPow.c1 {q : Nat} {gone : Bool} {left acts : Int} {w : World} (h : RPow q gone left acts w) : w.cell? ⟨q, 1, none⟩ = some (.int .i64 left) := by rw [cell_of_list h]; rfl
theorem RPow.c2 {q : Nat} {gone : Bool} {left acts : Int} {w : World} (h : RPow q gone left acts w) : w.cell? ⟨q, 2, none⟩ = some (.int .i64 acts) := by rw [cell_of_list h]; rfl
/-- The writes that are pending, cell by cell. -/
def lateCells (ps : List Dk.Wr) : List Value := (ps.map fun x => [natv x.1, sv x.2]).flatten
theorem length_late (ps : List Dk.Wr) : (lateCells ps).length = ps.length * 2 := by
  induction ps with
  | nil => rfl
  | cons x r ih => rw [lateCells, List.map_cons, List.flatten_cons, List.length_append, List.length_cons]; simp only [lateCells] at ih; rw [ih]; simp; omega
theorem late_get (ps : List Dk.Wr) : ∀ (i : Nat), i < ps.length → (lateCells ps)[i * 2]? = some (natv (ps.getD i (0, [])).1) ∧ (lateCells ps)[i * 2 + 1]? = some (sv (ps.getD i (0, [])).2) := by
  induction ps with
  | nil => intro i h; simp at h
  | cons x r ih =>
    intro i h
    have e : lateCells (x :: r) = natv x.1 :: sv x.2 :: lateCells r := by simp [lateCells]
    cases i with
    | zero => rw [e]; exact ⟨rfl, rfl⟩
    | succ i =>
      have := ih i (by simp at h; omega)
      rw [e, show (i + 1) * 2 = i * 2 + 1 + 1 by omega]
      exact this
theorem late_snoc (ps : List Dk.Wr) (x : Dk.Wr) : lateCells (ps ++ [x]) = lateCells ps ++ [natv x.1, sv x.2] := by simp [lateCells]
/-- The document's disk at block r: its parts. -/
structure RAt (r q : Nat) (hv wv : Value) (n : Nat) (S : List (List UInt8)) (ps : List Dk.Wr) (dead : Bool) (life : Int) (w : World) : Prop where
  obj : w.heap[r]? = some (.cells [Value.pointer (some ⟨q, 0, none⟩), natv n, hv, wv, .bool dead, .int .i64 life].toArray 73 (0, 0))
  has : w.ownsRow 0 9 1 hv n (S.map sv)
  wait : w.ownsRow 0 91 2 wv ps.length (lateCells ps)
  n1 : 1 ≤ n
  n2 : n ≤ 8192
  wide : ∀ s ∈ S, s.length = 64
  wrs : ∀ x ∈ ps, x.1 < n ∧ x.2.length = 64
  few : ps.length ≤ 1000000
  q0 : q ≠ r
  oh : ∀ g, hv.ownBlock = some g → g ≠ r ∧ g ≠ q
  ow : ∀ g, wv.ownBlock = some g → g ≠ r ∧ g ≠ q ∧ hv.ownBlock ≠ some g
/-- The same, with the blocks that are its own within G. -/
def RDisk (r q : Nat) (G : List Nat) (n : Nat) (S : List (List UInt8)) (ps : List Dk.Wr) (dead : Bool) (life : Int) (w : World) : Prop :=
  ∃ hv wv, RAt r q hv wv n S ps dead life w ∧ r ∈ G ∧ (∀ g, hv.ownBlock = some g → g ∈ G) ∧ (∀ g, wv.ownBlock = some g → g ∈ G) ∧ q ∉ G ∧ ∀ x ∈ G, x < w.heap.size
section
variable {r q : Nat} {hv wv : Value} {n : Nat} {S : List (List UInt8)} {ps : List Dk.Wr} {dead : Bool} {life : Int} {w w' : World}
theorem RAt.c0 (h : RAt r q hv wv n S ps dead life w) : w.cell? ⟨r, 0, none⟩ = some (.pointer (some ⟨q, 0, none⟩)) := by rw [cell_of_list h.obj]; rfl
theorem RAt.c1 (h : RAt r q hv wv n S ps dead life w) : w.cell? ⟨r, 1, none⟩ = some (.int .i64 n) := by rw [cell_of_list h.obj]; rfl
theorem RAt.c2 (h : RAt r q hv wv n S ps dead life w) : w.cell? ⟨r, 2, none⟩ = some hv := by rw [cell_of_list h.obj]; rfl
theorem RAt.c3 (h : RAt r q hv wv n S ps dead life w) : w.cell? ⟨r, 3, none⟩ = some wv := by rw [cell_of_list h.obj]; rfl
theorem RAt.c4 (h : RAt r q hv wv n S ps dead life w) : w.cell? ⟨r, 4, none⟩ = some (.bool dead) := by rw [cell_of_list h.obj]; rfl
theorem RAt.c5 (h : RAt r q hv wv n S ps dead life w) : w.cell? ⟨r, 5, none⟩ = some (.int .i64 life) := by rw [cell_of_list h.obj]; rfl
theorem RAt.free (h : RAt r q hv wv n S ps dead life w) (j : Nat) : w.frozen? ⟨r, j, none⟩ = false := free_of_list h.obj j
theorem RAt.lt (h : RAt r q hv wv n S ps dead life w) : r < w.heap.size := lt_of_heap h.obj
theorem RAt.len (h : RAt r q hv wv n S ps dead life w) : S.length = n := by have := h.has.1; simpa using this
theorem RAt.keep (h : RAt r q hv wv n S ps dead life w) (hr : w'.heap[r]? = w.heap[r]?) (hh : ∀ g, hv.ownBlock = some g → w'.heap[g]? = w.heap[g]?) (hw : ∀ g, wv.ownBlock = some g → w'.heap[g]? = w.heap[g]?) : RAt r q hv wv n S ps dead life w' :=
  { h with obj := hr.trans h.obj, has := own_keep h.has hh, wait := own_keep h.wait hw }
/-- Where the sectors lie. -/
theorem RAt.row (h : RAt r q hv wv n S ps dead life w) : ∃ g cap, hv = .slice (some ⟨g, 0, none⟩) n cap ∧ g < w.heap.size ∧ ∀ i, i < n → w.cell? ⟨g, i, none⟩ = some (sv (S.getD i [])) := by
  rcases h.has.2 with ⟨_, h0⟩ | ⟨g, cap, cur, hv', _, hg, _⟩
  · have := h.n1; omega
  · have hl := h.len
    have ho := h.has
    subst hv'
    refine ⟨g, cap, rfl, lt_of_heap hg, fun i hi => ?_⟩
    rw [ho.cellAt i (by omega), List.getElem?_map, List.getD, List.getElem?_eq_getElem (by omega)]; rfl
/-- Where the pending writes lie. -/
theorem RAt.late (h : RAt r q hv wv n S ps dead life w) : ∃ b cap, wv = .slice b ps.length cap ∧ (0 < ps.length → ∃ g, b = some ⟨g, 0, none⟩ ∧ g < w.heap.size ∧ ∀ i, i < ps.length → w.cell? ⟨g, i * 2, none⟩ = some (.int .i64 ((ps.getD i (0, [])).1 : Int)) ∧ w.cell? ⟨g, i * 2 + 1, none⟩ = some (sv (ps.getD i (0, [])).2)) := by
  rcases h.wait.2 with ⟨hw, h0⟩ | ⟨g, cap, cur, hw, _, hg, _⟩
  · exact ⟨none, 0, by rw [hw, h0], fun h => by omega⟩
  · have ho := h.wait
    subst hw
    refine ⟨_, cap, rfl, fun _ => ⟨g, rfl, lt_of_heap hg, fun i hi => ?_⟩⟩
    have hl := late_get ps i hi
    rw [ho.cellAt (i * 2) (by omega), ho.cellAt (i * 2 + 1) (by omega), hl.1, hl.2]
    exact ⟨rfl, rfl⟩
end
theorem RDisk.keep {r q : Nat} {G : List Nat} {n : Nat} {S : List (List UInt8)} {ps : List Dk.Wr} {dead : Bool} {life : Int} {w w' : World} (h : RDisk r q G n S ps dead life w) (hz : w.heap.size ≤ w'.heap.size) (hk : ∀ x ∈ G, w'.heap[x]? = w.heap[x]?) : RDisk r q G n S ps dead life w' := by
  obtain ⟨hv, wv, h1, h2, h3, h4, h5, h6⟩ := h
  exact ⟨hv, wv, h1.keep (hk _ h2) (fun g hg => hk _ (h3 g hg)) (fun g hg => hk _ (h4 g hg)), h2, h3, h4, h5, fun x hx => Nat.lt_of_lt_of_le (h6 x hx) hz⟩
theorem RDisk.kept {r q : Nat} {G : List Nat} {n : Nat} {S : List (List UInt8)} {ps : List Dk.Wr} {dead : Bool} {life : Int} {w w' : World} {ws : List Nat} (h : RDisk r q G n S ps dead life w) (hk : Kept w.heap.size ws w w') (hn : ∀ x ∈ G, x ∉ ws) : RDisk r q G n S ps dead life w' := by
  have hG := h
  obtain ⟨_, _, _, _, _, _, _, h6⟩ := hG
  exact h.keep hk.size (fun x hx => hk.block x (h6 x hx) (hn x hx))

/-! What is answered first. -/
section
variable {r q : Nat} {hv wv : Value} {n : Nat} {S : List (List UInt8)} {ps : List Dk.Wr} {dead : Bool} {life left acts : Int} {w : World}
theorem bad_gone (h : RAt r q hv wv n S ps dead life w) (hp : RPow q true left acts w) (a : Int) : Calls Try.prog 49 #[.pointer (some ⟨r, 0, none⟩), .int .i64 a] w fun e w' => e = .returned (.int .i64 10) ∧ w = w' := by
  have c0 := h.c0
  have p0 := hp.c0
  clear h hp
  go_enter Try.func49, Try.ntmps49
  go_wp2
  go_ret
  exact ⟨rfl, rfl⟩
theorem bad_dead (h : RAt r q hv wv n S ps true life w) (hp : RPow q false left acts w) (a : Int) : Calls Try.prog 49 #[.pointer (some ⟨r, 0, none⟩), .int .i64 a] w fun e w' => e = .returned (.int .i64 11) ∧ w = w' := by
  have c0 := h.c0
  have c4 := h.c4
  have p0 := hp.c0
  clear h hp
  go_enter Try.func49, Try.ntmps49
  go_wp2
  go_ret
  exact ⟨rfl, rfl⟩
theorem bad_at (h : RAt r q hv wv n S ps false life w) (hp : RPow q false left acts w) (a : Int) (ha : a < 0 ∨ (n : Int) ≤ a) : Calls Try.prog 49 #[.pointer (some ⟨r, 0, none⟩), .int .i64 a] w fun e w' => e = .returned (.int .i64 1) ∧ w = w' := by
  have c0 := h.c0
  have c1 := h.c1
  have c4 := h.c4
  have p0 := hp.c0
  clear h hp
  by_cases h0 : a < 0
  · clear ha
    go_enter Try.func49, Try.ntmps49
    go_wp2
    go_ret
    exact ⟨rfl, rfl⟩
  · have h1 : (n : Int) ≤ a := by omega
    have h2 : 0 ≤ a := by omega
    clear ha
    go_enter Try.func49, Try.ntmps49
    go_wp2
    go_ret
    exact ⟨rfl, rfl⟩
theorem bad_ok (h : RAt r q hv wv n S ps false life w) (hp : RPow q false left acts w) (a : Nat) (ha : a < n) : Calls Try.prog 49 #[.pointer (some ⟨r, 0, none⟩), .int .i64 a] w fun e w' => e = .returned (.int .i64 0) ∧ w = w' := by
  have c0 := h.c0
  have c1 := h.c1
  have c4 := h.c4
  have p0 := hp.c0
  clear h hp
  go_enter Try.func49, Try.ntmps49
  go_wp2
  go_ret
  exact ⟨rfl, rfl⟩
end
/-! An act. -/
theorem ract_cut (q : Nat) (acts : Int) (w : World) (h : RPow q false 0 acts w) : Calls Try.prog 51 #[.pointer (some ⟨q, 0, none⟩)] w fun e w' => e = .returned (.bool false) ∧ RPow q true 0 acts w' ∧ Kept w.heap.size [q] w w' := by
  have c0 := h.c0
  have c1 := h.c1
  have f0 := free_of_list h
  have H := Lib.hid h
  clear h
  go_enter Try.func51, Try.ntmps51
  go_wp2
  go_ret
  exact ⟨rfl, set_list H.out 0 _, (Kept.refl _ _ _).setCell (p := ⟨q, 0, none⟩) (by simp) _⟩
set_option maxHeartbeats 1000000 in
theorem ract_ok (q : Nat) (left acts : Int) (hf : left ≠ 0) (hf1 : -1 ≤ left) (hf2 : left ≤ 9223372036854775807) (ha0 : 0 ≤ acts) (ha : acts ≤ 1000000000000) (w : World) (h : RPow q false left acts w) :
    Calls Try.prog 51 #[.pointer (some ⟨q, 0, none⟩)] w fun e w' => e = .returned (.bool true) ∧ RPow q false (less left) (acts + 1) w' ∧ Kept w.heap.size [q] w w' := by
  have c0 := h.c0
  have c1 := h.c1
  have c2 := h.c2
  have f0 := free_of_list h
  have hb : (left == 0) = false := by rw [beq_eq_false_iff_ne]; exact hf
  have H := Lib.hid h
  clear h
  by_cases hp : 0 < left
  · have hl : less left = left - 1 := by rw [less, if_pos hp]
    have HL := Lib.hid hl
    clear hl
    go_enter Try.func51, Try.ntmps51
    go_wp2
    go_ret
    rw [HL.out]
    refine ⟨rfl, ?_, ((Kept.refl _ _ _).setCell (p := ⟨q, 1, none⟩) (by simp) _).setCell (p := ⟨q, 2, none⟩) (by simp) _⟩
    exact set_list (set_list H.out 1 _) 2 _
  · have hl : less left = left := by rw [less, if_neg hp]
    have HL := Lib.hid hl
    clear hl
    go_enter Try.func51, Try.ntmps51
    go_wp2
    go_ret
    rw [HL.out]
    exact ⟨rfl, set_list H.out 2 _, (Kept.refl _ _ _).setCell (p := ⟨q, 2, none⟩) (by simp) _⟩
end Go.Proofs.Ytkpnllaegkdkkaa
