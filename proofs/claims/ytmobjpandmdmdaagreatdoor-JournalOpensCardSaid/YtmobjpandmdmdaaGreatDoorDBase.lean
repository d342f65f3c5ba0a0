/- A disk and its power as they lie in memory; the walks of what only looks at them. -/
import Derived.Test.YtmobjpandmdmdaaGreatDoorRows
import Derived.Test.YtmobjpandmdmdaaGreatDoorDSpec
import Derived.Test.YtmobjpandmdmdaaGreatDoorWord2
namespace Go.Proofs.YtmobjpandmdmdaaGreatDoor
open Go.RowKit

def natv (n : Nat) : Value := .int .i64 (n : Int)
theorem natv_eq (n : Nat) : natv n = .int .i64 (n : Int) := rfl
/-- The cells of sectors, of writes that wait. -/
def sectCells (S : List (List UInt8)) : List Value := S.flatten.map u8v
def wrCells (x : Dk.Wr) : List Value := natv x.1 :: x.2.map u8v
def pendCells (ps : List Dk.Wr) : List Value := (ps.map wrCells).flatten
theorem flat_length {α : Type} {n : Nat} {S : List (List α)} (h : ∀ s ∈ S, s.length = n) : S.flatten.length = S.length * n := by
  induction S with
  | nil => simp
  | cons s r ih =>
    rw [List.flatten_cons, List.length_append, ih (fun x hx => h x (List.mem_cons_of_mem _ hx)), h s List.mem_cons_self, List.length_cons, Nat.succ_mul]; omega
theorem flat_split {α : Type} {n a : Nat} {S : List (List α)} (h : ∀ s ∈ S, s.length = n) (ha : a < S.length) :
    ∃ A C, A.length = a * n ∧ S.flatten = A ++ (S.getD a [] ++ C) ∧ ∀ x, (S.set a x).flatten = A ++ (x ++ C) := by
  refine ⟨(S.take a).flatten, (S.drop (a + 1)).flatten, ?_, ?_, ?_⟩
  · rw [flat_length (n := n) (fun s hs => h s (List.mem_of_mem_take hs)), List.length_take, Nat.min_eq_left (by omega)]
  · conv => lhs; rw [← List.take_append_drop a S, List.drop_eq_getElem_cons ha, List.flatten_append, List.flatten_cons]
    rw [List.getD, List.getElem?_eq_getElem ha]; rfl
  · intro x
    rw [List.set_eq_take_append_cons_drop, if_pos ha, List.flatten_append, List.flatten_cons]
theorem sect_split {S : List (List UInt8)} {a : Nat} (h : ∀ s ∈ S, s.length = 64) (ha : a < S.length) :
    ∃ A C, A.length = a * 64 ∧ sectCells S = A ++ ((S.getD a []).map u8v ++ C) ∧ ∀ x, sectCells (S.set a x) = A ++ (x.map u8v ++ C) := by
  obtain ⟨A, C, h1, h2, h3⟩ := flat_split h ha
  refine ⟨A.map u8v, C.map u8v, by rw [List.length_map, h1], ?_, fun x => ?_⟩
  · rw [sectCells, h2, List.map_append, List.map_append]
  · rw [sectCells, h3, List.map_append, List.map_append]
theorem length_sectCells {S : List (List UInt8)} (h : ∀ s ∈ S, s.length = 64) : (sectCells S).length = S.length * 64 := by rw [sectCells, List.length_map, flat_length h]
theorem pend_split {n : Nat} {ps : List Dk.Wr} {k : Nat} (h : ∀ x ∈ ps, x.1 < n ∧ x.2.length = 64) (hk : k < ps.length) :
    ∃ A C, A.length = k * 65 ∧ pendCells ps = A ++ (wrCells (ps.getD k (0, [])) ++ C) := by
  have hS : ∀ s ∈ ps.map wrCells, s.length = 65 := fun s hs => by
    obtain ⟨x, hx, rfl⟩ := List.mem_map.1 hs
    rw [wrCells, List.length_cons, List.length_map, (h x hx).2]
  obtain ⟨A, C, h1, h2, _⟩ := flat_split hS (a := k) (by rw [List.length_map]; exact hk)
  refine ⟨A, C, h1, ?_⟩
  rw [pendCells, h2, List.getD, List.getElem?_map, List.getD, List.getElem?_eq_getElem hk]; rfl
theorem pend_snoc (ps : List Dk.Wr) (x : Dk.Wr) : pendCells (ps ++ [x]) = pendCells ps ++ wrCells x := by simp [pendCells]
theorem wr_ones (x : Dk.Wr) : ∀ v ∈ wrCells x, v.oneCell' = true := by
  intro v hv
  rw [wrCells] at hv
  rcases List.mem_cons.1 hv with rfl | h
  · rfl
  · obtain ⟨y, _, rfl⟩ := List.mem_map.1 h; rfl
theorem range_mid {w : World} {b o : Nat} {A B C : List Value} {t : TypeId} {fr : Nat × Nat} (h : w.heap[b]? = some (.cells (A ++ (B ++ C)).toArray t fr)) (hA : A.length = o) : w.rangeAt b o B := by
  intro j v hv
  have hj : j < B.length := by
    rcases Nat.lt_or_ge j B.length with h | h
    · exact h
    · rw [List.getElem?_eq_none h] at hv; cases hv
  rw [cell_of_list h, List.getElem?_append_right (by omega), List.getElem?_append_left (by omega), show o + j - A.length = j from by omega]; exact hv

/-- A power at block p. -/
def PowerAt (p : Nat) (gone : Bool) (fuse acts : Int) (w : World) : Prop := w.heap[p]? = some (.cells [Value.bool gone, .int .i64 fuse, .int .i64 acts].toArray 98 (0, 0))
theorem PowerAt.lt {p : Nat} {gone : Bool} {fuse acts : Int} {w : World} (h : PowerAt p gone fuse acts w) : p < w.heap.size := lt_of_heap h
theorem PowerAt.keep {p : Nat} {gone : Bool} {fuse acts : Int} {w w' : World} (h : PowerAt p gone fuse acts w) (hk : w'.heap[p]? = w.heap[p]?) : PowerAt p gone fuse acts w' := hk.trans h
theorem PowerAt.c0 {p : Nat} {gone : Bool} {fuse acts : Int} {w : World} (h : PowerAt p gone fuse acts w) : w.cell? ⟨p, 0, none⟩ = some (.bool gone) := by rw [cell_of_list h]; rfl
theorem PowerAt.c1 {p : Nat} {gone : Bool} {fuse acts : Int} {w : World} (h : PowerAt p gone fuse acts w) : w.cell? ⟨p, 1, none⟩ = some (.int .i64 fuse) := by rw [cell_of_list h]; rfl
theorem PowerAt.c2 {p : Nat} {gone : Bool} {fuse acts : Int} {w : World} (h : PowerAt p gone fuse acts w) : w.cell? ⟨p, 2, none⟩ = some (.int .i64 acts) := by rw [cell_of_list h]; rfl

/-- A disk that lives, at block d: its parts. -/
structure LiveAt (d p bl bn : Nat) (pv : Value) (n : Nat) (S : List (List UInt8)) (ps : List Dk.Wr) (life : Int) (w : World) : Prop where
  obj : w.heap[d]? = some (.cells [Value.pointer (some ⟨p, 0, none⟩), .slice (some ⟨bl, 0, none⟩) n n, pv, .slice (some ⟨bn, 0, none⟩) n n, natv n, .int .i64 life].toArray 66 (0, 0))
  lst : w.heap[bl]? = some (.cells (sectCells S).toArray 104 (0, 0))
  nws : w.heap[bn]? = some (.cells ((Dk.news n ps).map natv).toArray 3 (0, 0))
  pnd : w.ownsRow 0 106 65 pv ps.length (pendCells ps)
  len : S.length = n
  n1 : 1 ≤ n
  n2 : n ≤ 8192
  wide : ∀ s ∈ S, s.length = 64
  wrs : ∀ x ∈ ps, x.1 < n ∧ x.2.length = 64
  few : ps.length ≤ 1000000
  d1 : d ≠ bl
  d2 : d ≠ bn
  d3 : bl ≠ bn
  p0 : p ≠ d
  p1 : p ≠ bl
  p2 : p ≠ bn
  own : ∀ g, pv.ownBlock = some g → g ≠ d ∧ g ≠ bl ∧ g ≠ bn ∧ g ≠ p
/-- The same, with the blocks that are its own within F. -/
def Live (d p : Nat) (F : List Nat) (n : Nat) (S : List (List UInt8)) (ps : List Dk.Wr) (life : Int) (w : World) : Prop :=
  ∃ bl bn pv, LiveAt d p bl bn pv n S ps life w ∧ d ∈ F ∧ bl ∈ F ∧ bn ∈ F ∧ (∀ g, pv.ownBlock = some g → g ∈ F) ∧ p ∉ F ∧ ∀ x ∈ F, x < w.heap.size
theorem own_keep {w w' : World} {B size : Nat} {e : TypeId} {v : Value} {n : Nat} {xs : List Value} (h : w.ownsRow B e size v n xs) (hk : ∀ g, v.ownBlock = some g → w'.heap[g]? = w.heap[g]?) : w'.ownsRow B e size v n xs := by
  refine ⟨h.1, ?_⟩
  rcases h.2 with hn | ⟨g, cap, cur, rfl, hb, hgg, rest⟩
  · exact .inl hn
  · exact .inr ⟨g, cap, cur, rfl, hb, (hk g rfl).trans hgg, rest⟩
theorem LiveAt.keep {d p bl bn : Nat} {pv : Value} {n : Nat} {S : List (List UInt8)} {ps : List Dk.Wr} {life : Int} {w w' : World} (h : LiveAt d p bl bn pv n S ps life w)
    (hd : w'.heap[d]? = w.heap[d]?) (hl : w'.heap[bl]? = w.heap[bl]?) (hn : w'.heap[bn]? = w.heap[bn]?) (hp : ∀ g, pv.ownBlock = some g → w'.heap[g]? = w.heap[g]?) : LiveAt d p bl bn pv n S ps life w' :=
  { h with obj := hd.trans h.obj, lst := hl.trans h.lst, nws := hn.trans h.nws, pnd := own_keep h.pnd hp }
theorem Live.keep {d p : Nat} {F : List Nat} {n : Nat} {S : List (List UInt8)} {ps : List Dk.Wr} {life : Int} {w w' : World} (h : Live d p F n S ps life w) (hz : w.heap.size ≤ w'.heap.size)
    (hk : ∀ x ∈ F, w'.heap[x]? = w.heap[x]?) : Live d p F n S ps life w' := by
  obtain ⟨bl, bn, pv, h1, h2, h3, h4, h5, h6, h7⟩ := h
  exact ⟨bl, bn, pv, h1.keep (hk _ h2) (hk _ h3) (hk _ h4) (fun g hg => hk _ (h5 g hg)), h2, h3, h4, h5, h6, fun x hx => Nat.lt_of_lt_of_le (h7 x hx) hz⟩
theorem Live.kept {d p : Nat} {F : List Nat} {n : Nat} {S : List (List UInt8)} {ps : List Dk.Wr} {life : Int} {w w' : World} {ws : List Nat} (h : Live d p F n S ps life w) (hk : Kept w.heap.size ws w w')
    (hn : ∀ x ∈ F, x ∉ ws) : Live d p F n S ps life w' := by
  have hF := h
  obtain ⟨_, _, _, _, _, _, _, _, _, h7⟩ := hF
  exact h.keep hk.size (fun x hx => hk.block x (h7 x hx) (hn x hx))
theorem Live.below {d p : Nat} {F : List Nat} {n : Nat} {S : List (List UInt8)} {ps : List Dk.Wr} {life : Int} {w w' : World} (h : Live d p F n S ps life w) (hb : Below w.heap.size w w') : Live d p F n S ps life w' :=
  h.kept (ws := []) (Kept.of_below hb) (by simp)
section
variable {d p bl bn : Nat} {pv : Value} {n : Nat} {S : List (List UInt8)} {ps : List Dk.Wr} {life : Int} {w : World}
theorem LiveAt.c0 (h : LiveAt d p bl bn pv n S ps life w) : w.cell? ⟨d, 0, none⟩ = some (.pointer (some ⟨p, 0, none⟩)) := by rw [cell_of_list h.obj]; rfl
theorem LiveAt.c1 (h : LiveAt d p bl bn pv n S ps life w) : w.cell? ⟨d, 1, none⟩ = some (.slice (some ⟨bl, 0, none⟩) n n) := by rw [cell_of_list h.obj]; rfl
theorem LiveAt.c2 (h : LiveAt d p bl bn pv n S ps life w) : w.cell? ⟨d, 2, none⟩ = some pv := by rw [cell_of_list h.obj]; rfl
theorem LiveAt.c3 (h : LiveAt d p bl bn pv n S ps life w) : w.cell? ⟨d, 3, none⟩ = some (.slice (some ⟨bn, 0, none⟩) n n) := by rw [cell_of_list h.obj]; rfl
theorem LiveAt.c4 (h : LiveAt d p bl bn pv n S ps life w) : w.cell? ⟨d, 4, none⟩ = some (.int .i64 n) := by rw [cell_of_list h.obj]; rfl
theorem LiveAt.c5 (h : LiveAt d p bl bn pv n S ps life w) : w.cell? ⟨d, 5, none⟩ = some (.int .i64 life) := by rw [cell_of_list h.obj]; rfl
theorem LiveAt.free (h : LiveAt d p bl bn pv n S ps life w) (j : Nat) : w.frozen? ⟨d, j, none⟩ = false := free_of_list h.obj j
theorem LiveAt.lt (h : LiveAt d p bl bn pv n S ps life w) : d < w.heap.size := lt_of_heap h.obj
theorem LiveAt.slice (h : LiveAt d p bl bn pv n S ps life w) : ∃ a cap, pv = .slice a ps.length cap := by
  rcases h.pnd.2 with ⟨hv, h0⟩ | ⟨g, cap, cur, hv, _⟩
  · exact ⟨none, 0, by rw [hv, h0]⟩
  · exact ⟨_, cap, hv⟩
end

/-! What only looks. -/
theorem NewPower_any (w : World) : Calls Tryz.prog 23 #[] w fun e w' => ∃ p, w.heap.size ≤ p ∧ e = .returned (.pointer (some ⟨p, 0, none⟩)) ∧ PowerAt p false (-1) 0 w' ∧ Below w.heap.size w w' := by
  go_enter Tryz.func23, Tryz.ntmps23
  go_wp2
  go_ret
  exact ⟨w.heap.size, Nat.le_refl _, rfl, heap_alloc_new _ _, (Below.refl _ _).alloc (Nat.le_refl _) _⟩
theorem has_yes (d : Nat) (bl n a : Nat) (ha : a < n) (w : World) (h : w.cell? ⟨d, 1, none⟩ = some (.slice (some ⟨bl, 0, none⟩) n n)) :
    Calls Tryz.prog 30 #[.pointer (some ⟨d, 1, none⟩), .int .i64 a] w fun e w' => e = .returned (.bool true) ∧ w = w' := by
  go_enter Tryz.func30, Tryz.ntmps30
  go_wp2
  go_ret
  exact ⟨rfl, rfl⟩
theorem Dead_no (d : Nat) (bl n : Nat) (h0 : 0 < n) (hn : n ≤ 8192) (w : World) (h : w.cell? ⟨d, 1, none⟩ = some (.slice (some ⟨bl, 0, none⟩) n n)) :
    Calls Tryz.prog 50 #[.pointer (some ⟨d, 0, none⟩)] w fun e w' => e = .returned (.bool false) ∧ w = w' := by
  have hb : ((n : Int) == 0) = false := by rw [beq_eq_false_iff_ne]; omega
  go_enter Tryz.func50, Tryz.ntmps50
  go_wp2
  go_ret
  exact ⟨rfl, rfl⟩
theorem ready_ok (d p bl bn : Nat) (pv : Value) (n : Nat) (S : List (List UInt8)) (ps : List Dk.Wr) (life fuse acts : Int) (w : World) (h : LiveAt d p bl bn pv n S ps life w) (hp : PowerAt p false fuse acts w) :
    Calls Tryz.prog 29 #[.pointer (some ⟨d, 0, none⟩)] w fun e w' => e = .returned .nilIface ∧ w = w' := by
  have c0 := h.c0
  have c1 := h.c1
  have q0 := hp.c0
  have h1 := h.n1
  have h2 := h.n2
  clear h hp
  go_enter Tryz.func29, Tryz.ntmps29
  go_wp2_with (go_at_call 50; refine (Dead_no d bl n (by omega) (by omega) _ c1).mono ?_; rintro e w' ⟨rfl, rfl⟩)
  go_ret
  exact ⟨rfl, rfl⟩
theorem Pending_any (d p bl bn : Nat) (pv : Value) (n : Nat) (S : List (List UInt8)) (ps : List Dk.Wr) (life : Int) (w : World) (h : LiveAt d p bl bn pv n S ps life w) :
    Calls Tryz.prog 56 #[.pointer (some ⟨d, 0, none⟩)] w fun e w' => e = .returned (.int .i64 ps.length) ∧ w = w' := by
  obtain ⟨a, cap, rfl⟩ := h.slice
  have c2 := h.c2
  have hf := h.few
  clear h
  go_enter Tryz.func56, Tryz.ntmps56
  go_wp2
  go_ret
  exact ⟨rfl, rfl⟩
/-- The fuse behind an act. -/
def less (fuse : Int) : Int := if 0 < fuse then fuse - 1 else fuse
theorem act_ok (p : Nat) (fuse acts : Int) (hf : fuse ≠ 0) (hf1 : -1 ≤ fuse) (hf2 : fuse ≤ 9223372036854775807) (ha0 : 0 ≤ acts) (ha : acts ≤ 1000000000000) (w : World) (h : PowerAt p false fuse acts w) :
    Calls Tryz.prog 32 #[.pointer (some ⟨p, 0, none⟩)] w fun e w' => e = .returned .nilIface ∧ PowerAt p false (less fuse) (acts + 1) w' ∧ Kept w.heap.size [p] w w' := by
  have c0 := h.c0
  have c1 := h.c1
  have c2 := h.c2
  have f0 := free_of_list h
  have hb : (fuse == 0) = false := by rw [beq_eq_false_iff_ne]; exact hf
  have H := Lib.hid h
  clear h hf
  by_cases hp : 0 < fuse
  · go_enter Tryz.func32, Tryz.ntmps32
    go_wp2
    go_ret
    refine ⟨rfl, ?_, ((Kept.refl _ _ _).setCell (by simp) _).setCell (by simp) _⟩
    rw [PowerAt, less, if_pos hp]
    exact (set_list (set_list H.out 1 _) 2 _)
  · go_enter Tryz.func32, Tryz.ntmps32
    go_wp2
    go_ret
    refine ⟨rfl, ?_, (Kept.refl _ _ _).setCell (by simp) _⟩
    rw [PowerAt, less, if_neg (by omega)]
    exact set_list H.out 2 _
end Go.Proofs.YtmobjpandmdmdaaGreatDoor
