/- Several texts in one, in the order in which they build: DBase DNew DRead. -/
import Derived.Test.YtbljhodnpddpiaaGreatDoorRows
import Derived.Test.YtbljhodnpddpiaaGreatDoorQ01
import Derived.RegionTactic
/- A disk and its power as they lie in memory; the walks of what only looks at them. -/
namespace Go.Proofs.YtbljhodnpddpiaaGreatDoor
open Go.RowKit

def natv (n : Nat) : Value := .int .i64 (n : Int)
theorem natv_eq (n : Nat) : natv n = .int .i64 (n : Int) := rfl
/-- The cells of sectors, of writes that wait. -/
def sectCells (S : List (List UInt8)) : List Value := S.flatten.map u8v
def wrCells (x : Dk.Wr) : List Value := natv x.1 :: x.2.map u8v
def pendCells (ps : List Dk.Wr) : List Value := (ps.map wrCells).flatten
theorem flat_length {α : Type} {n : Nat} {S : List (List α)} (h : ∀ s ∈ S, s.length = n) : S.flatten.length = S.length * n := by
  induction S with
  | nil => simp
  | cons s r ih =>
    rw [List.flatten_cons, List.length_append, ih (fun x hx => h x (List.mem_cons_of_mem _ hx)), h s List.mem_cons_self, List.length_cons, Nat.succ_mul]; omega
theorem flat_split {α : Type} {n a : Nat} {S : List (List α)} (h : ∀ s ∈ S, s.length = n) (ha : a < S.length) :
    ∃ A C, A.length = a * n ∧ S.flatten = A ++ (S.getD a [] ++ C) ∧ ∀ x, (S.set a x).flatten = A ++ (x ++ C) := by
  refine ⟨(S.take a).flatten, (S.drop (a + 1)).flatten, ?_, ?_, ?_⟩
  · rw [flat_length (n := n) (fun s hs => h s (List.mem_of_mem_take hs)), List.length_take, Nat.min_eq_left (by omega)]
  · conv => lhs; rw [← List.take_append_drop a S, List.drop_eq_getElem_cons ha, List.flatten_append, List.flatten_cons]
    rw [List.getD, List.getElem?_eq_getElem ha]; rfl
  · intro x
    rw [List.set_eq_take_append_cons_drop, if_pos ha, List.flatten_append, List.flatten_cons]
theorem sect_split {S : List (List UInt8)} {a : Nat} (h : ∀ s ∈ S, s.length = 64) (ha : a < S.length) :
    ∃ A C, A.length = a * 64 ∧ sectCells S = A ++ ((S.getD a []).map u8v ++ C) ∧ ∀ x, sectCells (S.set a x) = A ++ (x.map u8v ++ C) := by
  obtain ⟨A, C, h1, h2, h3⟩ := flat_split h ha
  refine ⟨A.map u8v, C.map u8v, by rw [List.length_map, h1], ?_, fun x => ?_⟩
  · rw [sectCells, h2, List.map_append, List.map_append]
  · rw [sectCells, h3, List.map_append, List.map_append]
theorem length_sectCells {S : List (List UInt8)} (h : ∀ s ∈ S, s.length = 64) : (sectCells S).length = S.length * 64 := by rw [sectCells, List.length_map, flat_length h]
theorem pend_split {n : Nat} {ps : List Dk.Wr} {k : Nat} (h : ∀ x ∈ ps, x.1 < n ∧ x.2.length = 64) (hk : k < ps.length) :
    ∃ A C, A.length = k * 65 ∧ pendCells ps = A ++ (wrCells (ps.getD k (0, [])) ++ C) := by
  have hS : ∀ s ∈ ps.map wrCells, s.length = 65 := fun s hs => by
    obtain ⟨x, hx, rfl⟩ := List.mem_map.1 hs
    rw [wrCells, List.length_cons, List.length_map, (h x hx).2]
  obtain ⟨A, C, h1, h2, _⟩ := flat_split hS (a := k) (by rw [List.length_map]; exact hk)
  refine ⟨A, C, h1, ?_⟩
  rw [pendCells, h2, List.getD, List.getElem?_map, List.getD, List.getElem?_eq_getElem hk]; rfl
theorem pend_snoc (ps : List Dk.Wr) (x : Dk.Wr) : pendCells (ps ++ [x]) = pendCells ps ++ wrCells x := by simp [pendCells]
theorem wr_ones (x : Dk.Wr) : ∀ v ∈ wrCells x, v.oneCell' = true := by
  intro v hv
  rw [wrCells] at hv
  rcases List.mem_cons.1 hv with rfl | h
  · rfl
  · obtain ⟨y, _, rfl⟩ := List.mem_map.1 h; rfl
theorem range_mid {w : World} {b o : Nat} {A B C : List Value} {t : TypeId} {fr : Nat × Nat} (h : w.heap[b]? = some (.cells (A ++ (B ++ C)).toArray t fr)) (hA : A.length = o) : w.rangeAt b o B := by
  intro j v hv
  have hj : j < B.length := by
    rcases Nat.lt_or_ge j B.length with h | h
    · exact h
    · rw [List.getElem?_eq_none h] at hv; cases hv
  rw [cell_of_list h, List.getElem?_append_right (by omega), List.getElem?_append_left (by omega), show o + j - A.length = j from by omega]; exact hv

/-- A power at block p. -/
def PowerAt (p : Nat) (gone : Bool) (fuse acts : Int) (w : World) : Prop := w.heap[p]? = some (.cells [Value.bool gone, .int .i64 fuse, .int .i64 acts].toArray 105 (0, 0))
theorem PowerAt.lt {p : Nat} {gone : Bool} {fuse acts : Int} {w : World} (h : PowerAt p gone fuse acts w) : p < w.heap.size := lt_of_heap h
theorem PowerAt.keep {p : Nat} {gone : Bool} {fuse acts : Int} {w w' : World} (h : PowerAt p gone fuse acts w) (hk : w'.heap[p]? = w.heap[p]?) : PowerAt p gone fuse acts w' := hk.trans h
theorem PowerAt.c0 {p : Nat} {gone : Bool} {fuse acts : Int} {w : World} (h : PowerAt p gone fuse acts w) : w.cell? ⟨p, 0, none⟩ = some (.bool gone) := by rw [cell_of_list h]; rfl
theorem PowerAt.c1 {p : Nat} {gone : Bool} {fuse acts : Int} {w : World} (h : PowerAt p gone fuse acts w) : w.cell? ⟨p, 1, none⟩ = some (.int .i64 fuse) := by rw [cell_of_list h]; rfl
theorem PowerAt.c2 {p : Nat} {gone : Bool} {fuse acts : Int} {w : World} (h : PowerAt p gone fuse acts w) : w.cell? ⟨p, 2, none⟩ = some (.int .i64 acts) := by rw [cell_of_list h]; rfl

/-- A disk that lives, at block d: its parts. -/
structure LiveAt (d p bl bn : Nat) (pv : Value) (n : Nat) (S : List (List UInt8)) (ps : List Dk.Wr) (life : Int) (w : World) : Prop where
  obj : w.heap[d]? = some (.cells [Value.pointer (some ⟨p, 0, none⟩), .slice (some ⟨bl, 0, none⟩) n n, pv, .slice (some ⟨bn, 0, none⟩) n n, natv n, .int .i64 life].toArray 68 (0, 0))
  lst : w.heap[bl]? = some (.cells (sectCells S).toArray 109 (0, 0))
  nws : w.heap[bn]? = some (.cells ((Dk.news n ps).map natv).toArray 3 (0, 0))
  pnd : w.ownsRow 0 111 65 pv ps.length (pendCells ps)
  len : S.length = n
  n1 : 1 ≤ n
  n2 : n ≤ 8192
  wide : ∀ s ∈ S, s.length = 64
  wrs : ∀ x ∈ ps, x.1 < n ∧ x.2.length = 64
  few : ps.length ≤ 1000000
  d1 : d ≠ bl
  d2 : d ≠ bn
  d3 : bl ≠ bn
  p0 : p ≠ d
  p1 : p ≠ bl
  p2 : p ≠ bn
  own : ∀ g, pv.ownBlock = some g → g ≠ d ∧ g ≠ bl ∧ g ≠ bn ∧ g ≠ p
/-- The same, with the blocks that are its own within F. -/
def Live (d p : Nat) (F : List Nat) (n : Nat) (S : List (List UInt8)) (ps : List Dk.Wr) (life : Int) (w : World) : Prop :=
  ∃ bl bn pv, LiveAt d p bl bn pv n S ps life w ∧ d ∈ F ∧ bl ∈ F ∧ bn ∈ F ∧ (∀ g, pv.ownBlock = some g → g ∈ F) ∧ p ∉ F ∧ ∀ x ∈ F, x < w.heap.size
theorem own_keep {w w' : World} {B size : Nat} {e : TypeId} {v : Value} {n : Nat} {xs : List Value} (h : w.ownsRow B e size v n xs) (hk : ∀ g, v.ownBlock = some g → w'.heap[g]? = w.heap[g]?) : w'.ownsRow B e size v n xs := by
  refine ⟨h.1, ?_⟩
  rcases h.2 with hn | ⟨g, cap, cur, rfl, hb, hgg, rest⟩
  · exact .inl hn
  · exact .inr ⟨g, cap, cur, rfl, hb, (hk g rfl).trans hgg, rest⟩
theorem LiveAt.keep {d p bl bn : Nat} {pv : Value} {n : Nat} {S : List (List UInt8)} {ps : List Dk.Wr} {life : Int} {w w' : World} (h : LiveAt d p bl bn pv n S ps life w)
    (hd : w'.heap[d]? = w.heap[d]?) (hl : w'.heap[bl]? = w.heap[bl]?) (hn : w'.heap[bn]? = w.heap[bn]?) (hp : ∀ g, pv.ownBlock = some g → w'.heap[g]? = w.heap[g]?) : LiveAt d p bl bn pv n S ps life w' :=
  { h with obj := hd.trans h.obj, lst := hl.trans h.lst, nws := hn.trans h.nws, pnd := own_keep h.pnd hp }
theorem Live.keep {d p : Nat} {F : List Nat} {n : Nat} {S : List (List UInt8)} {ps : List Dk.Wr} {life : Int} {w w' : World} (h : Live d p F n S ps life w) (hz : w.heap.size ≤ w'.heap.size)
    (hk : ∀ x ∈ F, w'.heap[x]? = w.heap[x]?) : Live d p F n S ps life w' := by
  obtain ⟨bl, bn, pv, h1, h2, h3, h4, h5, h6, h7⟩ := h
  exact ⟨bl, bn, pv, h1.keep (hk _ h2) (hk _ h3) (hk _ h4) (fun g hg => hk _ (h5 g hg)), h2, h3, h4, h5, h6, fun x hx => Nat.lt_of_lt_of_le (h7 x hx) hz⟩
theorem Live.kept {d p : Nat} {F : List Nat} {n : Nat} {S : List (List UInt8)} {ps : List Dk.Wr} {life : Int} {w w' : World} {ws : List Nat} (h : Live d p F n S ps life w) (hk : Kept w.heap.size ws w w')
    (hn : ∀ x ∈ F, x ∉ ws) : Live d p F n S ps life w' := by
  have hF := h
  obtain ⟨_, _, _, _, _, _, _, _, _, h7⟩ := hF
  exact h.keep hk.size (fun x hx => hk.block x (h7 x hx) (hn x hx))
theorem Live.below {d p : Nat} {F : List Nat} {n : Nat} {S : List (List UInt8)} {ps : List Dk.Wr} {life : Int} {w w' : World} (h : Live d p F n S ps life w) (hb : Below w.heap.size w w') : Live d p F n S ps life w' :=
  h.kept (ws := []) (Kept.of_below hb) (by simp)
section
variable {d p bl bn : Nat} {pv : Value} {n : Nat} {S : List (List UInt8)} {ps : List Dk.Wr} {life : Int} {w : World}
theorem LiveAt.c0 (h : LiveAt d p bl bn pv n S ps life w) : w.cell? ⟨d, 0, none⟩ = some (.pointer (some ⟨p, 0, none⟩)) := by rw [cell_of_list h.obj]; rfl
theorem LiveAt.c1 (h : LiveAt d p bl bn pv n S ps life w) : w.cell? ⟨d, 1, none⟩ = some (.slice (some ⟨bl, 0, none⟩) n n) := by rw [cell_of_list h.obj]; rfl
theorem LiveAt.c2 (h : LiveAt d p bl bn pv n S ps life w) : w.cell? ⟨d, 2, none⟩ = some pv := by rw [cell_of_list h.obj]; rfl
theorem LiveAt.c3 (h : LiveAt d p bl bn pv n S ps life w) : w.cell? ⟨d, 3, none⟩ = some (.slice (some ⟨bn, 0, none⟩) n n) := by rw [cell_of_list h.obj]; rfl
theorem LiveAt.c4 (h : LiveAt d p bl bn pv n S ps life w) : w.cell? ⟨d, 4, none⟩ = some (.int .i64 n) := by rw [cell_of_list h.obj]; rfl
theorem LiveAt.c5 (h : LiveAt d p bl bn pv n S ps life w) : w.cell? ⟨d, 5, none⟩ = some (.int .i64 life) := by rw [cell_of_list h.obj]; rfl
theorem LiveAt.free (h : LiveAt d p bl bn pv n S ps life w) (j : Nat) : w.frozen? ⟨d, j, none⟩ = false := free_of_list h.obj j
theorem LiveAt.lt (h : LiveAt d p bl bn pv n S ps life w) : d < w.heap.size := lt_of_heap h.obj
theorem LiveAt.slice (h : LiveAt d p bl bn pv n S ps life w) : ∃ a cap, pv = .slice a ps.length cap := by
  rcases h.pnd.2 with ⟨hv, h0⟩ | ⟨g, cap, cur, hv, _⟩
  · exact ⟨none, 0, by rw [hv, h0]⟩
  · exact ⟨_, cap, hv⟩
end

/-! What only looks. -/
theorem NewPower_any (w : World) : Calls Tryz.prog 23 #[] w fun e w' => ∃ p, w.heap.size ≤ p ∧ e = .returned (.pointer (some ⟨p, 0, none⟩)) ∧ PowerAt p false (-1) 0 w' ∧ Below w.heap.size w w' := by
  go_enter Tryz.func23, Tryz.ntmps23
  go_wp2
  go_ret
  exact ⟨w.heap.size, Nat.le_refl _, rfl, heap_alloc_new _ _, (Below.refl _ _).alloc (Nat.le_refl _) _⟩
theorem Gone_any (p : Nat) (gone : Bool) (fuse acts : Int) (w : World) (h : PowerAt p gone fuse acts w) : Calls Tryz.prog 38 #[.pointer (some ⟨p, 0, none⟩)] w fun e w' => e = .returned (.bool gone) ∧ w = w' := by
  have c0 := h.c0
  clear h
  go_enter Tryz.func38, Tryz.ntmps38
  go_wp2
  go_ret
  exact ⟨rfl, rfl⟩
theorem has_yes (d : Nat) (bl n a : Nat) (ha : a < n) (w : World) (h : w.cell? ⟨d, 1, none⟩ = some (.slice (some ⟨bl, 0, none⟩) n n)) :
    Calls Tryz.prog 26 #[.pointer (some ⟨d, 1, none⟩), .int .i64 a] w fun e w' => e = .returned (.bool true) ∧ w = w' := by
  go_enter Tryz.func26, Tryz.ntmps26
  go_wp2
  go_ret
  exact ⟨rfl, rfl⟩
theorem Dead_no (d : Nat) (bl n : Nat) (h0 : 0 < n) (hn : n ≤ 8192) (w : World) (h : w.cell? ⟨d, 1, none⟩ = some (.slice (some ⟨bl, 0, none⟩) n n)) :
    Calls Tryz.prog 54 #[.pointer (some ⟨d, 0, none⟩)] w fun e w' => e = .returned (.bool false) ∧ w = w' := by
  have hb : ((n : Int) == 0) = false := by rw [beq_eq_false_iff_ne]; omega
  go_enter Tryz.func54, Tryz.ntmps54
  go_wp2
  go_ret
  exact ⟨rfl, rfl⟩
theorem ready_ok (d p bl bn : Nat) (pv : Value) (n : Nat) (S : List (List UInt8)) (ps : List Dk.Wr) (life fuse acts : Int) (w : World) (h : LiveAt d p bl bn pv n S ps life w) (hp : PowerAt p false fuse acts w) :
    Calls Tryz.prog 25 #[.pointer (some ⟨d, 0, none⟩)] w fun e w' => e = .returned .nilIface ∧ w = w' := by
  have c0 := h.c0
  have c1 := h.c1
  have q0 := hp.c0
  have h1 := h.n1
  have h2 := h.n2
  clear h hp
  go_enter Tryz.func25, Tryz.ntmps25
  go_wp2_with (go_at_call 54; refine (Dead_no d bl n (by omega) (by omega) _ c1).mono ?_; rintro e w' ⟨rfl, rfl⟩)
  go_ret
  exact ⟨rfl, rfl⟩
theorem Pending_any (d p bl bn : Nat) (pv : Value) (n : Nat) (S : List (List UInt8)) (ps : List Dk.Wr) (life : Int) (w : World) (h : LiveAt d p bl bn pv n S ps life w) :
    Calls Tryz.prog 11 #[.pointer (some ⟨d, 0, none⟩)] w fun e w' => e = .returned (.int .i64 ps.length) ∧ w = w' := by
  obtain ⟨a, cap, rfl⟩ := h.slice
  have c2 := h.c2
  have hf := h.few
  clear h
  go_enter Tryz.func11, Tryz.ntmps11
  go_wp2
  go_ret
  exact ⟨rfl, rfl⟩
/-- The fuse behind an act. -/
def less (fuse : Int) : Int := if 0 < fuse then fuse - 1 else fuse
theorem act_ok (p : Nat) (fuse acts : Int) (hf : fuse ≠ 0) (hf1 : -1 ≤ fuse) (hf2 : fuse ≤ 9223372036854775807) (ha0 : 0 ≤ acts) (ha : acts ≤ 1000000000000) (w : World) (h : PowerAt p false fuse acts w) :
    Calls Tryz.prog 28 #[.pointer (some ⟨p, 0, none⟩)] w fun e w' => e = .returned .nilIface ∧ PowerAt p false (less fuse) (acts + 1) w' ∧ Kept w.heap.size [p] w w' := by
  have c0 := h.c0
  have c1 := h.c1
  have c2 := h.c2
  have f0 := free_of_list h
  have hb : (fuse == 0) = false := by rw [beq_eq_false_iff_ne]; exact hf
  have H := Lib.hid h
  clear h hf
  by_cases hp : 0 < fuse
  · go_enter Tryz.func28, Tryz.ntmps28
    go_wp2
    go_ret
    refine ⟨rfl, ?_, ((Kept.refl _ _ _).setCell (by simp) _).setCell (by simp) _⟩
    rw [PowerAt, less, if_pos hp]
    exact (set_list (set_list H.out 1 _) 2 _)
  · go_enter Tryz.func28, Tryz.ntmps28
    go_wp2
    go_ret
    refine ⟨rfl, ?_, (Kept.refl _ _ _).setCell (by simp) _⟩
    rw [PowerAt, less, if_neg (by omega)]
    exact set_list H.out 2 _
end Go.Proofs.YtbljhodnpddpiaaGreatDoor

/- The walks of a disk's making. -/
namespace Go.Proofs.YtbljhodnpddpiaaGreatDoor
open Go.RowKit

theorem made_same (u : Value) (m n : Nat) (hm : 0 < m) : madeCells (Array.replicate m u) n = (List.replicate n u).toArray := by
  apply Array.toList_inj.1
  apply List.ext_getElem?
  intro j
  by_cases hj : j < n
  · have : j % m < m := Nat.mod_lt _ hm
    simp [madeCells, hj, this]
  · simp [madeCells, hj]
theorem infoSector : (Tryz.prog.info? 109).map (fun i => (i.zero, i.size, i.bytes)) = some (some (.agg (Array.replicate 64 (Value.int .u8 0))), 64, 64) := by kernel_rfl
theorem infoInt : (Tryz.prog.info? 3).map (fun i => (i.zero, i.size, i.bytes)) = some (some (.int .i64 0), 1, 8) := by kernel_rfl
def zeros8 (n : Nat) : List Value := List.replicate (n * 64) (.int .u8 0)
def zeros64 (n : Nat) : List Value := List.replicate n (.int .i64 0)
theorem make_sectors (n : Nat) (hn : n ≤ 8192) (w : World) : (Instr.makeSlice 62 (.int .i64 (n : Int)) (.int .i64 (n : Int))).run Tryz.prog w = .ok (.slice (some ⟨w.heap.size, 0, none⟩) n n) (w.alloc (.cells (zeros8 n).toArray 109)) := by
  obtain ⟨i0, hi, hz0, hz1, hz2⟩ := info_parts infoSector
  have h := run_make (P := Tryz.prog) w 62 109 i0 _ Tryz.underlying62 hi hz0 .i64 .i64 (n : Int) (n : Int) (by omega) (by omega) (by rw [hz2]; omega) (by omega)
  rw [hz1] at h
  have e : madeCells (Value.agg (Array.replicate 64 (Value.int .u8 0))).cells ((n : Int).toNat * 64) = (zeros8 n).toArray := made_same _ _ _ (by omega)
  rw [e] at h
  simpa using h
theorem make_ints (n : Nat) (hn : n ≤ 8192) (w : World) : (Instr.makeSlice 64 (.int .i64 (n : Int)) (.int .i64 (n : Int))).run Tryz.prog w = .ok (.slice (some ⟨w.heap.size, 0, none⟩) n n) (w.alloc (.cells (zeros64 n).toArray 3)) := by
  obtain ⟨i0, hi, hz0, hz1, hz2⟩ := info_parts infoInt
  have h := run_make (P := Tryz.prog) w 64 3 i0 _ Tryz.underlying64 hi hz0 .i64 .i64 (n : Int) (n : Int) (by omega) (by omega) (by rw [hz2]; omega) (by omega)
  rw [hz1] at h
  have e : madeCells (Value.int .i64 0).cells ((n : Int).toNat * 1) = (zeros64 n).toArray := by
    have := made_same (Value.int .i64 0) 1 ((n : Int).toNat * 1) (by omega)
    rw [show (Value.int .i64 0).cells = Array.replicate 1 (Value.int .i64 0) from rfl, this, zeros64]; simp
  rw [e] at h
  simpa using h
attribute [local irreducible] zeros8 zeros64
/-- What a blank medium is. -/
def Blank (bl bn n : Nat) (w w' : World) : Prop := w'.heap[bl]? = some (.cells (zeros8 n).toArray 109 (0, 0)) ∧ w'.heap[bn]? = some (.cells (zeros64 n).toArray 3 (0, 0)) ∧ w.heap.size ≤ bl ∧ w.heap.size ≤ bn ∧ bl ≠ bn ∧ Below w.heap.size w w'
theorem alloc3_old (w : World) (x y z : Obj) : ((((w.alloc x).alloc y).alloc z).drew).heap[w.heap.size]? = some x := by
  rw [heap_drew, heap_alloc_old _ _ (by simp; omega), heap_alloc_old _ _ (by simp)]; exact heap_alloc_new _ _
theorem alloc3_mid (w : World) (x y z : Obj) : ((((w.alloc x).alloc y).alloc z).drew).heap[w.heap.size + 1]? = some y := by
  have := heap_alloc_new (w.alloc x) y
  rw [World.size_alloc] at this
  rw [heap_drew, heap_alloc_old _ _ (by simp)]; exact this
theorem alloc3_new (w : World) (x y z : Obj) : ((((w.alloc x).alloc y).alloc z).drew).heap[w.heap.size + 1 + 1]? = some z := by
  have := heap_alloc_new ((w.alloc x).alloc y) z
  rw [World.size_alloc, World.size_alloc] at this
  rw [heap_drew]; exact this
theorem alloc3_below (w : World) (x y z : Obj) : Below w.heap.size w ((((w.alloc x).alloc y).alloc z).drew) := ((((Below.refl _ _).alloc (Nat.le_refl _) _).alloc (by simp) _).alloc (by simp; omega) _).drew
set_option maxHeartbeats 1000000 in
theorem blank_any (n : Nat) (hn : n ≤ 8192) (w : World) : Calls Tryz.prog 53 #[.int .i64 n] w fun e w' => ∃ bl bn, e = .returned (.agg #[.slice (some ⟨bl, 0, none⟩) n n, .slice none 0 0, .slice (some ⟨bn, 0, none⟩) n n]) ∧ Blank bl bn n w w' := by
  have m1 := make_sectors n hn
  have m2 := make_ints n hn
  go_enter Tryz.func53, Tryz.ntmps53
  go_wp2
  go_region
  · go_wp2
    refine bodyPost_ret (v := .agg #[.slice (some ⟨w.heap.size + 1, 0, none⟩) n n, .slice none 0 0, .slice (some ⟨w.heap.size + 1 + 1, 0, none⟩) n n]) ?_ rfl ⟨w.heap.size + 1, w.heap.size + 1 + 1, rfl, alloc3_mid _ _ _ _, alloc3_new _ _ _ _, by omega, by omega, by omega, alloc3_below _ _ _ _⟩
    exact results_mid Tryz.results53 _ _ w.heap.size 0 [_, _, _] _ rfl (range_of_list (alloc3_old _ _ _ _)) Tryz.underlying66 rfl (by kernel_rfl)
  · go_wp2
    refine bodyPost_ret (v := .agg #[.slice (some ⟨w.heap.size + 1 + 1, 0, none⟩) n n, .slice none 0 0, .slice (some ⟨w.heap.size + 1, 0, none⟩) n n]) ?_ rfl ⟨w.heap.size + 1 + 1, w.heap.size + 1, rfl, alloc3_new _ _ _ _, alloc3_mid _ _ _ _, by omega, by omega, by omega, alloc3_below _ _ _ _⟩
    exact results_mid Tryz.results53 _ _ w.heap.size 0 [_, _, _] _ rfl (range_of_list (alloc3_old _ _ _ _)) Tryz.underlying66 rfl (by kernel_rfl)

theorem sect_zero (n : Nat) : sectCells (List.replicate n (List.replicate 64 0)) = zeros8 n := by
  rw [sectCells, zeros8]
  induction n with
  | zero => rfl
  | succ n ih => rw [List.replicate_succ, List.flatten_cons, List.map_append, ih, List.map_replicate, Nat.succ_mul, Nat.add_comm, ← List.replicate_append_replicate]; rfl
theorem news_zero (n : Nat) : (Dk.news n []).map natv = zeros64 n := by rw [Dk.news_nil, List.map_replicate, zeros64]; rfl
/-- A disk that has just been made. -/
def blankS (n : Nat) : List (List UInt8) := List.replicate n (List.replicate 64 0)
theorem live_new {d p bl bn n : Nat} {w w1 w2 : World} (h : Blank bl bn n w w1) (hp : p < w.heap.size) (h1 : 1 ≤ n) (h2 : n ≤ 8192) (hd : w1.heap.size ≤ d) (hb : Below w1.heap.size w1 w2)
    (ho : w2.heap[d]? = some (.cells [Value.pointer (some ⟨p, 0, none⟩), .slice (some ⟨bl, 0, none⟩) n n, .slice none 0 0, .slice (some ⟨bn, 0, none⟩) n n, natv n, .int .i64 0].toArray 68 (0, 0))) :
    Live d p [d, bl, bn] n (blankS n) [] 0 w2 := by
  obtain ⟨g1, g2, g3, g4, g5, g6⟩ := h
  have l1 := lt_of_heap g1
  have l2 := lt_of_heap g2
  refine ⟨bl, bn, .slice none 0 0, ⟨ho, ?_, ?_, ?_, by simp [blankS], h1, h2, ?_, by simp, by simp, by omega, by omega, g5, by omega, by omega, by omega, ?_⟩, by simp, by simp, by simp, ?_, ?_, ?_⟩
  · rw [hb.block bl l1, g1, blankS, sect_zero]
  · rw [hb.block bn l2, g2, news_zero]
  · exact World.ownsRow_nil _ _ _ _
  · intro s hs; rw [blankS] at hs; rw [List.eq_of_mem_replicate hs, List.length_replicate]
  · intro g hg; simp [Value.ownBlock] at hg
  · intro g hg; simp [Value.ownBlock] at hg
  · simp; omega
  · have := lt_of_heap ho
    have := hb.size
    intro x hx; simp at hx; omega
theorem blank_drew {bl bn n : Nat} {w w1 : World} (h : Blank bl bn n w.drew w1) : Blank bl bn n w w1 := by
  obtain ⟨g1, g2, g3, g4, g5, g6⟩ := h
  exact ⟨g1, g2, g3, g4, g5, ⟨g6.os, g6.tape, g6.output, g6.size, g6.block⟩⟩
set_option maxHeartbeats 1000000 in
theorem New_ok (p : Nat) (gone : Bool) (fuse acts : Int) (n : Nat) (h1 : 1 ≤ n) (h2 : n ≤ 8192) (w : World) (hp : PowerAt p gone fuse acts w) :
    Calls Tryz.prog 24 #[.pointer (some ⟨p, 0, none⟩), .int .i64 n] w fun e w' => ∃ d F, e = .returned (.tuple #[.pointer (some ⟨d, 0, none⟩), .nilIface]) ∧ Live d p F n (blankS n) [] 0 w' ∧ (∀ x ∈ F, w.heap.size ≤ x) ∧ Below w.heap.size w w' := by
  have hlt := hp.lt
  clear hp
  go_enter Tryz.func24, Tryz.ntmps24
  go_wp2_with fail
  go_region_with (go_at_call 53; refine (blank_any n h2 _).mono ?_; rintro e w1 ⟨bl, bn, rfl, hB⟩)
  have HB := Lib.hid hB
  clear hB
  have HB' : Hid (Blank bl bn n w w1) := Lib.hid (blank_drew HB.out)
  clear HB
  go_wp2
  go_ret2
  have hz := HB'.out.2.2.2.2.2.size
  refine ⟨w1.heap.size, [w1.heap.size, bl, bn], rfl, live_new HB'.out hlt h1 h2 (Nat.le_refl _) ?_ (heap_alloc_new _ _), ?_, ?_⟩
  · exact (Below.refl _ _).alloc (Nat.le_refl _) _
  · have := HB'.out.2.2.1
    have := HB'.out.2.2.2.1
    intro x hx; simp at hx; omega
  · exact HB'.out.2.2.2.2.2.alloc hz _
end Go.Proofs.YtbljhodnpddpiaaGreatDoor

/- The walks of a sector's reading. -/
namespace Go.Proofs.YtbljhodnpddpiaaGreatDoor
open Go.RowKit

theorem cell_nat {w : World} {g : Nat} {ns : List Nat} {T : TypeId} {fr : Nat × Nat} {i m : Nat} (h : w.heap[g]? = some (.cells (ns.map natv).toArray T fr)) (hi : i < ns.length) (hm : ns.getD i 0 = m) : w.cell? ⟨g, i, none⟩ = some (.int .i64 (m : Int)) := by
  rw [cell_of_list h, List.getElem?_map, List.getElem?_eq_getElem hi, ← hm, List.getD, List.getElem?_eq_getElem hi]; rfl
set_option maxRecDepth 100000 in
set_option maxHeartbeats 1000000 in
theorem Mread_old (d p bl bn : Nat) (pv : Value) (n : Nat) (S : List (List UInt8)) (ps : List Dk.Wr) (life : Int) (a : Nat) (ha : a < n) (hz : (Dk.news n ps).getD a 0 = 0) (w : World) (h : LiveAt d p bl bn pv n S ps life w) :
    Calls Tryz.prog 105 #[.pointer (some ⟨d, 1, none⟩), .int .i64 a] w fun e w' => e = .returned (.string ⟨(S.getD a []).toArray⟩) ∧ w = w' := by
  have c1 := h.c1
  have c3 := h.c3
  have cn : w.cell? ⟨bn, a, none⟩ = some (.int .i64 0) := cell_nat h.nws (by rw [Dk.length_news]; exact ha) hz
  have hn := h.n2
  obtain ⟨s, hs⟩ : ∃ s, s = S.getD a [] := ⟨_, rfl⟩
  obtain ⟨A, C, hA, hS, _⟩ := sect_split h.wide (by rw [h.len]; exact ha : a < S.length)
  have hl := h.lst
  rw [hS, ← hs] at hl
  have hsl : s.length = 64 := by
    have : a < S.length := by rw [h.len]; exact ha
    rw [hs, List.getD, List.getElem?_eq_getElem this]; exact h.wide _ (List.getElem_mem _)
  have HR := Lib.hid (range_mid hl hA)
  have HL := Lib.hid hsl
  rw [← hs]
  clear h hz hl hA hS hs hsl
  go_enter Tryz.func105, Tryz.ntmps105
  go_wp2_with (refine wpList_bytes_string rfl 59 9 _ rfl 5 bl (a * 64) 64 64 rfl s HL.out Tryz.underlying59 Tryz.underlying5 Tryz.underlying9 HR.out ?_; go_frame)
  go_ret
  exact ⟨rfl, rfl⟩
/-- The cells of a row that is owned, whole. -/
theorem own_heap {w : World} {B size : Nat} {e : TypeId} {g n cap : Nat} {xs : List Value} (h : w.ownsRow B e size (.slice (some ⟨g, 0, none⟩) n cap) n xs) : ∃ rest, w.heap[g]? = some (.cells (xs ++ rest).toArray e (0, 0)) ∧ n ≤ cap ∧ cap ≤ maxLen := by
  rcases h.2 with ⟨hv, _⟩ | ⟨g', cap', cur, hv, _, hg, h1, h2, _, ht⟩
  · cases hv
  · simp only [Value.slice.injEq, Option.some.injEq, Addr.mk.injEq, and_true, true_and] at hv
    obtain ⟨rfl, rfl⟩ := hv
    refine ⟨cur.toList.drop (n * size), ?_, h1, h2⟩
    rw [hg, ← ht, List.take_append_drop]
theorem pend_range {w : World} {g m N cap n : Nat} {ps : List Dk.Wr} (h : w.ownsRow 0 111 65 (.slice (some ⟨g, 0, none⟩) N cap) N (pendCells ps)) (hw : ∀ x ∈ ps, x.1 < n ∧ x.2.length = 64) (hm : m < ps.length) :
    w.rangeAt g (m * 65 + 1) ((ps.getD m (0, [])).2.map u8v) ∧ w.rangeAt g (m * 65) (wrCells (ps.getD m (0, []))) := by
  obtain ⟨rest, hg, _⟩ := own_heap h
  obtain ⟨A, C, hA, hp⟩ := pend_split hw hm
  constructor
  · refine range_mid (t := 111) (fr := (0, 0)) (A := A ++ [natv (ps.getD m (0, [])).1]) (C := C ++ rest) ?_ (by rw [List.length_append, hA]; rfl)
    rw [hg, hp, wrCells]; simp
  · refine range_mid (t := 111) (fr := (0, 0)) (A := A) (C := C ++ rest) ?_ hA
    rw [hg, hp]; simp
set_option maxRecDepth 100000 in
set_option maxHeartbeats 1000000 in
theorem Mread_new (d p bl bn : Nat) (pv : Value) (n : Nat) (S : List (List UInt8)) (ps : List Dk.Wr) (life : Int) (a m : Nat) (ha : a < n) (hz : (Dk.news n ps).getD a 0 = m + 1) (w : World) (h : LiveAt d p bl bn pv n S ps life w) :
    Calls Tryz.prog 105 #[.pointer (some ⟨d, 1, none⟩), .int .i64 a] w fun e w' => e = .returned (.string ⟨((ps.getD m (0, [])).2).toArray⟩) ∧ w = w' := by
  have hm : m < ps.length := by
    have := Dk.newest_le n ps ps.length a
    have e : (Dk.newest n ps ps.length).getD a 0 = m + 1 := by
      have := hz; unfold Dk.news at this; exact this
    omega
  obtain ⟨b, cap, rfl⟩ := h.slice
  obtain ⟨g, rfl⟩ : ∃ g, b = some ⟨g, 0, none⟩ := by
    rcases h.pnd.2 with ⟨_, h0⟩ | ⟨g, _, _, hv, _⟩
    · omega
    · cases hv; exact ⟨g, rfl⟩
  have c2 := h.c2
  have c3 := h.c3
  have cn : w.cell? ⟨bn, a, none⟩ = some (.int .i64 ((m + 1 : Nat) : Int)) := cell_nat h.nws (by rw [Dk.length_news]; exact ha) hz
  rw [show ((m + 1 : Nat) : Int) = (m : Int) + 1 from by omega] at cn
  have hn := h.n2
  have hf := h.few
  have hr := (pend_range h.pnd h.wrs hm).1
  have hsl : (ps.getD m (0, [])).2.length = 64 := (h.wrs _ (Dk.getD_mem_of_lt hm)).2
  obtain ⟨s, hs⟩ : ∃ s, s = (ps.getD m (0, [])).2 := ⟨_, rfl⟩
  obtain ⟨N, hN⟩ : ∃ N, N = ps.length := ⟨_, rfl⟩
  rw [← hs] at hr hsl ⊢
  rw [← hN] at c2 hm hf
  have HR := Lib.hid hr
  have HL := Lib.hid hsl
  clear h hz hr hs hsl hN
  go_enter Tryz.func105, Tryz.ntmps105
  go_wp2_with (refine wpList_bytes_string rfl 59 9 _ rfl 5 g (m * 65 + 1) 64 64 rfl s HL.out Tryz.underlying59 Tryz.underlying5 Tryz.underlying9 HR.out ?_; go_frame)
  go_ret
  exact ⟨rfl, rfl⟩
theorem Mread_any (d p bl bn : Nat) (pv : Value) (n : Nat) (S : List (List UInt8)) (ps : List Dk.Wr) (life : Int) (a : Nat) (ha : a < n) (w : World) (h : LiveAt d p bl bn pv n S ps life w) :
    Calls Tryz.prog 105 #[.pointer (some ⟨d, 1, none⟩), .int .i64 a] w fun e w' => e = .returned (.string ⟨(Dk.readAt S ps a).toArray⟩) ∧ w = w' := by
  cases hz : (Dk.news n ps).getD a 0 with
  | zero =>
    rw [Dk.readAt_old (by rw [h.len]; exact hz)]
    exact Mread_old d p bl bn pv n S ps life a ha hz w h
  | succ m =>
    rw [Dk.readAt_new (m := m) (by rw [h.len]; exact hz)]
    exact Mread_new d p bl bn pv n S ps life a m ha hz w h
set_option maxHeartbeats 1000000 in
theorem Read_ok (d p : Nat) (F : List Nat) (n : Nat) (S : List (List UInt8)) (ps : List Dk.Wr) (life fuse acts : Int) (a : Nat) (ha : a < n) (q : ByteArray) (hq : q.data.toList = Dk.readAt S ps a) (w : World) (h : Live d p F n S ps life w) (hp : PowerAt p false fuse acts w) :
    Calls Tryz.prog 91 #[.pointer (some ⟨d, 0, none⟩), .int .i64 a] w fun e w' => e = .returned (.tuple #[.string q, .nilIface]) ∧ w = w' := by
  obtain ⟨bl, bn, pv, h, _⟩ := h
  have c1 := h.c1
  obtain ⟨q', hq'⟩ : ∃ q' : ByteArray, q' = ⟨(Dk.readAt S ps a).toArray⟩ := ⟨_, rfl⟩
  have hqq : q = q' := by rw [hq', ← hq]
  have R := Mread_any d p bl bn pv n S ps life a ha w h
  rw [← hq', ← hqq] at R
  have HR := Lib.hid R
  have H := Lib.hid h
  have HP := Lib.hid hp
  clear h hp hq hq' hqq R
  go_enter Tryz.func91, Tryz.ntmps91
  go_wp2_with (first | (go_at_call 25; refine (ready_ok d p bl bn pv n S ps life fuse acts _ H.out HP.out).mono ?_; rintro e w' ⟨rfl, rfl⟩) | (go_at_call 26; refine (has_yes d bl n a ha _ c1).mono ?_; rintro e w' ⟨rfl, rfl⟩) | (go_at_call 105; refine HR.out.mono ?_; rintro e w' ⟨rfl, rfl⟩))
  go_ret2
  exact ⟨rfl, rfl⟩
end Go.Proofs.YtbljhodnpddpiaaGreatDoor
