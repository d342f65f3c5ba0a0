/- The walks of a disk's making. -/
import Derived.Test.YtmobjpandmdmdaaGreatDoorDBase
import Derived.RegionTactic
namespace Go.Proofs.YtmobjpandmdmdaaGreatDoor
open Go.RowKit

theorem made_same (u : Value) (m n : Nat) (hm : 0 < m) : madeCells (Array.replicate m u) n = (List.replicate n u).toArray := by
  apply Array.toList_inj.1
  apply List.ext_getElem?
  intro j
  by_cases hj : j < n
  · have : j % m < m := Nat.mod_lt _ hm
    simp [madeCells, hj, this]
  · simp [madeCells, hj]
theorem infoSector : (Tryz.prog.info? 104).map (fun i => (i.zero, i.size, i.bytes)) = some (some (.agg (Array.replicate 64 (Value.int .u8 0))), 64, 64) := by kernel_rfl
theorem infoInt : (Tryz.prog.info? 3).map (fun i => (i.zero, i.size, i.bytes)) = some (some (.int .i64 0), 1, 8) := by kernel_rfl
def zeros8 (n : Nat) : List Value := List.replicate (n * 64) (.int .u8 0)
def zeros64 (n : Nat) : List Value := List.replicate n (.int .i64 0)
theorem make_sectors (n : Nat) (hn : n ≤ 8192) (w : World) : (Instr.makeSlice 61 (.int .i64 (n : Int)) (.int .i64 (n : Int))).run Tryz.prog w = .ok (.slice (some ⟨w.heap.size, 0, none⟩) n n) (w.alloc (.cells (zeros8 n).toArray 104)) := by
  obtain ⟨i0, hi, hz0, hz1, hz2⟩ := info_parts infoSector
  have h := run_make (P := Tryz.prog) w 61 104 i0 _ Tryz.underlying61 hi hz0 .i64 .i64 (n : Int) (n : Int) (by omega) (by omega) (by rw [hz2]; omega) (by omega)
  rw [hz1] at h
  have e : madeCells (Value.agg (Array.replicate 64 (Value.int .u8 0))).cells ((n : Int).toNat * 64) = (zeros8 n).toArray := made_same _ _ _ (by omega)
  rw [e] at h
  simpa using h
theorem make_ints (n : Nat) (hn : n ≤ 8192) (w : World) : (Instr.makeSlice 22 (.int .i64 (n : Int)) (.int .i64 (n : Int))).run Tryz.prog w = .ok (.slice (some ⟨w.heap.size, 0, none⟩) n n) (w.alloc (.cells (zeros64 n).toArray 3)) := by
  obtain ⟨i0, hi, hz0, hz1, hz2⟩ := info_parts infoInt
  have h := run_make (P := Tryz.prog) w 22 3 i0 _ Tryz.underlying22 hi hz0 .i64 .i64 (n : Int) (n : Int) (by omega) (by omega) (by rw [hz2]; omega) (by omega)
  rw [hz1] at h
  have e : madeCells (Value.int .i64 0).cells ((n : Int).toNat * 1) = (zeros64 n).toArray := by
    have := made_same (Value.int .i64 0) 1 ((n : Int).toNat * 1) (by omega)
    rw [show (Value.int .i64 0).cells = Array.replicate 1 (Value.int .i64 0) from rfl, this, zeros64]; simp
  rw [e] at h
  simpa using h
attribute [local irreducible] zeros8 zeros64
/-- What a blank medium is. -/
def Blank (bl bn n : Nat) (w w' : World) : Prop := w'.heap[bl]? = some (.cells (zeros8 n).toArray 104 (0, 0)) ∧ w'.heap[bn]? = some (.cells (zeros64 n).toArray 3 (0, 0)) ∧ w.heap.size ≤ bl ∧ w.heap.size ≤ bn ∧ bl ≠ bn ∧ Below w.heap.size w w'
theorem alloc3_old (w : World) (x y z : Obj) : ((((w.alloc x).alloc y).alloc z).drew).heap[w.heap.size]? = some x := by
  rw [heap_drew, heap_alloc_old _ _ (by simp; omega), heap_alloc_old _ _ (by simp)]; exact heap_alloc_new _ _
theorem alloc3_mid (w : World) (x y z : Obj) : ((((w.alloc x).alloc y).alloc z).drew).heap[w.heap.size + 1]? = some y := by
  have := heap_alloc_new (w.alloc x) y
  rw [World.size_alloc] at this
  rw [heap_drew, heap_alloc_old _ _ (by simp)]; exact this
theorem alloc3_new (w : World) (x y z : Obj) : ((((w.alloc x).alloc y).alloc z).drew).heap[w.heap.size + 1 + 1]? = some z := by
  have := heap_alloc_new ((w.alloc x).alloc y) z
  rw [World.size_alloc, World.size_alloc] at this
  rw [heap_drew]; exact this
theorem alloc3_below (w : World) (x y z : Obj) : Below w.heap.size w ((((w.alloc x).alloc y).alloc z).drew) := ((((Below.refl _ _).alloc (Nat.le_refl _) _).alloc (by simp) _).alloc (by simp; omega) _).drew
set_option maxHeartbeats 1000000 in
theorem blank_any (n : Nat) (hn : n ≤ 8192) (w : World) : Calls Tryz.prog 48 #[.int .i64 n] w fun e w' => ∃ bl bn, e = .returned (.agg #[.slice (some ⟨bl, 0, none⟩) n n, .slice none 0 0, .slice (some ⟨bn, 0, none⟩) n n]) ∧ Blank bl bn n w w' := by
  have m1 := make_sectors n hn
  have m2 := make_ints n hn
  go_enter Tryz.func48, Tryz.ntmps48
  go_wp2
  go_region
  · go_wp2
    refine bodyPost_ret (v := .agg #[.slice (some ⟨w.heap.size + 1, 0, none⟩) n n, .slice none 0 0, .slice (some ⟨w.heap.size + 1 + 1, 0, none⟩) n n]) ?_ rfl ⟨w.heap.size + 1, w.heap.size + 1 + 1, rfl, alloc3_mid _ _ _ _, alloc3_new _ _ _ _, by omega, by omega, by omega, alloc3_below _ _ _ _⟩
    exact results_mid Tryz.results48 _ _ w.heap.size 0 [_, _, _] _ rfl (range_of_list (alloc3_old _ _ _ _)) Tryz.underlying64 rfl (by kernel_rfl)
  · go_wp2
    refine bodyPost_ret (v := .agg #[.slice (some ⟨w.heap.size + 1 + 1, 0, none⟩) n n, .slice none 0 0, .slice (some ⟨w.heap.size + 1, 0, none⟩) n n]) ?_ rfl ⟨w.heap.size + 1 + 1, w.heap.size + 1, rfl, alloc3_new _ _ _ _, alloc3_mid _ _ _ _, by omega, by omega, by omega, alloc3_below _ _ _ _⟩
    exact results_mid Tryz.results48 _ _ w.heap.size 0 [_, _, _] _ rfl (range_of_list (alloc3_old _ _ _ _)) Tryz.underlying64 rfl (by kernel_rfl)

theorem sect_zero (n : Nat) : sectCells (List.replicate n (List.replicate 64 0)) = zeros8 n := by
  rw [sectCells, zeros8]
  induction n with
  | zero => rfl
  | succ n ih => rw [List.replicate_succ, List.flatten_cons, List.map_append, ih, List.map_replicate, Nat.succ_mul, Nat.add_comm, ← List.replicate_append_replicate]; rfl
theorem news_zero (n : Nat) : (Dk.news n []).map natv = zeros64 n := by rw [Dk.news_nil, List.map_replicate, zeros64]; rfl
/-- A disk that has just been made. -/
def blankS (n : Nat) : List (List UInt8) := List.replicate n (List.replicate 64 0)
theorem live_new {d p bl bn n : Nat} {w w1 w2 : World} (h : Blank bl bn n w w1) (hp : p < w.heap.size) (h1 : 1 ≤ n) (h2 : n ≤ 8192) (hd : w1.heap.size ≤ d) (hb : Below w1.heap.size w1 w2)
    (ho : w2.heap[d]? = some (.cells [Value.pointer (some ⟨p, 0, none⟩), .slice (some ⟨bl, 0, none⟩) n n, .slice none 0 0, .slice (some ⟨bn, 0, none⟩) n n, natv n, .int .i64 0].toArray 66 (0, 0))) :
    Live d p [d, bl, bn] n (blankS n) [] 0 w2 := by
  obtain ⟨g1, g2, g3, g4, g5, g6⟩ := h
  have l1 := lt_of_heap g1
  have l2 := lt_of_heap g2
  refine ⟨bl, bn, .slice none 0 0, ⟨ho, ?_, ?_, ?_, by simp [blankS], h1, h2, ?_, by simp, by simp, by omega, by omega, g5, by omega, by omega, by omega, ?_⟩, by simp, by simp, by simp, ?_, ?_, ?_⟩
  · rw [hb.block bl l1, g1, blankS, sect_zero]
  · rw [hb.block bn l2, g2, news_zero]
  · exact World.ownsRow_nil _ _ _ _
  · intro s hs; rw [blankS] at hs; rw [List.eq_of_mem_replicate hs, List.length_replicate]
  · intro g hg; simp [Value.ownBlock] at hg
  · intro g hg; simp [Value.ownBlock] at hg
  · simp; omega
  · have := lt_of_heap ho
    have := hb.size
    intro x hx; simp at hx; omega
theorem blank_drew {bl bn n : Nat} {w w1 : World} (h : Blank bl bn n w.drew w1) : Blank bl bn n w w1 := by
  obtain ⟨g1, g2, g3, g4, g5, g6⟩ := h
  exact ⟨g1, g2, g3, g4, g5, ⟨g6.os, g6.tape, g6.output, g6.size, g6.block⟩⟩
set_option maxHeartbeats 1000000 in
theorem New_ok (p : Nat) (gone : Bool) (fuse acts : Int) (n : Nat) (h1 : 1 ≤ n) (h2 : n ≤ 8192) (w : World) (hp : PowerAt p gone fuse acts w) :
    Calls Tryz.prog 24 #[.pointer (some ⟨p, 0, none⟩), .int .i64 n] w fun e w' => ∃ d F, e = .returned (.tuple #[.pointer (some ⟨d, 0, none⟩), .nilIface]) ∧ Live d p F n (blankS n) [] 0 w' ∧ (∀ x ∈ F, w.heap.size ≤ x) ∧ Below w.heap.size w w' := by
  have hlt := hp.lt
  clear hp
  go_enter Tryz.func24, Tryz.ntmps24
  go_wp2_with fail
  go_region_with (go_at_call 48; refine (blank_any n h2 _).mono ?_; rintro e w1 ⟨bl, bn, rfl, hB⟩)
  have HB := Lib.hid hB
  clear hB
  have HB' : Hid (Blank bl bn n w w1) := Lib.hid (blank_drew HB.out)
  clear HB
  go_wp2
  go_ret2
  have hz := HB'.out.2.2.2.2.2.size
  refine ⟨w1.heap.size, [w1.heap.size, bl, bn], rfl, live_new HB'.out hlt h1 h2 (Nat.le_refl _) ?_ (heap_alloc_new _ _), ?_, ?_⟩
  · exact (Below.refl _ _).alloc (Nat.le_refl _) _
  · have := HB'.out.2.2.1
    have := HB'.out.2.2.2.1
    intro x hx; simp at hx; omega
  · exact HB'.out.2.2.2.2.2.alloc hz _
end Go.Proofs.YtmobjpandmdmdaaGreatDoor
