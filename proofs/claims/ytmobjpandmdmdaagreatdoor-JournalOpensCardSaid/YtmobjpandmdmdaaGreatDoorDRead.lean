/- The walks of a sector's reading. -/
import Derived.Test.YtmobjpandmdmdaaGreatDoorDNew
namespace Go.Proofs.YtmobjpandmdmdaaGreatDoor
open Go.RowKit

theorem cell_nat {w : World} {g : Nat} {ns : List Nat} {T : TypeId} {fr : Nat × Nat} {i m : Nat} (h : w.heap[g]? = some (.cells (ns.map natv).toArray T fr)) (hi : i < ns.length) (hm : ns.getD i 0 = m) : w.cell? ⟨g, i, none⟩ = some (.int .i64 (m : Int)) := by
  rw [cell_of_list h, List.getElem?_map, List.getElem?_eq_getElem hi, ← hm, List.getD, List.getElem?_eq_getElem hi]; rfl
set_option maxRecDepth 100000 in
set_option maxHeartbeats 1000000 in
theorem Mread_old (d p bl bn : Nat) (pv : Value) (n : Nat) (S : List (List UInt8)) (ps : List Dk.Wr) (life : Int) (a : Nat) (ha : a < n) (hz : (Dk.news n ps).getD a 0 = 0) (w : World) (h : LiveAt d p bl bn pv n S ps life w) :
    Calls Tryz.prog 85 #[.pointer (some ⟨d, 1, none⟩), .int .i64 a] w fun e w' => e = .returned (.string ⟨(S.getD a []).toArray⟩) ∧ w = w' := by
  have c1 := h.c1
  have c3 := h.c3
  have cn : w.cell? ⟨bn, a, none⟩ = some (.int .i64 0) := cell_nat h.nws (by rw [Dk.length_news]; exact ha) hz
  have hn := h.n2
  obtain ⟨s, hs⟩ : ∃ s, s = S.getD a [] := ⟨_, rfl⟩
  obtain ⟨A, C, hA, hS, _⟩ := sect_split h.wide (by rw [h.len]; exact ha : a < S.length)
  have hl := h.lst
  rw [hS, ← hs] at hl
  have hsl : s.length = 64 := by
    have : a < S.length := by rw [h.len]; exact ha
    rw [hs, List.getD, List.getElem?_eq_getElem this]; exact h.wide _ (List.getElem_mem _)
  have HR := Lib.hid (range_mid hl hA)
  have HL := Lib.hid hsl
  rw [← hs]
  clear h hz hl hA hS hs hsl
  go_enter Tryz.func85, Tryz.ntmps85
  go_wp2_with (refine wpList_bytes_string rfl 57 9 _ rfl 5 bl (a * 64) 64 64 rfl s HL.out Tryz.underlying57 Tryz.underlying5 Tryz.underlying9 HR.out ?_; go_frame)
  go_ret
  exact ⟨rfl, rfl⟩
/-- The cells of a row that is owned, whole. -/
theorem own_heap {w : World} {B size : Nat} {e : TypeId} {g n cap : Nat} {xs : List Value} (h : w.ownsRow B e size (.slice (some ⟨g, 0, none⟩) n cap) n xs) : ∃ rest, w.heap[g]? = some (.cells (xs ++ rest).toArray e (0, 0)) ∧ n ≤ cap ∧ cap ≤ maxLen := by
  rcases h.2 with ⟨hv, _⟩ | ⟨g', cap', cur, hv, _, hg, h1, h2, _, ht⟩
  · cases hv
  · simp only [Value.slice.injEq, Option.some.injEq, Addr.mk.injEq, and_true, true_and] at hv
    obtain ⟨rfl, rfl⟩ := hv
    refine ⟨cur.toList.drop (n * size), ?_, h1, h2⟩
    rw [hg, ← ht, List.take_append_drop]
theorem pend_range {w : World} {g m N cap n : Nat} {ps : List Dk.Wr} (h : w.ownsRow 0 106 65 (.slice (some ⟨g, 0, none⟩) N cap) N (pendCells ps)) (hw : ∀ x ∈ ps, x.1 < n ∧ x.2.length = 64) (hm : m < ps.length) :
    w.rangeAt g (m * 65 + 1) ((ps.getD m (0, [])).2.map u8v) ∧ w.rangeAt g (m * 65) (wrCells (ps.getD m (0, []))) := by
  obtain ⟨rest, hg, _⟩ := own_heap h
  obtain ⟨A, C, hA, hp⟩ := pend_split hw hm
  constructor
  · refine range_mid (t := 106) (fr := (0, 0)) (A := A ++ [natv (ps.getD m (0, [])).1]) (C := C ++ rest) ?_ (by rw [List.length_append, hA]; rfl)
    rw [hg, hp, wrCells]; simp
  · refine range_mid (t := 106) (fr := (0, 0)) (A := A) (C := C ++ rest) ?_ hA
    rw [hg, hp]; simp
set_option maxRecDepth 100000 in
set_option maxHeartbeats 1000000 in
theorem Mread_new (d p bl bn : Nat) (pv : Value) (n : Nat) (S : List (List UInt8)) (ps : List Dk.Wr) (life : Int) (a m : Nat) (ha : a < n) (hz : (Dk.news n ps).getD a 0 = m + 1) (w : World) (h : LiveAt d p bl bn pv n S ps life w) :
    Calls Tryz.prog 85 #[.pointer (some ⟨d, 1, none⟩), .int .i64 a] w fun e w' => e = .returned (.string ⟨((ps.getD m (0, [])).2).toArray⟩) ∧ w = w' := by
  have hm : m < ps.length := by
    have := Dk.newest_le n ps ps.length a
    have e : (Dk.newest n ps ps.length).getD a 0 = m + 1 := by
      have := hz; unfold Dk.news at this; exact this
    omega
  obtain ⟨b, cap, rfl⟩ := h.slice
  obtain ⟨g, rfl⟩ : ∃ g, b = some ⟨g, 0, none⟩ := by
    rcases h.pnd.2 with ⟨_, h0⟩ | ⟨g, _, _, hv, _⟩
    · omega
    · cases hv; exact ⟨g, rfl⟩
  have c2 := h.c2
  have c3 := h.c3
  have cn : w.cell? ⟨bn, a, none⟩ = some (.int .i64 ((m + 1 : Nat) : Int)) := cell_nat h.nws (by rw [Dk.length_news]; exact ha) hz
  rw [show ((m + 1 : Nat) : Int) = (m : Int) + 1 from by omega] at cn
  have hn := h.n2
  have hf := h.few
  have hr := (pend_range h.pnd h.wrs hm).1
  have hsl : (ps.getD m (0, [])).2.length = 64 := (h.wrs _ (Dk.getD_mem_of_lt hm)).2
  obtain ⟨s, hs⟩ : ∃ s, s = (ps.getD m (0, [])).2 := ⟨_, rfl⟩
  obtain ⟨N, hN⟩ : ∃ N, N = ps.length := ⟨_, rfl⟩
  rw [← hs] at hr hsl ⊢
  rw [← hN] at c2 hm hf
  have HR := Lib.hid hr
  have HL := Lib.hid hsl
  clear h hz hr hs hsl hN
  go_enter Tryz.func85, Tryz.ntmps85
  go_wp2_with (refine wpList_bytes_string rfl 57 9 _ rfl 5 g (m * 65 + 1) 64 64 rfl s HL.out Tryz.underlying57 Tryz.underlying5 Tryz.underlying9 HR.out ?_; go_frame)
  go_ret
  exact ⟨rfl, rfl⟩
theorem Mread_any (d p bl bn : Nat) (pv : Value) (n : Nat) (S : List (List UInt8)) (ps : List Dk.Wr) (life : Int) (a : Nat) (ha : a < n) (w : World) (h : LiveAt d p bl bn pv n S ps life w) :
    Calls Tryz.prog 85 #[.pointer (some ⟨d, 1, none⟩), .int .i64 a] w fun e w' => e = .returned (.string ⟨(Dk.readAt S ps a).toArray⟩) ∧ w = w' := by
  cases hz : (Dk.news n ps).getD a 0 with
  | zero =>
    rw [Dk.readAt_old (by rw [h.len]; exact hz)]
    exact Mread_old d p bl bn pv n S ps life a ha hz w h
  | succ m =>
    rw [Dk.readAt_new (m := m) (by rw [h.len]; exact hz)]
    exact Mread_new d p bl bn pv n S ps life a m ha hz w h
set_option maxHeartbeats 1000000 in
theorem Read_ok (d p : Nat) (F : List Nat) (n : Nat) (S : List (List UInt8)) (ps : List Dk.Wr) (life fuse acts : Int) (a : Nat) (ha : a < n) (q : ByteArray) (hq : q.data.toList = Dk.readAt S ps a) (w : World) (h : Live d p F n S ps life w) (hp : PowerAt p false fuse acts w) :
    Calls Tryz.prog 75 #[.pointer (some ⟨d, 0, none⟩), .int .i64 a] w fun e w' => e = .returned (.tuple #[.string q, .nilIface]) ∧ w = w' := by
  obtain ⟨bl, bn, pv, h, _⟩ := h
  have c1 := h.c1
  obtain ⟨q', hq'⟩ : ∃ q' : ByteArray, q' = ⟨(Dk.readAt S ps a).toArray⟩ := ⟨_, rfl⟩
  have hqq : q = q' := by rw [hq', ← hq]
  have R := Mread_any d p bl bn pv n S ps life a ha w h
  rw [← hq', ← hqq] at R
  have HR := Lib.hid R
  have H := Lib.hid h
  have HP := Lib.hid hp
  clear h hp hq hq' hqq R
  go_enter Tryz.func75, Tryz.ntmps75
  go_wp2_with (first | (go_at_call 29; refine (ready_ok d p bl bn pv n S ps life fuse acts _ H.out HP.out).mono ?_; rintro e w' ⟨rfl, rfl⟩) | (go_at_call 30; refine (has_yes d bl n a ha _ c1).mono ?_; rintro e w' ⟨rfl, rfl⟩) | (go_at_call 85; refine HR.out.mono ?_; rintro e w' ⟨rfl, rfl⟩))
  go_ret2
  exact ⟨rfl, rfl⟩
end Go.Proofs.YtmobjpandmdmdaaGreatDoor
