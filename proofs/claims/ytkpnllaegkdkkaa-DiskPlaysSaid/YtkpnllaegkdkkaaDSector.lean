/- The walk of a sector's text: 64 bytes out of a text. -/
import Derived.Test.YtkpnllaegkdkkaaDBase
namespace Go.Proofs.Ytkpnllaegkdkkaa
open Go.RowKit

/-- The byte of a string at a place. -/
def strAt (s : ByteArray) (i : Nat) : UInt8 := s.data.toList.getD i 0
theorem strAt_eq (s : ByteArray) (i : Nat) : strAt s i = s.data.toList.getD i 0 := rfl
attribute [irreducible] strAt
theorem run_index_byte {P : Program} (w : World) (t : TypeId) (s : ByteArray) (k : IntKind) (i : Nat) (h : P.underlying t = some .string) (hi : i < s.size) :
    (Instr.index t (.string s) (.int k (i : Int))).run P w = .ok (.int .u8 ((strAt s i).toNat : Int)) w := by
  rw [strAt_eq, run_index_string w t s k i h, dif_pos (by omega)]
  have hl : i < s.data.toList.length := by rw [size_toList]; exact hi
  simp only [List.getD, List.getElem?_eq_getElem hl]
  rfl
theorem run_index_mod {P : Program} (w : World) (t : TypeId) (s : ByteArray) (k : IntKind) (i : Nat) (h : P.underlying t = some .string) (hi : 0 < s.size) :
    (Instr.index t (.string s) (.int k ((i : Int) % (s.size : Int)))).run P w = .ok (.int .u8 ((strAt s (i % s.size)).toNat : Int)) w := by
  rw [show (i : Int) % (s.size : Int) = ((i % s.size : Nat) : Int) from by omega]
  exact run_index_byte w t s k _ h (Nat.mod_lt _ hi)
attribute [local go_sem high] run_index_byte run_index_mod
theorem infoByte : (Try.prog.info? 5).map (fun i => (i.zero, i.size, i.bytes)) = some (some (.int .u8 0), 1, 1) := by kernel_rfl
theorem cell_own {w : World} {B g n cap j : Nat} {e : TypeId} {xs : List Value} {v : Value} (h : w.ownsRow B e 1 (.slice (some ⟨g, 0, none⟩) n cap) n xs) (hv : xs[j]? = some v) : w.cell? ⟨g, j, none⟩ = some v := by
  have := range_of_own h j v hv; rwa [Nat.zero_add] at this

set_option maxHeartbeats 1000000 in
theorem sector_none (w : World) : Calls Try.prog 13 #[.string ⟨#[]⟩] w fun e w' => e = .returned (.string ⟨(List.replicate 64 (0 : UInt8)).toArray⟩) ∧ Below w.heap.size w w' := by
  obtain ⟨i0, hi, hz0, hz1, hz2⟩ := info_parts infoByte
  obtain ⟨zs, hzs⟩ : ∃ zs : List UInt8, zs = List.replicate 64 0 := ⟨_, rfl⟩
  have HZ := Lib.hid hzs
  have hzl := Lib.hid (show zs.length = 64 by rw [hzs, List.length_replicate])
  rw [← hzs]
  clear hzs
  go_enter Try.func13, Try.ntmps13
  go_wp2_with (refine wpList_make_row rfl 81 _ _ rfl 5 i0 (.int .u8 0) 1 Try.underlying81 hi hz0 hz1 hz2 rfl 64 64 rfl rfl (by omega) (by omega) (by omega) ?_; intro w1 hown hb1; go_frame)
  have H1 : Hid (w1.rangeAt w.heap.size 0 (zs.map u8v)) := Lib.hid (by rw [HZ.out]; exact range_of_own hown.out)
  have B1 := Lib.hid hb1
  clear hown hb1
  go_loopw [4] (fun i wr => i = .int .i64 0 ∧ wr.rangeAt w.heap.size 0 (zs.map u8v) ∧ Below w.heap.size w wr) (fun _ _ => 0)
  case atStart => exact ⟨rfl, H1.out, B1.out⟩
  case round =>
    clear H1 B1
    obtain ⟨rfl, hr, hB⟩ := hrel
    have HR := Lib.hid hr
    have HB := Lib.hid hB
    clear hr hB
    go_wp2_with (refine wpList_bytes_string rfl 81 9 _ rfl 5 w.heap.size 0 64 64 rfl zs hzl.out Try.underlying81 Try.underlying5 Try.underlying9 HR.out ?_; go_frame)
    go_ret
    exact ⟨rfl, HB.out⟩

set_option maxRecDepth 100000 in
set_option maxHeartbeats 1000000 in
theorem sector_some (s : ByteArray) (h0 : 0 < s.size) (hs : s.size ≤ 9223372036854775807) (w : World) :
    Calls Try.prog 13 #[.string s] w fun e w' => e = .returned (.string ⟨(Dk.sector s.data.toList).toArray⟩) ∧ Below w.heap.size w w' := by
  obtain ⟨i0, hi, hz0, hz1, hz2⟩ := info_parts infoByte
  obtain ⟨l, hl⟩ : ∃ l, l = s.data.toList := ⟨_, rfl⟩
  have hlen : l.length = s.size := by rw [hl]; exact size_toList s
  have hne : s.toList.isEmpty = false := by
    cases hq : s.toList with
    | nil => rw [ByteArray.toList_eq, ← hl] at hq; rw [hq] at hlen; simp at hlen; omega
    | cons a r => rfl
  rw [← hl]
  have HL := Lib.hid hl
  have HLEN := Lib.hid hlen
  have h0l : l ≠ [] := by intro h; rw [h] at hlen; simp at hlen; omega
  have H0 := Lib.hid h0l
  clear hl hlen h0l
  go_enter Try.func13, Try.ntmps13
  go_wp2_with (refine wpList_make_row rfl 81 _ _ rfl 5 i0 (.int .u8 0) 1 Try.underlying81 hi hz0 hz1 hz2 rfl 64 64 rfl rfl (by omega) (by omega) (by omega) ?_; intro w1 hown hb1; go_frame)
  have H1 : Hid (w1.ownsRow w.heap.size 5 1 (.slice (some ⟨w.heap.size, 0, none⟩) 64 64) 64 ((Dk.sectorTo l 0).map u8v)) := Lib.hid (by rw [Dk.sectorTo_zero, List.map_replicate]; exact hown.out)
  have B1 := Lib.hid hb1
  clear hown hb1
  go_loopw [4] (fun i wr => ∃ j : Nat, j ≤ 64 ∧ i = .int .i64 j ∧ wr.ownsRow w.heap.size 5 1 (.slice (some ⟨w.heap.size, 0, none⟩) 64 64) 64 ((Dk.sectorTo l j).map u8v) ∧ Below w.heap.size w wr) (fun i _ => 64 - (intOf i).toNat)
  case atStart => exact ⟨0, by omega, rfl, H1.out, B1.out⟩
  case round =>
    clear H1 B1
    obtain ⟨j, hj, rfl, hown, hB⟩ := hrel
    by_cases hlt : j < 64
    · have c0 : ∃ x, wr.cell? ⟨w.heap.size, j, none⟩ = some x := ⟨_, cell_own hown (List.getElem?_eq_getElem (by rw [List.length_map, Dk.length_sectorTo]; exact hlt))⟩
      obtain ⟨x, c0⟩ := c0
      have f0 := hown.frozenAt j
      have hc := Lib.hid (show strAt s (j % s.size) = l.getD (j % s.size) 0 by rw [HL.out, strAt_eq])
      have HO := Lib.hid hown
      have HB := Lib.hid hB
      clear hown hB
      go_wp2_with fail
      go_roundw
      case rel =>
        refine ⟨j + 1, by omega, by go_num, ?_, HB.out.setCell (Nat.le_refl _) _⟩
        have e2 : (Dk.sectorTo l (j + 1)).map u8v = ((Dk.sectorTo l j).map u8v).set j (.int .u8 (strAt s (j % s.size)).toNat) := by
          rw [Dk.sectorTo_succ l j hlt, List.map_set, HLEN.out, ← hc.out]; rfl
        rw [e2]; exact (HO.out.stored j _).1
      case measure => simp [intOf]; omega
    · obtain rfl : j = 64 := by omega
      have hsec := Dk.sectorTo_all H0.out
      rw [hsec] at hown
      have HR := Lib.hid (range_of_own hown)
      have HB := Lib.hid hB
      have hzl := Lib.hid (Dk.length_sector l)
      clear hown hB hsec
      go_wp2_with (refine wpList_bytes_string rfl 81 9 _ rfl 5 w.heap.size 0 64 64 rfl (Dk.sector l) hzl.out Try.underlying81 Try.underlying5 Try.underlying9 HR.out ?_; go_frame)
      go_ret
      exact ⟨rfl, HB.out⟩
theorem sector_any (s : ByteArray) (hs : s.size ≤ 9223372036854775807) (w : World) :
    Calls Try.prog 13 #[.string s] w fun e w' => e = .returned (.string ⟨(Dk.sector s.data.toList).toArray⟩) ∧ Below w.heap.size w w' := by
  by_cases h0 : s.size = 0
  · have hl : s.data.toList = [] := List.eq_nil_of_length_eq_zero (by rw [size_toList]; exact h0)
    have e : s = ⟨#[]⟩ := by
      cases s with
      | mk d => congr; exact Array.toList_inj.1 (by simpa using hl)
    subst e
    rw [hl, Dk.sector_nil]
    exact sector_none w
  · exact sector_some s (by omega) hs w
/-- The same, where the text is given as it must be. -/
theorem sector_is (s q : ByteArray) (hs : s.size ≤ 9223372036854775807) (hq : q.data.toList = Dk.sector s.data.toList) (w : World) : Calls Try.prog 13 #[.string s] w fun e w' => e = .returned (.string q) ∧ Below w.heap.size w w' := by
  refine (sector_any s hs w).mono ?_
  rintro e w' ⟨rfl, hb⟩
  exact ⟨by rw [← hq], hb⟩
end Go.Proofs.Ytkpnllaegkdkkaa
