/- The walks of words as a text, and of a key that is mixed with a mask. -/
import Derived.Test.YtdimkgidaioolaaText
namespace Go.Proofs.Ytdimkgidaioolaa
open Go.RowKit

theorem byteCells_snoc (l : List UInt8) (c : UInt8) : Lib.byteCells (l ++ [c]) = Lib.byteCells l ++ [.int .u8 c.toNat] := by simp [Lib.byteCells]
theorem d_allocBuilder (w : World) : (Instr.alloc 45 true (.tuple #[])).run Try.prog w = .ok (.pointer (some ⟨w.heap.size, 0, none⟩)) (w.alloc (.cells [Value.pointer none, .slice none 0 0].toArray 45)) := by kernel_rfl
theorem word_byte {low : Bool} {ws : List UInt32} {k j : Nat} {c : UInt8} {x : UInt32} (hc : c = Dig.byteAt x.toNat (Dig.placeOf low 4 j)) :
    Dig.textOf low (ws.take k) ++ Dig.bytesTo low 4 x.toNat (j + 1) = (Dig.textOf low (ws.take k) ++ Dig.bytesTo low 4 x.toNat j) ++ [c] := by
  rw [Dig.bytesTo_succ, hc, List.append_assoc]
theorem word_all {low : Bool} {ws : List UInt32} {k : Nat} {x : UInt32} (hk : k < ws.length) (hx : x = ws.getD k 0) :
    Dig.textOf low (ws.take (k + 1)) = Dig.textOf low (ws.take k) ++ Dig.bytesTo low 4 x.toNat 4 := by
  have e : ws[k] = x := by rw [hx, List.getD, List.getElem?_eq_getElem hk]; rfl
  rw [List.take_succ_eq_append_getElem hk, e, Dig.textOf_snoc]

set_option maxHeartbeats 1000000 in
theorem textOf_any (g o n cap : Nat) (low : Bool) (ws : List UInt32) (C : List Value) (T : TypeId) (fr : Nat × Nat) (w : World)
    (hg : w.heap[g]? = some (.cells C.toArray T fr)) (hlen : ws.length = n) (hn0 : 0 < n) (hn : n ≤ 16) (hC : ∀ i, i < n → C[o + i]? = some (u32v (ws.getD i 0))) :
    Calls Try.prog 58 #[.slice (some ⟨g, o, none⟩) n cap, .bool low] w fun e w' => e = .returned (.string ⟨(Dig.textOf low ws).toArray⟩) ∧ Below w.heap.size w w' := by
  have hgB := lt_of_heap hg
  go_enter Try.func58, Try.ntmps58
  go_wp2_with (refine wpList_alloc rfl 45 rfl [.pointer none, .slice none 0 0] d_allocBuilder ?_; go_frame)
  obtain ⟨w1, hw1⟩ : ∃ w1, w1 = w.alloc (.cells [Value.pointer none, .slice none 0 0].toArray 45) := ⟨_, rfl⟩
  rw [← hw1]
  have hb1 : Below w.heap.size w w1 := by rw [hw1]; exact (Below.refl _ _).alloc (Nat.le_refl _) _
  have hI1 : Lib.IsBuilder 45 5 w.heap.size w.heap.size (Lib.byteCells (Dig.textOf low (ws.take 0))) w1 := by
    rw [hw1, List.take_zero, Dig.textOf_nil]; exact Lib.fresh_isBuilder _ _ _
  clear hw1
  go_loopw [11] (fun i wr => ∃ k : Nat, k ≤ n ∧ i = .int .i64 k ∧ Lib.IsBuilder 45 5 w.heap.size w.heap.size (Lib.byteCells (Dig.textOf low (ws.take k))) wr ∧ Below w.heap.size w wr) (fun i _ => n - (intOf i).toNat)
  case atStart => exact ⟨0, by omega, rfl, hI1, hb1⟩
  case round =>
    clear hI1 hb1
    obtain ⟨k, hk, rfl, hI, hB⟩ := hrel
    by_cases hlt : k < n
    · have cX : wr.cell? ⟨g, o + k, none⟩ = some (u32v (ws.getD k 0)) := by
        rw [hB.cell (p := ⟨g, o + k, none⟩) hgB, cell_of_list hg, hC k hlt]
      obtain ⟨x, hx⟩ : ∃ x, x = ws.getD k 0 := ⟨_, rfl⟩
      rw [← hx] at cX
      unfold u32v at cX
      have HX := Lib.hid hx
      have HI := Lib.hid hI
      have HB := Lib.hid hB
      have Hg := Lib.hid hg
      have HC := Lib.hid hC
      have HL := Lib.hid hlen
      clear hx hI hB hg hC hlen
      obtain ⟨wo, rfl⟩ : ∃ wo : World, wo = wr := ⟨_, rfl⟩
      go_wp2
      go_loopw [15] (fun i wz => ∃ j : Nat, j ≤ 4 ∧ i = .int .i64 j ∧ Lib.IsBuilder 45 5 w.heap.size w.heap.size (Lib.byteCells (Dig.textOf low (ws.take k) ++ Dig.bytesTo low 4 x.toNat j)) wz ∧ Below w.heap.size w wz) (fun i _ => 4 - (intOf i).toNat)
      case atStart => exact ⟨0, by omega, rfl, by rw [Dig.bytesTo_zero, List.append_nil]; exact HI.out, HB.out⟩
      case round =>
        clear HI HB cX
        obtain ⟨j, hj, rfl, hI, hB⟩ := hrel
        by_cases hlt4 : j < 4
        · obtain ⟨c, hc⟩ : ∃ c, c = Dig.byteAt x.toNat (Dig.placeOf low 4 j) := ⟨_, rfl⟩
          have hlen2 : (Lib.byteCells (Dig.textOf low (ws.take k) ++ Dig.bytesTo low 4 x.toNat j)).length + 1 ≤ 140737488355328 := by
            rw [Lib.byteCells_length, List.length_append, Dig.length_textOf, Dig.length_bytesTo, List.length_take]; omega
          have hx32 := u32_lt x
          have HCc := Lib.hid hc
          have HI := Lib.hid hI
          have HB := Lib.hid hB
          have HN := Lib.hid hlen2
          clear hc hI hB hlen2
          go_wp2_with (first | (go_at_call 61; refine (byteOf_at _ x.toNat j 4 low rfl rfl hlt4 (by omega) _).mono ?_; rintro e w' ⟨rfl, rfl⟩; rw [← HCc.out]) | (go_at_call 62; refine (WriteByte_any w.heap.size _ _ _ _ HI.out HN.out HB.out.size).mono ?_; rintro e w' ⟨rfl, hI2, hB2⟩))
          go_roundw
          case rel =>
            refine ⟨j + 1, by omega, by go_num, Or.inr ?_, HB.out.trans hB2⟩
            rw [word_byte HCc.out, byteCells_snoc]; exact hI2
          case measure => simp [intOf]; omega
        · obtain rfl : j = 4 := by omega
          have HI := Lib.hid hI
          have HB := Lib.hid hB
          clear hI hB
          go_wp2
          go_roundw
          case rel => exact ⟨k + 1, by omega, by go_num, by rw [word_all (by rw [HL.out]; exact hlt) HX.out]; exact HI.out, HB.out⟩
          case measure => simp [intOf]; omega
    · obtain rfl : k = n := by omega
      rw [List.take_of_length_le (by omega)] at hI
      have h0 : Dig.textOf low ws ≠ [] := by intro h; have := Dig.length_textOf low ws; rw [h] at this; simp at this; omega
      have HI := Lib.hid hI
      have HB := Lib.hid hB
      have H0 := Lib.hid h0
      clear hI hB hg hC h0
      go_wp2_with (go_at_call 21; refine (d_String_any w.heap.size _ _ _ HI.out H0.out).mono ?_; rintro e w' ⟨rfl, hb⟩)
      go_ret
      exact ⟨rfl, HB.out.trans hb⟩
end Go.Proofs.Ytdimkgidaioolaa
