/- The walks of a disk's image. -/
import Derived.Test.YtmobjpandmdmdaaGreatDoorDLose
import Derived.Test.YtmobjpandmdmdaaGreatDoorFShelf
import Derived.Lib.Builder
namespace Go.Proofs.YtmobjpandmdmdaaGreatDoor
open Go.RowKit

set_option maxHeartbeats 2000000 in
theorem BWrite_any (B b g o : Nat) (bs : List Value) (l : List UInt8) (hl : l.length = 64) (w : World) (h : Lib.BuilderAt 130 5 B b (.pointer (some ⟨b, 0, none⟩)) bs w) (hr : w.rangeAt g o (l.map u8v))
    (hlen : bs.length + 64 ≤ 140737488355328) (hBw : B ≤ w.heap.size) :
    Calls Tryz.prog 69 #[.pointer (some ⟨b, 0, none⟩), .slice (some ⟨g, o, none⟩) 64 64] w fun e w' => e = .returned (.tuple #[.int .i64 64, .nilIface]) ∧
      (Lib.BuilderAt 130 5 B b (.pointer (some ⟨b, 0, none⟩)) (bs ++ l.map u8v) w' ∧ Below B w w') := by
  obtain ⟨i0, hi, hz0, hz1, hz2⟩ := info_parts infoByte
  have h0 := h.cell0
  obtain ⟨hB, v, hbk, hown, hne⟩ := h
  have c1 : w.cell? ⟨b, 1, none⟩ = some v := by rw [Lib.cell_of_heap hbk]; rfl
  have hone : ∀ v ∈ l.map u8v, v.oneCell' = true := fun v hv => by obtain ⟨y, _, rfl⟩ := List.mem_map.1 hv; rfl
  obtain ⟨cs, hcs⟩ : ∃ cs, cs = l.map u8v := ⟨_, rfl⟩
  have hcl : cs.length = 64 * 1 := by rw [hcs, List.length_map, hl]
  rw [← hcs] at hr hone ⊢
  have HR := Lib.hid hr
  have HONE := Lib.hid hone
  have HCL := Lib.hid hcl
  have HBK := Lib.hid hbk
  have HOWN := Lib.hid hown
  have HNE := Lib.hid hne
  clear hr hone hcl hcs hl hbk hown hne
  go_enter Tryz.func69, Tryz.ntmps69
  go_wp2_with (first | (go_at_call 81; refine (copyCheck_used b _ h0).mono ?_; rintro e w' ⟨rfl, rfl⟩) | (at_builtin; refine wpList_append_own _ rfl _ _ 57 rfl B 5 i0 (.int .u8 0) 1 1 Tryz.underlying57 hi hz0 hz1 hz2 rfl (by decide) _ _ _ rfl HOWN.out ⟨g, o, none⟩ 64 64 cs rfl HCL.out ?c1 HONE.out ?c3 ?c4 hBw ?_))
  case c1 => intro j u hj; rw [Addr.add_mid]; exact HR.out j u hj
  case c3 => unfold maxLen; omega
  case c4 => omega
  intro v' w2 hown' hgrow _
  have hlt : b < w.heap.size := lt_of_heap HBK.out
  have hb2 : w2.heap[b]? = some (.cells #[.pointer (some ⟨b, 0, none⟩), v] 130 (0, 0)) := by
    rw [hgrow.block b hlt (fun e => HNE.out e.symm)]; exact HBK.out
  have d1 : w2.cell? ⟨b, 1, none⟩ = some v := by rw [Lib.cell_of_heap hb2]; rfl
  have f1 : w2.frozen? ⟨b, 1, none⟩ = false := Lib.frozen_of_heap hb2 1
  obtain ⟨g', cap, rfl⟩ : ∃ g' cap, v' = .slice (some ⟨g', 0, none⟩) (bs.length + 64) cap := by
    rcases hown'.2 with ⟨_, h0⟩ | ⟨g', cap, cur, hv, _⟩
    · omega
    · exact ⟨g', cap, hv⟩
  have HO := Lib.hid hown'
  have HG := Lib.hid hgrow
  have HB2 := Lib.hid hb2
  clear hown' hgrow hb2
  go_wp2
  go_ret2
  refine ⟨rfl, ?_, ?_⟩
  · refine Lib.BuilderAt.put (T := 130) (e := 5) hB HB2.out (bs' := bs ++ cs) ?_ (by decide)
    rw [List.length_append, HCL.out]
    exact HO.out
  · exact ((Below.refl _ _).grown HG.out hBw (fun k hk => (HOWN.out.lt k hk).1)).setCell (p := ⟨b, 1, none⟩) hB _

theorem allocBuilder (w : World) : (Instr.alloc 130 true (.tuple #[])).run Tryz.prog w = .ok (.pointer (some ⟨w.heap.size, 0, none⟩)) (w.alloc (.cells [Value.pointer none, .slice none 0 0].toArray 130)) := by kernel_rfl
theorem take_sect {S : List (List UInt8)} {k : Nat} (hk : k < S.length) : (S.take (k + 1)).flatten = (S.take k).flatten ++ S.getD k [] := by
  rw [List.take_succ_eq_append_getElem hk, List.flatten_append, List.getD, List.getElem?_eq_getElem hk]; simp
set_option maxRecDepth 100000 in
set_option maxHeartbeats 2000000 in
theorem Mimage_any (d p bl bn : Nat) (pv : Value) (n : Nat) (S : List (List UInt8)) (ps : List Dk.Wr) (life : Int) (w : World) (h : LiveAt d p bl bn pv n S ps life w) :
    Calls Tryz.prog 43 #[.pointer (some ⟨d, 1, none⟩)] w fun e w' => e = .returned (.string ⟨S.flatten.toArray⟩) ∧ Below w.heap.size w w' := by
  have hdl := h.lt
  have c1 := h.c1
  have hn2 := h.n2
  have H := Lib.hid h
  clear h
  go_enter Tryz.func43, Tryz.ntmps43
  go_wp2_with (first | (refine wpList_alloc rfl 130 rfl _ allocBuilder ?_; go_frame) | fail)
  refine (Builder_Grow_fresh w.heap.size w.heap.size (n * 64) _ (Nat.le_refl _) (by exact heap_alloc_new _ _) (by simp) (by omega)).mono ?_
  rintro e w1 ⟨rfl, hb1, hbel⟩
  have B1 : Below w.heap.size w w1 := ((Below.refl _ _).alloc (Nat.le_refl _) _).trans hbel
  have HB1 := Lib.hid hb1
  have HB := Lib.hid B1
  have c11 : w1.cell? ⟨d, 1, none⟩ = some (.slice (some ⟨bl, 0, none⟩) n n) := (B1.cell (p := ⟨d, 1, none⟩) hdl).trans c1
  clear hb1 hbel B1
  go_wp2_with fail
  go_loopw [17] (fun i wr => ∃ j : Nat, j ≤ n ∧ i = .int .i64 j ∧ Lib.BuilderAt 130 5 w.heap.size w.heap.size (.pointer (some ⟨w.heap.size, 0, none⟩)) ((S.take j).flatten.map u8v) wr ∧ Below w.heap.size w wr) (fun i _ => n - (intOf i).toNat)
  case atStart => exact ⟨0, by omega, rfl, HB1.out, HB.out⟩
  case round =>
    clear HB1 HB c11
    obtain ⟨j, hj, rfl, hA, hB⟩ := hrel
    have cr : wr.cell? ⟨d, 1, none⟩ = some (.slice (some ⟨bl, 0, none⟩) n n) := (hB.cell (p := ⟨d, 1, none⟩) hdl).trans c1
    by_cases hlt : j < n
    · have hjS : j < S.length := by rw [H.out.len]; exact hlt
      obtain ⟨A, C, hAl, hS1, _⟩ := sect_split H.out.wide hjS
      have hbl : wr.heap[bl]? = some (.cells (A ++ ((S.getD j []).map u8v ++ C)).toArray 104 (0, 0)) := by rw [hB.block bl (lt_of_heap H.out.lst), H.out.lst, hS1]
      have hr := range_mid hbl hAl
      have hsl : (S.getD j []).length = 64 := by rw [List.getD, List.getElem?_eq_getElem hjS]; exact H.out.wide _ (List.getElem_mem _)
      have hlen : ((S.take j).flatten.map u8v).length + 64 ≤ 140737488355328 := by
        rw [List.length_map, flat_length (n := 64) (fun s hs => H.out.wide s (List.mem_of_mem_take hs)), List.length_take]
        have : min j S.length ≤ j := Nat.min_le_left _ _
        have := Nat.mul_le_mul_right 64 this
        omega
      have e2 : (S.take (j + 1)).flatten.map u8v = (S.take j).flatten.map u8v ++ (S.getD j []).map u8v := by rw [take_sect hjS, List.map_append]
      have hsz := hB.size
      have HA := Lib.hid hA
      have HB := Lib.hid hB
      have HR := Lib.hid hr
      have HSL := Lib.hid hsl
      have HLEN := Lib.hid hlen
      have HE := Lib.hid e2
      clear hA hB hr hsl hlen e2 hbl hS1 hAl
      go_wp2_with fail
      refine (BWrite_any w.heap.size w.heap.size bl (j * 64) _ (S.getD j []) HSL.out _ HA.out HR.out HLEN.out hsz).mono ?_
      rintro e w3 ⟨rfl, h3, hb3⟩
      have H3 := Lib.hid h3
      have HB3 := Lib.hid (HB.out.trans hb3)
      clear h3 hb3
      go_wp2_with fail
      go_roundw
      case rel => exact ⟨j + 1, by omega, by go_num, by rw [HE.out]; exact H3.out, HB3.out⟩
      case measure => simp [intOf]; omega
    · obtain rfl : j = n := by omega
      have hall : (S.take j).flatten = S.flatten := by rw [List.take_of_length_le (by rw [H.out.len]; exact Nat.le_refl _)]
      rw [hall] at hA
      have hsz := hB.size
      have HA := Lib.hid hA
      have HB := Lib.hid hB
      clear hA hB hall
      go_wp2_with fail
      refine (Builder_String_any w.heap.size w.heap.size S.flatten _ (Or.inr HA.out) hsz).mono ?_
      rintro e w3 ⟨rfl, hb3⟩
      have HB3 := Lib.hid (HB.out.trans hb3)
      clear hb3
      go_wp2_with fail
      go_ret
      exact ⟨rfl, HB3.out⟩
theorem Image_ok (d p : Nat) (F : List Nat) (n : Nat) (S : List (List UInt8)) (ps : List Dk.Wr) (life : Int) (q : ByteArray) (hq : q.data.toList = S.flatten) (w : World) (h : Live d p F n S ps life w) :
    Calls Tryz.prog 15 #[.pointer (some ⟨d, 0, none⟩)] w fun e w' => e = .returned (.string q) ∧ Below w.heap.size w w' := by
  obtain ⟨bl, bn, pv, h, _⟩ := h
  have hqq : q = ⟨S.flatten.toArray⟩ := by rw [← hq]
  have R := Mimage_any d p bl bn pv n S ps life w h
  rw [← hqq] at R
  have HR := Lib.hid R
  clear h hq hqq R
  go_enter Tryz.func15, Tryz.ntmps15
  go_wp2_with (go_at_call 43; refine HR.out.mono ?_; rintro e w' ⟨rfl, hb⟩)
  go_ret
  exact ⟨rfl, hb⟩
end Go.Proofs.YtmobjpandmdmdaaGreatDoor
