/- The document's disk: its image. -/
import Derived.Test.YtkpnllaegkdkkaaPKill
import Derived.Lib.AppendStr
namespace Go.Proofs.Ytkpnllaegkdkkaa
open Go.RowKit

theorem rimage_dead {r q n : Nat} {hv wv : Value} {S : List (List UInt8)} {ps : List Dk.Wr} {life : Int} {w : World} (h : RAt r q hv wv n S ps true life w) : Calls Try.prog 10 #[.pointer (some ⟨r, 0, none⟩)] w fun e w' => e = .returned (.string ⟨#[]⟩) ∧ w = w' := by
  have c4 := h.c4
  clear h
  go_enter Try.func10, Try.ntmps10
  go_wp2
  go_ret
  exact ⟨rfl, rfl⟩
section
variable {r q n : Nat} {hv wv : Value} {S : List (List UInt8)} {ps : List Dk.Wr} {life : Int} {w : World}
set_option maxRecDepth 100000 in
set_option maxHeartbeats 1000000 in
theorem rimage_ok (h : RAt r q hv wv n S ps false life w) : Calls Try.prog 10 #[.pointer (some ⟨r, 0, none⟩)] w fun e w' => e = .returned (sv S.flatten) ∧ Below w.heap.size w w' := by
  obtain ⟨i0, hi, hz0, hz1, hz2⟩ := info_parts infoU8r
  obtain ⟨g, cap, rfl, hg, hrow⟩ := h.row
  have c4 := h.c4
  have c1 := h.c1
  have c2 := h.c2
  have hn2 := h.n2
  have hn1 := h.n1
  have hlen := h.len
  have hwide := h.wide
  have H := Lib.hid h
  have HROW := Lib.hid hrow
  have HW := Lib.hid hwide
  have HL := Lib.hid hlen
  obtain ⟨L, hL⟩ : ∃ L, L = S.flatten := ⟨_, rfl⟩
  rw [← hL]
  have HLL := Lib.hid hL
  clear h hrow hwide hlen hL
  go_enter Try.func10, Try.ntmps10
  go_wp2_with fail
  go_loopw [3, 4] (fun vv iv wr => ∃ k : Nat, k ≤ n ∧ iv = .int .i64 k ∧ wr.ownsRow w.heap.size 5 1 vv (k * 64) ((S.take k).flatten.map u8v) ∧ Below w.heap.size w wr) (fun _ iv _ => n - (intOf iv).toNat)
  case atStart => exact ⟨0, by omega, rfl, World.ownsRow_nil _ _ _ _, Below.refl _ _⟩
  case round =>
    obtain ⟨k, hk, rfl, hown, hB⟩ := hrel
    have d1 := (World.cell?_of_block (w := w) (a := ⟨r, 1, none⟩) (hB.block r H.out.lt)).trans c1
    have d2 := (World.cell?_of_block (w := w) (a := ⟨r, 2, none⟩) (hB.block r H.out.lt)).trans c2
    have hz := hB.size
    by_cases hlt : k < n
    · have da := (World.cell?_of_block (w := w) (a := ⟨g, k, none⟩) (hB.block g hg)).trans (HROW.out k hlt)
      obtain ⟨s0, hs0⟩ : ∃ s0 : ByteArray, .string s0 = sv (S.getD k []) := ⟨_, rfl⟩
      have hkS : k < S.length := by rw [HL.out]; exact hlt
      have hsd : s0.data.toList = S.getD k [] := by have := hs0; simp only [sv, Value.string.injEq] at this; rw [this]
      have hsz : s0.size = 64 := by rw [← size_toList, hsd, List.getD, List.getElem?_eq_getElem hkS]; exact HW.out _ (List.getElem_mem _)
      rw [← hs0] at da
      have hfl : (S.take (k + 1)).flatten.map u8v = (S.take k).flatten.map u8v ++ s0.data.toList.map u8v := by
        rw [hsd, List.take_add_one, List.getElem?_eq_getElem hkS, List.flatten_append, List.map_append, List.getD, List.getElem?_eq_getElem hkS]; simp
      have HO := Lib.hid hown
      have HB := Lib.hid hB
      have HFL := Lib.hid hfl
      clear hown hB hfl hsd hs0 hkS
      go_wp2_with (first | (refine Lib.wpList_append_own_string _ rfl _ _ 81 9 rfl w.heap.size 5 i0 Try.underlying81 Try.underlying9 hi hz0 hz1 hz2 _ _ _ rfl HO.out s0 rfl (by unfold maxLen; omega) (by omega) (by omega) ?_; intro v7 w7 h7 hg7 _; have H7 := Lib.hid h7; have B7 := Lib.hid (HB.out.grown hg7 (by omega) (fun k hk => (HO.out.lt k hk).1)); clear h7 hg7; go_frame) | fail)
      go_roundw
      case rel => exact ⟨k + 1, by omega, by go_num, by have := H7.out; rw [hsz] at this; rw [HFL.out, show (k + 1) * 64 = k * 64 + 64 by omega]; exact this, B7.out⟩
      case measure => simp [intOf]; omega
    · have hkn : k = n := by omega
      have hfull : (S.take k).flatten = S.flatten := by rw [hkn, ← HL.out, List.take_length]
      have hfl : S.flatten.length = k * 64 := by rw [flat_length HW.out, HL.out, hkn]
      rw [hfull] at hown
      obtain ⟨g3, cap3, rfl⟩ : ∃ g cap, u3 = .slice (some ⟨g, 0, none⟩) (k * 64) cap := by
        rcases hown.2 with ⟨_, h0⟩ | ⟨g, cap, _, hv, _⟩
        · omega
        · exact ⟨g, cap, hv⟩
      have hr := range_of_own hown
      rw [← HLL.out] at hr hfl
      have HR := Lib.hid hr
      have HFL := Lib.hid hfl
      have HB := Lib.hid hB
      clear hown hB hfl hfull hr
      go_wp2_with (first | (refine wpList_bytes_string rfl 81 9 _ rfl 5 g3 0 (k * 64) cap3 rfl L HFL.out Try.underlying81 Try.underlying5 Try.underlying9 HR.out ?_; go_frame) | fail)
      go_ret
      exact ⟨rfl, HB.out⟩
end
end Go.Proofs.Ytkpnllaegkdkkaa
