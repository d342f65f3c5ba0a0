/- The walk of a text in sixteenths that is read. -/
import Derived.Test.YtjalmmhbjilabaaHex
namespace Go.Proofs.Ytjalmmhbjilabaa
open Go.RowKit

/-- What a reader answers: the text; else the error and the place. -/
def ansOf : Except Nat (List UInt8) → Value
  | .ok l => .tuple #[.string ⟨l.toArray⟩, .int .i64 0, .int .i64 0]
  | .error i => .tuple #[.string ⟨#[]⟩, .int .i64 50, .int .i64 i]
theorem ansOf_ok {r : Except Nat (List UInt8)} {l : List UInt8} (h : r = .ok l) : ansOf r = .tuple #[.string ⟨l.toArray⟩, .int .i64 0, .int .i64 0] := by rw [h]; rfl
theorem ansOf_error {r : Except Nat (List UInt8)} {i : Nat} (h : r = .error i) : ansOf r = .tuple #[.string ⟨#[]⟩, .int .i64 50, .int .i64 i] := by rw [h]; rfl
theorem or_put16 (x : UInt8) (h : Nat) (hh : h < 16) : bits .or .u8 ((x.toNat : Int) * 16 % 256) (h : Int) = ((Dig.put16 x h).toNat : Int) := by
  have hx := x.toNat_lt
  rw [show (x.toNat : Int) * 16 % 256 = ((x.toNat * 16 % 256 : Nat) : Int) from by omega, u8_or_nat _ _ (by omega) (by omega), Dig.put16_eq, UInt8.toNat_ofNat']
  have : x.toNat * 16 % 256 ||| h = x.toNat * 16 % 256 + h := by
    have e : x.toNat * 16 % 256 = x.toNat % 16 * 16 := by omega
    rw [e, show x.toNat % 16 * 16 = 2 ^ 4 * (x.toNat % 16) from by omega, ← Nat.two_pow_add_eq_or_of_lt (i := 4) (b := h) (by omega)]
  rw [this]; omega
attribute [local go_sem high] run_index_byte or_put16

set_option maxRecDepth 100000 in
set_option maxHeartbeats 1000000 in
theorem Unhex_any (s : ByteArray) (hs : s.size ≤ 562949953421312) (w : World) :
    Calls Try.prog 16 #[.string s] w fun e w' => e = .returned (ansOf (Dig.unhex s.data.toList)) ∧ Below w.heap.size w w' := by
  obtain ⟨i0, hi, hz0, hz1, hz2⟩ := info_parts infoByte
  obtain ⟨l, hl⟩ : ∃ l, l = s.data.toList := ⟨_, rfl⟩
  have hlen : l.length = s.size := by rw [hl]; exact size_toList s
  obtain ⟨r, hr⟩ : ∃ r, r = ansOf (Dig.unhex l) := ⟨_, rfl⟩
  rw [← hl, ← hr]
  have HR := Lib.hid hr
  clear hr
  have HL := Lib.hid hl
  clear hl
  have HLEN := Lib.hid hlen
  clear hlen
  go_enter Try.func16, Try.ntmps16
  go_wp2_with (refine wpList_make_row rfl 57 _ _ rfl 5 i0 (.int .u8 0) 1 Try.underlying57 hi hz0 hz1 hz2 rfl (s.size / 2) (s.size / 2) (int64_congr (by omega)) (int64_congr (by omega)) (by omega) (by omega) (by omega) ?_; intro w1 hown hb1; go_frame)
  have hown1 := hown.out
  clear hown
  have hown1 : w1.ownsRow w.heap.size 5 1 (.slice (some ⟨w.heap.size, 0, none⟩) (s.size / 2) (s.size / 2)) (s.size / 2) ((Dig.unhexTo l 0).map u8v) := by
    rw [Dig.unhexTo_zero, HLEN.out, List.map_replicate]; exact hown1
  go_loopw [15] (fun i wr => ∃ j : Nat, j ≤ s.size ∧ i = .int .i64 j ∧ (∀ m, m < j → Dig.half (l.getD m 0) < 16) ∧
    wr.ownsRow w.heap.size 5 1 (.slice (some ⟨w.heap.size, 0, none⟩) (s.size / 2) (s.size / 2)) (s.size / 2) ((Dig.unhexTo l j).map u8v) ∧ Below w.heap.size w wr) (fun i _ => s.size - (intOf i).toNat)
  case atStart => exact ⟨0, by omega, rfl, fun m hm => by omega, hown1, hb1⟩
  case round =>
    clear hown1 hb1
    obtain ⟨j, hj, rfl, hgood, hown, hB⟩ := hrel
    by_cases hlt : j < s.size
    · have hsz := hB.size
      have hc := Lib.hid (show strAt s j = l.getD j 0 by rw [HL.out, strAt_eq])
      by_cases hh : Dig.half (strAt s j) = 16
      · have e := ansOf_error (Dig.unhex_bad (l := l) (by left; rw [Dig.bad16_of (i := j) (by rw [HLEN.out]; exact hlt) hgood (by rw [← hc.out]; exact hh), HLEN.out]; exact hlt))
        rw [Dig.bad16_of (i := j) (by rw [HLEN.out]; exact hlt) hgood (by rw [← hc.out]; exact hh), ← HR.out] at e
        have HE := Lib.hid e
        have HB := Lib.hid hB
        have HH := Lib.hid hh
        clear e hB hown hgood hh
        go_wp2_with (go_at_call 36; refine (halfOf_no _ HH.out _).mono ?_; rintro e w' ⟨rfl, rfl⟩)
        go_ret3
        exact ⟨by rw [HE.out]; rfl, HB.out⟩
      · have hh' : Dig.half (strAt s j) < 16 := by have := Dig.half_lt (strAt s j); omega
        have hgood' : ∀ m, m < j + 1 → Dig.half (l.getD m 0) < 16 := by
          intro m hm
          by_cases hmj : m = j
          · subst hmj; rw [← hc.out]; exact hh'
          · exact hgood m (by omega)
        clear hgood
        by_cases hq : j / 2 < s.size / 2
        · obtain ⟨x, hx⟩ : ∃ x, x = (Dig.unhexTo l j).getD (j / 2) 0 := ⟨_, rfl⟩
          have hul := Dig.length_unhexTo l j
          have c0 : wr.cell? ⟨w.heap.size, j / 2, none⟩ = some (.int .u8 x.toNat) := cell_own hown (by rw [List.getElem?_map, List.getElem?_eq_getElem (by rw [hul, HLEN.out]; exact hq), hx, List.getD, List.getElem?_eq_getElem (by rw [hul, HLEN.out]; exact hq)]; rfl)
          have f0 := hown.frozenAt (j / 2)
          have HO := Lib.hid hown
          have HB := Lib.hid hB
          have HG := Lib.hid hgood'
          have HX := Lib.hid hx
          clear hown hB hgood' hx hul
          go_wp2_with (go_at_call 36; refine (halfOf_yes _ hh' _).mono ?_; rintro e w' ⟨rfl, rfl⟩)
          go_roundw
          case rel =>
            refine ⟨j + 1, by omega, by go_num, HG.out, ?_, ?_⟩
            · have e2 : (Dig.unhexTo l (j + 1)).map u8v = ((Dig.unhexTo l j).map u8v).set (j / 2) (.int .u8 (Dig.put16 x (Dig.half (strAt s j))).toNat) := by
                rw [Dig.unhexTo_set (by rw [HLEN.out]; exact hq), List.map_set, ← HX.out, ← hc.out]; rfl
              rw [e2]; exact (HO.out.stored (j / 2) _).1
            · exact HB.out.setCell (Nat.le_refl _) _
          case measure => simp [intOf]; omega
        · have HO := Lib.hid hown
          have HB := Lib.hid hB
          have HG := Lib.hid hgood'
          clear hown hB hgood'
          go_wp2_with (go_at_call 36; refine (halfOf_yes _ hh' _).mono ?_; rintro e w' ⟨rfl, rfl⟩)
          go_roundw
          case rel => exact ⟨j + 1, by omega, by go_num, HG.out, by rw [Dig.unhexTo_same (by rw [HLEN.out]; exact hq)]; exact HO.out, HB.out⟩
          case measure => simp [intOf]; omega
    · obtain rfl : j = s.size := by omega
      have hb16 : Dig.bad16 l = l.length := Dig.bad16_none (fun m hm => hgood m (by rw [← HLEN.out]; exact hm))
      by_cases hodd : s.size % 2 = 0
      · have e := ansOf_ok (Dig.unhex_good hb16 (by rw [HLEN.out]; exact hodd))
        rw [← HR.out] at e
        have HE := Lib.hid e
        have HB := Lib.hid hB
        have hall := Dig.unhexTo_all (l := l) (by rw [HLEN.out]; exact hodd)
        rw [HLEN.out] at hall
        have hown' : wr.ownsRow w.heap.size 5 1 (.slice (some ⟨w.heap.size, 0, none⟩) (s.size / 2) (s.size / 2)) (s.size / 2) ((Dig.pairs l).map u8v) := by rw [← hall]; exact hown
        have hpl := Dig.length_pairs (s.size / 2) l (by rw [HLEN.out])
        have HO := Lib.hid hown'
        have HP := Lib.hid hpl
        clear e hB hown hgood hb16 hall hown' hpl
        go_wp2_with (refine wpList_bytes_string rfl 57 9 _ rfl 5 w.heap.size 0 (s.size / 2) (s.size / 2) rfl (Dig.pairs l) HP.out Try.underlying57 Try.underlying5 Try.underlying9 (range_of_own HO.out) ?_; go_frame)
        go_ret3
        exact ⟨by rw [HE.out]; rfl, HB.out⟩
      · have e := ansOf_error (Dig.unhex_bad (l := l) (by right; rw [HLEN.out]; exact hodd))
        rw [hb16, HLEN.out, ← HR.out] at e
        have HE := Lib.hid e
        have HB := Lib.hid hB
        clear e hB hown hgood hb16
        go_wp2_with fail
        go_ret3
        exact ⟨by rw [HE.out]; rfl, HB.out⟩
end Go.Proofs.Ytjalmmhbjilabaa
