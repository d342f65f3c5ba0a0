/- The walk of the document's own reader of a text in sixteenths. -/
import Derived.Test.YtckfmkokdghinaaRHex
import Derived.Test.YtckfmkokdghinaaUnhex
namespace Go.Proofs.Ytckfmkokdghinaa
open Go.RowKit

theorem run_index_byte_succ {P : Program} (w : World) (t : TypeId) (s : ByteArray) (k : IntKind) (i : Nat) (h : P.underlying t = some .string) (hi : i + 1 < s.size) :
    (Instr.index t (.string s) (.int k ((i : Int) + 1))).run P w = .ok (.int .u8 ((strAt s (i + 1)).toNat : Int)) w := run_index_byte w t s k (i + 1) h hi
attribute [local go_sem high] run_index_byte fold_tab16 run_index_byte_succ
theorem pairs_two (a b : UInt8) : Dig.pairs [a, b] = [UInt8.ofNat (16 * Dig.half a + Dig.half b)] := by simp [Dig.pairs_cons, Dig.pair16, Dig.pairs]
theorem place16_is (c : UInt8) (p : Nat) (h : Dig.half c = p) (hp : p < 16) (w : World) : Calls Try.prog 45 #[.string tab16, .int .u8 c.toNat] w fun e w' => e = .returned (.int .i64 p) ∧ w' = w := by
  refine (place16_yes c (by omega) w).mono ?_
  rintro e w' ⟨rfl, rfl⟩
  exact ⟨by rw [h], rfl⟩

set_option maxRecDepth 100000 in
set_option maxHeartbeats 1000000 in
theorem rUnhex_any (s : ByteArray) (hs : s.size ≤ 140737488355328) (w : World) :
    Calls Try.prog 24 #[.string s] w fun e w' => e = .returned (ansOf (Dig.unhex s.data.toList)) ∧ Below w.heap.size w w' := by
  obtain ⟨i0, hi, hz0, hz1, hz2⟩ := info_parts infoByte
  obtain ⟨l, hl⟩ : ∃ l, l = s.data.toList := ⟨_, rfl⟩
  have hlen : l.length = s.size := by rw [hl]; exact size_toList s
  obtain ⟨r, hr⟩ : ∃ r, r = ansOf (Dig.unhex l) := ⟨_, rfl⟩
  rw [← hl, ← hr]
  have HR := Lib.hid hr
  clear hr
  have HL := Lib.hid hl
  clear hl
  have HLEN := Lib.hid hlen
  clear hlen
  go_enter Try.func24, Try.ntmps24
  go_wp2_with fail
  go_loopw [5] (fun i wr => ∃ j : Nat, j ≤ s.size ∧ i = .int .i64 j ∧ (∀ m, m < j → Dig.half (l.getD m 0) < 16) ∧ w = wr) (fun i _ => s.size - (intOf i).toNat)
  case atStart => exact ⟨0, by omega, rfl, fun m hm => by omega, rfl⟩
  case round =>
    obtain ⟨j, hj, rfl, hgood, rfl⟩ := hrel
    by_cases hlt : j < s.size
    · have hc := Lib.hid (show strAt s j = l.getD j 0 by rw [HL.out, strAt_eq])
      by_cases hh : Dig.half (strAt s j) = 16
      · have e := ansOf_error (Dig.unhex_bad (l := l) (by left; rw [Dig.bad16_of (i := j) (by rw [HLEN.out]; exact hlt) hgood (by rw [← hc.out]; exact hh), HLEN.out]; exact hlt))
        rw [Dig.bad16_of (i := j) (by rw [HLEN.out]; exact hlt) hgood (by rw [← hc.out]; exact hh), ← HR.out] at e
        have HE := Lib.hid e
        have HH := Lib.hid hh
        clear e hgood hh
        go_wp2_with (go_at_call 45; refine (place16_no _ HH.out _).mono ?_; rintro e w' ⟨rfl, rfl⟩)
        go_ret3
        exact ⟨by rw [HE.out]; rfl, Below.refl _ _⟩
      · have hh' : Dig.half (strAt s j) < 16 := by have := Dig.half_lt (strAt s j); omega
        have hgood' : ∀ m, m < j + 1 → Dig.half (l.getD m 0) < 16 := by
          intro m hm
          by_cases hmj : m = j
          · subst hmj; rw [← hc.out]; exact hh'
          · exact hgood m (by omega)
        have HG := Lib.hid hgood'
        clear hgood hgood'
        go_wp2_with (go_at_call 45; refine (place16_yes _ hh' _).mono ?_; rintro e w' ⟨rfl, rfl⟩)
        go_roundw
        case rel => exact ⟨j + 1, by omega, by go_num, HG.out, trivial⟩
        case measure => simp [intOf]; omega
    · obtain rfl : j = s.size := by omega
      have hb16 : Dig.bad16 l = l.length := Dig.bad16_none (fun m hm => hgood m (by rw [← HLEN.out]; exact hm))
      by_cases hodd : s.size % 2 = 0
      · have e := ansOf_ok (Dig.unhex_good hb16 (by rw [HLEN.out]; exact hodd))
        rw [← HR.out] at e
        have HE := Lib.hid e
        have HG := Lib.hid hgood
        have hpar : ((s.size : Int) % 2 != 0) = false := by simp; omega
        clear e hgood hb16
        go_wp2_with fail
        go_loopw [6, 7] (fun v i wr => ∃ k j : Nat, k ≤ s.size ∧ i = .int .i64 k ∧ Hid (k = 2 * j) ∧
          wr.ownsRow w.heap.size 5 1 v j ((Dig.pairs (l.take k)).map u8v) ∧ Below w.heap.size w wr) (fun _ i _ => s.size - (intOf i).toNat)
        case atStart => exact ⟨0, 0, by omega, rfl, Lib.hid rfl, by simpa [Dig.pairs] using World.ownsRow_nil _ _ _ _, Below.refl _ _⟩
        case round =>
          obtain ⟨k, j, hk, rfl, hkj, hown, hB⟩ := hrel
          by_cases hlt2 : k < s.size
          · have hsz := hB.size
            have hlt3 : k + 1 < s.size := by have := hkj.out; omega
            obtain ⟨p, hp⟩ : ∃ p, Dig.half (strAt s k) = p := ⟨_, rfl⟩
            obtain ⟨q, hq⟩ : ∃ q, Dig.half (strAt s (k + 1)) = q := ⟨_, rfl⟩
            have hp16 : p < 16 := by rw [← hp, strAt_eq, ← HL.out]; exact HG.out k hlt2
            have hq16 : q < 16 := by rw [← hq, strAt_eq, ← HL.out]; exact HG.out (k + 1) hlt3
            have HO := Lib.hid hown
            have HB := Lib.hid hB
            have HP := Lib.hid hp
            have HQ := Lib.hid hq
            clear hown hB hp hq
            go_wp2_with fail
            obtain ⟨x, hx⟩ : ∃ x : UInt8, x = UInt8.ofNat (16 * p + q) := ⟨_, rfl⟩
            have hxn : x.toNat = 16 * p + q := by rw [hx, UInt8.toNat_ofNat']; omega
            have hm1 : j + 1 ≤ maxLen := by have := hkj.out; unfold maxLen; omega
            have hm2 : (j + 1) * 1 ≤ 140737488355328 := by have := hkj.out; omega
            have hm3 : ∀ o, w.heap.size ≤ ((wr.alloc o).drew).heap.size := by intro o; simp; omega
            have hm4 : ∀ u ∈ [Value.int .u8 (x.toNat : Int)], u.oneCell' = true := by intro u hu; simp only [List.mem_singleton] at hu; subst hu; rfl
            have hm5 : ∀ T, ∀ j u, [Value.int .u8 (x.toNat : Int)][j]? = some u → ((wr.alloc (.cells #[Value.int .u8 (x.toNat : Int)] T)).drew).cell? ((⟨wr.heap.size, 0, none⟩ : Addr).add j) = some u := fun T => news_row (w := (wr.alloc (.cells #[Value.int .u8 (x.toNat : Int)] T)).drew) (cs := [Value.int .u8 (x.toNat : Int)]) (fr := (0, 0)) (t := T) (heap_alloc_new wr _)
            have e0 : IntKind.i64.wrap ((k : Int) + 1) = ((k + 1 : Nat) : Int) := by rw [IntWalk.i64_in _ (by omega)]; omega
            have e1 : IntKind.i64.wrap (16 * (p : Int)) = 16 * (p : Int) := IntWalk.i64_in _ (by omega)
            have e2 : IntKind.i64.wrap (16 * (p : Int) + (q : Int)) = 16 * (p : Int) + (q : Int) := IntWalk.i64_in _ (by omega)
            have e3 : IntKind.u8.wrap (16 * (p : Int) + (q : Int)) = (x.toNat : Int) := by rw [wraps_u8 _ (by omega) (by omega)]; omega
            have HX := Lib.hid hx
            clear hx hxn
            go_region_law (first | (refine step_append_own rfl _ _ 57 rfl w.heap.size 5 i0 (.int .u8 0) 1 1 Try.underlying57 hi hz0 hz1 hz2 rfl (by decide) _ j _ rfl (own_drew (HO.out.alloc _)) ⟨wr.heap.size, 0, none⟩ 1 1 [.int .u8 x.toNat] rfl Nat.one_pos rfl (hm5 _) hm4 hm1 hm2 (hm3 _) ?_; intro g5 cap5 w5 h5 hg5 hk5) | (go_simp; go_at_call 45; first | ((with_reducible refine (place16_is (strAt s k) p HP.out hp16 _).mono ?_); rintro e w' ⟨rfl, rfl⟩) | ((with_reducible refine (place16_is (strAt s (k + 1)) q HQ.out hq16 _).mono ?_); rintro e w' ⟨rfl, rfl⟩)))
            all_goals
              clear e0 e1 e2 e3
              go_wp2_with fail
              go_roundw
              case rel =>
                refine ⟨k + 2, j + 1, by omega, by go_num, Lib.hid (by have := hkj.out; omega), ?_, ?_⟩
                · have e2 : (Dig.pairs (l.take (k + 2))).map u8v = (Dig.pairs (l.take k)).map u8v ++ [.int .u8 x.toNat] := by
                    have ht : l.take (k + 2) = l.take k ++ [l.getD k 0, l.getD (k + 1) 0] := by
                      have := HLEN.out
                      rw [show k + 2 = k + 1 + 1 from rfl, List.take_succ_eq_append_getElem (by omega), List.take_succ_eq_append_getElem (by omega), List.append_assoc]
                      simp [List.getD, show k < l.length by omega, show k + 1 < l.length by omega]
                    rw [ht, Dig.pairs_append j _ _ (by have := HLEN.out; have := hkj.out; rw [List.length_take]; omega), List.map_append, pairs_two, HX.out, ← HP.out, ← HQ.out, strAt_eq, strAt_eq, ← HL.out]; rfl
                  rw [e2]; exact h5.out
                · exact (HB.out.drew.alloc (by simp; omega) _).grown hg5.out (by simp; omega) (fun q hq => (HO.out.lt q hq).1)
              case measure => simp [intOf]; omega
          · obtain rfl : k = s.size := by omega
            have hpl : (Dig.pairs (l.take s.size)).length = j := Dig.length_pairs j _ (by have := HLEN.out; have := hkj.out; rw [List.length_take]; omega)
            have HO := Lib.hid hown
            have HB := Lib.hid hB
            clear hown hB
            go_wp2_with (refine wpList_own_string rfl 57 9 _ rfl w.heap.size 5 _ j rfl _ hpl Try.underlying57 Try.underlying5 Try.underlying9 HO.out ?_; go_frame)
            go_ret3
            refine ⟨?_, HB.out⟩
            rw [List.take_of_length_le (by rw [HLEN.out]; omega)]
            rw [HE.out]; rfl
      · have e := ansOf_error (Dig.unhex_bad (l := l) (by right; rw [HLEN.out]; exact hodd))
        rw [hb16, HLEN.out, ← HR.out] at e
        have HE := Lib.hid e
        clear e hgood hb16
        go_wp2_with fail
        go_ret3
        exact ⟨by rw [HE.out]; rfl, Below.refl _ _⟩
end Go.Proofs.Ytckfmkokdghinaa
