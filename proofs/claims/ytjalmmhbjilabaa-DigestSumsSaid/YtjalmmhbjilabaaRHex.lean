/- The walk of the document's own text in sixteenths. -/
import Derived.Test.YtjalmmhbjilabaaRPlace
import Derived.Test.YtjalmmhbjilabaaDLaws
namespace Go.Proofs.Ytjalmmhbjilabaa
open Go.RowKit

theorem wrap_hi (c : UInt8) : IntKind.u8.wrap ((c.toNat : Int) / 16) = (c.toNat : Int) / 16 := by
  have := c.toNat_lt
  rw [show (c.toNat : Int) / 16 = ((c.toNat / 16 : Nat) : Int) from by omega]
  exact wraps_u8 _ (by omega) (by omega)
theorem wrap_lo (c : UInt8) : IntKind.u8.wrap ((c.toNat : Int) % 16) = (c.toNat : Int) % 16 := by
  have := c.toNat_lt
  rw [show (c.toNat : Int) % 16 = ((c.toNat % 16 : Nat) : Int) from by omega]
  exact wraps_u8 _ (by omega) (by omega)
theorem tmod_16 (c : UInt8) : (c.toNat : Int).tmod 16 = (c.toNat : Int) % 16 := Int.tmod_eq_emod_of_nonneg (by omega)
/-- The text of the bytes that a slice owns, whether it is nil or not. -/
theorem wpList_own_string {P : Program} {w : World} {ops : Array Oper} {rest : List Oper} {o : Oper} {a : Act} {Q : Exit → Act → World → Prop} (hgd : o.guard = none) (src dst : TypeId) (x : Operand) (ho : o.op = .convert src dst x)
    (B : Nat) (e : TypeId) (v : Value) (n : Nat) (hx : a.eval x = v) (l : List UInt8) (hlen : l.length = n)
    (hs : P.underlying src = some (.slice e)) (he : P.underlying e = some (.int .u8)) (hd : P.underlying dst = some .string) (hown : w.ownsRow B e 1 v n (l.map u8v))
    (h : wpList P ops Q rest (a.put o.dst (.string ⟨l.toArray⟩)) w) : wpList P ops Q (o :: rest) a w := by
  rcases hown.2 with ⟨hv, h0⟩ | ⟨g, cap, cur, hv, _⟩
  · subst hv h0
    obtain rfl : l = [] := List.eq_nil_of_length_eq_zero hlen
    exact wpList_nil_string hgd src dst x ho e hx hs he hd h
  · subst hv
    exact wpList_bytes_string hgd src dst x ho e g 0 n cap hx l hlen hs he hd (range_of_own hown) h
attribute [local go_sem high] run_index_byte run_index_hi run_index_lo fold_tab16 wrap_hi wrap_lo tmod_16

set_option maxHeartbeats 1000000 in
theorem rHex_any (s : ByteArray) (hs : s.size ≤ 70368744177664) (w : World) :
    Calls Try.prog 26 #[.string s] w fun e w' => e = .returned (.string ⟨(Dig.hex s.data.toList).toArray⟩) ∧ Below w.heap.size w w' := by
  obtain ⟨i0, hi, hz0, hz1, hz2⟩ := info_parts infoByte
  go_enter Try.func26, Try.ntmps26
  go_wp2_with fail
  go_loopw [3, 4] (fun v i wr => ∃ j : Nat, j ≤ s.size ∧ i = .int .i64 j ∧
    wr.ownsRow w.heap.size 5 1 v (2 * j) ((Dig.hex (s.data.toList.take j)).map u8v) ∧ Below w.heap.size w wr) (fun _ i _ => s.size - (intOf i).toNat)
  case atStart => exact ⟨0, by omega, rfl, by simpa [Dig.hex_nil] using World.ownsRow_nil _ _ _ _, Below.refl _ _⟩
  case round =>
    obtain ⟨j, hj, rfl, hown, hB⟩ := hrel
    by_cases hlt : j < s.size
    · have hsz := hB.size
      have hlen := size_toList s
      have HO := Lib.hid hown
      have HB := Lib.hid hB
      clear hown hB
      go_wp2_with fail
      have e2 : (Dig.hex (s.data.toList.take (j + 1))).map u8v = (Dig.hex (s.data.toList.take j)).map u8v ++ [.int .u8 (Dig.dig16 ((strAt s j).toNat / 16)).toNat, .int .u8 (Dig.dig16 ((strAt s j).toNat % 16)).toNat] := by
        rw [List.take_succ_eq_append_getElem (by omega), Dig.hex_snoc, List.map_append, Dig.hex2_eq, strAt_eq, List.getD, List.getElem?_eq_getElem (by omega)]; rfl
      go_region_law (refine step_append_own rfl _ _ 57 rfl w.heap.size 5 i0 (.int .u8 0) 1 1 Try.underlying57 hi hz0 hz1 hz2 rfl (by decide) _ (2 * j) _ rfl (own_drew (HO.out.alloc _)) ⟨wr.heap.size, 0, none⟩ 2 2 [.int .u8 (Dig.dig16 ((strAt s j).toNat / 16)).toNat, .int .u8 (Dig.dig16 ((strAt s j).toNat % 16)).toNat] rfl (by omega) rfl (news_two _ _ _ _) (by intro u hu; simp only [List.mem_cons, List.not_mem_nil, or_false] at hu; rcases hu with rfl | rfl <;> rfl) (by unfold maxLen; omega) (by omega) (by simp; omega) ?_; intro g5 cap5 w5 h5 hg5 hk5)
      all_goals
        go_wp2_with fail
        go_roundw
        case rel =>
          refine ⟨j + 1, by omega, by go_num, ?_, ?_⟩
          · rw [e2, show 2 * (j + 1) = 2 * j + 2 from by omega]; exact h5.out
          · exact (HB.out.drew.alloc (by simp; omega) _).grown hg5.out (by simp; omega) (fun q hq => (HO.out.lt q hq).1)
        case measure => simp [intOf]; omega
    · obtain rfl : j = s.size := by omega
      have hl : (Dig.hex (s.data.toList.take s.size)).length = 2 * s.size := by rw [Dig.length_hex, List.length_take, size_toList]; omega
      have HO := Lib.hid hown
      have HB := Lib.hid hB
      clear hown hB
      go_wp2_with (refine wpList_own_string rfl 57 9 _ rfl w.heap.size 5 _ (2 * s.size) rfl _ hl Try.underlying57 Try.underlying5 Try.underlying9 HO.out ?_; go_frame)
      go_ret
      refine ⟨?_, HB.out⟩
      rw [List.take_of_length_le (by rw [size_toList]; omega)]; rfl
end Go.Proofs.Ytjalmmhbjilabaa
