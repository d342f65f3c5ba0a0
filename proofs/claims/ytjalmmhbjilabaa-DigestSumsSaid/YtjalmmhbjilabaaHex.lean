/- The walk of a text in sixteenths. -/
import Derived.Test.YtjalmmhbjilabaaCodes
import Derived.Deep.AppendLies
namespace Go.Proofs.Ytjalmmhbjilabaa
open Go.RowKit

/-- The byte of a string at a place. -/
def strAt (s : ByteArray) (i : Nat) : UInt8 := s.data.toList.getD i 0
theorem strAt_eq (s : ByteArray) (i : Nat) : strAt s i = s.data.toList.getD i 0 := rfl
attribute [irreducible] strAt
theorem run_index_byte {P : Program} (w : World) (t : TypeId) (s : ByteArray) (k : IntKind) (i : Nat) (h : P.underlying t = some .string) (hi : i < s.size) :
    (Instr.index t (.string s) (.int k (i : Int))).run P w = .ok (.int .u8 ((strAt s i).toNat : Int)) w := by
  rw [strAt_eq, run_index_string w t s k i h, dif_pos (by omega)]
  have hl : i < s.data.toList.length := by rw [size_toList]; exact hi
  simp only [List.getD, List.getElem?_eq_getElem hl]
  rfl
def tab16 : ByteArray := ⟨#[48, 49, 50, 51, 52, 53, 54, 55, 56, 57, 97, 98, 99, 100, 101, 102]⟩
theorem tab16_size : tab16.size = 16 := rfl
theorem tab16_list : tab16.data.toList = Dig.digits16 := by decide +kernel
theorem fold_tab16 : (⟨#[48, 49, 50, 51, 52, 53, 54, 55, 56, 57, 97, 98, 99, 100, 101, 102]⟩ : ByteArray) = tab16 := rfl
attribute [irreducible] tab16
theorem run_index_hi {P : Program} (w : World) (t : TypeId) (k : IntKind) (c : UInt8) (h : P.underlying t = some .string) :
    (Instr.index t (.string tab16) (.int k ((c.toNat : Int) / 16))).run P w = .ok (.int .u8 ((Dig.dig16 (c.toNat / 16)).toNat : Int)) w := by
  have := c.toNat_lt
  rw [show (c.toNat : Int) / 16 = ((c.toNat / 16 : Nat) : Int) from by omega, run_index_byte w t _ k _ h (by rw [tab16_size]; omega), strAt_eq, tab16_list]
  congr 3; unfold Dig.dig16; rfl
theorem run_index_lo {P : Program} (w : World) (t : TypeId) (k : IntKind) (c : UInt8) (h : P.underlying t = some .string) :
    (Instr.index t (.string tab16) (.int k ((c.toNat : Int) % 16))).run P w = .ok (.int .u8 ((Dig.dig16 (c.toNat % 16)).toNat : Int)) w := by
  rw [show (c.toNat : Int) % 16 = ((c.toNat % 16 : Nat) : Int) from by omega, run_index_byte w t _ k _ h (by rw [tab16_size]; omega), strAt_eq, tab16_list]
  congr 3; unfold Dig.dig16; rfl
theorem and_15 (c : UInt8) : bits .and .u8 (c.toNat : Int) 15 = (c.toNat : Int) % 16 := by
  exact u8_and15 _ (by omega) (by have := c.toNat_lt; omega)
attribute [local go_sem high] run_index_byte run_index_hi run_index_lo fold_tab16 and_15

theorem step_append_fits {P : Program} {ops : Array Oper} {o : Oper} {a : Act} {w : World} {K : Act → World → Prop} {Q : Exit → Act → World → Prop} {E : Prop} (hgd : o.guard = none) (s x : Operand) (t : TypeId)
    (ho : o.op = .call { callee := .builtin .append, args := #[s, x], argTypes := #[t, t] }) (base : Nat) (e : TypeId) (i : TypeInfo) (size : Nat) (ht : P.underlying t = some (.slice e)) (hi : P.info? e = some i) (hsize : i.size = size)
    (g n cap : Nat) (xs : List Value) (hs : a.eval s = .slice (some ⟨g, 0, none⟩) n cap) (hown : w.ownsRow base e size (.slice (some ⟨g, 0, none⟩) n cap) n xs)
    (ad : Addr) (m c : Nat) (news : List Value) (hl : news.length = m * size) (hx : a.eval x = .slice (some ad) m c) (hnews : ∀ j u, news[j]? = some u → w.cell? (ad.add j) = some u) (h1 : ∀ u ∈ news, u.oneCell' = true)
    (hroom : n + m ≤ cap)
    (h : ∀ w', w'.ownsRow base e size (.slice (some ⟨g, 0, none⟩) (n + m) cap) (n + m) (xs ++ news) → w.grownBy w' (some g) → K (a.put o.dst (.slice (some ⟨g, 0, none⟩) (n + m) cap)) w') :
    if Region.wanted o (yielded ops a.tmps) = true then Oper.wp P o a w K Q else E := by
  have hw : Region.wanted o (yielded ops a.tmps) = true := by simp [Region.wanted, hgd]
  rw [if_pos hw]
  obtain ⟨w', hrun, hown', hgrown⟩ := run_append_fits w base t o.type e i size ht hi hsize g n cap xs hown ad m c news hl hnews h1 hroom
  unfold Oper.wp
  simp [execOp, ho, resolve, invoke, builtin, hs, hx, hrun, Result.andThen]
  exact h w' hown' hgrown
theorem news_two (w : World) (a b : Value) (T : TypeId) : ∀ j u, [a, b][j]? = some u → ((w.alloc (.cells #[a, b] T)).drew).cell? ((⟨w.heap.size, 0, none⟩ : Addr).add j) = some u :=
  World.news_of_block (w := (w.alloc (.cells #[a, b] T)).drew) (cs := #[a, b]) (fr := (0, 0)) (t := T) (heap_alloc_new w _)
theorem own_drew {w : World} {B n : Nat} {e : TypeId} {v : Value} {xs : List Value} (h : w.ownsRow B e 1 v n xs) : w.drew.ownsRow B e 1 v n xs := h

set_option maxHeartbeats 1000000 in
theorem Hex_any (s : ByteArray) (hs : s.size ≤ 140737488355328) (w : World) :
    Calls Try.prog 17 #[.string s] w fun e w' => e = .returned (.string ⟨(Dig.hex s.data.toList).toArray⟩) ∧ Below w.heap.size w w' := by
  obtain ⟨i0, hi, hz0, hz1, hz2⟩ := info_parts infoByte
  go_enter Try.func17, Try.ntmps17
  go_wp2_with (refine wpList_make_row rfl 57 _ _ rfl 5 i0 (.int .u8 0) 1 Try.underlying57 hi hz0 hz1 hz2 rfl 0 (2 * s.size) rfl (int64_congr (by omega)) (by omega) (by omega) (by omega) ?_; intro w1 hown hb1; go_frame)
  have hown1 := hown.out
  clear hown
  go_loopw [3, 11] (fun v i wr => ∃ j : Nat, j ≤ s.size ∧ i = .int .i64 j ∧ v = .slice (some ⟨w.heap.size, 0, none⟩) (2 * j) (2 * s.size) ∧
    wr.ownsRow w.heap.size 5 1 (.slice (some ⟨w.heap.size, 0, none⟩) (2 * j) (2 * s.size)) (2 * j) ((Dig.hex (s.data.toList.take j)).map u8v) ∧ Below w.heap.size w wr) (fun _ i _ => s.size - (intOf i).toNat)
  case atStart => exact ⟨0, by omega, rfl, rfl, by simpa [Dig.hex_nil] using hown1, hb1⟩
  case round =>
    clear hown1 hb1
    obtain ⟨j, hj, rfl, rfl, hown, hB⟩ := hrel
    by_cases hlt : j < s.size
    · have hsz := hB.size
      have hlen := size_toList s
      have HO := Lib.hid hown
      have HB := Lib.hid hB
      clear hown hB
      go_wp2_with fail
      have e2 : (Dig.hex (s.data.toList.take (j + 1))).map u8v = (Dig.hex (s.data.toList.take j)).map u8v ++ [.int .u8 (Dig.dig16 ((strAt s j).toNat / 16)).toNat, .int .u8 (Dig.dig16 ((strAt s j).toNat % 16)).toNat] := by
        rw [List.take_succ_eq_append_getElem (by omega), Dig.hex_snoc, List.map_append, Dig.hex2_eq, strAt_eq, List.getD, List.getElem?_eq_getElem (by omega)]; rfl
      go_region_law (refine step_append_fits rfl _ _ 57 rfl w.heap.size 5 i0 1 Try.underlying57 hi hz1 w.heap.size (2 * j) (2 * s.size) _ rfl (own_drew (HO.out.alloc _)) ⟨wr.heap.size, 0, none⟩ 2 2 [.int .u8 (Dig.dig16 ((strAt s j).toNat / 16)).toNat, .int .u8 (Dig.dig16 ((strAt s j).toNat % 16)).toNat] rfl rfl (news_two _ _ _ _) (by intro u hu; simp only [List.mem_cons, List.not_mem_nil, or_false] at hu; rcases hu with rfl | rfl <;> rfl) (by omega) ?_; intro w5 h5 hg5)
      all_goals
        go_wp2_with fail
        go_roundw
        case rel =>
          refine ⟨j + 1, by omega, by go_num, rfl, ?_, ?_⟩
          · rw [e2, show 2 * (j + 1) = 2 * j + 2 from by omega]; exact h5
          · exact (HB.out.drew.alloc (by simp; omega) _).grown hg5 (by simp; omega) (fun q hq => by cases hq; omega)
        case measure => simp [intOf]; omega
    · obtain rfl : j = s.size := by omega
      have hl : (Dig.hex (s.data.toList.take s.size)).length = 2 * s.size := by rw [Dig.length_hex, List.length_take, size_toList]; omega
      go_wp2_with (refine wpList_bytes_string rfl 57 9 _ rfl 5 w.heap.size 0 (2 * s.size) (2 * s.size) rfl (Dig.hex (s.data.toList.take s.size)) hl Try.underlying57 Try.underlying5 Try.underlying9 (range_of_own hown) ?_; go_frame)
      go_ret
      refine ⟨?_, hB⟩
      rw [List.take_of_length_le (by rw [size_toList]; omega)]; rfl
end Go.Proofs.Ytjalmmhbjilabaa
