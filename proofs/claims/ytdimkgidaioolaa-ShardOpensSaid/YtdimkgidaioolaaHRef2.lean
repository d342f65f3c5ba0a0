/- The walks of the document's own Size, of the number that a text begins with, and of its Seal. -/
import Derived.Test.YtdimkgidaioolaaHRef
import Derived.Test.YtdimkgidaioolaaHLen
namespace Go.Proofs.Ytdimkgidaioolaa
open Go.RowKit
set_option maxRecDepth 100000 in
theorem rSize_ok (L : Nat) (h : L ≤ 10000) (w : World) : Calls Try.prog 12 #[.int .i64 L] w fun e w' => e = .returned (.int .i64 (Shd.size L)) ∧ w = w' := by
  have e1 : (36 : Int) + (L : Int) + 32 * (((L : Int) + 200 - 1) / 200) = (Shd.size L : Int) := by unfold Shd.size Shd.many; omega
  have e2 : ((L : Int) + 200 - 1).tdiv 200 = ((L : Int) + 200 - 1) / 200 := Int.tdiv_eq_ediv_of_nonneg (by omega)
  have HE := Lib.hid e1
  clear e1
  go_enter Try.func12, Try.ntmps12
  go_wp2
  go_ret
  exact ⟨by rw [← HE.out]; rfl, rfl⟩
theorem rSize_bad (L : Int) (h : L < 0 ∨ 10000 < L) (w : World) : Calls Try.prog 12 #[.int .i64 L] w fun e w' => e = .returned (.int .i64 0) ∧ w = w' := by
  by_cases h1 : L < 0
  · clear h
    go_enter Try.func12, Try.ntmps12
    go_wp2
    go_ret
    exact ⟨rfl, rfl⟩
  · have h2 : 10000 < L := by omega
    clear h
    go_enter Try.func12, Try.ntmps12
    go_wp2
    go_ret
    exact ⟨rfl, rfl⟩
attribute [local go_sem high] run_index_byte
theorem read_at (s : ByteArray) (i : Nat) (hi : i < s.size) (b : UInt8) (hb : b = strAt s i) (k : Int) (hk : k = (i : Int)) (v : World) : (Instr.index 9 (.string s) (.int .i64 k)).run Try.prog v = .ok (.int .u8 (b.toNat : Int)) v := by
  rw [hb, hk]; exact run_index_byte v 9 s .i64 i Try.underlying9 hi
theorem or_add (n : Nat) (c k : Nat) (hc : c < 2 ^ k) : n * 2 ^ k ||| c = n * 2 ^ k + c := by
  have := Nat.shiftLeft_add_eq_or_of_lt (i := k) (b := c) hc n
  rw [Nat.shiftLeft_eq] at this
  exact this.symm
theorem read_fold (a b c d : UInt8) : bits .or .i64 (bits .or .i64 (bits .or .i64 (wrap64 (wrap64 (a.toNat : Int) * 16777216)) (wrap64 (wrap64 (b.toNat : Int) * 65536))) (wrap64 (wrap64 (c.toNat : Int) * 256))) (wrap64 (d.toNat : Int)) = (Fr.num [a, b, c, d] : Int) := by
  have ha := a.toNat_lt
  have hb := b.toNat_lt
  have hc := c.toNat_lt
  have hd := d.toNat_lt
  have e0 : wrap64 (wrap64 (a.toNat : Int) * 16777216) = ((a.toNat * 2 ^ 24 : Nat) : Int) := by unfold wrap64; omega
  have e1 : wrap64 (wrap64 (b.toNat : Int) * 65536) = ((b.toNat * 2 ^ 16 : Nat) : Int) := by unfold wrap64; omega
  have e2 : wrap64 (wrap64 (c.toNat : Int) * 256) = ((c.toNat * 2 ^ 8 : Nat) : Int) := by unfold wrap64; omega
  have e3 : wrap64 (d.toNat : Int) = (d.toNat : Int) := by unfold wrap64; omega
  rw [e0, e1, e2, e3, i64_or_nat _ _ (by omega) (by omega), or_add _ _ 24 (by omega)]
  rw [i64_or_nat _ _ (by omega) (by omega), show a.toNat * 2 ^ 24 + b.toNat * 2 ^ 16 = (a.toNat * 2 ^ 8 + b.toNat) * 2 ^ 16 by omega, or_add _ _ 16 (by omega)]
  rw [i64_or_nat _ _ (by omega) (by omega), show (a.toNat * 2 ^ 8 + b.toNat) * 2 ^ 16 + c.toNat * 2 ^ 8 = (a.toNat * 2 ^ 16 + b.toNat * 2 ^ 8 + c.toNat) * 2 ^ 8 by omega, or_add _ _ 8 (by omega)]
  rw [Fr.num]
  simp only [List.foldl]
  omega
theorem take4 (s : ByteArray) (h : 4 ≤ s.size) : s.data.toList.take 4 = [strAt s 0, strAt s 1, strAt s 2, strAt s 3] := by
  rw [strAt_eq, strAt_eq, strAt_eq, strAt_eq]
  have hl : 4 ≤ s.data.toList.length := by rw [size_toList]; exact h
  match hs : s.data.toList, hl with
  | a :: b :: c :: d :: r, _ => rfl
set_option maxRecDepth 100000 in
set_option maxHeartbeats 2000000 in
theorem rRead_any (s : ByteArray) (hs : 4 ≤ s.size) (w : World) : Calls Try.prog 27 #[.string s, .int .i64 0] w fun e w' => e = .returned (.int .i64 (Fr.num (s.data.toList.take 4))) ∧ ∃ n, w' = w.drewN n := by
  rw [take4 s hs]
  obtain ⟨b0, hb0⟩ : ∃ b, b = strAt s 0 := ⟨_, rfl⟩
  obtain ⟨b1, hb1⟩ : ∃ b, b = strAt s 1 := ⟨_, rfl⟩
  obtain ⟨b2, hb2⟩ : ∃ b, b = strAt s 2 := ⟨_, rfl⟩
  obtain ⟨b3, hb3⟩ : ∃ b, b = strAt s 3 := ⟨_, rfl⟩
  have i0 := read_at s 0 (by omega) b0 hb0 0 (by omega)
  have i1 := read_at s 1 (by omega) b1 hb1 1 (by omega)
  have i2 := read_at s 2 (by omega) b2 hb2 2 (by omega)
  have i3 := read_at s 3 (by omega) b3 hb3 3 (by omega)
  rw [← hb0, ← hb1, ← hb2, ← hb3]
  clear hb0 hb1 hb2 hb3
  go_enter Try.func27, Try.ntmps27
  go_wp2_with fail
  go_quiet (fail)
  go_wp2_with fail
  go_ret
  exact ⟨by rw [← read_fold]; rfl, _, rfl⟩
set_option maxRecDepth 100000 in
set_option maxHeartbeats 2000000 in
theorem rSeal_ok (nm t : List UInt8) (hn : nm.length ≤ 220) (ht : t.length ≤ 10000) (w : World) :
    Calls Try.prog 9 #[.string (bs nm), .string (bs t)] w fun e w' => e = .returned (.tuple #[.string (bs (Shd.sld nm t)), .int .i64 0]) ∧ Below w.heap.size w w' := by
  have hz1 : (bs nm).size = nm.length := bs_size nm
  have hz2 : (bs t).size = t.length := bs_size t
  have CH := Lib.hid (fun v : World => rHhead_any nm t.length hn v)
  go_enter Try.func9, Try.ntmps9
  go_wp2_with (go_at_call 22; refine (CH.out _).mono ?_; rintro e w1 ⟨rfl, hb⟩; have HB := Lib.hid hb; clear hb)
  go_loopw [6, 7] (fun sv i wr => ∃ j : Nat, j ≤ Shd.many 200 t.length ∧ i = .int .i64 j ∧ sv = .string (bs (Shd.head nm t.length ++ Shd.body nm t j)) ∧ Below w.heap.size w wr) (fun _ i _ => Shd.many 200 t.length - (intOf i).toNat)
  case atStart => exact ⟨0, by omega, rfl, by rw [Shd.body_zero, List.append_nil], HB.out⟩
  case round =>
    obtain ⟨j, hj, rfl, rfl, hB⟩ := hrel
    by_cases hlt : j < Shd.many 200 t.length
    · have hj50 : j < 50 := by unfold Shd.many at hlt; omega
      have hjt : j * 200 < t.length := by unfold Shd.many at hlt; omega
      obtain ⟨P, hP⟩ : ∃ P, P = Shd.piece 200 t j := ⟨_, rfl⟩
      have hPl : P.length ≤ 200 := by rw [hP, Shd.length_piece]; omega
      have hbl := Shd.length_body nm t j hj
      have hx : (bs t).extract (j * 200) (min (t.length : Int) (((j : Int) + 1) * 200)).toNat = bs P := by
        refine bs_of ?_
        rw [extract_list, bs_list, show (min (t.length : Int) (((j : Int) + 1) * 200)).toNat = min t.length (200 * j + 200) by omega, hP, Nat.mul_comm j 200]
        unfold Shd.piece
        rw [List.drop_take]
        by_cases h : t.length ≤ 200 * j + 200
        · rw [Nat.min_eq_left h, List.take_of_length_le (by rw [List.length_drop]; exact Nat.le_refl _), List.take_of_length_le (by rw [List.length_drop]; omega)]
        · rw [Nat.min_eq_right (by omega)]; congr 1; omega
      obtain ⟨A, hA⟩ : ∃ A, A = Shd.head nm t.length ++ Shd.body nm t j := ⟨_, rfl⟩
      have hAl : A.length ≤ 20000 := by rw [hA, List.length_append, Shd.length_head, hbl]; omega
      have C := Lib.hid (fun v : World => rHsum_any nm t.length j P hn hPl v)
      obtain ⟨x, hx2⟩ : ∃ x, x = bs (Shd.sumOf nm t.length j P) := ⟨_, rfl⟩
      have hxz : x.size = 32 := by rw [hx2, bs_size, Shd.length_sumOf]
      rw [← hx2] at C
      rw [← hA]
      have a1 : ∀ v : World, (Op.stringOp .add (bs A) (bs P)).run Try.prog v = .ok (.string (bs A ++ bs P)) v := fun v => run_string_add_sum v _ _ (by rw [bs_size, bs_size]; omega)
      have a2 : ∀ v : World, (Op.stringOp .add (bs A ++ bs P) x).run Try.prog v = .ok (.string (bs A ++ bs P ++ x)) v := fun v => run_string_add_sum v _ _ (by rw [ByteArray.size_append, bs_size, bs_size]; omega)
      have HE := Lib.hid (show bs A ++ bs P ++ x = bs (Shd.head nm t.length ++ Shd.body nm t (j + 1)) by
        rw [hx2, bs_append, bs_append, hA, hP, Shd.body_succ]; unfold Shd.blk; rw [List.append_assoc, List.append_assoc])
      have HB := Lib.hid hB
      clear hP hbl hA hx2 hAl hPl hB hxz
      go_wp2_with (go_at_call 23; refine (C.out _).mono ?_; rintro e w2 ⟨rfl, hb⟩; have HB2 := Lib.hid (HB.out.trans (hb.mono HB.out.size)); clear hb)
      go_roundw
      case rel => exact ⟨j + 1, by omega, by go_num, by rw [← HE.out], HB2.out⟩
      case measure => simp [intOf]; omega
    · obtain rfl : j = Shd.many 200 t.length := by omega
      have hjt : t.length ≤ Shd.many 200 t.length * 200 := by unfold Shd.many; omega
      have hm : Shd.many 200 t.length ≤ 100 := by unfold Shd.many; omega
      rw [Shd.seal_eq]
      obtain ⟨m, hmm⟩ : ∃ m, m = Shd.many 200 t.length := ⟨_, rfl⟩
      rw [← hmm] at hjt hm ⊢
      have HB := Lib.hid hB
      clear hB hlt hj hmm
      go_wp2_with fail
      go_ret2
      exact ⟨rfl, HB.out⟩
theorem rSeal_bad (nm t : ByteArray) (h : 220 < nm.size ∨ 10000 < t.size) (w : World) : Calls Try.prog 9 #[.string nm, .string t] w fun e w' => e = .returned (.tuple #[.string ⟨#[]⟩, .int .i64 1]) ∧ w = w' := by
  by_cases h1 : 220 < nm.size
  · clear h
    go_enter Try.func9, Try.ntmps9
    go_wp2
    go_ret2
    exact ⟨rfl, rfl⟩
  · have h2 : 10000 < t.size := by omega
    clear h
    go_enter Try.func9, Try.ntmps9
    go_wp2
    go_ret2
    exact ⟨rfl, rfl⟩
end Go.Proofs.Ytdimkgidaioolaa
