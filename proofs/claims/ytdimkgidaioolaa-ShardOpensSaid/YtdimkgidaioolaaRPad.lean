/- The walks of the document's own sums' leaves: a word turned. -/
import Derived.Test.YtdimkgidaioolaaText2
import Derived.Test.YtdimkgidaioolaaRRow
import Derived.Test.YtdimkgidaioolaaHash
namespace Go.Proofs.Ytdimkgidaioolaa
open Go.RowKit
theorem own_drew {w : World} {B n : Nat} {e : TypeId} {v : Value} {xs : List Value} (h : w.ownsRow B e 1 v n xs) : w.drew.ownsRow B e 1 v n xs := h

theorem wpList_own_string {P : Program} {w : World} {ops : Array Oper} {rest : List Oper} {o : Oper} {a : Act} {Q : Exit → Act → World → Prop} (hgd : o.guard = none) (src dst : TypeId) (x : Operand) (ho : o.op = .convert src dst x)
    (B : Nat) (e : TypeId) (v : Value) (n : Nat) (hx : a.eval x = v) (l : List UInt8) (hlen : l.length = n)
    (hs : P.underlying src = some (.slice e)) (he : P.underlying e = some (.int .u8)) (hd : P.underlying dst = some .string) (hown : w.ownsRow B e 1 v n (l.map u8v))
    (h : wpList P ops Q rest (a.put o.dst (.string ⟨l.toArray⟩)) w) : wpList P ops Q (o :: rest) a w := by
  rcases hown.2 with ⟨hv, h0⟩ | ⟨g, cap, cur, hv, _⟩
  · subst hv h0
    obtain rfl : l = [] := List.eq_nil_of_length_eq_zero hlen
    exact wpList_nil_string hgd src dst x ho e hx hs he hd h
  · subst hv
    exact wpList_bytes_string hgd src dst x ho e g 0 n cap hx l hlen hs he hd (range_of_own hown) h

theorem rot_fold_right (x : UInt32) (n : Nat) (hn : n ≤ 32) : bits .or .u32 ((x.toNat : Int) / 2 ^ n) ((x.toNat : Int) * 2 ^ (32 - n) % 4294967296) = ((Dig.rotl x (32 - n)).toNat : Int) := by
  have h := rot_fold x (32 - n)
  rw [show 32 - (32 - n) = n from by omega] at h
  rw [← h]
  have a1 : ((x.toNat : Int) / 2 ^ n) = ((Dig.shr x n).toNat : Int) := shr_fold x n
  have a2 : ((x.toNat : Int) * 2 ^ (32 - n) % 4294967296) = ((UInt32.ofNat (x.toNat * 2 ^ (32 - n))).toNat : Int) := by rw [← fold_ofNat]; simp
  rw [a1, a2, go_or, go_or, Dig.oR_eq, Dig.oR_eq, UInt32.or_comm]
set_option maxHeartbeats 400000 in
theorem rright_any (x : UInt32) (n : Nat) (h0 : 1 ≤ n) (h1 : n ≤ 31) (w : World) :
    Calls Try.prog 52 #[.int .u32 x.toNat, .int .i64 n] w fun e w' => e = .returned (.int .u32 (Dig.rotl x (32 - n)).toNat) ∧ w' = w.drew := by
  have F := Lib.hid (rot_fold_right x n (by omega))
  have e0 : IntKind.i64.wrap ((32 : Int) - (n : Int)) = (32 : Int) - (n : Int) := IntWalk.i64_in _ (by omega)
  have e1 : ((32 : Int) - (n : Int)).toNat = 32 - n := by omega
  go_enter Try.func52, Try.ntmps52
  go_wp2_with fail
  go_region
  all_goals
    go_wp2_with fail
    go_ret
    exact ⟨ret_int F.out, rfl⟩
/-- A word turned to the right by a literal, as the program's own turn to the left by less than nothing. -/
theorem rright_lit (x : UInt32) (k : Int) (h0 : 1 ≤ k) (h1 : k ≤ 31) (w : World) :
    Calls Try.prog 52 #[.int .u32 x.toNat, .int .i64 k] w fun e w' => e = .returned (.int .u32 (Dig.rotl x (rn (-k))).toNat) ∧ w' = w.drew := by
  obtain ⟨n, rfl⟩ : ∃ n : Nat, k = (n : Int) := ⟨k.toNat, by omega⟩
  have := rright_any x n (by omega) (by omega) w
  rw [show 32 - n = rn (-(n : Int)) from by unfold rn; omega] at this
  exact this

/-- The length of a slice. -/
def lenS : Value → Nat
  | .slice _ n _ => n
  | _ => 0
theorem tmod64 (N : Nat) : (N : Int).tmod 64 = (N : Int) % 64 := Int.tmod_eq_emod_of_nonneg (by omega)
theorem one_cell (x : UInt8) : ∀ u ∈ [Value.int .u8 (x.toNat : Int)], u.oneCell' = true := by intro u hu; simp only [List.mem_singleton] at hu; subst hu; rfl
theorem wrap_byte (n j : Nat) : (n : Int) * 8 / 2 ^ (8 * j) % 256 = ((Dig.byteAt (8 * n) j).toNat : Int) := by
  rw [Dig.byteAt_eq, UInt8.toNat_ofNat']
  have : ((n : Int) * 8 / 2 ^ (8 * j)) = ((8 * n / 2 ^ (8 * j) : Nat) : Int) := by simp [Int.mul_comm]
  rw [this]; omega
attribute [local go_sem high] tmod64
set_option maxRecDepth 100000 in
set_option maxHeartbeats 1000000 in
theorem rpadded_any (s : ByteArray) (high : Bool) (hs : s.size ≤ 140737488355200) (w : World) :
    Calls Try.prog 51 #[.string s, .bool high] w fun e w' => ∃ g cap, e = .returned (.slice (some ⟨g, 0, none⟩) (Dig.padded (!high) s.data.toList).length cap) ∧
      Hid (RowS w' w.heap.size g (Dig.padded (!high) s.data.toList).length cap ((Dig.padded (!high) s.data.toList).map u8v)) ∧ Below w.heap.size w w' := by
  obtain ⟨i0, hi, hz0, hz1, hz2⟩ := info_parts d_infoByte
  obtain ⟨l, hl⟩ : ∃ l, l = s.data.toList := ⟨_, rfl⟩
  have hlen : l.length = s.size := by rw [hl]; exact size_toList s
  have HL := Lib.hid hl
  have HLEN := Lib.hid hlen
  rw [← hl]
  clear hl hlen
  go_enter Try.func51, Try.ntmps51
  go_wp2_with (first | (refine wpList_string_bytes rfl 9 35 _ rfl 5 s rfl Try.underlying9 Try.underlying35 Try.underlying5 (by unfold maxLen; omega) ?_; intro cap1 w1 h1 b1) | (at_builtin; refine wpList_append_S rfl _ _ 35 rfl w.heap.size 5 i0 Try.underlying35 hi hz0 hz1 hz2 w.heap.size s.size cap1 (s.data.toList.map u8v) rfl (h1.out.alloc _) ⟨w1.heap.size, 0, none⟩ 1 1 [.int .u8 ((128 : UInt8).toNat : Int)] rfl rfl (by decide) (news_row (heap_alloc_new w1 _)) (one_cell 128) (by unfold maxLen; omega) (by omega) (by have := b1.out.size; simp; omega) ?_; intro g2 cap2 w2 h2 b2))
  have B2 := Lib.hid ((b1.out.alloc (by have := b1.out.size; omega) _).trans b2.out)
  have R2 := Lib.hid h2.out
  clear h1 b1 h2 b2
  obtain ⟨Z, hZ⟩ : ∃ Z, Z = (119 - s.size % 64) % 64 := ⟨_, rfl⟩
  have hZ64 : Z < 64 := by omega
  have HZ := Lib.hid hZ
  clear hZ
  go_loopw [5] (fun v wr => ∃ N k g cap : Nat, v = .slice (some ⟨g, 0, none⟩) N cap ∧ Hid (N = s.size + 1 + k) ∧ k ≤ Z ∧ N ≤ s.size + 1 + Z ∧
    Hid (RowS wr w.heap.size g N cap ((l ++ 128 :: List.replicate k 0).map u8v)) ∧ Hid (Below w.heap.size w wr)) (fun v _ => s.size + 1 + Z - lenS v)
  case atStart => exact ⟨s.size + 1, 0, g2, cap2, rfl, Lib.hid rfl, by omega, by omega, Lib.hid (by rw [List.map_append, HL.out]; exact R2.out), B2⟩
  case round =>
    clear R2 B2
    obtain ⟨N, k, g, cap, rfl, hN, hk, hNle, hR, hB⟩ := hrel
    by_cases hlt : k < Z
    · have hb : ((N : Int) % 64 != 56) = true := by have := hN.out; have := HZ.out; simp; omega
      have hsz := hB.out.size
      go_wp2_with (at_builtin; refine wpList_append_S rfl _ _ 35 rfl w.heap.size 5 i0 Try.underlying35 hi hz0 hz1 hz2 g N cap _ rfl (hR.out.alloc _) ⟨wr.heap.size, 0, none⟩ 1 1 [.int .u8 ((0 : UInt8).toNat : Int)] rfl rfl (by decide) (news_row (heap_alloc_new wr _)) (one_cell 0) (by unfold maxLen; omega) (by omega) (by simp; omega) ?_; intro g3 cap3 w3 h3 b3)
      go_roundw
      case rel =>
        refine ⟨N + 1, k + 1, g3, cap3, rfl, Lib.hid (by have := hN.out; omega), by omega, by have := hN.out; omega, Lib.hid ?_, Lib.hid ((hB.out.alloc hsz _).trans b3.out)⟩
        have e : (l ++ 128 :: List.replicate (k + 1) 0).map u8v = (l ++ 128 :: List.replicate k 0).map u8v ++ [.int .u8 ((0 : UInt8).toNat : Int)] := by
          rw [List.replicate_succ', ← List.cons_append, ← List.append_assoc, List.map_append]; rfl
        rw [e]; exact h3.out
      case measure => simp [lenS]; have := hN.out; omega
    · obtain rfl : k = Z := by omega
      have hb : ((N : Int) % 64 != 56) = false := by have := hN.out; have := HZ.out; simp; omega
      go_wp2_with fail
      have H8 := Lib.hid hN
      go_loopw [5, 7] (fun v iv wr => ∃ M i g cap : Nat, v = .slice (some ⟨g, 0, none⟩) M cap ∧ iv = .int .i64 i ∧ i ≤ 8 ∧ Hid (M = N + i) ∧ M ≤ N + 8 ∧
        Hid (RowS wr w.heap.size g M cap ((l ++ 128 :: (List.replicate k 0 ++ Dig.bytesTo (!high) 8 (8 * s.size) i)).map u8v)) ∧ Hid (Below w.heap.size w wr)) (fun _ iv _ => 8 - (intOf iv).toNat)
      case atStart => exact ⟨N, 0, g, cap, rfl, rfl, by omega, Lib.hid rfl, by omega, Lib.hid (by rw [Dig.bytesTo_zero, List.append_nil]; exact hR.out), hB⟩
      case round =>
        clear hR hB
        obtain ⟨M, i, g, cap, rfl, rfl, hi8, hM, hMle, hR, hB⟩ := hrel
        have hsz := hB.out.size
        by_cases hlt8 : i < 8
        · have hm1 : M + 1 ≤ maxLen := by unfold maxLen; omega
          have hm2 : M + 1 ≤ 140737488355328 := by omega
          have hm3 : ∀ o, w.heap.size ≤ (wr.alloc o).heap.size := by intro o; simp; omega
          cases high with
          | true =>
            have hsh : ((56 : Int) - 8 * (i : Int)).toNat = 8 * (7 - i) := by omega
            have hw8 := wrap_byte s.size (7 - i)
            obtain ⟨x, hx⟩ : ∃ x, x = Dig.byteAt (8 * s.size) (7 - i) := ⟨_, rfl⟩
            rw [← hx] at hw8
            have hbt : (Dig.bytesTo (!true) 8 (8 * s.size) (i + 1)).map u8v = (Dig.bytesTo (!true) 8 (8 * s.size) i).map u8v ++ [.int .u8 (x.toNat : Int)] := by
              rw [Dig.bytesTo_succ, List.map_append, hx]; rfl
            have HBT := Lib.hid hbt
            clear hx hbt
            go_wp2_with (at_builtin; refine wpList_append_S rfl _ _ 35 rfl w.heap.size 5 i0 Try.underlying35 hi hz0 hz1 hz2 g M cap _ rfl (hR.out.alloc _) ⟨wr.heap.size, 0, none⟩ 1 1 [.int .u8 (x.toNat : Int)] rfl rfl (by decide) (news_row (heap_alloc_new wr _)) (one_cell x) hm1 hm2 (hm3 _) ?_; intro g3 cap3 w3 h3 b3)
            go_roundw
            case rel =>
              refine ⟨M + 1, i + 1, g3, cap3, rfl, by go_num, by omega, Lib.hid (by have := hM.out; omega), by have := hM.out; omega, Lib.hid ?_, Lib.hid ((hB.out.alloc hsz _).trans b3.out)⟩
              have e : ∀ Y Y' : List UInt8, ∀ z : List Value, Y'.map u8v = Y.map u8v ++ z → (l ++ 128 :: (List.replicate k 0 ++ Y')).map u8v = (l ++ 128 :: (List.replicate k 0 ++ Y)).map u8v ++ z := by
                intro Y Y' z hz
                simp only [List.map_append, List.map_cons, hz, List.append_assoc, List.cons_append]
              rw [e _ _ _ HBT.out]; exact h3.out
            case measure => simp [intOf]; omega
          | false =>
            have hsh : (8 * (i : Int)).toNat = 8 * i := by omega
            have hw8 := wrap_byte s.size i
            obtain ⟨x, hx⟩ : ∃ x, x = Dig.byteAt (8 * s.size) i := ⟨_, rfl⟩
            rw [← hx] at hw8
            have hbt : (Dig.bytesTo (!false) 8 (8 * s.size) (i + 1)).map u8v = (Dig.bytesTo (!false) 8 (8 * s.size) i).map u8v ++ [.int .u8 (x.toNat : Int)] := by
              rw [Dig.bytesTo_succ, List.map_append, hx]; rfl
            have HBT := Lib.hid hbt
            clear hx hbt
            go_wp2_with (at_builtin; refine wpList_append_S rfl _ _ 35 rfl w.heap.size 5 i0 Try.underlying35 hi hz0 hz1 hz2 g M cap _ rfl (hR.out.alloc _) ⟨wr.heap.size, 0, none⟩ 1 1 [.int .u8 (x.toNat : Int)] rfl rfl (by decide) (news_row (heap_alloc_new wr _)) (one_cell x) hm1 hm2 (hm3 _) ?_; intro g3 cap3 w3 h3 b3)
            go_roundw
            case rel =>
              refine ⟨M + 1, i + 1, g3, cap3, rfl, by go_num, by omega, Lib.hid (by have := hM.out; omega), by have := hM.out; omega, Lib.hid ?_, Lib.hid ((hB.out.alloc hsz _).trans b3.out)⟩
              have e : ∀ Y Y' : List UInt8, ∀ z : List Value, Y'.map u8v = Y.map u8v ++ z → (l ++ 128 :: (List.replicate k 0 ++ Y')).map u8v = (l ++ 128 :: (List.replicate k 0 ++ Y)).map u8v ++ z := by
                intro Y Y' z hz
                simp only [List.map_append, List.map_cons, hz, List.append_assoc, List.cons_append]
              rw [e _ _ _ HBT.out]; exact h3.out
            case measure => simp [intOf]; omega
        · obtain rfl : i = 8 := by omega
          have hP : Dig.padded (!high) l = l ++ 128 :: (List.replicate k 0 ++ Dig.bytesTo (!high) 8 (8 * s.size) 8) := by
            rw [Dig.padded_eq, Dig.closing_eq, HLEN.out, HZ.out]
          have hPl : (Dig.padded (!high) l).length = M := by
            rw [hP]; simp [Dig.length_bytesTo, HLEN.out]; have := hM.out; have := hN.out; omega
          have HP := Lib.hid hP
          have HPL := Lib.hid hPl
          clear hP hPl
          go_wp2_with fail
          go_ret
          rw [HPL.out]
          exact ⟨g, cap, rfl, Lib.hid (by rw [HP.out]; exact hR.out), hB.out⟩
end Go.Proofs.Ytdimkgidaioolaa
