/- The walk of the statement DigestPieces. -/
import Derived.Test.YtfdeggfhailinaaSums2
import Derived.Test.YtfdeggfhailinaaKeys
namespace Go.Proofs.Ytfdeggfhailinaa
open Go.RowKit

def tot : List ByteArray → Nat
  | [] => 0
  | x :: r => x.size + tot r
theorem tot_drop (ss : List ByteArray) (i : Nat) (h : i < ss.length) : tot (ss.drop i) = (ss.getD i ByteArray.empty).size + tot (ss.drop (i + 1)) := by
  rw [List.drop_eq_getElem_cons h, tot, List.getD, List.getElem?_eq_getElem h]; rfl
theorem SumsAt.kept_other {g : Nat} {told : List UInt8} {B : Nat} {ws : List Nat} {w w' : World} (h : SumsAt g told w) (hk : Kept B ws w w') (hg : g < B) (hn : g ∉ ws) : SumsAt g told w' := h.keep (hk.block g hg hn)
theorem SSum256_is (g : Nat) (told : List UInt8) (m : ByteArray) (hm : m.data.toList = Dig.sum256 told) (hbig : told.length ≤ 500000000000000) (w : World) (h : SumsAt g told w) :
    Calls Try.prog 11 #[.pointer (some ⟨g, 0, none⟩)] w fun e w' => e = .returned (.string m) ∧ Below w.heap.size w w' :=
  (SSum256_any g told hbig w h).mono fun _ _ ⟨he, hb⟩ => ⟨by rw [he, ← hm, mk_list], hb⟩
theorem SSum5_is (g : Nat) (told : List UInt8) (m : ByteArray) (hm : m.data.toList = Dig.sum5 told) (hbig : told.length ≤ 500000000000000) (w : World) (h : SumsAt g told w) :
    Calls Try.prog 13 #[.pointer (some ⟨g, 0, none⟩)] w fun e w' => e = .returned (.string m) ∧ Below w.heap.size w w' :=
  (SSum5_any g told hbig w h).mono fun _ _ ⟨he, hb⟩ => ⟨by rw [he, ← hm, mk_list], hb⟩
theorem Sum256_is (q m : ByteArray) (hm : m.data.toList = Dig.sum256 q.data.toList) (hs : q.size ≤ 400000000000000) (w : World) :
    Calls Try.prog 12 #[.string q] w fun e w' => e = .returned (.string m) ∧ Below w.heap.size w w' :=
  (Sum256_any q hs w).mono fun _ _ ⟨he, hb⟩ => ⟨by rw [he, ← hm, mk_list], hb⟩
theorem Sum5_is (q m : ByteArray) (hm : m.data.toList = Dig.sum5 q.data.toList) (hs : q.size ≤ 400000000000000) (w : World) :
    Calls Try.prog 14 #[.string q] w fun e w' => e = .returned (.string m) ∧ Below w.heap.size w w' :=
  (Sum5_any q hs w).mono fun _ _ ⟨he, hb⟩ => ⟨by rw [he, ← hm, mk_list], hb⟩
theorem SSize_is (g : Nat) (told : List UInt8) (n : Nat) (hn : told.length = n) (w : World) (h : SumsAt g told w) : Calls Try.prog 15 #[.pointer (some ⟨g, 0, none⟩)] w fun e w' => e = .returned (.int .i64 n) ∧ w = w' :=
  (SSize_any g told w h).mono fun _ _ ⟨he, hb⟩ => ⟨by rw [he, hn], hb⟩
theorem list_of (l : List UInt8) : ∃ m : ByteArray, m.data.toList = l := ⟨⟨l.toArray⟩, by simp⟩
/-- Two sums stand: one of q, one of nothing. -/
structure Both (B g1 g2 : Nat) (q : ByteArray) (w wr : World) : Prop where
  one : SumsAt g1 q.data.toList wr
  two : SumsAt g2 [] wr
  old : Below B w wr
  le : B ≤ w.heap.size
theorem Both.below {B g1 g2 : Nat} {q : ByteArray} {w wr wr' : World} (h : Both B g1 g2 q w wr) (hb : Below wr.heap.size wr wr') : Both B g1 g2 q w wr' :=
  ⟨h.one.below hb h.one.lt, h.two.below hb h.two.lt, h.old.trans (hb.mono (Nat.le_trans h.le h.old.size)), h.le⟩

set_option maxRecDepth 100000 in
set_option maxHeartbeats 2000000 in
theorem Pieces_walk (a0 : Option Addr) (b off len cap : Nat) (ss : List ByteArray) (ha : len = 0 ∨ a0 = some ⟨b, off, none⟩) (hl : ss.length = len) (htot : tot ss ≤ 1048576) (hlen : len ≤ 1048576) (w : World) (hb : len = 0 ∨ b < w.heap.size)
    (hc : ∀ i, i < len → w.cell? ⟨b, off + i, none⟩ = some (.string (ss.getD i ByteArray.empty))) :
    Calls Try.prog 3 #[.slice a0 len cap] w fun e w' => e = .returned (.bool true) ∧ Below w.heap.size w w' := by
  have HA := Lib.hid ha
  have HL := Lib.hid hl
  have HT := Lib.hid htot
  have Hb := Lib.hid hb
  have HC := Lib.hid hc
  clear ha hl htot hb hc
  obtain ⟨z5, hz5⟩ := list_of (Dig.sum5 (ByteArray.mk #[]).data.toList)
  have HZ5 := Lib.hid hz5
  clear hz5
  go_enter Try.func3, Try.ntmps3
  go_wp2_with (go_at_call 8; refine (examples_true _).mono ?_; rintro e w1 ⟨rfl, hb1⟩)
  refine (New_any _).mono ?_
  rintro e w2 ⟨g1, hg1, rfl, hs1, hb2⟩
  have HS1 := Lib.hid hs1
  have B2 := Lib.hid (hb1.trans (hb2.mono hb1.size))
  have G1 := Lib.hid (Nat.le_trans hb1.size hg1)
  clear hs1 hb1 hb2 hg1
  go_wp2_with fail
  refine (New_any _).mono ?_
  rintro e w3 ⟨g2, hg2, rfl, hs2, hb3⟩
  have hne : g1 ≠ g2 := by have := HS1.out.lt; omega
  have HB3 : Hid (Both w.heap.size g1 g2 ⟨#[]⟩ w w3) := Lib.hid ⟨HS1.out.below hb3 HS1.out.lt, hs2, B2.out.trans (hb3.mono B2.out.size), Nat.le_refl _⟩
  clear hs2 hb3 B2 HS1 hg2
  go_wp2_with fail
  go_loopw [6, 7] (fun v i wr => ∃ (k : Nat) (q : ByteArray), k ≤ len ∧ i = .int .i64 k ∧ v = .string q ∧ q.size + tot (ss.drop k) ≤ 1048576 ∧ Both w.heap.size g1 g2 q w wr) (fun _ i _ => len - (intOf i).toNat)
  case atStart => exact ⟨0, ⟨#[]⟩, by omega, rfl, rfl, by have := HT.out; simp [ByteArray.size]; exact this, HB3.out⟩
  case round =>
    clear HB3
    obtain ⟨k, q, hk, rfl, rfl, hq, hB⟩ := hrel
    by_cases hlt : k < len
    · have hbl : b < w.heap.size := by have := Hb.out; omega
      obtain rfl : a0 = some ⟨b, off, none⟩ := by rcases HA.out with h | h; omega; exact h
      obtain ⟨x, hx⟩ : ∃ x, x = ss.getD k ByteArray.empty := ⟨_, rfl⟩
      have hcr : wr.cell? ⟨b, off + k, none⟩ = some (.string x) := by rw [hB.old.cell (p := ⟨b, off + k, none⟩) hbl, HC.out k hlt, hx]
      have hqx : q.size + (x.size + tot (ss.drop (k + 1))) ≤ 1048576 := by rw [hx, ← tot_drop ss k (by have := HL.out; omega)]; exact hq
      have hqs : q.size ≤ 1048576 := by omega
      have hxs : q.size + x.size ≤ 1048576 := by omega
      have HQX := Lib.hid hqx
      have HB := Lib.hid hB
      have hszr := Lib.hid hB.old.size
      clear hx hB hq hqx
      go_wp2_with fail
      refine (SWrite_any g1 q.data.toList x (by rw [size_toList]; omega) _ HB.out.one).mono ?_
      rintro e w4 ⟨rfl, hs4, hk4⟩
      have hc4 : w4.cell? ⟨b, off + k, none⟩ = some (.string x) := by rw [hk4.cell (p := ⟨b, off + k, none⟩) (by have := hszr.out; simp; omega) (by have := G1.out; simp; omega)]; exact hcr
      have H4 : Hid (Both w.heap.size g1 g2 (q ++ x) w w4) := Lib.hid ⟨by rw [append_list]; exact hs4, HB.out.two.kept_other hk4 HB.out.two.lt (by simp; omega), HB.out.old.trans ((hk4.mono (B := w.heap.size) hszr.out (fun _ _ h => h)).below (by have := G1.out; simp; omega)), Nat.le_refl _⟩
      have hsum : ¬ 9223372036854775807 < q.size + x.size := by omega
      clear hs4 hk4 hcr HB
      obtain ⟨q', hq'⟩ : ∃ q', q' = q ++ x := ⟨_, rfl⟩
      have hq's : q'.size = q.size + x.size := by rw [hq', ByteArray.size_append]
      have HQ' := Lib.hid hq'
      have HQS := Lib.hid hq's
      have hq'b : q'.size ≤ 1048576 := by omega
      obtain ⟨m2, hm2⟩ := list_of (Dig.sum256 q'.data.toList)
      obtain ⟨m5, hm5⟩ := list_of (Dig.sum5 q'.data.toList)
      have HM2 := Lib.hid hm2
      have HM5 := Lib.hid hm5
      rw [← hq'] at H4
      clear hm2 hm5 hq's hq'
      by_cases h3 : k % 3 = 0
      · have h3b : (((k : Int) % 3) == 0) = true := by rw [beq_iff_eq]; omega
        clear h3
        go_wp2_with fail
        rw [← HQ'.out]
        refine (SSum256_is g1 q'.data.toList m2 HM2.out (by rw [size_toList]; omega) _ H4.out.one).mono ?_
        rintro e w5 ⟨rfl, hb5⟩
        have H5 := Lib.hid (H4.out.below hb5)
        clear H4 hb5
        go_wp2_with fail
        refine (Sum256_is q' m2 HM2.out (by omega) _).mono ?_
        rintro e w6 ⟨rfl, hb6⟩
        have H6 := Lib.hid (H5.out.below hb6)
        clear H5 hb6
        go_wp2_with fail
        refine (SSum5_is g1 q'.data.toList m5 HM5.out (by rw [size_toList]; omega) _ H6.out.one).mono ?_
        rintro e w7 ⟨rfl, hb7⟩
        have H7 := Lib.hid (H6.out.below hb7)
        clear H6 hb7
        go_wp2_with fail
        refine (Sum5_is q' m5 HM5.out (by omega) _).mono ?_
        rintro e w8 ⟨rfl, hb8⟩
        have H8 := Lib.hid (H7.out.below hb8)
        clear H7 hb8
        go_wp2_with fail
        refine (SSize_is g1 q'.data.toList q'.size (size_toList _) _ H8.out.one).mono ?_
        rintro e w9 ⟨rfl, rfl⟩
        go_wp2_with fail
        go_roundw
        case rel => exact ⟨k + 1, q', by omega, by go_num, rfl, by have := HQX.out; have := HQS.out; omega, H8.out⟩
        case measure => simp [intOf]; omega
      · have h3b : (((k : Int) % 3) == 0) = false := by rw [beq_eq_false_iff_ne]; omega
        clear h3
        go_wp2_with fail
        rw [← HQ'.out]
        refine (SSize_is g1 q'.data.toList q'.size (size_toList _) _ H4.out.one).mono ?_
        rintro e w9 ⟨rfl, rfl⟩
        go_wp2_with fail
        go_roundw
        case rel => exact ⟨k + 1, q', by omega, by go_num, rfl, by have := HQX.out; have := HQS.out; omega, H4.out⟩
        case measure => simp [intOf]; omega
    · have hqs : q.size ≤ 1048576 := by omega
      have H4 := Lib.hid hB
      clear hB hq
      obtain ⟨m2, hm2⟩ := list_of (Dig.sum256 q.data.toList)
      obtain ⟨m5, hm5⟩ := list_of (Dig.sum5 q.data.toList)
      have HM2 := Lib.hid hm2
      have HM5 := Lib.hid hm5
      clear hm2 hm5
      go_wp2_with fail
      refine (SSum256_is g1 q.data.toList m2 HM2.out (by rw [size_toList]; omega) _ H4.out.one).mono ?_
      rintro e w5 ⟨rfl, hb5⟩
      have H5 := Lib.hid (H4.out.below hb5)
      clear H4 hb5
      go_wp2_with fail
      refine (Sum256_is q m2 HM2.out (by omega) _).mono ?_
      rintro e w6 ⟨rfl, hb6⟩
      have H6 := Lib.hid (H5.out.below hb6)
      clear H5 hb6
      go_wp2_with fail
      refine (SSum5_is g1 q.data.toList m5 HM5.out (by rw [size_toList]; omega) _ H6.out.one).mono ?_
      rintro e w7 ⟨rfl, hb7⟩
      have H7 := Lib.hid (H6.out.below hb7)
      clear H6 hb7
      go_wp2_with fail
      refine (Sum5_is q m5 HM5.out (by omega) _).mono ?_
      rintro e w8 ⟨rfl, hb8⟩
      have H8 := Lib.hid (H7.out.below hb8)
      clear H7 hb8
      go_wp2_with fail
      refine (SSize_is g2 [] 0 rfl _ H8.out.two).mono ?_
      rintro e w9 ⟨rfl, rfl⟩
      go_wp2_with fail
      refine (SSum5_is g2 [] z5 HZ5.out (by simp) _ H8.out.two).mono ?_
      rintro e w10 ⟨rfl, hb10⟩
      have H10 := Lib.hid (H8.out.below hb10)
      clear H8 hb10
      go_wp2_with fail
      refine (Sum5_is ⟨#[]⟩ z5 HZ5.out (by decide) _).mono ?_
      rintro e w11 ⟨rfl, hb11⟩
      have H11 := Lib.hid (H10.out.below hb11)
      clear H10 hb11
      go_wp2_with fail
      go_ret
      exact ⟨rfl, H11.out.old⟩
end Go.Proofs.Ytfdeggfhailinaa
