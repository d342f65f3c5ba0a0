/- The walk of a bit's turning. -/
import Derived.Test.YtkpnllaegkdkkaaDRack
namespace Go.Proofs.Ytkpnllaegkdkkaa
open Go.RowKit

/-- A byte with a bit turned. -/
def turnBit (x : UInt8) (k : Nat) : UInt8 := x ^^^ UInt8.ofNat (2 ^ k)
/-- Sectors with a bit turned. -/
def rotS (S : List (List UInt8)) (a bit : Nat) : List (List UInt8) := S.set a ((S.getD a []).set (bit / 8) (turnBit ((S.getD a []).getD (bit / 8) 0) (bit % 8)))
theorem pow_lt8 {k : Nat} (h : k < 8) : 2 ^ k < 256 := by
  have : 2 ^ k < 2 ^ 8 := Nat.pow_lt_pow_right (by omega) h
  omega
theorem turn_fold (x : UInt8) (k : Nat) (hk : k < 8) : bits .xor .u8 (x.toNat : Int) ((2 ^ k : Nat) : Int) = ((turnBit x k).toNat : Int) := by
  have hp := pow_lt8 hk
  rw [u8_xor_nat _ _ x.toNat_lt hp, turnBit, UInt8.toNat_xor, UInt8.toNat_ofNat', Nat.mod_eq_of_lt hp]
theorem turn_fold' (x : UInt8) (k : Nat) (hk : k < 8) : u8v (turnBit x k) = .int .u8 (bits .xor .u8 (x.toNat : Int) (2 ^ k % 256)) := by
  have hp := pow_lt8 hk
  rw [u8v, ← turn_fold x k hk]
  congr 2
  have e : ((2 ^ k : Nat) : Int) = (2 : Int) ^ k := by simp
  rw [← e]
  generalize 2 ^ k = m at hp ⊢
  omega
theorem set_in {A B C : List Value} {o i : Nat} {v : Value} (hA : A.length = o) (hi : i < B.length) : (A ++ (B ++ C)).set (o + i) v = A ++ (B.set i v ++ C) := by
  rw [List.set_append_right _ _ (by omega), show o + i - A.length = i from by omega, List.set_append_left _ _ hi]
set_option maxRecDepth 100000 in
set_option maxHeartbeats 1000000 in
theorem Rot_ok (d p : Nat) (F : List Nat) (n : Nat) (S : List (List UInt8)) (ps : List Dk.Wr) (life : Int) (a bit : Nat) (ha : a < n) (hbit : bit < 512) (w : World) (h : Live d p F n S ps life w) :
    Calls Try.prog 32 #[.pointer (some ⟨d, 0, none⟩), .int .i64 a, .int .i64 bit] w fun e w' => e = .returned .nilIface ∧ Live d p F n (rotS S a bit) ps life w' ∧ Kept w.heap.size F w w' := by
  obtain ⟨bl, bn, pv, h, k1, k2, k3, k4, k5, k6⟩ := h
  have c1 := h.c1
  have h1 := h.n1
  have h2 := h.n2
  have haS : a < S.length := by rw [h.len]; exact ha
  obtain ⟨A, C, hA, hS1, hS2⟩ := sect_split h.wide haS
  obtain ⟨s, hs⟩ : ∃ s, s = S.getD a [] := ⟨_, rfl⟩
  have hsl : s.length = 64 := by rw [hs, List.getD, List.getElem?_eq_getElem haS]; exact h.wide _ (List.getElem_mem _)
  rw [← hs] at hS1
  obtain ⟨x, hx⟩ : ∃ x, x = s.getD (bit / 8) 0 := ⟨_, rfl⟩
  obtain ⟨k, hk⟩ : ∃ k, k = bit % 8 := ⟨_, rfl⟩
  have hk8 : k < 8 := by omega
  have hbl := h.lst
  rw [hS1] at hbl
  have cb : w.cell? ⟨bl, a * 64 + bit / 8, none⟩ = some (.int .u8 x.toNat) := by
    rw [cell_of_list hbl, List.getElem?_append_right (by omega), List.getElem?_append_left (by rw [List.length_map, hsl]; omega), show a * 64 + bit / 8 - A.length = bit / 8 from by omega, List.getElem?_map, List.getElem?_eq_getElem (by rw [hsl]; omega), hx, List.getD, List.getElem?_eq_getElem (by rw [hsl]; omega)]
    rfl
  have fb := free_of_list hbl (a * 64 + bit / 8)
  have H := Lib.hid h
  have K := Lib.hid (And.intro k1 (And.intro k2 (And.intro k3 (And.intro k4 (And.intro k5 k6)))))
  have HBL := Lib.hid hbl
  have HS2 := Lib.hid hS2
  have HX := Lib.hid hx
  have HK := Lib.hid hk
  have HSL := Lib.hid hsl
  have HAL := Lib.hid hA
  have HS := Lib.hid hs
  clear h k1 k2 k3 k4 k5 k6 hbl hS1 hS2 hx hk hsl hA hs haS
  go_enter Try.func32, Try.ntmps32
  go_wp2_with (first | (go_at_call 37; refine (Dead_no d bl n (by omega) (by omega) _ c1).mono ?_; rintro e w' ⟨rfl, rfl⟩) | (go_at_call 42; refine (has_yes d bl n a ha _ c1).mono ?_; rintro e w' ⟨rfl, rfl⟩))
  go_region
  all_goals
    go_wp2
    go_ret
    have hv : Value.int IntKind.u8 (bits .xor .u8 (x.toNat : Int) (2 ^ (bit % 8) % 256)) = u8v (turnBit x k) := by
      rw [← HK.out, ← turn_fold' x k hk8]
    rw [hv]
    obtain ⟨k1, k2, k3, k4, k5, k6⟩ := K.out
    have e5 : ∀ j, j ≠ bl → ((w.setCell ⟨bl, a * 64 + bit / 8, none⟩ (u8v (turnBit x k))).drew).heap[j]? = w.heap[j]? := fun j hj => by rw [heap_drew, heap_setCell_other _ _ _ _ hj]
    have hz : ((w.setCell ⟨bl, a * 64 + bit / 8, none⟩ (u8v (turnBit x k))).drew).heap.size = w.heap.size := by simp [World.setCell]
    refine ⟨rfl, ⟨bl, bn, pv, ⟨?_, ?_, ?_, own_keep H.out.pnd (fun g hg => e5 g (H.out.own g hg).2.1), ?_, h1, h2, ?_, H.out.wrs, H.out.few, H.out.d1, H.out.d2, H.out.d3, H.out.p0, H.out.p1, H.out.p2, H.out.own⟩, k1, k2, k3, k4, k5, fun y hy => by rw [hz]; exact k6 y hy⟩, ?_⟩
    · rw [e5 d H.out.d1]; exact H.out.obj
    · rw [heap_drew, rotS, HS2.out, ← HS.out, ← HX.out, ← HK.out, set_list HBL.out, set_in HAL.out (by rw [List.length_map, HSL.out]; omega), List.map_set]
    · rw [e5 bn (fun e => H.out.d3 e.symm)]; exact H.out.nws
    · rw [rotS, List.length_set]; exact H.out.len
    · intro y hy
      rcases List.mem_or_eq_of_mem_set hy with h | h
      · exact H.out.wide y h
      · rw [h, List.length_set, ← HS.out]; exact HSL.out
    · exact ((Kept.refl _ _ _).setCell (p := ⟨bl, a * 64 + bit / 8, none⟩) (Or.inl k2) _).drew
theorem Rack.rot {w0 w : World} {p d : Nat} {F : List Nat} {n : Nat} {S : List (List UInt8)} {ps : List Dk.Wr} {acts : Nat} (h : Rack w0 p d F n S ps acts w) (a bit : Nat) (ha : a < n) (hbit : bit < 512) :
    Calls Try.prog 32 #[.pointer (some ⟨d, 0, none⟩), .int .i64 a, .int .i64 bit] w fun e w' => e = .returned .nilIface ∧ Rack w0 p d F n (rotS S a bit) ps acts w' := by
  have hpF : p ∉ F := by obtain ⟨_, _, _, _, _, _, _, _, h5, _⟩ := h.liv; exact h5
  refine (Rot_ok d p F n S ps 0 a bit ha hbit w h.liv).mono ?_
  rintro e w' ⟨rfl, hL, hk⟩
  have hz := h.old.size
  exact ⟨rfl, h.pow.keep (hk.block p h.pow.lt hpF), hL, h.old.trans ((hk.mono hz (fun _ _ hm => hm)).below h.fn), h.pn, h.fn⟩
end Go.Proofs.Ytkpnllaegkdkkaa
