/- The document's disk: reading. -/
import Derived.Test.YtkpnllaegkdkkaaPRef
namespace Go.Proofs.Ytkpnllaegkdkkaa
open Go.RowKit

section
variable {r q : Nat} {hv wv : Value} {n : Nat} {S : List (List UInt8)} {ps : List Dk.Wr} {life left acts : Int} {w : World}
/-- A reading that is refused. -/
theorem rread_no (r : Nat) (a c : Int) (hc : c ≠ 0) (w : World) (hb : Calls Try.prog 49 #[.pointer (some ⟨r, 0, none⟩), .int .i64 a] w fun e w' => e = .returned (.int .i64 c) ∧ w = w') :
    Calls Try.prog 21 #[.pointer (some ⟨r, 0, none⟩), .int .i64 a] w fun e w' => e = .returned (.tuple #[.string ⟨#[]⟩, .int .i64 c]) ∧ w = w' := by
  have HB := Lib.hid hb
  have hne : (c != 0) = true := by rw [bne_iff_ne]; exact hc
  clear hb hc
  go_enter Try.func21, Try.ntmps21
  go_wp2_with (go_at_call 49; refine HB.out.mono ?_; rintro e w' ⟨rfl, rfl⟩)
  go_ret2
  exact ⟨rfl, rfl⟩
theorem take_snoc {α : Type} (ps : List α) (x : α) (j : Nat) (h : j < ps.length) : ps.take (j + 1) = ps.take j ++ [ps.getD j x] := by
  rw [List.take_add_one, List.getElem?_eq_getElem h, List.getD, List.getElem?_eq_getElem h]; rfl
set_option maxHeartbeats 1000000 in
theorem rread_ok (h : RAt r q hv wv n S ps false life w) (hp : RPow q false left acts w) (a : Nat) (ha : a < n) :
    Calls Try.prog 21 #[.pointer (some ⟨r, 0, none⟩), .int .i64 a] w fun e w' => e = .returned (.tuple #[sv (Dk.readAt S ps a), .int .i64 0]) ∧ w = w' := by
  have HB := Lib.hid (bad_ok h hp a ha)
  have c2 := h.c2
  have c3 := h.c3
  obtain ⟨g, cap, rfl, hg, hrow⟩ := h.row
  obtain ⟨b, lcap, rfl, hlate⟩ := h.late
  have ca := hrow a ha
  have hn2 := h.n2
  have hfew := h.few
  have HW := Lib.hid (show ∀ x ∈ ps, x.1 < S.length by rw [h.len]; exact fun x hx => (h.wrs x hx).1)
  obtain ⟨s0, hs0⟩ : ∃ s0, s0 = sv (S.getD a []) := ⟨_, rfl⟩
  rw [← hs0] at ca
  have HS0 := Lib.hid hs0
  have HL := Lib.hid hlate
  obtain ⟨N, hN⟩ : ∃ N, N = ps.length := ⟨_, rfl⟩
  have HN := Lib.hid hN
  rw [← hN] at c3 hfew HL
  clear h hp hrow hlate hs0 hN
  go_enter Try.func21, Try.ntmps21
  go_wp2_with (go_at_call 49; refine HB.out.mono ?_; rintro e w' ⟨rfl, rfl⟩)
  go_loopw [7, 8] (fun s i wr => ∃ j : Nat, j ≤ N ∧ i = .int .i64 j ∧ s = sv (Dk.readAt S (ps.take j) a) ∧ wr = w) (fun s i _ => N - (intOf i).toNat)
  case atStart => exact ⟨0, by omega, rfl, by rw [HS0.out, List.take_zero, Dk.readAt_nil], rfl⟩
  case round =>
    obtain ⟨j, hj, rfl, rfl, rfl⟩ := hrel
    by_cases hlt : j < N
    · obtain ⟨g', rfl, hg', hc⟩ := HL.out (by omega)
      obtain ⟨x, hx⟩ : ∃ x, x = ps.getD j (0, []) := ⟨_, rfl⟩
      obtain ⟨k0, k1⟩ := hc j hlt
      rw [← hx] at k0 k1
      obtain ⟨at', hat⟩ : ∃ y : Nat, y = x.1 := ⟨_, rfl⟩
      have hax : at' < S.length := by rw [hat, hx]; exact HW.out _ (Dk.getD_mem_of_lt (by rw [← HN.out]; exact hlt))
      rw [← hat] at k0
      have hsn : Dk.readAt S (ps.take (j + 1)) a = if a = at' then x.2 else Dk.readAt S (ps.take j) a := by
        rw [take_snoc ps (0, []) j (by rw [← HN.out]; exact hlt), ← hx, Dk.readAt_snoc _ _ _ _ (by rw [← hat]; exact hax), ← hat]
      have HSN := Lib.hid hsn
      clear hsn hx hat HL hc
      by_cases he : a = at'
      · subst he
        go_wp2
        go_roundw
        case rel => exact ⟨j + 1, by omega, by go_num, by rw [HSN.out, if_pos rfl], trivial⟩
        case measure => simp [intOf]; omega
      · have hbe : ((at' : Int) == (a : Int)) = false := by rw [beq_eq_false_iff_ne]; omega
        have HE := Lib.hid he
        go_wp2
        go_roundw
        case rel => exact ⟨j + 1, by omega, by go_num, by rw [HSN.out, if_neg HE.out], trivial⟩
        case measure => simp [intOf]; omega
    · have hjN : Hid (j = N) := Lib.hid (by omega)
      go_wp2
      go_ret2
      rw [hjN.out, HN.out, List.take_length]
      exact ⟨rfl, rfl⟩
end
end Go.Proofs.Ytkpnllaegkdkkaa
