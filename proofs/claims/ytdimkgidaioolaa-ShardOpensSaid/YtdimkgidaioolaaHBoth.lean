/- Both sides, the program's and the document's: of Seal, of Open, of Size. -/
import Derived.Test.YtdimkgidaioolaaHKnown
import Derived.Test.YtdimkgidaioolaaHRef4
namespace Go.Proofs.Ytdimkgidaioolaa
open Go.RowKit
/-- An error of a number, at a place; of 0: none. -/
def ErrE (E : Value) (c a : Int) (w : World) : Prop := (E = .nilIface ∧ c = 0) ∨ (c ≠ 0 ∧ ∃ g, E = .iface 55 (.pointer (some ⟨g, 0, none⟩)) ∧ FaultAt g c a w)
theorem ErrE.below {E : Value} {c a : Int} {w w' : World} (h : ErrE E c a w) (hb : Below w.heap.size w w') : ErrE E c a w' := by
  rcases h with h | ⟨h0, g, h1, h2⟩
  · exact .inl h
  · exact .inr ⟨h0, g, h1, h2.below hb⟩
theorem is_errE {E : Value} {c a : Int} {w : World} (h : ErrE E c a w) : Calls Try.prog 10 #[E, .int .i64 c, .int .i64 a] w fun e w' => e = .returned (.bool true) ∧ w = w' := by
  rcases h with ⟨rfl, rfl⟩ | ⟨h0, g, rfl, h2⟩
  · exact is_none a w
  · exact is_fault g c a h0 w h2
def OpenBoth (nm s : List UInt8) (T : ByteArray) (c a : Int) : Prop :=
  (∀ w : World, Calls Try.prog 13 #[.string (bs nm), .string (bs s)] w fun e w' => ∃ E, e = .returned (.tuple #[.string T, E]) ∧ ErrE E c a w' ∧ Below w.heap.size w w') ∧
  (∀ w : World, Calls Try.prog 14 #[.string (bs nm), .string (bs s)] w fun e w' => e = .returned (.tuple #[.string T, .int .i64 c, .int .i64 a]) ∧ Below w.heap.size w w')
theorem refused_err {c a : Int} {w w' : World} {e : Ending} (hc : c ≠ 0) (h : Refused c a (fun v => .tuple #[.string ⟨#[]⟩, v]) w e w') : ∃ E, e = .returned (.tuple #[.string ⟨#[]⟩, E]) ∧ ErrE E c a w' ∧ Below w.heap.size w w' := by
  obtain ⟨g, _, rfl, hf, hb⟩ := h
  exact ⟨_, rfl, .inr ⟨hc, g, rfl, hf⟩, hb⟩
theorem same_below {w w' : World} (h : w = w') : Below w.heap.size w w' := by subst h; exact Below.refl _ _
theorem open_both (nm s : List UInt8) : ∃ (T : ByteArray) (c a : Int), OpenBoth nm s T c a := by
  by_cases hn : nm.length ≤ 220
  · by_cases hh : Shd.Headed nm s
    · cases ho : Shd.opn nm s with
      | ok t =>
        refine ⟨bs t, 0, 0, fun w => (Open_told nm s t hn ho w).mono ?_, fun w => (rOpen_body nm s hn hh w).mono ?_⟩
        · rintro e w' ⟨rfl, hb⟩; exact ⟨_, rfl, .inl ⟨rfl, rfl⟩, hb⟩
        · rintro e w' (⟨u, hu, rfl, hb⟩ | ⟨b, hb, _⟩)
          · rw [ho] at hu; cases hu; exact ⟨rfl, hb⟩
          · rw [ho] at hb; cases hb
      | error a =>
        refine ⟨⟨#[]⟩, 14, a, fun w => (Open_rot nm s hn ho w).mono ?_, fun w => (rOpen_body nm s hn hh w).mono ?_⟩
        · intro e w' h; exact refused_err (by decide) h
        · rintro e w' (⟨u, hu, _⟩ | ⟨b, hb, rfl, hbl⟩)
          · rw [ho] at hu; cases hu
          · rw [ho] at hb; cases hb; exact ⟨rfl, hbl⟩
    · refine ⟨⟨#[]⟩, 14, 0, fun w => (Open_head nm s hn hh w).mono (fun e w' h => refused_err (by decide) h), fun w => ?_⟩
      by_cases h1 : 36 ≤ s.length
      · by_cases h2 : Shd.lenOf s ≤ 10000
        · by_cases h3 : s.length = Shd.size (Shd.lenOf s)
          · exact rOpen_head nm s hn h1 h2 h3 (fun h4 => hh ⟨h1, h2, h3, h4⟩) w
          · exact rOpen_sized nm s hn h1 h2 h3 w
        · exact rOpen_long nm s hn h1 (by omega) w
      · exact (rOpen_short (bs nm) (bs s) (by rw [bs_size]; exact hn) (by rw [bs_size]; omega) w).mono (fun e w' h => ⟨h.1, same_below h.2⟩)
  · refine ⟨⟨#[]⟩, 1, 0, fun w => (Open_name (bs nm) (bs s) (by rw [bs_size]; omega) w).mono (fun e w' h => refused_err (by decide) h), fun w => (rOpen_name (bs nm) (bs s) (by rw [bs_size]; omega) w).mono (fun e w' h => ⟨h.1, same_below h.2⟩)⟩
def SealBoth (nm t : List UInt8) (T : ByteArray) (c : Int) : Prop :=
  (∀ w : World, Calls Try.prog 8 #[.string (bs nm), .string (bs t)] w fun e w' => ∃ E, e = .returned (.tuple #[.string T, E]) ∧ ErrE E c 0 w' ∧ Below w.heap.size w w') ∧
  (∀ w : World, Calls Try.prog 9 #[.string (bs nm), .string (bs t)] w fun e w' => e = .returned (.tuple #[.string T, .int .i64 c]) ∧ Below w.heap.size w w')
theorem seal_both (nm t : List UInt8) : (SealBoth nm t (bs (Shd.sld nm t)) 0 ∧ nm.length ≤ 220 ∧ t.length ≤ 10000) ∨ SealBoth nm t ⟨#[]⟩ 1 := by
  by_cases h : nm.length ≤ 220 ∧ t.length ≤ 10000
  · refine .inl ⟨⟨fun w => (Seal_ok nm t h.1 h.2 w).mono ?_, fun w => rSeal_ok nm t h.1 h.2 w⟩, h⟩
    rintro e w' ⟨rfl, hb⟩; exact ⟨_, rfl, .inl ⟨rfl, rfl⟩, hb⟩
  · have hb : 220 < (bs nm).size ∨ 10000 < (bs t).size := by rw [bs_size, bs_size]; omega
    exact .inr ⟨fun w => (Seal_bad (bs nm) (bs t) hb w).mono (fun e w' h => refused_err (by decide) h), fun w => (rSeal_bad (bs nm) (bs t) hb w).mono (fun e w' h => ⟨h.1, same_below h.2⟩)⟩
theorem size_both (x : Int) : ∃ z : Int, (∀ w : World, Calls Try.prog 11 #[.int .i64 x] w fun e w' => e = .returned (.int .i64 z) ∧ w = w') ∧ (∀ w : World, Calls Try.prog 12 #[.int .i64 x] w fun e w' => e = .returned (.int .i64 z) ∧ w = w') := by
  by_cases h : 0 ≤ x ∧ x ≤ 10000
  · obtain ⟨n, rfl⟩ : ∃ n : Nat, x = n := ⟨x.toNat, by omega⟩
    exact ⟨_, fun w => Size_ok n (by omega) w, fun w => rSize_ok n (by omega) w⟩
  · exact ⟨0, fun w => Size_bad x (by omega) w, fun w => rSize_bad x (by omega) w⟩
set_option maxRecDepth 100000 in
set_option maxHeartbeats 2000000 in
theorem Seals_to (nl tl : List UInt8) (x : Int) (T : ByteArray) (c : Int) (h : SealBoth nl tl T c) (w : World) : Calls Try.prog 3 #[.string (bs nl), .string (bs tl), .int .i64 x] w fun e w' => e = .returned (.bool true) ∧ Below w.heap.size w w' := by
  obtain ⟨z, z1, z2⟩ := size_both x
  have C1 := Lib.hid h.1
  have C2 := Lib.hid h.2
  have Z1 := Lib.hid z1
  have Z2 := Lib.hid z2
  have hcmp : (T.toList == T.toList) = true := beq_self_eq_true _
  clear h z1 z2
  go_enter Try.func3, Try.ntmps3
  go_wp2_with (first | (go_at_call 7; refine (hknown_true _).mono ?_; rintro e w1 ⟨rfl, hb⟩; have HB := Lib.hid hb; clear hb) | (go_at_call 8; refine (C1.out _).mono ?_; rintro e w2 ⟨E, rfl, hE, hb⟩; have HB2 := Lib.hid (HB.out.trans (hb.mono HB.out.size)); have HE := Lib.hid hE; clear hb hE) | (go_at_call 9; refine (C2.out _).mono ?_; rintro e w3 ⟨rfl, hb⟩; have HB3 := Lib.hid (HB2.out.trans (hb.mono HB2.out.size)); have HE3 := Lib.hid (HE.out.below hb); clear hb) | (go_at_call 10; refine (is_errE HE3.out).mono ?_; rintro e w' ⟨rfl, rfl⟩) | (go_at_call 11; refine (Z1.out _).mono ?_; rintro e w' ⟨rfl, rfl⟩) | (go_at_call 12; refine (Z2.out _).mono ?_; rintro e w' ⟨rfl, rfl⟩) | fail)
  go_ret
  exact ⟨rfl, HB3.out⟩
theorem Seals_walk (nm t : ByteArray) (x : Int) (w : World) : Calls Try.prog 3 #[.string nm, .string t, .int .i64 x] w fun e w' => e = .returned (.bool true) ∧ Below w.heap.size w w' := by
  obtain ⟨nl, rfl⟩ : ∃ nl, nm = bs nl := ⟨_, (bs_self nm).symm⟩
  obtain ⟨tl, rfl⟩ : ∃ tl, t = bs tl := ⟨_, (bs_self t).symm⟩
  rcases seal_both nl tl with ⟨h, _⟩ | h
  · exact Seals_to nl tl x _ _ h w
  · exact Seals_to nl tl x _ _ h w
end Go.Proofs.Ytdimkgidaioolaa
