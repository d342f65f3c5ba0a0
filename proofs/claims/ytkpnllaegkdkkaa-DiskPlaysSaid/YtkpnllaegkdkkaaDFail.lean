/- The walks of what a disk refuses. -/
import Derived.Test.YtkpnllaegkdkkaaDRack
import Derived.Test.YtkpnllaegkdkkaaDErr
namespace Go.Proofs.Ytkpnllaegkdkkaa
open Go.RowKit

/-- An error of a number is answered; nothing that was there is another. -/
def Refused (c : Int) (mk : Value → Value) (w : World) (e : Ending) (w' : World) : Prop := ∃ g, w.heap.size ≤ g ∧ e = .returned (mk (.iface 87 (.pointer (some ⟨g, 0, none⟩)))) ∧ FaultAt g c w' ∧ Below w.heap.size w w'
theorem fault_is (c : Int) (w : World) : Calls Try.prog 18 #[.int .i64 c] w (Refused c id w) := by
  refine (fault_any c w).mono ?_
  rintro e w' ⟨rfl, h1, h2⟩
  exact ⟨_, Nat.le_refl _, rfl, h1, h2⟩
theorem New_low (p : Nat) (n : Int) (h : n < 1) (w : World) : Calls Try.prog 7 #[.pointer (some ⟨p, 0, none⟩), .int .i64 n] w (Refused 1 (fun v => .tuple #[.pointer none, v]) w) := by
  go_enter Try.func7, Try.ntmps7
  go_wp2_with (go_at_call 18; refine (fault_is 1 _).mono ?_; rintro e w' ⟨g, hg, rfl, hf, hb⟩; have HF := Lib.hid hf; have HB := Lib.hid hb; clear hf hb)
  go_ret2
  exact ⟨g, hg, rfl, HF.out, HB.out⟩
theorem New_high (p : Nat) (n : Int) (h : 8192 < n) (w : World) : Calls Try.prog 7 #[.pointer (some ⟨p, 0, none⟩), .int .i64 n] w (Refused 1 (fun v => .tuple #[.pointer none, v]) w) := by
  go_enter Try.func7, Try.ntmps7
  go_wp2_with (go_at_call 18; refine (fault_is 1 _).mono ?_; rintro e w' ⟨g, hg, rfl, hf, hb⟩; have HF := Lib.hid hf; have HB := Lib.hid hb; clear hf hb)
  go_ret2
  exact ⟨g, hg, rfl, HF.out, HB.out⟩
theorem has_high (d : Nat) (bl n : Nat) (a : Int) (h0 : 0 ≤ a) (ha : (n : Int) ≤ a) (hn : n ≤ 8192) (w : World) (h : w.cell? ⟨d, 1, none⟩ = some (.slice (some ⟨bl, 0, none⟩) n n)) :
    Calls Try.prog 42 #[.pointer (some ⟨d, 1, none⟩), .int .i64 a] w fun e w' => e = .returned (.bool false) ∧ w = w' := by
  have hd : decide (a < (n : Int)) = false := by rw [decide_eq_false_iff_not]; omega
  have hn' := hn
  go_enter Try.func42, Try.ntmps42
  go_wp2
  go_ret
  exact ⟨rfl, rfl⟩
theorem has_low (d : Nat) (a : Int) (ha : a < 0) (w : World) :
    Calls Try.prog 42 #[.pointer (some ⟨d, 1, none⟩), .int .i64 a] w fun e w' => e = .returned (.bool false) ∧ w = w' := by
  have hd : decide (0 ≤ a) = false := by rw [decide_eq_false_iff_not]; omega
  go_enter Try.func42, Try.ntmps42
  go_wp2
  go_ret
  exact ⟨rfl, rfl⟩
theorem has_no (d : Nat) (bl n : Nat) (a : Int) (ha : a < 0 ∨ (n : Int) ≤ a) (hn : n ≤ 8192) (w : World) (h : w.cell? ⟨d, 1, none⟩ = some (.slice (some ⟨bl, 0, none⟩) n n)) :
    Calls Try.prog 42 #[.pointer (some ⟨d, 1, none⟩), .int .i64 a] w fun e w' => e = .returned (.bool false) ∧ w = w' := by
  by_cases h0 : a < 0
  · exact has_low d a h0 w
  · exact has_high d bl n a (by omega) (by omega) hn w h
theorem ready_gone (d p bl bn : Nat) (pv : Value) (n : Nat) (S : List (List UInt8)) (ps : List Dk.Wr) (life fuse acts : Int) (w : World) (h : LiveAt d p bl bn pv n S ps life w) (hp : PowerAt p true fuse acts w) :
    Calls Try.prog 41 #[.pointer (some ⟨d, 0, none⟩)] w (Refused 10 id w) := by
  have c0 := h.c0
  have q0 := hp.c0
  clear h hp
  go_enter Try.func41, Try.ntmps41
  go_wp2_with (go_at_call 18; refine (fault_is 10 _).mono ?_; rintro e w' ⟨g, hg, rfl, hf, hb⟩; have HF := Lib.hid hf; have HB := Lib.hid hb; clear hf hb)
  go_ret
  exact ⟨g, hg, rfl, HF.out, HB.out⟩
theorem Read_bad (d p : Nat) (F : List Nat) (n : Nat) (S : List (List UInt8)) (ps : List Dk.Wr) (life fuse acts : Int) (a : Int) (ha : a < 0 ∨ (n : Int) ≤ a) (w : World) (h : Live d p F n S ps life w) (hp : PowerAt p false fuse acts w) :
    Calls Try.prog 14 #[.pointer (some ⟨d, 0, none⟩), .int .i64 a] w (Refused 1 (fun v => .tuple #[.string ⟨#[]⟩, v]) w) := by
  obtain ⟨bl, bn, pv, h, _⟩ := h
  have c1 := h.c1
  have hn := h.n2
  have H := Lib.hid h
  have HP := Lib.hid hp
  have HA := Lib.hid ha
  clear h hp ha
  go_enter Try.func14, Try.ntmps14
  go_wp2_with (first | (go_at_call 41; refine (ready_ok d p bl bn pv n S ps life fuse acts _ H.out HP.out).mono ?_; rintro e w' ⟨rfl, rfl⟩) | (go_at_call 42; refine (has_no d bl n a HA.out hn _ c1).mono ?_; rintro e w' ⟨rfl, rfl⟩) | (go_at_call 18; refine (fault_is 1 _).mono ?_; rintro e w' ⟨g, hg, rfl, hf, hb⟩; have HF := Lib.hid hf; have HB := Lib.hid hb; clear hf hb))
  go_ret2
  exact ⟨g, hg, rfl, HF.out, HB.out⟩
theorem Sectors_any (d p : Nat) (F : List Nat) (n : Nat) (S : List (List UInt8)) (ps : List Dk.Wr) (life : Int) (w : World) (h : Live d p F n S ps life w) :
    Calls Try.prog 39 #[.pointer (some ⟨d, 0, none⟩)] w fun e w' => e = .returned (.int .i64 n) ∧ w = w' := by
  obtain ⟨bl, bn, pv, h, _⟩ := h
  have c4 := h.c4
  clear h
  go_enter Try.func39, Try.ntmps39
  go_wp2
  go_ret
  exact ⟨rfl, rfl⟩
theorem Life_any (d p : Nat) (F : List Nat) (n : Nat) (S : List (List UInt8)) (ps : List Dk.Wr) (life : Int) (w : World) (h : Live d p F n S ps life w) :
    Calls Try.prog 38 #[.pointer (some ⟨d, 0, none⟩)] w fun e w' => e = .returned (.int .i64 life) ∧ w = w' := by
  obtain ⟨bl, bn, pv, h, _⟩ := h
  have c5 := h.c5
  clear h
  go_enter Try.func38, Try.ntmps38
  go_wp2
  go_ret
  exact ⟨rfl, rfl⟩
end Go.Proofs.Ytkpnllaegkdkkaa
