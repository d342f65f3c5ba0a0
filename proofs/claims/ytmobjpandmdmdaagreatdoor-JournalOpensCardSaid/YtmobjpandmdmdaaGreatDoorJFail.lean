/- The walks of what a disk refuses, and of its power and fuse (beside the errors of layer 3). -/
import Derived.Test.YtmobjpandmdmdaaGreatDoorDLose
import Derived.Test.YtmobjpandmdmdaaGreatDoorFErr2
namespace Go.Proofs.YtmobjpandmdmdaaGreatDoor
open Go.RowKit

theorem dfault_any (c : Int) (w : World) : Calls Tryz.prog 31 #[.int .i64 c] w fun e w' => e = .returned (.iface 82 (.pointer (some ⟨w.heap.size, 0, none⟩))) ∧ FaultAt w.heap.size c 0 w' ∧ Below w.heap.size w w' := by
  go_enter Tryz.func31, Tryz.ntmps31
  go_wp2
  go_ret
  exact ⟨rfl, heap_alloc_new _ _, (Below.refl _ _).alloc (Nat.le_refl _) _⟩
theorem dfault_is (c : Int) (w : World) : Calls Tryz.prog 31 #[.int .i64 c] w (Refused c 0 id w) := by
  refine (dfault_any c w).mono ?_
  rintro e w' ⟨rfl, h1, h2⟩
  exact ⟨_, Nat.le_refl _, rfl, h1, h2⟩
theorem New_low (p : Nat) (n : Int) (h : n < 1) (w : World) : Calls Tryz.prog 24 #[.pointer (some ⟨p, 0, none⟩), .int .i64 n] w (Refused 1 0 (fun v => .tuple #[.pointer none, v]) w) := by
  go_enter Tryz.func24, Tryz.ntmps24
  go_wp2_with (go_at_call 31; refine (dfault_is 1 _).mono ?_; rintro e w' ⟨g, hg, rfl, hf, hb⟩; have HF := Lib.hid hf; have HB := Lib.hid hb; clear hf hb)
  go_ret2
  exact ⟨g, hg, rfl, HF.out, HB.out⟩
theorem New_high (p : Nat) (n : Int) (h : 8192 < n) (w : World) : Calls Tryz.prog 24 #[.pointer (some ⟨p, 0, none⟩), .int .i64 n] w (Refused 1 0 (fun v => .tuple #[.pointer none, v]) w) := by
  go_enter Tryz.func24, Tryz.ntmps24
  go_wp2_with (go_at_call 31; refine (dfault_is 1 _).mono ?_; rintro e w' ⟨g, hg, rfl, hf, hb⟩; have HF := Lib.hid hf; have HB := Lib.hid hb; clear hf hb)
  go_ret2
  exact ⟨g, hg, rfl, HF.out, HB.out⟩
theorem has_high (d : Nat) (bl n : Nat) (a : Int) (h0 : 0 ≤ a) (ha : (n : Int) ≤ a) (hn : n ≤ 8192) (w : World) (h : w.cell? ⟨d, 1, none⟩ = some (.slice (some ⟨bl, 0, none⟩) n n)) :
    Calls Tryz.prog 30 #[.pointer (some ⟨d, 1, none⟩), .int .i64 a] w fun e w' => e = .returned (.bool false) ∧ w = w' := by
  have hd : decide (a < (n : Int)) = false := by rw [decide_eq_false_iff_not]; omega
  have hn' := hn
  go_enter Tryz.func30, Tryz.ntmps30
  go_wp2
  go_ret
  exact ⟨rfl, rfl⟩
theorem has_low (d : Nat) (a : Int) (ha : a < 0) (w : World) :
    Calls Tryz.prog 30 #[.pointer (some ⟨d, 1, none⟩), .int .i64 a] w fun e w' => e = .returned (.bool false) ∧ w = w' := by
  have hd : decide (0 ≤ a) = false := by rw [decide_eq_false_iff_not]; omega
  go_enter Tryz.func30, Tryz.ntmps30
  go_wp2
  go_ret
  exact ⟨rfl, rfl⟩
theorem has_no (d : Nat) (bl n : Nat) (a : Int) (ha : a < 0 ∨ (n : Int) ≤ a) (hn : n ≤ 8192) (w : World) (h : w.cell? ⟨d, 1, none⟩ = some (.slice (some ⟨bl, 0, none⟩) n n)) :
    Calls Tryz.prog 30 #[.pointer (some ⟨d, 1, none⟩), .int .i64 a] w fun e w' => e = .returned (.bool false) ∧ w = w' := by
  by_cases h0 : a < 0
  · exact has_low d a h0 w
  · exact has_high d bl n a (by omega) (by omega) hn w h
theorem ready_gone (d p bl bn : Nat) (pv : Value) (n : Nat) (S : List (List UInt8)) (ps : List Dk.Wr) (life fuse acts : Int) (w : World) (h : LiveAt d p bl bn pv n S ps life w) (hp : PowerAt p true fuse acts w) :
    Calls Tryz.prog 29 #[.pointer (some ⟨d, 0, none⟩)] w (Refused 10 0 id w) := by
  have c0 := h.c0
  have q0 := hp.c0
  clear h hp
  go_enter Tryz.func29, Tryz.ntmps29
  go_wp2_with (go_at_call 31; refine (dfault_is 10 _).mono ?_; rintro e w' ⟨g, hg, rfl, hf, hb⟩; have HF := Lib.hid hf; have HB := Lib.hid hb; clear hf hb)
  go_ret
  exact ⟨g, hg, rfl, HF.out, HB.out⟩
theorem Read_bad (d p : Nat) (F : List Nat) (n : Nat) (S : List (List UInt8)) (ps : List Dk.Wr) (life fuse acts : Int) (a : Int) (ha : a < 0 ∨ (n : Int) ≤ a) (w : World) (h : Live d p F n S ps life w) (hp : PowerAt p false fuse acts w) :
    Calls Tryz.prog 75 #[.pointer (some ⟨d, 0, none⟩), .int .i64 a] w (Refused 1 0 (fun v => .tuple #[.string ⟨#[]⟩, v]) w) := by
  obtain ⟨bl, bn, pv, h, _⟩ := h
  have c1 := h.c1
  have hn := h.n2
  have H := Lib.hid h
  have HP := Lib.hid hp
  have HA := Lib.hid ha
  clear h hp ha
  go_enter Tryz.func75, Tryz.ntmps75
  go_wp2_with (first | (go_at_call 29; refine (ready_ok d p bl bn pv n S ps life fuse acts _ H.out HP.out).mono ?_; rintro e w' ⟨rfl, rfl⟩) | (go_at_call 30; refine (has_no d bl n a HA.out hn _ c1).mono ?_; rintro e w' ⟨rfl, rfl⟩) | (go_at_call 31; refine (dfault_is 1 _).mono ?_; rintro e w' ⟨g, hg, rfl, hf, hb⟩; have HF := Lib.hid hf; have HB := Lib.hid hb; clear hf hb))
  go_ret2
  exact ⟨g, hg, rfl, HF.out, HB.out⟩
theorem Sectors_any (d p : Nat) (F : List Nat) (n : Nat) (S : List (List UInt8)) (ps : List Dk.Wr) (life : Int) (w : World) (h : Live d p F n S ps life w) :
    Calls Tryz.prog 51 #[.pointer (some ⟨d, 0, none⟩)] w fun e w' => e = .returned (.int .i64 n) ∧ w = w' := by
  obtain ⟨bl, bn, pv, h, _⟩ := h
  have c4 := h.c4
  clear h
  go_enter Tryz.func51, Tryz.ntmps51
  go_wp2
  go_ret
  exact ⟨rfl, rfl⟩
/-- The act was not done: the power is gone. -/
def CutAt (p : Nat) (acts : Int) (mk : Value → Value) (w : World) (e : Ending) (w' : World) : Prop :=
  ∃ g, w.heap.size ≤ g ∧ e = .returned (mk (.iface 82 (.pointer (some ⟨g, 0, none⟩)))) ∧ FaultAt g 10 0 w' ∧ PowerAt p true 0 acts w' ∧ Kept w.heap.size [p] w w'
theorem act_cut (p : Nat) (acts : Int) (w : World) (h : PowerAt p false 0 acts w) : Calls Tryz.prog 32 #[.pointer (some ⟨p, 0, none⟩)] w (CutAt p acts id w) := by
  have c0 := h.c0
  have c1 := h.c1
  have f0 := free_of_list h
  have hlt := h.lt
  have H := Lib.hid h
  clear h
  go_enter Tryz.func32, Tryz.ntmps32
  go_wp2_with fail
  refine (dfault_is 10 _).mono ?_
  rintro e w' ⟨g, hg, rfl, hf, hb⟩
  have HF := Lib.hid hf
  have HB := Lib.hid hb
  clear hf hb
  go_wp2
  go_ret
  have hz : (w.setCell ⟨p, 0, none⟩ (.bool true)).heap.size = w.heap.size := by simp [World.setCell]
  have hp : PowerAt p true 0 acts (w.setCell ⟨p, 0, none⟩ (.bool true)) := set_list H.out 0 _
  refine ⟨g, by rw [hz] at hg; exact hg, rfl, HF.out, hp.keep (HB.out.block p (by rw [hz]; exact hlt)), ((Kept.refl _ _ _).setCell (p := ⟨p, 0, none⟩) (by simp) _).trans ((Kept.of_below HB.out).mono (by rw [hz]; exact Nat.le_refl _) (fun _ _ h => h))⟩
set_option maxHeartbeats 1000000 in
theorem Write_cut (d p : Nat) (F : List Nat) (n : Nat) (S : List (List UInt8)) (ps : List Dk.Wr) (life acts : Int) (a : Nat) (q : ByteArray) (ha : a < n) (hq : q.size = 64) (w : World) (h : Live d p F n S ps life w) (hp : PowerAt p false 0 acts w) :
    Calls Tryz.prog 8 #[.pointer (some ⟨d, 0, none⟩), .int .i64 a, .string q] w (CutAt p acts id w) := by
  obtain ⟨bl, bn, pv, h, _⟩ := h
  have c0 := h.c0
  have c1 := h.c1
  have H := Lib.hid h
  have HP := Lib.hid hp
  have hqb : ((q.size : Int) != 64) = false := by rw [bne_eq_false_iff_eq]; omega
  clear h hp
  go_enter Tryz.func8, Tryz.ntmps8
  go_wp2_with (first | (go_at_call 29; refine (ready_ok d p bl bn pv n S ps life 0 acts _ H.out HP.out).mono ?_; rintro e w' ⟨rfl, rfl⟩) | (go_at_call 30; refine (has_yes d bl n a ha _ c1).mono ?_; rintro e w' ⟨rfl, rfl⟩) | fail)
  refine (act_cut p acts _ HP.out).mono ?_
  rintro e w1 ⟨g, hg, rfl, hf⟩
  have HF := Lib.hid hf
  clear hf
  go_wp2_with fail
  go_ret
  exact ⟨g, hg, rfl, HF.out⟩
set_option maxHeartbeats 1000000 in
theorem Flush_cut (d p : Nat) (F : List Nat) (n : Nat) (S : List (List UInt8)) (ps : List Dk.Wr) (life acts : Int) (w : World) (h : Live d p F n S ps life w) (hp : PowerAt p false 0 acts w) :
    Calls Tryz.prog 10 #[.pointer (some ⟨d, 0, none⟩)] w (CutAt p acts id w) := by
  obtain ⟨bl, bn, pv, h, _⟩ := h
  have c0 := h.c0
  have H := Lib.hid h
  have HP := Lib.hid hp
  clear h hp
  go_enter Tryz.func10, Tryz.ntmps10
  go_wp2_with (first | (go_at_call 29; refine (ready_ok d p bl bn pv n S ps life 0 acts _ H.out HP.out).mono ?_; rintro e w' ⟨rfl, rfl⟩) | fail)
  refine (act_cut p acts _ HP.out).mono ?_
  rintro e w1 ⟨g, hg, rfl, hf⟩
  have HF := Lib.hid hf
  clear hf
  go_wp2_with fail
  go_ret
  exact ⟨g, hg, rfl, HF.out⟩
theorem Write_gone (d p : Nat) (F : List Nat) (n : Nat) (S : List (List UInt8)) (ps : List Dk.Wr) (life fuse acts : Int) (a : Int) (q : ByteArray) (w : World) (h : Live d p F n S ps life w) (hp : PowerAt p true fuse acts w) :
    Calls Tryz.prog 8 #[.pointer (some ⟨d, 0, none⟩), .int .i64 a, .string q] w (Refused 10 0 id w) := by
  obtain ⟨bl, bn, pv, h, _⟩ := h
  have H := Lib.hid h
  have HP := Lib.hid hp
  clear h hp
  go_enter Tryz.func8, Tryz.ntmps8
  go_wp2_with fail
  refine (ready_gone d p bl bn pv n S ps life fuse acts _ H.out HP.out).mono ?_
  rintro e w1 ⟨g, hg, rfl, hf⟩
  have HF := Lib.hid hf
  clear hf
  go_wp2_with fail
  go_ret
  exact ⟨g, hg, rfl, HF.out⟩
theorem Flush_gone (d p : Nat) (F : List Nat) (n : Nat) (S : List (List UInt8)) (ps : List Dk.Wr) (life fuse acts : Int) (w : World) (h : Live d p F n S ps life w) (hp : PowerAt p true fuse acts w) :
    Calls Tryz.prog 10 #[.pointer (some ⟨d, 0, none⟩)] w (Refused 10 0 id w) := by
  obtain ⟨bl, bn, pv, h, _⟩ := h
  have H := Lib.hid h
  have HP := Lib.hid hp
  clear h hp
  go_enter Tryz.func10, Tryz.ntmps10
  go_wp2_with fail
  refine (ready_gone d p bl bn pv n S ps life fuse acts _ H.out HP.out).mono ?_
  rintro e w1 ⟨g, hg, rfl, hf⟩
  have HF := Lib.hid hf
  clear hf
  go_wp2_with fail
  go_ret
  exact ⟨g, hg, rfl, HF.out⟩
theorem Read_gone (d p : Nat) (F : List Nat) (n : Nat) (S : List (List UInt8)) (ps : List Dk.Wr) (life fuse acts : Int) (a : Int) (w : World) (h : Live d p F n S ps life w) (hp : PowerAt p true fuse acts w) :
    Calls Tryz.prog 75 #[.pointer (some ⟨d, 0, none⟩), .int .i64 a] w (Refused 10 0 (fun v => .tuple #[.string ⟨#[]⟩, v]) w) := by
  obtain ⟨bl, bn, pv, h, _⟩ := h
  have H := Lib.hid h
  have HP := Lib.hid hp
  clear h hp
  go_enter Tryz.func75, Tryz.ntmps75
  go_wp2_with fail
  refine (ready_gone d p bl bn pv n S ps life fuse acts _ H.out HP.out).mono ?_
  rintro e w1 ⟨g, hg, rfl, hf⟩
  have HF := Lib.hid hf
  clear hf
  go_wp2_with fail
  go_ret2
  exact ⟨g, hg, rfl, HF.out⟩
end Go.Proofs.YtmobjpandmdmdaaGreatDoor
