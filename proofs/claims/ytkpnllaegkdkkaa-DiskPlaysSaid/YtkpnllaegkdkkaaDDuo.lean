/- Two disks at one power, with its fuse: what each call does with them. -/
import Derived.Test.YtkpnllaegkdkkaaDFail
namespace Go.Proofs.Ytkpnllaegkdkkaa
open Go.RowKit

/-- The act was not done: the power is gone. -/
def CutAt (p : Nat) (acts : Int) (mk : Value → Value) (w : World) (e : Ending) (w' : World) : Prop :=
  ∃ g, w.heap.size ≤ g ∧ e = .returned (mk (.iface 87 (.pointer (some ⟨g, 0, none⟩)))) ∧ FaultAt g 10 w' ∧ PowerAt p true 0 acts w' ∧ Kept w.heap.size [p] w w'
theorem act_cut (p : Nat) (acts : Int) (w : World) (h : PowerAt p false 0 acts w) : Calls Try.prog 43 #[.pointer (some ⟨p, 0, none⟩)] w (CutAt p acts id w) := by
  have c0 := h.c0
  have c1 := h.c1
  have f0 := free_of_list h
  have hlt := h.lt
  have H := Lib.hid h
  clear h
  go_enter Try.func43, Try.ntmps43
  go_wp2_with fail
  refine (fault_is 10 _).mono ?_
  rintro e w' ⟨g, hg, rfl, hf, hb⟩
  have HF := Lib.hid hf
  have HB := Lib.hid hb
  clear hf hb
  go_wp2
  go_ret
  have hz : (w.setCell ⟨p, 0, none⟩ (.bool true)).heap.size = w.heap.size := by simp [World.setCell]
  have hp : PowerAt p true 0 acts (w.setCell ⟨p, 0, none⟩ (.bool true)) := set_list H.out 0 _
  refine ⟨g, by rw [hz] at hg; exact hg, rfl, HF.out, hp.keep (HB.out.block p (by rw [hz]; exact hlt)), ((Kept.refl _ _ _).setCell (p := ⟨p, 0, none⟩) (by simp) _).trans ((Kept.of_below HB.out).mono (by rw [hz]; exact Nat.le_refl _) (fun _ _ h => h))⟩
set_option maxHeartbeats 1000000 in
theorem Write_cut (d p : Nat) (F : List Nat) (n : Nat) (S : List (List UInt8)) (ps : List Dk.Wr) (life acts : Int) (a : Nat) (q : ByteArray) (ha : a < n) (hq : q.size = 64) (w : World) (h : Live d p F n S ps life w) (hp : PowerAt p false 0 acts w) :
    Calls Try.prog 12 #[.pointer (some ⟨d, 0, none⟩), .int .i64 a, .string q] w (CutAt p acts id w) := by
  obtain ⟨bl, bn, pv, h, _⟩ := h
  have c0 := h.c0
  have c1 := h.c1
  have H := Lib.hid h
  have HP := Lib.hid hp
  have hqb : ((q.size : Int) != 64) = false := by rw [bne_eq_false_iff_eq]; omega
  clear h hp
  go_enter Try.func12, Try.ntmps12
  go_wp2_with (first | (go_at_call 41; refine (ready_ok d p bl bn pv n S ps life 0 acts _ H.out HP.out).mono ?_; rintro e w' ⟨rfl, rfl⟩) | (go_at_call 42; refine (has_yes d bl n a ha _ c1).mono ?_; rintro e w' ⟨rfl, rfl⟩) | fail)
  refine (act_cut p acts _ HP.out).mono ?_
  rintro e w1 ⟨g, hg, rfl, hf⟩
  have HF := Lib.hid hf
  clear hf
  go_wp2_with fail
  go_ret
  exact ⟨g, hg, rfl, HF.out⟩
set_option maxHeartbeats 1000000 in
theorem Flush_cut (d p : Nat) (F : List Nat) (n : Nat) (S : List (List UInt8)) (ps : List Dk.Wr) (life acts : Int) (w : World) (h : Live d p F n S ps life w) (hp : PowerAt p false 0 acts w) :
    Calls Try.prog 25 #[.pointer (some ⟨d, 0, none⟩)] w (CutAt p acts id w) := by
  obtain ⟨bl, bn, pv, h, _⟩ := h
  have c0 := h.c0
  have H := Lib.hid h
  have HP := Lib.hid hp
  clear h hp
  go_enter Try.func25, Try.ntmps25
  go_wp2_with (first | (go_at_call 41; refine (ready_ok d p bl bn pv n S ps life 0 acts _ H.out HP.out).mono ?_; rintro e w' ⟨rfl, rfl⟩) | fail)
  refine (act_cut p acts _ HP.out).mono ?_
  rintro e w1 ⟨g, hg, rfl, hf⟩
  have HF := Lib.hid hf
  clear hf
  go_wp2_with fail
  go_ret
  exact ⟨g, hg, rfl, HF.out⟩
theorem Write_gone (d p : Nat) (F : List Nat) (n : Nat) (S : List (List UInt8)) (ps : List Dk.Wr) (life fuse acts : Int) (a : Int) (q : ByteArray) (w : World) (h : Live d p F n S ps life w) (hp : PowerAt p true fuse acts w) :
    Calls Try.prog 12 #[.pointer (some ⟨d, 0, none⟩), .int .i64 a, .string q] w (Refused 10 id w) := by
  obtain ⟨bl, bn, pv, h, _⟩ := h
  have H := Lib.hid h
  have HP := Lib.hid hp
  clear h hp
  go_enter Try.func12, Try.ntmps12
  go_wp2_with fail
  refine (ready_gone d p bl bn pv n S ps life fuse acts _ H.out HP.out).mono ?_
  rintro e w1 ⟨g, hg, rfl, hf⟩
  have HF := Lib.hid hf
  clear hf
  go_wp2_with fail
  go_ret
  exact ⟨g, hg, rfl, HF.out⟩
theorem Flush_gone (d p : Nat) (F : List Nat) (n : Nat) (S : List (List UInt8)) (ps : List Dk.Wr) (life fuse acts : Int) (w : World) (h : Live d p F n S ps life w) (hp : PowerAt p true fuse acts w) :
    Calls Try.prog 25 #[.pointer (some ⟨d, 0, none⟩)] w (Refused 10 id w) := by
  obtain ⟨bl, bn, pv, h, _⟩ := h
  have H := Lib.hid h
  have HP := Lib.hid hp
  clear h hp
  go_enter Try.func25, Try.ntmps25
  go_wp2_with fail
  refine (ready_gone d p bl bn pv n S ps life fuse acts _ H.out HP.out).mono ?_
  rintro e w1 ⟨g, hg, rfl, hf⟩
  have HF := Lib.hid hf
  clear hf
  go_wp2_with fail
  go_ret
  exact ⟨g, hg, rfl, HF.out⟩
theorem Read_gone (d p : Nat) (F : List Nat) (n : Nat) (S : List (List UInt8)) (ps : List Dk.Wr) (life fuse acts : Int) (a : Int) (w : World) (h : Live d p F n S ps life w) (hp : PowerAt p true fuse acts w) :
    Calls Try.prog 14 #[.pointer (some ⟨d, 0, none⟩), .int .i64 a] w (Refused 10 (fun v => .tuple #[.string ⟨#[]⟩, v]) w) := by
  obtain ⟨bl, bn, pv, h, _⟩ := h
  have H := Lib.hid h
  have HP := Lib.hid hp
  clear h hp
  go_enter Try.func14, Try.ntmps14
  go_wp2_with fail
  refine (ready_gone d p bl bn pv n S ps life fuse acts _ H.out HP.out).mono ?_
  rintro e w1 ⟨g, hg, rfl, hf⟩
  have HF := Lib.hid hf
  clear hf
  go_wp2_with fail
  go_ret2
  exact ⟨g, hg, rfl, HF.out⟩
theorem Fuse_any (p : Nat) (gone : Bool) (fuse acts : Int) (n : Nat) (w : World) (h : PowerAt p gone fuse acts w) :
    Calls Try.prog 33 #[.pointer (some ⟨p, 0, none⟩), .int .i64 n] w fun e w' => e = .returned (.tuple #[]) ∧ PowerAt p gone n acts w' ∧ Kept w.heap.size [p] w w' := by
  have c1 := h.c1
  have f0 := free_of_list h
  have hm : max (n : Int) (-1) = n := by omega
  have H := Lib.hid h
  clear h
  go_enter Try.func33, Try.ntmps33
  go_wp2
  go_end0
  exact ⟨rfl, set_list H.out 1 _, (Kept.refl _ _ _).setCell (p := ⟨p, 1, none⟩) (by simp) _⟩
theorem On_any (p : Nat) (gone : Bool) (fuse acts : Int) (w : World) (h : PowerAt p gone fuse acts w) :
    Calls Try.prog 35 #[.pointer (some ⟨p, 0, none⟩)] w fun e w' => e = .returned (.tuple #[]) ∧ PowerAt p false (-1) acts w' ∧ Kept w.heap.size [p] w w' := by
  have c0 := h.c0
  have c1 := h.c1
  have f0 := free_of_list h
  have H := Lib.hid h
  clear h
  go_enter Try.func35, Try.ntmps35
  go_wp2
  go_end0
  exact ⟨rfl, set_list (set_list H.out 0 _) 1 _, ((Kept.refl _ _ _).setCell (p := ⟨p, 0, none⟩) (by simp) _).setCell (p := ⟨p, 1, none⟩) (by simp) _⟩
end Go.Proofs.Ytkpnllaegkdkkaa
