/- Several texts in one, in the order in which they build: FErr FErr2 JFail FLaws FPack. -/
import Derived.Test.YtbljhodnpddpiaaGreatDoorQ05
import Derived.LaidEql
import Derived.Stop.Asserts
import Derived.Test.YtbljhodnpddpiaaGreatDoorQ04
/- The walks of layer 3's errors, and of asking which error one is. -/
namespace Go.Proofs.YtbljhodnpddpiaaGreatDoor
open Go.RowKit Go.Extern.Stop Go.Stop Go.Extern

/-- An error of a number, at block g. -/
def FaultAt (g : Nat) (c a : Int) (w : World) : Prop := w.heap[g]? = some (.cells [Value.int .i64 c, .int .i64 a, .nilIface].toArray 95 (0, 0))
theorem FaultAt.keep {g : Nat} {c a : Int} {w w' : World} (h : FaultAt g c a w) (hk : w'.heap[g]? = w.heap[g]?) : FaultAt g c a w' := hk.trans h
theorem FaultAt.lt {g : Nat} {c a : Int} {w : World} (h : FaultAt g c a w) : g < w.heap.size := lt_of_heap h
/-- .. as a value. -/
def faultV (g : Nat) : Value := .iface 92 (.pointer (some ⟨g, 0, none⟩))
theorem fault_any (c a : Int) (w : World) : Calls Tryz.prog 106 #[.int .i64 c, .int .i64 a] w fun e w' => e = .returned (.iface 92 (.pointer (some ⟨w.heap.size, 0, none⟩))) ∧ FaultAt w.heap.size c a w' ∧ Below w.heap.size w w' := by
  go_enter Tryz.func106, Tryz.ntmps106
  go_wp2
  go_ret
  exact ⟨rfl, heap_alloc_new _ _, (Below.refl _ _).alloc (Nat.le_refl _) _⟩

theorem typeOf_errno (v : Value) (w : World) : (Extern.ReflectliteType.typeOf #[.iface 70 v]).run Tryz.prog w = .ok (.iface 155 (.agg #[.pointer (some ⟨2, 70, none⟩)])) w := by kernel_rfl
theorem comparable_errno (w : World) : (callFunc 147 #[.agg #[.pointer (some ⟨2, 70, none⟩)]]).run Tryz.prog w = .ok (.value (.bool true)) w := by kernel_rfl
theorem method_comparable (v : Value) (w : World) : (Go.method 322 155 v "Comparable").run Tryz.prog w = .ok (147, v) w := by kernel_rfl
theorem method_is (v : Value) (w : World) : (Go.method 322 92 v "Is").run Tryz.prog w = .ok (139, v) w := by kernel_rfl
theorem has_is (v : Value) (xT : TypeId) (w : World) : (Instr.typeAssert (.iface 92 v) xT 157 true).run Tryz.prog w = .ok (.tuple #[.iface 92 v, .bool true]) w := run_typeAssert_hasB Tryz.underlying157 (by kernel_rfl) v xT w
theorem assert_errno (c : Int) (xT : TypeId) (w : World) : (Instr.typeAssert (.iface 70 (.int .i64 c)) xT 70 true).run Tryz.prog w = .ok (.tuple #[.int .i64 c, .bool true]) w := by kernel_rfl
theorem assert_fault (v : Value) (xT : TypeId) (w : World) : (Instr.typeAssert (.iface 92 v) xT 92 true).run Tryz.prog w = .ok (.tuple #[v, .bool true]) w := by kernel_rfl
set_option maxHeartbeats 1000000 in
theorem FaultIs_true (g : Nat) (c a : Int) (w : World) (h : FaultAt g c a w) :
    Calls Tryz.prog 139 #[.pointer (some ⟨g, 0, none⟩), .iface 70 (.int .i64 c)] w fun e w' => e = .returned (.bool true) ∧ w = w' := by
  have c0 : w.cell? ⟨g, 0, none⟩ = some (.int .i64 c) := by rw [cell_of_list h]; rfl
  have ae := assert_errno c
  clear h
  go_enter Tryz.func139, Tryz.ntmps139
  go_wp2
  go_ret
  exact ⟨rfl, rfl⟩
set_option maxHeartbeats 1000000 in
theorem errorsis_true (g : Nat) (c a : Int) (w : World) (h : FaultAt g c a w) :
    Calls Tryz.prog 71 #[.iface 92 (.pointer (some ⟨g, 0, none⟩)), .iface 70 (.int .i64 c), .bool true] w fun e w' => e = .returned (.bool true) ∧ w = w' := by
  have mI := method_is
  have hI := has_is
  have hty := run_eql_iface_types (P := Tryz.prog) 92 70 (.pointer (some ⟨g, 0, none⟩)) (.int .i64 c) Tryz.underlying37 (by decide) w
  have H := Lib.hid h
  clear h
  go_enter Tryz.func71, Tryz.ntmps71
  go_wp2_with fail
  refine wp_loop_rounds 1 ?_
  rw [rounds_succ]
  go_wp2_with (go_at_call 139; refine (FaultIs_true g c a _ H.out).mono ?_; rintro e w' ⟨rfl, rfl⟩)
  go_ret
  exact ⟨rfl, rfl⟩
set_option maxHeartbeats 1000000 in
theorem errorsIs_true (g : Nat) (c a : Int) (w : World) (h : FaultAt g c a w) :
    Calls Tryz.prog 49 #[.iface 92 (.pointer (some ⟨g, 0, none⟩)), .iface 70 (.int .i64 c)] w fun e w' => e = .returned (.bool true) ∧ w = w' := by
  have h8 := @run_callFunc_extern Tryz.prog 70 _ Extern.ReflectliteType.typeOf Tryz.func70 (by kernel_rfl) (by kernel_rfl) (by kernel_rfl) (by kernel_rfl)
  have tT := typeOf_errno
  have cT := comparable_errno
  have mR := method_comparable
  have H := Lib.hid h
  clear h
  go_enter Tryz.func49, Tryz.ntmps49
  go_wp2_with (go_at_call 71; refine (errorsis_true g c a _ H.out).mono ?_; rintro e w' ⟨rfl, rfl⟩)
  go_ret
  exact ⟨rfl, rfl⟩
end Go.Proofs.YtbljhodnpddpiaaGreatDoor

/- errors.Is at no error. -/
namespace Go.Proofs.YtbljhodnpddpiaaGreatDoor
open Go.RowKit Go.Extern.Stop Go.Stop Go.Extern
set_option maxRecDepth 100000 in
set_option maxHeartbeats 1000000 in
theorem errorsIs_nil (v : Value) (w : World) : Calls Tryz.prog 49 #[.nilIface, .iface 70 v] w fun e w' => e = .returned (.bool false) ∧ w = w' := by
  have hq : (binOp .eql 37 .nilIface (.iface 70 v)).run Tryz.prog w = .ok (.bool false) w := by kernel_rfl
  go_enter Tryz.func49, Tryz.ntmps49
  go_wp2
  go_ret
  exact ⟨rfl, rfl⟩
/-- An error of a number and a place is answered; nothing that was there is another. -/
def Refused (c a : Int) (mk : Value → Value) (w : World) (e : Ending) (w' : World) : Prop := ∃ g, w.heap.size ≤ g ∧ e = .returned (mk (.iface 92 (.pointer (some ⟨g, 0, none⟩)))) ∧ FaultAt g c a w' ∧ Below w.heap.size w w'
theorem fault_is (c a : Int) (w : World) : Calls Tryz.prog 106 #[.int .i64 c, .int .i64 a] w (Refused c a id w) := by
  refine (fault_any c a w).mono ?_
  rintro e w' ⟨rfl, h1, h2⟩
  exact ⟨_, Nat.le_refl _, rfl, h1, h2⟩
end Go.Proofs.YtbljhodnpddpiaaGreatDoor

/- The walks of what a disk refuses, and of its power and fuse (beside the errors of layer 3). -/
namespace Go.Proofs.YtbljhodnpddpiaaGreatDoor
open Go.RowKit

theorem dfault_any (c : Int) (w : World) : Calls Tryz.prog 27 #[.int .i64 c] w fun e w' => e = .returned (.iface 92 (.pointer (some ⟨w.heap.size, 0, none⟩))) ∧ FaultAt w.heap.size c 0 w' ∧ Below w.heap.size w w' := by
  go_enter Tryz.func27, Tryz.ntmps27
  go_wp2
  go_ret
  exact ⟨rfl, heap_alloc_new _ _, (Below.refl _ _).alloc (Nat.le_refl _) _⟩
theorem dfault_is (c : Int) (w : World) : Calls Tryz.prog 27 #[.int .i64 c] w (Refused c 0 id w) := by
  refine (dfault_any c w).mono ?_
  rintro e w' ⟨rfl, h1, h2⟩
  exact ⟨_, Nat.le_refl _, rfl, h1, h2⟩
theorem New_low (p : Nat) (n : Int) (h : n < 1) (w : World) : Calls Tryz.prog 24 #[.pointer (some ⟨p, 0, none⟩), .int .i64 n] w (Refused 1 0 (fun v => .tuple #[.pointer none, v]) w) := by
  go_enter Tryz.func24, Tryz.ntmps24
  go_wp2_with (go_at_call 27; refine (dfault_is 1 _).mono ?_; rintro e w' ⟨g, hg, rfl, hf, hb⟩; have HF := Lib.hid hf; have HB := Lib.hid hb; clear hf hb)
  go_ret2
  exact ⟨g, hg, rfl, HF.out, HB.out⟩
theorem New_high (p : Nat) (n : Int) (h : 8192 < n) (w : World) : Calls Tryz.prog 24 #[.pointer (some ⟨p, 0, none⟩), .int .i64 n] w (Refused 1 0 (fun v => .tuple #[.pointer none, v]) w) := by
  go_enter Tryz.func24, Tryz.ntmps24
  go_wp2_with (go_at_call 27; refine (dfault_is 1 _).mono ?_; rintro e w' ⟨g, hg, rfl, hf, hb⟩; have HF := Lib.hid hf; have HB := Lib.hid hb; clear hf hb)
  go_ret2
  exact ⟨g, hg, rfl, HF.out, HB.out⟩
theorem has_high (d : Nat) (bl n : Nat) (a : Int) (h0 : 0 ≤ a) (ha : (n : Int) ≤ a) (hn : n ≤ 8192) (w : World) (h : w.cell? ⟨d, 1, none⟩ = some (.slice (some ⟨bl, 0, none⟩) n n)) :
    Calls Tryz.prog 26 #[.pointer (some ⟨d, 1, none⟩), .int .i64 a] w fun e w' => e = .returned (.bool false) ∧ w = w' := by
  have hd : decide (a < (n : Int)) = false := by rw [decide_eq_false_iff_not]; omega
  have hn' := hn
  go_enter Tryz.func26, Tryz.ntmps26
  go_wp2
  go_ret
  exact ⟨rfl, rfl⟩
theorem has_low (d : Nat) (a : Int) (ha : a < 0) (w : World) :
    Calls Tryz.prog 26 #[.pointer (some ⟨d, 1, none⟩), .int .i64 a] w fun e w' => e = .returned (.bool false) ∧ w = w' := by
  have hd : decide (0 ≤ a) = false := by rw [decide_eq_false_iff_not]; omega
  go_enter Tryz.func26, Tryz.ntmps26
  go_wp2
  go_ret
  exact ⟨rfl, rfl⟩
theorem has_no (d : Nat) (bl n : Nat) (a : Int) (ha : a < 0 ∨ (n : Int) ≤ a) (hn : n ≤ 8192) (w : World) (h : w.cell? ⟨d, 1, none⟩ = some (.slice (some ⟨bl, 0, none⟩) n n)) :
    Calls Tryz.prog 26 #[.pointer (some ⟨d, 1, none⟩), .int .i64 a] w fun e w' => e = .returned (.bool false) ∧ w = w' := by
  by_cases h0 : a < 0
  · exact has_low d a h0 w
  · exact has_high d bl n a (by omega) (by omega) hn w h
theorem ready_gone (d p bl bn : Nat) (pv : Value) (n : Nat) (S : List (List UInt8)) (ps : List Dk.Wr) (life fuse acts : Int) (w : World) (h : LiveAt d p bl bn pv n S ps life w) (hp : PowerAt p true fuse acts w) :
    Calls Tryz.prog 25 #[.pointer (some ⟨d, 0, none⟩)] w (Refused 10 0 id w) := by
  have c0 := h.c0
  have q0 := hp.c0
  clear h hp
  go_enter Tryz.func25, Tryz.ntmps25
  go_wp2_with (go_at_call 27; refine (dfault_is 10 _).mono ?_; rintro e w' ⟨g, hg, rfl, hf, hb⟩; have HF := Lib.hid hf; have HB := Lib.hid hb; clear hf hb)
  go_ret
  exact ⟨g, hg, rfl, HF.out, HB.out⟩
theorem Read_bad (d p : Nat) (F : List Nat) (n : Nat) (S : List (List UInt8)) (ps : List Dk.Wr) (life fuse acts : Int) (a : Int) (ha : a < 0 ∨ (n : Int) ≤ a) (w : World) (h : Live d p F n S ps life w) (hp : PowerAt p false fuse acts w) :
    Calls Tryz.prog 91 #[.pointer (some ⟨d, 0, none⟩), .int .i64 a] w (Refused 1 0 (fun v => .tuple #[.string ⟨#[]⟩, v]) w) := by
  obtain ⟨bl, bn, pv, h, _⟩ := h
  have c1 := h.c1
  have hn := h.n2
  have H := Lib.hid h
  have HP := Lib.hid hp
  have HA := Lib.hid ha
  clear h hp ha
  go_enter Tryz.func91, Tryz.ntmps91
  go_wp2_with (first | (go_at_call 25; refine (ready_ok d p bl bn pv n S ps life fuse acts _ H.out HP.out).mono ?_; rintro e w' ⟨rfl, rfl⟩) | (go_at_call 26; refine (has_no d bl n a HA.out hn _ c1).mono ?_; rintro e w' ⟨rfl, rfl⟩) | (go_at_call 27; refine (dfault_is 1 _).mono ?_; rintro e w' ⟨g, hg, rfl, hf, hb⟩; have HF := Lib.hid hf; have HB := Lib.hid hb; clear hf hb))
  go_ret2
  exact ⟨g, hg, rfl, HF.out, HB.out⟩
theorem Sectors_any (d p : Nat) (F : List Nat) (n : Nat) (S : List (List UInt8)) (ps : List Dk.Wr) (life : Int) (w : World) (h : Live d p F n S ps life w) :
    Calls Tryz.prog 55 #[.pointer (some ⟨d, 0, none⟩)] w fun e w' => e = .returned (.int .i64 n) ∧ w = w' := by
  obtain ⟨bl, bn, pv, h, _⟩ := h
  have c4 := h.c4
  clear h
  go_enter Tryz.func55, Tryz.ntmps55
  go_wp2
  go_ret
  exact ⟨rfl, rfl⟩
/-- The act was not done: the power is gone. -/
def CutAt (p : Nat) (acts : Int) (mk : Value → Value) (w : World) (e : Ending) (w' : World) : Prop :=
  ∃ g, w.heap.size ≤ g ∧ e = .returned (mk (.iface 92 (.pointer (some ⟨g, 0, none⟩)))) ∧ FaultAt g 10 0 w' ∧ PowerAt p true 0 acts w' ∧ Kept w.heap.size [p] w w'
theorem act_cut (p : Nat) (acts : Int) (w : World) (h : PowerAt p false 0 acts w) : Calls Tryz.prog 28 #[.pointer (some ⟨p, 0, none⟩)] w (CutAt p acts id w) := by
  have c0 := h.c0
  have c1 := h.c1
  have f0 := free_of_list h
  have hlt := h.lt
  have H := Lib.hid h
  clear h
  go_enter Tryz.func28, Tryz.ntmps28
  go_wp2_with fail
  refine (dfault_is 10 _).mono ?_
  rintro e w' ⟨g, hg, rfl, hf, hb⟩
  have HF := Lib.hid hf
  have HB := Lib.hid hb
  clear hf hb
  go_wp2
  go_ret
  have hz : (w.setCell ⟨p, 0, none⟩ (.bool true)).heap.size = w.heap.size := by simp [World.setCell]
  have hp : PowerAt p true 0 acts (w.setCell ⟨p, 0, none⟩ (.bool true)) := set_list H.out 0 _
  refine ⟨g, by rw [hz] at hg; exact hg, rfl, HF.out, hp.keep (HB.out.block p (by rw [hz]; exact hlt)), ((Kept.refl _ _ _).setCell (p := ⟨p, 0, none⟩) (by simp) _).trans ((Kept.of_below HB.out).mono (by rw [hz]; exact Nat.le_refl _) (fun _ _ h => h))⟩
set_option maxHeartbeats 1000000 in
theorem Write_cut (d p : Nat) (F : List Nat) (n : Nat) (S : List (List UInt8)) (ps : List Dk.Wr) (life acts : Int) (a : Nat) (q : ByteArray) (ha : a < n) (hq : q.size = 64) (w : World) (h : Live d p F n S ps life w) (hp : PowerAt p false 0 acts w) :
    Calls Tryz.prog 8 #[.pointer (some ⟨d, 0, none⟩), .int .i64 a, .string q] w (CutAt p acts id w) := by
  obtain ⟨bl, bn, pv, h, _⟩ := h
  have c0 := h.c0
  have c1 := h.c1
  have H := Lib.hid h
  have HP := Lib.hid hp
  have hqb : ((q.size : Int) != 64) = false := by rw [bne_eq_false_iff_eq]; omega
  clear h hp
  go_enter Tryz.func8, Tryz.ntmps8
  go_wp2_with (first | (go_at_call 25; refine (ready_ok d p bl bn pv n S ps life 0 acts _ H.out HP.out).mono ?_; rintro e w' ⟨rfl, rfl⟩) | (go_at_call 26; refine (has_yes d bl n a ha _ c1).mono ?_; rintro e w' ⟨rfl, rfl⟩) | fail)
  refine (act_cut p acts _ HP.out).mono ?_
  rintro e w1 ⟨g, hg, rfl, hf⟩
  have HF := Lib.hid hf
  clear hf
  go_wp2_with fail
  go_ret
  exact ⟨g, hg, rfl, HF.out⟩
set_option maxHeartbeats 1000000 in
theorem Flush_cut (d p : Nat) (F : List Nat) (n : Nat) (S : List (List UInt8)) (ps : List Dk.Wr) (life acts : Int) (w : World) (h : Live d p F n S ps life w) (hp : PowerAt p false 0 acts w) :
    Calls Tryz.prog 9 #[.pointer (some ⟨d, 0, none⟩)] w (CutAt p acts id w) := by
  obtain ⟨bl, bn, pv, h, _⟩ := h
  have c0 := h.c0
  have H := Lib.hid h
  have HP := Lib.hid hp
  clear h hp
  go_enter Tryz.func9, Tryz.ntmps9
  go_wp2_with (first | (go_at_call 25; refine (ready_ok d p bl bn pv n S ps life 0 acts _ H.out HP.out).mono ?_; rintro e w' ⟨rfl, rfl⟩) | fail)
  refine (act_cut p acts _ HP.out).mono ?_
  rintro e w1 ⟨g, hg, rfl, hf⟩
  have HF := Lib.hid hf
  clear hf
  go_wp2_with fail
  go_ret
  exact ⟨g, hg, rfl, HF.out⟩
theorem Write_gone (d p : Nat) (F : List Nat) (n : Nat) (S : List (List UInt8)) (ps : List Dk.Wr) (life fuse acts : Int) (a : Int) (q : ByteArray) (w : World) (h : Live d p F n S ps life w) (hp : PowerAt p true fuse acts w) :
    Calls Tryz.prog 8 #[.pointer (some ⟨d, 0, none⟩), .int .i64 a, .string q] w (Refused 10 0 id w) := by
  obtain ⟨bl, bn, pv, h, _⟩ := h
  have H := Lib.hid h
  have HP := Lib.hid hp
  clear h hp
  go_enter Tryz.func8, Tryz.ntmps8
  go_wp2_with fail
  refine (ready_gone d p bl bn pv n S ps life fuse acts _ H.out HP.out).mono ?_
  rintro e w1 ⟨g, hg, rfl, hf⟩
  have HF := Lib.hid hf
  clear hf
  go_wp2_with fail
  go_ret
  exact ⟨g, hg, rfl, HF.out⟩
theorem Flush_gone (d p : Nat) (F : List Nat) (n : Nat) (S : List (List UInt8)) (ps : List Dk.Wr) (life fuse acts : Int) (w : World) (h : Live d p F n S ps life w) (hp : PowerAt p true fuse acts w) :
    Calls Tryz.prog 9 #[.pointer (some ⟨d, 0, none⟩)] w (Refused 10 0 id w) := by
  obtain ⟨bl, bn, pv, h, _⟩ := h
  have H := Lib.hid h
  have HP := Lib.hid hp
  clear h hp
  go_enter Tryz.func9, Tryz.ntmps9
  go_wp2_with fail
  refine (ready_gone d p bl bn pv n S ps life fuse acts _ H.out HP.out).mono ?_
  rintro e w1 ⟨g, hg, rfl, hf⟩
  have HF := Lib.hid hf
  clear hf
  go_wp2_with fail
  go_ret
  exact ⟨g, hg, rfl, HF.out⟩
theorem Read_gone (d p : Nat) (F : List Nat) (n : Nat) (S : List (List UInt8)) (ps : List Dk.Wr) (life fuse acts : Int) (a : Int) (w : World) (h : Live d p F n S ps life w) (hp : PowerAt p true fuse acts w) :
    Calls Tryz.prog 91 #[.pointer (some ⟨d, 0, none⟩), .int .i64 a] w (Refused 10 0 (fun v => .tuple #[.string ⟨#[]⟩, v]) w) := by
  obtain ⟨bl, bn, pv, h, _⟩ := h
  have H := Lib.hid h
  have HP := Lib.hid hp
  clear h hp
  go_enter Tryz.func91, Tryz.ntmps91
  go_wp2_with fail
  refine (ready_gone d p bl bn pv n S ps life fuse acts _ H.out HP.out).mono ?_
  rintro e w1 ⟨g, hg, rfl, hf⟩
  have HF := Lib.hid hf
  clear hf
  go_wp2_with fail
  go_ret2
  exact ⟨g, hg, rfl, HF.out⟩
theorem Fuse_any (p : Nat) (gone : Bool) (fuse acts : Int) (n : Nat) (w : World) (h : PowerAt p gone fuse acts w) :
    Calls Tryz.prog 40 #[.pointer (some ⟨p, 0, none⟩), .int .i64 n] w fun e w' => e = .returned (.tuple #[]) ∧ PowerAt p gone n acts w' ∧ Kept w.heap.size [p] w w' := by
  have c1 := h.c1
  have f0 := free_of_list h
  have hm : max (n : Int) (-1) = n := by omega
  have H := Lib.hid h
  clear h
  go_enter Tryz.func40, Tryz.ntmps40
  go_wp2
  go_end0
  exact ⟨rfl, set_list H.out 1 _, (Kept.refl _ _ _).setCell (p := ⟨p, 1, none⟩) (by simp) _⟩
theorem On_any (p : Nat) (gone : Bool) (fuse acts : Int) (w : World) (h : PowerAt p gone fuse acts w) :
    Calls Tryz.prog 41 #[.pointer (some ⟨p, 0, none⟩)] w fun e w' => e = .returned (.tuple #[]) ∧ PowerAt p false (-1) acts w' ∧ Kept w.heap.size [p] w w' := by
  have c0 := h.c0
  have c1 := h.c1
  have f0 := free_of_list h
  have H := Lib.hid h
  clear h
  go_enter Tryz.func41, Tryz.ntmps41
  go_wp2
  go_end0
  exact ⟨rfl, set_list (set_list H.out 0 _) 1 _, ((Kept.refl _ _ _).setCell (p := ⟨p, 0, none⟩) (by simp) _).setCell (p := ⟨p, 1, none⟩) (by simp) _⟩
end Go.Proofs.YtbljhodnpddpiaaGreatDoor

/- Laws at operations: bytes that are made, texts that are copied into them, texts that are cut. -/
namespace Go.Proofs.YtbljhodnpddpiaaGreatDoor
open Go.RowKit

theorem step_copy_str {P : Program} {ops : Array Oper} {o : Oper} {a : Act} {w : World} {K : Act → World → Prop} {Q : Exit → Act → World → Prop} {E : Prop} (hgd : o.guard = none) (d s : Operand) (dT sT : TypeId)
    (ho : o.op = .call { callee := .builtin .copy, args := #[d, s], argTypes := #[dT, sT] }) (elem : TypeId) (hu : P.underlying dT = some (.slice elem)) (hsz : (P.info? elem).map (·.size) = some 1)
    (b off dLen dCap : Nat) (t : ByteArray) (hd : a.eval d = .slice (some ⟨b, off, none⟩) dLen dCap) (hs : a.eval s = .string t) (ht : w.there b off (Nat.min t.size dLen))
    (h : K (a.put o.dst (goInt (Nat.min t.size dLen))) (w.setCells b off (strCells t (Nat.min t.size dLen)))) :
    if Region.wanted o (yielded ops a.tmps) = true then Oper.wp P o a w K Q else E := by
  have hw : Region.wanted o (yielded ops a.tmps) = true := by simp [Region.wanted, hgd]
  rw [if_pos hw]
  have hrun := run_copy_str (P := P) w dT sT o.type elem b off dLen dCap t hu hsz ht
  unfold Oper.wp
  simp [execOp, ho, resolve, invoke, builtin, hd, hs, hrun, Result.andThen]
  exact h
theorem run_rest_string {P : Program} (w : World) (t : TypeId) (s : ByteArray) (k : IntKind) (i : Nat) (h : P.underlying t = some .string) (hi : i ≤ s.size) :
    (Instr.slice t (.string s) (some (.int k (i : Int))) none none).run P w = .ok (.string (s.extract i s.size)) w := by
  rw [run_slice_string_from_if w t s k i h, if_pos (by omega)]; simp
theorem run_first_string {P : Program} (w : World) (t : TypeId) (s : ByteArray) (k : IntKind) (i : Nat) (h : P.underlying t = some .string) (hi : i ≤ s.size) :
    (Instr.slice t (.string s) none (some (.int k (i : Int))) none).run P w = .ok (.string (s.extract 0 i)) w := by
  rw [run_slice_string_to_if w t s k i h, if_pos (by omega)]; simp
theorem run_mid_string {P : Program} (w : World) (t : TypeId) (s : ByteArray) (k k' : IntKind) (i j : Nat) (h : P.underlying t = some .string) (hi : i ≤ j) (hj : j ≤ s.size) :
    (Instr.slice t (.string s) (some (.int k (i : Int))) (some (.int k' (j : Int))) none).run P w = .ok (.string (s.extract i j)) w := by
  rw [run_slice_string_if w t s k k' i j h, if_pos (by omega)]; simp; omega
theorem extract_list (s : ByteArray) (i j : Nat) : (s.extract i j).data.toList = (s.data.toList.take j).drop i := by
  simp [ByteArray.data_extract, Array.toList_extract, List.drop_take]
theorem extract_from (s : ByteArray) (i : Nat) : (s.extract i s.size).data.toList = s.data.toList.drop i := by
  rw [extract_list, List.take_of_length_le (by rw [size_toList]; omega)]
theorem extract_to (s : ByteArray) (i : Nat) : (s.extract 0 i).data.toList = s.data.toList.take i := by
  rw [extract_list, List.drop_zero]
/-- A text, of its bytes. -/
def bs (l : List UInt8) : ByteArray := ⟨l.toArray⟩
theorem bs_eq (l : List UInt8) : (⟨l.toArray⟩ : ByteArray) = bs l := rfl
theorem bs_list (l : List UInt8) : (bs l).data.toList = l := by simp [bs]
theorem bs_of {s : ByteArray} {l : List UInt8} (h : s.data.toList = l) : s = bs l := by
  cases s with
  | mk d => unfold bs; rw [← h]
theorem bs_self (s : ByteArray) : bs s.data.toList = s := (bs_of rfl).symm
theorem bs_size (l : List UInt8) : (bs l).size = l.length := by rw [← size_toList, bs_list]
theorem bs_append (a b : List UInt8) : bs a ++ bs b = bs (a ++ b) := bs_of (by simp [bs])
theorem bs_inj {a b : List UInt8} (h : bs a = bs b) : a = b := by rw [← bs_list a, h, bs_list]
attribute [irreducible] bs
theorem zero_add (a b : Nat) : Fr.zero (a + b) = Fr.zero a ++ Fr.zero b := by unfold Fr.zero; exact (List.replicate_append_replicate ..).symm
theorem zero_split {n a b : Nat} (h : n = a + b) : Fr.zero n = Fr.zero a ++ Fr.zero b := by rw [h, zero_add]
theorem zb_u8 (n : Nat) : zb n = (Fr.zero n).map u8v := by unfold zb; rfl
theorem wpList_make_zb {ops : Array Oper} {rest : List Oper} {o : Oper} {a : Act} {w : World} {Q : Exit → Act → World → Prop} (hgd : o.guard = none) (x y : Operand) (ho : o.op = .makeSlice 59 x y)
    (n : Nat) (hn : n ≤ 70368744177664) (hx : a.eval x = .int .i64 n) (hy : a.eval y = .int .i64 n)
    (h : ∀ w', Hid (w'.heap[w.heap.size]? = some (.cells ((Fr.zero n).map u8v).toArray 5 (0, 0))) → Hid (Below w.heap.size w w') → Hid (w'.heap.size = w.heap.size + 1) → wpList Tryz.prog ops Q rest (a.put o.dst (.slice (some ⟨w.heap.size, 0, none⟩) n n)) w') : wpList Tryz.prog ops Q (o :: rest) a w := by
  refine wpList_run hgd _ (w.alloc (.cells (zb n).toArray 5)) ?_ (h _ (Lib.hid (by rw [← zb_u8]; exact heap_alloc_new _ _)) (Lib.hid ((Below.refl _ _).alloc (Nat.le_refl _) _)) (Lib.hid (by simp)))
  unfold execOp
  simp only [ho, hx, hy, Sem.run_bind, make_bytes n hn w, Result.andThen_ok]
  rfl
/-- A text copied into the middle of bytes that lie there. -/
theorem copied {w : World} {b : Nat} {A B C vs : List Value} {T : TypeId} (hg : w.heap[b]? = some (.cells (A ++ (B ++ C)).toArray T (0, 0))) (hB : B.length = vs.length) : (w.setCells b A.length vs).heap[b]? = some (.cells (A ++ (vs ++ C)).toArray T (0, 0)) := by
  have := setCells_list vs A.length _ w hg
  rwa [laid_mid' _ _ _ _ hB] at this
theorem wpList_copy_part {P : Program} {w : World} {ops : Array Oper} {rest : List Oper} {o : Oper} {a : Act} {Q : Exit → Act → World → Prop} (hgd : o.guard = none) (d s : Operand) (dT sT : TypeId)
    (ho : o.op = .call { callee := .builtin .copy, args := #[d, s], argTypes := #[dT, sT] }) (elem : TypeId) (hu : P.underlying dT = some (.slice elem)) (hsz : (P.info? elem).map (·.size) = some 1)
    (b off dLen dCap : Nat) (l : List UInt8) (t : ByteArray) (hd : a.eval d = .slice (some ⟨b, off, none⟩) dLen dCap) (hs : a.eval s = .string t) (htl : t.data.toList = l) (ht : l.length ≤ dLen)
    (A B C : List Value) (T : TypeId) (hg : w.heap[b]? = some (.cells (A ++ (B ++ C)).toArray T (0, 0))) (hA : A.length = off) (hB : B.length = l.length)
    (h : ∀ w', Hid (w'.heap[b]? = some (.cells (A ++ (l.map u8v ++ C)).toArray T (0, 0))) → Hid (Kept w.heap.size [b] w w') → Hid (w'.heap.size = w.heap.size) → wpList P ops Q rest (a.put o.dst (goInt l.length)) w') : wpList P ops Q (o :: rest) a w := by
  subst htl hA
  have hm : Nat.min t.size dLen = t.size := Nat.min_eq_left (by rw [← size_toList]; exact ht)
  rw [size_toList] at h hB
  refine wpList_copy_str hgd d s dT sT ho elem hu hsz b A.length dLen dCap t hd hs (by rw [hm]; exact there_of_list hg (by simp; omega)) ?_
  rw [hm]
  have he : strCells t t.size = t.data.toList.map u8v := by rw [strCells, List.take_of_length_le (by rw [size_toList]; omega)]
  rw [he]
  exact h _ (Lib.hid (copied hg (by rw [List.length_map, size_toList, hB]))) (Lib.hid (kept_setCells _ _ _ _)) (Lib.hid (setCells_size _ _ _))
theorem step_copy_part {P : Program} {ops : Array Oper} {o : Oper} {a : Act} {w : World} {K : Act → World → Prop} {Q : Exit → Act → World → Prop} {E : Prop} (hgd : o.guard = none) (d s : Operand) (dT sT : TypeId)
    (ho : o.op = .call { callee := .builtin .copy, args := #[d, s], argTypes := #[dT, sT] }) (elem : TypeId) (hu : P.underlying dT = some (.slice elem)) (hsz : (P.info? elem).map (·.size) = some 1)
    (b off dLen dCap : Nat) (l : List UInt8) (t : ByteArray) (hd : a.eval d = .slice (some ⟨b, off, none⟩) dLen dCap) (hs : a.eval s = .string t) (htl : t.data.toList = l) (ht : l.length ≤ dLen)
    (A B C : List Value) (T : TypeId) (hg : w.heap[b]? = some (.cells (A ++ (B ++ C)).toArray T (0, 0))) (hA : A.length = off) (hB : B.length = l.length) (dst : Option Tmp) (hdst : o.dst = dst)
    (h : ∀ w', Hid (w'.heap[b]? = some (.cells (A ++ (l.map u8v ++ C)).toArray T (0, 0))) → Hid (Kept w.heap.size [b] w w') → Hid (w'.heap.size = w.heap.size) → K (a.put dst (goInt l.length)) w') :
    if Region.wanted o (yielded ops a.tmps) = true then Oper.wp P o a w K Q else E := by
  subst htl hA hdst
  have hm : Nat.min t.size dLen = t.size := Nat.min_eq_left (by rw [← size_toList]; exact ht)
  rw [size_toList] at h hB
  refine step_copy_str hgd d s dT sT ho elem hu hsz b A.length dLen dCap t hd hs (by rw [hm]; exact there_of_list hg (by simp; omega)) ?_
  rw [hm]
  have he : strCells t t.size = t.data.toList.map u8v := by rw [strCells, List.take_of_length_le (by rw [size_toList]; omega)]
  rw [he]
  exact h _ (Lib.hid (copied hg (by rw [List.length_map, size_toList, hB]))) (Lib.hid (kept_setCells _ _ _ _)) (Lib.hid (setCells_size _ _ _))
end Go.Proofs.YtbljhodnpddpiaaGreatDoor

/- The walks of records: the head, the sum, the record. -/
namespace Go.Proofs.YtbljhodnpddpiaaGreatDoor
open Go.RowKit

theorem bytesOf_bs (n k : Nat) (hk : k ≤ 8) (w : World) : Calls Tryz.prog 112 #[.int .u64 n, .int .i64 k] w fun e w' => e = .returned (.string (bs (Fr.be k n))) ∧ Below w.heap.size w w' := by
  rw [← bs_eq]; exact bytesOf_any n k hk w
theorem bytesOf4 (n : Nat) (w : World) : Calls Tryz.prog 112 #[.int .u64 n, .int .i64 4] w fun e w' => e = .returned (.string (bs (Fr.be 4 n))) ∧ Below w.heap.size w w' := bytesOf_bs n 4 (by omega) w
theorem bytesOf8 (n : Nat) (w : World) : Calls Tryz.prog 112 #[.int .u64 n, .int .i64 8] w fun e w' => e = .returned (.string (bs (Fr.be 8 n))) ∧ Below w.heap.size w w' := bytesOf_bs n 8 (by omega) w
attribute [local go_sem] bs_size Fr.length_be Fr.length_headOf Fr.length_sumOf
set_option maxHeartbeats 1000000 in
theorem headOf_ok (e n s : Nat) (he : e ≤ 4611686018427387904) (hn : n ≤ 4294967295) (hs : s ≤ 60000) (w : World) :
    Calls Tryz.prog 101 #[.int .i64 e, .int .i64 n, .int .i64 s] w fun r w' => r = .returned (.tuple #[.string (bs (Fr.headOf e n s)), .nilIface]) ∧ Below w.heap.size w w' := by
  have HB := Lib.hid (Below.refl w.heap.size w)
  go_enter Tryz.func101, Tryz.ntmps101
  go_wp2_with (go_at_call 112; (first | with_reducible refine (bytesOf4 _ _).mono ?_ | with_reducible refine (bytesOf8 _ _).mono ?_); rintro r w' ⟨rfl, hb⟩; replace HB := Lib.hid (HB.out.trans (hb.mono HB.out.size)); clear hb)
  go_ret2
  exact ⟨by first | (rw [bs_append, bs_append, Fr.headOf_eq]; rfl) | rfl, HB.out⟩
def BadHead (e n s : Int) : Prop := e < 0 ∨ 4611686018427387904 < e ∨ n < 0 ∨ 4294967295 < n ∨ 60000 < s
set_option maxHeartbeats 1000000 in
theorem headOf_bad (e n s : Int) (h : BadHead e n s) (w : World) : Calls Tryz.prog 101 #[.int .i64 e, .int .i64 n, .int .i64 s] w (Refused 1 0 (fun v => .tuple #[.string ⟨#[]⟩, v]) w) := by
  unfold BadHead at h
  by_cases h1 : e < 0
  · clear h
    go_enter Tryz.func101, Tryz.ntmps101
    go_wp2_with (go_at_call 106; refine (fault_is 1 0 _).mono ?_; rintro e w' ⟨g, hg, rfl, hf, hb⟩; have HF := Lib.hid hf; have HB := Lib.hid hb; clear hf hb)
    go_ret2
    exact ⟨g, hg, rfl, HF.out, HB.out⟩
  by_cases h2 : 4611686018427387904 < e
  · clear h
    go_enter Tryz.func101, Tryz.ntmps101
    go_wp2_with (go_at_call 106; refine (fault_is 1 0 _).mono ?_; rintro e w' ⟨g, hg, rfl, hf, hb⟩; have HF := Lib.hid hf; have HB := Lib.hid hb; clear hf hb)
    go_ret2
    exact ⟨g, hg, rfl, HF.out, HB.out⟩
  by_cases h3 : n < 0
  · clear h
    go_enter Tryz.func101, Tryz.ntmps101
    go_wp2_with (go_at_call 106; refine (fault_is 1 0 _).mono ?_; rintro e w' ⟨g, hg, rfl, hf, hb⟩; have HF := Lib.hid hf; have HB := Lib.hid hb; clear hf hb)
    go_ret2
    exact ⟨g, hg, rfl, HF.out, HB.out⟩
  by_cases h4 : 4294967295 < n
  · clear h
    go_enter Tryz.func101, Tryz.ntmps101
    go_wp2_with (go_at_call 106; refine (fault_is 1 0 _).mono ?_; rintro e w' ⟨g, hg, rfl, hf, hb⟩; have HF := Lib.hid hf; have HB := Lib.hid hb; clear hf hb)
    go_ret2
    exact ⟨g, hg, rfl, HF.out, HB.out⟩
  have h5 : 60000 < s := by omega
  clear h
  go_enter Tryz.func101, Tryz.ntmps101
  go_wp2_with (go_at_call 106; refine (fault_is 1 0 _).mono ?_; rintro e w' ⟨g, hg, rfl, hf, hb⟩; have HF := Lib.hid hf; have HB := Lib.hid hb; clear hf hb)
  go_ret2
  exact ⟨g, hg, rfl, HF.out, HB.out⟩
theorem sumOf_any (h p : ByteArray) (hh : h.size ≤ 60000) (hp : p.size ≤ 60000) (w : World) :
    Calls Tryz.prog 103 #[.string h, .string p] w fun r w' => r = .returned (.string (bs (Fr.sumOf h.data.toList p.data.toList))) ∧ Below w.heap.size w w' := by
  go_enter Tryz.func103, Tryz.ntmps103
  go_wp2_with (first | (go_at_call 114; refine (Sum_any h (by omega) _).mono ?_; rintro r w' ⟨rfl, rfl⟩) | (go_at_call 113; refine (More_any _ p (by omega) _).mono ?_; rintro r w' ⟨rfl, rfl⟩) | (go_at_call 112; refine (bytesOf_bs _ 4 (by omega) _).mono ?_; rintro r w' ⟨rfl, hb⟩; have HB := Lib.hid hb; clear hb))
  go_ret
  exact ⟨rfl, HB.out⟩
theorem whole_any (n : Nat) (hn : n ≤ 9000000000000) (w : World) : Calls Tryz.prog 102 #[.int .i64 n] w fun r w' => r = .returned (.int .i64 (Fr.whole n)) ∧ w = w' := by
  go_enter Tryz.func102, Tryz.ntmps102
  go_wp2
  go_ret
  exact ⟨ret_int (by unfold Fr.whole; omega), rfl⟩
def headL (e n : Nat) (p : List UInt8) : List UInt8 := Fr.headOf e n p.length
theorem below_kept {w a b : World} {g : Nat} (h : Below w.heap.size w a) (hk : Kept a.heap.size [g] a b) (hg : w.heap.size ≤ g) : Below w.heap.size w b :=
  ⟨hk.os.trans h.os, hk.tape.trans h.tape, hk.output.trans h.output, Nat.le_trans h.size hk.size, fun i hi => by
    rw [hk.block i (by have := h.size; omega) (by simp; omega), h.block i hi]⟩
theorem split_0 {w : World} {g N : Nat} (h : 1 ≤ N) (hg : w.heap[g]? = some (.cells ((Fr.zero N).map u8v).toArray 5 (0, 0))) : w.heap[g]? = some (.cells (Value.int .u8 0 :: (Fr.zero (N - 1)).map u8v).toArray 5 (0, 0)) := by
  rw [hg, zero_split (show N = 1 + (N - 1) by omega)]
  rw [show Fr.zero 1 = [0] from by unfold Fr.zero; rfl]
  rfl
def u4 : List UInt8 := [1, 0, 0, 0]
def put3 (a b : List UInt8) (n : Nat) : List Value := a.map u8v ++ (b.map u8v ++ (Fr.zero n).map u8v)
theorem put3_eq (a b : List UInt8) (n : Nat) : put3 a b n = a.map u8v ++ (b.map u8v ++ (Fr.zero n).map u8v) := rfl
theorem stored_0 {w : World} {g N : Nat} (h : 20 ≤ N) (hg : w.heap[g]? = some (.cells (Value.int .u8 0 :: (Fr.zero (N - 1)).map u8v).toArray 5 (0, 0))) :
    (w.setCell ⟨g, 0, none⟩ (.int .u8 1)).heap[g]? = some (.cells (u4.map u8v ++ ((Fr.zero 16).map u8v ++ (Fr.zero (N - 20)).map u8v)).toArray 5 (0, 0)) := by
  rw [set_list hg, zero_split (show N - 1 = 3 + (16 + (N - 20)) by omega), zero_add 16]
  rw [show Fr.zero 3 = [0, 0, 0] from by unfold Fr.zero; rfl]
  simp [u4]; rfl
theorem next_zero {w : World} {g n a b : Nat} {x y : List UInt8} {T : TypeId} (h : n = a + b) (hg : w.heap[g]? = some (.cells (x.map u8v ++ (y.map u8v ++ (Fr.zero n).map u8v)).toArray T (0, 0))) :
    w.heap[g]? = some (.cells ((x ++ y).map u8v ++ ((Fr.zero a).map u8v ++ (Fr.zero b).map u8v)).toArray T (0, 0)) := by
  rw [hg, zero_split h]; simp
theorem last_row {w : World} {g : Nat} {x y z : List UInt8} {T : TypeId} {fr : Nat × Nat} (h : w.heap[g]? = some (.cells (x.map u8v ++ (y.map u8v ++ z.map u8v)).toArray T fr)) : w.rangeAt g 0 ((x ++ y ++ z).map u8v) := by
  refine range_of_list (t := T) (fr := fr) ?_
  rw [h]; simp
theorem map_zero_length (n : Nat) {m : Nat} (h : n = m) : ((Fr.zero n).map u8v).length = m := by rw [List.length_map, Fr.length_zero, h]
set_option maxRecDepth 100000 in
set_option maxHeartbeats 2000000 in
theorem Pack_ok (e n : Nat) (p : ByteArray) (he : e ≤ 4611686018427387904) (hn : n ≤ 4294967295) (hp : p.size ≤ 60000) (w : World) :
    Calls Tryz.prog 86 #[.int .i64 e, .int .i64 n, .string p] w fun r w' => r = .returned (.tuple #[.string (bs (Fr.record e n p.data.toList)), .nilIface]) ∧ Below w.heap.size w w' := by
  obtain ⟨N, hN⟩ : ∃ N, N = Fr.whole p.size := ⟨_, rfl⟩
  have hN1 : 24 + p.size ≤ N := by rw [hN]; exact Fr.whole_ge _
  have hN3 : 64 ≤ N := by rw [hN]; unfold Fr.whole; omega
  have hN2 : N ≤ 60087 := by have := Fr.whole_le p.size; omega
  obtain ⟨H, hH⟩ : ∃ H, H = Fr.headOf e n p.size := ⟨_, rfl⟩
  have hHl : H.length = 16 := by rw [hH, Fr.length_headOf]
  obtain ⟨S, hS⟩ : ∃ S, S = Fr.sumOf H p.data.toList := ⟨_, rfl⟩
  have hSl : S.length = 4 := by rw [hS, Fr.length_sumOf]
  have HN := Lib.hid hN
  have HH := Lib.hid hH
  have HS := Lib.hid hS
  have HHL := Lib.hid hHl
  have HSL := Lib.hid hSl
  have HB := Lib.hid (Below.refl w.heap.size w)
  have HPL := Lib.hid (size_toList p)
  clear hN hH hS hHl hSl
  go_enter Tryz.func86, Tryz.ntmps86
  go_wp2_with (first | (go_at_call 101; refine (headOf_ok e n p.size he hn hp _).mono ?_; rintro r wa ⟨rfl, hb⟩; rw [← HH.out]; replace HB := Lib.hid (HB.out.trans (hb.mono HB.out.size)); have HG := Lib.hid HB.out.size; clear hb) | (go_at_call 102; refine (whole_any p.size (by omega) _).mono ?_; rintro r w' ⟨rfl, rfl⟩; rw [← HN.out]) | (refine wpList_make_zb rfl _ _ rfl N (by omega) rfl rfl ?_; intro w2 hh hb hs; have hh2 := split_0 (by omega) hh.out; have c0 := cell_of_list hh2 0; have f0 := free_of_list hh2 0; simp only [List.getElem?_cons_zero] at c0; have HH2 := Lib.hid hh2; replace HB := Lib.hid (HB.out.trans (hb.out.mono HB.out.size)); clear hh hh2 hb; go_frame) | (refine wpList_copy_part rfl (.tmp 29) (.tmp 30) 59 9 rfl 5 Tryz.underlying59 (by kernel_rfl) wa.heap.size 4 (N - 4) (N - 4) H (bs H) rfl rfl (bs_list H) (by have := HHL.out; omega) (u4.map u8v) ((Fr.zero 16).map u8v) ((Fr.zero (N - 20)).map u8v) 5 (stored_0 (by omega) HH2.out) rfl (map_zero_length _ HHL.out.symm) ?_; intro w3 h3 k3 s3; replace HB := Lib.hid (below_kept (HB.out.setCell (p := ⟨wa.heap.size, 0, none⟩) HG.out _) k3.out HG.out); have H3 := Lib.hid (next_zero (a := 4) (b := N - 24) (by omega) h3.out); clear h3 k3 c0 f0 HH2; go_frame))
  have hlt3 : wa.heap.size < w3.heap.size := lt_of_heap H3.out
  have hbh : (bs H).size ≤ 60000 := by rw [bs_size, HHL.out]; omega
  have hA : ((u4 ++ H).map u8v).length = 20 := by rw [List.length_map, List.length_append, HHL.out]; rfl
  have hBz : ((Fr.zero 4).map u8v).length = S.length := by rw [HSL.out]; exact map_zero_length 4 rfl
  have hSN : S.length ≤ N - 20 := by rw [HSL.out]; omega
  have e0 : Fr.sumOf (bs H).data.toList p.data.toList = S := by rw [bs_list, HS.out]
  have CS := Lib.hid (fun v : World => sumOf_any (bs H) p hbh hp v)
  rw [e0] at CS
  have hi1 : (20 : Int) ≤ (N : Int) := by omega
  have hi2 : ¬ N = 20 := by omega
  go_region_law (first | (go_simp; go_at_call 103; (with_reducible refine (CS.out _).mono ?_); rintro r w4 ⟨rfl, h4⟩; have H4 := Lib.hid ((h4.block _ hlt3).trans H3.out); have B4 := Lib.hid (HB.out.drew.trans (h4.mono HB.out.size)); clear h4) | (refine step_copy_part rfl (.tmp 33) (.tmp 36) 59 9 rfl 5 Tryz.underlying59 (by kernel_rfl) wa.heap.size 20 (N - 20) (N - 20) S (bs S) rfl rfl (bs_list S) hSN _ _ _ 5 H4.out hA hBz (some 37) rfl ?_; intro w5 h5 k5 s5))
  all_goals
    have hB5 := Lib.hid (below_kept B4.out k5.out HG.out)
    have hh5 := next_zero (a := p.size) (b := N - 24 - p.size) (by omega) h5.out
    have hA6 : ((u4 ++ H ++ S).map u8v).length = 24 := by rw [List.length_map, List.length_append, List.length_append, HHL.out, HSL.out]; rfl
    have hB6 : ((Fr.zero p.size).map u8v).length = p.data.toList.length := map_zero_length _ HPL.out.symm
    have hSN6 : p.data.toList.length ≤ N - 24 := by rw [HPL.out]; omega
    have H5 := Lib.hid hh5
    have hl6 : (u4 ++ H ++ S ++ p.data.toList ++ Fr.zero (N - 24 - p.size)).length = N := by
      rw [List.length_append, List.length_append, List.length_append, List.length_append, HHL.out, HSL.out, HPL.out, Fr.length_zero, show u4.length = 4 from rfl]; omega
    have HL6 := Lib.hid hl6
    have hi3 : ¬ N = 24 := by omega
    clear h5 k5 hh5 hl6 hi1 hi2 hA hBz hSN hlt3 HB H3 H4
    go_wp2_with (first | (refine wpList_copy_part rfl (.tmp 39) (.tmp 40) 59 9 rfl 5 Tryz.underlying59 (by kernel_rfl) wa.heap.size 24 (N - 24) (N - 24) p.data.toList p rfl rfl rfl hSN6 _ _ _ 5 H5.out hA6 hB6 ?_; intro w6 h6 k6 s6; have hB6' := Lib.hid (below_kept hB5.out k6.out HG.out); have R6 := Lib.hid (last_row h6.out); clear h6 k6; go_frame) | (refine wpList_bytes_string rfl 59 9 (.tmp 42) rfl 5 wa.heap.size 0 N N rfl _ HL6.out Tryz.underlying59 Tryz.underlying5 Tryz.underlying9 R6.out ?_; rw [bs_eq]; go_frame))
    go_ret2
    refine ⟨?_, hB6'.out⟩
    have er : Fr.record e n p.data.toList = u4 ++ H ++ S ++ p.data.toList ++ Fr.zero (N - 24 - p.size) := by
      rw [HS.out, HH.out, HN.out, ← HPL.out]; rfl
    have e' : bs (Fr.record e n p.data.toList) = ⟨(u4 ++ H ++ S ++ p.data.toList ++ Fr.zero (N - 24 - p.size)).toArray⟩ := by rw [er, bs_eq]
    rw [e']
    rfl
theorem Pack_bad (e n : Int) (p : ByteArray) (h : BadHead e n p.size) (w : World) :
    Calls Tryz.prog 86 #[.int .i64 e, .int .i64 n, .string p] w (Refused 1 0 (fun v => .tuple #[.string ⟨#[]⟩, v]) w) := by
  have H := Lib.hid h
  clear h
  go_enter Tryz.func86, Tryz.ntmps86
  go_wp2_with (go_at_call 101; refine (headOf_bad e n p.size H.out _).mono ?_; rintro r wa ⟨g, hg, rfl, hf, hb⟩; have HF := Lib.hid hf; have HB := Lib.hid hb; clear hf hb)
  go_ret2
  exact ⟨g, hg, rfl, HF.out, HB.out⟩
end Go.Proofs.YtbljhodnpddpiaaGreatDoor
