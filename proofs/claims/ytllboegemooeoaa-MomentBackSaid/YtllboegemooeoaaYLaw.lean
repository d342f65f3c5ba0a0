/- The walks of the five laws. -/
import Derived.Test.YtllboegemooeoaaYLex
namespace Go.Proofs.Ytllboegemooeoaa
open Go.RowKit

theorem bthen {w0 w1 w2 : World} (h : Below w0.heap.size w0 w1) (k : Below w1.heap.size w1 w2) : Below w0.heap.size w0 w2 := h.trans (k.mono h.size)
set_option maxRecDepth 100000 in
set_option maxHeartbeats 1000000 in
theorem Days_true (y m d : Int) (w : World) : Calls Try.prog 7 #[.int .i64 y, .int .i64 m, .int .i64 d] w fun e w' => e = .returned (.bool true) ∧ Below w.heap.size w w' := by
  have X := Lib.hid examples_true
  rcases date_or y m d with hb | ⟨n, Y, M, K, rfl, rfl, rfl, hd⟩
  · have C1 := Lib.hid (fun v : World => From_no y m d hb v)
    have C2 := Lib.hid (fun v : World => qFrom_no y m d hb v)
    clear hb
    go_enter Try.func7, Try.ntmps7
    go_wp2_with (first | (go_at_call 8; refine (X.out _).mono ?_; rintro e w1 ⟨rfl, hb1⟩) | (go_at_call 16; refine (C1.out _).mono ?_; rintro e w' ⟨rfl, rfl⟩) | (go_at_call 25; refine (C2.out _).mono ?_; rintro e w' ⟨rfl, rfl⟩))
    go_ret
    exact ⟨rfl, hb1⟩
  · have C1 := Lib.hid (fun v : World => From_ok n Y M K hd v)
    have C2 := Lib.hid (fun v : World => qFrom_ok n Y M K hd v)
    clear hd
    generalize n * 86400 = T at *
    go_enter Try.func7, Try.ntmps7
    go_wp2_with (first | (go_at_call 8; refine (X.out _).mono ?_; rintro e w1 ⟨rfl, hb1⟩) | (go_at_call 16; refine (C1.out _).mono ?_; rintro e w' ⟨rfl, rfl⟩) | (go_at_call 25; refine (C2.out _).mono ?_; rintro e w' ⟨rfl, rfl⟩))
    go_ret
    exact ⟨rfl, hb1⟩
theorem Is_yes (t : Nat) (ht : t < 253402300800) (w : World) : Calls Try.prog 17 #[.int .i64 t] w fun e w' => e = .returned (.bool true) ∧ w = w' := by
  go_enter Try.func17, Try.ntmps17
  go_wp2
  go_ret
  exact ⟨ret_bool (by simp; omega), rfl⟩
theorem Is_no (t : Int) (ht : t < 0 ∨ 253402300799 < t) (w : World) : Calls Try.prog 17 #[.int .i64 t] w fun e w' => e = .returned (.bool false) ∧ w = w' := by
  by_cases h : t < 0
  · go_enter Try.func17, Try.ntmps17
    go_wp2_with fail
    go_ret
    exact ⟨rfl, rfl⟩
  · have h2 : 253402300799 < t := by omega
    clear ht
    go_enter Try.func17, Try.ntmps17
    go_wp2_with fail
    go_ret
    exact ⟨ret_bool (by simp; omega), rfl⟩
set_option maxRecDepth 100000 in
set_option maxHeartbeats 1000000 in
theorem Tells_no (t : Int) (ht : t < 0 ∨ 253402300799 < t) (w : World) : Calls Try.prog 5 #[.int .i64 t] w fun e w' => e = .returned (.bool true) ∧ Below w.heap.size w w' := by
  have X := Lib.hid examples_true
  have C1 := Lib.hid (fun v : World => Stamp_no t ht v)
  have C2 := Lib.hid (fun v : World => Long_no t ht v)
  have C3 := Lib.hid (fun v : World => Web_no t ht v)
  have C4 := Lib.hid (fun v : World => Date_no t ht v)
  have C5 := Lib.hid (fun v : World => Is_no t ht v)
  have a1 : ∀ v : World, (Op.stringOp .add (bs []) (bs [])).run Try.prog v = .ok (.string (bs [])) v := fun v => add_bs [] [] (by simp) v
  have q := bs_is []
  clear ht
  obtain ⟨x, hx⟩ : ∃ x, x = bs [] := ⟨_, rfl⟩
  rw [← hx] at C1 C2 C3 a1 q
  clear hx
  go_enter Try.func5, Try.ntmps5
  go_wp2_with (first | (go_at_call 8; refine (X.out _).mono ?_; rintro e w1 ⟨rfl, hb1⟩) | (go_at_call 9; refine (C1.out _).mono ?_; rintro e w2 ⟨rfl, hb2⟩) | (go_at_call 10; refine (C2.out _).mono ?_; rintro e w3 ⟨rfl, hb3⟩) | (go_at_call 11; refine (C3.out _).mono ?_; rintro e w4 ⟨rfl, hb4⟩) | (go_at_call 15; refine (C4.out _).mono ?_; rintro e w' ⟨rfl, rfl⟩) | (go_at_call 17; refine (C5.out _).mono ?_; rintro e w' ⟨rfl, rfl⟩))
  go_ret
  exact ⟨rfl, bthen (bthen (bthen hb1 hb2) hb3) hb4⟩
theorem kept_block {w w' : World} {b : Nat} {o : Obj} (h : w.heap[b]? = some o) (hb : Below w.heap.size w w') : w'.heap[b]? = some o := (hb.block b (lt_of_heap h)).trans h
set_option maxRecDepth 100000 in
set_option maxHeartbeats 1000000 in
theorem Tells_yes (t : Nat) (ht : t < 253402300800) (w : World) : Calls Try.prog 5 #[.int .i64 t] w fun e w' => e = .returned (.bool true) ∧ Below w.heap.size w w' := by
  have X := Lib.hid examples_true
  have C1 := Lib.hid (fun v : World => Stamp_ok t ht v)
  have C2 := Lib.hid (fun v : World => Long_ok t ht v)
  have C3 := Lib.hid (fun v : World => Web_ok t ht v)
  have C4 := Lib.hid (fun v : World => Date_ok t ht v)
  have C5 := Lib.hid (fun v : World => Is_yes t ht v)
  have C6 := Lib.hid (fun v : World => qApart_any t ht v)
  have C7 := Lib.hid (fun v : World => qStamp_any t ht v)
  have C8 := Lib.hid (fun v : World => qLong_any t ht v)
  have C9 := Lib.hid (fun v : World => qWeb_any t ht v)
  generalize Mo.tx Mo.fS t = x1 at *
  generalize Mo.tx Mo.fL t = x2 at *
  generalize Mo.tx Mo.fW t = x3 at *
  generalize Mo.dy (t / 86400) = Y at *
  generalize Mo.dm (t / 86400) = M at *
  generalize Mo.dd (t / 86400) = d at *
  generalize (t / 86400 + 4) % 7 = a at *
  generalize t / 3600 % 24 = h at *
  generalize t / 60 % 60 = i at *
  generalize t % 60 = s at *
  clear ht
  go_enter Try.func5, Try.ntmps5
  go_wp2_with (first | (go_at_call 8; refine (X.out _).mono ?_; rintro e w1 ⟨rfl, hb1⟩) | (go_at_call 9; refine (C1.out _).mono ?_; rintro e w2 ⟨rfl, hb2⟩) | (go_at_call 10; refine (C2.out _).mono ?_; rintro e w3 ⟨rfl, hb3⟩) | (go_at_call 11; refine (C3.out _).mono ?_; rintro e w4 ⟨rfl, hb4⟩) | (go_at_call 15; refine (C4.out _).mono ?_; rintro e w5 ⟨rfl, hb5⟩) | (go_at_call 17; refine (C5.out _).mono ?_; rintro e w' ⟨rfl, rfl⟩) | (go_at_call 18; refine (C6.out _).mono ?_; rintro e w6 ⟨rfl, hb6⟩) | (go_at_call 19; refine (C7.out _).mono ?_; rintro e w7 ⟨rfl, hb7⟩; have g7 := Lib.hid (kept_block (heap_alloc_new _ _) hb7)) | (go_at_call 20; refine (C8.out _).mono ?_; rintro e w8 ⟨rfl, hb8⟩; have g8 := Lib.hid (kept_block g7.out hb8)) | (go_at_call 21; refine (C9.out _).mono ?_; rintro e w9 ⟨rfl, hb9⟩; have g9 := kept_block g8.out hb9; have k0 := cell_of_list (cs := wh Y M d a h i s) g9 0; have k1 := cell_of_list (cs := wh Y M d a h i s) g9 1; have k2 := cell_of_list (cs := wh Y M d a h i s) g9 2; simp only [wh, List.getElem?_cons_zero, List.getElem?_cons_succ] at k0 k1 k2; clear g9))
  go_ret
  exact ⟨rfl, bthen (bthen (bthen ((bthen (bthen (bthen (bthen (bthen hb1 hb2) hb3) hb4) hb5) hb6).alloc (bthen (bthen (bthen (bthen (bthen hb1 hb2) hb3) hb4) hb5) hb6).size _) hb7) hb8) hb9⟩
theorem Tells_true (t : Int) (w : World) : Calls Try.prog 5 #[.int .i64 t] w fun e w' => e = .returned (.bool true) ∧ Below w.heap.size w w' := by
  by_cases h : t < 0 ∨ 253402300799 < t
  · exact Tells_no t h w
  · obtain ⟨n, rfl⟩ : ∃ n : Nat, t = n := ⟨t.toNat, by omega⟩
    exact Tells_yes n (by omega) w
end Go.Proofs.Ytllboegemooeoaa
