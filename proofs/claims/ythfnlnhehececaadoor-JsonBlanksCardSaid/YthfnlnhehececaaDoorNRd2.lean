/- The program's small readers, on: the next byte; whether one of some bytes stands at a place; blanks. -/
import Derived.Test.YthfnlnhehececaaDoorNRd
namespace Go.Proofs.YthfnlnhehececaaDoor
open Go.RowKit

theorem Kept.drewN {B : Nat} {ws : List Nat} {a w : World} (h : Kept B ws a w) (n : Nat) : Kept B ws a (w.drewN n) := ⟨h.os, h.tape, h.output, h.size, h.block⟩
attribute [local go_sem high] run_index_byte
set_option maxHeartbeats 1000000 in
theorem next_hit (S r : List UInt8) (hS : S.length ≤ 140737488355328) (c : UInt8) (b p d : Nat) (w : World) (hr : Rd w b (bs S) p d) (hl : Here S p (c :: r)) :
    Calls Tryd.prog 100 #[.pointer (some ⟨b, 0, none⟩)] w fun e w' => e = .returned (.int .u8 c.toNat) ∧ Rd w' b (bs S) (p + 1) d ∧ Kept w.heap.size [b] w w' := by
  have c0 := hr.c0
  have c1 := hr.c1
  have f1 := hr.f 1
  have R1 := Lib.hid (hr.set1 (p + 1))
  have hss : (bs S).size = S.length := bs_size S
  have hlt := hl.lt
  have hk : ¬ p = S.length := by omega
  have hk' : ((p : Int) == ((S.length : Nat) : Int)) = false := by simp; omega
  have hb := hl.byte
  have RI : ∀ v : World, (Instr.index 9 (.string (bs S)) (.int .i64 (p : Int))).run Tryd.prog v = .ok (.int .u8 (c.toNat : Int)) v := fun v => by rw [← hb]; exact run_index_byte v _ _ _ p Tryd.underlying9 (by rw [hss]; exact hlt)
  generalize bs S = s at *
  clear hb
  go_enter Tryd.func100, Tryd.ntmps100
  go_wp2_with fail
  go_quiet (fail)
  go_wp2_with fail
  go_quiet (fail)
  go_wp2_with fail
  go_ret
  exact ⟨rfl, R1.out, (((Kept.refl _ _ w).drewN _).setCell (Or.inl (by simp)) _).drewN _⟩
set_option maxHeartbeats 1000000 in
theorem next_end (S : List UInt8) (b p d : Nat) (w : World) (hr : Rd w b (bs S) p d) (hl : Here S p []) :
    Calls Tryd.prog 100 #[.pointer (some ⟨b, 0, none⟩)] w fun e w' => e = .panicked (rfc 54 p) ∧ Below w.heap.size w w' := by
  have c0 := hr.c0
  have c1 := hr.c1
  have hss : (bs S).size = S.length := bs_size S
  have hlt := hl.le
  have hk : p = S.length := by simpa using hlt
  have hk' : ((p : Int) == ((S.length : Nat) : Int)) = true := by simp; omega
  generalize bs S = s at *
  go_enter Tryd.func100, Tryd.ntmps100
  go_wp2_with fail
  go_quiet (fail)
  go_wp2_with fail
  exact ⟨rfl, by rw [hk]; rfl, below_drewN (Below.refl _ _) _⟩

/-- Whether one of some bytes stands here. -/
def inO (T : List UInt8) : Option UInt8 → Bool
  | none => false
  | some c => decide (0 ≤ Lib.indexByte T c)
theorem indexByte_s (t : ByteArray) (c : UInt8) (w : World) : Calls Tryd.prog 78 #[.string t, .int .u8 c.toNat] w fun e w' => e = .returned (.int .i64 (Lib.indexByte t.data.toList c)) ∧ w' = w := by
  have h := k_strings_IndexByte t c.toNat w
  rw [Int.toNat_natCast, show c.toNat.toUInt8 = c from UInt8.ofNat_toNat] at h
  exact h
set_option maxHeartbeats 1000000 in
theorem isAt_any (t : ByteArray) (S l : List UInt8) (p : Nat) (w : World) (hl : Here S p l) :
    Calls Tryd.prog 58 #[.string t, .string (bs S), .int .i64 p] w fun e w' => e = .returned (.bool (inO t.data.toList l.head?)) ∧ w' = w := by
  have hss : (bs S).size = S.length := bs_size S
  cases l with
  | nil =>
    have hlt := hl.le
    have hk : p = S.length := by simpa using hlt
    have hk1 : ¬ p < S.length := by omega
    have hk' : decide (p < S.length) = false := decide_eq_false hk1
    generalize bs S = s at *
    clear hk
    go_enter Tryd.func58, Tryd.ntmps58
    go_wp2_with fail
    go_ret
    exact ⟨rfl, rfl⟩
  | cons c r =>
    have hlt := hl.lt
    have hk' : decide (p < S.length) = true := decide_eq_true hlt
    have hb := hl.byte
    have RI : ∀ v : World, (Instr.index 9 (.string (bs S)) (.int .i64 (p : Int))).run Tryd.prog v = .ok (.int .u8 (c.toNat : Int)) v := fun v => by rw [← hb]; exact run_index_byte v _ _ _ p Tryd.underlying9 (by rw [hss]; exact hlt)
    have C := Lib.hid (fun v : World => indexByte_s t c v)
    have e : inO t.data.toList (c :: r).head? = decide (0 ≤ Lib.indexByte t.data.toList c) := rfl
    rw [e]
    clear e hb
    generalize Lib.indexByte t.data.toList c = k at *
    generalize bs S = s at *
    go_enter Tryd.func58, Tryd.ntmps58
    go_wp2_with (go_at_call 78; refine (C.out _).mono ?_; rintro e w1 ⟨rfl, rfl⟩)
    go_ret
    exact ⟨rfl, rfl⟩
theorem inO_ws : ∀ n < 256, inO [32, 9, 10, 13] (some (UInt8.ofNat n)) = Js.isWs (UInt8.ofNat n) := by decide +kernel
theorem inO_isWs (c : UInt8) : inO [32, 9, 10, 13] (some c) = Js.isWs c := by
  have := inO_ws c.toNat c.toNat_lt
  rwa [UInt8.ofNat_toNat] at this
theorem inO_one (x c : UInt8) : inO [x] (some c) = (c == x) := by
  unfold inO
  by_cases e : c = x
  · subst e; simp [Lib.indexByte]
  · have e' : ¬ x = c := fun h => e h.symm
    simp [Lib.indexByte, e, e']
set_option maxHeartbeats 1000000 in
theorem skipBlanks_any (S l : List UInt8) (hS : S.length ≤ 140737488355328) (b p d : Nat) (w : World) (hr : Rd w b (bs S) p d) (hl : Here S p l) :
    Calls Tryd.prog 38 #[.pointer (some ⟨b, 0, none⟩)] w fun e w' => e = .returned (.tuple #[]) ∧ Rd w' b (bs S) (S.length - (Js.ws l).length) d ∧ Kept w.heap.size [b] w w' := by
  have HA := Lib.hid (fun q m (v : World) (hm : Here S q m) => isAt_any ⟨#[32, 9, 10, 13]⟩ S m q v hm)
  have HE := Lib.hid (rfl : bs S = bs S)
  obtain ⟨R, hR⟩ : ∃ R, R = Js.ws l := ⟨_, rfl⟩
  rw [← hR]
  have HR0 := Lib.hid hr
  have HL0 := Lib.hid hl
  have HW0 := Lib.hid hR
  clear hr hl hR
  generalize bs S = s at *
  go_enter Tryd.func38, Tryd.ntmps38
  go_wp2_with fail
  go_loopg [] l.length (fun g wr => ∃ (m : List UInt8) (q : Nat), m.length ≤ g ∧ Hid (R = Js.ws m) ∧ Hid (Here S q m) ∧ Hid (Rd wr b s q d) ∧ Hid (Kept w.heap.size [b] w wr))
  case atStart => exact ⟨l, p, Nat.le_refl _, HW0, HL0, HR0, Lib.hid (Kept.refl _ _ _)⟩
  case round =>
    clear HW0 HL0 HR0
    obtain ⟨m, q, hg, hw, hh, hrd, hk⟩ := hrel
    have c0 := hrd.out.c0
    have c1 := hrd.out.c1
    have f1 := hrd.out.f 1
    have C := Lib.hid (fun v => HA.out q m v hh.out)
    cases m with
    | nil =>
      rw [show inO (⟨#[32, 9, 10, 13]⟩ : ByteArray).data.toList ([] : List UInt8).head? = false from rfl] at C
      go_wp2_with fail
      go_quiet (first | (go_at_call 58; with_reducible exact Calls.quiet_of_same (C.out _)))
      go_wp2_with fail
      go_end0
      refine ⟨rfl, ?_, hk.out.drewN _⟩
      rw [hw.out, Js.ws, hh.out.at_]
      exact hrd.out
    | cons c r =>
      have e : inO (⟨#[32, 9, 10, 13]⟩ : ByteArray).data.toList (c :: r).head? = Js.isWs c := inO_isWs c
      rw [e] at C
      clear e
      have hw2 := hw.out
      rw [Js.ws] at hw2
      cases hc : Js.isWs c with
      | true =>
        rw [hc] at C hw2
        simp only [if_true] at hw2
        have HW2 := Lib.hid hw2
        clear hw2 hc
        have hlt := hh.out.lt
        go_wp2_with fail
        go_quiet (first | (go_at_call 58; with_reducible exact Calls.quiet_of_same (C.out _)))
        go_wp2_with fail
        simp only [List.length_cons] at hg
        go_roundg r.length
        case rel => exact ⟨r, q + 1, Nat.le_refl _, HW2, Lib.hid hh.out.tail, Lib.hid (hrd.out.set1 (q + 1)), Lib.hid ((hk.out.drewN _).setCell (Or.inl (by simp)) _)⟩
        case measure => omega
      | false =>
        rw [hc] at C hw2
        simp only [Bool.false_eq_true, if_false] at hw2
        have HW2 := Lib.hid hw2
        clear hw2 hc
        go_wp2_with fail
        go_quiet (first | (go_at_call 58; with_reducible exact Calls.quiet_of_same (C.out _)))
        go_wp2_with fail
        go_end0
        refine ⟨rfl, ?_, hk.out.drewN _⟩
        rw [HW2.out, hh.out.at_]
        exact hrd.out
end Go.Proofs.YthfnlnhehececaaDoor
