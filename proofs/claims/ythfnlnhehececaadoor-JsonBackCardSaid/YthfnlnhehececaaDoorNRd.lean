/- A reader that lies in a block; the program's small readers: a byte that stands here, that must stand here, that is skipped. -/
import Derived.Test.YthfnlnhehececaaDoorNSuf
import Derived.Test.YthfnlnhehececaaDoorNShelf
import Derived.BigQuiet
namespace Go.Proofs.YthfnlnhehececaaDoor
open Go.RowKit

/-- A reader in a block: its text, its place, how deep it is. -/
def Rd (w : World) (b : Nat) (s : ByteArray) (p d : Nat) : Prop := w.heap[b]? = some (.cells [Value.string s, .int .i64 p, .int .i64 d].toArray 73 (0, 0))
theorem Rd.lt {w : World} {b p d : Nat} {s : ByteArray} (h : Rd w b s p d) : b < w.heap.size := lt_of_heap h
theorem Rd.c0 {w : World} {b p d : Nat} {s : ByteArray} (h : Rd w b s p d) : w.cell? ⟨b, 0, none⟩ = some (.string s) := by rw [cell_of_list h]; rfl
theorem Rd.c1 {w : World} {b p d : Nat} {s : ByteArray} (h : Rd w b s p d) : w.cell? ⟨b, 1, none⟩ = some (.int .i64 p) := by rw [cell_of_list h]; rfl
theorem Rd.c2 {w : World} {b p d : Nat} {s : ByteArray} (h : Rd w b s p d) : w.cell? ⟨b, 2, none⟩ = some (.int .i64 d) := by rw [cell_of_list h]; rfl
theorem Rd.f {w : World} {b p d : Nat} {s : ByteArray} (h : Rd w b s p d) (j : Nat) : w.frozen? ⟨b, j, none⟩ = false := free_of_list h j
theorem Rd.set1 {w : World} {b p d : Nat} {s : ByteArray} (h : Rd w b s p d) (q : Nat) : Rd (w.setCell ⟨b, 1, none⟩ (.int .i64 q)) b s q d := set_list h 1 _
theorem Rd.set2 {w : World} {b p d : Nat} {s : ByteArray} (h : Rd w b s p d) (q : Nat) : Rd (w.setCell ⟨b, 2, none⟩ (.int .i64 q)) b s p q := set_list h 2 _
theorem Rd.below {w w' : World} {b p d : Nat} {s : ByteArray} (h : Rd w b s p d) (k : Below w.heap.size w w') : Rd w' b s p d := (k.block b h.lt).trans h
theorem Rd.keep {w w' : World} {B b p d : Nat} {s : ByteArray} {ws : List Nat} (h : Rd w b s p d) (k : Kept B ws w w') (hB : b < B) (hn : b ∉ ws) : Rd w' b s p d := (k.block b hB hn).trans h
theorem kset {w : World} (b j : Nat) (v : Value) : Kept w.heap.size [b] w (w.setCell ⟨b, j, none⟩ v) := (Kept.refl _ _ w).setCell (Or.inl (by simp)) v
/-- What is thrown. -/
def refV (c p : Nat) : Value := .iface 51 (.agg #[.int .i64 c, .int .i64 p])
def rfc (c p : Nat) : List PanicEntry := [{ v := refV c p, recovered := false }]
/-- What stands in a reader's way from a place on. -/
structure Here (S : List UInt8) (p : Nat) (l : List UInt8) : Prop where
  eq : S.drop p = l
  le : p + l.length = S.length
theorem Here.of {S r : List UInt8} (h : r <:+ S) : Here S (S.length - r.length) r := by
  have := Js.suf_at h
  exact ⟨this.2, by omega⟩
theorem Here.tail {S r : List UInt8} {p : Nat} {c : UInt8} (h : Here S p (c :: r)) : Here S (p + 1) r := by
  constructor
  · rw [← List.drop_drop, h.eq]; rfl
  · have := h.le; simp only [List.length_cons] at this; omega
theorem Here.suf {S l : List UInt8} {p : Nat} (h : Here S p l) : l <:+ S := by rw [← h.eq]; exact List.drop_suffix _ _
theorem Here.at_ {S l : List UInt8} {p : Nat} (h : Here S p l) : S.length - l.length = p := by have := h.le; omega
theorem Here.byte {S r : List UInt8} {p : Nat} {c : UInt8} (h : Here S p (c :: r)) : strAt (bs S) p = c := by
  rw [strAt_eq, bs_list]
  have := h.eq
  rw [List.getD, ← List.head?_drop, this]
  rfl
theorem Here.lt {S r : List UInt8} {p : Nat} {c : UInt8} (h : Here S p (c :: r)) : p < S.length := by have := h.le; simp only [List.length_cons] at this; omega
theorem Here.drop {S l : List UInt8} {p : Nat} (h : Here S p l) (n : Nat) (hn : n ≤ l.length) : Here S (p + n) (l.drop n) := by
  constructor
  · rw [← List.drop_drop, h.eq]
  · have := h.le; rw [List.length_drop]; omega
theorem Here.sufTo {S l r : List UInt8} {p : Nat} (h : Here S p l) (k : r <:+ l) : Here S (S.length - r.length) r := Here.of (k.trans h.suf)
attribute [local go_sem high] run_index_byte
set_option maxHeartbeats 1000000 in
theorem has_any (S l : List UInt8) (c : UInt8) (b p d : Nat) (w : World) (hr : Rd w b (bs S) p d) (hl : Here S p l) :
    Calls Tryd.prog 59 #[.pointer (some ⟨b, 0, none⟩), .int .u8 c.toNat] w fun e w' => e = .returned (.bool (decide (l.head? = some c))) ∧ Below w.heap.size w w' := by
  have c0 := hr.c0
  have c1 := hr.c1
  have hss : (bs S).size = S.length := bs_size S
  have hp := hl.le
  cases l with
  | nil =>
    have hk : ¬ p < S.length := by simp at hp; omega
    have hk' : decide (p < S.length) = false := decide_eq_false hk
    generalize bs S = s at *
    go_enter Tryd.func59, Tryd.ntmps59
    go_wp2_with fail
    go_quiet (fail)
    go_wp2_with fail
    go_ret
    exact ⟨rfl, below_drewN (Below.refl _ _) _⟩
  | cons a r =>
    have hb := hl.byte
    have hlt : p < (bs S).size := by rw [hss]; exact hl.lt
    have RI : ∀ v : World, (Instr.index 9 (.string (bs S)) (.int .i64 (p : Int))).run Tryd.prog v = .ok (.int .u8 (a.toNat : Int)) v := fun v => by rw [← hb]; exact run_index_byte v _ _ _ p Tryd.underlying9 hlt
    have hk : p < S.length := hl.lt
    have hk' : decide (p < S.length) = true := decide_eq_true hk
    have hq : ((a.toNat : Int) == (c.toNat : Int)) = decide ((a :: r).head? = some c) := by
      rw [Bool.eq_iff_iff, beq_iff_eq, decide_eq_true_eq, List.head?_cons, Option.some.injEq, ← UInt8.toNat_inj]
      omega
    generalize decide ((a :: r).head? = some c) = q at *
    clear hb hp hlt
    generalize bs S = s at *
    go_enter Tryd.func59, Tryd.ntmps59
    go_wp2_with fail
    go_quiet (fail)
    go_wp2_with fail
    go_ret
    exact ⟨rfl, below_drewN (Below.refl _ _) _⟩
theorem ret_tt {w : World} {b : Nat} {s : ByteArray} {p d : Nat} {w' : World} (h : Rd w' b s p d) (k : Kept w.heap.size [b] w w') : (Ending.returned (.bool true) = .returned (.bool true)) ∧ Rd w' b s p d ∧ Kept w.heap.size [b] w w' := ⟨rfl, h, k⟩
set_option maxHeartbeats 1000000 in
theorem takes_hit (S r : List UInt8) (hS : S.length ≤ 140737488355328) (c : UInt8) (b p d : Nat) (w : World) (hr : Rd w b (bs S) p d) (hl : Here S p (c :: r)) :
    Calls Tryd.prog 80 #[.pointer (some ⟨b, 0, none⟩), .int .u8 c.toNat] w fun e w' => e = .returned (.bool true) ∧ Rd w' b (bs S) (p + 1) d ∧ Kept w.heap.size [b] w w' := by
  have H := Lib.hid (fun v hv => has_any S _ c b p d v hv hl)
  have HR := Lib.hid hr
  have hlt := hl.lt
  rw [show decide ((c :: r).head? = some c) = true by simp] at H
  generalize bs S = s at *
  clear hl hr
  go_enter Tryd.func80, Tryd.ntmps80
  go_wp2_with (go_at_call 59; refine (H.out _ HR.out).mono ?_; rintro e w1 ⟨rfl, hb1⟩; have R1 := HR.out.below hb1; have B1 := Lib.hid hb1; clear hb1; have c1 := R1.c1; have f1 := R1.f 1)
  go_ret
  exact ⟨rfl, R1.set1 (p + 1), (Kept.of_below B1.out).trans ((kset b 1 _).mono B1.out.size (fun _ _ h => h))⟩
set_option maxHeartbeats 1000000 in
theorem takes_miss (S l : List UInt8) (c : UInt8) (b p d : Nat) (w : World) (hr : Rd w b (bs S) p d) (hl : Here S p l) (hc : l.head? ≠ some c) :
    Calls Tryd.prog 80 #[.pointer (some ⟨b, 0, none⟩), .int .u8 c.toNat] w fun e w' => e = .returned (.bool false) ∧ Below w.heap.size w w' := by
  have H := Lib.hid (fun v hv => has_any S _ c b p d v hv hl)
  have HR := Lib.hid hr
  rw [show decide (l.head? = some c) = false by simp [hc]] at H
  generalize bs S = s at *
  clear hl hr hc
  go_enter Tryd.func80, Tryd.ntmps80
  go_wp2_with (go_at_call 59; refine (H.out _ HR.out).mono ?_; rintro e w1 ⟨rfl, hb1⟩)
  go_ret
  exact ⟨rfl, hb1⟩
set_option maxHeartbeats 1000000 in
theorem take_hit (S r : List UInt8) (hS : S.length ≤ 140737488355328) (c : UInt8) (b p d : Nat) (w : World) (hr : Rd w b (bs S) p d) (hl : Here S p (c :: r)) :
    Calls Tryd.prog 79 #[.pointer (some ⟨b, 0, none⟩), .int .u8 c.toNat] w fun e w' => e = .returned (.tuple #[]) ∧ Rd w' b (bs S) (p + 1) d ∧ Kept w.heap.size [b] w w' := by
  have H := Lib.hid (fun v hv => takes_hit S r hS c b p d v hv hl)
  have HR := Lib.hid hr
  generalize bs S = s at *
  clear hl hr hS
  go_enter Tryd.func79, Tryd.ntmps79
  go_wp2_with (go_at_call 80; refine (H.out _ HR.out).mono ?_; rintro e w1 ⟨rfl, hr1, hk1⟩)
  go_end0
  exact ⟨rfl, hr1, hk1⟩
set_option maxHeartbeats 1000000 in
theorem take_miss (S l : List UInt8) (c : UInt8) (b p d : Nat) (w : World) (hr : Rd w b (bs S) p d) (hl : Here S p l) (hc : l.head? ≠ some c) :
    Calls Tryd.prog 79 #[.pointer (some ⟨b, 0, none⟩), .int .u8 c.toNat] w fun e w' => e = .panicked (rfc 54 p) ∧ Below w.heap.size w w' := by
  have H := Lib.hid (fun v hv => takes_miss S l c b p d v hv hl hc)
  have HR := Lib.hid hr
  generalize bs S = s at *
  clear hl hr hc
  go_enter Tryd.func79, Tryd.ntmps79
  go_wp2_with (go_at_call 80; refine (H.out _ HR.out).mono ?_; rintro e w1 ⟨rfl, hb1⟩; have R1 := HR.out.below hb1; have B1 := Lib.hid hb1; clear hb1; have c1 := R1.c1)
  exact ⟨rfl, rfl, B1.out⟩
end Go.Proofs.YthfnlnhehececaaDoor
