/- What acts do to a disk, one behind the other, till its power goes. -/
import Derived.Test.YtmobjpandmdmdaaGreatDoorJFail
import Derived.Test.YtmobjpandmdmdaaGreatDoorJShelf
namespace Go.Proofs.YtmobjpandmdmdaaGreatDoor
open Go.RowKit

/-- What a disk and its power have come to. -/
structure St where
  S : List (List UInt8)
  ps : List Dk.Wr
  fuse : Int
  acts : Int
/-- An act: a write, or a flush. -/
inductive Do where
  | put (a : Nat) (s : List UInt8)
  | flush
def St.did (st : St) : Do → St
  | .put a s => ⟨st.S, st.ps ++ [(a, s)], less st.fuse, st.acts + 1⟩
  | .flush => ⟨Dk.settleTo st.S st.ps (fun _ => 64) st.ps.length, [], less st.fuse, st.acts + 1⟩
/-- One act more, if there is power: it goes where the fuse is at its end. -/
def does (x : St × Bool) (o : Do) : St × Bool := if x.2 then (if x.1.fuse = 0 then (x.1, false) else (x.1.did o, true)) else x
def doAll (x : St × Bool) (os : List Do) : St × Bool := os.foldl does x
theorem doAll_nil (x : St × Bool) : doAll x [] = x := rfl
theorem doAll_cons (x : St × Bool) (o : Do) (os : List Do) : doAll x (o :: os) = doAll (does x o) os := rfl
theorem doAll_append (x : St × Bool) (a b : List Do) : doAll x (a ++ b) = doAll (doAll x a) b := List.foldl_append
theorem does_off (st : St) (o : Do) : does (st, false) o = (st, false) := rfl
theorem does_cut {st : St} (h : st.fuse = 0) (o : Do) : does (st, true) o = (st, false) := by simp [does, h]
theorem does_on {st : St} (h : st.fuse ≠ 0) (o : Do) : does (st, true) o = (st.did o, true) := by simp [does, h]
theorem doAll_off (st : St) (os : List Do) : doAll (st, false) os = (st, false) := by
  induction os with
  | nil => rfl
  | cons o os ih => rw [doAll_cons, does_off, ih]
/-- The writes of some sectors, one behind the other. -/
def puts (a : Nat) : List (List UInt8) → List Do
  | [] => []
  | s :: ss => .put a s :: puts (a + 1) ss
theorem puts_nil (a : Nat) : puts a [] = [] := rfl
theorem puts_append (a : Nat) (x y : List (List UInt8)) : puts a (x ++ y) = puts a x ++ puts (a + x.length) y := by
  induction x generalizing a with
  | nil => simp [puts]
  | cons s x ih => simp [puts, ih, Nat.add_assoc, Nat.add_comm 1]
theorem length_puts (a : Nat) (x : List (List UInt8)) : (puts a x).length = x.length := by
  induction x generalizing a with
  | nil => rfl
  | cons s x ih => simp [puts, ih]
theorem puts_take {a k : Nat} {ss : List (List UInt8)} (h : k < ss.length) : puts a (ss.take (k + 1)) = puts a (ss.take k) ++ [.put (a + k) (ss.getD k [])] := by
  rw [List.take_succ_eq_append_getElem h, puts_append, List.length_take, Nat.min_eq_left (by omega), List.getD, List.getElem?_eq_getElem h]; rfl
/-- There is room for so many acts more. -/
structure St.Fit (st : St) (m : Nat) : Prop where
  f1 : -1 ≤ st.fuse
  f2 : st.fuse ≤ 9223372036854775807
  a0 : 0 ≤ st.acts
  a1 : st.acts + m ≤ 1000000000000
  few : st.ps.length + m ≤ 1000000
theorem St.Fit.less {st : St} {m : Nat} (h : st.Fit m) {k : Nat} (hk : k ≤ m) : st.Fit k := ⟨h.f1, h.f2, h.a0, by have := h.a1; omega, by have := h.few; omega⟩
theorem less_low {f : Int} (h : -1 ≤ f) : -1 ≤ less f := by unfold Go.Proofs.YtmobjpandmdmdaaGreatDoor.less; split <;> omega
theorem less_high {f : Int} (h : f ≤ 9223372036854775807) : less f ≤ 9223372036854775807 := by unfold Go.Proofs.YtmobjpandmdmdaaGreatDoor.less; split <;> omega
theorem St.Fit.did {st : St} {m : Nat} (h : st.Fit (m + 1)) (o : Do) : (st.did o).Fit m := by
  have h1 := h.a1; have h2 := h.few; have h0 := h.a0
  cases o with
  | put a s => exact ⟨less_low h.f1, less_high h.f2, by show 0 ≤ st.acts + 1; omega, by show st.acts + 1 + m ≤ _; omega, by show (st.ps ++ [(a, s)]).length + m ≤ _; rw [List.length_append, List.length_singleton]; omega⟩
  | flush => exact ⟨less_low h.f1, less_high h.f2, by show 0 ≤ st.acts + 1; omega, by show st.acts + 1 + m ≤ _; omega, by show 0 + m ≤ _; omega⟩
theorem St.Fit.does {st : St} {m : Nat} (h : st.Fit (m + 1)) (ok : Bool) (o : Do) : (does (st, ok) o).1.Fit m := by
  cases ok with
  | false => rw [does_off]; exact h.less (by omega)
  | true =>
    by_cases h0 : st.fuse = 0
    · rw [does_cut h0]; exact h.less (by omega)
    · rw [does_on h0]; exact h.did o
theorem St.Fit.doAll {m : Nat} (os : List Do) : ∀ {st : St} (_ : st.Fit (m + os.length)) (ok : Bool), (doAll (st, ok) os).1.Fit m := by
  induction os with
  | nil => intro st h ok; exact h
  | cons o os ih =>
    intro st h ok
    rw [doAll_cons]
    have := h.does (m := m + os.length) ok o
    exact ih this _
/-- What is read of some sectors. -/
def rd (S : List (List UInt8)) (ps : List Dk.Wr) (a k : Nat) : List UInt8 := ((List.range k).map fun i => Dk.readAt S ps (a + i)).flatten
theorem rd_zero (S : List (List UInt8)) (ps : List Dk.Wr) (a : Nat) : rd S ps a 0 = [] := rfl
theorem rd_succ (S : List (List UInt8)) (ps : List Dk.Wr) (a k : Nat) : rd S ps a (k + 1) = rd S ps a k ++ Dk.readAt S ps (a + k) := by
  simp [rd, List.range_succ]
theorem rd_one (S : List (List UInt8)) (ps : List Dk.Wr) (a : Nat) : rd S ps a 1 = Dk.readAt S ps a := by rw [rd_succ, rd_zero]; rfl
attribute [irreducible] rd
end Go.Proofs.YtmobjpandmdmdaaGreatDoor
