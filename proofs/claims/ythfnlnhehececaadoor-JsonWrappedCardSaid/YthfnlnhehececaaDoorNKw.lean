/- The program's writer: what is in a list or an object. -/
import Derived.Test.YthfnlnhehececaaDoorNWq
import Derived.Test.YthfnlnhehececaaDoorNSame2
namespace Go.Proofs.YthfnlnhehececaaDoor
open Go Go.RowKit

namespace Js
mutual
/-- A value's text. -/
def wr : J → List UInt8
  | .mk k t ns ks =>
    if k = 1 then [110, 117, 108, 108] else if k = 2 then [102, 97, 108, 115, 101] else if k = 3 then [116, 114, 117, 101] else if k = 4 then t else if k = 5 then wq t
    else if k = 6 then 91 :: (wrL false true [] ks ++ [93]) else if k = 7 then 123 :: (wrL true true ns ks ++ [125]) else []
/-- The text of what is in a list or an object. -/
def wrL (obj fst : Bool) : List (List UInt8) → List J → List UInt8
  | _, [] => []
  | ns, j :: r => (if fst then [] else [44]) ++ ((if obj then wq (ns.headD []) ++ [58] else []) ++ (wr j ++ wrL obj false ns.tail r))
end
theorem wrL_nil (obj fst : Bool) (ns : List (List UInt8)) : wrL obj fst ns [] = [] := by rw [wrL]
theorem wrL_cons (obj fst : Bool) (ns : List (List UInt8)) (j : J) (r : List J) : wrL obj fst ns (j :: r) = (if fst then [] else [44]) ++ ((if obj then wq (ns.headD []) ++ [58] else []) ++ (wr j ++ wrL obj false ns.tail r)) := by rw [wrL]
/-- Nothing is too long, and each value in an object has its name. -/
inductive Neat : J → Prop
  | mk (k : Int) (t : List UInt8) (ns : List (List UInt8)) (ks : List J) (ht : t.length ≤ 140737488355328) (hn : ns.length ≤ 140737488355328) (hns : ∀ x ∈ ns, x.length ≤ 140737488355328) (hk : ks.length ≤ 140737488355328) (h7 : k = 7 → ns.length = ks.length) (hks : ∀ j ∈ ks, Neat j) : Neat (.mk k t ns ks)
end Js
theorem OutW.fr {lo wb : Nat} {T X : List UInt8} {w : World} {e : Ending} {w' : World} (k : OutW lo wb T X w e w') : Fr lo wb w w' := by
  unfold OutW at k
  split at k
  · exact k.2.2
  · exact k.2
theorem OutW.split {lo wb : Nat} {T X : List UInt8} {w : World} {e : Ending} {w' : World} (k : OutW lo wb T X w e w') : (T.length + X.length ≤ 8000 ∧ e = .returned (.tuple #[]) ∧ Wr w' lo wb (T ++ X)) ∨ (¬ T.length + X.length ≤ 8000 ∧ e = .panicked (rfc 56 0)) := by
  unfold OutW at k
  split at k
  · rename_i h; exact Or.inl ⟨h, k.1, k.2.1⟩
  · rename_i h; exact Or.inr ⟨h, k.1⟩
/-- What is asked of the writing of a value. -/
def ValW (j : Js.J) : Prop := ∀ (v : Value) (B lo wb : Nat) (T : List UInt8) (w : World), Js.Neat j → At w (· < B) j v → B ≤ wb → B ≤ w.heap.size → Wr w lo wb T → T.length ≤ 8000 → Calls Tryd.prog 37 #[.pointer (some ⟨wb, 0, none⟩), v] w (OutW lo wb T (Js.wr j) w)
theorem Wr.wl {w : World} {lo wb : Nat} {T : List UInt8} (h : Wr w lo wb T) : wb < lo := by obtain ⟨_, _, _, h, _⟩ := h; exact h
theorem wr_at {ks : List Js.J} {ns : List (List UInt8)} {i : Nat} {j : Js.J} (h : ks[i]? = some j) (obj fst : Bool) : Js.wrL obj fst (ns.drop i) (ks.drop i) = (if fst then [] else [44]) ++ ((if obj then Js.wq (ns.getD i []) ++ [58] else []) ++ (Js.wr j ++ Js.wrL obj false (ns.drop (i + 1)) (ks.drop (i + 1)))) := by
  have hi := List.getElem?_eq_some_iff.1 h
  rw [List.drop_eq_getElem_cons hi.1, hi.2, Js.wrL_cons, List.tail_drop]
  congr 2
  rw [List.getD]
  cases hn : ns[i]? with
  | none => rw [List.drop_eq_nil_of_le (by simpa using hn)]; rfl
  | some n =>
    have hi2 := List.getElem?_eq_some_iff.1 hn
    rw [List.drop_eq_getElem_cons hi2.1, hi2.2]; rfl
theorem box_keep {lo wb b : Nat} {w w' : World} {cs : List Value} (h : Fr lo wb w w') (hg : Hid (w.heap[b]? = some (.cells cs.toArray 25 (0, 0)))) (hb : wb < lo) (hlo : lo ≤ b) : Hid (w'.heap[b]? = some (.cells cs.toArray 25 (0, 0))) := Lib.hid (h.ty _ _ _ _ hg.out (by omega) (by decide))
theorem box_cells {w : World} {b : Nat} {k : Int} {s : ByteArray} {nv kv : Value} (h : Hid (w.heap[b]? = some (.cells #[.int .i64 k, .string s, nv, kv] 25 (0, 0)))) : w.cell? ⟨b, 0, none⟩ = some (.int .i64 k) ∧ w.cell? ⟨b, 1, none⟩ = some (.string s) ∧ w.cell? ⟨b, 2, none⟩ = some nv ∧ w.cell? ⟨b, 3, none⟩ = some kv := cells4 h.out
end Go.Proofs.YthfnlnhehececaaDoor
