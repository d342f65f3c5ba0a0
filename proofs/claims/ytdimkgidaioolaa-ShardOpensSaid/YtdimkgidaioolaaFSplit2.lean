/- The walk of a list that is taken apart. -/
import Derived.Test.YtdimkgidaioolaaFSplit
namespace Go.Proofs.Ytdimkgidaioolaa
open Go.RowKit

def strv (l : List UInt8) : Value := .string (bs l)
theorem infoString : (Try.prog.info? 9).map (fun i => (i.zero, i.size, i.bytes)) = some (some (.string ⟨#[]⟩), 1, 16) := by kernel_rfl
theorem own_below {w w' : World} {B n size : Nat} {e : TypeId} {v : Value} {xs : List Value} (h : w.ownsRow B e size v n xs) (hb : Below w.heap.size w w') : w'.ownsRow B e size v n xs := by
  refine ⟨h.1, ?_⟩
  rcases h.2 with h0 | ⟨g, cap, cur, h0, hB, hg, r⟩
  · exact Or.inl h0
  · exact Or.inr ⟨g, cap, cur, h0, hB, (hb.block g (lt_of_heap hg)).trans hg, r⟩
theorem run_mid {s q : ByteArray} {a n : Nat} (ha : a + 4 + n ≤ s.size) (hq : q = s.extract (a + 4) (a + 4 + n)) (w : World) :
    (Instr.slice 9 (.string s) (some (.int .i64 ((a : Int) + 4))) (some (.int .i64 ((a : Int) + 4 + (n : Int)))) none).run Try.prog w = .ok (.string q) w := by
  have := run_mid_string (P := Try.prog) w 9 s .i64 .i64 (a + 4) (a + 4 + n) Try.underlying9 (by omega) ha
  rw [hq, ← this]; congr 3 <;> simp
/-- What Split answers. -/
def SplitPost (s : ByteArray) (w : World) (e : Ending) (w' : World) : Prop :=
  (∃ p : Nat, Fr.split s.data.toList = .inl p ∧ Refused 20 p (fun v => .tuple #[.slice none 0 0, v]) w e w') ∨
  (∃ (ts : List (List UInt8)) (v : Value), Fr.split s.data.toList = .inr ts ∧ e = .returned (.tuple #[v, .nilIface]) ∧ w'.ownsRow w.heap.size 9 1 v ts.length (ts.map strv) ∧ Below w.heap.size w w')
theorem split_none {l : List UInt8} (h : Fr.cntIn l = none) : Fr.split l = .inl 0 := by unfold Fr.split; rw [h]
theorem split_at {l : List UInt8} {many p : Nat} (h : Fr.cntIn l = some many) (hp : Fr.parts l many 4 [] = .inl p) : Fr.split l = .inl p := by unfold Fr.split; rw [h]; simp only [hp]
theorem split_left {l : List UInt8} {many p : Nat} {ts : List (List UInt8)} (h : Fr.cntIn l = some many) (hp : Fr.parts l many 4 [] = .inr (ts, p)) (hl : p < l.length) : Fr.split l = .inl p := by
  unfold Fr.split; rw [h]; simp only [hp]; rw [if_pos hl]
theorem split_long {l : List UInt8} {many p : Nat} {ts : List (List UInt8)} (h : Fr.cntIn l = some many) (hp : Fr.parts l many 4 [] = .inr (ts, p)) (hl : ¬ p < l.length) (hm : 60000 < l.length) : Fr.split l = .inl 0 := by
  unfold Fr.split; rw [h]; simp only [hp]; rw [if_neg hl, if_pos hm]
theorem split_ok {l : List UInt8} {many p : Nat} {ts : List (List UInt8)} (h : Fr.cntIn l = some many) (hp : Fr.parts l many 4 [] = .inr (ts, p)) (hl : ¬ p < l.length) (hm : ¬ 60000 < l.length) : Fr.split l = .inr ts := by
  unfold Fr.split; rw [h]; simp only [hp]; rw [if_neg hl, if_neg hm]
end Go.Proofs.Ytdimkgidaioolaa
