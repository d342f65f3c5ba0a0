/- What MatrixChains asks: four sizes, texts, products applied one behind the other. -/
import Derived.Test.YteanbflbclmeeaaGreatMOwnT
import Derived.Lib.SlBytesConst
namespace Go.Proofs.YteanbflbclmeeaaGreat
open Go.RowKit

def arrTo (n : Nat → Nat) (i : Nat) : List Value := (List.range 4).map fun j => if j < i then Value.int .i64 (n j : Int) else .int .i64 0
theorem length_arrTo (n : Nat → Nat) (i : Nat) : (arrTo n i).length = 4 := by unfold arrTo; simp
theorem arrTo_get (n : Nat → Nat) (i k : Nat) (h : k < 4) : (arrTo n i)[k]? = some (if k < i then Value.int .i64 (n k : Int) else .int .i64 0) := by unfold arrTo; rw [List.getElem?_map, List.getElem?_range h]; rfl
theorem arrTo_step (n : Nat → Nat) (i : Nat) : (arrTo n i).set i (.int .i64 (n i : Int)) = arrTo n (i + 1) := by
  apply List.ext_getElem?
  intro k
  by_cases hk : k < 4
  · rw [arrTo_get n (i + 1) k hk]
    by_cases hki : k = i
    · subst hki
      rw [List.getElem?_set_self (by rw [length_arrTo]; exact hk), if_pos (by omega)]
    · rw [List.getElem?_set_ne (by omega), arrTo_get n i k hk]
      by_cases h : k < i
      · rw [if_pos h, if_pos (by omega)]
      · rw [if_neg h, if_neg (by omega)]
  · rw [List.getElem?_eq_none (by rw [List.length_set, length_arrTo]; omega), List.getElem?_eq_none (by rw [length_arrTo]; omega)]
theorem heap_cell4 {w : World} {B : Nat} {x y z v : Value} {T : TypeId} (h : w.heap[B]? = some (.cells [x, y, z, v].toArray T (0, 0))) : w.cell? ⟨B, 0, none⟩ = some x ∧ w.cell? ⟨B, 1, none⟩ = some y ∧ w.cell? ⟨B, 2, none⟩ = some z ∧ w.cell? ⟨B, 3, none⟩ = some v :=
  ⟨by rw [cell_of_list h]; rfl, by rw [cell_of_list h]; rfl, by rw [cell_of_list h]; rfl, by rw [cell_of_list h]; rfl⟩
/-- Texts in a block of their own. -/
structure ColT (g n : Nat) (f : Nat → ByteArray) (w : World) : Prop where
  t : Texts g 0 n f w
  lt : g < w.heap.size
theorem ColT.below {g n : Nat} {f : Nat → ByteArray} {w w' : World} (h : ColT g n f w) (hb : Below w.heap.size w w') : ColT g n f w' := ⟨h.t.keep (hb.block g h.lt), Nat.lt_of_lt_of_le h.lt hb.size⟩
theorem Strs.colT {g n : Nat} {f : Nat → ByteArray} {w : World} (h : Strs g n f n w) : ColT g n f w := ⟨fun j hj => by rw [Nat.zero_add]; exact h.got hj hj, h.lt⟩
theorem tApply (g r c N hb capn m : Nat) (X : Mat) (f : Nat → ByteArray) (hr1 : 1 ≤ r) (hr2 : r ≤ 255) (hc1 : 1 ≤ c) (hc2 : c ≤ 255) (hN : r * c = N) (hmm : m ≤ 1000000) (hm : ∀ j, j < c → (f j).size = m) (w : World) (hX : Tab g X r c w) (h : ColT hb c f w) :
    Calls Tryz.prog 40 #[mv g r c N, .slice (some ⟨hb, 0, none⟩) c capn] w fun e w' => ∃ h2, e = .returned (.tuple #[.slice (some ⟨h2, 0, none⟩) r r, .nilIface]) ∧ ColT h2 r (fun i => txt (mm c X (fun j => strAt (f j)) i) m) w' ∧ Below w.heap.size w w' :=
  (Apply_good r c g 0 N N hb 0 capn m X f hr1 hr2 hc1 hc2 hN (Nat.le_refl _) hmm hm w hX.src hX.lt h.t h.lt).mono fun e w' hh => by
    obtain ⟨h2, _, rfl, hs, hb⟩ := hh
    exact ⟨h2, rfl, hs.colT, hb⟩
/-- A column while it is made: so many texts of eight bytes. -/
structure ColS (S0 : World) (i : Nat) (v : Value) (l : List ByteArray) (w : World) : Prop where
  own : OwnT S0.heap.size v l w
  old : Below S0.heap.size S0 w
  len : l.length = i
  all : ∀ s ∈ l, s.size = 8
theorem set_marked {w : World} {g : Nat} {cs : List Value} {t : TypeId} {fr : Nat × Nat} (h : w.heap[g]? = some (.cells cs.toArray t fr)) (i : Nat) (v : Value) : (w.setCell ⟨g, i, none⟩ v).heap[g]? = some (.cells (cs.set i v).toArray t fr) := by
  simp [World.setCell, Array.getElem?_modify, h]
/-- One text while it is made. -/
structure Txt8 (g : Nat) (w0 w : World) : Prop where
  cells : ∃ ys : List UInt8, ys.length = 8 ∧ w.heap[g]? = some (.cells (ys.map u8v).toArray 5 (8, 9))
  old : Below w0.heap.size w0 w
  ge : w0.heap.size ≤ g
theorem Txt8.set {g : Nat} {w0 w : World} (h : Txt8 g w0 w) (k : Nat) (x : UInt8) : Txt8 g w0 (w.setCell ⟨g, k, none⟩ (.int .u8 x.toNat)) := by
  obtain ⟨ys, hy, hc⟩ := h.cells
  have hk : Kept w.heap.size [g] w (w.setCell ⟨g, k, none⟩ (.int .u8 x.toNat)) := (Kept.refl _ _ _).setCell (p := ⟨g, k, none⟩) (by simp) _
  exact ⟨⟨ys.set k x, by rw [List.length_set]; exact hy, by rw [set_marked hc k, List.map_set]; rfl⟩, below_kept h.old hk h.ge h.old.size, h.ge⟩
theorem Txt8.free {g : Nat} {w0 w : World} (h : Txt8 g w0 w) {k : Nat} (hk : k < 8) : w.frozen? ⟨g, k, none⟩ = false := by
  obtain ⟨ys, _, hc⟩ := h.cells
  unfold World.frozen?
  rw [hc]
  simp; omega
theorem conv_const (w : World) (C : Array Value) (n c : Nat) : (convert 60 60 (.slice (some ⟨w.heap.size, 0, none⟩) n c)).run Tryz.prog (w.alloc (.cells C 5)) = .ok (.slice (some ⟨w.heap.size, 0, none⟩) n c) (w.alloc (.cells C 5 (C.size, C.size + 1))) := Lib.run_convert_bytes_const w 60 5 C n c Tryz.underlying60 Tryz.underlying5
theorem Txt8.text {g : Nat} {w0 w : World} (h : Txt8 g w0 w) : ∃ s : ByteArray, s.size = 8 ∧ (convert 60 9 (.slice (some ⟨g, 0, none⟩) 8 8)).run Tryz.prog w = .ok (.string s) w := by
  obtain ⟨ys, hy, hc⟩ := h.cells
  exact ⟨⟨ys.toArray⟩, by rw [← size_toList]; exact hy, run_bytes_string w 60 9 5 g 0 8 8 ys hy Tryz.underlying60 Tryz.underlying5 Tryz.underlying9 (fun j u hu => by rw [Nat.zero_add, cell_of_list hc]; exact hu)⟩
theorem ColS.step {S0 w0 w w' : World} {i g : Nat} {v v' : Value} {l : List ByteArray} {s : ByteArray} (h : ColS S0 i v l w0) (ht : Txt8 g w0 w) (hs : s.size = 8) (o : Obj) (ho : OwnT S0.heap.size v' (l ++ [s]) w') (hg : (w.alloc o).grownBy w' v.ownBlock) : ColS S0 (i + 1) v' (l ++ [s]) w' := by
  have h1 : Below S0.heap.size S0 w := h.old.trans (ht.old.mono h.old.size)
  refine ⟨ho, grown_belowT (h1.alloc h1.size o) (by have := h1.size; simp; omega) ((h.own.below ht.old).alloc o) hg, by rw [List.length_append, h.len]; rfl, fun x hx => ?_⟩
  rcases List.mem_append.1 hx with hx | hx
  · exact h.all x hx
  · rw [List.mem_singleton.1 hx]; exact hs
/-- A product applied is one applied behind the other. -/
theorem apply_apply (n1 n2 m i : Nat) (A B : Mat) (f : Nat → ByteArray) : txt (mm n1 A (fun j => strAt (txt (mm n2 B (fun j => strAt (f j)) j) m)) i) m = txt (mm n2 (mm n1 A B) (fun j => strAt (f j)) i) m :=
  txt_congr fun k hk => by
    rw [mm_assoc]
    exact mm_congr (fun _ _ => rfl) (fun l _ => txt_at _ _ _ hk)
end Go.Proofs.YteanbflbclmeeaaGreat
