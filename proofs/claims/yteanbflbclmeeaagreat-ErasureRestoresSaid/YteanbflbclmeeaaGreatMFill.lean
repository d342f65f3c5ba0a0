/- The walks of which of n things a number speaks of, and of a matrix out of raw bytes. -/
import Derived.Test.YteanbflbclmeeaaGreatMKnown
namespace Go.Proofs.YteanbflbclmeeaaGreat
open Go.RowKit

@[irreducible] def pk (c : Int) (n : Nat) : Nat := ((if c < 0 then -(c + 1) else c) % (n : Int)).toNat
theorem pk_lt (c : Int) (n : Nat) (hn : 1 ≤ n) : pk c n < n := by
  unfold pk
  have := Int.emod_lt_of_pos (if c < 0 then -(c + 1) else c) (show (0 : Int) < n by omega)
  omega
attribute [local go_sem high] g_xor
/-- What stands while a matrix is filled. -/
structure FillS (B g r c N : Nat) (a0 : Option Addr) (len cap : Nat) (l : List UInt8) (w0 v : World) : Prop where
  box : v.heap[B]? = some (.cells [Value.int .i64 r, .int .i64 c, .slice (some ⟨g, 0, none⟩) N N].toArray 62 (0, 0))
  cells : ∃ x : List UInt8, x.length = N ∧ v.heap[g]? = some (.cells (x.map u8v).toArray 5 (0, 0))
  raw : Hand a0 len cap l v
  res : ResAt w0.heap.size 62 v
  old : Below w0.heap.size w0 v
  rlt : ∀ b o, a0 = some ⟨b, o, none⟩ → 0 < len → b < w0.heap.size
  gw : w0.heap.size < g
  gB : g < B
theorem FillS.drew {B g r c N : Nat} {a0 : Option Addr} {len cap : Nat} {l : List UInt8} {w0 v : World} (h : FillS B g r c N a0 len cap l w0 v) : FillS B g r c N a0 len cap l w0 v.drew := ⟨h.box, h.cells, h.raw.drew, h.res, h.old.drew, h.rlt, h.gw, h.gB⟩
theorem FillS.set {B g r c N : Nat} {a0 : Option Addr} {len cap : Nat} {l : List UInt8} {w0 v : World} (h : FillS B g r c N a0 len cap l w0 v) (i : Nat) (x : UInt8) : FillS B g r c N a0 len cap l w0 (v.setCell ⟨g, i, none⟩ (.int .u8 x.toNat)) := by
  obtain ⟨y, hy, hc⟩ := h.cells
  refine ⟨(heap_setCell_other _ _ _ _ (by show B ≠ g; have := h.gB; omega)).trans h.box, ⟨y.set i x, by rw [List.length_set, hy], by rw [set_list hc i (.int .u8 x.toNat), List.map_set]; rfl⟩, ⟨h.raw.hl, h.raw.hc, fun h0 => ?_⟩, (heap_setCell_other _ _ _ _ (by show w0.heap.size ≠ g; have := h.gw; omega)).trans h.res, h.old.setCell (by show w0.heap.size ≤ g; have := h.gw; omega) _, h.rlt, h.gw, h.gB⟩
  obtain ⟨b, o, e, hlt, hr⟩ := h.raw.cells h0
  refine ⟨b, o, e, by rw [World.size_setCell]; exact hlt, fun j u hu => ?_⟩
  have hb := h.rlt b o e h0
  rw [World.cell?_setCell_other _ _ _ _ (fun e => by have := h.gw; injection e with e1 _ _; omega)]
  exact hr j u hu
end Go.Proofs.YteanbflbclmeeaaGreat
