/- Laws for the walks of the document's own sums. -/
import Derived.Test.YtdimkgidaioolaaRWords
import Derived.Test.YtdimkgidaioolaaRSumS
import Derived.Test.YtdimkgidaioolaaSum
import Derived.BigRegion
import Derived.Deep.AppendLies
import Derived.Deep.RegionHeld3
import Derived.Deep.QuietTactic
import Derived.Deep.RegionHeldLaw
import Derived.BigQuiet
namespace Go.Proofs.Ytdimkgidaioolaa
open Go.RowKit

theorem be_fold (a b c d : UInt8) : bits .or .u32 (bits .or .u32 (bits .or .u32 ((a.toNat : Int) % 4294967296 * 16777216 % 4294967296) ((b.toNat : Int) % 4294967296 * 65536 % 4294967296)) ((c.toNat : Int) % 4294967296 * 256 % 4294967296)) ((d.toNat : Int) % 4294967296) = ((Dig.be4 a b c d).toNat : Int) := by
  have ha := a.toNat_lt
  have hb := b.toNat_lt
  have hc := c.toNat_lt
  have hd := d.toNat_lt
  rw [show (a.toNat : Int) % 4294967296 * 16777216 % 4294967296 = ((UInt32.ofNat (a.toNat * 2 ^ 24)).toNat : Int) from by rw [← fold_ofNat]; omega,
    show (b.toNat : Int) % 4294967296 * 65536 % 4294967296 = ((UInt32.ofNat (b.toNat * 2 ^ 16)).toNat : Int) from by rw [← fold_ofNat]; omega,
    show (c.toNat : Int) % 4294967296 * 256 % 4294967296 = ((UInt32.ofNat (c.toNat * 2 ^ 8)).toNat : Int) from by rw [← fold_ofNat]; omega,
    show (d.toNat : Int) % 4294967296 = ((UInt32.ofNat d.toNat).toNat : Int) from by rw [← fold_ofNat], fold_or, fold_or, fold_or, Dig.be4_eq]
/-- What stands while a text is summed: the constants, the eight words, the padded text. -/
structure SumS (w : World) (b g N cap : Nat) (P : List UInt8) (H : List UInt32) (wr : World) : Prop where
  con : wr.heap[b]? = some (.cells ([] ++ (Dig.h256.map u32v ++ Dig.k256.map u32v)).toArray 83 (0, 0))
  eight : wr.heap[b + 1]? = some (.cells (H.map u32v).toArray 80 (0, 0))
  row : RowS wr (b + 2) g N cap (P.map u8v)
  old : Below b w wr
theorem SumS.below {w : World} {b g N cap : Nat} {P : List UInt8} {H : List UInt32} {wr wi : World} (h : SumS w b g N cap P H wr) (hb : Below wr.heap.size wr wi) : SumS w b g N cap P H wi :=
  ⟨by rw [hb.block _ (lt_of_heap h.con)]; exact h.con, by rw [hb.block _ (lt_of_heap h.eight)]; exact h.eight, h.row.block (Nat.lt_of_lt_of_le h.row.lt hb.size) (hb.block _ h.row.lt), h.old.trans (hb.mono (by have := lt_of_heap h.con; omega))⟩
theorem SumS.byte {w : World} {b g N cap : Nat} {P : List UInt8} {H : List UInt32} {wr : World} (h : SumS w b g N cap P H wr) (q : Nat) (hq : q < P.length) : wr.cell? ⟨g, q, none⟩ = some (.int .u8 (P.getD q 0).toNat) := by
  refine h.row.told q _ ?_
  rw [List.getElem?_map, List.getD, List.getElem?_eq_getElem hq]; rfl

/-- What stands in a cell. -/
def cellOf (v : World) (p : Addr) : Value := (v.cell? p).getD undef
theorem cellOf_mk {v : World} {p : Addr} {u : Value} (h : v.cell? p = some u) : v.cell? p = some (cellOf v p) := by rw [cellOf, h]; rfl
attribute [irreducible] cellOf
/-- What the region of one word of the schedule keeps. -/
abbrev SchS (B i : Nat) (x3 x4 : UInt32) (v : World) : Prop :=
  v.cell? ⟨B, i - 16, none⟩ = some (.int .u32 x3.toNat) ∧ v.cell? ⟨B, i - 7, none⟩ = some (.int .u32 x4.toNat) ∧ v.cell? ⟨B, i, none⟩ = some (cellOf v ⟨B, i, none⟩) ∧ v.frozen? ⟨B, i, none⟩ = false
theorem sch_drew {B i : Nat} {x3 x4 : UInt32} {v : World} (h : SchS B i x3 x4 v) : SchS B i x3 x4 v.drew := ⟨h.1, h.2.1, cellOf_mk (v := v.drew) h.2.2.1, h.2.2.2⟩
theorem sch_set {B i : Nat} {x3 x4 : UInt32} {v : World} (h16 : Hid (16 ≤ i)) (h : SchS B i x3 x4 v) (u : Value) : SchS B i x3 x4 (v.setCell ⟨B, i, none⟩ u) := by
  have := h16.out
  refine ⟨?_, ?_, cellOf_mk (World.cell?_setCell_same _ _ _ h.2.2.1), ?_⟩
  · rw [World.cell?_setCell_other v ⟨B, i, none⟩ ⟨B, i - 16, none⟩ u (fun e => by injection e; omega)]; exact h.1
  · rw [World.cell?_setCell_other v ⟨B, i, none⟩ ⟨B, i - 7, none⟩ u (fun e => by injection e; omega)]; exact h.2.1
  · rw [World.frozen?_setCell]; exact h.2.2.2
theorem go_nt_r (a : UInt32) : bits .xor .u32 (a.toNat : Int) 4294967295 = ((Dig.nt a).toNat : Int) := by
  have h := fold_xor a 4294967295
  rw [show ((4294967295 : UInt32).toNat : Int) = 4294967295 from rfl] at h
  rw [h, UInt32.xor_comm, ← fold_xor, show ((4294967295 : UInt32).toNat : Int) = 4294967295 from rfl]
  exact go_not a
theorem rright_q (x : UInt32) (k : Int) (h0 : 1 ≤ k) (h1 : k ≤ 31) (w : World) :
    Calls Try.prog 52 #[.int .u32 x.toNat, .int .i64 k] w fun e w' => e = .returned (.int .u32 (Dig.rotl x (rn (-k))).toNat) ∧ ∃ m, w' = w.drewN m :=
  (rright_lit x k h0 h1 w).mono fun _ _ ⟨he, hw⟩ => ⟨he, 1, hw⟩
theorem eight_of_list {S : List UInt32} (h : S.length = 8) : (Dig.Eight.of S).list = S := by
  match S, h with
  | [_, _, _, _, _, _, _, _], _ => rfl
/-- The eight cells of a state. -/
theorem eight_cells {w : World} {g : Nat} {r : Dig.Eight} {T : TypeId} (h : w.heap[g]? = some (.cells (r.list.map u32v).toArray T (0, 0))) :
    w.cell? ⟨g, 0, none⟩ = some (.int .u32 r.a.toNat) ∧ w.cell? ⟨g, 1, none⟩ = some (.int .u32 r.b.toNat) ∧ w.cell? ⟨g, 2, none⟩ = some (.int .u32 r.c.toNat) ∧ w.cell? ⟨g, 3, none⟩ = some (.int .u32 r.d.toNat) ∧
    w.cell? ⟨g, 4, none⟩ = some (.int .u32 r.e.toNat) ∧ w.cell? ⟨g, 5, none⟩ = some (.int .u32 r.f.toNat) ∧ w.cell? ⟨g, 6, none⟩ = some (.int .u32 r.g.toNat) ∧ w.cell? ⟨g, 7, none⟩ = some (.int .u32 r.h.toNat) :=
  ⟨by rw [cell_of_list h]; rfl, by rw [cell_of_list h]; rfl, by rw [cell_of_list h]; rfl, by rw [cell_of_list h]; rfl, by rw [cell_of_list h]; rfl, by rw [cell_of_list h]; rfl, by rw [cell_of_list h]; rfl, by rw [cell_of_list h]; rfl⟩
theorem r_below_kept {B : Nat} {w a b : World} {g : Nat} (h : Below B w a) (hk : Kept a.heap.size [g] a b) (hg : B ≤ g) (hB : B ≤ a.heap.size) : Below B w b :=
  ⟨hk.os.trans h.os, hk.tape.trans h.tape, hk.output.trans h.output, Nat.le_trans h.size hk.size, fun i hi => by
    rw [hk.block i (by omega) (by simp; omega), h.block i hi]⟩
theorem con_cell {w : World} {b g N cap : Nat} {P : List UInt8} {H : List UInt32} {wr : World} (h : SumS w b g N cap P H wr) {k : Nat} (hk : k < 64) : wr.cell? ⟨b, 8 + k, none⟩ = some (.int .u32 (Dig.k256.getD k 0).toNat) := by
  have h8 : (Dig.h256.map u32v).length = 8 := by rw [List.length_map, Dig.length_h256]
  rw [cell_of_list h.con, List.nil_append, List.getElem?_append_right (by omega), h8, show 8 + k - 8 = k by omega, getD_list Dig.length_k256 hk]; rfl
theorem wrap_u8_mod (n : Int) : IntKind.u8.wrap n = n % 256 := by simp [IntKind.wrap, IntKind.bits, IntKind.signed]
theorem b3_fold (x : UInt32) : IntKind.u8.wrap ((x.toNat : Int) / 16777216) = ((Dig.byteAt x.toNat 3).toNat : Int) := by
  rw [wrap_u8_mod, Dig.byteAt_eq, UInt8.toNat_ofNat']; omega
theorem b2_fold (x : UInt32) : IntKind.u8.wrap ((x.toNat : Int) / 65536) = ((Dig.byteAt x.toNat 2).toNat : Int) := by
  rw [wrap_u8_mod, Dig.byteAt_eq, UInt8.toNat_ofNat']; omega
theorem b1_fold (x : UInt32) : IntKind.u8.wrap ((x.toNat : Int) / 256) = ((Dig.byteAt x.toNat 1).toNat : Int) := by
  rw [wrap_u8_mod, Dig.byteAt_eq, UInt8.toNat_ofNat']; omega
theorem b0_fold (x : UInt32) : IntKind.u8.wrap ((x.toNat : Int)) = ((Dig.byteAt x.toNat 0).toNat : Int) := by
  rw [wrap_u8_mod, Dig.byteAt_eq, UInt8.toNat_ofNat']; omega
theorem bytes_high (n : Nat) : Dig.bytesTo false 4 n 4 = [Dig.byteAt n 3, Dig.byteAt n 2, Dig.byteAt n 1, Dig.byteAt n 0] := by
  rw [show (4 : Nat) = 0 + 1 + 1 + 1 + 1 from rfl, Dig.bytesTo_succ, Dig.bytesTo_succ, Dig.bytesTo_succ, Dig.bytesTo_succ, Dig.bytesTo_zero]; rfl
theorem bytes_low (n : Nat) : Dig.bytesTo true 4 n 4 = [Dig.byteAt n 0, Dig.byteAt n 1, Dig.byteAt n 2, Dig.byteAt n 3] := by
  rw [show (4 : Nat) = 0 + 1 + 1 + 1 + 1 from rfl, Dig.bytesTo_succ, Dig.bytesTo_succ, Dig.bytesTo_succ, Dig.bytesTo_succ, Dig.bytesTo_zero]; rfl
/-- Four bytes as cells. -/
def four (a b c d : UInt8) : List Value := [.int .u8 a.toNat, .int .u8 b.toNat, .int .u8 c.toNat, .int .u8 d.toNat]
theorem news_four (w : World) (a b c d : UInt8) (T : TypeId) : ∀ j u, (four a b c d)[j]? = some u → ((w.alloc (.cells #[Value.int .u8 a.toNat, .int .u8 b.toNat, .int .u8 c.toNat, .int .u8 d.toNat] T)).drew).cell? ((⟨w.heap.size, 0, none⟩ : Addr).add j) = some u :=
  World.news_of_block (w := (w.alloc (.cells #[Value.int .u8 a.toNat, .int .u8 b.toNat, .int .u8 c.toNat, .int .u8 d.toNat] T)).drew) (cs := #[Value.int .u8 a.toNat, .int .u8 b.toNat, .int .u8 c.toNat, .int .u8 d.toNat]) (fr := (0, 0)) (t := T) (heap_alloc_new w _)
theorem four_one (a b c d : UInt8) : ∀ u ∈ four a b c d, u.oneCell' = true := by
  intro u hu
  simp only [four, List.mem_cons, List.not_mem_nil, or_false] at hu
  rcases hu with rfl | rfl | rfl | rfl <;> rfl
theorem alloc8u (w : World) : (Instr.alloc 80 true (.tuple #[])).run Try.prog w = .ok (.pointer (some ⟨w.heap.size, 0, none⟩)) (w.alloc (.cells (zeros 8).toArray 80)) := by kernel_rfl
def rW : List Value := (Dig.h256 ++ Dig.k256).map u32v
theorem rW_eq : rW = [] ++ (Dig.h256.map u32v ++ Dig.k256.map u32v) := by rw [rW, List.map_append]; rfl
attribute [irreducible] rW

theorem step_append_own_d {P : Program} {ops : Array Oper} {o : Oper} {a : Act} {w : World} {K : Act → World → Prop} {Q : Exit → Act → World → Prop} {E : Prop} (hgd : o.guard = none) (s x : Operand) (t : TypeId)
    (ho : o.op = .call { callee := .builtin .append, args := #[s, x], argTypes := #[t, t] })
    (base : Nat) (e : TypeId) (i : TypeInfo) (z : Value) (size bytes : Nat) (ht : P.underlying t = some (.slice e)) (hi : P.info? e = some i) (hz : i.zero = some z)
    (hsize : i.size = size) (hby : i.bytes = bytes) (hzs : z.cells.size = size) (hsz : 0 < size)
    (v : Value) (n : Nat) (xs : List Value) (hs : a.eval s = v) (hown : w.ownsRow base e size v n xs)
    (ad : Addr) (m c : Nat) (news : List Value) (hx : a.eval x = .slice (some ad) m c) (hm : 0 < m) (hl : news.length = m * size) (hnews : ∀ j u, news[j]? = some u → w.cell? (ad.add j) = some u) (h1 : ∀ u ∈ news, u.oneCell' = true)
    (h63 : n + m ≤ maxLen) (hbytes : (n + m) * bytes ≤ 140737488355328) (hbase : base ≤ w.heap.size) (dst : Option Tmp) (hdst : o.dst = dst)
    (h : ∀ g cap w', Hid (w'.ownsRow base e size (.slice (some ⟨g, 0, none⟩) (n + m) cap) (n + m) (xs ++ news)) → Hid (w.grownBy w' v.ownBlock) → Hid (v.ownBlock = some g ∨ w.heap.size ≤ g) → K (a.put dst (.slice (some ⟨g, 0, none⟩) (n + m) cap)) w') :
    if Region.wanted o (yielded ops a.tmps) = true then Oper.wp P o a w K Q else E := by
  subst hdst
  exact step_append_own hgd s x t ho base e i z size bytes ht hi hz hsize hby hzs hsz v n xs hs hown ad m c news hx hm hl hnews h1 h63 hbytes hbase h
/-- What the region that lays four bytes down keeps. -/
abbrev TxtS (w6 : World) (p : Addr) (u : Value) (v : World) : Prop := v.cell? p = some u ∧ Below w6.heap.size w6 v
theorem txt_of {w6 v : World} {p : Addr} {u : Value} (h0 : w6.cell? p = some u) (hp : p.block < w6.heap.size) (hB : Below w6.heap.size w6 v) : TxtS w6 p u v := ⟨(hB.cell hp).trans h0, hB⟩
end Go.Proofs.Ytdimkgidaioolaa
