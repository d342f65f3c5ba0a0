/- Bytes as a text; bytes that are made. No program is imported here. -/
import Derived.Test.YthfnlnhehececaaDoorWord
namespace Go.Proofs.YthfnlnhehececaaDoor
open Go.RowKit

/-! Bytes as a text. -/
theorem foldl_push (l : List UInt8) : ∀ (s : ByteArray), (l.map fun b => (b.toNat : Int)).foldl (fun r n => r.push (UInt8.ofNat n.toNat)) s = ⟨s.data ++ l.toArray⟩ := by
  induction l with
  | nil => intro s; simp
  | cons b r ih =>
    intro s
    simp only [List.map_cons, List.foldl_cons]
    rw [ih]
    simp [ByteArray.push]
theorem run_bytes_string {P : Program} (w : World) (src dst e : TypeId) (b o len cap : Nat) (l : List UInt8) (hlen : l.length = len)
    (hs : P.underlying src = some (.slice e)) (he : P.underlying e = some (.int .u8)) (hd : P.underlying dst = some .string) (hr : w.rangeAt b o (l.map u8v)) :
    (convert src dst (.slice (some ⟨b, o, none⟩) len cap)).run P w = .ok (.string ⟨l.toArray⟩) w := by
  rw [run_convert_bytes_string w src dst e _ _ _ hs he hd]
  have hm : (l.map fun x => (x.toNat : Int)).map (Value.int .u8) = l.map u8v := by rw [List.map_map]; rfl
  rw [run_bytesToString w ⟨b, o, none⟩ len cap (l.map fun x => (x.toNat : Int)) (by
    rw [hm]
    have := run_loadCells_list (P := P) w ⟨b, o, none⟩ (l.map u8v) (fun j v hv => by rw [Addr.add_mid]; exact hr j v hv)
    rw [List.length_map, hlen] at this
    exact this), foldl_push]
  congr 2
  simp
theorem wpList_bytes_string {P : Program} {w : World} {ops : Array Oper} {rest : List Oper} {o : Oper} {a : Act} {Q : Exit → Act → World → Prop} (hgd : o.guard = none) (src dst : TypeId) (x : Operand) (ho : o.op = .convert src dst x)
    (e : TypeId) (b off len cap : Nat) (hx : a.eval x = .slice (some ⟨b, off, none⟩) len cap) (l : List UInt8) (hlen : l.length = len)
    (hs : P.underlying src = some (.slice e)) (he : P.underlying e = some (.int .u8)) (hd : P.underlying dst = some .string) (hr : w.rangeAt b off (l.map u8v))
    (h : wpList P ops Q rest (a.put o.dst (.string ⟨l.toArray⟩)) w) : wpList P ops Q (o :: rest) a w := by
  refine wpList_run hgd _ _ ?_ h
  unfold execOp
  simp only [ho, hx, Sem.run_bind, run_bytes_string w src dst e b off len cap l hlen hs he hd hr, Result.andThen_ok]
  rfl
theorem wpList_nil_string {P : Program} {w : World} {ops : Array Oper} {rest : List Oper} {o : Oper} {a : Act} {Q : Exit → Act → World → Prop} (hgd : o.guard = none) (src dst : TypeId) (x : Operand) (ho : o.op = .convert src dst x)
    (e : TypeId) (hx : a.eval x = .slice none 0 0)
    (hs : P.underlying src = some (.slice e)) (he : P.underlying e = some (.int .u8)) (hd : P.underlying dst = some .string)
    (h : wpList P ops Q rest (a.put o.dst (.string .empty)) w) : wpList P ops Q (o :: rest) a w := by
  refine wpList_run hgd _ _ ?_ h
  unfold execOp
  simp only [ho, hx, Sem.run_bind, run_convert_bytes_string w src dst e none 0 0 hs he hd, Conv.bytesToString, Sem.run_pure, Result.andThen_ok]
/-- The bytes that a slice owns, as they lie. -/
theorem range_of_own {w : World} {B g n cap : Nat} {e : TypeId} {xs : List Value} (h : w.ownsRow B e 1 (.slice (some ⟨g, 0, none⟩) n cap) n xs) : w.rangeAt g 0 xs := fun j v hv => by
  have hj : j < xs.length := (List.getElem?_eq_some_iff.1 hv).1
  have := h.1
  rw [Nat.zero_add, h.cellAt j (by omega), hv]
/-- What 'make' has made is owned, as far as its length goes. -/
theorem own_made {w : World} {z : Value} {e : TypeId} {B n c : Nat} (hB : B ≤ w.heap.size) (hn : n ≤ c) (hc : c ≤ maxLen) :
    (w.alloc (.cells (List.replicate c z).toArray e)).ownsRow B e 1 (.slice (some ⟨w.heap.size, 0, none⟩) n c) n (List.replicate n z) :=
  ⟨by simp, .inr ⟨w.heap.size, c, _, rfl, hB, heap_alloc_new w _, hn, hc, by simp, by simp [List.take_replicate, Nat.min_eq_left hn]⟩⟩
/-- 'make([]T, n, c)'. -/
theorem wpList_make_row {P : Program} {w : World} {ops : Array Oper} {rest : List Oper} {o : Oper} {a : Act} {Q : Exit → Act → World → Prop} (hgd : o.guard = none) (t : TypeId) (x y : Operand) (ho : o.op = .makeSlice t x y)
    (e : TypeId) (i : TypeInfo) (z : Value) (bytes : Nat) (ht : P.underlying t = some (.slice e)) (hi : P.info? e = some i) (hz : i.zero = some z) (hsz : i.size = 1) (hby : i.bytes = bytes) (hone : z.cells = #[z])
    (n c : Nat) (hx : a.eval x = .int .i64 n) (hy : a.eval y = .int .i64 c) (hnc : n ≤ c) (hbytes : bytes * c ≤ 281474976710656) (hmax : c ≤ 9223372036854775807)
    (h : ∀ w', Hid (w'.ownsRow w.heap.size e 1 (.slice (some ⟨w.heap.size, 0, none⟩) n c) n (List.replicate n z)) → Below w.heap.size w w' →
      wpList P ops Q rest (a.put o.dst (.slice (some ⟨w.heap.size, 0, none⟩) n c)) w') : wpList P ops Q (o :: rest) a w := by
  refine wpList_run hgd _ (w.alloc (.cells (List.replicate c z).toArray e)) ?_ (h _ (own_made (Nat.le_refl _) hnc (by unfold maxLen; omega)) ((Below.refl _ _).alloc (Nat.le_refl _) _))
  have hrun := run_make (P := P) w t e i z ht hi hz .i64 .i64 (n : Int) (c : Int) (by omega) (by omega) (by rw [hby]; omega) (by omega)
  have hm : madeCells z.cells ((c : Int).toNat * i.size) = (List.replicate c z).toArray := by
    rw [hone, hsz]
    apply Array.toList_inj.1
    rw [toList_madeCells_one]; simp
  rw [hm] at hrun
  simp only [Int.toNat_natCast] at hrun
  unfold execOp
  simp only [ho, hx, hy, Sem.run_bind, hrun, Result.andThen_ok]
  rfl
theorem int64_congr {a b : Int} (h : a = b) : Value.int .i64 a = Value.int .i64 b := by rw [h]

/-- 'arr[k:]'. -/
theorem wpList_slice_from {P : Program} {w : World} {ops : Array Oper} {rest : List Oper} {op : Oper} {a : Act} {Q : Exit → Act → World → Prop} (hgd : op.guard = none) (T : TypeId) (x y : Operand) (ho : op.op = .slice T x (some y) none none)
    (n e : Nat) (hu : P.underlying T = some (.array n e)) (hsz : (P.info? e).map (·.size) = some 1) (b o k : Nat) (hx : a.eval x = .pointer (some ⟨b, o, none⟩)) (hy : a.eval y = .int .i64 k) (hk : k < n)
    (h : wpList P ops Q rest (a.put op.dst (.slice (some ⟨b, o + k, none⟩) (n - k) (n - k))) w) : wpList P ops Q (op :: rest) a w := by
  refine wpList_run hgd _ w ?_ h
  have hl : P.arrayLen T = n := by simp [Program.arrayLen, hu]
  have he : P.elem T = e := by simp [Program.elem, hu]
  cases hq : P.info? e with
  | none => simp [hq] at hsz
  | some i =>
    have hi : i.size = 1 := by simpa [hq] using hsz
    have hrun := run_sliceAt_array_l (P := P) w T ⟨b, o, none⟩ (by rw [hl, he]; exact hu) .i64 (k : Int) (by omega) (by rw [hl]; omega)
    have hs : (sizeOf (P.elem T)).run P w = .ok 1 w := by simp [sizeOf, typeInfo, he, hq, hi]
    rw [hs, hl] at hrun
    simp only [Result.andThen_ok, slicedAt, Int.toNat_natCast, Nat.mul_one, if_neg (show ¬ n = k by omega), Addr.add_mid] at hrun
    unfold execOp
    simp only [ho, hx, hy, Option.map_some, Option.map_none, Sem.run_bind, hrun, Result.andThen_ok]
    rfl
end Go.Proofs.YthfnlnhehececaaDoor
