/- General, for layers of texts: the bytes of a text, texts cut and joined, rows made and appended to, worlds one behind another. -/
import Derived.Test.YthfnlnhehececaaDoorRows
import Derived.Test.YthfnlnhehececaaDoorChecked
import Derived.Test.YthfnlnhehececaaDoorDLaws
import Derived.Test.YthfnlnhehececaaDoorSReg
import Derived.RegionTactic
import Derived.Deep.AppendLies
import Derived.Lib.AppendStr
import Derived.Lib.Strings
import Derived.Lib.Slices
import Derived.Lib.Walk
import Derived.Lib.Bytealg
namespace Go.Proofs.YthfnlnhehececaaDoor
open Go.RowKit

/-- The byte of a string at a place. -/
def strAt (s : ByteArray) (i : Nat) : UInt8 := s.data.toList.getD i 0
theorem strAt_eq (s : ByteArray) (i : Nat) : strAt s i = s.data.toList.getD i 0 := rfl
attribute [irreducible] strAt
theorem run_index_byte {P : Program} (w : World) (t : TypeId) (s : ByteArray) (k : IntKind) (i : Nat) (h : P.underlying t = some .string) (hi : i < s.size) :
    (Instr.index t (.string s) (.int k (i : Int))).run P w = .ok (.int .u8 ((strAt s i).toNat : Int)) w := by
  rw [strAt_eq, run_index_string w t s k i h, dif_pos (by omega)]
  have hl : i < s.data.toList.length := by rw [size_toList]; exact hi
  simp only [List.getD, List.getElem?_eq_getElem hl]
  rfl
theorem infoByte : (Tryd.prog.info? 5).map (fun i => (i.zero, i.size, i.bytes)) = some (some (.int .u8 0), 1, 1) := by kernel_rfl
theorem run_rest_string {P : Program} (w : World) (t : TypeId) (s : ByteArray) (k : IntKind) (i : Nat) (h : P.underlying t = some .string) (hi : i ≤ s.size) :
    (Instr.slice t (.string s) (some (.int k (i : Int))) none none).run P w = .ok (.string (s.extract i s.size)) w := by
  rw [run_slice_string_from_if w t s k i h, if_pos (by omega)]; simp
theorem run_first_string {P : Program} (w : World) (t : TypeId) (s : ByteArray) (k : IntKind) (i : Nat) (h : P.underlying t = some .string) (hi : i ≤ s.size) :
    (Instr.slice t (.string s) none (some (.int k (i : Int))) none).run P w = .ok (.string (s.extract 0 i)) w := by
  rw [run_slice_string_to_if w t s k i h, if_pos (by omega)]; simp
theorem run_mid_string {P : Program} (w : World) (t : TypeId) (s : ByteArray) (k k' : IntKind) (i j : Nat) (h : P.underlying t = some .string) (hi : i ≤ j) (hj : j ≤ s.size) :
    (Instr.slice t (.string s) (some (.int k (i : Int))) (some (.int k' (j : Int))) none).run P w = .ok (.string (s.extract i j)) w := by
  rw [run_slice_string_if w t s k k' i j h, if_pos (by omega)]; simp; omega
theorem extract_list (s : ByteArray) (i j : Nat) : (s.extract i j).data.toList = (s.data.toList.take j).drop i := by
  simp [ByteArray.data_extract, Array.toList_extract, List.drop_take]
theorem extract_from (s : ByteArray) (i : Nat) : (s.extract i s.size).data.toList = s.data.toList.drop i := by
  rw [extract_list, List.take_of_length_le (by rw [size_toList]; omega)]
theorem extract_to (s : ByteArray) (i : Nat) : (s.extract 0 i).data.toList = s.data.toList.take i := by
  rw [extract_list, List.drop_zero]
/-- A text, of its bytes. -/
def bs (l : List UInt8) : ByteArray := ⟨l.toArray⟩
theorem bs_eq (l : List UInt8) : (⟨l.toArray⟩ : ByteArray) = bs l := rfl
theorem bs_list (l : List UInt8) : (bs l).data.toList = l := by simp [bs]
theorem bs_of {s : ByteArray} {l : List UInt8} (h : s.data.toList = l) : s = bs l := by
  cases s with
  | mk d => unfold bs; rw [← h]
theorem bs_self (s : ByteArray) : bs s.data.toList = s := (bs_of rfl).symm
theorem bs_size (l : List UInt8) : (bs l).size = l.length := by rw [← size_toList, bs_list]
theorem bs_append (a b : List UInt8) : bs a ++ bs b = bs (a ++ b) := bs_of (by simp [bs])
theorem bs_inj {a b : List UInt8} (h : bs a = bs b) : a = b := by rw [← bs_list a, h, bs_list]
attribute [irreducible] bs
theorem bs_nil : (⟨#[]⟩ : ByteArray) = bs [] := by rw [← bs_eq]
theorem add_bs (a b : List UInt8) (h : a.length + b.length ≤ 1000000) (w : World) : (Op.stringOp .add (bs a) (bs b)).run Tryd.prog w = .ok (.string (bs (a ++ b))) w := by
  rw [run_string_add_sum w _ _ (by rw [bs_size, bs_size]; omega), bs_append]
theorem bs_ne {a b : List UInt8} (h : a ≠ b) : ((bs a).toList == (bs b).toList) = false := by
  rw [ByteArray.toList_eq, ByteArray.toList_eq, bs_list, bs_list]
  exact beq_eq_false_iff_ne.2 h
theorem bs_is (l : List UInt8) : ((bs l).toList == l) = true := by rw [ByteArray.toList_eq, bs_list]; simp
theorem bthen {w0 w1 w2 : World} (h : Below w0.heap.size w0 w1) (k : Below w1.heap.size w1 w2) : Below w0.heap.size w0 w2 := h.trans (k.mono h.size)
theorem kept_block {w w' : World} {b : Nat} {o : Obj} (h : w.heap[b]? = some o) (hb : Below w.heap.size w w') : w'.heap[b]? = some o := (hb.block b (lt_of_heap h)).trans h
/-- The chain of worlds. -/
structure Ch (w0 w : World) : Prop where
  b : Below w0.heap.size w0 w
theorem Ch.next {w0 w w' : World} (h : Ch w0 w) (k : Below w.heap.size w w') : Ch w0 w' := ⟨bthen h.b k⟩
theorem wpList_make_list {P : Program} {w : World} {ops : Array Oper} {rest : List Oper} {o : Oper} {a : Act} {Q : Exit → Act → World → Prop} (hgd : o.guard = none) (t : TypeId) (x y : Operand) (ho : o.op = .makeSlice t x y)
    (e : TypeId) (i : TypeInfo) (z : Value) (bytes : Nat) (ht : P.underlying t = some (.slice e)) (hi : P.info? e = some i) (hz : i.zero = some z) (hsz : i.size = 1) (hby : i.bytes = bytes) (hone : z.cells = #[z])
    (n : Nat) (hx : a.eval x = .int .i64 n) (hy : a.eval y = .int .i64 n) (hbytes : bytes * n ≤ 281474976710656) (hmax : n ≤ 9223372036854775807)
    (h : ∀ w', Hid (w'.heap[w.heap.size]? = some (.cells (List.replicate n z).toArray e (0, 0))) → Hid (Below w.heap.size w w') →
      wpList P ops Q rest (a.put o.dst (.slice (some ⟨w.heap.size, 0, none⟩) n n)) w') : wpList P ops Q (o :: rest) a w := by
  refine wpList_run hgd _ (w.alloc (.cells (List.replicate n z).toArray e)) ?_ (h _ (Lib.hid (heap_alloc_new _ _)) (Lib.hid ((Below.refl _ _).alloc (Nat.le_refl _) _)))
  have hrun := run_make (P := P) w t e i z ht hi hz .i64 .i64 (n : Int) (n : Int) (by omega) (by omega) (by rw [hby]; omega) (by omega)
  have hm : madeCells z.cells ((n : Int).toNat * i.size) = (List.replicate n z).toArray := by
    rw [hone, hsz]
    apply Array.toList_inj.1
    rw [toList_madeCells_one]; simp
  rw [hm] at hrun
  simp only [Int.toNat_natCast] at hrun
  unfold execOp
  simp only [ho, hx, hy, Sem.run_bind, hrun, Result.andThen_ok]
  rfl
theorem run_head {P : Program} (w : World) (t : TypeId) (k : IntKind) (c : UInt8) (r : List UInt8) (h : P.underlying t = some .string) :
    (Instr.index t (.string (bs (c :: r))) (.int k 0)).run P w = .ok (.int .u8 (c.toNat : Int)) w := by
  have := run_index_byte (P := P) w t (bs (c :: r)) k 0 h (by rw [bs_size]; simp)
  rw [strAt_eq, bs_list] at this
  exact this
theorem u8_is {c : UInt8} {n : Nat} (h : c.toNat = n) : ((c.toNat : Int) == (n : Int)) = true := by rw [h]; simp
theorem u8_not {c : UInt8} {n : Nat} (h : c.toNat ≠ n) : ((c.toNat : Int) == (n : Int)) = false := by simp; omega
theorem ret_bool {a b : Bool} (h : a = b) : Ending.returned (.bool a) = .returned (.bool b) := by rw [h]
/-- The text of the bytes that a slice owns, whether it is nil or not. -/
theorem wpList_own_string {P : Program} {w : World} {ops : Array Oper} {rest : List Oper} {o : Oper} {a : Act} {Q : Exit → Act → World → Prop} (hgd : o.guard = none) (src dst : TypeId) (x : Operand) (ho : o.op = .convert src dst x)
    (B : Nat) (e : TypeId) (v : Value) (n : Nat) (hx : a.eval x = v) (l : List UInt8) (hlen : l.length = n)
    (hs : P.underlying src = some (.slice e)) (he : P.underlying e = some (.int .u8)) (hd : P.underlying dst = some .string) (hown : w.ownsRow B e 1 v n (l.map u8v))
    (h : wpList P ops Q rest (a.put o.dst (.string ⟨l.toArray⟩)) w) : wpList P ops Q (o :: rest) a w := by
  rcases hown.2 with ⟨hv, h0⟩ | ⟨g, cap, cur, hv, _⟩
  · subst hv h0
    obtain rfl : l = [] := List.eq_nil_of_length_eq_zero hlen
    exact wpList_nil_string hgd src dst x ho e hx hs he hd h
  · subst hv
    exact wpList_bytes_string hgd src dst x ho e g 0 n cap hx l hlen hs he hd (range_of_own hown) h
theorem news_two (w : World) (a b : Value) (T : TypeId) : ∀ j u, [a, b][j]? = some u → ((w.alloc (.cells #[a, b] T)).drew).cell? ((⟨w.heap.size, 0, none⟩ : Addr).add j) = some u :=
  World.news_of_block (w := (w.alloc (.cells #[a, b] T)).drew) (cs := #[a, b]) (fr := (0, 0)) (t := T) (heap_alloc_new w _)
theorem own_drew {w : World} {B n : Nat} {e : TypeId} {v : Value} {xs : List Value} (h : w.ownsRow B e 1 v n xs) : w.drew.ownsRow B e 1 v n xs := h
/-- A text appended to bytes that have room for it. -/
theorem run_append_room_list {P : Program} (w : World) (t u ty e : TypeId) (i : TypeInfo) (ht : P.underlying t = some (.slice e)) (hu : P.underlying u = some .string) (hi : P.info? e = some i) (hs1 : i.size = 1)
    (g n cap : Nat) (A B : List Value) (hg : w.heap[g]? = some (.cells (A ++ B).toArray e (0, 0))) (hA : A.length = n) (p : List UInt8) (hB : p.length ≤ B.length) (hroom : n + p.length ≤ cap) :
    ∃ w', (Builtin.append_ #[t, u] ty #[.slice (some ⟨g, 0, none⟩) n cap, .string (bs p)]).run P w = .ok (.slice (some ⟨g, 0, none⟩) (n + p.length) cap) w' ∧
      w'.heap[g]? = some (.cells ((A ++ p.map u8v) ++ B.drop p.length).toArray e (0, 0)) ∧ Kept w.heap.size [g] w w' ∧ w'.heap.size = w.heap.size := by
  have hr := Lib.run_append_room_string (P := P) w t u ty e i ht hu hi hs1 g n cap (A ++ B).toArray hg (bs p) (by rw [bs_size]; exact hroom) (by rw [bs_size]; simp; omega)
  rw [bs_size] at hr
  refine ⟨_, hr, ?_, ?_, ?_⟩
  · rw [setRow_heap w g _ _ e _ hg]
    congr 3
    subst hA
    simp only [Lib.strCells, bs_list]
    rw [List.take_left, List.drop_append, List.drop_eq_nil_of_le (by omega), List.nil_append, Nat.add_sub_cancel_left]
    rfl
  · exact ⟨rfl, rfl, rfl, by simp, fun k _ hk => setRow_other w g k _ (fun e => hk (by simp [e]))⟩
  · simp
theorem step_append_room {P : Program} {ops : Array Oper} {o : Oper} {a : Act} {w : World} {K : Act → World → Prop} {Q : Exit → Act → World → Prop} {E : Prop} (hgd : o.guard = none) (s x : Operand) (t u : TypeId)
    (ho : o.op = .call { callee := .builtin .append, args := #[s, x], argTypes := #[t, u] }) (e : TypeId) (i : TypeInfo) (ht : P.underlying t = some (.slice e)) (hu : P.underlying u = some .string) (hi : P.info? e = some i) (hs1 : i.size = 1)
    (g n cap : Nat) (A B : List Value) (hs : a.eval s = .slice (some ⟨g, 0, none⟩) n cap) (p : List UInt8) (hx : a.eval x = .string (bs p)) (hg : w.heap[g]? = some (.cells (A ++ B).toArray e (0, 0))) (hA : A.length = n) (hB : p.length ≤ B.length) (hroom : n + p.length ≤ cap) (dst : Option Tmp) (hdst : o.dst = dst)
    (h : ∀ w', Hid (w'.heap[g]? = some (.cells ((A ++ p.map u8v) ++ B.drop p.length).toArray e (0, 0))) → Hid (Kept w.heap.size [g] w w') → Hid (w'.heap.size = w.heap.size) → K (a.put dst (.slice (some ⟨g, 0, none⟩) (n + p.length) cap)) w') :
    if Region.wanted o (yielded ops a.tmps) = true then Oper.wp P o a w K Q else E := by
  subst hdst
  have hw : Region.wanted o (yielded ops a.tmps) = true := by simp [Region.wanted, hgd]
  rw [if_pos hw]
  obtain ⟨w', hrun, h1, h2, h3⟩ := run_append_room_list w t u o.type e i ht hu hi hs1 g n cap A B hg hA p hB hroom
  unfold Oper.wp
  simp [execOp, ho, resolve, invoke, builtin, hs, hx, hrun, Result.andThen]
  exact h w' (Lib.hid h1) (Lib.hid h2) (Lib.hid h3)
theorem own_below {w w' : World} {B n size : Nat} {e : TypeId} {v : Value} {xs : List Value} (h : w.ownsRow B e size v n xs) (hb : Below w.heap.size w w') : w'.ownsRow B e size v n xs := by
  refine ⟨h.1, ?_⟩
  rcases h.2 with h0 | ⟨g, cap, cur, h0, hB, hg, r⟩
  · exact Or.inl h0
  · exact Or.inr ⟨g, cap, cur, h0, hB, (hb.block g (lt_of_heap hg)).trans hg, r⟩
theorem one_u8 (x : Int) : ∀ u ∈ [Value.int .u8 x], u.oneCell' = true := by intro u hu; simp only [List.mem_singleton] at hu; rw [hu]; rfl
theorem add_any (a b : List UInt8) (h : a.length + b.length ≤ 9223372036854775807) (w : World) : (Op.stringOp .add (bs a) (bs b)).run Tryd.prog w = .ok (.string (bs (a ++ b))) w := by
  rw [run_string_add_sum w _ _ (by rw [bs_size, bs_size]; omega), bs_append]
theorem bs_some {l : List UInt8} (h : l ≠ []) : (bs l).toList.isEmpty = false := by
  rw [ByteArray.toList_eq, bs_list]
  cases l with
  | nil => exact absurd rfl h
  | cons c r => rfl
theorem bs_none : (bs []).toList.isEmpty = true := by rw [ByteArray.toList_eq, bs_list]; rfl
theorem results_tmp4 {fn : Func} {t u v x : Tmp} (h : fn.results = #[.tmp t, .tmp u, .tmp v, .tmp x]) (tmps : Array Value) (P : Program) (w : World) :
    (results fn tmps).run P w = .ok (.tuple #[tmps.getD t undef, tmps.getD u undef, tmps.getD v undef, tmps.getD x undef]) w := by
  simp [results, h]
/-- append to a row that is owned: where it then lies. -/
theorem wpList_append_where {P : Program} {w : World} {ops : Array Oper} {rest : List Oper} {o : Oper} {a : Act} {Q : Exit → Act → World → Prop} (hgd : o.guard = none) (s x : Operand) (t : TypeId)
    (ho : o.op = .call { callee := .builtin .append, args := #[s, x], argTypes := #[t, t] })
    (base : Nat) (e : TypeId) (i : TypeInfo) (z : Value) (size bytes : Nat) (ht : P.underlying t = some (.slice e)) (hi : P.info? e = some i) (hz : i.zero = some z)
    (hsize : i.size = size) (hby : i.bytes = bytes) (hzs : z.cells.size = size) (hsz : 0 < size)
    (v : Value) (n : Nat) (xs : List Value) (hs : a.eval s = v) (hown : w.ownsRow base e size v n xs)
    (ad : Addr) (m c : Nat) (news : List Value) (hx : a.eval x = .slice (some ad) m c) (hm : 0 < m) (hl : news.length = m * size) (hnews : ∀ j u, news[j]? = some u → w.cell? (ad.add j) = some u) (h1 : ∀ u ∈ news, u.oneCell' = true)
    (h63 : n + m ≤ maxLen) (hbytes : (n + m) * bytes ≤ 140737488355328) (hbase : base ≤ w.heap.size)
    (h : ∀ g cap w', Hid (w'.ownsRow base e size (.slice (some ⟨g, 0, none⟩) (n + m) cap) (n + m) (xs ++ news)) → Hid (w.grownBy w' v.ownBlock) → Hid (v.ownBlock = some g ∨ w.heap.size ≤ g) → wpList P ops Q rest (a.put o.dst (.slice (some ⟨g, 0, none⟩) (n + m) cap)) w') : wpList P ops Q (o :: rest) a w := by
  obtain ⟨g, cap, w', hrun, h2, h3, h4⟩ := run_append_where (P := P) w base t o.type e i z size bytes ht hi hz hsize hby hzs hsz v n xs hown ad m c news hm hl hnews h1 h63 hbytes hbase
  refine wpList_run hgd _ w' ?_ (h g cap w' (Lib.hid h2) (Lib.hid h3) (Lib.hid h4))
  simp [execOp, ho, resolve, invoke, builtin, hs, hx, hrun, Result.andThen]
end Go.Proofs.YthfnlnhehececaaDoor
