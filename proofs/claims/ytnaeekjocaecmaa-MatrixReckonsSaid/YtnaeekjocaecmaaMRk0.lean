/- Merged: MLent MOwnB MLent2 MLent3 (for a claim's number of files). -/
import Derived.Test.YtnaeekjocaecmaaMRefP
import Derived.Test.YtnaeekjocaecmaaMRefQ
/- What MatrixApplies and MatrixReckons hand over: whether a matrix is wide, a matrix lent. -/
namespace Go.Proofs.Ytnaeekjocaecmaa
open Go.RowKit

@[irreducible] def wideB (r c : Int) (len : Nat) : Bool := decide (40 < r ∨ 40 < c ∨ 1600 < len)
theorem wideB_eq (r c : Int) (len : Nat) : wideB r c len = decide (40 < r ∨ 40 < c ∨ 1600 < len) := by unfold wideB; rfl
set_option maxRecDepth 20000 in
set_option maxHeartbeats 2000000 in
theorem wide_any (r c : Int) (a0 : Option Addr) (len cap : Nat) (w : World) : Calls Try.prog 19 #[.agg #[.int .i64 r, .int .i64 c, .slice a0 len cap]] w fun e w' => e = .returned (.bool (wideB r c len)) ∧ Below w.heap.size w w' := by
  obtain ⟨q, hq⟩ : ∃ q, wideB r c len = q := ⟨_, rfl⟩
  rw [hq]
  rw [wideB_eq] at hq
  obtain ⟨wa, hwa⟩ : ∃ wa, wa = w.alloc (.cells #[.int .i64 r, .int .i64 c, .slice a0 len cap] 24) := ⟨_, rfl⟩
  have R0 : Hid (RA r c a0 len cap w wa) := Lib.hid (by rw [hwa]; exact RA.new _ _ _ _ _ _)
  have HWA := Lib.hid hwa
  have HQ := Lib.hid hq
  obtain ⟨d0, d1, d2⟩ := heap_cell0 R0.out.box
  clear hwa hq
  by_cases h1 : 40 < r
  · have b1 : decide (40 < r) = true := decide_eq_true h1
    have HV : Hid (q = true) := Lib.hid (by rw [← HQ.out]; exact decide_eq_true (.inl h1))
    go_enter Try.func19, Try.ntmps19
    go_wp2_with fail
    rw [← HWA.out]
    go_ret
    exact ⟨ret_bool HV.out.symm, R0.out.old⟩
  · have b1 : decide (40 < r) = false := decide_eq_false h1
    by_cases h2 : 40 < c
    · have b2 : decide (40 < c) = true := decide_eq_true h2
      have HV : Hid (q = true) := Lib.hid (by rw [← HQ.out]; exact decide_eq_true (.inr (.inl h2)))
      go_enter Try.func19, Try.ntmps19
      go_wp2_with fail
      rw [← HWA.out]
      go_ret
      exact ⟨ret_bool HV.out.symm, R0.out.old⟩
    · have b2 : decide (40 < c) = false := decide_eq_false h2
      by_cases h3 : 1600 < len
      · have b3 : decide ((1600 : Int) < (len : Int)) = true := decide_eq_true (by omega)
        have HV : Hid (q = true) := Lib.hid (by rw [← HQ.out]; exact decide_eq_true (.inr (.inr h3)))
        go_enter Try.func19, Try.ntmps19
        go_wp2_with fail
        rw [← HWA.out]
        go_ret
        exact ⟨ret_bool HV.out.symm, R0.out.old⟩
      · have b3 : decide ((1600 : Int) < (len : Int)) = false := decide_eq_false (by omega)
        have HV : Hid (q = false) := Lib.hid (by rw [← HQ.out]; exact decide_eq_false (by rintro (h | h | h); exact h1 h; exact h2 h; exact h3 h))
        go_enter Try.func19, Try.ntmps19
        go_wp2_with fail
        rw [← HWA.out]
        go_ret
        exact ⟨ret_bool HV.out.symm, R0.out.old⟩
end Go.Proofs.Ytnaeekjocaecmaa

/- Lists of bytes that a slice owns, and append to them. -/
namespace Go.Proofs.Ytnaeekjocaecmaa
open Go.RowKit

def OwnB (B : Nat) (v : Value) (l : List UInt8) (w : World) : Prop := w.ownsRow B 5 1 v l.length (l.map u8v)
theorem OwnB.nil (B : Nat) (w : World) : OwnB B (.slice none 0 0) [] w := World.ownsRow_nil _ _ _ _
theorem OwnB.lt {B : Nat} {v : Value} {l : List UInt8} {w : World} (h : OwnB B v l w) : ∀ k, v.ownBlock = some k → B ≤ k ∧ k < w.heap.size := World.ownsRow.lt h
theorem OwnB.alloc {B : Nat} {v : Value} {l : List UInt8} {w : World} (h : OwnB B v l w) (o : Obj) : OwnB B v l (w.alloc o) := World.ownsRow.alloc h o
theorem OwnB.drew {B : Nat} {v : Value} {l : List UInt8} {w : World} (h : OwnB B v l w) : OwnB B v l w.drew := h
theorem OwnB.kept {B : Nat} {v : Value} {l : List UInt8} {w w' : World} {row : Option Nat} (h : OwnB B v l w) (hg : w.grownBy w' row) (hne : v.ownBlock = none ∨ v.ownBlock ≠ row) : OwnB B v l w' := World.ownsRow.kept h hg hne
theorem OwnB.below {B : Nat} {v : Value} {l : List UInt8} {w w' : World} (h : OwnB B v l w) (hb : Below w.heap.size w w') : OwnB B v l w' := by
  refine h.kept (row := none) ⟨hb.os, hb.tape, hb.output, hb.size, fun k hk _ => hb.block k hk⟩ ?_
  cases h2 : v.ownBlock with
  | none => exact .inl rfl
  | some k => exact .inr (fun e => by cases e)
theorem OwnB.form {B : Nat} {v : Value} {l : List UInt8} {w : World} (h : OwnB B v l w) (hn : 0 < l.length) : ∃ g cap, v = .slice (some ⟨g, 0, none⟩) l.length cap ∧ l.length ≤ cap ∧ B ≤ g ∧ g < w.heap.size := by
  have hl := h.lt
  rcases h.2 with ⟨_, h0⟩ | ⟨g, cap, cur, hv, _, _, hn, _, _, _⟩
  · omega
  · exact ⟨g, cap, hv, hn, hl g (by rw [hv]; rfl)⟩
theorem OwnB.cell {B g cap : Nat} {l : List UInt8} {w : World} (h : OwnB B (.slice (some ⟨g, 0, none⟩) l.length cap) l w) {j : Nat} {x : UInt8} (hj : l[j]? = some x) : w.cell? ⟨g, j, none⟩ = some (u8v x) := by
  have := World.ownsRow.cells h (g := g) rfl j (u8v x) (by rw [List.getElem?_map, hj]; rfl)
  rw [Addr.add_mid, Nat.zero_add] at this; exact this
theorem OwnB.cell' {B g cap L : Nat} {l : List UInt8} {w : World} (h : OwnB B (.slice (some ⟨g, 0, none⟩) l.length cap) l w) (_ : L = l.length) {j : Nat} {x : UInt8} (hj : l[j]? = some x) : w.cell? ⟨g, j, none⟩ = some (u8v x) := h.cell hj
theorem OwnB.takes {B g cap : Nat} {l : List UInt8} {w : World} (h : OwnB B (.slice (some ⟨g, 0, none⟩) l.length cap) l w) (i : Nat) : ∀ j u, ((l.take i).map u8v)[j]? = some u → w.cell? ((⟨g, 0, none⟩ : Addr).add j) = some u := by
  intro j u hu
  have hj : j < i := by have := (List.getElem?_eq_some_iff.1 hu).1; rw [List.length_map, List.length_take] at this; omega
  rw [List.getElem?_map, List.getElem?_take, if_pos hj] at hu
  exact World.ownsRow.cells h (g := g) rfl j u (by rw [List.getElem?_map]; exact hu)
theorem OwnB.drops {B g cap : Nat} {l : List UInt8} {w : World} (h : OwnB B (.slice (some ⟨g, 0, none⟩) l.length cap) l w) (i : Nat) : ∀ j u, ((l.drop i).map u8v)[j]? = some u → w.cell? ((⟨g, i, none⟩ : Addr).add j) = some u := by
  intro j u hu
  rw [List.getElem?_map, List.getElem?_drop] at hu
  have := World.ownsRow.cells h (g := g) rfl (i + j) u (by rw [List.getElem?_map]; exact hu)
  rw [Addr.add_mid] at this ⊢
  rw [Nat.zero_add] at this; exact this
theorem u8v_ones (l : List UInt8) : ∀ u ∈ l.map u8v, u.oneCell' = true := fun u hu => by obtain ⟨x, _, rfl⟩ := List.mem_map.1 hu; rfl
theorem wp_append_bytes {w : World} {o : Oper} {a : Act} {K : Act → World → Prop} {Q : Exit → Act → World → Prop} (s x : Operand) (ho : o.op = .call { callee := .builtin .append, args := #[s, x], argTypes := #[22, 22] })
    (B : Nat) (v : Value) (l : List UInt8) (hs : a.eval s = v) (hown : OwnB B v l w) (ad : Addr) (m c : Nat) (news : List UInt8) (hx : a.eval x = .slice (some ad) m c) (hl : news.length = m) (hnews : ∀ j u, (news.map u8v)[j]? = some u → w.cell? (ad.add j) = some u) (hmax : l.length + m ≤ 1000000) (hB : B ≤ w.heap.size)
    (h : ∀ v' w', Hid (OwnB B v' (l ++ news) w') → Hid (w.grownBy w' v.ownBlock) → K (a.put o.dst v') w') : o.wp Try.prog a w K Q := by
  obtain ⟨i0, hi, hz0, hz1, hz2⟩ := ginfo_parts infoByte
  refine wp_append_own w s x 22 ho B 5 i0 (.int .u8 0) 1 1 Try.underlying22 hi hz0 hz1 hz2 rfl (by decide) v l.length (l.map u8v) hs hown ad m c (news.map u8v) hx (by rw [List.length_map, hl, Nat.mul_one]) hnews (u8v_ones _) (by unfold maxLen; omega) (by omega) hB fun v' w' h2 h3 _ => h v' w' (Lib.hid ?_) (Lib.hid h3)
  unfold OwnB
  rw [List.length_append, hl, List.map_append]; exact h2
theorem wpList_append_bytes {w : World} {ops : Array Oper} {rest : List Oper} {o : Oper} {a : Act} {Q : Exit → Act → World → Prop} (hgd : o.guard = none) (s x : Operand) (ho : o.op = .call { callee := .builtin .append, args := #[s, x], argTypes := #[22, 22] })
    (B : Nat) (v : Value) (l : List UInt8) (hs : a.eval s = v) (hown : OwnB B v l w) (ad : Addr) (m c : Nat) (news : List UInt8) (hx : a.eval x = .slice (some ad) m c) (hl : news.length = m) (hnews : ∀ j u, (news.map u8v)[j]? = some u → w.cell? (ad.add j) = some u) (hmax : l.length + m ≤ 1000000) (hB : B ≤ w.heap.size)
    (h : ∀ v' w', Hid (OwnB B v' (l ++ news) w') → Hid (w.grownBy w' v.ownBlock) → wpList Try.prog ops Q rest (a.put o.dst v') w') : wpList Try.prog ops Q (o :: rest) a w :=
  wpList_plain hgd fun _ hK => wp_append_bytes s x ho B v l hs hown ad m c news hx hl hnews hmax hB fun v' w' h2 h3 => hK _ _ (h v' w' h2 h3)
theorem step_append_bytes {w : World} {ops : Array Oper} {o : Oper} {a : Act} {K : Act → World → Prop} {Q : Exit → Act → World → Prop} {E : Prop} (hgd : o.guard = none) (s x : Operand) (ho : o.op = .call { callee := .builtin .append, args := #[s, x], argTypes := #[22, 22] })
    (B : Nat) (v : Value) (l : List UInt8) (hs : a.eval s = v) (hown : OwnB B v l w) (ad : Addr) (m c : Nat) (news : List UInt8) (hx : a.eval x = .slice (some ad) m c) (hl : news.length = m) (hnews : ∀ j u, (news.map u8v)[j]? = some u → w.cell? (ad.add j) = some u) (hmax : l.length + m ≤ 1000000) (hB : B ≤ w.heap.size) (dst : Option Tmp) (hdst : o.dst = dst)
    (h : ∀ v' w', Hid (OwnB B v' (l ++ news) w') → Hid (w.grownBy w' v.ownBlock) → K (a.put dst v') w') : if Region.wanted o (yielded ops a.tmps) = true then Oper.wp Try.prog o a w K Q else E := by
  have hw : Region.wanted o (yielded ops a.tmps) = true := by simp [Region.wanted, hgd]
  rw [if_pos hw]
  subst hdst
  exact wp_append_bytes s x ho B v l hs hown ad m c news hx hl hnews hmax hB h
/-- A number in a block of its own. -/
theorem one_byte (w : World) (x : UInt8) : ∀ j u, (([x] : List UInt8).map u8v)[j]? = some u → (w.alloc (.cells #[u8v x] 5)).cell? ((⟨w.heap.size, 0, none⟩ : Addr).add j) = some u := by
  intro j u hu
  have h := heap_alloc_new w (.cells #[u8v x] 5)
  rw [Addr.add_mid, Nat.zero_add, cell_of_list (cs := [u8v x]) h]; exact hu
theorem grown_belowB {B : Nat} {v : Value} {l : List UInt8} {w0 w w' : World} (hb : Below B w0 w) (hB : B ≤ w.heap.size) (h : OwnB B v l w) (hg : w.grownBy w' v.ownBlock) : Below B w0 w' := hb.grown hg hB (fun k hk => (h.lt k hk).1)
end Go.Proofs.Ytnaeekjocaecmaa

/- The walk of lent. -/
namespace Go.Proofs.Ytnaeekjocaecmaa
open Go.RowKit

theorem lent_facts {v v2 : Value} {l : List UInt8} {w0 w1 w2 : World} {o : Obj} {len : Nat} (h1 : OwnB w0.heap.size v l w1) (hb : Below w0.heap.size w0 w1) (h2 : OwnB w0.heap.size v2 (l ++ [77]) w2) (hg : (w1.alloc o).grownBy w2 v.ownBlock) (hl : l.length = len) :
    ∃ g cap2, v2 = .slice (some ⟨g, 0, none⟩) (len + 1) cap2 ∧ len + 1 ≤ cap2 ∧ w0.heap.size ≤ g ∧ g < w2.heap.size ∧ w2.rangeAt g 0 (l.map u8v) ∧ Below w0.heap.size w0 w2 ∧ w2.cell? ⟨g, len, none⟩ = some (.int .u8 77) := by
  obtain ⟨g, cap2, hv, hc, hlo, hlt⟩ := h2.form (by simp)
  have hn : (l ++ [77]).length = len + 1 := by rw [List.length_append, hl]; rfl
  rw [hn] at hv hc
  refine ⟨g, cap2, hv, hc, hlo, hlt, fun j u hu => ?_, grown_belowB (hb.alloc hb.size o) (by have := hb.size; simp; omega) (h1.alloc o) hg, ?_⟩
  · rw [hv, ← hn] at h2
    have hj : j < l.length := by have := (List.getElem?_eq_some_iff.1 hu).1; rw [List.length_map] at this; exact this
    rw [List.getElem?_map, List.getElem?_eq_getElem hj] at hu
    have := h2.cell (j := j) (x := l[j]) (by rw [List.getElem?_append_left hj, List.getElem?_eq_getElem hj])
    rw [Nat.zero_add, this]; exact hu
  · rw [hv, ← hn] at h2
    have := h2.cell (j := len) (x := 77) (by rw [← hl, List.getElem?_append_right (Nat.le_refl _)]; simp)
    exact this
theorem one_77 (w : World) : ∀ j u, (([77] : List UInt8).map u8v)[j]? = some u → (w.alloc (.cells #[.int .u8 77] 5)).cell? ((⟨w.heap.size, 0, none⟩ : Addr).add j) = some u := by
  have h := one_byte w 77
  rw [show u8v 77 = Value.int .u8 77 from rfl] at h
  exact h
/-- The place of the answer. -/
structure Res0 (R : Nat) (w : World) : Prop where
  at_ : ResAt R 24 w
theorem Res0.below' {R : Nat} {w w' : World} (h : Res0 R w) (hb : Below w.heap.size w w') : Res0 R w' := ⟨h.at_.below hb h.at_.lt⟩
theorem lent_res {R : Nat} {w : World} (h : Res0 (R + 1) w) (v : Value) : (w.setCell ⟨R, 2, none⟩ v).heap[R + 1]? = some (.cells zeroRow.toArray 24 (0, 0)) := (heap_setCell_other _ _ _ _ (by show R + 1 ≠ R; omega)).trans h.at_
theorem lent_ones (r c : Int) (g n m : Nat) : ∀ v ∈ [Value.int .i64 r, .int .i64 c, .slice (some ⟨g, 0, none⟩) n m], v.oneCell' = true := fun v hv => by simp at hv; rcases hv with rfl | rfl | rfl <;> rfl
theorem lt_of_block {w w' : World} {g : Nat} (h : w'.heap[g]? = w.heap[g]?) (hl : g < w.heap.size) : g < w'.heap.size := by
  rw [Array.getElem?_eq_getElem hl] at h
  exact lt_of_heap h
set_option maxRecDepth 20000 in
set_option maxHeartbeats 2000000 in
theorem lent_pos (r c : Int) (b o len cap : Nat) (l : List UInt8) (hll : l.length = len) (hpos : 0 < len) (hlen : len ≤ 1600) (w : World) (hbl : b < w.heap.size) (hrg : w.rangeAt b o (l.map u8v)) :
    Calls Try.prog 20 #[.agg #[.int .i64 r, .int .i64 c, .slice (some ⟨b, o, none⟩) len cap]] w fun e w' => ∃ g cap2, e = .returned (.agg #[.int .i64 r, .int .i64 c, .slice (some ⟨g, 0, none⟩) len cap2]) ∧ Hand (some ⟨g, 0, none⟩) len cap2 l w' ∧ ((len : Nat) + 1 ≤ cap2 ∧ w'.cell? ⟨g, len, none⟩ = some (.int .u8 77) ∧ w.heap.size ≤ g ∧ g < w'.heap.size) ∧ Below w.heap.size w w' := by
  obtain ⟨wa, hwa⟩ : ∃ wa, wa = (w.alloc (.cells #[.int .i64 r, .int .i64 c, .slice (some ⟨b, o, none⟩) len cap] 24)).alloc (.cells #[.int .i64 0, .int .i64 0, .slice none 0 0] 24) := ⟨_, rfl⟩
  have R0 : Hid (RA r c (some ⟨b, o, none⟩) len cap w wa) := Lib.hid (by rw [hwa]; exact ⟨heap_alloc2_old _ _ _, (below_alloc w _).alloc (by simp) _⟩)
  have RES : Hid (Res0 (w.heap.size + 1) wa) := Lib.hid ⟨by rw [hwa]; exact heap_alloc2_new _ _ _⟩
  have HSZ : Hid (wa.heap.size = w.heap.size + 1 + 1) := Lib.hid (by rw [hwa]; simp)
  have HWA := Lib.hid hwa
  have HLL := Lib.hid hll
  have HN : Hid (∀ j u, (l.map u8v)[j]? = some u → wa.cell? ((⟨b, o, none⟩ : Addr).add j) = some u) := Lib.hid (fun j u hu => by
    rw [Addr.add_mid]
    exact (R0.out.old.cell (p := ⟨b, o + j, none⟩) hbl).trans (hrg j u hu))
  obtain ⟨d0, d1, d2⟩ := heap_cell0 R0.out.box
  clear hwa hll hrg
  go_enter Try.func20, Try.ntmps20
  go_wp2_with (first | (at_builtin; rw [← HWA.out]; refine wpList_append_bytes rfl (.const (.slice none 0 0)) (.tmp 5) rfl wa.heap.size _ [] rfl (OwnB.nil _ _) ⟨b, o, none⟩ len cap l rfl HLL.out HN.out (by first | omega | (simp; omega))  (Nat.le_refl _) ?_; intro v1 w1 ho1 hg1; obtain ⟨g1, cap1, hv1, hc1, hgl1, hl1⟩ := (show OwnB wa.heap.size v1 l w1 from ho1.out).form (by rw [HLL.out]; exact hpos); rw [HLL.out] at hv1 hc1; subst hv1; have HO1 := Lib.hid (show OwnB wa.heap.size _ l w1 from ho1.out); have HB1 := Lib.hid (show Below wa.heap.size wa w1 from ⟨hg1.out.os, hg1.out.tape, hg1.out.output, hg1.out.size, fun k hk => hg1.out.block k hk (fun e => by cases e)⟩); clear ho1 hg1; go_frame) | (at_builtin; go_loud (refine wpList_append_bytes rfl (.tmp 7) (.tmp 8) rfl wa.heap.size _ l rfl (HO1.out.alloc _) ⟨w1.heap.size, 0, none⟩ 1 1 [77] rfl rfl (one_77 w1) (by rw [HLL.out]; omega) (Nat.le_trans HB1.out.size (by simp)) ?_; intro v2 w2 ho hg; obtain ⟨g, cap2, hv2, hc2, hg2, hg2l, hrng, hB2, h77⟩ := lent_facts HO1.out HB1.out ho.out hg.out HLL.out; subst hv2; have HR := Lib.hid hrng; have H77 := Lib.hid h77; have HB2 := Lib.hid hB2; have R2 := Lib.hid (R0.out.below HB2.out); have E2 := Lib.hid (RES.out.below' HB2.out); obtain ⟨f0, f1, f2⟩ := heap_cell0 R2.out.box; have ff := free_of_list R2.out.box 2; have q1 : (0 : Int) ≤ (len : Int) := (by omega); have q2 : (len : Int) ≤ (cap2 : Int) := (by omega); clear hrng hB2 ho hg h77; go_frame)) | (refine wpList_store_whole rfl 24 _ _ rfl (w.heap.size + 1) [.int .i64 r, .int .i64 c, .slice (some ⟨g, 0, none⟩) len cap2] zeroRow 24 rfl rfl (lent_res E2.out _) rfl (by kernel_rfl) (lent_ones _ _ _ _ _) ?_; intro w4 h4 k4 s4; go_frame))
  have hB4 : Below w.heap.size w (w2.setCell ⟨w.heap.size, 2, none⟩ (.slice (some ⟨g, 0, none⟩) len cap2)) := below_kept R2.out.old ((Kept.refl w2.heap.size [w.heap.size] w2).setCell (p := ⟨w.heap.size, 2, none⟩) (by simp) _) (Nat.le_refl _) R2.out.old.size
  have hgs := HSZ.out
  have hk : w4.heap[g]? = w2.heap[g]? := (k4.out.block g (by simp [World.setCell]; omega) (by simp; omega)).trans (heap_setCell_other _ _ _ _ (by show g ≠ w.heap.size; omega))
  exact bodyPost_ret (results_mid Try.results20 _ _ (w.heap.size + 1) 0 [.int .i64 r, .int .i64 c, .slice (some ⟨g, 0, none⟩) len cap2] _ rfl (range_of_list h4.out) Try.underlying24 rfl (by kernel_rfl)) rfl ⟨g, cap2, rfl, ⟨HLL.out, by omega, fun _ => ⟨g, 0, rfl, lt_of_block hk hg2l, fun j u hu => (World.cell?_of_block (w := w2) (a := ⟨g, 0 + j, none⟩) hk).trans (HR.out j u hu)⟩⟩, ⟨by omega, (World.cell?_of_block (w := w2) (a := ⟨g, _, none⟩) hk).trans H77.out, by omega, lt_of_block hk hg2l⟩, below_kept hB4 k4.out (by omega) hB4.size⟩
end Go.Proofs.Ytnaeekjocaecmaa

/- The walk of lent, of nothing; lent. -/
namespace Go.Proofs.Ytnaeekjocaecmaa
open Go.RowKit

theorem wpList_nil_append {w : World} {ops : Array Oper} {rest : List Oper} {o : Oper} {a : Act} {Q : Exit → Act → World → Prop} (hgd : o.guard = none) (s x : Operand) (ho : o.op = .call { callee := .builtin .append, args := #[s, x], argTypes := #[22, 22] })
    (hs : a.eval s = .slice none 0 0) (ao : Option Addr) (cx : Nat) (hx : a.eval x = .slice ao 0 cx) (hrun : ∀ v : World, (Builtin.append_ #[22, 22] o.type #[.slice none 0 0, .slice ao 0 cx]).run Try.prog v = .ok (.slice none 0 0) v)
    (h : wpList Try.prog ops Q rest (a.put o.dst (.slice none 0 0)) w) : wpList Try.prog ops Q (o :: rest) a w := by
  refine wpList_plain hgd fun K hK' => ?_
  have hr := hrun w
  unfold Oper.wp
  simp [execOp, ho, resolve, invoke, builtin, hs, hx, hr, Result.andThen]
  exact hK' _ _ h
theorem nil_none (ty : TypeId) (v : World) : (Builtin.append_ #[22, 22] ty #[.slice none 0 0, .slice none 0 0]).run Try.prog v = .ok (.slice none 0 0) v := by
  obtain ⟨i0, hi, _, _, _⟩ := ginfo_parts infoByte
  exact run_append_owned_none (P := Try.prog) v v.heap.size 22 ty 5 i0 1 Try.underlying22 hi (.slice none 0 0) 0 [] (World.ownsRow_nil v _ _ _)
theorem nil_some (ty : TypeId) (ad : Addr) (c : Nat) (v : World) : (Builtin.append_ #[22, 22] ty #[.slice none 0 0, .slice (some ad) 0 c]).run Try.prog v = .ok (.slice none 0 0) v := by
  obtain ⟨i0, hi, _, _, _⟩ := ginfo_parts infoByte
  have hl := run_loadCells_list (P := Try.prog) v ad [] (fun j u hu => by simp at hu)
  simp only [List.length_nil] at hl
  simp [Builtin.append_, run_underlying Try.underlying22, sizeOf, typeInfo, hi, Builtin.lenOf, Builtin.firstCells, hl, Result.andThen]
set_option maxRecDepth 20000 in
set_option maxHeartbeats 2000000 in
theorem lent_zero (r c : Int) (a0 : Option Addr) (cap : Nat) (hz : a0 = none → cap = 0) (w : World) :
    Calls Try.prog 20 #[.agg #[.int .i64 r, .int .i64 c, .slice a0 0 cap]] w fun e w' => ∃ g cap2, e = .returned (.agg #[.int .i64 r, .int .i64 c, .slice (some ⟨g, 0, none⟩) 0 cap2]) ∧ Hand (some ⟨g, 0, none⟩) 0 cap2 [] w' ∧ ((0 : Nat) + 1 ≤ cap2 ∧ w'.cell? ⟨g, 0, none⟩ = some (.int .u8 77) ∧ w.heap.size ≤ g ∧ g < w'.heap.size) ∧ Below w.heap.size w w' := by
  obtain ⟨wa, hwa⟩ : ∃ wa, wa = (w.alloc (.cells #[.int .i64 r, .int .i64 c, .slice a0 0 cap] 24)).alloc (.cells #[.int .i64 0, .int .i64 0, .slice none 0 0] 24) := ⟨_, rfl⟩
  have R0 : Hid (RA r c a0 0 cap w wa) := Lib.hid (by rw [hwa]; exact ⟨heap_alloc2_old _ _ _, (below_alloc w _).alloc (by simp) _⟩)
  have RES : Hid (Res0 (w.heap.size + 1) wa) := Lib.hid ⟨by rw [hwa]; exact heap_alloc2_new _ _ _⟩
  have HSZ : Hid (wa.heap.size = w.heap.size + 1 + 1) := Lib.hid (by rw [hwa]; simp)
  have HWA := Lib.hid hwa
  have HLL : Hid (([] : List UInt8).length = 0) := Lib.hid rfl
  have HO1 : Hid (OwnB wa.heap.size (.slice none 0 0) [] wa) := Lib.hid (OwnB.nil _ _)
  have HB1 : Hid (Below wa.heap.size wa wa) := Lib.hid (Below.refl _ _)
  clear hwa
  cases a0 with
  | none =>
    obtain rfl := hz rfl
    have HNIL := Lib.hid (nil_none 22)
    go_enter Try.func20, Try.ntmps20
    go_wp2_with (first | (at_builtin; (refine wpList_nil_append rfl (.const (.slice none 0 0)) (.tmp 5) rfl rfl none 0 rfl (fun v => HNIL.out v) ?_; go_frame)) | (at_builtin; go_loud (rw [← HWA.out]; refine wpList_append_bytes rfl (.tmp 7) (.tmp 8) rfl wa.heap.size _ [] rfl (HO1.out.alloc _) ⟨w.heap.size + 1 + 1, 0, none⟩ 1 1 [77] rfl rfl (by have h7 := one_77 wa; rw [HSZ.out] at h7; exact h7) (by simp) (Nat.le_trans HB1.out.size (by simp)) ?_; intro v2 w2 ho hg; obtain ⟨g, cap2, hv2, hc2, hg2, hg2l, hrng, hB2, h77⟩ := lent_facts HO1.out HB1.out ho.out hg.out HLL.out; subst hv2; have HR := Lib.hid hrng; have H77 := Lib.hid h77; have HB2 := Lib.hid hB2; have R2 := Lib.hid (R0.out.below HB2.out); have E2 := Lib.hid (RES.out.below' HB2.out); obtain ⟨f0, f1, f2⟩ := heap_cell0 R2.out.box; have ff := free_of_list R2.out.box 2; have q1 : (0 : Int) ≤ ((0 : Nat) : Int) := (by omega); have q2 : ((0 : Nat) : Int) ≤ (cap2 : Int) := (by omega); clear hrng hB2 ho hg h77; go_frame)) | (refine wpList_store_whole rfl 24 _ _ rfl (w.heap.size + 1) [.int .i64 r, .int .i64 c, .slice (some ⟨g, 0, none⟩) 0 cap2] zeroRow 24 rfl rfl (lent_res E2.out _) rfl (by kernel_rfl) (lent_ones _ _ _ _ _) ?_; intro w4 h4 k4 s4; go_frame))
    have hB4 : Below w.heap.size w (w2.setCell ⟨w.heap.size, 2, none⟩ (.slice (some ⟨g, 0, none⟩) 0 cap2)) := below_kept R2.out.old ((Kept.refl w2.heap.size [w.heap.size] w2).setCell (p := ⟨w.heap.size, 2, none⟩) (by simp) _) (Nat.le_refl _) R2.out.old.size
    have hgs := HSZ.out
    have hk : w4.heap[g]? = w2.heap[g]? := (k4.out.block g (by simp [World.setCell]; omega) (by simp; omega)).trans (heap_setCell_other _ _ _ _ (by show g ≠ w.heap.size; omega))
    exact bodyPost_ret (results_mid Try.results20 _ _ (w.heap.size + 1) 0 [.int .i64 r, .int .i64 c, .slice (some ⟨g, 0, none⟩) 0 cap2] _ rfl (range_of_list h4.out) Try.underlying24 rfl (by kernel_rfl)) rfl ⟨g, cap2, rfl, ⟨HLL.out, by omega, fun _ => ⟨g, 0, rfl, lt_of_block hk hg2l, fun j u hu => (World.cell?_of_block (w := w2) (a := ⟨g, 0 + j, none⟩) hk).trans (HR.out j u hu)⟩⟩, ⟨by omega, (World.cell?_of_block (w := w2) (a := ⟨g, _, none⟩) hk).trans H77.out, by omega, lt_of_block hk hg2l⟩, below_kept hB4 k4.out (by omega) hB4.size⟩
  | some ad =>
    have HNIL := Lib.hid (nil_some 22 ad cap)
    go_enter Try.func20, Try.ntmps20
    go_wp2_with (first | (at_builtin; (refine wpList_nil_append rfl (.const (.slice none 0 0)) (.tmp 5) rfl rfl (some ad) cap rfl (fun v => HNIL.out v) ?_; go_frame)) | (at_builtin; go_loud (rw [← HWA.out]; refine wpList_append_bytes rfl (.tmp 7) (.tmp 8) rfl wa.heap.size _ [] rfl (HO1.out.alloc _) ⟨w.heap.size + 1 + 1, 0, none⟩ 1 1 [77] rfl rfl (by have h7 := one_77 wa; rw [HSZ.out] at h7; exact h7) (by simp) (Nat.le_trans HB1.out.size (by simp)) ?_; intro v2 w2 ho hg; obtain ⟨g, cap2, hv2, hc2, hg2, hg2l, hrng, hB2, h77⟩ := lent_facts HO1.out HB1.out ho.out hg.out HLL.out; subst hv2; have HR := Lib.hid hrng; have H77 := Lib.hid h77; have HB2 := Lib.hid hB2; have R2 := Lib.hid (R0.out.below HB2.out); have E2 := Lib.hid (RES.out.below' HB2.out); obtain ⟨f0, f1, f2⟩ := heap_cell0 R2.out.box; have ff := free_of_list R2.out.box 2; have q1 : (0 : Int) ≤ ((0 : Nat) : Int) := (by omega); have q2 : ((0 : Nat) : Int) ≤ (cap2 : Int) := (by omega); clear hrng hB2 ho hg h77; go_frame)) | (refine wpList_store_whole rfl 24 _ _ rfl (w.heap.size + 1) [.int .i64 r, .int .i64 c, .slice (some ⟨g, 0, none⟩) 0 cap2] zeroRow 24 rfl rfl (lent_res E2.out _) rfl (by kernel_rfl) (lent_ones _ _ _ _ _) ?_; intro w4 h4 k4 s4; go_frame))
    have hB4 : Below w.heap.size w (w2.setCell ⟨w.heap.size, 2, none⟩ (.slice (some ⟨g, 0, none⟩) 0 cap2)) := below_kept R2.out.old ((Kept.refl w2.heap.size [w.heap.size] w2).setCell (p := ⟨w.heap.size, 2, none⟩) (by simp) _) (Nat.le_refl _) R2.out.old.size
    have hgs := HSZ.out
    have hk : w4.heap[g]? = w2.heap[g]? := (k4.out.block g (by simp [World.setCell]; omega) (by simp; omega)).trans (heap_setCell_other _ _ _ _ (by show g ≠ w.heap.size; omega))
    exact bodyPost_ret (results_mid Try.results20 _ _ (w.heap.size + 1) 0 [.int .i64 r, .int .i64 c, .slice (some ⟨g, 0, none⟩) 0 cap2] _ rfl (range_of_list h4.out) Try.underlying24 rfl (by kernel_rfl)) rfl ⟨g, cap2, rfl, ⟨HLL.out, by omega, fun _ => ⟨g, 0, rfl, lt_of_block hk hg2l, fun j u hu => (World.cell?_of_block (w := w2) (a := ⟨g, 0 + j, none⟩) hk).trans (HR.out j u hu)⟩⟩, ⟨by omega, (World.cell?_of_block (w := w2) (a := ⟨g, _, none⟩) hk).trans H77.out, by omega, lt_of_block hk hg2l⟩, below_kept hB4 k4.out (by omega) hB4.size⟩
theorem lent_full (r c : Int) (a0 : Option Addr) (len cap : Nat) (l : List UInt8) (hz : a0 = none → cap = 0) (hlen : len ≤ 1600) (w : World) (h : Hand a0 len cap l w) :
    Calls Try.prog 20 #[.agg #[.int .i64 r, .int .i64 c, .slice a0 len cap]] w fun e w' => ∃ g cap2, e = .returned (.agg #[.int .i64 r, .int .i64 c, .slice (some ⟨g, 0, none⟩) len cap2]) ∧ Hand (some ⟨g, 0, none⟩) len cap2 l w' ∧ ((len : Nat) + 1 ≤ cap2 ∧ w'.cell? ⟨g, len, none⟩ = some (.int .u8 77) ∧ w.heap.size ≤ g ∧ g < w'.heap.size) ∧ Below w.heap.size w w' := by
  by_cases h0 : 0 < len
  · obtain ⟨b, o, rfl, hbl, hr⟩ := h.cells h0
    exact lent_pos r c b o len cap l h.hl h0 hlen w hbl hr
  · obtain rfl : len = 0 := by omega
    obtain rfl : l = [] := List.eq_nil_of_length_eq_zero h.hl
    exact lent_zero r c a0 cap hz w
theorem lent_any (r c : Int) (a0 : Option Addr) (len cap : Nat) (l : List UInt8) (hz : a0 = none → cap = 0) (hlen : len ≤ 1600) (w : World) (h : Hand a0 len cap l w) :
    Calls Try.prog 20 #[.agg #[.int .i64 r, .int .i64 c, .slice a0 len cap]] w fun e w' => ∃ g cap2, e = .returned (.agg #[.int .i64 r, .int .i64 c, .slice (some ⟨g, 0, none⟩) len cap2]) ∧ Hand (some ⟨g, 0, none⟩) len cap2 l w' ∧ Below w.heap.size w w' :=
  (lent_full r c a0 len cap l hz hlen w h).mono fun _ _ ⟨g, cap2, he, hH, _, hb⟩ => ⟨g, cap2, he, hH, hb⟩
theorem wpList_nil_appendT {w : World} {ops : Array Oper} {rest : List Oper} {o : Oper} {a : Act} {Q : Exit → Act → World → Prop} (hgd : o.guard = none) (s x : Operand) (ho : o.op = .call { callee := .builtin .append, args := #[s, x], argTypes := #[51, 51] })
    (hs : a.eval s = .slice none 0 0) (ao : Option Addr) (cx : Nat) (hx : a.eval x = .slice ao 0 cx) (hz : ao = none → cx = 0)
    (h : wpList Try.prog ops Q rest (a.put o.dst (.slice none 0 0)) w) : wpList Try.prog ops Q (o :: rest) a w := by
  refine wpList_plain hgd fun K hK' => ?_
  have hr : (Builtin.append_ #[51, 51] o.type #[.slice none 0 0, .slice ao 0 cx]).run Try.prog w = .ok (.slice none 0 0) w := by
    obtain ⟨i0, hi, _, _, _⟩ := ginfo_parts infoStr
    cases ao with
    | none =>
      obtain rfl := hz rfl
      exact run_append_owned_none (P := Try.prog) w w.heap.size 51 o.type 9 i0 1 Try.underlying51 hi (.slice none 0 0) 0 [] (World.ownsRow_nil w _ _ _)
    | some ad =>
      have hl := run_loadCells_list (P := Try.prog) w ad [] (fun j u hu => by simp at hu)
      simp only [List.length_nil] at hl
      simp [Builtin.append_, run_underlying Try.underlying51, sizeOf, typeInfo, hi, Builtin.lenOf, Builtin.firstCells, hl, Result.andThen]
  unfold Oper.wp
  simp [execOp, ho, resolve, invoke, builtin, hs, hx, hr, Result.andThen]
  exact hK' _ _ h
end Go.Proofs.Ytnaeekjocaecmaa
