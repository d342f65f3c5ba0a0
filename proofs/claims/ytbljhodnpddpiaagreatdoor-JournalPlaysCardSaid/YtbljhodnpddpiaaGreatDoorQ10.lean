/- Several texts in one, in the order in which they build: JFind JTexts JCat. -/
import Derived.Test.YtbljhodnpddpiaaGreatDoorQ09
import Derived.Deep.RegionHeldLaw
import Derived.Lib.AppendZerosOnto
import Derived.Laws.AppendOwnNone
/- The walk of find. -/
namespace Go.Proofs.YtbljhodnpddpiaaGreatDoor
open Go.RowKit

/-- What stands on a journal's sectors: the active half, its epoch, its records, what is behind them. -/
structure Right (S : List (List UInt8)) (from_ m act E : Nat) (recs : List (List UInt8)) (behind : List UInt8) : Prop where
  heads : ∃ E0 E1, EpochIs (bs (Dk.readAt S [] from_)) E0 ∧ EpochIs (bs (Dk.readAt S [] (from_ + m))) E1 ∧ act = (if E0 < E1 then 1 else 0) ∧ E = (if E0 < E1 then E1 else E0)
  e1 : 1 ≤ E
  text : rd S [] (from_ + act * m + 1) (m - 1) = packs E 1 recs ++ behind
  none : NoRec behind
  few : ∀ p ∈ recs, p.length ≤ 60000
theorem EpochIs.most {s : ByteArray} {R : Nat} (h : EpochIs s R) : R ≤ 4611686018427387904 := by
  rcases h with ⟨_, rfl⟩ | ⟨_, _, h⟩
  · omega
  · exact h
def stV (a e n u : Nat) : List Value := [.int .i64 a, .int .i64 e, .int .i64 n, .int .i64 u]
theorem allocState (w : World) : (Instr.alloc 79 true (.tuple #[])).run Tryz.prog w = .ok (.pointer (some ⟨w.heap.size, 0, none⟩)) (w.alloc (.cells (stV 0 0 0 0).toArray 79)) := by kernel_rfl
theorem Dsk.pending {d p n : Nat} {F : List Nat} {st : St} {ok : Bool} {w : World} (h : Dsk d p n F st ok w) (k : Nat) (hk : k = st.ps.length) : Calls Tryz.prog 11 #[.pointer (some ⟨d, 0, none⟩)] w fun e w' => e = .returned (.int .i64 k) ∧ w = w' := by
  obtain ⟨bl, bn, pv, h, _⟩ := h.liv
  subst hk
  exact Pending_any d p bl bn pv n st.S st.ps 0 w h
theorem results_mid2 {P : Program} {fn : Func} {p t : Tmp} {ty : TypeId} (h : fn.results = #[.cell p ty, .tmp t]) (tmps : Array Value) (w : World) (g o : Nat) (cs : List Value) (d : TypeDesc)
    (hp : tmps.getD p undef = .pointer (some ⟨g, o, none⟩)) (hc : w.rangeAt g o cs)
    (hu : P.underlying ty = some d) (hd : d.isRow = true) (hi : (P.info? ty).map (·.size) = some cs.length) :
    (results fn tmps).run P w = .ok (.tuple #[.agg cs.toArray, tmps.getD t undef]) w := by
  have hp' : tmps[p]?.getD undef = .pointer (some ⟨g, o, none⟩) := by simpa using hp
  simp [results, h, hp', asAddr, run_loadVar_mid w g o ty cs d hc hu hd hi]
theorem results_mid3 {P : Program} {fn : Func} {p t u : Tmp} {ty : TypeId} (h : fn.results = #[.cell p ty, .tmp t, .tmp u]) (tmps : Array Value) (w : World) (g o : Nat) (cs : List Value) (d : TypeDesc)
    (hp : tmps.getD p undef = .pointer (some ⟨g, o, none⟩)) (hc : w.rangeAt g o cs)
    (hu : P.underlying ty = some d) (hd : d.isRow = true) (hi : (P.info? ty).map (·.size) = some cs.length) :
    (results fn tmps).run P w = .ok (.tuple #[.agg cs.toArray, tmps.getD t undef, tmps.getD u undef]) w := by
  have hp' : tmps[p]?.getD undef = .pointer (some ⟨g, o, none⟩) := by simpa using hp
  simp [results, h, hp', asAddr, run_loadVar_mid w g o ty cs d hc hu hd hi]
/-- What find has in its hands: its row, what it answers, its pen, what it has found. -/
structure Fnd (w0 : World) (d p n : Nat) (F : List Nat) (st : St) (from_ m b : Nat) (a e : Nat) (v : World) : Prop where
  row : v.heap[b]? = some (.cells [Value.pointer (some ⟨d, 0, none⟩), .int .i64 from_, .int .i64 m].toArray 75 (0, 0))
  res : v.heap[b + 1]? = some (.cells (stV 0 0 0 0).toArray 79 (0, 0))
  pen : Pen d p (b + 2) n F st true v
  fnd : v.heap[b + 3]? = some (.cells (stV a e 0 0).toArray 79 (0, 0))
  old : Below w0.heap.size w0 v
  fF : ∀ x ∈ F, x < b
  low : w0.heap.size ≤ b
  pb : p < b
theorem set_state {w : World} {g a e n u : Nat} (a' e' n' u' : Nat) (h : w.heap[g]? = some (.cells (stV a e n u).toArray 79 (0, 0))) :
    ((((w.setCell ⟨g, 0, none⟩ (.int .i64 a')).setCell ⟨g, 1, none⟩ (.int .i64 e')).setCell ⟨g, 2, none⟩ (.int .i64 n')).setCell ⟨g, 3, none⟩ (.int .i64 u')).heap[g]? = some (.cells (stV a' e' n' u').toArray 79 (0, 0)) :=
  set_list (set_list (set_list (set_list h 0 _) 1 _) 2 _) 3 _
theorem kept_state (w : World) (g : Nat) (v0 v1 v2 v3 : Value) : Kept w.heap.size [g] w ((((w.setCell ⟨g, 0, none⟩ v0).setCell ⟨g, 1, none⟩ v1).setCell ⟨g, 2, none⟩ v2).setCell ⟨g, 3, none⟩ v3) :=
  ((((Kept.refl _ _ _).setCell (p := ⟨g, 0, none⟩) (by simp) _).setCell (p := ⟨g, 1, none⟩) (by simp) _).setCell (p := ⟨g, 2, none⟩) (by simp) _).setCell (p := ⟨g, 3, none⟩) (by simp) _
theorem own_low {w : World} {B B' n size : Nat} {e : TypeId} {v : Value} {xs : List Value} (h : w.ownsRow B e size v n xs) (hB : B' ≤ B) : w.ownsRow B' e size v n xs := by
  refine ⟨h.1, ?_⟩
  rcases h.2 with h0 | ⟨g, cap, cur, h0, hb, r⟩
  · exact Or.inl h0
  · exact Or.inr ⟨g, cap, cur, h0, Nat.le_trans hB hb, r⟩
section
variable {w0 : World} {d p n : Nat} {F : List Nat} {st : St} {from_ m b : Nat} {a e : Nat} {v v' : World}
theorem Fnd.kept (h : Fnd w0 d p n F st from_ m b a e v) (hp : Pen d p (b + 2) n F st true v') (hk : Kept v.heap.size [b + 2] v v') : Fnd w0 d p n F st from_ m b a e v' :=
  ⟨(hk.block _ (lt_of_heap h.row) (by simp)).trans h.row, (hk.block _ (lt_of_heap h.res) (by simp)).trans h.res, hp, (hk.block _ (lt_of_heap h.fnd) (by simp)).trans h.fnd,
    h.old.trans ((hk.mono h.old.size (fun _ _ hm => hm)).below (fun k hk => by have := h.low; simp at hk; omega)), h.fF, h.low, h.pb⟩
theorem Fnd.below (h : Fnd w0 d p n F st from_ m b a e v) (hb : Below v.heap.size v v') : Fnd w0 d p n F st from_ m b a e v' :=
  h.kept (h.pen.below hb) (Kept.of_below hb)
theorem Fnd.set (h : Fnd w0 d p n F st from_ m b a e v) (a' e' : Nat) (h' : v'.heap[b + 3]? = some (.cells (stV a' e' 0 0).toArray 79 (0, 0))) (hk : Kept v.heap.size [b + 3] v v') : Fnd w0 d p n F st from_ m b a' e' v' := by
  have hF : ∀ x ∈ F, x ∉ [b + 3] := fun x hx hm => by have := h.fF x hx; simp at hm; omega
  have hp3 : p ∉ [b + 3] := by have := h.pen.dsk.pow.lt; have := h.pb; simp; omega
  refine ⟨(hk.block _ (lt_of_heap h.row) (by simp)).trans h.row, (hk.block _ (lt_of_heap h.res) (by simp)).trans h.res, ?_, h', h.old.trans ((hk.mono h.old.size (fun _ _ hm => hm)).below (fun k hk => by have := h.low; simp at hk; omega)), h.fF, h.low, h.pb⟩
  exact Pen.new (h.pen.dsk.keep hk hp3 hF) ((hk.block _ h.pen.qlt (by simp)).trans h.pen.fine) h.pen.qF h.pen.qp
theorem Fnd.cells (h : Fnd w0 d p n F st from_ m b a e v) : v.cell? ⟨b, 0, none⟩ = some (.pointer (some ⟨d, 0, none⟩)) ∧ v.cell? ⟨b, 1, none⟩ = some (.int .i64 from_) ∧ v.cell? ⟨b, 2, none⟩ = some (.int .i64 m) ∧
    v.cell? ⟨b + 2, 1, none⟩ = some .nilIface ∧ v.cell? ⟨b + 3, 0, none⟩ = some (.int .i64 a) ∧ v.cell? ⟨b + 3, 1, none⟩ = some (.int .i64 e) ∧ v.cell? ⟨b + 3, 2, none⟩ = some (.int .i64 0) ∧ v.cell? ⟨b + 3, 3, none⟩ = some (.int .i64 0) := by
  refine ⟨by rw [cell_of_list h.row]; rfl, by rw [cell_of_list h.row]; rfl, by rw [cell_of_list h.row]; rfl, by rw [cell_of_list h.pen.fine]; rfl, ?_, ?_, ?_, ?_⟩ <;> (rw [cell_of_list h.fnd]; rfl)
end
set_option maxRecDepth 100000 in
set_option maxHeartbeats 2000000 in
theorem find_is (d p n : Nat) (F : List Nat) (st : St) (from_ m act E : Nat) (recs : List (List UInt8)) (behind : List UInt8) (hm : from_ + 2 * m ≤ n) (hm2 : 2 ≤ m) (hn : n ≤ 8192) (hps : st.ps = []) (hR : Right st.S from_ m act E recs behind) (w : World) (h : Dsk d p n F st true w) :
    Calls Tryz.prog 51 #[rowV d from_ m] w fun e w' => ∃ v, e = .returned (.tuple #[.agg (stV act E (1 + recs.length) (1 + secsAll recs)).toArray, v, .nilIface]) ∧ w'.ownsRow w.heap.size 9 1 v recs.length (recs.map strv) ∧ Dsk d p n F st true w' ∧ Below w.heap.size w w' := by
  obtain ⟨E0, E1, hE0, hE1, hact, hE⟩ := hR.heads
  have hE0m := hE0.most
  have hE1m := hE1.most
  obtain ⟨x0, hx0⟩ : ∃ x, x = bs (Dk.readAt st.S [] from_) := ⟨_, rfl⟩
  obtain ⟨x1, hx1⟩ : ∃ x, x = bs (Dk.readAt st.S [] (from_ + m)) := ⟨_, rfl⟩
  obtain ⟨hw1, hw2, hw3⟩ := h.wide
  have hx0s : x0.size = 64 := by rw [hx0, bs_size]; exact length_readAt hw2 (by simp) (by omega)
  have hx1s : x1.size = 64 := by rw [hx1, bs_size]; exact length_readAt hw2 (by simp) (by omega)
  rw [← hx0] at hE0
  rw [← hx1] at hE1
  have CE0 := Lib.hid (fun v : World => epochOf_is x0 E0 hx0s hE0 v)
  have CE1 := Lib.hid (fun v : World => epochOf_is x1 E1 hx1s hE1 v)
  have H := Lib.hid h
  have HFB := Lib.hid h.Flt
  have HPB := Lib.hid h.pow.lt
  have HR := Lib.hid hR
  have HX0 := Lib.hid hx0
  have HX1 := Lib.hid hx1
  have HPS := Lib.hid hps
  have HACT := Lib.hid hact
  have HE := Lib.hid hE
  have HWD := Lib.hid (And.intro hw1 hw2)
  clear h hR hx0 hx1 hE0 hE1 hw1 hw2 hw3 hact hE hps
  unfold rowV
  go_enter Tryz.func51, Tryz.ntmps51
  go_wp2_with (first | (refine wpList_alloc rfl 113 rfl _ allocPen ?_; go_frame) | (refine wpList_alloc rfl 79 rfl _ allocState ?_; go_frame) | fail)
  obtain ⟨W1, hW1⟩ : ∃ x, x = w.alloc (.cells #[Value.pointer (some ⟨d, 0, none⟩), .int .i64 from_, .int .i64 m] 75) := ⟨_, rfl⟩
  rw [← hW1]
  obtain ⟨W2, hW2⟩ : ∃ x, x = W1.alloc (.cells (stV 0 0 0 0).toArray 79) := ⟨_, rfl⟩
  rw [← hW2]
  obtain ⟨W3, hW3⟩ : ∃ x, x = W2.alloc (.cells #[Value.pointer (some ⟨d, 0, none⟩), .nilIface] 113) := ⟨_, rfl⟩
  rw [← hW3]
  obtain ⟨W4, hW4⟩ : ∃ x, x = W3.alloc (.cells (stV 0 0 0 0).toArray 79) := ⟨_, rfl⟩
  rw [← hW4]
  obtain ⟨b, hb⟩ : ∃ b, b = w.heap.size := ⟨_, rfl⟩
  have z1 : W1.heap.size = b + 1 := by rw [hW1, hb]; simp
  have z2 : W2.heap.size = b + 2 := by rw [hW2]; simp [z1]
  have z3 : W3.heap.size = b + 3 := by rw [hW3]; simp [z2]
  have b1 : Below w.heap.size w W1 := by rw [hW1]; exact (Below.refl _ _).alloc (Nat.le_refl _) _
  have b2 : Below W1.heap.size W1 W2 := by rw [hW2]; exact (Below.refl _ _).alloc (Nat.le_refl _) _
  have b3 : Below W2.heap.size W2 W3 := by rw [hW3]; exact (Below.refl _ _).alloc (Nat.le_refl _) _
  have b4 : Below W3.heap.size W3 W4 := by rw [hW4]; exact (Below.refl _ _).alloc (Nat.le_refl _) _
  have b14 : Below W1.heap.size W1 W4 := b2.trans ((b3.trans (b4.mono (by omega))).mono (by omega))
  have b24 : Below W2.heap.size W2 W4 := b3.trans (b4.mono (by omega))
  have b04 : Below w.heap.size w W4 := b1.trans (b14.mono (by omega))
  have hD4 := H.out.below b04
  have hF4 : Fnd w d p n F st from_ m b 0 0 W4 :=
    ⟨(b14.block b (by omega)).trans (by rw [hW1, hb]; exact heap_alloc_new _ _), (b24.block (b + 1) (by omega)).trans (by rw [hW2, ← z1]; exact heap_alloc_new _ _),
     Pen.new hD4 ((b4.block (b + 2) (by omega)).trans (by rw [hW3, ← z2]; exact heap_alloc_new _ _)) (fun hm => by have := HFB.out _ hm; omega) (by have := HPB.out; omega),
     by rw [hW4, ← z3]; exact heap_alloc_new _ _, b04, fun x hx => by have := HFB.out x hx; omega, by omega, by have := HPB.out; omega⟩
  rw [z1, z2, z3, ← hb]
  have HF4 := Lib.hid hF4
  have HBW := Lib.hid hb
  clear hF4 hD4 b1 b2 b3 b4 b14 b24 b04 z1 z2 z3 hW1 hW2 hW3 hW4 hb
  go_loopw [16] (fun iv wr => ∃ k : Nat, k ≤ 2 ∧ iv = .int .i64 k ∧ Fnd w d p n F st from_ m b (if k = 2 then act else 0) (if k = 0 then 0 else if k = 1 then E0 else E) wr) (fun iv _ => 2 - (intOf iv).toNat)
  case atStart => exact ⟨0, by omega, rfl, HF4.out⟩
  case round =>
    clear HF4
    obtain ⟨k, hk, rfl, hG⟩ := hrel
    have hk3 : k = 0 ∨ k = 1 ∨ k = 2 := by omega
    rcases hk3 with rfl | rfl | rfl
    · as_aux_lemma =>
      rw [if_neg (by omega), if_pos rfl] at hG
      obtain ⟨c0, c1, c2, c3, c4, c5, c6, c7⟩ := hG.cells
      have HG := Lib.hid hG
      clear hG
      by_cases hc : 0 < E0
      · go_wp2_with (first | (go_at_call 57; refine (start_0 d from_ m (by omega) _).mono ?_; rintro e w5 ⟨rfl, hb5⟩; have HG5 := Lib.hid (HG.out.below hb5); clear hb5) | (go_at_call 76; refine (read_one d p (b + 2) n F st from_ (by omega) hn _ HG5.out.pen).mono ?_; rintro e w6 ⟨rfl, h6, k6⟩; rw [HPS.out, ← HX0.out]; have HG6 := Lib.hid (HG5.out.kept h6 k6); obtain ⟨c0, c1, c2, c3, c4, c5, c6, c7⟩ := HG6.out.cells; clear h6 k6) | (go_at_call 77; refine (CE0.out _).mono ?_; rintro e w7 ⟨rfl, hb7⟩; have HG7 := Lib.hid (HG6.out.below hb7); obtain ⟨c0, c1, c2, c3, c4, c5, c6, c7⟩ := HG7.out.cells; have f3 := free_of_list HG7.out.fnd; clear hb7) | fail)
        go_roundw
        case rel =>
          refine ⟨1, by omega, rfl, ?_⟩
          have hset := HG7.out.set 0 E0 (set_state 0 E0 0 0 HG7.out.fnd) (kept_state _ _ _ _ _ _)
          rw [if_neg (by omega), if_neg (by omega), if_pos rfl]
          exact hset
        case measure => simp [intOf]
      · go_wp2_with (first | (go_at_call 57; refine (start_0 d from_ m (by omega) _).mono ?_; rintro e w5 ⟨rfl, hb5⟩; have HG5 := Lib.hid (HG.out.below hb5); clear hb5) | (go_at_call 76; refine (read_one d p (b + 2) n F st from_ (by omega) hn _ HG5.out.pen).mono ?_; rintro e w6 ⟨rfl, h6, k6⟩; rw [HPS.out, ← HX0.out]; have HG6 := Lib.hid (HG5.out.kept h6 k6); obtain ⟨c0, c1, c2, c3, c4, c5, c6, c7⟩ := HG6.out.cells; clear h6 k6) | (go_at_call 77; refine (CE0.out _).mono ?_; rintro e w7 ⟨rfl, hb7⟩; have HG7 := Lib.hid (HG6.out.below hb7); obtain ⟨c0, c1, c2, c3, c4, c5, c6, c7⟩ := HG7.out.cells; have f3 := free_of_list HG7.out.fnd; clear hb7) | fail)
        go_roundw
        case rel =>
          refine ⟨1, by omega, rfl, ?_⟩
          have hset := HG7.out
          rw [if_neg (by omega), if_neg (by omega), if_pos rfl, show E0 = 0 by omega]
          exact hset
        case measure => simp [intOf]
    · as_aux_lemma =>
      rw [if_neg (by omega), if_neg (by omega), if_pos rfl] at hG
      obtain ⟨s1, hs1⟩ : ∃ s, s = from_ + m := ⟨_, rfl⟩
      have hs1n : s1 < n := by omega
      rw [← hs1] at HX1
      have CS1 := Lib.hid (fun v : World => (show Calls Tryz.prog 57 #[rowV d from_ m, .int .i64 1] v (fun e w' => e = .returned (.int .i64 s1) ∧ Below v.heap.size v w') by rw [hs1]; exact start_1 d from_ m (by omega) v))
      obtain ⟨c0, c1, c2, c3, c4, c5, c6, c7⟩ := hG.cells
      have HG := Lib.hid hG
      clear hG hs1
      by_cases hc : E0 < E1
      · go_wp2_with (first | (go_at_call 57; refine (CS1.out _).mono ?_; rintro e w5 ⟨rfl, hb5⟩; have HG5 := Lib.hid (HG.out.below hb5); clear hb5) | (go_at_call 76; refine (read_one d p (b + 2) n F st s1 hs1n hn _ HG5.out.pen).mono ?_; rintro e w6 ⟨rfl, h6, k6⟩; rw [HPS.out, ← HX1.out]; have HG6 := Lib.hid (HG5.out.kept h6 k6); obtain ⟨c0, c1, c2, c3, c4, c5, c6, c7⟩ := HG6.out.cells; clear h6 k6) | (go_at_call 77; refine (CE1.out _).mono ?_; rintro e w7 ⟨rfl, hb7⟩; have HG7 := Lib.hid (HG6.out.below hb7); obtain ⟨c0, c1, c2, c3, c4, c5, c6, c7⟩ := HG7.out.cells; have f3 := free_of_list HG7.out.fnd; clear hb7) | fail)
        go_roundw
        case rel =>
          refine ⟨2, by omega, rfl, ?_⟩
          have hset := HG7.out.set 1 E1 (set_state 1 E1 0 0 HG7.out.fnd) (kept_state _ _ _ _ _ _)
          rw [if_pos rfl, if_neg (by omega), if_neg (by omega), HACT.out, HE.out, if_pos hc, if_pos hc]
          exact hset
        case measure => simp [intOf]
      · go_wp2_with (first | (go_at_call 57; refine (CS1.out _).mono ?_; rintro e w5 ⟨rfl, hb5⟩; have HG5 := Lib.hid (HG.out.below hb5); clear hb5) | (go_at_call 76; refine (read_one d p (b + 2) n F st s1 hs1n hn _ HG5.out.pen).mono ?_; rintro e w6 ⟨rfl, h6, k6⟩; rw [HPS.out, ← HX1.out]; have HG6 := Lib.hid (HG5.out.kept h6 k6); obtain ⟨c0, c1, c2, c3, c4, c5, c6, c7⟩ := HG6.out.cells; clear h6 k6) | (go_at_call 77; refine (CE1.out _).mono ?_; rintro e w7 ⟨rfl, hb7⟩; have HG7 := Lib.hid (HG6.out.below hb7); obtain ⟨c0, c1, c2, c3, c4, c5, c6, c7⟩ := HG7.out.cells; have f3 := free_of_list HG7.out.fnd; clear hb7) | fail)
        go_roundw
        case rel =>
          refine ⟨2, by omega, rfl, ?_⟩
          have hset := HG7.out
          rw [if_pos rfl, if_neg (by omega), if_neg (by omega), HACT.out, HE.out, if_neg hc, if_neg hc]
          exact hset
        case measure => simp [intOf]
    · as_aux_lemma =>
      rw [if_pos rfl, if_neg (by omega), if_neg (by omega)] at hG
      obtain ⟨c0, c1, c2, c3, c4, c5, c6, c7⟩ := hG.cells
      have HG := Lib.hid hG
      have hE1' : 1 ≤ E := HR.out.e1
      have hact1 : act ≤ 1 := by rw [HACT.out]; split <;> omega
      have ham : act * m ≤ m := by have : act = 0 ∨ act = 1 := by omega
                                   rcases this with h0 | h0 <;> rw [h0] <;> omega
      obtain ⟨sA, hsA⟩ : ∃ s, s = from_ + act * m := ⟨_, rfl⟩
      obtain ⟨s2, hs2⟩ : ∃ s, s = sA + 1 := ⟨_, rfl⟩
      obtain ⟨m1, hm1⟩ : ∃ s, s = m - 1 := ⟨_, rfl⟩
      have hsb : s2 + m1 ≤ n := by omega
      have hsA2 : sA ≤ 8192 := by omega
      have htext := HR.out.text
      rw [← hsA, ← hs2, ← hm1] at htext
      have CSA := Lib.hid (fun v : World => (show Calls Tryz.prog 57 #[.agg #[.pointer (some ⟨d, 0, none⟩), .int .i64 from_, .int .i64 m], .int .i64 act] v (fun e w' => e = .returned (.int .i64 sA) ∧ Below v.heap.size v w') from start_any d from_ m act sA hact1 hsA (by omega) v))
      obtain ⟨T, hT⟩ : ∃ T, T = bs (packs E 1 recs ++ behind) := ⟨_, rfl⟩
      have CRA := Lib.hid (fun (v : World) (hv : Pen d p (b + 2) n F st true v) => read_any d p (b + 2) n F st s2 m1 hsb hn v hv)
      rw [HPS.out, htext, ← hT] at CRA
      have EA1 := Lib.hid (show IntKind.i64.wrap ((sA : Int) + 1) = (s2 : Int) by rw [IntWalk.i64_in _ (by omega)]; omega)
      have EM1 := Lib.hid (show IntKind.i64.wrap ((m : Int) - 1) = (m1 : Int) by rw [IntWalk.i64_in _ (by omega)]; omega)
      have HT := Lib.hid hT
      have HTL := Lib.hid (show 64 * secsAll recs + behind.length ≤ 1000000 by
        have h1 := congrArg List.length htext
        rw [length_rd HWD.out.2 (by simp) _ _ (by rw [HWD.out.1]; exact hsb), List.length_append, length_packs] at h1
        omega)
      have HGD := Lib.hid (HG.out.below (Below.refl _ _).drew)
      have S0 : (wr.drew.cell? ⟨b, 0, none⟩ = some (.pointer (some ⟨d, 0, none⟩)) ∧ wr.drew.cell? ⟨b, 1, none⟩ = some (.int .i64 from_) ∧ wr.drew.cell? ⟨b, 2, none⟩ = some (.int .i64 m)) ∧ wr.drew.cell? ⟨b + 3, 0, none⟩ = some (.int .i64 act) := ⟨⟨c0, c1, c2⟩, c4⟩
      clear hG htext hsA hs2 hm1 hT
      go_wp2_with fail
      go_region_held_law (fun v => (v.cell? ⟨b, 0, none⟩ = some (.pointer (some ⟨d, 0, none⟩)) ∧ v.cell? ⟨b, 1, none⟩ = some (.int .i64 from_) ∧ v.cell? ⟨b, 2, none⟩ = some (.int .i64 m)) ∧ v.cell? ⟨b + 3, 0, none⟩ = some (.int .i64 act)) (first | exact S0 | exact S5 | exact S6) (first | (go_simp; go_at_call 57; (with_reducible refine (CSA.out _).mono ?_); rintro e w5 ⟨rfl, hb5⟩; have HG5 := Lib.hid (HGD.out.below hb5); have S5 := (show (w5.cell? ⟨b, 0, none⟩ = some (.pointer (some ⟨d, 0, none⟩)) ∧ w5.cell? ⟨b, 1, none⟩ = some (.int .i64 from_) ∧ w5.cell? ⟨b, 2, none⟩ = some (.int .i64 m)) ∧ w5.cell? ⟨b + 3, 0, none⟩ = some (.int .i64 act) from ⟨⟨HG5.out.cells.1, HG5.out.cells.2.1, HG5.out.cells.2.2.1⟩, HG5.out.cells.2.2.2.2.1⟩); clear hb5) | (go_simp; go_at_call 76; rw [EA1.out, EM1.out]; (with_reducible refine (CRA.out _ HG5.out.pen).mono ?_); rintro e w6 ⟨rfl, h6, k6⟩; have HG6 := Lib.hid (HG5.out.kept h6 k6); have S6 := (show (w6.cell? ⟨b, 0, none⟩ = some (.pointer (some ⟨d, 0, none⟩)) ∧ w6.cell? ⟨b, 1, none⟩ = some (.int .i64 from_) ∧ w6.cell? ⟨b, 2, none⟩ = some (.int .i64 m)) ∧ w6.cell? ⟨b + 3, 0, none⟩ = some (.int .i64 act) from ⟨⟨HG6.out.cells.1, HG6.out.cells.2.1, HG6.out.cells.2.2.1⟩, HG6.out.cells.2.2.2.2.1⟩); clear h6 k6) | fail)
      all_goals
        obtain ⟨c0, c1, c2, c3, c4, c5, c6, c7⟩ := HG6.out.cells
        have f3 := free_of_list HG6.out.fnd
        have CP := Lib.hid (HG6.out.pen.dsk.pending 0 (by rw [HPS.out]; rfl))
        have CR := Lib.hid (recordsOf_is E recs behind (by rw [HE.out]; split <;> omega) HR.out.few HR.out.none HTL.out w6)
        rw [← HT.out] at CR
        have hll := length_le_secsAll recs
        have hsl : secsAll recs ≤ 1000000 := by have := HTL.out; omega
        clear S0 S5 S6
        go_wp2_with (first | (go_at_call 11; refine CP.out.mono ?_; rintro e w7 ⟨rfl, rfl⟩) | fail)
        refine CR.out.mono ?_
        rintro e w8 ⟨v, rfl, hown, hb8⟩
        obtain ⟨vb, vc, rfl⟩ := own_slice hown
        have HG8 := Lib.hid (HG6.out.below hb8)
        obtain ⟨c0, c1, c2, c3, c4, c5, c6, c7⟩ := HG8.out.cells
        have f3 := free_of_list HG8.out.fnd
        have r0 : w8.cell? ⟨b + 1, 0, none⟩ = some (.int .i64 0) := by rw [cell_of_list HG8.out.res]; rfl
        have r1 : w8.cell? ⟨b + 1, 1, none⟩ = some (.int .i64 0) := by rw [cell_of_list HG8.out.res]; rfl
        have r2 : w8.cell? ⟨b + 1, 2, none⟩ = some (.int .i64 0) := by rw [cell_of_list HG8.out.res]; rfl
        have r3 : w8.cell? ⟨b + 1, 3, none⟩ = some (.int .i64 0) := by rw [cell_of_list HG8.out.res]; rfl
        have g3 := free_of_list HG8.out.res
        have HO := Lib.hid hown
        have HB8 := Lib.hid hb8
        clear hown hb8
        go_wp2_with fail
        rw [show (1 : Int) + (recs.length : Int) = ((1 + recs.length : Nat) : Int) from by omega, show (1 : Int) + (secsAll recs : Int) = ((1 + secsAll recs : Nat) : Int) from by omega]
        obtain ⟨w9, hw9⟩ : ∃ x, x = (w8.setCell ⟨b + 3, 2, none⟩ (.int .i64 ((1 + recs.length : Nat) : Int))).setCell ⟨b + 3, 3, none⟩ (.int .i64 ((1 + secsAll recs : Nat) : Int)) := ⟨_, rfl⟩
        have hk9 : Kept w8.heap.size [b + 3] w8 w9 := by rw [hw9]; exact ((Kept.refl _ _ _).setCell (p := ⟨b + 3, 2, none⟩) (by simp) _).setCell (p := ⟨b + 3, 3, none⟩) (by simp) _
        rw [← hw9]
        have hres9 := (hk9.block (b + 1) (lt_of_heap HG8.out.res) (by simp)).trans HG8.out.res
        have hset := set_state act E (1 + recs.length) (1 + secsAll recs) hres9
        have hkx := kept_state w9 (b + 1) (.int .i64 act) (.int .i64 E) (.int .i64 ((1 + recs.length : Nat) : Int)) (.int .i64 ((1 + secsAll recs : Nat) : Int))
        obtain ⟨wx, hwx⟩ : ∃ x, x = (((w9.setCell ⟨b + 1, 0, none⟩ (.int .i64 act)).setCell ⟨b + 1, 1, none⟩ (.int .i64 E)).setCell ⟨b + 1, 2, none⟩ (.int .i64 ((1 + recs.length : Nat) : Int))).setCell ⟨b + 1, 3, none⟩ (.int .i64 ((1 + secsAll recs : Nat) : Int)) := ⟨_, rfl⟩
        rw [← hwx] at hset hkx ⊢
        have hk : Kept w8.heap.size [b + 1, b + 3] w8 wx := kept_two hk9 hkx hk9.size (fun x hx => by simp at hx; simp [hx]) (fun x hx => by simp at hx; simp [hx])
        have hlow := HG8.out.low
        have hold : Below w.heap.size w wx := HG8.out.old.trans ((hk.mono HG8.out.old.size (fun _ _ hm => hm)).below (fun k hk => by simp at hk; omega))
        have hb6 : b + 3 < w6.heap.size := lt_of_heap HG6.out.fnd
        refine bodyPost_ret (results_mid3 Tryz.results51 _ _ (b + 1) 0 _ _ rfl (range_of_list hset) Tryz.underlying79 rfl (by kernel_rfl)) rfl ⟨.slice vb recs.length vc, rfl, ?_, ?_, hold⟩
        · refine own_keep (own_low HO.out HG6.out.old.size) (fun g hg => hk.block g (HO.out.lt g hg).2 (fun hm => ?_))
          have := (HO.out.lt g hg).1
          simp at hm
          omega
        · exact HG8.out.pen.dsk.keep hk (by have := HG8.out.pb; simp; omega) (fun x hx hm => by have := HG8.out.fF x hx; simp at hm; omega)
end Go.Proofs.YtbljhodnpddpiaaGreatDoor

/- Lists of texts as values; the walks of fit and packed. -/
namespace Go.Proofs.YtbljhodnpddpiaaGreatDoor
open Go.RowKit

/-- A list of texts. -/
def Texts (v : Value) (l : List (List UInt8)) (w : World) : Prop :=
  (v = .slice none 0 0 ∧ l = []) ∨ ∃ g off cap, v = .slice (some ⟨g, off, none⟩) l.length cap ∧ g < w.heap.size ∧ ∀ i, i < l.length → w.cell? ⟨g, off + i, none⟩ = some (strv (l.getD i []))
theorem Texts.of_own {w : World} {B : Nat} {v : Value} {l : List (List UInt8)} (h : w.ownsRow B 9 1 v l.length (l.map strv)) : Texts v l w := by
  rcases h.2 with ⟨hv, h0⟩ | ⟨g, cap, cur, hv, _, hg, _⟩
  · exact Or.inl ⟨hv, List.length_eq_zero_iff.1 h0⟩
  · refine Or.inr ⟨g, 0, cap, hv, lt_of_heap hg, fun i hi => ?_⟩
    subst hv
    rw [Nat.zero_add, h.cellAt i (by omega), List.getElem?_map, List.getD, List.getElem?_eq_getElem hi]; rfl
theorem Texts.of_cells {w : World} {g : Nat} {l : List (List UInt8)} {fr : Nat × Nat} (h : w.heap[g]? = some (.cells (l.map strv).toArray 9 fr)) (cap : Nat) : Texts (.slice (some ⟨g, 0, none⟩) l.length cap) l w :=
  Or.inr ⟨g, 0, cap, rfl, lt_of_heap h, fun i hi => by rw [Nat.zero_add, cell_of_list h, List.getElem?_map, List.getD, List.getElem?_eq_getElem hi]; rfl⟩
theorem Texts.nil (w : World) : Texts (.slice none 0 0) [] w := Or.inl ⟨rfl, rfl⟩
/-- The block that they lie in. -/
def textsBlock : Value → Option Nat
  | .slice (some a) _ _ => some a.block
  | _ => none
theorem Texts.keep {v : Value} {l : List (List UInt8)} {w w' : World} (h : Texts v l w) (hz : w.heap.size ≤ w'.heap.size) (hk : ∀ g, textsBlock v = some g → w'.heap[g]? = w.heap[g]?) : Texts v l w' := by
  rcases h with h | ⟨g, off, cap, rfl, hg, hc⟩
  · exact Or.inl h
  · exact Or.inr ⟨g, off, cap, rfl, by omega, fun i hi => by rw [World.cell?_of_block (w := w) (hk g rfl)]; exact hc i hi⟩
theorem Texts.lt {v : Value} {l : List (List UInt8)} {w : World} (h : Texts v l w) {g : Nat} (hg : textsBlock v = some g) : g < w.heap.size := by
  rcases h with ⟨rfl, _⟩ | ⟨g', off, cap, rfl, h1, _⟩
  · cases hg
  · injection hg with hg; subst hg; exact h1
theorem Texts.below {v : Value} {l : List (List UInt8)} {w w' : World} (h : Texts v l w) {B : Nat} (hB : w.heap.size ≤ B) (hb : Below B w w') : Texts v l w' :=
  h.keep hb.size (fun g hg => hb.block g (by have := h.lt hg; omega))
theorem Texts.slice {v : Value} {l : List (List UInt8)} {w : World} (h : Texts v l w) : ∃ b cap, v = .slice b l.length cap := by
  rcases h with ⟨rfl, rfl⟩ | ⟨g, off, cap, rfl, _⟩
  · exact ⟨none, 0, rfl⟩
  · exact ⟨_, cap, rfl⟩
theorem Jfault_any (c : Int) (w : World) : Calls Tryz.prog 46 #[.int .i64 c] w fun e w' => e = .returned (.iface 92 (.pointer (some ⟨w.heap.size, 0, none⟩))) ∧ FaultAt w.heap.size c 0 w' ∧ Below w.heap.size w w' := by
  go_enter Tryz.func46, Tryz.ntmps46
  go_wp2
  go_ret
  exact ⟨rfl, heap_alloc_new _ _, (Below.refl _ _).alloc (Nat.le_refl _) _⟩
theorem Jfault_is (c : Int) (w : World) : Calls Tryz.prog 46 #[.int .i64 c] w (Refused c 0 id w) := by
  refine (Jfault_any c w).mono ?_
  rintro e w' ⟨rfl, h1, h2⟩
  exact ⟨_, Nat.le_refl _, rfl, h1, h2⟩
theorem secs_eq (p : List UInt8) : secs p = (p.length + 87) / 64 := by unfold secs; rfl
theorem secsAll_bound (l : List (List UInt8)) (h : ∀ p ∈ l, p.length ≤ 60000) (k : Nat) (hk : l.length ≤ k) : secsAll l ≤ 939 * k := by
  induction l generalizing k with
  | nil => rw [secsAll_nil]; omega
  | cons p l ih =>
    rw [List.length_cons] at hk
    have h1 := ih (fun q hq => h q (List.mem_cons_of_mem _ hq)) (k - 1) (by omega)
    have h2 := h p (List.mem_cons_self ..)
    rw [secsAll_cons, secs_eq]
    omega
/-- What fit answers of payloads of which none is too long. -/
def FitPost (room : Nat) (l : List (List UInt8)) (w : World) (e : Ending) (w' : World) : Prop :=
  (secsAll l ≤ room ∧ e = .returned .nilIface ∧ Below w.heap.size w w') ∨ (room < secsAll l ∧ Refused 12 0 id w e w')
set_option maxRecDepth 100000 in
set_option maxHeartbeats 2000000 in
theorem fit_is (room : Nat) (v : Value) (l : List (List UInt8)) (hl : ∀ p ∈ l, p.length ≤ 60000) (hn : l.length ≤ 1000000) (w : World) (h : Texts v l w) :
    Calls Tryz.prog 47 #[.int .i64 room, v] w (FitPost room l w) := by
  obtain ⟨b0, cap0, rfl⟩ := h.slice
  have H := Lib.hid h
  have HL := Lib.hid hl
  clear h hl
  go_enter Tryz.func47, Tryz.ntmps47
  go_wp2_with fail
  go_loopw [5, 10] (fun sv iv wr => ∃ k : Nat, k ≤ l.length ∧ iv = .int .i64 k ∧ sv = .int .i64 (secsAll (l.take k)) ∧ wr = w) (fun _ iv _ => l.length - (intOf iv).toNat)
  case atStart => exact ⟨0, by omega, rfl, by rw [List.take_zero, secsAll_nil]; rfl, rfl⟩
  case round =>
    obtain ⟨k, hk, rfl, rfl, rfl⟩ := hrel
    have hbound : secsAll (l.take k) ≤ 939 * k := secsAll_bound _ (fun p hp => HL.out p (List.mem_of_mem_take hp)) k (by rw [List.length_take]; omega)
    by_cases hlt : k < l.length
    · rcases H.out with ⟨hv, h0⟩ | ⟨g, off, cap, hv, hg, hc⟩
      · rw [h0] at hlt; simp at hlt
      injection hv with hv1 _ hv3
      subst hv1
      have c0 := hc k hlt
      obtain ⟨x, hx⟩ : ∃ x, x = l.getD k [] := ⟨_, rfl⟩
      rw [← hx] at c0
      unfold strv at c0
      have hxm : x.length ≤ 60000 := HL.out x (by rw [hx, List.getD, List.getElem?_eq_getElem hlt]; exact List.getElem_mem _)
      have hsu := secsAll_take_succ hlt
      rw [← hx] at hsu
      obtain ⟨M, hM⟩ : ∃ M, M = secsAll (l.take k) := ⟨_, rfl⟩
      rw [← hM] at hsu hbound ⊢
      have hq : (bs x).size = x.length := bs_size x
      have hd : (24 + (x.length : Int) + 64 - 1) / 64 = (secs x : Int) := by rw [secs_eq]; omega
      have hsx : secs x ≤ 939 := by rw [secs_eq]; omega
      have HSU := Lib.hid hsu
      clear hx hsu hM hc
      go_wp2_with fail
      go_roundw
      case rel => exact ⟨k + 1, by omega, by go_num, by rw [HSU.out]; go_num, trivial⟩
      case measure => simp [intOf]; omega
    · have hkl : k = l.length := by omega
      rw [hkl, List.take_length] at hbound ⊢
      by_cases hr : secsAll l ≤ room
      · go_wp2_with fail
        go_ret
        exact Or.inl ⟨hr, rfl, Below.refl _ _⟩
      · go_wp2_with (go_at_call 46; refine (Jfault_is 12 _).mono ?_; rintro e w' ⟨g, hg, rfl, hf, hb⟩; have HFA := Lib.hid hf; have HB := Lib.hid hb; clear hf hb)
        go_ret
        exact Or.inr ⟨by omega, g, hg, rfl, HFA.out, HB.out⟩
set_option maxRecDepth 100000 in
set_option maxHeartbeats 2000000 in
theorem packed_is (e n : Nat) (v : Value) (l : List (List UInt8)) (he : e ≤ 4611686018427387904) (hn : n + l.length ≤ 4000000000) (hl : ∀ p ∈ l, p.length ≤ 60000) (hs : secsAll l ≤ 1000000) (w : World) (h : Texts v l w) :
    Calls Tryz.prog 68 #[.int .i64 e, .int .i64 n, v] w fun r w' => r = .returned (.tuple #[.string (bs (packs e n l)), .nilIface]) ∧ Below w.heap.size w w' := by
  obtain ⟨b0, cap0, rfl⟩ := h.slice
  have H := Lib.hid h
  have HL := Lib.hid hl
  have hll := length_le_secsAll l
  clear h hl
  go_enter Tryz.func68, Tryz.ntmps68
  go_wp2_with (refine wpList_alloc rfl 121 rfl _ allocBldr ?_; go_frame)
  obtain ⟨w1, hw1⟩ : ∃ x, x = w.alloc (.cells [Value.pointer none, .slice none 0 0].toArray 121) := ⟨_, rfl⟩
  rw [← hw1]
  have hB1 : Bldr w.heap.size [] w1 := by rw [hw1]; exact Bldr.fresh (heap_alloc_new _ _)
  have hU1 : Below w.heap.size w w1 := by rw [hw1]; exact (Below.refl _ _).alloc (Nat.le_refl _) _
  clear hw1
  go_loopw [15] (fun iv wr => ∃ k : Nat, k ≤ l.length ∧ iv = .int .i64 k ∧ Bldr w.heap.size (packs e n (l.take k)) wr ∧ Below w.heap.size w wr) (fun iv _ => l.length - (intOf iv).toNat)
  case atStart => exact ⟨0, by omega, rfl, by rw [List.take_zero, packs_nil]; exact hB1, hU1⟩
  case round =>
    clear hB1 hU1
    obtain ⟨k, hk, rfl, hB, hU⟩ := hrel
    by_cases hlt : k < l.length
    · rcases H.out with ⟨hv, h0⟩ | ⟨g, off, cap, hv, hg, hc⟩
      · rw [h0] at hlt; simp at hlt
      injection hv with hv1 _ hv3
      subst hv1 hv3
      have c0 := (hU.cell (p := ⟨g, off + k, none⟩) hg).trans (hc k hlt)
      obtain ⟨x, hx⟩ : ∃ x, x = l.getD k [] := ⟨_, rfl⟩
      rw [← hx] at c0
      unfold strv at c0
      have hxm : x.length ≤ 60000 := HL.out x (by rw [hx, List.getD, List.getElem?_eq_getElem hlt]; exact List.getElem_mem _)
      have htk := take_packs (e := e) (n := n) hlt
      rw [← hx] at htk
      obtain ⟨m, hm⟩ : ∃ m, m = n + k := ⟨_, rfl⟩
      rw [← hm] at htk
      have EM := Lib.hid (show (n : Int) + (k : Int) = (m : Int) by omega)
      have CP := Lib.hid (fun v : World => Pack_ok e m (bs x) he (by omega) (by rw [bs_size]; exact hxm) v)
      rw [bs_list] at CP
      have hlenp : (packs e n (l.take k)).length ≤ 64000000 := by rw [length_packs]; have := secsAll_take (ps := l) k; omega
      have hlenr : (bs (Fr.record e m x)).size ≤ 60087 := by rw [bs_size, Fr.length_record]; have := Fr.whole_le x.length; omega
      have HTK := Lib.hid htk
      have HB := Lib.hid hB
      have HU := Lib.hid hU
      have HLP := Lib.hid hlenp
      have HLR := Lib.hid hlenr
      have hsz := hU.size
      clear hx htk hB hU hc hm hlenp hlenr
      go_wp2_with (first | (go_at_call 86; rw [EM.out]; refine (CP.out _).mono ?_; rintro r w2 ⟨rfl, hb⟩; have HB2 := Lib.hid (HB.out.below hb); have HU2 := Lib.hid (HU.out.trans (hb.mono HU.out.size)); clear hb) | (go_at_call 87; refine (Put_any w.heap.size _ _ _ HB2.out (by have := HLP.out; have := HLR.out; omega)).mono ?_; rintro r w3 ⟨rfl, hb3, hu3⟩; have HB3 := Lib.hid hb3; have HU3 := Lib.hid (HU2.out.trans hu3); clear hb3 hu3) | fail)
      go_roundw
      case rel => exact ⟨k + 1, by omega, by go_num, by rw [HTK.out]; have := HB3.out; rw [bs_list] at this; exact Bldr.of_built this, HU3.out⟩
      case measure => simp [intOf]; omega
    · have hkl : k = l.length := by omega
      rw [hkl, List.take_length] at hB
      have HB := Lib.hid hB
      have HU := Lib.hid hU
      clear hB hU
      go_wp2_with fail
      refine (Told_any _ _ _ HB.out).mono ?_
      rintro r w2 ⟨rfl, hb2⟩
      have HU2 := Lib.hid (HU.out.trans hb2)
      clear hb2
      go_wp2_with fail
      go_ret2
      exact ⟨by rw [bs_eq]; rfl, HU2.out⟩
/-- A text of whole sectors, taken apart. -/
theorem chop (k : Nat) : ∀ l : List UInt8, l.length = 64 * k → ∃ ss : List (List UInt8), Wide ss ∧ ss.length = k ∧ ss.flatten = l := by
  induction k with
  | zero => intro l h; exact ⟨[], fun s hs => by simp at hs, rfl, (List.length_eq_zero_iff.1 (by omega)).symm⟩
  | succ k ih =>
    intro l h
    obtain ⟨ss, h1, h2, h3⟩ := ih (l.drop 64) (by rw [List.length_drop]; omega)
    refine ⟨l.take 64 :: ss, fun s hs => ?_, by rw [List.length_cons, h2], by rw [List.flatten_cons, h3, List.take_append_drop]⟩
    rcases List.mem_cons.1 hs with rfl | hs
    · rw [List.length_take]; omega
    · exact h1 s hs
end Go.Proofs.YtbljhodnpddpiaaGreatDoor

/- The walk of slices.Concat at two lists of texts. -/
namespace Go.Proofs.YtbljhodnpddpiaaGreatDoor
open Go.RowKit

set_option maxRecDepth 100000 in
set_option maxHeartbeats 2000000 in
theorem Grow_nil (n : Nat) (h1 : 1 ≤ n) (hn : n ≤ 1000000) (w : World) :
    Calls Tryz.prog 80 #[.slice none 0 0, .int .i64 n] w fun e w' => ∃ v, e = .returned v ∧ w'.ownsRow w.heap.size 9 1 v 0 [] ∧ v ≠ .slice none 0 0 ∧ Below w.heap.size w w' := by
  obtain ⟨i0, hi, hz0, hz1, hz2⟩ := info_parts infoString
  have hold : (Builtin.firstCells i0.size 0 (.slice none 0 0)).run Tryz.prog w.drew = .ok ([] : List Value).toArray w.drew := rfl
  have hrz : ∀ ty, (Builtin.append_ #[31, 3] ty #[.slice none 0 0, .int .i64 (n : Int)]).run Tryz.prog w =
      .ok (.slice (some ⟨w.heap.size, 0, none⟩) (0 + n) (grownCap w (0 + n) 0 9)) (w.drew.alloc (.cells (([] : List Value).toArray ++ Builtin.zeroCells (Value.string ⟨#[]⟩).cells n ++ Builtin.zeroCells (Value.string ⟨#[]⟩).cells (grownCap w (0 + n) 0 9 - (0 + n))) 9)) := fun ty =>
    Lib.run_append_grow_zeros w 31 3 ty 9 i0 (.string ⟨#[]⟩) .i64 .i64 Tryz.underlying31 Tryz.underlying3 hi hz0 none 0 0 [] hold n (by omega) (by omega) (by omega) (by omega) (by rw [hz2]; omega) (growslice_fits (by omega) (by rw [hz2]; omega))
  rw [Nat.zero_add] at hrz
  obtain ⟨G, hG⟩ : ∃ G, G = grownCap w n 0 9 := ⟨_, rfl⟩
  have hGn : n ≤ G := by rw [hG]; exact grownCap_ge w _ _ _
  have hGm : G ≤ maxLen := by rw [hG]; exact grownCap_le_maxLen w n 0 9 (by unfold maxLen; omega)
  have hG63 : G ≤ 9223372036854775807 := by unfold maxLen at hGm; omega
  rw [← hG] at hrz
  have HGM := Lib.hid hGm
  clear hold hG hi hz0 hz1 hz2 hGm
  go_enter Tryz.func80, Tryz.ntmps80
  go_wp2_with (at_builtin; refine Lib.wpList_append_run _ rfl _ _ _ _ rfl _ _ rfl rfl _ _ (hrz _) ?_)
  all_goals
    go_ret
    refine ⟨_, rfl, ⟨rfl, Or.inr ⟨w.heap.size, G, _, rfl, Nat.le_refl _, heap_alloc_new w.drew _, by omega, HGM.out, ?_, by simp⟩⟩, by simp, ((Below.refl _ _).drew).alloc (Nat.le_refl _) _⟩
    simp [Builtin.zeroCells]
    omega
set_option maxRecDepth 100000 in
set_option maxHeartbeats 4000000 in
theorem Concat_is (g gt : Nat) (t0 : List UInt8) (v2 : Value) (l : List (List UInt8)) (w : World) (hg : w.heap[g]? = some (.cells [Value.slice (some ⟨gt, 0, none⟩) 1 1, v2].toArray 31 (0, 0)))
    (ht : w.heap[gt]? = some (.cells [strv t0].toArray 9 (0, 0))) (h2 : Texts v2 l w) (hn : l.length ≤ 900000) :
    Calls Tryz.prog 52 #[.slice (some ⟨g, 0, none⟩) 2 2] w fun e w' => ∃ v, e = .returned v ∧ w'.ownsRow w.heap.size 9 1 v (1 + l.length) ((t0 :: l).map strv) ∧ Below w.heap.size w w' := by
  obtain ⟨i0, hi, hz0, hz1, hz2⟩ := info_parts infoString
  obtain ⟨b2, c2, rfl⟩ := h2.slice
  have c0 : w.cell? ⟨g, 0, none⟩ = some (.slice (some ⟨gt, 0, none⟩) 1 1) := by rw [cell_of_list hg]; rfl
  have c1 : w.cell? ⟨g, 1, none⟩ = some (.slice b2 l.length c2) := by rw [cell_of_list hg]; rfl
  have hglt := lt_of_heap hg
  have hgtl := lt_of_heap ht
  have HT := Lib.hid ht
  have H2 := Lib.hid h2
  clear hg ht h2
  go_enter Tryz.func52, Tryz.ntmps52
  go_wp2_with fail
  go_loopw [3, 11] (fun sv iv wr => ∃ k : Nat, k ≤ 2 ∧ iv = .int .i64 k ∧ sv = .int .i64 (if k = 0 then 0 else if k = 1 then 1 else 1 + (l.length : Int)) ∧ wr = w) (fun _ iv _ => 2 - (intOf iv).toNat)
  case atStart => exact ⟨0, by omega, rfl, rfl, rfl⟩
  case round =>
    obtain ⟨k, hk, rfl, rfl, rfl⟩ := hrel
    have hk3 : k = 0 ∨ k = 1 ∨ k = 2 := by omega
    rcases hk3 with rfl | rfl | rfl
    · rw [if_pos rfl]
      go_wp2_with fail
      go_roundw
      case rel => exact ⟨1, by omega, rfl, rfl, trivial⟩
      case measure => simp [intOf]
    · rw [if_neg (by omega), if_pos rfl]
      go_wp2_with fail
      go_roundw
      case rel => exact ⟨2, by omega, rfl, rfl, trivial⟩
      case measure => simp [intOf]
    · rw [if_neg (by omega), if_neg (by omega)]
      obtain ⟨N, hN⟩ : ∃ N, N = 1 + l.length := ⟨_, rfl⟩
      have eN : (1 : Int) + (l.length : Int) = (N : Int) := by omega
      have hN1 : 1 ≤ N := by omega
      have hNm : N ≤ 1000000 := by omega
      rw [eN]
      have HN := Lib.hid hN
      clear eN hN
      go_wp2_with fail
      refine (Grow_nil N hN1 hNm _).mono ?_
      rintro e w1 ⟨v, rfl, hown, hnn, hb1⟩
      have HO := Lib.hid hown
      have HB := Lib.hid hb1
      clear hown hb1 hnn
      go_wp2_with fail
      obtain ⟨w0, rfl⟩ : ∃ x, x = wr := ⟨_, rfl⟩
      go_loopw [6, 27] (fun vv iv wr => ∃ k : Nat, k ≤ 2 ∧ iv = .int .i64 k ∧ wr.ownsRow w0.heap.size 9 1 vv (if k = 0 then 0 else if k = 1 then 1 else 1 + l.length) (if k = 0 then [] else if k = 1 then [strv t0] else (t0 :: l).map strv) ∧ Below w0.heap.size w0 wr) (fun _ iv _ => 2 - (intOf iv).toNat)
      case atStart => exact ⟨0, by omega, rfl, HO.out, HB.out⟩
      case round =>
        clear HO HB
        obtain ⟨k, hk, rfl, hown, hB⟩ := hrel
        have d0 := (hB.cell (p := ⟨g, 0, none⟩) hglt).trans c0
        have d1 := (hB.cell (p := ⟨g, 1, none⟩) hglt).trans c1
        have hsz := hB.size
        have hk3 : k = 0 ∨ k = 1 ∨ k = 2 := by omega
        rcases hk3 with rfl | rfl | rfl
        · rw [if_pos rfl, if_pos rfl] at hown
          have HO := Lib.hid hown
          have HB := Lib.hid hB
          have HT1 := Lib.hid ((hB.block gt hgtl).trans HT.out)
          clear hown hB
          go_wp2_with (first | (refine wpList_append_own _ rfl (.tmp 31) (.tmp 32) 31 rfl w0.heap.size 9 i0 (.string ⟨#[]⟩) 1 16 Tryz.underlying31 hi hz0 hz1 hz2 rfl (by decide) _ 0 _ rfl HO.out ⟨gt, 0, none⟩ 1 1 [strv t0] rfl rfl (news_row HT1.out) (by intro u hu; simp only [List.mem_singleton] at hu; rw [hu]; rfl) (by unfold maxLen; omega) (by omega) (by omega) ?_; intro v7 w7 h7 hg7 _; have H7 := Lib.hid h7; have B7 := Lib.hid (HB.out.grown hg7 (by omega) (fun k hk => (HO.out.lt k hk).1)); clear h7 hg7; go_frame) | fail)
          go_roundw
          case rel => exact ⟨1, by omega, rfl, H7.out, B7.out⟩
          case measure => simp [intOf]
        · rw [if_neg (by omega), if_pos rfl, if_neg (by omega), if_pos rfl] at hown
          have HO := Lib.hid hown
          have HB := Lib.hid hB
          rcases H2.out.below (Nat.le_refl _) hB with ⟨hv, h0⟩ | ⟨g2, off, cap, hv, hg2, hc⟩
          · injection hv with hv1 hv2 hv3
            subst hv1 hv3
            have hl0 : l.length = 0 := by rw [h0]; rfl
            rw [hl0] at d1
            clear hown hB
            go_wp2_with (first | (refine wpList_append_own_none rfl (.tmp 31) (.tmp 32) 31 rfl w0.heap.size 9 i0 1 Tryz.underlying31 hi _ 1 _ rfl HO.out rfl ?_; go_frame) | fail)
            go_roundw
            case rel => exact ⟨2, by omega, rfl, by rw [if_neg (by omega), if_neg (by omega), if_neg (by omega), if_neg (by omega), h0]; exact HO.out, HB.out⟩
            case measure => simp [intOf]
          · injection hv with hv1 hv2 hv3
            subst hv1 hv3
            have hnews : ∀ j u, (l.map strv)[j]? = some u → wr.cell? ((⟨g2, off, none⟩ : Addr).add j) = some u := by
              intro j u hu
              rw [List.getElem?_map] at hu
              have hj : j < l.length := by
                apply Classical.byContradiction; intro hj
                rw [List.getElem?_eq_none (by omega)] at hu; cases hu
              have := hc j hj
              rw [List.getD, List.getElem?_eq_getElem hj] at this
              rw [List.getElem?_eq_getElem hj] at hu
              injection hu with hu
              rw [← hu]
              simp only [Addr.add]
              split
              · rename_i h0
                subst h0
                simpa using this
              · simpa using this
            have HNW := Lib.hid hnews
            clear hown hB hnews hc
            go_wp2_with (first | (refine wpList_append_own _ rfl (.tmp 31) (.tmp 32) 31 rfl w0.heap.size 9 i0 (.string ⟨#[]⟩) 1 16 Tryz.underlying31 hi hz0 hz1 hz2 rfl (by decide) _ 1 _ rfl HO.out ⟨g2, off, none⟩ l.length c2 (l.map strv) rfl (by simp) HNW.out (by intro u hu; obtain ⟨x, _, rfl⟩ := List.mem_map.1 hu; rfl) (by unfold maxLen; omega) (by omega) (by omega) ?_; intro v7 w7 h7 hg7 _; have H7 := Lib.hid h7; have B7 := Lib.hid (HB.out.grown hg7 (by omega) (fun k hk => (HO.out.lt k hk).1)); clear h7 hg7; go_frame) | fail)
            go_roundw
            case rel => exact ⟨2, by omega, rfl, by rw [if_neg (by omega), if_neg (by omega), if_neg (by omega), if_neg (by omega)]; exact H7.out, B7.out⟩
            case measure => simp [intOf]
        · rw [if_neg (by omega), if_neg (by omega), if_neg (by omega), if_neg (by omega)] at hown
          have HO := Lib.hid hown
          have HB := Lib.hid hB
          clear hown hB
          go_wp2_with fail
          go_ret
          exact ⟨_, rfl, HO.out, HB.out⟩
end Go.Proofs.YtbljhodnpddpiaaGreatDoor
