/- Several texts in one, in the order in which they build: JPen2 JRead JWrap. -/
import Derived.Test.YtbljhodnpddpiaaGreatDoorQ07
import Derived.Test.YtbljhodnpddpiaaGreatDoorQ06
import Derived.LaidEql
import Derived.Stop.Asserts
import Derived.RowKitTokens
/- The walks of the pen's write and read. -/
namespace Go.Proofs.YtbljhodnpddpiaaGreatDoor
open Go.RowKit

/-- Sectors, laid one behind the other. -/
def Wide (ss : List (List UInt8)) : Prop := ∀ s ∈ ss, s.length = 64
theorem Wide.drop {ss : List (List UInt8)} (h : Wide ss) (k : Nat) : Wide (ss.drop k) := fun s hs => h s (List.mem_of_mem_drop hs)
theorem Wide.take {ss : List (List UInt8)} (h : Wide ss) (k : Nat) : Wide (ss.take k) := fun s hs => h s (List.mem_of_mem_take hs)
theorem Wide.flat {ss : List (List UInt8)} (h : Wide ss) : ss.flatten.length = ss.length * 64 := flat_length h
theorem Wide.get {ss : List (List UInt8)} (h : Wide ss) {k : Nat} (hk : k < ss.length) : (ss.getD k []).length = 64 := by
  rw [List.getD, List.getElem?_eq_getElem hk]; exact h _ (List.getElem_mem _)
theorem flat_drop {ss : List (List UInt8)} {k : Nat} (hk : k < ss.length) : (ss.drop k).flatten = ss.getD k [] ++ (ss.drop (k + 1)).flatten := by
  rw [List.drop_eq_getElem_cons hk, List.flatten_cons, List.getD, List.getElem?_eq_getElem hk]; rfl
theorem bs_cut {x y : List UInt8} {n : Nat} (h : x.length = n) : (bs (x ++ y)).extract 0 n = bs x := by
  apply bs_of; rw [extract_to, bs_list, List.take_left' h]
theorem bs_rest {x y : List UInt8} {n : Nat} (h : x.length = n) : (bs (x ++ y)).extract n (bs (x ++ y)).size = bs y := by
  apply bs_of; rw [extract_from, bs_list, List.drop_left' h]
theorem run_cut64 {s q : ByteArray} (h : 64 ≤ s.size) (hq : s.extract 0 64 = q) (w : World) : (Instr.slice 9 (.string s) none (some (.int .i64 64)) none).run Tryz.prog w = .ok (.string q) w := by
  rw [run_slice_string_to_if w 9 s .i64 64 Tryz.underlying9, if_pos (by omega), ← hq]; rfl
theorem run_rest64 {s q : ByteArray} (h : 64 ≤ s.size) (hq : s.extract 64 s.size = q) (w : World) : (Instr.slice 9 (.string s) (some (.int .i64 64)) none none).run Tryz.prog w = .ok (.string q) w := by
  rw [run_slice_string_from_if w 9 s .i64 64 Tryz.underlying9, if_pos (by omega), ← hq]; rfl
set_option maxRecDepth 100000 in
set_option maxHeartbeats 2000000 in
theorem write_any (d p q n : Nat) (F : List Nat) (st : St) (ok : Bool) (a : Nat) (ss : List (List UInt8)) (hss : Wide ss) (ha : a + ss.length ≤ n) (hn : n ≤ 8192) (w : World) (h : Pen d p q n F st ok w) (hf : st.Fit ss.length) :
    Calls Tryz.prog 56 #[.pointer (some ⟨q, 0, none⟩), .int .i64 a, .string (bs ss.flatten)] w fun e w' => e = .returned (.tuple #[]) ∧ ∃ F', Pen d p q n F' (doAll (st, ok) (puts a ss)).1 (doAll (st, ok) (puts a ss)).2 w' ∧ Mv [q, p] F F' w w' := by
  have hlen := hss.flat
  have H := Lib.hid h
  have HSS := Lib.hid hss
  have HLEN := Lib.hid hlen
  clear h hss hlen
  go_enter Tryz.func56, Tryz.ntmps56
  go_wp2_with fail
  go_loopw [1, 2] (fun av sv wr => ∃ (k : Nat) (F1 : List Nat), k ≤ ss.length ∧ av = .int .i64 (a + k : Nat) ∧ sv = .string (bs (ss.drop k).flatten) ∧ Pen d p q n F1 (doAll (st, ok) (puts a (ss.take k))).1 (doAll (st, ok) (puts a (ss.take k))).2 wr ∧ Mv [q, p] F F1 w wr) (fun av _ _ => a + ss.length - (intOf av).toNat)
  case atStart => exact ⟨0, F, by omega, by simp, by simp, by simpa [puts, doAll] using H.out, Mv.refl _ _ _⟩
  case round =>
    obtain ⟨k, F1, hk, rfl, rfl, hP, hM⟩ := hrel
    by_cases hlt : k < ss.length
    · as_aux_lemma =>
      obtain ⟨x, hx⟩ : ∃ x, x = ss.getD k [] := ⟨_, rfl⟩
      have hx64 : x.length = 64 := by rw [hx]; exact HSS.out.get hlt
      obtain ⟨t, ht⟩ : ∃ t, t = bs (ss.drop k).flatten := ⟨_, rfl⟩
      have hts : t.size = 64 * (ss.length - k) := by rw [ht, bs_size, (HSS.out.drop k).flat, List.length_drop]; omega
      obtain ⟨t0, ht0⟩ : ∃ t, t = bs x := ⟨_, rfl⟩
      obtain ⟨t1, ht1⟩ : ∃ t, t = bs (ss.drop (k + 1)).flatten := ⟨_, rfl⟩
      have hcut : ∀ v : World, (Instr.slice 9 (.string t) none (some (.int .i64 64)) none).run Tryz.prog v = .ok (.string t0) v := run_cut64 (by omega) (by rw [ht, flat_drop hlt, ← hx, bs_cut hx64, ht0])
      have hrest : ∀ v : World, (Instr.slice 9 (.string t) (some (.int .i64 64)) none none).run Tryz.prog v = .ok (.string t1) v := run_rest64 (by omega) (by rw [ht, flat_drop hlt, ← hx, bs_rest hx64, ht1])
      have ht0s : t0.size = 64 := by rw [ht0, bs_size, hx64]
      have ht0l : t0.data.toList = x := by rw [ht0, bs_list]
      obtain ⟨b, hb⟩ : ∃ b, b = a + k := ⟨_, rfl⟩
      rw [← ht, ← hb]
      have hbn : b < n := by omega
      have hfit := St.Fit.doAll (m := ss.length - k) (puts a (ss.take k)) (st := st) (hf.less (by rw [length_puts, List.length_take]; omega)) ok
      have hnext : doAll (st, ok) (puts a (ss.take (k + 1))) = does (doAll (st, ok) (puts a (ss.take k))) (.put b x) := by rw [puts_take hlt, doAll_append, ← hx, hb]; rfl
      have hlast : doAll (st, ok) (puts a ss) = doAll (doAll (st, ok) (puts a (ss.take k))) (puts b (ss.drop k)) := by
        rw [hb]
        conv => lhs; rw [← List.take_append_drop k ss, puts_append, doAll_append, List.length_take, Nat.min_eq_left (by omega)]
      obtain ⟨s1, o1⟩ : ∃ s1 o1, doAll (st, ok) (puts a (ss.take k)) = (s1, o1) := ⟨_, _, rfl⟩
      obtain ⟨o1, he1⟩ := o1
      rw [he1] at hP hfit hnext hlast
      dsimp only at hP hfit hnext hlast
      have HT1 := Lib.hid ht1
      have HN := Lib.hid hnext
      have HL := Lib.hid hlast
      have HT := Lib.hid hts
      have hpos : 0 < t.size := by omega
      have HM := Lib.hid hM
      have HF := Lib.hid hfit
      have HT0 := Lib.hid ht0l
      have Hb := Lib.hid hb
      clear hx hx64 ht ht0 ht1 hnext hlast hM hts hfit he1 ht0l hb
      cases o1 with
      | false =>
        obtain ⟨g, hq, _⟩ := hP.stuck
        have c1 : wr.cell? ⟨q, 1, none⟩ = some (faultV g) := by rw [cell_of_list hq]; rfl
        unfold faultV at c1
        have HP := Lib.hid hP
        clear hP hq
        go_wp2_with fail
        go_end0
        refine ⟨rfl, F1, ?_, HM.out⟩
        rw [HL.out, doAll_off]; exact HP.out
      | true =>
        have hq := hP.fine
        have c0 : wr.drew.cell? ⟨q, 0, none⟩ = some (.pointer (some ⟨d, 0, none⟩)) := by show wr.cell? _ = _; rw [cell_of_list hq]; rfl
        have c1 : wr.cell? ⟨q, 1, none⟩ = some .nilIface := by rw [cell_of_list hq]; rfl
        have hqlt := hP.qlt
        have HP := Lib.hid hP
        clear hP hq
        by_cases h0 : s1.fuse = 0
        · go_wp2_with fail
          have CW := Lib.hid (fun v : World => fun (hv : v = wr.drew) => Write_cut d p F1 n s1.S s1.ps 0 s1.acts b t0 hbn ht0s v (by rw [hv]; exact (HP.out.dsk.below (Below.refl _ _).drew).liv) (by rw [hv]; have := (HP.out.dsk.below (Below.refl _ _).drew).pow; rw [h0] at this; exact this))
          go_region_law (first | (go_simp; go_at_call 8; (with_reducible refine (CW.out _ rfl).mono ?_); rintro e w1 ⟨g, hg, rfl, hfa, hp1, hk1⟩; have hq1 := (hk1.block q (by exact hqlt) (by simp [HP.out.qp])).trans (show wr.drew.heap[q]? = _ from HP.out.fine); have f1 := free_of_list hq1; have d1 : w1.cell? ⟨q, 1, none⟩ = some .nilIface := (by rw [cell_of_list hq1]; rfl); have HS := Lib.hid ((HP.out.below (Below.refl _ _).drew).cut h0 hg hfa hp1 hk1); clear hfa hp1 hk1 hq1) | fail)
          all_goals
            go_wp2_with fail
            go_roundw
            case rel =>
              refine ⟨k + 1, F1, by omega, ?_, by rw [HT1.out], ?_, (HM.out.trans (Mv.below _ _ (Below.refl _ _).drew)).trans HS.out.2⟩
              · have := Hb.out; congr 1; omega
              · rw [HN.out, does_cut h0]; exact HS.out.1
            case measure => have := Hb.out; simp [intOf]; omega
        · go_wp2_with fail
          have CW := Lib.hid (fun v : World => fun (hv : v = wr.drew) => (show Dsk d p n F1 s1 true v by rw [hv]; exact HP.out.dsk.below (Below.refl _ _).drew).put (hf := HF.out.less (by omega)) h0 b t0 hbn ht0s)
          go_region_law (first | (go_simp; go_at_call 8; (with_reducible refine (CW.out _ rfl).mono ?_); rintro e w1 ⟨rfl, F2, h1, hF2, hk1⟩; have hq1 := (hk1.block q (by exact hqlt) (by simp [HP.out.qp, HP.out.qF])).trans (show wr.drew.heap[q]? = _ from HP.out.fine); have f1 := free_of_list hq1; have d1 : w1.cell? ⟨q, 1, none⟩ = some .nilIface := (by rw [cell_of_list hq1]; rfl); have HS := Lib.hid ((HP.out.below (Below.refl _ _).drew).step h1 hF2 hk1); clear h1 hF2 hk1 hq1) | fail)
          all_goals
            go_wp2_with fail
            go_roundw
            case rel =>
              refine ⟨k + 1, F2, by omega, ?_, by rw [HT1.out], ?_, (HM.out.trans (Mv.below _ _ (Below.refl _ _).drew)).trans HS.out.2⟩
              · have := Hb.out; congr 1; omega
              · rw [HN.out, does_on h0, ← HT0.out]; exact HS.out.1
            case measure => have := Hb.out; simp [intOf]; omega
    · as_aux_lemma =>
      obtain rfl : k = ss.length := by omega
      rw [List.take_length] at hP
      rw [List.drop_length, List.flatten_nil]
      have hz : (bs ([] : List UInt8)).size = 0 := by rw [bs_size]; rfl
      obtain ⟨t, ht⟩ : ∃ t, t = bs ([] : List UInt8) := ⟨_, rfl⟩
      rw [← ht] at hz ⊢
      have HP := Lib.hid hP
      have HM := Lib.hid hM
      clear hP hM ht
      go_wp2_with fail
      go_end0
      exact ⟨rfl, F1, HP.out, HM.out⟩
end Go.Proofs.YtbljhodnpddpiaaGreatDoor

/- The walk of the pen's read. -/
namespace Go.Proofs.YtbljhodnpddpiaaGreatDoor
open Go.RowKit
theorem allocBldr (w : World) : (Instr.alloc 121 true (.tuple #[])).run Tryz.prog w = .ok (.pointer (some ⟨w.heap.size, 0, none⟩)) (w.alloc (.cells [Value.pointer none, .slice none 0 0].toArray 121)) := by kernel_rfl
theorem Bldr.below {b : Nat} {l : List UInt8} {w w' : World} (h : Bldr b l w) (hb : Below w.heap.size w w') : Bldr b l w' := by
  rcases h with ⟨hB, v, hbk, hown, hne⟩ | ⟨hB, v, hbk, hown, hne⟩
  · exact Or.inl ⟨hB, v, (hb.block b (lt_of_heap hbk)).trans hbk, own_keep hown (fun g hg => hb.block g (hown.lt g hg).2), hne⟩
  · exact Or.inr ⟨hB, v, (hb.block b (lt_of_heap hbk)).trans hbk, own_keep hown (fun g hg => hb.block g (hown.lt g hg).2), hne⟩
theorem Bldr.keep {b : Nat} {l : List UInt8} {w w' : World} (h : Bldr b l w) {X : List Nat} (hk : Kept w.heap.size X w w') (hX : ∀ x ∈ X, x < b) : Bldr b l w' := by
  have key : ∀ v : Value, w.ownsRow b 5 1 v (l.map u8v).length (l.map u8v) → w'.ownsRow b 5 1 v (l.map u8v).length (l.map u8v) := by
    intro v hown
    refine own_keep hown (fun g hg => hk.block g (hown.lt g hg).2 (fun hm => ?_))
    have := hX g hm
    have := (hown.lt g hg).1
    omega
  rcases h with ⟨hB, v, hbk, hown, hne⟩ | ⟨hB, v, hbk, hown, hne⟩
  · exact Or.inl ⟨hB, v, (hk.block b (lt_of_heap hbk) (fun hm => by have := hX b hm; omega)).trans hbk, key v hown, hne⟩
  · exact Or.inr ⟨hB, v, (hk.block b (lt_of_heap hbk) (fun hm => by have := hX b hm; omega)).trans hbk, key v hown, hne⟩
theorem length_readAt {S : List (List UInt8)} {ps : List Dk.Wr} (hS : ∀ s ∈ S, s.length = 64) (hp : ∀ x ∈ ps, x.1 < S.length ∧ x.2.length = 64) {a : Nat} (ha : a < S.length) : (Dk.readAt S ps a).length = 64 := by
  have e := Dk.flushed_at S ps hS hp ps.length (Nat.le_refl _) a
  rw [List.take_length] at e
  rw [← e]
  have := Dk.settleTo_wide (fun _ => 64) hS hp ps.length (Nat.le_refl _)
  have hl : a < (Dk.settleTo S ps (fun _ => 64) ps.length).length := by rw [Dk.length_settleTo]; exact ha
  rw [List.getD, List.getElem?_eq_getElem hl]; exact this _ (List.getElem_mem _)
theorem Dsk.wide {d p n : Nat} {F : List Nat} {st : St} {ok : Bool} {w : World} (h : Dsk d p n F st ok w) : st.S.length = n ∧ (∀ s ∈ st.S, s.length = 64) ∧ ∀ x ∈ st.ps, x.1 < st.S.length ∧ x.2.length = 64 := by
  obtain ⟨bl, bn, pv, h, _⟩ := h.liv
  exact ⟨h.len, h.wide, fun x hx => by rw [h.len]; exact h.wrs x hx⟩
theorem length_rd {S : List (List UInt8)} {ps : List Dk.Wr} (hS : ∀ s ∈ S, s.length = 64) (hp : ∀ x ∈ ps, x.1 < S.length ∧ x.2.length = 64) (a k : Nat) (h : a + k ≤ S.length) : (rd S ps a k).length = 64 * k := by
  induction k with
  | zero => rw [rd_zero]; rfl
  | succ k ih => rw [rd_succ, List.length_append, ih (by omega), length_readAt hS hp (by omega)]; omega
theorem Dsk.read {d p n : Nat} {F : List Nat} {st : St} {w : World} (h : Dsk d p n F st true w) (a : Nat) (ha : a < n) (q : ByteArray) (hq : q.data.toList = Dk.readAt st.S st.ps a) :
    Calls Tryz.prog 91 #[.pointer (some ⟨d, 0, none⟩), .int .i64 a] w fun e w' => e = .returned (.tuple #[.string q, .nilIface]) ∧ w = w' := Read_ok d p F n st.S st.ps 0 st.fuse st.acts a ha q hq w h.liv h.pow
theorem Dsk.under {d p n : Nat} {F : List Nat} {st : St} {ok : Bool} {w w' : World} (h : Dsk d p n F st ok w) {B : Nat} (hb : Below B w w') (hF : ∀ x ∈ F, x < B) (hp : p < B) : Dsk d p n F st ok w' :=
  ⟨h.liv.keep hb.size (fun x hx => hb.block x (hF x hx)), h.pow.keep (hb.block p hp)⟩
theorem Pen.under {d p q n : Nat} {F : List Nat} {st : St} {w w' : World} (h : Pen d p q n F st true w) {B : Nat} (hb : Below B w w') (hF : ∀ x ∈ F, x < B) (hp : p < B) (hq : q < B) : Pen d p q n F st true w' :=
  Pen.new (h.dsk.under hb hF hp) ((hb.block q hq).trans h.fine) h.qF h.qp
set_option maxRecDepth 100000 in
set_option maxHeartbeats 2000000 in
theorem read_any (d p q n : Nat) (F : List Nat) (st : St) (a m : Nat) (ha : a + m ≤ n) (hn : n ≤ 8192) (w : World) (h : Pen d p q n F st true w) :
    Calls Tryz.prog 76 #[.pointer (some ⟨q, 0, none⟩), .int .i64 a, .int .i64 m] w fun e w' => e = .returned (.string (bs (rd st.S st.ps a m))) ∧ Pen d p q n F st true w' ∧ Kept w.heap.size [q] w w' := by
  have H := Lib.hid h
  obtain ⟨h1, h2, h3⟩ := h.dsk.wide
  have HL := Lib.hid (fun k (hk : a + k ≤ n) => length_rd (S := st.S) (ps := st.ps) h2 h3 a k (by omega))
  have HL1 := Lib.hid (fun k (hk : k < n) => length_readAt (S := st.S) (ps := st.ps) h2 h3 (a := k) (by omega))
  have hqw := h.qlt
  have HFB := Lib.hid h.dsk.Flt
  have HPB := Lib.hid h.dsk.pow.lt
  clear h h1 h2 h3
  go_enter Tryz.func76, Tryz.ntmps76
  go_wp2_with (refine wpList_alloc rfl 121 rfl _ allocBldr ?_; go_frame)
  obtain ⟨w1, hw1⟩ : ∃ x, x = w.alloc (.cells [Value.pointer none, .slice none 0 0].toArray 121) := ⟨_, rfl⟩
  rw [← hw1]
  have hP1 : Pen d p q n F st true w1 := by rw [hw1]; exact H.out.below ((Below.refl _ _).alloc (Nat.le_refl _) _)
  have hB1 : Bldr w.heap.size [] w1 := by rw [hw1]; exact Bldr.fresh (heap_alloc_new _ _)
  have hM1 : Kept w.heap.size [q] w w1 := by rw [hw1]; exact Kept.of_below ((Below.refl _ _).alloc (Nat.le_refl _) _)
  clear hw1
  go_loopw [12] (fun iv wr => ∃ k : Nat, k ≤ m ∧ iv = .int .i64 k ∧ Bldr w.heap.size (rd st.S st.ps a k) wr ∧ Pen d p q n F st true wr ∧ Kept w.heap.size [q] w wr) (fun iv _ => m - (intOf iv).toNat)
  case atStart => exact ⟨0, by omega, rfl, by rw [rd_zero]; exact hB1, hP1, hM1⟩
  case round =>
    clear hP1 hB1 hM1
    obtain ⟨k, hk, rfl, hB, hP, hM⟩ := hrel
    by_cases hlt : k < m
    · have hq := hP.fine
      have c0 : wr.cell? ⟨q, 0, none⟩ = some (.pointer (some ⟨d, 0, none⟩)) := by rw [cell_of_list hq]; rfl
      have c1 : wr.cell? ⟨q, 1, none⟩ = some .nilIface := by rw [cell_of_list hq]; rfl
      have f1 := free_of_list hq
      obtain ⟨b, hb⟩ : ∃ b, b = a + k := ⟨_, rfl⟩
      have hbn : b < n := by omega
      have eb : (a : Int) + (k : Int) = (b : Int) := by omega
      obtain ⟨x, hx⟩ : ∃ x, x = bs (Dk.readAt st.S st.ps b) := ⟨_, rfl⟩
      have hxl : x.data.toList = Dk.readAt st.S st.ps b := by rw [hx, bs_list]
      have hxs : x.size = 64 := by rw [hx, bs_size]; exact HL1.out b hbn
      have hsu : rd st.S st.ps a (k + 1) = rd st.S st.ps a k ++ x.data.toList := by rw [rd_succ, hxl, hb]
      have hl := HL.out k (by omega)
      have CR := Lib.hid (hP.dsk.read b hbn x hxl)
      have HP := Lib.hid hP
      have HB := Lib.hid hB
      have HM := Lib.hid hM
      have HSU := Lib.hid hsu
      have HQ := Lib.hid hq
      have EB := Lib.hid eb
      have HBK := Lib.hid hb
      clear hP hB hM hq hx hxl hsu eb hb
      go_wp2_with (first | (go_at_call 91; rw [EB.out]; refine CR.out.mono ?_; rintro e w' ⟨rfl, rfl⟩) | fail)
      obtain ⟨w4, hw4⟩ : ∃ x, x = wr.setCell ⟨q, 1, none⟩ .nilIface := ⟨_, rfl⟩
      have hk4 : Kept wr.heap.size [q] wr w4 := by rw [hw4]; exact (Kept.refl _ _ _).setCell (p := ⟨q, 1, none⟩) (by simp) _
      have hq4 : w4.heap[q]? = some (.cells [Value.pointer (some ⟨d, 0, none⟩), .nilIface].toArray 113 (0, 0)) := by rw [hw4]; exact set_pen _ HQ.out
      have HP4 := Lib.hid (HP.out.again hk4 hq4)
      have hB4 : Bldr w.heap.size (rd st.S st.ps a k) w4 := HB.out.keep hk4 (by simp; exact hqw)
      have HK4 := Lib.hid hk4
      rw [← hw4]
      clear hw4 hk4 hq4 c0 c1 f1
      refine (Put_any w.heap.size _ x w4 hB4 (by rw [hl, hxs]; omega)).mono ?_
      rintro e w5 ⟨rfl, hB5, hb5⟩
      have HB5 := Lib.hid hB5
      have HU5 := Lib.hid hb5
      clear hB5 hb5 hB4
      go_wp2_with fail
      go_roundw
      case rel =>
        refine ⟨k + 1, by omega, by go_num, by rw [HSU.out]; exact Bldr.of_built HB5.out, HP4.out.under HU5.out HFB.out HPB.out hqw, HM.out.trans ((HK4.out.mono HM.out.size (fun x _ hm => hm)).trans (Kept.of_below HU5.out))⟩
      case measure => simp [intOf]; omega
    · obtain rfl : k = m := by omega
      have HP := Lib.hid hP
      have HB := Lib.hid hB
      have HM := Lib.hid hM
      clear hP hB hM
      go_wp2_with fail
      refine (Told_any _ _ _ HB.out).mono ?_
      rintro e w2 ⟨rfl, hb2⟩
      have HU2 := Lib.hid hb2
      clear hb2
      go_wp2_with fail
      go_ret
      exact ⟨by rw [bs_eq]; rfl, HP.out.under HU2.out HFB.out HPB.out hqw, HM.out.trans (Kept.of_below HU2.out)⟩
end Go.Proofs.YtbljhodnpddpiaaGreatDoor

/- errors.As on an error of the project's own kind, and what wraps such an error (after the kit's worked example of errors.As). -/
namespace Go.Proofs.YtbljhodnpddpiaaGreatDoor
open Go.RowKit Go.Extern.Stop Go.Stop Go.Extern

theorem as_valueOf27 (t : Addr) (w : World) : (ReflectliteValue.unpack (.iface 98 (.pointer (some t)))).run Tryz.prog w
    = .ok (.agg #[.pointer (some ⟨2, 98, none⟩), .pointer (some ⟨w.heap.size, 0, none⟩), .int .u64 150]) (w.alloc (.cells #[.pointer (some t)] 98)) := by kernel_rfl
theorem as_type27 (a : Addr) (w : World) : (ReflectliteValue.methodAny (ReflectliteValue.valueError "reflectlite.Value.Type" 0) (fun t _ _ _ => ReflectliteType.toType t) #[.agg #[.pointer (some ⟨2, 98, none⟩), .pointer (some a), .int .u64 150]]).run Tryz.prog w
    = .ok (.iface 155 (.agg #[.pointer (some ⟨2, 98, none⟩)])) w := by kernel_rfl
theorem as_methodKind (h : Value) (w : World) : (Go.method 322 155 (.agg #[h]) "Kind").run Tryz.prog w = .ok (132, h) w := by kernel_rfl
theorem as_kind27 (w : World) : ((ReflectliteType.abiMethod fun t => (fun a : Nat => Value.int IntKind.u8 (a : Int)) <$> Rtype.kind t) #[.pointer (some ⟨2, 98, none⟩)]).run Tryz.prog w = .ok (.int .u8 22) w := by kernel_rfl
theorem as_kind25 (w : World) : ((ReflectliteType.abiMethod fun t => (fun a : Nat => Value.int IntKind.u8 (a : Int)) <$> Rtype.kind t) #[.pointer (some ⟨2, 92, none⟩)]).run Tryz.prog w = .ok (.int .u8 22) w := by kernel_rfl

/-! ### THE ENTRIES THAT READ OR WRITE MEMORY: laws with a premise on the cell (after Derived/Lib/ReflectliteSlice.lean's manner: each unfolding a lemma of its own, by rfl) -/
theorem as_rlm (z : Sem Value) (f : TypeId → Addr → Nat → Nat → Sem Value) (v : Value) :
    ReflectliteValue.method z f #[v] = (do match ← ReflectliteValue.parts v with | none => z | some (t, a, fl) => f t a fl (fl % 32)) := rfl
theorem as_parts27 (a : Addr) (w : World) : (ReflectliteValue.parts (.agg #[.pointer (some ⟨2, 98, none⟩), .pointer (some a), .int .u64 150])).run Tryz.prog w = .ok (some (98, a, 150)) w := by kernel_rfl
/-- (Value).IsNil at the Value of a **p.E that is not nil. -/
theorem as_isNil27 (a p : Addr) (W : World) (ha : W.cell? a = some (.pointer (some p))) :
    (ReflectliteValue.method (ReflectliteValue.valueError "reflectlite.Value.IsNil" 0) ReflectliteValue.isNil #[.agg #[.pointer (some ⟨2, 98, none⟩), .pointer (some a), .int .u64 150]]).run Tryz.prog W = .ok (.bool false) W := by
  rw [as_rlm]
  simp only [Sem.run_bind, as_parts27, Result.andThen]
  simp [ReflectliteValue.isNil, loadVar, isAgg, underlying, Tryz.underlying98, ha, Result.andThen]

theorem as_methodElem (h : Value) (w : World) : (Go.method 322 155 (.agg #[h]) "Elem").run Tryz.prog w = .ok (148, .agg #[h]) w := by kernel_rfl
theorem as_methodImplements (h : Value) (w : World) : (Go.method 322 155 (.agg #[h]) "Implements").run Tryz.prog w = .ok (149, .agg #[h]) w := by kernel_rfl
theorem as_methodAssignableTo (h : Value) (w : World) : (Go.method 322 155 (.agg #[h]) "AssignableTo").run Tryz.prog w = .ok (146, .agg #[h]) w := by kernel_rfl
theorem as_elem27 (w : World) : (ReflectliteType.method ReflectliteType.elem #[.agg #[.pointer (some ⟨2, 98, none⟩)]]).run Tryz.prog w = .ok (.iface 155 (.agg #[.pointer (some ⟨2, 92, none⟩)])) w := by kernel_rfl
theorem as_implements25 (w : World) : (ReflectliteType.relation "Implements" ReflectliteType.implements_ #[.agg #[.pointer (some ⟨2, 92, none⟩)], .iface 155 (.agg #[.pointer (some ⟨2, 37, none⟩)])]).run Tryz.prog w = .ok (.bool true) w := by kernel_rfl
theorem as_typeOf25 (v : Value) (w : World) : (ReflectliteType.typeOf #[.iface 92 v]).run Tryz.prog w = .ok (.iface 155 (.agg #[.pointer (some ⟨2, 92, none⟩)])) w := by kernel_rfl
theorem as_assignable25 (w : World) : (ReflectliteType.relation "AssignableTo" ReflectliteType.assignableTo #[.agg #[.pointer (some ⟨2, 92, none⟩)], .iface 155 (.agg #[.pointer (some ⟨2, 92, none⟩)])]).run Tryz.prog w = .ok (.bool true) w := by kernel_rfl
theorem as_valueOf25 (e : Addr) (w : World) : (ReflectliteValue.unpack (.iface 92 (.pointer (some e)))).run Tryz.prog w
    = .ok (.agg #[.pointer (some ⟨2, 92, none⟩), .pointer (some ⟨w.heap.size, 0, none⟩), .int .u64 150]) (w.alloc (.cells #[.pointer (some e)] 92)) := by kernel_rfl

theorem as_elemOf27 (w : World) : (Rtype.elem? 98).run Tryz.prog w = .ok (some 92) w := by kernel_rfl
theorem as_mk25 (p : Addr) (w : World) : (ReflectliteValue.mk 92 p ReflectliteValue.flagAddr).run Tryz.prog w = .ok (.agg #[.pointer (some ⟨2, 92, none⟩), .pointer (some p), .int .u64 406]) w := by kernel_rfl
/-- (Value).Elem at the Value of a **p.E that is not nil: the Value of the *p.E variable that it points to, addressable. -/
theorem as_elemV27 (a p : Addr) (W : World) (ha : W.cell? a = some (.pointer (some p))) :
    (ReflectliteValue.method (ReflectliteValue.valueError "reflectlite.Value.Elem" 0) ReflectliteValue.elem #[.agg #[.pointer (some ⟨2, 98, none⟩), .pointer (some a), .int .u64 150]]).run Tryz.prog W
      = .ok (.agg #[.pointer (some ⟨2, 92, none⟩), .pointer (some p), .int .u64 406]) W := by
  rw [as_rlm]
  simp only [Sem.run_bind, as_parts27, Result.andThen]
  simp [ReflectliteValue.elem, loadVar, isAgg, underlying, Tryz.underlying98, ha, Result.andThen, as_elemOf27, as_mk25]
theorem as_rls (v x : Value) : ReflectliteValue.set #[v, x] = (do
    let (some (dst, a, fl), some (src, b, _)) := (← ReflectliteValue.parts v, ← ReflectliteValue.parts x)
      | unsupported (.noEntry "extern/(internal/reflectlite.Value).Set.zeroValue")
    if fl / ReflectliteValue.flagAddr % 2 == 0 then unsupported (.noEntry "extern/(internal/reflectlite.Value).Set.unaddressable")
    let val ← loadVar src b
    if ← Rtype.directlyAssignable dst src then storeVar dst a val
    else if ← Rtype.implements dst src then
      if (← Rtype.kind src) == 20 then
        match val with
        | .nilIface => unsupported (.noEntry "extern/reflectlite: a nil value of one interface type handed on as a value of another")
        | _ => storeVar dst a val
      else storeVar dst a (.iface src val)
    else panicString ("reflectlite.Set: value of type " ++ (← Rtype.spelt src) ++ " is not assignable to type " ++ (← Rtype.spelt dst))
    pure (.tuple #[])) := rfl
theorem as_parts25a (a : Addr) (w : World) : (ReflectliteValue.parts (.agg #[.pointer (some ⟨2, 92, none⟩), .pointer (some a), .int .u64 406])).run Tryz.prog w = .ok (some (92, a, 406)) w := by kernel_rfl
theorem as_parts25 (a : Addr) (w : World) : (ReflectliteValue.parts (.agg #[.pointer (some ⟨2, 92, none⟩), .pointer (some a), .int .u64 150])).run Tryz.prog w = .ok (some (92, a, 150)) w := by kernel_rfl
theorem as_direct25 (w : World) : (Rtype.directlyAssignable 92 92).run Tryz.prog w = .ok true w := by kernel_rfl
theorem as_size25 (w : World) : (sizeOf 92).run Tryz.prog w = .ok 1 w := by kernel_rfl
/-- (Value).Set: the *p.E variable at 'ta' gets what the Value's own variable 'b' holds. -/
theorem as_set25 (ta b e : Addr) (old : Value) (W : World) (hb : W.cell? b = some (.pointer (some e))) (ht : W.cell? ta = some old) (hf : W.frozen? ta = false) :
    (ReflectliteValue.set #[.agg #[.pointer (some ⟨2, 92, none⟩), .pointer (some ta), .int .u64 406], .agg #[.pointer (some ⟨2, 92, none⟩), .pointer (some b), .int .u64 150]]).run Tryz.prog W
      = .ok (.tuple #[]) (W.setCell ta (.pointer (some e))) := by
  rw [as_rls]
  simp only [Sem.run_bind, as_parts25a, as_parts25, Result.andThen]
  simp [ReflectliteValue.flagAddr, loadVar, isAgg, underlying, Tryz.underlying92, hb, Result.andThen, as_direct25, storeVar, Value.cells, storeCells, Addr.add]
  rw [run_store Tryz.prog W ta _ _ (by rfl)]
  simp [ht, hf]

set_option maxHeartbeats 4000000 in
theorem As_hit (e t : Addr) (old : Value) (w : World) (hg : w.cell? ⟨0, 0, none⟩ = some (.iface 155 (.agg #[.pointer (some ⟨2, 37, none⟩)]))) (ht0 : w.cell? t = some old) (hf0 : w.frozen? t = false) :
    Calls Tryz.prog 50 #[.iface 92 (.pointer (some e)), .iface 98 (.pointer (some t))] w fun ev w' => ev = .returned (.bool true) ∧ w' = ((((w.alloc (.cells #[.pointer (some t)] 98)).alloc (.cells #[.pointer (some ⟨2, 98, none⟩), .pointer (some ⟨w.heap.size, 0, none⟩), .int .u64 150] 134)).alloc (.cells #[.pointer (some ⟨2, 98, none⟩), .pointer (some ⟨w.heap.size, 0, none⟩), .int .u64 150] 134)).alloc (.cells #[.pointer (some e)] 92)).setCell t (.pointer (some e)) := by
  have h6 := @run_callFunc_extern Tryz.prog 72 _ (fun args => ReflectliteValue.unpack (args.getD 0 (.tuple #[]))) Tryz.func72 (by kernel_rfl) (by kernel_rfl) (by kernel_rfl) (by kernel_rfl)
  have h7 := @run_callFunc_extern Tryz.prog 73 _ (ReflectliteValue.methodAny (ReflectliteValue.valueError "reflectlite.Value.Type" 0) (fun t _ _ _ => ReflectliteType.toType t)) Tryz.func73 (by kernel_rfl) (by kernel_rfl) (by kernel_rfl) (by kernel_rfl)
  have h8 := @run_callFunc_extern Tryz.prog 74 _ (ReflectliteValue.method (ReflectliteValue.valueError "reflectlite.Value.IsNil" 0) ReflectliteValue.isNil) Tryz.func74 (by kernel_rfl) (by kernel_rfl) (by kernel_rfl) (by kernel_rfl)
  have h27 := @run_callFunc_extern Tryz.prog 132 _ (ReflectliteType.abiMethod fun t => do pure (.int .u8 (← Rtype.kind t))) Tryz.func132 (by kernel_rfl) (by kernel_rfl) (by kernel_rfl) (by kernel_rfl)
  have h37 := @run_callFunc_extern Tryz.prog 148 _ (ReflectliteType.method ReflectliteType.elem) Tryz.func148 (by kernel_rfl) (by kernel_rfl) (by kernel_rfl) (by kernel_rfl)
  have h38 := @run_callFunc_extern Tryz.prog 149 _ (ReflectliteType.relation "Implements" ReflectliteType.implements_) Tryz.func149 (by kernel_rfl) (by kernel_rfl) (by kernel_rfl) (by kernel_rfl)
  have h10 := @run_callFunc_extern Tryz.prog 70 _ ReflectliteType.typeOf Tryz.func70 (by kernel_rfl) (by kernel_rfl) (by kernel_rfl) (by kernel_rfl)
  have h35 := @run_callFunc_extern Tryz.prog 146 _ (ReflectliteType.relation "AssignableTo" ReflectliteType.assignableTo) Tryz.func146 (by kernel_rfl) (by kernel_rfl) (by kernel_rfl) (by kernel_rfl)
  have h11 := @run_callFunc_extern Tryz.prog 89 _ (ReflectliteValue.method (ReflectliteValue.valueError "reflectlite.Value.Elem" 0) ReflectliteValue.elem) Tryz.func89 (by kernel_rfl) (by kernel_rfl) (by kernel_rfl) (by kernel_rfl)
  have h12 := @run_callFunc_extern Tryz.prog 90 _ ReflectliteValue.set Tryz.func90 (by kernel_rfl) (by kernel_rfl) (by kernel_rfl) (by kernel_rfl)
  have tO := as_typeOf25
  have mA := as_methodAssignableTo
  have a25 := as_assignable25
  have v25 := as_valueOf25
  have f6 := as_valueOf27
  have f7 := as_type27
  have mK := as_methodKind
  have mE := as_methodElem
  have mI := as_methodImplements
  have k27 := as_kind27
  have k25 := as_kind25
  have e27 := as_elem27
  have i25 := as_implements25
  have n8 := as_isNil27 ⟨w.heap.size, 0, none⟩ t ((w.alloc (.cells #[.pointer (some t)] 98)).alloc (.cells #[.pointer (some ⟨2, 98, none⟩), .pointer (some ⟨w.heap.size, 0, none⟩), .int .u64 150] 134)) (by simp)
  have hlt : 0 < w.heap.size := by
    rcases Nat.eq_zero_or_pos w.heap.size with h0 | h
    · simp [World.cell?, h0] at hg
    · exact h
  have hg2 : ((w.alloc (.cells #[.pointer (some t)] 98)).alloc (.cells #[.pointer (some ⟨2, 98, none⟩), .pointer (some ⟨w.heap.size, 0, none⟩), .int .u64 150] 134)).cell? ⟨0, 0, none⟩ = some (.iface 155 (.agg #[.pointer (some ⟨2, 37, none⟩)])) := by
    rw [World.cell?_alloc_lt _ _ ⟨0, 0, none⟩ (by simp), World.cell?_alloc_lt _ _ ⟨0, 0, none⟩ hlt]; exact hg
  have htl : t.block < w.heap.size := by
    rcases Nat.lt_or_ge t.block w.heap.size with h | h
    · exact h
    · simp [World.cell?, Array.getElem?_eq_none h] at ht0
  have el := as_elemV27 ⟨w.heap.size, 0, none⟩ t (((w.alloc (.cells #[.pointer (some t)] 98)).alloc (.cells #[.pointer (some ⟨2, 98, none⟩), .pointer (some ⟨w.heap.size, 0, none⟩), .int .u64 150] 134)).alloc (.cells #[.pointer (some ⟨2, 98, none⟩), .pointer (some ⟨w.heap.size, 0, none⟩), .int .u64 150] 134)) (by rw [World.cell?_alloc_lt _ _ ⟨w.heap.size, 0, none⟩ (by simp; omega)]; simp)
  have st := as_set25 t ⟨w.heap.size + 1 + 1 + 1, 0, none⟩ e old ((((w.alloc (.cells #[.pointer (some t)] 98)).alloc (.cells #[.pointer (some ⟨2, 98, none⟩), .pointer (some ⟨w.heap.size, 0, none⟩), .int .u64 150] 134)).alloc (.cells #[.pointer (some ⟨2, 98, none⟩), .pointer (some ⟨w.heap.size, 0, none⟩), .int .u64 150] 134)).alloc (.cells #[.pointer (some e)] 92))
    (by rw [World.cell?_alloc_at _ _ _ _ (by simp)]; rfl)
    (by rw [World.cell?_alloc_lt _ _ t (by simp; omega), World.cell?_alloc_lt _ _ t (by simp; omega), World.cell?_alloc_lt _ _ t (by simp; omega), World.cell?_alloc_lt _ _ t htl]; exact ht0)
    (by rw [World.frozen?_alloc_old _ _ t (by simp; omega), World.frozen?_alloc_old _ _ t (by simp; omega), World.frozen?_alloc_old _ _ t (by simp; omega), World.frozen?_alloc_old _ _ t (Nat.ne_of_lt htl)]; exact hf0)
  go_enter Tryz.func50, Tryz.ntmps50
  go_wp2
  refine wp_loop_rounds 1 ?_
  rw [rounds_succ]
  go_wp2
  go_ret
  exact ⟨rfl, rfl⟩
end Go.Proofs.YtbljhodnpddpiaaGreatDoor
namespace Go.Proofs.YtbljhodnpddpiaaGreatDoor
open Go.RowKit

/-- The cell that errors.As reads is as main's init lays it. -/
def ErrCell (w : World) : Prop := w.cell? ⟨0, 0, none⟩ = some (.iface 155 (.agg #[.pointer (some ⟨2, 37, none⟩)]))
theorem ErrCell.lt {w : World} (h : ErrCell w) : 0 < w.heap.size := by
  rcases Nat.eq_zero_or_pos w.heap.size with h0 | h1
  · unfold ErrCell at h; simp [World.cell?, h0] at h
  · exact h1
theorem ErrCell.keep {w w' : World} (h : ErrCell w) (hk : w'.heap[0]? = w.heap[0]?) : ErrCell w' := by
  unfold ErrCell World.cell? at *
  rw [← h]
  simp only [hk]
theorem ErrCell.below {w w' : World} (h : ErrCell w) (hb : Below w.heap.size w w') : ErrCell w' := h.keep (hb.block 0 h.lt)
theorem allocPF (w : World) : (Instr.alloc 92 true (.tuple #[])).run Tryz.prog w = .ok (.pointer (some ⟨w.heap.size, 0, none⟩)) (w.alloc (.cells [Value.pointer none].toArray 92)) := by kernel_rfl
theorem As_fault (g t : Nat) (v w : World) (ht : t = v.heap.size) (hw : w = v.alloc (.cells [Value.pointer none].toArray 92)) (hg : ErrCell v) :
    Calls Tryz.prog 50 #[.iface 92 (.pointer (some ⟨g, 0, none⟩)), .iface 98 (.pointer (some ⟨t, 0, none⟩))] w fun e w' => e = .returned (.bool true) ∧ w'.cell? ⟨t, 0, none⟩ = some (.pointer (some ⟨g, 0, none⟩)) ∧ Below v.heap.size v w' := by
  have hbw : Below v.heap.size v w := by rw [hw]; exact (Below.refl _ _).alloc (Nat.le_refl _) _
  have hs : w.heap.size = t + 1 := by rw [hw, ht]; simp
  refine (As_hit ⟨g, 0, none⟩ ⟨t, 0, none⟩ (.pointer none) w (hg.below hbw) ?_ ?_).mono ?_
  · rw [hw, ht]; simp
  · rw [hw, ht]; rw [frozen?_alloc_cells]; simp [World.frozen?]
  · rintro e w' ⟨rfl, rfl⟩
    refine ⟨rfl, ?_, ?_⟩
    · obtain ⟨v5, hv5⟩ : ∃ x, x = (((w.alloc (.cells #[.pointer (some ⟨t, 0, none⟩)] 98)).alloc (.cells #[.pointer (some ⟨2, 98, none⟩), .pointer (some ⟨w.heap.size, 0, none⟩), .int .u64 150] 134)).alloc (.cells #[.pointer (some ⟨2, 98, none⟩), .pointer (some ⟨w.heap.size, 0, none⟩), .int .u64 150] 134)).alloc (.cells #[.pointer (some ⟨g, 0, none⟩)] 92) := ⟨_, rfl⟩
      rw [← hv5]
      have hb5 : Below w.heap.size w v5 := by
        rw [hv5]
        exact ((((Below.refl _ _).alloc (Nat.le_refl _) _).alloc (by simp; try omega) _).alloc (by simp; try omega) _).alloc (by simp; try omega) _
      have h1 : v5.cell? ⟨t, 0, none⟩ = some (.pointer none) := by rw [hb5.cell (by show t < _; omega), hw, ht]; simp
      exact World.cell?_setCell_same _ _ _ h1
    · refine hbw.trans (Below.setCell ?_ (by show _ ≤ t; omega) _)
      have hh : v.heap.size ≤ w.heap.size := by omega
      exact ((((Below.refl _ _).mono (Nat.le_refl _)).alloc (Nat.le_refl _) _).alloc (by simp; try omega) _).alloc (by simp; try omega) _ |>.alloc (by simp; try omega) _ |>.mono hh
set_option maxHeartbeats 1000000 in
theorem wrapped_fault (g : Nat) (w : World) (hg : ErrCell w) (h : FaultAt g 10 0 w) :
    Calls Tryz.prog 59 #[faultV g] w fun e w' => ∃ g' : Nat, w.heap.size ≤ g' ∧ e = .returned (faultV g') ∧ w'.heap[g']? = some (.cells [Value.int .i64 10, .int .i64 0, faultV g].toArray 95 (0, 0)) ∧ Below w.heap.size w w' := by
  unfold faultV
  have HG := Lib.hid hg
  have H := Lib.hid h
  clear hg h
  go_enter Tryz.func59, Tryz.ntmps59
  go_wp2_with (first | (refine wpList_alloc rfl 92 rfl _ allocPF ?_; go_frame) | fail)
  obtain ⟨t, ht⟩ : ∃ t, t = w.heap.size := ⟨_, rfl⟩
  obtain ⟨w1, hw1⟩ : ∃ x, x = w.alloc (.cells [Value.pointer none].toArray 92) := ⟨_, rfl⟩
  rw [← ht, ← hw1]
  have HA := Lib.hid (As_fault g t w w1 ht hw1 HG.out)
  have HT := Lib.hid ht
  clear hw1 ht
  go_wp2_with fail
  refine HA.out.mono ?_
  rintro e w2 ⟨rfl, c0, hb⟩
  have hF := H.out.keep (hb.block g H.out.lt)
  have c1 : w2.cell? ⟨g, 0, none⟩ = some (.int .i64 10) := by rw [cell_of_list hF]; rfl
  have HB := Lib.hid hb
  clear hF hb HA
  go_wp2_with fail
  go_region
  go_wp2_with fail
  go_ret
  have hFg := heap_alloc_new w2 (.cells [Value.int .i64 10, .int .i64 0, faultV g].toArray 95)
  exact ⟨w2.heap.size, HB.out.size, rfl, hFg, (HB.out.alloc HB.out.size _).drew⟩
end Go.Proofs.YtbljhodnpddpiaaGreatDoor
