/- The walk of the pen's read. -/
import Derived.Test.YtmobjpandmdmdaaGreatDoorJPen
namespace Go.Proofs.YtmobjpandmdmdaaGreatDoor
open Go.RowKit
theorem allocBldr (w : World) : (Instr.alloc 130 true (.tuple #[])).run Tryz.prog w = .ok (.pointer (some ⟨w.heap.size, 0, none⟩)) (w.alloc (.cells [Value.pointer none, .slice none 0 0].toArray 130)) := by kernel_rfl
theorem Bldr.below {b : Nat} {l : List UInt8} {w w' : World} (h : Bldr b l w) (hb : Below w.heap.size w w') : Bldr b l w' := by
  rcases h with ⟨hB, v, hbk, hown, hne⟩ | ⟨hB, v, hbk, hown, hne⟩
  · exact Or.inl ⟨hB, v, (hb.block b (lt_of_heap hbk)).trans hbk, own_keep hown (fun g hg => hb.block g (hown.lt g hg).2), hne⟩
  · exact Or.inr ⟨hB, v, (hb.block b (lt_of_heap hbk)).trans hbk, own_keep hown (fun g hg => hb.block g (hown.lt g hg).2), hne⟩
theorem Bldr.keep {b : Nat} {l : List UInt8} {w w' : World} (h : Bldr b l w) {X : List Nat} (hk : Kept w.heap.size X w w') (hX : ∀ x ∈ X, x < b) : Bldr b l w' := by
  have key : ∀ v : Value, w.ownsRow b 5 1 v (l.map u8v).length (l.map u8v) → w'.ownsRow b 5 1 v (l.map u8v).length (l.map u8v) := by
    intro v hown
    refine own_keep hown (fun g hg => hk.block g (hown.lt g hg).2 (fun hm => ?_))
    have := hX g hm
    have := (hown.lt g hg).1
    omega
  rcases h with ⟨hB, v, hbk, hown, hne⟩ | ⟨hB, v, hbk, hown, hne⟩
  · exact Or.inl ⟨hB, v, (hk.block b (lt_of_heap hbk) (fun hm => by have := hX b hm; omega)).trans hbk, key v hown, hne⟩
  · exact Or.inr ⟨hB, v, (hk.block b (lt_of_heap hbk) (fun hm => by have := hX b hm; omega)).trans hbk, key v hown, hne⟩
theorem length_readAt {S : List (List UInt8)} {ps : List Dk.Wr} (hS : ∀ s ∈ S, s.length = 64) (hp : ∀ x ∈ ps, x.1 < S.length ∧ x.2.length = 64) {a : Nat} (ha : a < S.length) : (Dk.readAt S ps a).length = 64 := by
  have e := Dk.flushed_at S ps hS hp ps.length (Nat.le_refl _) a
  rw [List.take_length] at e
  rw [← e]
  have := Dk.settleTo_wide (fun _ => 64) hS hp ps.length (Nat.le_refl _)
  have hl : a < (Dk.settleTo S ps (fun _ => 64) ps.length).length := by rw [Dk.length_settleTo]; exact ha
  rw [List.getD, List.getElem?_eq_getElem hl]; exact this _ (List.getElem_mem _)
theorem Dsk.wide {d p n : Nat} {F : List Nat} {st : St} {ok : Bool} {w : World} (h : Dsk d p n F st ok w) : st.S.length = n ∧ (∀ s ∈ st.S, s.length = 64) ∧ ∀ x ∈ st.ps, x.1 < st.S.length ∧ x.2.length = 64 := by
  obtain ⟨bl, bn, pv, h, _⟩ := h.liv
  exact ⟨h.len, h.wide, fun x hx => by rw [h.len]; exact h.wrs x hx⟩
theorem length_rd {S : List (List UInt8)} {ps : List Dk.Wr} (hS : ∀ s ∈ S, s.length = 64) (hp : ∀ x ∈ ps, x.1 < S.length ∧ x.2.length = 64) (a k : Nat) (h : a + k ≤ S.length) : (rd S ps a k).length = 64 * k := by
  induction k with
  | zero => rw [rd_zero]; rfl
  | succ k ih => rw [rd_succ, List.length_append, ih (by omega), length_readAt hS hp (by omega)]; omega
theorem Dsk.read {d p n : Nat} {F : List Nat} {st : St} {w : World} (h : Dsk d p n F st true w) (a : Nat) (ha : a < n) (q : ByteArray) (hq : q.data.toList = Dk.readAt st.S st.ps a) :
    Calls Tryz.prog 75 #[.pointer (some ⟨d, 0, none⟩), .int .i64 a] w fun e w' => e = .returned (.tuple #[.string q, .nilIface]) ∧ w = w' := Read_ok d p F n st.S st.ps 0 st.fuse st.acts a ha q hq w h.liv h.pow
theorem Dsk.under {d p n : Nat} {F : List Nat} {st : St} {ok : Bool} {w w' : World} (h : Dsk d p n F st ok w) {B : Nat} (hb : Below B w w') (hF : ∀ x ∈ F, x < B) (hp : p < B) : Dsk d p n F st ok w' :=
  ⟨h.liv.keep hb.size (fun x hx => hb.block x (hF x hx)), h.pow.keep (hb.block p hp)⟩
theorem Pen.under {d p q n : Nat} {F : List Nat} {st : St} {w w' : World} (h : Pen d p q n F st true w) {B : Nat} (hb : Below B w w') (hF : ∀ x ∈ F, x < B) (hp : p < B) (hq : q < B) : Pen d p q n F st true w' :=
  Pen.new (h.dsk.under hb hF hp) ((hb.block q hq).trans h.fine) h.qF h.qp
set_option maxRecDepth 100000 in
set_option maxHeartbeats 2000000 in
theorem read_any (d p q n : Nat) (F : List Nat) (st : St) (a m : Nat) (ha : a + m ≤ n) (hn : n ≤ 8192) (w : World) (h : Pen d p q n F st true w) :
    Calls Tryz.prog 52 #[.pointer (some ⟨q, 0, none⟩), .int .i64 a, .int .i64 m] w fun e w' => e = .returned (.string (bs (rd st.S st.ps a m))) ∧ Pen d p q n F st true w' ∧ Kept w.heap.size [q] w w' := by
  have H := Lib.hid h
  obtain ⟨h1, h2, h3⟩ := h.dsk.wide
  have HL := Lib.hid (fun k (hk : a + k ≤ n) => length_rd (S := st.S) (ps := st.ps) h2 h3 a k (by omega))
  have HL1 := Lib.hid (fun k (hk : k < n) => length_readAt (S := st.S) (ps := st.ps) h2 h3 (a := k) (by omega))
  have hqw := h.qlt
  have HFB := Lib.hid h.dsk.Flt
  have HPB := Lib.hid h.dsk.pow.lt
  clear h h1 h2 h3
  go_enter Tryz.func52, Tryz.ntmps52
  go_wp2_with (refine wpList_alloc rfl 130 rfl _ allocBldr ?_; go_frame)
  obtain ⟨w1, hw1⟩ : ∃ x, x = w.alloc (.cells [Value.pointer none, .slice none 0 0].toArray 130) := ⟨_, rfl⟩
  rw [← hw1]
  have hP1 : Pen d p q n F st true w1 := by rw [hw1]; exact H.out.below ((Below.refl _ _).alloc (Nat.le_refl _) _)
  have hB1 : Bldr w.heap.size [] w1 := by rw [hw1]; exact Bldr.fresh (heap_alloc_new _ _)
  have hM1 : Kept w.heap.size [q] w w1 := by rw [hw1]; exact Kept.of_below ((Below.refl _ _).alloc (Nat.le_refl _) _)
  clear hw1
  go_loopw [12] (fun iv wr => ∃ k : Nat, k ≤ m ∧ iv = .int .i64 k ∧ Bldr w.heap.size (rd st.S st.ps a k) wr ∧ Pen d p q n F st true wr ∧ Kept w.heap.size [q] w wr) (fun iv _ => m - (intOf iv).toNat)
  case atStart => exact ⟨0, by omega, rfl, by rw [rd_zero]; exact hB1, hP1, hM1⟩
  case round =>
    clear hP1 hB1 hM1
    obtain ⟨k, hk, rfl, hB, hP, hM⟩ := hrel
    by_cases hlt : k < m
    · have hq := hP.fine
      have c0 : wr.cell? ⟨q, 0, none⟩ = some (.pointer (some ⟨d, 0, none⟩)) := by rw [cell_of_list hq]; rfl
      have c1 : wr.cell? ⟨q, 1, none⟩ = some .nilIface := by rw [cell_of_list hq]; rfl
      have f1 := free_of_list hq
      obtain ⟨b, hb⟩ : ∃ b, b = a + k := ⟨_, rfl⟩
      have hbn : b < n := by omega
      have eb : (a : Int) + (k : Int) = (b : Int) := by omega
      obtain ⟨x, hx⟩ : ∃ x, x = bs (Dk.readAt st.S st.ps b) := ⟨_, rfl⟩
      have hxl : x.data.toList = Dk.readAt st.S st.ps b := by rw [hx, bs_list]
      have hxs : x.size = 64 := by rw [hx, bs_size]; exact HL1.out b hbn
      have hsu : rd st.S st.ps a (k + 1) = rd st.S st.ps a k ++ x.data.toList := by rw [rd_succ, hxl, hb]
      have hl := HL.out k (by omega)
      have CR := Lib.hid (hP.dsk.read b hbn x hxl)
      have HP := Lib.hid hP
      have HB := Lib.hid hB
      have HM := Lib.hid hM
      have HSU := Lib.hid hsu
      have HQ := Lib.hid hq
      have EB := Lib.hid eb
      have HBK := Lib.hid hb
      clear hP hB hM hq hx hxl hsu eb hb
      go_wp2_with (first | (go_at_call 75; rw [EB.out]; refine CR.out.mono ?_; rintro e w' ⟨rfl, rfl⟩) | fail)
      obtain ⟨w4, hw4⟩ : ∃ x, x = wr.setCell ⟨q, 1, none⟩ .nilIface := ⟨_, rfl⟩
      have hk4 : Kept wr.heap.size [q] wr w4 := by rw [hw4]; exact (Kept.refl _ _ _).setCell (p := ⟨q, 1, none⟩) (by simp) _
      have hq4 : w4.heap[q]? = some (.cells [Value.pointer (some ⟨d, 0, none⟩), .nilIface].toArray 108 (0, 0)) := by rw [hw4]; exact set_pen _ HQ.out
      have HP4 := Lib.hid (HP.out.again hk4 hq4)
      have hB4 : Bldr w.heap.size (rd st.S st.ps a k) w4 := HB.out.keep hk4 (by simp; exact hqw)
      have HK4 := Lib.hid hk4
      rw [← hw4]
      clear hw4 hk4 hq4 c0 c1 f1
      refine (Put_any w.heap.size _ x w4 hB4 (by rw [hl, hxs]; omega)).mono ?_
      rintro e w5 ⟨rfl, hB5, hb5⟩
      have HB5 := Lib.hid hB5
      have HU5 := Lib.hid hb5
      clear hB5 hb5 hB4
      go_wp2_with fail
      go_roundw
      case rel =>
        refine ⟨k + 1, by omega, by go_num, by rw [HSU.out]; exact Bldr.of_built HB5.out, HP4.out.under HU5.out HFB.out HPB.out hqw, HM.out.trans ((HK4.out.mono HM.out.size (fun x _ hm => hm)).trans (Kept.of_below HU5.out))⟩
      case measure => simp [intOf]; omega
    · obtain rfl : k = m := by omega
      have HP := Lib.hid hP
      have HB := Lib.hid hB
      have HM := Lib.hid hM
      clear hP hB hM
      go_wp2_with fail
      refine (Told_any _ _ _ HB.out).mono ?_
      rintro e w2 ⟨rfl, hb2⟩
      have HU2 := Lib.hid hb2
      clear hb2
      go_wp2_with fail
      go_ret
      exact ⟨by rw [bs_eq]; rfl, HP.out.under HU2.out HFB.out HPB.out hqw, HM.out.trans (Kept.of_below HU2.out)⟩
end Go.Proofs.YtmobjpandmdmdaaGreatDoor
