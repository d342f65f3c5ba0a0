/- The walks of the pen's write and read. -/
import Derived.Test.YtmobjpandmdmdaaGreatDoorJPen
namespace Go.Proofs.YtmobjpandmdmdaaGreatDoor
open Go.RowKit

/-- Sectors, laid one behind the other. -/
def Wide (ss : List (List UInt8)) : Prop := ∀ s ∈ ss, s.length = 64
theorem Wide.drop {ss : List (List UInt8)} (h : Wide ss) (k : Nat) : Wide (ss.drop k) := fun s hs => h s (List.mem_of_mem_drop hs)
theorem Wide.take {ss : List (List UInt8)} (h : Wide ss) (k : Nat) : Wide (ss.take k) := fun s hs => h s (List.mem_of_mem_take hs)
theorem Wide.flat {ss : List (List UInt8)} (h : Wide ss) : ss.flatten.length = ss.length * 64 := flat_length h
theorem Wide.get {ss : List (List UInt8)} (h : Wide ss) {k : Nat} (hk : k < ss.length) : (ss.getD k []).length = 64 := by
  rw [List.getD, List.getElem?_eq_getElem hk]; exact h _ (List.getElem_mem _)
theorem flat_drop {ss : List (List UInt8)} {k : Nat} (hk : k < ss.length) : (ss.drop k).flatten = ss.getD k [] ++ (ss.drop (k + 1)).flatten := by
  rw [List.drop_eq_getElem_cons hk, List.flatten_cons, List.getD, List.getElem?_eq_getElem hk]; rfl
theorem bs_cut {x y : List UInt8} {n : Nat} (h : x.length = n) : (bs (x ++ y)).extract 0 n = bs x := by
  apply bs_of; rw [extract_to, bs_list, List.take_left' h]
theorem bs_rest {x y : List UInt8} {n : Nat} (h : x.length = n) : (bs (x ++ y)).extract n (bs (x ++ y)).size = bs y := by
  apply bs_of; rw [extract_from, bs_list, List.drop_left' h]
theorem run_cut64 {s q : ByteArray} (h : 64 ≤ s.size) (hq : s.extract 0 64 = q) (w : World) : (Instr.slice 9 (.string s) none (some (.int .i64 64)) none).run Tryz.prog w = .ok (.string q) w := by
  rw [run_slice_string_to_if w 9 s .i64 64 Tryz.underlying9, if_pos (by omega), ← hq]; rfl
theorem run_rest64 {s q : ByteArray} (h : 64 ≤ s.size) (hq : s.extract 64 s.size = q) (w : World) : (Instr.slice 9 (.string s) (some (.int .i64 64)) none none).run Tryz.prog w = .ok (.string q) w := by
  rw [run_slice_string_from_if w 9 s .i64 64 Tryz.underlying9, if_pos (by omega), ← hq]; rfl
set_option maxRecDepth 100000 in
set_option maxHeartbeats 2000000 in
theorem write_any (d p q n : Nat) (F : List Nat) (st : St) (ok : Bool) (a : Nat) (ss : List (List UInt8)) (hss : Wide ss) (ha : a + ss.length ≤ n) (hn : n ≤ 8192) (w : World) (h : Pen d p q n F st ok w) (hf : st.Fit ss.length) :
    Calls Tryz.prog 59 #[.pointer (some ⟨q, 0, none⟩), .int .i64 a, .string (bs ss.flatten)] w fun e w' => e = .returned (.tuple #[]) ∧ ∃ F', Pen d p q n F' (doAll (st, ok) (puts a ss)).1 (doAll (st, ok) (puts a ss)).2 w' ∧ Mv [q, p] F F' w w' := by
  have hlen := hss.flat
  have H := Lib.hid h
  have HSS := Lib.hid hss
  have HLEN := Lib.hid hlen
  clear h hss hlen
  go_enter Tryz.func59, Tryz.ntmps59
  go_wp2_with fail
  go_loopw [1, 2] (fun av sv wr => ∃ (k : Nat) (F1 : List Nat), k ≤ ss.length ∧ av = .int .i64 (a + k : Nat) ∧ sv = .string (bs (ss.drop k).flatten) ∧ Pen d p q n F1 (doAll (st, ok) (puts a (ss.take k))).1 (doAll (st, ok) (puts a (ss.take k))).2 wr ∧ Mv [q, p] F F1 w wr) (fun av _ _ => a + ss.length - (intOf av).toNat)
  case atStart => exact ⟨0, F, by omega, by simp, by simp, by simpa [puts, doAll] using H.out, Mv.refl _ _ _⟩
  case round =>
    obtain ⟨k, F1, hk, rfl, rfl, hP, hM⟩ := hrel
    by_cases hlt : k < ss.length
    · as_aux_lemma =>
      obtain ⟨x, hx⟩ : ∃ x, x = ss.getD k [] := ⟨_, rfl⟩
      have hx64 : x.length = 64 := by rw [hx]; exact HSS.out.get hlt
      obtain ⟨t, ht⟩ : ∃ t, t = bs (ss.drop k).flatten := ⟨_, rfl⟩
      have hts : t.size = 64 * (ss.length - k) := by rw [ht, bs_size, (HSS.out.drop k).flat, List.length_drop]; omega
      obtain ⟨t0, ht0⟩ : ∃ t, t = bs x := ⟨_, rfl⟩
      obtain ⟨t1, ht1⟩ : ∃ t, t = bs (ss.drop (k + 1)).flatten := ⟨_, rfl⟩
      have hcut : ∀ v : World, (Instr.slice 9 (.string t) none (some (.int .i64 64)) none).run Tryz.prog v = .ok (.string t0) v := run_cut64 (by omega) (by rw [ht, flat_drop hlt, ← hx, bs_cut hx64, ht0])
      have hrest : ∀ v : World, (Instr.slice 9 (.string t) (some (.int .i64 64)) none none).run Tryz.prog v = .ok (.string t1) v := run_rest64 (by omega) (by rw [ht, flat_drop hlt, ← hx, bs_rest hx64, ht1])
      have ht0s : t0.size = 64 := by rw [ht0, bs_size, hx64]
      have ht0l : t0.data.toList = x := by rw [ht0, bs_list]
      obtain ⟨b, hb⟩ : ∃ b, b = a + k := ⟨_, rfl⟩
      rw [← ht, ← hb]
      have hbn : b < n := by omega
      have hfit := St.Fit.doAll (m := ss.length - k) (puts a (ss.take k)) (st := st) (hf.less (by rw [length_puts, List.length_take]; omega)) ok
      have hnext : doAll (st, ok) (puts a (ss.take (k + 1))) = does (doAll (st, ok) (puts a (ss.take k))) (.put b x) := by rw [puts_take hlt, doAll_append, ← hx, hb]; rfl
      have hlast : doAll (st, ok) (puts a ss) = doAll (doAll (st, ok) (puts a (ss.take k))) (puts b (ss.drop k)) := by
        rw [hb]
        conv => lhs; rw [← List.take_append_drop k ss, puts_append, doAll_append, List.length_take, Nat.min_eq_left (by omega)]
      obtain ⟨s1, o1⟩ : ∃ s1 o1, doAll (st, ok) (puts a (ss.take k)) = (s1, o1) := ⟨_, _, rfl⟩
      obtain ⟨o1, he1⟩ := o1
      rw [he1] at hP hfit hnext hlast
      dsimp only at hP hfit hnext hlast
      have HT1 := Lib.hid ht1
      have HN := Lib.hid hnext
      have HL := Lib.hid hlast
      have HT := Lib.hid hts
      have hpos : 0 < t.size := by omega
      have HM := Lib.hid hM
      have HF := Lib.hid hfit
      have HT0 := Lib.hid ht0l
      have Hb := Lib.hid hb
      clear hx hx64 ht ht0 ht1 hnext hlast hM hts hfit he1 ht0l hb
      cases o1 with
      | false =>
        obtain ⟨g, hq, _⟩ := hP.stuck
        have c1 : wr.cell? ⟨q, 1, none⟩ = some (faultV g) := by rw [cell_of_list hq]; rfl
        unfold faultV at c1
        have HP := Lib.hid hP
        clear hP hq
        go_wp2_with fail
        go_end0
        refine ⟨rfl, F1, ?_, HM.out⟩
        rw [HL.out, doAll_off]; exact HP.out
      | true =>
        have hq := hP.fine
        have c0 : wr.drew.cell? ⟨q, 0, none⟩ = some (.pointer (some ⟨d, 0, none⟩)) := by show wr.cell? _ = _; rw [cell_of_list hq]; rfl
        have c1 : wr.cell? ⟨q, 1, none⟩ = some .nilIface := by rw [cell_of_list hq]; rfl
        have hqlt := hP.qlt
        have HP := Lib.hid hP
        clear hP hq
        by_cases h0 : s1.fuse = 0
        · go_wp2_with fail
          have CW := Lib.hid (fun v : World => fun (hv : v = wr.drew) => Write_cut d p F1 n s1.S s1.ps 0 s1.acts b t0 hbn ht0s v (by rw [hv]; exact (HP.out.dsk.below (Below.refl _ _).drew).liv) (by rw [hv]; have := (HP.out.dsk.below (Below.refl _ _).drew).pow; rw [h0] at this; exact this))
          go_region_law (first | (go_simp; go_at_call 8; (with_reducible refine (CW.out _ rfl).mono ?_); rintro e w1 ⟨g, hg, rfl, hfa, hp1, hk1⟩; have hq1 := (hk1.block q (by exact hqlt) (by simp [HP.out.qp])).trans (show wr.drew.heap[q]? = _ from HP.out.fine); have f1 := free_of_list hq1; have d1 : w1.cell? ⟨q, 1, none⟩ = some .nilIface := (by rw [cell_of_list hq1]; rfl); have HS := Lib.hid ((HP.out.below (Below.refl _ _).drew).cut h0 hg hfa hp1 hk1); clear hfa hp1 hk1 hq1) | fail)
          all_goals
            go_wp2_with fail
            go_roundw
            case rel =>
              refine ⟨k + 1, F1, by omega, ?_, by rw [HT1.out], ?_, (HM.out.trans (Mv.below _ _ (Below.refl _ _).drew)).trans HS.out.2⟩
              · have := Hb.out; congr 1; omega
              · rw [HN.out, does_cut h0]; exact HS.out.1
            case measure => have := Hb.out; simp [intOf]; omega
        · go_wp2_with fail
          have CW := Lib.hid (fun v : World => fun (hv : v = wr.drew) => (show Dsk d p n F1 s1 true v by rw [hv]; exact HP.out.dsk.below (Below.refl _ _).drew).put (hf := HF.out.less (by omega)) h0 b t0 hbn ht0s)
          go_region_law (first | (go_simp; go_at_call 8; (with_reducible refine (CW.out _ rfl).mono ?_); rintro e w1 ⟨rfl, F2, h1, hF2, hk1⟩; have hq1 := (hk1.block q (by exact hqlt) (by simp [HP.out.qp, HP.out.qF])).trans (show wr.drew.heap[q]? = _ from HP.out.fine); have f1 := free_of_list hq1; have d1 : w1.cell? ⟨q, 1, none⟩ = some .nilIface := (by rw [cell_of_list hq1]; rfl); have HS := Lib.hid ((HP.out.below (Below.refl _ _).drew).step h1 hF2 hk1); clear h1 hF2 hk1 hq1) | fail)
          all_goals
            go_wp2_with fail
            go_roundw
            case rel =>
              refine ⟨k + 1, F2, by omega, ?_, by rw [HT1.out], ?_, (HM.out.trans (Mv.below _ _ (Below.refl _ _).drew)).trans HS.out.2⟩
              · have := Hb.out; congr 1; omega
              · rw [HN.out, does_on h0, ← HT0.out]; exact HS.out.1
            case measure => have := Hb.out; simp [intOf]; omega
    · as_aux_lemma =>
      obtain rfl : k = ss.length := by omega
      rw [List.take_length] at hP
      rw [List.drop_length, List.flatten_nil]
      have hz : (bs ([] : List UInt8)).size = 0 := by rw [bs_size]; rfl
      obtain ⟨t, ht⟩ : ∃ t, t = bs ([] : List UInt8) := ⟨_, rfl⟩
      rw [← ht] at hz ⊢
      have HP := Lib.hid hP
      have HM := Lib.hid hM
      clear hP hM ht
      go_wp2_with fail
      go_end0
      exact ⟨rfl, F1, HP.out, HM.out⟩
end Go.Proofs.YtmobjpandmdmdaaGreatDoor
