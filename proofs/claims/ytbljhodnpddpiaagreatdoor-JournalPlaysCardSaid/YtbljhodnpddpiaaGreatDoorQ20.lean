/- Several texts in one, in the order in which they build: DImage JOpensH JI1 JS1 JOpensW. -/
import Derived.Test.YtbljhodnpddpiaaGreatDoorQ04
import Derived.Test.YtbljhodnpddpiaaGreatDoorQ05
import Derived.Lib.Builder
import Derived.Test.YtbljhodnpddpiaaGreatDoorQ18
import Derived.Test.YtbljhodnpddpiaaGreatDoorQ12
import Derived.Test.YtbljhodnpddpiaaGreatDoorQJRefAll
import Derived.Test.YtbljhodnpddpiaaGreatDoorQ14
import Derived.Test.YtbljhodnpddpiaaGreatDoorQ15
import Derived.Test.YtbljhodnpddpiaaGreatDoorQ16
import Derived.Deep.RegionHeld3
import Derived.Deep.CutRange
/- The walks of a disk's image. -/
namespace Go.Proofs.YtbljhodnpddpiaaGreatDoor
open Go.RowKit

set_option maxHeartbeats 2000000 in
theorem BWrite_any (B b g o : Nat) (bs : List Value) (l : List UInt8) (hl : l.length = 64) (w : World) (h : Lib.BuilderAt 121 5 B b (.pointer (some ⟨b, 0, none⟩)) bs w) (hr : w.rangeAt g o (l.map u8v))
    (hlen : bs.length + 64 ≤ 140737488355328) (hBw : B ≤ w.heap.size) :
    Calls Tryz.prog 66 #[.pointer (some ⟨b, 0, none⟩), .slice (some ⟨g, o, none⟩) 64 64] w fun e w' => e = .returned (.tuple #[.int .i64 64, .nilIface]) ∧
      (Lib.BuilderAt 121 5 B b (.pointer (some ⟨b, 0, none⟩)) (bs ++ l.map u8v) w' ∧ Below B w w') := by
  obtain ⟨i0, hi, hz0, hz1, hz2⟩ := info_parts infoByte
  have h0 := h.cell0
  obtain ⟨hB, v, hbk, hown, hne⟩ := h
  have c1 : w.cell? ⟨b, 1, none⟩ = some v := by rw [Lib.cell_of_heap hbk]; rfl
  have hone : ∀ v ∈ l.map u8v, v.oneCell' = true := fun v hv => by obtain ⟨y, _, rfl⟩ := List.mem_map.1 hv; rfl
  obtain ⟨cs, hcs⟩ : ∃ cs, cs = l.map u8v := ⟨_, rfl⟩
  have hcl : cs.length = 64 * 1 := by rw [hcs, List.length_map, hl]
  rw [← hcs] at hr hone ⊢
  have HR := Lib.hid hr
  have HONE := Lib.hid hone
  have HCL := Lib.hid hcl
  have HBK := Lib.hid hbk
  have HOWN := Lib.hid hown
  have HNE := Lib.hid hne
  clear hr hone hcl hcs hl hbk hown hne
  go_enter Tryz.func66, Tryz.ntmps66
  go_wp2_with (first | (go_at_call 84; refine (copyCheck_used b _ h0).mono ?_; rintro e w' ⟨rfl, rfl⟩) | (at_builtin; refine wpList_append_own _ rfl _ _ 59 rfl B 5 i0 (.int .u8 0) 1 1 Tryz.underlying59 hi hz0 hz1 hz2 rfl (by decide) _ _ _ rfl HOWN.out ⟨g, o, none⟩ 64 64 cs rfl HCL.out ?c1 HONE.out ?c3 ?c4 hBw ?_))
  case c1 => intro j u hj; rw [Addr.add_mid]; exact HR.out j u hj
  case c3 => unfold maxLen; omega
  case c4 => omega
  intro v' w2 hown' hgrow _
  have hlt : b < w.heap.size := lt_of_heap HBK.out
  have hb2 : w2.heap[b]? = some (.cells #[.pointer (some ⟨b, 0, none⟩), v] 121 (0, 0)) := by
    rw [hgrow.block b hlt (fun e => HNE.out e.symm)]; exact HBK.out
  have d1 : w2.cell? ⟨b, 1, none⟩ = some v := by rw [Lib.cell_of_heap hb2]; rfl
  have f1 : w2.frozen? ⟨b, 1, none⟩ = false := Lib.frozen_of_heap hb2 1
  obtain ⟨g', cap, rfl⟩ : ∃ g' cap, v' = .slice (some ⟨g', 0, none⟩) (bs.length + 64) cap := by
    rcases hown'.2 with ⟨_, h0⟩ | ⟨g', cap, cur, hv, _⟩
    · omega
    · exact ⟨g', cap, hv⟩
  have HO := Lib.hid hown'
  have HG := Lib.hid hgrow
  have HB2 := Lib.hid hb2
  clear hown' hgrow hb2
  go_wp2
  go_ret2
  refine ⟨rfl, ?_, ?_⟩
  · refine Lib.BuilderAt.put (T := 121) (e := 5) hB HB2.out (bs' := bs ++ cs) ?_ (by decide)
    rw [List.length_append, HCL.out]
    exact HO.out
  · exact ((Below.refl _ _).grown HG.out hBw (fun k hk => (HOWN.out.lt k hk).1)).setCell (p := ⟨b, 1, none⟩) hB _

theorem allocBuilder (w : World) : (Instr.alloc 121 true (.tuple #[])).run Tryz.prog w = .ok (.pointer (some ⟨w.heap.size, 0, none⟩)) (w.alloc (.cells [Value.pointer none, .slice none 0 0].toArray 121)) := by kernel_rfl
theorem take_sect {S : List (List UInt8)} {k : Nat} (hk : k < S.length) : (S.take (k + 1)).flatten = (S.take k).flatten ++ S.getD k [] := by
  rw [List.take_succ_eq_append_getElem hk, List.flatten_append, List.getD, List.getElem?_eq_getElem hk]; simp
set_option maxRecDepth 100000 in
set_option maxHeartbeats 2000000 in
theorem Mimage_any (d p bl bn : Nat) (pv : Value) (n : Nat) (S : List (List UInt8)) (ps : List Dk.Wr) (life : Int) (w : World) (h : LiveAt d p bl bn pv n S ps life w) :
    Calls Tryz.prog 45 #[.pointer (some ⟨d, 1, none⟩)] w fun e w' => e = .returned (.string ⟨S.flatten.toArray⟩) ∧ Below w.heap.size w w' := by
  have hdl := h.lt
  have c1 := h.c1
  have hn2 := h.n2
  have H := Lib.hid h
  clear h
  go_enter Tryz.func45, Tryz.ntmps45
  go_wp2_with (first | (refine wpList_alloc rfl 121 rfl _ allocBuilder ?_; go_frame) | fail)
  refine (Builder_Grow_fresh w.heap.size w.heap.size (n * 64) _ (Nat.le_refl _) (by exact heap_alloc_new _ _) (by simp) (by omega)).mono ?_
  rintro e w1 ⟨rfl, hb1, hbel⟩
  have B1 : Below w.heap.size w w1 := ((Below.refl _ _).alloc (Nat.le_refl _) _).trans hbel
  have HB1 := Lib.hid hb1
  have HB := Lib.hid B1
  have c11 : w1.cell? ⟨d, 1, none⟩ = some (.slice (some ⟨bl, 0, none⟩) n n) := (B1.cell (p := ⟨d, 1, none⟩) hdl).trans c1
  clear hb1 hbel B1
  go_wp2_with fail
  go_loopw [17] (fun i wr => ∃ j : Nat, j ≤ n ∧ i = .int .i64 j ∧ Lib.BuilderAt 121 5 w.heap.size w.heap.size (.pointer (some ⟨w.heap.size, 0, none⟩)) ((S.take j).flatten.map u8v) wr ∧ Below w.heap.size w wr) (fun i _ => n - (intOf i).toNat)
  case atStart => exact ⟨0, by omega, rfl, HB1.out, HB.out⟩
  case round =>
    clear HB1 HB c11
    obtain ⟨j, hj, rfl, hA, hB⟩ := hrel
    have cr : wr.cell? ⟨d, 1, none⟩ = some (.slice (some ⟨bl, 0, none⟩) n n) := (hB.cell (p := ⟨d, 1, none⟩) hdl).trans c1
    by_cases hlt : j < n
    · have hjS : j < S.length := by rw [H.out.len]; exact hlt
      obtain ⟨A, C, hAl, hS1, _⟩ := sect_split H.out.wide hjS
      have hbl : wr.heap[bl]? = some (.cells (A ++ ((S.getD j []).map u8v ++ C)).toArray 109 (0, 0)) := by rw [hB.block bl (lt_of_heap H.out.lst), H.out.lst, hS1]
      have hr := range_mid hbl hAl
      have hsl : (S.getD j []).length = 64 := by rw [List.getD, List.getElem?_eq_getElem hjS]; exact H.out.wide _ (List.getElem_mem _)
      have hlen : ((S.take j).flatten.map u8v).length + 64 ≤ 140737488355328 := by
        rw [List.length_map, flat_length (n := 64) (fun s hs => H.out.wide s (List.mem_of_mem_take hs)), List.length_take]
        have : min j S.length ≤ j := Nat.min_le_left _ _
        have := Nat.mul_le_mul_right 64 this
        omega
      have e2 : (S.take (j + 1)).flatten.map u8v = (S.take j).flatten.map u8v ++ (S.getD j []).map u8v := by rw [take_sect hjS, List.map_append]
      have hsz := hB.size
      have HA := Lib.hid hA
      have HB := Lib.hid hB
      have HR := Lib.hid hr
      have HSL := Lib.hid hsl
      have HLEN := Lib.hid hlen
      have HE := Lib.hid e2
      clear hA hB hr hsl hlen e2 hbl hS1 hAl
      go_wp2_with fail
      refine (BWrite_any w.heap.size w.heap.size bl (j * 64) _ (S.getD j []) HSL.out _ HA.out HR.out HLEN.out hsz).mono ?_
      rintro e w3 ⟨rfl, h3, hb3⟩
      have H3 := Lib.hid h3
      have HB3 := Lib.hid (HB.out.trans hb3)
      clear h3 hb3
      go_wp2_with fail
      go_roundw
      case rel => exact ⟨j + 1, by omega, by go_num, by rw [HE.out]; exact H3.out, HB3.out⟩
      case measure => simp [intOf]; omega
    · obtain rfl : j = n := by omega
      have hall : (S.take j).flatten = S.flatten := by rw [List.take_of_length_le (by rw [H.out.len]; exact Nat.le_refl _)]
      rw [hall] at hA
      have hsz := hB.size
      have HA := Lib.hid hA
      have HB := Lib.hid hB
      clear hA hB hall
      go_wp2_with fail
      refine (Builder_String_any w.heap.size w.heap.size S.flatten _ (Or.inr HA.out) hsz).mono ?_
      rintro e w3 ⟨rfl, hb3⟩
      have HB3 := Lib.hid (HB.out.trans hb3)
      clear hb3
      go_wp2_with fail
      go_ret
      exact ⟨rfl, HB3.out⟩
theorem Image_ok (d p : Nat) (F : List Nat) (n : Nat) (S : List (List UInt8)) (ps : List Dk.Wr) (life : Int) (q : ByteArray) (hq : q.data.toList = S.flatten) (w : World) (h : Live d p F n S ps life w) :
    Calls Tryz.prog 18 #[.pointer (some ⟨d, 0, none⟩)] w fun e w' => e = .returned (.string q) ∧ Below w.heap.size w w' := by
  obtain ⟨bl, bn, pv, h, _⟩ := h
  have hqq : q = ⟨S.flatten.toArray⟩ := by rw [← hq]
  have R := Mimage_any d p bl bn pv n S ps life w h
  rw [← hqq] at R
  have HR := Lib.hid R
  clear h hq hqq R
  go_enter Tryz.func18, Tryz.ntmps18
  go_wp2_with (go_at_call 45; refine HR.out.mono ?_; rintro e w' ⟨rfl, hb⟩)
  go_ret
  exact ⟨rfl, hb⟩
end Go.Proofs.YtbljhodnpddpiaaGreatDoor

/- What the statement JournalOpens uses: a disk that is written to, errors told, the image's sectors. -/
namespace Go.Proofs.YtbljhodnpddpiaaGreatDoor
open Go.RowKit Go.Extern.Stop Go.Stop Go.Extern

/-- A disk of the call's own, written to at most K times. -/
def Wr (w0 : World) (d p K : Nat) (w : World) : Prop :=
  ∃ F S ps acts, Live d p F 64 S ps 0 w ∧ PowerAt p false (-1) acts w ∧ ps.length ≤ K ∧ 0 ≤ acts ∧ acts ≤ K ∧ Below w0.heap.size w0 w ∧ w0.heap.size ≤ p ∧ ∀ x ∈ F, w0.heap.size ≤ x
section
variable {w0 w w' : World} {d p K : Nat}
theorem Lw.wr {F : List Nat} {st : St} {c : Nat} (h : Lw w0 d p 64 F st c w) (hc : c = 0) : Wr w0 d p 0 w := by
  subst hc
  have h1 := h.jd.a1
  refine ⟨F, st.S, st.ps, st.acts, h.jd.dsk.liv, ?_, by rw [h.jd.ps]; simp, h.jd.a0, by simpa using h1, h.old, h.pn, h.fn⟩
  have := h.jd.dsk.pow
  rw [h.jd.free] at this
  exact this
theorem Wr.below (h : Wr w0 d p K w) (hb : Below w.heap.size w w') : Wr w0 d p K w' := by
  obtain ⟨F, S, ps, acts, h1, h2, h3, h4, h5, h6, h7, h8⟩ := h
  exact ⟨F, S, ps, acts, h1.below hb, h2.keep (hb.block p h2.lt), h3, h4, h5, h6.trans (hb.mono h6.size), h7, h8⟩
theorem Wr.write (h : Wr w0 d p K w) (hK : K ≤ 9000) (a : Nat) (q : ByteArray) (ha : a < 64) (hq : q.size = 64) :
    Calls Tryz.prog 8 #[.pointer (some ⟨d, 0, none⟩), .int .i64 a, .string q] w fun e w' => e = .returned .nilIface ∧ Wr w0 d p (K + 1) w' := by
  obtain ⟨F, S, ps, acts, h1, h2, h3, h4, h5, h6, h7, h8⟩ := h
  refine (Write_ok d p F 64 S ps 0 (-1) acts a q ha hq (by omega) (by omega) (by omega) (by omega) h4 (by omega) w h1 h2).mono ?_
  rintro e w' ⟨rfl, F', hL, hP, hF, hk⟩
  refine ⟨rfl, F', S, _, acts + 1, hL, hP, by simp; omega, by omega, by omega, h6.trans ((hk.mono h6.size (fun _ _ hm => hm)).below (fun x hx => ?_)), h7, fun x hx => ?_⟩
  · rcases List.mem_cons.1 hx with rfl | hx
    · exact h7
    · exact h8 x hx
  · rcases hF x hx with h | h
    · exact h8 x h
    · have := h6.size; omega
theorem Wr.flush (h : Wr w0 d p K w) (hK : K ≤ 9000) :
    Calls Tryz.prog 9 #[.pointer (some ⟨d, 0, none⟩)] w fun e w' => e = .returned .nilIface ∧ ∃ F st, Lw w0 d p 64 F st 1 w' := by
  obtain ⟨F, S, ps, acts, h1, h2, h3, h4, h5, h6, h7, h8⟩ := h
  refine (Flush_ok d p F 64 S ps 0 (-1) acts (by omega) (by omega) (by omega) h4 (by omega) w h1 h2).mono ?_
  rintro e w' ⟨rfl, hL, hP, hk⟩
  refine ⟨rfl, F, ⟨_, [], -1, acts + 1⟩, ⟨⟨⟨hL, hP⟩, rfl, rfl, ?_, ?_⟩, h6.trans ((hk.mono h6.size (fun _ _ hm => hm)).below (fun x hx => ?_)), h7, h8⟩⟩
  · show (0 : Int) ≤ acts + 1; omega
  · show acts + 1 ≤ ((10000 * 1 : Nat) : Int); omega
  · rcases List.mem_cons.1 hx with rfl | hx
    · exact h7
    · exact h8 x hx
end
set_option maxHeartbeats 1000000 in
theorem is_1 (g : Nat) (w : World) (h : FaultAt g 1 0 w) :
    Calls Tryz.prog 20 #[.iface 92 (.pointer (some ⟨g, 0, none⟩)), .int .i64 1] w fun e w' => e = .returned (.bool true) ∧ w = w' := by
  have c0 : w.cell? ⟨g, 0, none⟩ = some (.int .i64 1) := by rw [cell_of_list h]; rfl
  have c1 : w.cell? ⟨g, 1, none⟩ = some (.int .i64 0) := by rw [cell_of_list h]; rfl
  have c2 : w.cell? ⟨g, 2, none⟩ = some .nilIface := by rw [cell_of_list h]; rfl
  have af := assert_fault
  have H := Lib.hid h
  clear h
  go_enter Tryz.func20, Tryz.ntmps20
  go_wp2_with (go_at_call 49; refine (errorsIs_true g 1 0 _ H.out).mono ?_; rintro e w' ⟨rfl, rfl⟩)
  go_ret
  exact ⟨rfl, rfl⟩
set_option maxHeartbeats 1000000 in
theorem is_15 (g : Nat) (w : World) (h : FaultAt g 15 0 w) :
    Calls Tryz.prog 20 #[.iface 92 (.pointer (some ⟨g, 0, none⟩)), .int .i64 15] w fun e w' => e = .returned (.bool true) ∧ w = w' := by
  have c0 : w.cell? ⟨g, 0, none⟩ = some (.int .i64 15) := by rw [cell_of_list h]; rfl
  have c1 : w.cell? ⟨g, 1, none⟩ = some (.int .i64 0) := by rw [cell_of_list h]; rfl
  have c2 : w.cell? ⟨g, 2, none⟩ = some .nilIface := by rw [cell_of_list h]; rfl
  have af := assert_fault
  have H := Lib.hid h
  clear h
  go_enter Tryz.func20, Tryz.ntmps20
  go_wp2_with (go_at_call 49; refine (errorsIs_true g 15 0 _ H.out).mono ?_; rintro e w' ⟨rfl, rfl⟩)
  go_ret
  exact ⟨rfl, rfl⟩
set_option maxRecDepth 100000 in
set_option maxHeartbeats 1000000 in
theorem Open_bad (d p : Nat) (F : List Nat) (st : St) (c : Nat) (f s : Int) (hf1 : -9223372036854775808 ≤ f) (hf2 : f ≤ 9223372036854775807) (hs1 : -9223372036854775808 ≤ s) (hs2 : s ≤ 9223372036854775807) (hb : BadRow f s 64) (w : World) (h : Jd d p 64 F st c w) :
    Calls Tryz.prog 21 #[.pointer (some ⟨d, 0, none⟩), .int .i64 f, .int .i64 s] w (Refused 1 0 (fun v => .tuple #[.pointer none, .slice none 0 0, v]) w) := by
  have CR := Lib.hid (rowOf_bad d p 64 F st f s hf1 hf2 hs1 hs2 (by omega) hb w h.dsk.liv)
  clear h hb
  go_enter Tryz.func21, Tryz.ntmps21
  go_wp2_with (first | (go_at_call 32; refine CR.out.mono ?_; rintro e w1 ⟨g, hg, rfl, hf, hb1⟩; have HG := Lib.hid hg; have HF := Lib.hid hf; have HB1 := Lib.hid hb1; clear hg hf hb1) | fail)
  go_ret3
  exact ⟨g, HG.out, rfl, (((Below.refl w1.heap.size w1).alloc (Nat.le_refl _) _).block g (lt_of_heap HF.out)).trans HF.out, HB1.out.alloc HB1.out.size _⟩
set_option maxRecDepth 100000 in
set_option maxHeartbeats 1000000 in
theorem Format_bad (d p : Nat) (F : List Nat) (st : St) (c : Nat) (f s : Int) (hf1 : -9223372036854775808 ≤ f) (hf2 : f ≤ 9223372036854775807) (hs1 : -9223372036854775808 ≤ s) (hs2 : s ≤ 9223372036854775807) (hb : BadRow f s 64) (w : World) (h : Jd d p 64 F st c w) :
    Calls Tryz.prog 10 #[.pointer (some ⟨d, 0, none⟩), .int .i64 f, .int .i64 s] w (Refused 1 0 (fun v => .tuple #[.pointer none, v]) w) := by
  have CR := Lib.hid (rowOf_bad d p 64 F st f s hf1 hf2 hs1 hs2 (by omega) hb w h.dsk.liv)
  clear h hb
  go_enter Tryz.func10, Tryz.ntmps10
  go_wp2_with (first | (go_at_call 32; refine CR.out.mono ?_; rintro e w1 ⟨g, hg, rfl, hf, hb1⟩; have HG := Lib.hid hg; have HF := Lib.hid hf; have HB1 := Lib.hid hb1; clear hg hf hb1) | fail)
  go_ret2
  exact ⟨g, HG.out, rfl, (((Below.refl w1.heap.size w1).alloc (Nat.le_refl _) _).block g (lt_of_heap HF.out)).trans HF.out, HB1.out.alloc HB1.out.size _⟩
/-! The image's sectors. -/
theorem img_drop : ∀ (S : List (List UInt8)) (a : Nat), (∀ s ∈ S, s.length = 64) → S.flatten.drop (64 * a) = (S.drop a).flatten := by
  intro S
  induction S with
  | nil => intro a _; simp
  | cons x S ih =>
    intro a h
    cases a with
    | zero => simp
    | succ a =>
      have hx : x.length = 64 := h x (List.mem_cons_self ..)
      rw [List.flatten_cons, List.drop_succ_cons, ← ih a (fun s hs => h s (List.mem_cons_of_mem _ hs)), show 64 * (a + 1) = x.length + 64 * a by omega, ← List.drop_drop, List.drop_left]
theorem img_take : ∀ (S : List (List UInt8)) (k : Nat), (∀ s ∈ S, s.length = 64) → S.flatten.take (64 * k) = (S.take k).flatten := by
  intro S
  induction S with
  | nil => intro k _; simp
  | cons x S ih =>
    intro k h
    cases k with
    | zero => simp
    | succ k =>
      have hx : x.length = 64 := h x (List.mem_cons_self ..)
      rw [List.flatten_cons, List.take_succ_cons, List.flatten_cons, ← ih k (fun s hs => h s (List.mem_cons_of_mem _ hs)), List.take_append, List.take_of_length_le (by omega), show 64 * (k + 1) - x.length = 64 * k by omega]
theorem rd_flat (S : List (List UInt8)) (a : Nat) : ∀ k, a + k ≤ S.length → rd S [] a k = ((S.drop a).take k).flatten := by
  intro k
  induction k with
  | zero => intro _; rw [rd_zero]; simp
  | succ k ih =>
    intro h
    rw [rd_succ, ih (by omega), Dk.readAt_nil, List.take_succ_eq_append_getElem (by rw [List.length_drop]; omega), List.flatten_append, List.getElem_drop, List.getD, List.getElem?_eq_getElem (by omega)]
    simp
/-- So many sectors of an image. -/
theorem image_rd (S : List (List UInt8)) (a k : Nat) (hw : ∀ s ∈ S, s.length = 64) (h : a + k ≤ S.length) : (S.flatten.drop (64 * a)).take (64 * k) = rd S [] a k := by
  rw [rd_flat S a k h, img_drop S a hw, img_take _ k (fun s hs => hw s (List.mem_of_mem_drop hs))]
/-- The journal's bytes of an image. -/
structure Bytes (S : List (List UInt8)) (from_ m : Nat) (s : ByteArray) : Prop where
  size : s.size = 128 * m
  one : s.extract 0 64 = bs (Dk.readAt S [] from_)
  two : s.extract (64 * m) (64 * m + 64) = bs (Dk.readAt S [] (from_ + m))
  rest : ∀ act, act ≤ 1 → ((s.data.toList.drop (act * (64 * m))).take (64 * m)).drop 64 = rd S [] (from_ + act * m + 1) (m - 1)
theorem bytes_is (S : List (List UInt8)) (from_ m : Nat) (s : ByteArray) (hw : ∀ x ∈ S, x.length = 64) (h : from_ + 2 * m ≤ S.length) (hm : 2 ≤ m) (hs : s.data.toList = (S.flatten.take (64 * (from_ + 2 * m))).drop (64 * from_)) : Bytes S from_ m s := by
  have hfl : S.flatten.length = 64 * S.length := by
    have : ∀ (S : List (List UInt8)), (∀ x ∈ S, x.length = 64) → S.flatten.length = 64 * S.length := by
      intro S
      induction S with
      | nil => intro _; rfl
      | cons x S ih => intro h; rw [List.flatten_cons, List.length_append, ih (fun s hs => h s (List.mem_cons_of_mem _ hs)), h x (List.mem_cons_self ..), List.length_cons]; omega
    exact this S hw
  have hl : s.data.toList.length = 128 * m := by rw [hs, List.length_drop, List.length_take, hfl]; omega
  have part : ∀ a k, a + k ≤ 2 * m → (s.data.toList.drop (64 * a)).take (64 * k) = rd S [] (from_ + a) k := fun a k hk => by
    rw [← image_rd S (from_ + a) k hw (by omega), hs, List.drop_drop, List.drop_take, List.take_take, Nat.min_eq_left (by omega), show 64 * from_ + 64 * a = 64 * (from_ + a) by omega]
  refine ⟨by rw [← size_toList, hl], ?_, ?_, fun act ha => ?_⟩
  · refine bs_of ?_
    have := part 0 1 (by omega)
    rw [extract_list, List.drop_zero]
    rw [Nat.mul_zero, List.drop_zero, Nat.mul_one, Nat.add_zero, rd_one] at this
    exact this
  · refine bs_of ?_
    have := part m 1 (by omega)
    rw [extract_list, List.drop_take, show 64 * m + 64 - 64 * m = 64 by omega]
    rw [Nat.mul_one, rd_one] at this
    exact this
  · have := part (act * m + 1) (m - 1) (by
      have : act = 0 ∨ act = 1 := by omega
      rcases this with h0 | h0 <;> rw [h0] <;> omega)
    rw [List.drop_take, List.drop_drop, show act * (64 * m) + 64 = 64 * (act * m + 1) by rw [Nat.mul_add, Nat.mul_left_comm], show 64 * m - 64 = 64 * (m - 1) by omega, this, ← Nat.add_assoc]
end Go.Proofs.YtbljhodnpddpiaaGreatDoor

/- Which error one is: closed; the disk's, wrapped. -/
namespace Go.Proofs.YtbljhodnpddpiaaGreatDoor
open Go.RowKit Go.Extern.Stop Go.Stop Go.Extern

set_option maxHeartbeats 1000000 in
theorem is_16 (g : Nat) (w : World) (h : FaultAt g 16 0 w) :
    Calls Tryz.prog 20 #[.iface 92 (.pointer (some ⟨g, 0, none⟩)), .int .i64 16] w fun e w' => e = .returned (.bool true) ∧ w = w' := by
  have c0 : w.cell? ⟨g, 0, none⟩ = some (.int .i64 16) := by rw [cell_of_list h]; rfl
  have c1 : w.cell? ⟨g, 1, none⟩ = some (.int .i64 0) := by rw [cell_of_list h]; rfl
  have c2 : w.cell? ⟨g, 2, none⟩ = some .nilIface := by rw [cell_of_list h]; rfl
  have af := assert_fault
  have H := Lib.hid h
  clear h
  go_enter Tryz.func20, Tryz.ntmps20
  go_wp2_with (go_at_call 49; refine (errorsIs_true g 16 0 _ H.out).mono ?_; rintro e w' ⟨rfl, rfl⟩)
  go_ret
  exact ⟨rfl, rfl⟩
set_option maxHeartbeats 2000000 in
theorem is_10 (g g' : Nat) (w : World) (h : WrapAt g g' w) (hE : ErrCell w) :
    Calls Tryz.prog 20 #[.iface 92 (.pointer (some ⟨g', 0, none⟩)), .int .i64 10] w fun e w' => e = .returned (.bool true) ∧ Below w.heap.size w w' := by
  have c0 : w.cell? ⟨g', 0, none⟩ = some (.int .i64 10) := by rw [cell_of_list h.1]; rfl
  have c1 : w.cell? ⟨g', 1, none⟩ = some (.int .i64 0) := by rw [cell_of_list h.1]; rfl
  have c2 : w.cell? ⟨g', 2, none⟩ = some (faultV g) := by rw [cell_of_list h.1]; rfl
  unfold faultV at c2
  have hba : Below w.heap.size w (w.alloc (.cells #[Value.pointer none] 92)) := (Below.refl _ _).alloc (Nat.le_refl _) _
  have d2 : (w.alloc (.cells #[Value.pointer none] 92)).cell? ⟨g', 2, none⟩ = some (faultV g) := (World.cell?_of_block (w := w) (a := ⟨g', 2, none⟩) (hba.block g' (lt_of_heap h.1))).trans c2
  unfold faultV at d2
  have af := assert_fault
  have H := Lib.hid h
  have HA := Lib.hid (As_fault g w.heap.size w (w.alloc (.cells #[Value.pointer none] 92)) rfl rfl hE)
  clear h hE hba
  go_enter Tryz.func20, Tryz.ntmps20
  go_wp2_with (first | (go_at_call 49; refine H.out.is.mono ?_; rintro e w' ⟨rfl, rfl⟩) | (refine wpList_alloc rfl 92 rfl _ allocPF ?_; go_frame) | (go_at_call 50; refine HA.out.mono ?_; rintro e w2 ⟨rfl, k0, hb⟩; have k1 : w2.cell? ⟨g, 0, none⟩ = some (.int .i64 10) := cell_of_list ((hb.block g H.out.2.lt).trans H.out.2) 0; have HB := Lib.hid hb; clear hb) | fail)
  go_ret
  exact ⟨rfl, HB.out⟩
end Go.Proofs.YtbljhodnpddpiaaGreatDoor

/- JournalPlays: what the law's world has come to: a disk, a journal on it, the document's beside it. -/
namespace Go.Proofs.YtbljhodnpddpiaaGreatDoor
open Go.RowKit

def markL : List UInt8 := Fr.zero 63 ++ [109]
/-- The cells of the law's world. -/
def wCells (p d j r from_ m : Nat) (cl ov rot : Bool) (vw vb : Value) : List Value :=
  [.pointer (some ⟨p, 0, none⟩), .pointer (some ⟨d, 0, none⟩), .pointer (some ⟨j, 0, none⟩), .pointer (some ⟨r, 0, none⟩), .int .i64 from_, .int .i64 (2 * m : Nat), .bool cl, .bool ov, .bool rot, vw, vb]
structure Js where
  F : List Nat
  st : St
  ok : Bool
  j : Nat
  r : Nat
  ep : Nat
  recs : List (List UInt8)
  was : List (List UInt8)
  would : List (List UInt8)
  vr : Value
  vw : Value
  vb : Value
  cl : Bool
  ov : Bool
  rot : Bool
def StFit (st : St) (N : Nat) : Prop := -1 ≤ st.fuse ∧ st.fuse ≤ 9223372036854775807 ∧ 0 ≤ st.acts ∧ st.acts ≤ 10000 * (N + 1000 : Nat) ∧ st.ps.length ≤ 999000
theorem StFit.more {st : St} {N M : Nat} (h : StFit st N) (hN : N ≤ M) : StFit st M := by
  obtain ⟨h1, h2, h3, h4, h5⟩ := h; exact ⟨h1, h2, h3, by omega, h5⟩
theorem StFit.fit {st : St} {N : Nat} (h : StFit st N) (hN : N ≤ 1000) (hps : st.ps = []) : st.Fit 10200 := by
  obtain ⟨h1, h2, h3, h4, h5⟩ := h
  exact ⟨h1, h2, h3, by omega, by rw [hps]; simp⟩
/-- The places lie apart. -/
structure Apt (x p : Nat) (s : Js) : Prop where
  xF : x ∉ s.F
  xp : x ≠ p
  xj : x ≠ s.j
  xr : x ≠ s.r
  rF : s.r ∉ s.F
  rp : s.r ≠ p
  rj : s.r ≠ s.j
  jF : s.j ∉ s.F
  jp : s.j ≠ p
  tp : ∀ v, (v = s.vr ∨ v = s.vw ∨ v = s.vb) → ∀ g, textsBlock v = some g → g ∉ s.F ∧ g ≠ p ∧ g ≠ s.j ∧ g ≠ x ∧ g ≠ s.r
structure Base (w0 : World) (from_ m N x p d : Nat) (s : Js) (w : World) : Prop where
  dsk : Dsk d p 64 s.F s.st s.ok w
  rj : RJ s.r (m - 1) s.ep s.vr s.recs w
  wld : w.heap[x]? = some (.cells (wCells p d s.j s.r from_ m s.cl s.ov s.rot s.vw s.vb).toArray 33 (0, 0))
  tw : Texts s.vw s.was w
  tb : Texts s.vb s.would w
  far : ∀ y, (y < from_ ∨ from_ + 2 * m ≤ y) → y < 64 → s.st.S.getD y [] = markL
  near : ∀ q ∈ s.st.ps, from_ ≤ q.1 ∧ q.1 < from_ + 2 * m
  fits : StFit s.st N
  apt : Apt x p s
  jl : s.j < w.heap.size
  low : ∀ y, (y = p ∨ y = x ∨ y = s.j ∨ y = s.r ∨ y ∈ s.F) → w0.heap.size ≤ y
  old : Below w0.heap.size w0 w
section
variable {w0 : World} {from_ m N x p d : Nat} {s : Js} {w w' : World}
theorem Base.xl (h : Base w0 from_ m N x p d s w) : x < w.heap.size := lt_of_heap h.wld
theorem Base.cells (h : Base w0 from_ m N x p d s w) : (w.cell? ⟨x, 0, none⟩ = some (.pointer (some ⟨p, 0, none⟩)) ∧ w.cell? ⟨x, 1, none⟩ = some (.pointer (some ⟨d, 0, none⟩)) ∧ w.cell? ⟨x, 2, none⟩ = some (.pointer (some ⟨s.j, 0, none⟩)) ∧ w.cell? ⟨x, 3, none⟩ = some (.pointer (some ⟨s.r, 0, none⟩))) ∧
    (w.cell? ⟨x, 4, none⟩ = some (.int .i64 from_) ∧ w.cell? ⟨x, 5, none⟩ = some (.int .i64 (2 * m : Nat)) ∧ w.cell? ⟨x, 6, none⟩ = some (.bool s.cl) ∧ w.cell? ⟨x, 7, none⟩ = some (.bool s.ov)) ∧ w.cell? ⟨x, 8, none⟩ = some (.bool s.rot) ∧ w.cell? ⟨x, 9, none⟩ = some s.vw ∧ w.cell? ⟨x, 10, none⟩ = some s.vb := by
  have c := fun i => cell_of_list h.wld i
  exact ⟨⟨c 0, c 1, c 2, c 3⟩, ⟨c 4, c 5, c 6, c 7⟩, c 8, c 9, c 10⟩
theorem Base.free (h : Base w0 from_ m N x p d s w) (i : Nat) : w.frozen? ⟨x, i, none⟩ = false := free_of_list h.wld i
theorem Base.ok64 (h : Base w0 from_ m N x p d s w) : StOk s.st 64 := by
  obtain ⟨h1, h2, h3⟩ := h.dsk.wide
  exact ⟨h1, h2, fun y hy => by have := h3 y hy; rw [h1] at this; exact this⟩
theorem Base.below (h : Base w0 from_ m N x p d s w) (hb : Below w.heap.size w w') : Base w0 from_ m N x p d s w' :=
  { h with
    dsk := h.dsk.below hb
    rj := h.rj.below hb
    wld := (hb.block x h.xl).trans h.wld
    tw := h.tw.below (Nat.le_refl _) hb
    tb := h.tb.below (Nat.le_refl _) hb
    jl := Nat.lt_of_lt_of_le h.jl hb.size
    old := h.old.trans (hb.mono h.old.size) }
theorem Base.more (h : Base w0 from_ m N x p d s w) {M : Nat} (hN : N ≤ M) : Base w0 from_ m M x p d s w := { h with fits := h.fits.more hN }
/-- What is not of the disk stays when that turns. -/
theorem Base.turn (h : Base w0 from_ m N x p d s w) {X F' : List Nat} {st' : St} {ok' : Bool} {M : Nat} (hk : Kept w.heap.size X w w') (hX : ∀ y ∈ X, y = p ∨ y = s.j ∨ y ∈ s.F) (hF : ∀ y ∈ F', y ∈ s.F ∨ w.heap.size ≤ y) (hd : Dsk d p 64 F' st' ok' w')
    (hfar : ∀ y, (y < from_ ∨ from_ + 2 * m ≤ y) → y < 64 → st'.S.getD y [] = markL) (hnear : ∀ q ∈ st'.ps, from_ ≤ q.1 ∧ q.1 < from_ + 2 * m) (hfit : StFit st' M) : Base w0 from_ m M x p d { s with F := F', st := st', ok := ok' } w' := by
  have ha := h.apt
  have key : ∀ g, g < w.heap.size → g ∉ s.F → g ≠ p → g ≠ s.j → w'.heap[g]? = w.heap[g]? := fun g hg h1 h2 h3 => hk.block g hg (fun hm => by
    rcases hX g hm with e | e | e
    · exact h2 e
    · exact h3 e
    · exact h1 e)
  have away : ∀ g, g < w.heap.size → g ∉ s.F → g ∉ F' := fun g hg h1 hm => by
    rcases hF g hm with e | e
    · exact h1 e
    · omega
  have tk : ∀ v l, (v = s.vr ∨ v = s.vw ∨ v = s.vb) → Texts v l w → Texts v l w' := fun v l hv ht => ht.keep hk.size (fun g hg => by
    obtain ⟨g1, g2, g3, _, _⟩ := ha.tp v hv g hg
    exact key g (ht.lt hg) g1 g2 g3)
  exact {
    dsk := hd
    rj := ⟨(key s.r h.rj.lt ha.rF ha.rp ha.rj).trans h.rj.at_, tk _ _ (Or.inl rfl) h.rj.tx⟩
    wld := (key x h.xl ha.xF ha.xp ha.xj).trans h.wld
    tw := tk _ _ (Or.inr (Or.inl rfl)) h.tw
    tb := tk _ _ (Or.inr (Or.inr rfl)) h.tb
    far := hfar
    near := hnear
    fits := hfit
    apt := { ha with
      xF := away x h.xl ha.xF
      rF := away s.r h.rj.lt ha.rF
      jF := away s.j h.jl ha.jF
      tp := fun v hv g hg => by
        obtain ⟨g1, g2⟩ := ha.tp v hv g hg
        have hlt : g < w.heap.size := by
          rcases hv with e | e | e
          · rw [e] at hg; exact h.rj.tx.lt hg
          · rw [e] at hg; exact h.tw.lt hg
          · rw [e] at hg; exact h.tb.lt hg
        exact ⟨away g hlt g1, g2⟩ }
    jl := Nat.lt_of_lt_of_le h.jl hk.size
    low := fun y hy => by
      rcases hy with e | e | e | e | e
      · exact h.low y (Or.inl e)
      · exact h.low y (Or.inr (Or.inl e))
      · exact h.low y (Or.inr (Or.inr (Or.inl e)))
      · exact h.low y (Or.inr (Or.inr (Or.inr (Or.inl e))))
      · rcases hF y e with e | e
        · exact h.low y (Or.inr (Or.inr (Or.inr (Or.inr e))))
        · have := h.old.size; omega
    old := h.old.trans ((hk.mono h.old.size (fun _ _ hm => hm)).below (fun y hy => by
      rcases hX y hy with e | e | e
      · exact h.low y (Or.inl e)
      · exact h.low y (Or.inr (Or.inr (Or.inl e)))
      · exact h.low y (Or.inr (Or.inr (Or.inr (Or.inr e)))))) }
/-- The law's world has been written to; the document's journal may be another one, and the lists may be others. -/
theorem Base.newx (h : Base w0 from_ m N x p d s w) {X : List Nat} (hk : Kept w.heap.size X w w') (hX : ∀ y ∈ X, y = x ∨ y = s.r) {j' r' ep' : Nat} {recs' was' would' : List (List UInt8)} {vr' vw' vb' : Value} {cl' ov' rot' : Bool}
    (hw : w'.heap[x]? = some (.cells (wCells p d j' r' from_ m cl' ov' rot' vw' vb').toArray 33 (0, 0))) (hr : RJ r' (m - 1) ep' vr' recs' w') (htw : Texts vw' was' w') (htb : Texts vb' would' w')
    (ha : Apt x p { s with j := j', r := r', vr := vr', vw := vw', vb := vb' }) (hj : j' < w'.heap.size) (hjl : w0.heap.size ≤ j') (hrl : w0.heap.size ≤ r') :
    Base w0 from_ m N x p d { s with j := j', r := r', ep := ep', recs := recs', was := was', would := would', vr := vr', vw := vw', vb := vb', cl := cl', ov := ov', rot := rot' } w' := by
  have hb := h.apt
  have nX : ∀ y, y ∈ s.F ∨ y = p → y ∉ X := fun y hy hm => by
    rcases hX y hm with e | e
    · subst e
      rcases hy with hy | hy
      · exact hb.xF hy
      · exact hb.xp hy
    · subst e
      rcases hy with hy | hy
      · exact hb.rF hy
      · exact hb.rp hy
  exact {
    dsk := h.dsk.keep hk (nX p (Or.inr rfl)) (fun y hy => nX y (Or.inl hy))
    rj := hr
    wld := hw
    tw := htw
    tb := htb
    far := h.far
    near := h.near
    fits := h.fits
    apt := ⟨ha.xF, ha.xp, ha.xj, ha.xr, ha.rF, ha.rp, ha.rj, ha.jF, ha.jp, ha.tp⟩
    jl := hj
    low := fun y hy => by
      rcases hy with e | e | e | e | e
      · exact h.low y (Or.inl e)
      · exact h.low y (Or.inr (Or.inl e))
      · subst e; exact hjl
      · subst e; exact hrl
      · exact h.low y (Or.inr (Or.inr (Or.inr (Or.inr e))))
    old := h.old.trans ((hk.mono h.old.size (fun _ _ hm => hm)).below (fun y hy => by
      rcases hX y hy with e | e
      · exact h.low y (Or.inr (Or.inl e))
      · exact h.low y (Or.inr (Or.inr (Or.inr (Or.inl e)))))) }
theorem Base.keepx (h : Base w0 from_ m N x p d s w) (hk : Kept w.heap.size [x] w w') : RJ s.r (m - 1) s.ep s.vr s.recs w' ∧ Texts s.vw s.was w' ∧ Texts s.vb s.would w' := by
  have ha := h.apt
  have tk : ∀ v l, (v = s.vr ∨ v = s.vw ∨ v = s.vb) → Texts v l w → Texts v l w' := fun v l hv ht => ht.keep hk.size (fun g hg => hk.block g (ht.lt hg) (by simp; exact (ha.tp v hv g hg).2.2.2.1))
  exact ⟨⟨(hk.block s.r h.rj.lt (by simp; exact fun e => ha.xr e.symm)).trans h.rj.at_, tk _ _ (Or.inl rfl) h.rj.tx⟩, tk _ _ (Or.inr (Or.inl rfl)) h.tw, tk _ _ (Or.inr (Or.inr rfl)) h.tb⟩
/-- Its flags alone have been written to. -/
theorem Base.flags (h : Base w0 from_ m N x p d s w) (hk : Kept w.heap.size [x] w w') {cl' ov' rot' : Bool} (hw : w'.heap[x]? = some (.cells (wCells p d s.j s.r from_ m cl' ov' rot' s.vw s.vb).toArray 33 (0, 0))) :
    Base w0 from_ m N x p d { s with cl := cl', ov := ov', rot := rot' } w' := by
  obtain ⟨h1, h2, h3⟩ := h.keepx hk
  exact h.newx hk (fun y hy => Or.inl (by simpa using hy)) hw h1 h2 h3 ⟨h.apt.xF, h.apt.xp, h.apt.xj, h.apt.xr, h.apt.rF, h.apt.rp, h.apt.rj, h.apt.jF, h.apt.jp, h.apt.tp⟩ (Nat.lt_of_lt_of_le h.jl hk.size) (h.low s.j (Or.inr (Or.inr (Or.inl rfl)))) (h.low s.r (Or.inr (Or.inr (Or.inr (Or.inl rfl)))))
end
/-- The whole: a journal on the disk beside the document's. -/
structure Pl (w0 : World) (from_ m N x p d : Nat) (act : Nat) (s : Js) (w : World) : Prop where
  base : Base w0 from_ m N x p d s w
  jat : JAt s.j d from_ m act s.ep (1 + s.recs.length) (1 + secsAll s.recs) s.cl w
  clo : s.cl = !s.ok
  ovf : s.ov = false
  a1 : act ≤ 1
  e2 : s.ep ≤ 4611686018427387904
  fit : 1 + secsAll s.recs ≤ m
  few : ∀ q ∈ s.recs, q.length ≤ 60000
  wasf : s.was.length ≤ 1000 ∧ s.would.length ≤ 1000
  ps : s.ok = true → s.st.ps = []
  fine : s.ok = true → s.rot = false → JOn s.st.view from_ m act s.ep s.recs ∧ s.was = s.recs ∧ s.would = s.recs
  torn : s.ok = false → s.rot = false → ∀ len, ∃ a e l, JOn (lost s.st len) from_ m a e l ∧ (l = s.was ∨ l = s.would)
/-- The sectors hold some journal, if no bit was turned. -/
structure Pre (w0 : World) (from_ m N x p d : Nat) (s : Js) (w : World) : Prop where
  base : Base w0 from_ m N x p d s w
  okt : s.ok = true
  ovf : s.ov = false
  wasf : s.was.length ≤ 1000 ∧ s.would.length ≤ 1000
  recf : s.recs.length ≤ 8192
  ps : s.st.ps = []
  hist : s.rot = false → ∃ a e l, JOn s.st.view from_ m a e l ∧ (l = s.was ∨ l = s.would)
end Go.Proofs.YtbljhodnpddpiaaGreatDoor

/- The walk of the statement JournalOpens. -/
namespace Go.Proofs.YtbljhodnpddpiaaGreatDoor
open Go.RowKit

theorem list_of' (l : List UInt8) : ∃ m : ByteArray, m.data.toList = l := ⟨⟨l.toArray⟩, by simp⟩
/-- Numbers that are handed in. -/
def Nums (a : Option Addr) (b o : Nat) (f : Nat → Int) (len : Nat) (w : World) : Prop :=
  (len = 0 ∨ a = some ⟨b, o, none⟩) ∧ (len = 0 ∨ b < w.heap.size) ∧ (∀ i, i < len → w.cell? ⟨b, o + i, none⟩ = some (.int .i64 (f i))) ∧ ∀ i, i < len → -9223372036854775808 ≤ f i ∧ f i ≤ 9223372036854775807
/-- Texts that are handed in. -/
def Strs (a : Option Addr) (b o : Nat) (f : Nat → ByteArray) (len : Nat) (w : World) : Prop :=
  (len = 0 ∨ a = some ⟨b, o, none⟩) ∧ (len = 0 ∨ b < w.heap.size) ∧ (∀ i, i < len → w.cell? ⟨b, o + i, none⟩ = some (.string (f i))) ∧ ∀ i, i < len → (f i).size ≤ 9223372036854775807
section
variable {w0 w w' : World} {d p K : Nat}
theorem Wr.more (h : Wr w0 d p K w) {K' : Nat} (hK : K ≤ K') : Wr w0 d p K' w := by
  obtain ⟨F, S, ps, acts, h1, h2, h3, h4, h5, h6, h7, h8⟩ := h
  exact ⟨F, S, ps, acts, h1, h2, by omega, h4, by omega, h6, h7, h8⟩
theorem Wr.old (h : Wr w0 d p K w) : Below w0.heap.size w0 w := by
  obtain ⟨F, S, ps, acts, h1, h2, h3, h4, h5, h6, h7, h8⟩ := h
  exact h6
theorem Wr.drew (h : Wr w0 d p K w) : Wr w0 d p K w.drew := h.below (Below.refl _ _).drew
theorem Nums.at {a : Option Addr} {b o len : Nat} {f : Nat → Int} (h : Nums a b o f len w0) (hW : Below w0.heap.size w0 w) {i : Nat} (hi : i < len) : a = some ⟨b, o, none⟩ ∧ w.cell? ⟨b, o + i, none⟩ = some (.int .i64 (f i)) :=
  ⟨h.1.resolve_left (by omega), (World.cell?_of_block (w := w0) (a := ⟨b, o + i, none⟩) (hW.block b (h.2.1.resolve_left (by omega)))).trans (h.2.2.1 i hi)⟩
theorem Strs.at {a : Option Addr} {b o len : Nat} {f : Nat → ByteArray} (h : Strs a b o f len w0) (hW : Below w0.heap.size w0 w) {i : Nat} (hi : i < len) : a = some ⟨b, o, none⟩ ∧ w.cell? ⟨b, o + i, none⟩ = some (.string (f i)) :=
  ⟨h.1.resolve_left (by omega), (World.cell?_of_block (w := w0) (a := ⟨b, o + i, none⟩) (hW.block b (h.2.1.resolve_left (by omega)))).trans (h.2.2.1 i hi)⟩
end
theorem pick_some (c : Int) (n : Nat) (hn : 0 < n) (hn2 : n ≤ 1000000) (hc : -9223372036854775808 ≤ c ∧ c ≤ 9223372036854775807) : ∃ r : Nat, r < n ∧ ∀ w : World, Calls Tryz.prog 6 #[.int .i64 c, .int .i64 n] w fun e w' => e = .returned (.int .i64 r) ∧ w = w' := by
  by_cases h0 : c < 0
  · obtain ⟨x, hx⟩ : ∃ x : Nat, -(c + 1) = (x : Int) := ⟨(-(c + 1)).toNat, by omega⟩
    refine ⟨x % n, Nat.mod_lt _ hn, fun w => ?_⟩
    have e1 : ((x : Int)).tmod (n : Int) = ((x % n : Nat) : Int) := by rw [Int.tmod_eq_emod_of_nonneg (by omega)]; rfl
    have e2 : ((x : Int)) % (n : Int) = ((x % n : Nat) : Int) := rfl
    have hz : ¬ ((n : Int) = 0) := by omega
    have hlt := Nat.mod_lt x hn
    obtain ⟨r, hr⟩ : ∃ r, r = x % n := ⟨_, rfl⟩
    rw [← hr] at e1 e2 hlt ⊢
    clear hr
    go_enter Tryz.func6, Tryz.ntmps6
    go_wp2
    go_ret
    exact ⟨rfl, rfl⟩
  · obtain ⟨x, rfl⟩ : ∃ x : Nat, c = (x : Int) := ⟨c.toNat, by omega⟩
    refine ⟨x % n, Nat.mod_lt _ hn, fun w => ?_⟩
    have e1 : ((x : Int)).tmod (n : Int) = ((x % n : Nat) : Int) := by rw [Int.tmod_eq_emod_of_nonneg (by omega)]; rfl
    have e2 : ((x : Int)) % (n : Int) = ((x % n : Nat) : Int) := rfl
    have hz : ¬ ((n : Int) = 0) := by omega
    have hlt := Nat.mod_lt x hn
    obtain ⟨r, hr⟩ : ∃ r, r = x % n := ⟨_, rfl⟩
    rw [← hr] at e1 e2 hlt ⊢
    clear hr
    go_enter Tryz.func6, Tryz.ntmps6
    go_wp2
    go_ret
    exact ⟨rfl, rfl⟩
theorem Lw.image {w0 w : World} {d p : Nat} {F : List Nat} {st : St} {c : Nat} (h : Lw w0 d p 64 F st c w) (img : ByteArray) (hi : img.data.toList = st.S.flatten) : Calls Tryz.prog 18 #[.pointer (some ⟨d, 0, none⟩)] w fun e w' => e = .returned (.string img) ∧ Below w.heap.size w w' :=
  Image_ok d p F 64 st.S st.ps 0 img hi w h.jd.dsk.liv
end Go.Proofs.YtbljhodnpddpiaaGreatDoor
