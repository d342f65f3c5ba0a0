/- The walk of the statement JournalPlays. -/
import Derived.Test.YtbljhodnpddpiaaGreatDoorQ23
import Derived.Test.YtbljhodnpddpiaaGreatDoorQ12
import Derived.Deep.CutRange
import Derived.Deep.CutBlock
namespace Go.Proofs.YtbljhodnpddpiaaGreatDoor
open Go.RowKit

/-! A row that is loaded, by its cells. -/
def rowOf (P : Program) (T : TypeId) (w : World) (v : Value) : List Value :=
  match v with
  | .pointer (some a) => (List.range (((P.info? T).map (·.size)).getD 0)).map fun j => (w.cell? ⟨a.block, a.off + j, none⟩).getD undef
  | _ => []
def RowC (P : Program) (T : TypeId) (w : World) (v : Value) : Prop :=
  ∃ b o cs d, v = .pointer (some ⟨b, o, none⟩) ∧ w.rangeAt b o cs ∧ P.underlying T = some d ∧ d.isRow = true ∧ (P.info? T).map (·.size) = some cs.length
theorem RowC.of {P : Program} {T : TypeId} {w : World} {b o : Nat} {cs : List Value} {d : TypeDesc} (h : w.rangeAt b o cs) (hu : P.underlying T = some d) (hd : d.isRow = true) (hi : (P.info? T).map (·.size) = some cs.length) :
    RowC P T w (.pointer (some ⟨b, o, none⟩)) ∧ rowOf P T w (.pointer (some ⟨b, o, none⟩)) = cs := by
  refine ⟨⟨b, o, cs, d, rfl, h, hu, hd, hi⟩, ?_⟩
  simp only [rowOf, hi, Option.getD_some]
  apply List.ext_getElem
  · simp
  · intro i h1 h2
    simp only [List.getElem_map, List.getElem_range]
    rw [h i cs[i] (List.getElem?_eq_getElem h2)]
    rfl
theorem run_load_row {P : Program} {T : TypeId} {w : World} {ρ : Operand → Value} {dst : Option Tmp} {x : Operand} {ty : TypeId} {pos : String} {after : Array Edge} {guard : Option (Nat × Bool)} (h : RowC P T w (ρ x)) :
    Sem.run P (execOp ρ { dst := dst, op := .load T x, type := ty, pos := pos, after := after, guard := guard }) w = .ok (.value (.agg (rowOf P T w (ρ x)).toArray)) w := by
  obtain ⟨b, o, cs, d, hv, hb, hu, hd, hi⟩ := h
  have := (RowC.of hb hu hd hi).2
  unfold execOp
  rw [hv, this]
  simp only [hv, Sem.run_bind, run_loadAt_mid w b o T cs d hb hu hd hi, Result.andThen_ok]
  rfl
/-- A disk of the call's own to which the mark is written, sector by sector; the law's world beside it. -/
def Wm (w1 : World) (d p x i : Nat) (L : List Value) (w : World) : Prop :=
  ∃ F S ps acts, Live d p F 64 S ps 0 w ∧ PowerAt p false (-1) acts w ∧ ps.length = i ∧ 0 ≤ acts ∧ acts ≤ i ∧ (∀ y, y < i → Dk.readAt S ps y = markL) ∧ Below w1.heap.size w1 w ∧ w1.heap.size ≤ p ∧ (∀ y ∈ F, w1.heap.size ≤ y) ∧ w.heap[x]? = some (.cells L.toArray 33 (0, 0)) ∧ x ∉ F ∧ x ≠ p ∧ w1.heap.size ≤ x
section
variable {w1 w w' : World} {d p x i : Nat} {L : List Value}
theorem Wm.below (h : Wm w1 d p x i L w) (hb : Below w.heap.size w w') : Wm w1 d p x i L w' := by
  obtain ⟨F, S, ps, acts, h1, h2, h3, h4, h5, h6, h7, h8, h9, h10, h11, h12, h13⟩ := h
  exact ⟨F, S, ps, acts, h1.below hb, h2.keep (hb.block p h2.lt), h3, h4, h5, h6, h7.trans (hb.mono h7.size), h8, h9, (hb.block x (lt_of_heap h10)).trans h10, h11, h12, h13⟩
theorem Wm.old (h : Wm w1 d p x i L w) : Below w1.heap.size w1 w := by
  obtain ⟨F, S, ps, acts, h1, h2, h3, h4, h5, h6, h7, _⟩ := h; exact h7
theorem Wm.at_ (h : Wm w1 d p x i L w) : w.heap[x]? = some (.cells L.toArray 33 (0, 0)) := by
  obtain ⟨F, S, ps, acts, h1, h2, h3, h4, h5, h6, h7, h8, h9, h10, _⟩ := h; exact h10
/-- The law's world has been written to. -/
theorem Wm.set (h : Wm w1 d p x i L w) (j : Nat) (v : Value) : Wm w1 d p x i (L.set j v) (w.setCell ⟨x, j, none⟩ v) := by
  obtain ⟨F, S, ps, acts, h1, h2, h3, h4, h5, h6, h7, h8, h9, h10, h11, h12, h13⟩ := h
  have hk : Kept w.heap.size [x] w (w.setCell ⟨x, j, none⟩ v) := (Kept.refl _ _ _).setCell (p := ⟨x, j, none⟩) (by simp) _
  exact ⟨F, S, ps, acts, h1.kept hk (fun y hy hm => by simp at hm; exact h11 (hm ▸ hy)), h2.keep (hk.block p h2.lt (by simp; exact fun e => h12 e.symm)), h3, h4, h5, h6, h7.trans ((hk.mono h7.size (fun _ _ hm => hm)).below (fun y hy => by simp at hy; omega)), h8, h9, set_list h10 j v, h11, h12, h13⟩
theorem Wm.write (h : Wm w1 d p x i L w) (hi : i < 64) (q : ByteArray) (hq : q.data.toList = markL) :
    Calls Tryz.prog 8 #[.pointer (some ⟨d, 0, none⟩), .int .i64 i, .string q] w fun e w' => e = .returned .nilIface ∧ Wm w1 d p x (i + 1) L w' := by
  obtain ⟨F, S, ps, acts, h1, h2, h3, h4, h5, h6, h7, h8, h9, h10, h11, h12, h13⟩ := h
  have hqs : q.size = 64 := by rw [← size_toList, hq, markL, List.length_append, Fr.length_zero]; rfl
  have hS : S.length = 64 := by obtain ⟨bl, bn, pv, hh, _⟩ := h1; exact hh.len
  refine (Write_ok d p F 64 S ps 0 (-1) acts i q hi hqs (by omega) (by omega) (by omega) (by omega) h4 (by omega) w h1 h2).mono ?_
  rintro e w' ⟨rfl, F', hL, hP, hF, hk⟩
  refine ⟨rfl, F', S, _, acts + 1, hL, hP, by simp; omega, by omega, by omega, fun y hy => ?_, h7.trans ((hk.mono h7.size (fun _ _ hm => hm)).below (fun y hy => ?_)), h8, fun y hy => ?_, (hk.block x (lt_of_heap h10) (by simp; exact ⟨h12, h11⟩)).trans h10, fun hm => ?_, h12, h13⟩
  · rw [Dk.readAt_snoc S ps (i, q.data.toList) y (by rw [hS]; exact hi)]
    by_cases e : y = i
    · rw [if_pos e]; exact hq
    · rw [if_neg e]; exact h6 y (by omega)
  · rcases List.mem_cons.1 hy with rfl | hy
    · exact h8
    · exact h9 y hy
  · rcases hF y hy with e | e
    · exact h9 y e
    · have := h7.size; omega
  · rcases hF x hm with e | e
    · exact h11 e
    · have := lt_of_heap h10; omega
theorem Wm.flush (h : Wm w1 d p x 64 L w) :
    Calls Tryz.prog 9 #[.pointer (some ⟨d, 0, none⟩)] w fun e w' => e = .returned .nilIface ∧ ∃ F st, Lw w1 d p 64 F st 1 w' ∧ (∀ y, y < 64 → st.view y = markL) ∧ w'.heap[x]? = some (.cells L.toArray 33 (0, 0)) ∧ x ∉ F ∧ x ≠ p := by
  obtain ⟨F, S, ps, acts, h1, h2, h3, h4, h5, h6, h7, h8, h9, h10, h11, h12, h13⟩ := h
  obtain ⟨hS1, hS2, hS3⟩ : S.length = 64 ∧ (∀ s ∈ S, s.length = 64) ∧ ∀ y ∈ ps, y.1 < S.length ∧ y.2.length = 64 := by
    obtain ⟨bl, bn, pv, hh, _⟩ := h1
    exact ⟨hh.len, hh.wide, fun y hy => by rw [hh.len]; exact hh.wrs y hy⟩
  refine (Flush_ok d p F 64 S ps 0 (-1) acts (by omega) (by omega) (by omega) h4 (by omega) w h1 h2).mono ?_
  rintro e w' ⟨rfl, hL, hP, hk⟩
  refine ⟨rfl, F, ⟨_, [], -1, acts + 1⟩, ⟨⟨⟨hL, hP⟩, rfl, rfl, ?_, ?_⟩, h7.trans ((hk.mono h7.size (fun _ _ hm => hm)).below (fun y hy => ?_)), h8, h9⟩, fun y hy => ?_, (hk.block x (lt_of_heap h10) (by simp; exact ⟨h12, h11⟩)).trans h10, h11, h12⟩
  · show (0 : Int) ≤ acts + 1; omega
  · show acts + 1 ≤ ((10000 * 1 : Nat) : Int); omega
  · rcases List.mem_cons.1 hy with rfl | hy
    · exact h8
    · exact h9 y hy
  · show Dk.readAt (Dk.settleTo S ps (fun _ => 64) ps.length) [] y = markL
    rw [Dk.readAt_nil, Dk.flushed_at S ps hS2 hS3 ps.length (Nat.le_refl _) y, List.take_length]
    exact h6 y (by omega)
end
theorem Wd.below {w0 w w' : World} {from_ m N x p d : Nat} (h : Wd w0 from_ m N x p d w) (hb : Below w.heap.size w w') : Wd w0 from_ m N x p d w' := by
  rcases h with ⟨act, s, h⟩ | ⟨s, h1, h2⟩
  · exact Or.inl ⟨act, s, h.below hb⟩
  · exact Or.inr ⟨s, h1.below hb, h2⟩
theorem Wd.base {w0 w : World} {from_ m N x p d : Nat} (h : Wd w0 from_ m N x p d w) : ∃ s, Base w0 from_ m N x p d s w := by
  rcases h with ⟨act, s, h⟩ | ⟨s, h1, h2⟩
  · exact ⟨s, h.base⟩
  · exact ⟨s, h1⟩
/-- A step that is handed in. -/
structure Stp where
  kd : Int
  n : Int
  t : ByteArray
  tv : Value
  kv : Value
  tn : Int
def Stp.row (s : Stp) : List Value := stepRow s.kd s.n s.t s.tv s.kv s.tn
structure Stp.Ok (s : Stp) (w : World) : Prop where
  n1 : -9223372036854775808 ≤ s.n
  n2 : s.n ≤ 9223372036854775807
  texts : ∃ l : List (List UInt8), l.length * 16 ≤ 140737488355328 ∧ Given s.tv l w
  yes : ∃ kb ko ks keep, Yes s.kv kb ko ks keep w ∧ ∀ k ∈ ks, k < w.heap.size
theorem Stp.Ok.below {s : Stp} {w w' : World} (h : s.Ok w) (hb : Below w.heap.size w w') : s.Ok w' := by
  obtain ⟨l, hl, hg⟩ := h.texts
  obtain ⟨kb, ko, ks, keep, hy, hks⟩ := h.yes
  exact ⟨h.n1, h.n2, ⟨l, hl, hg.below (Nat.le_refl _) hb⟩, kb, ko, ks, keep, hy.keep (fun k hk => hb.block k (hks k hk)), fun k hk => Nat.lt_of_lt_of_le (hks k hk) hb.size⟩
attribute [local go_sem ↓] run_load_row
set_option maxRecDepth 100000 in
set_option maxHeartbeats 8000000 in
theorem plays_walk (f z : Int) (hf : -9223372036854775808 ≤ f ∧ f ≤ 9223372036854775807) (hz : -9223372036854775808 ≤ z ∧ z ≤ 9223372036854775807) (a0 : Option Addr) (bs_ off len cap : Nat) (St : Nat → Stp) (w : World)
    (ha : len = 0 ∨ a0 = some ⟨bs_, off, none⟩) (_hl : len ≤ cap) (hb : len = 0 ∨ bs_ < w.heap.size) (hc : ∀ i, i < len → w.rangeAt bs_ (off + i * 6) (St i).row) (hok : ∀ i, i < len → (St i).Ok w) (hE : ErrCell w) :
    Calls Tryz.prog 3 #[.int .i64 f, .int .i64 z, .slice a0 len cap] w fun e w' => e = .returned (.bool true) ∧ Below w.heap.size w w' := by
  obtain ⟨K, hK, hpk⟩ := pick_is z 20 (by omega) (by omega) hz
  obtain ⟨m, hm⟩ : ∃ m, m = K + 2 := ⟨_, rfl⟩
  obtain ⟨from_, hfr, hpf⟩ := pick_is f (65 - 2 * m) (by omega) (by omega) hf
  have HPK := Lib.hid (fun v : World => (show Calls Tryz.prog 6 #[.int .i64 z, .int .i64 20] v (fun e w' => e = .returned (.int .i64 K) ∧ v = w') from hpk v))
  obtain ⟨T, hT⟩ : ∃ T, T = 65 - 2 * m := ⟨_, rfl⟩
  rw [← hT] at hpf
  have HPF := Lib.hid hpf
  have HA := Lib.hid ha
  have HB := Lib.hid hb
  have HC := Lib.hid hc
  have HO := Lib.hid hok
  have HE := Lib.hid hE
  clear hpk hpf ha hb hc hok hE
  go_enter Tryz.func3, Tryz.ntmps3
  go_wp2_with fail
  refine (jknown_true _).mono ?_
  rintro e w1 ⟨rfl, hb1⟩
  have HB1 := Lib.hid hb1
  have HE1 := Lib.hid (HE.out.below hb1)
  clear hb1
  go_wp2_with fail
  refine (jrack_ok _).mono ?_
  rintro e w2 ⟨p, d, F2, st2, rfl, hL2⟩
  have HL2 := Lib.hid hL2
  clear hL2
  go_wp2_with fail
  obtain ⟨x, hx⟩ : ∃ x, x = w2.heap.size := ⟨_, rfl⟩
  obtain ⟨w3, hw3⟩ : ∃ w3, w3 = w2.alloc (.cells #[.pointer (some ⟨p, 0, none⟩), .pointer (some ⟨d, 0, none⟩), .pointer none, .pointer none, .int .i64 0, .int .i64 0, .bool false, .bool false, .bool false, .slice none 0 0, .slice none 0 0] 33) := ⟨_, rfl⟩
  rw [← hx, ← hw3]
  have hWm : Wm w1 d p x 0 [.pointer (some ⟨p, 0, none⟩), .pointer (some ⟨d, 0, none⟩), .pointer none, .pointer none, .int .i64 0, .int .i64 0, .bool false, .bool false, .bool false, .slice none 0 0, .slice none 0 0] w3 := by
    have hb3 : Below w2.heap.size w2 w3 := by rw [hw3]; exact (Below.refl _ _).alloc (Nat.le_refl _) _
    have h2 := HL2.out.below hb3
    have ha1 := h2.jd.a1
    have hpw := h2.jd.dsk.pow
    rw [h2.jd.free] at hpw
    exact ⟨F2, st2.S, st2.ps, st2.acts, h2.jd.dsk.liv, hpw, by rw [h2.jd.ps]; rfl, h2.jd.a0, by simpa using ha1, fun y hy => by omega, h2.old, h2.pn, h2.fn, by rw [hw3, hx]; exact heap_alloc_new _ _, fun hm => by have := HL2.out.jd.dsk.Flt x hm; omega, fun e => by have := HL2.out.jd.dsk.pow.lt; omega, by have := HL2.out.old.size; omega⟩
  obtain ⟨M2, hM2⟩ : ∃ M2, M2 = 2 * m := ⟨_, rfl⟩
  have e1 : (4 : Int) + 2 * (K : Int) = (M2 : Int) := by omega
  have e2 : (64 : Int) - (M2 : Int) + 1 = (T : Int) := by omega
  have hM26 : M2 ≤ 64 := by omega
  have hTT : T ≤ 65 := by omega
  have HM2 := Lib.hid (And.intro hM2 (And.intro hm (And.intro hT hfr)))
  have hK20 : K < 20 := hK
  have c5 : w3.cell? ⟨x, 5, none⟩ = some (.int .i64 0) := cell_of_list hWm.at_ 5
  have f5 := free_of_list hWm.at_ 5
  have hWm1 := hWm.set 5 (.int .i64 M2)
  have d5 : (w3.setCell ⟨x, 5, none⟩ (.int .i64 M2)).cell? ⟨x, 5, none⟩ = some (.int .i64 M2) := cell_of_list hWm1.at_ 5
  have d4 : (w3.setCell ⟨x, 5, none⟩ (.int .i64 M2)).cell? ⟨x, 4, none⟩ = some (.int .i64 0) := cell_of_list hWm1.at_ 4
  have g4 := free_of_list hWm1.at_ 4
  have hWm2 := hWm1.set 4 (.int .i64 from_)
  obtain ⟨w4, hw4⟩ : ∃ w4, w4 = (w3.setCell ⟨x, 5, none⟩ (.int .i64 M2)).setCell ⟨x, 4, none⟩ (.int .i64 from_) := ⟨_, rfl⟩
  rw [← hw4] at hWm2
  have HW4 := Lib.hid hw4
  have HWm := Lib.hid hWm2
  have HXL := Lib.hid (show w1.heap.size ≤ x by rw [hx]; exact HL2.out.old.size)
  clear hWm hWm1 hWm2 hw3 hw4 hx HL2 hM2 hm hT hfr hK
  go_wp2_with (go_at_call 6; first | ((with_reducible refine (HPK.out _).mono ?_); rintro e wz ⟨rfl, rfl⟩) | ((with_reducible refine (HPF.out _).mono ?_); rintro e wz ⟨rfl, rfl⟩))
  rw [← HW4.out]
  clear c5 f5 d5 d4 g4 e1 e2 HW4 HPK HPF
  refine (text_is 63 (by omega) _).mono ?_
  rintro e w5 ⟨rfl, hb5⟩
  have HWm5 := Lib.hid (HWm.out.below hb5)
  obtain ⟨qa, hqa⟩ : ∃ q, q = bs (Fr.zero 63) := ⟨_, rfl⟩
  have hqs : qa.size = 63 := by rw [hqa, bs_size, Fr.length_zero]
  have hadd : ¬ 9223372036854775807 < qa.size + (ByteArray.mk #[109]).size := by rw [hqs]; decide
  obtain ⟨q0, hq0⟩ : ∃ q, q = qa ++ ByteArray.mk #[109] := ⟨_, rfl⟩
  have HQ0 : Hid (q0.data.toList = markL) := Lib.hid (by rw [hq0, show (qa ++ ByteArray.mk #[109]).data.toList = qa.data.toList ++ [109] by simp, hqa, bs_list]; rfl)
  have HQE := Lib.hid hq0
  rw [← hqa]
  clear hqa hqs hq0 hb5 HWm
  go_wp2_with fail
  rw [← HQE.out]
  clear HQE hadd
  go_loopw [12] (fun iv wr => ∃ i : Nat, i ≤ 64 ∧ iv = .int .i64 i ∧ Wm w1 d p x i [.pointer (some ⟨p, 0, none⟩), .pointer (some ⟨d, 0, none⟩), .pointer none, .pointer none, .int .i64 from_, .int .i64 M2, .bool false, .bool false, .bool false, .slice none 0 0, .slice none 0 0] wr) (fun iv _ => 64 - (intOf iv).toNat)
  case atStart => exact ⟨0, by omega, rfl, HWm5.out⟩
  case round =>
    clear HWm5
    obtain ⟨i, hi, rfl, hWi⟩ := hrel
    have HWi := Lib.hid hWi
    clear hWi
    by_cases hlt : i < 64
    · go_wp2_with (go_at_call 8; refine (HWi.out.write hlt q0 HQ0.out).mono ?_; rintro e w6 ⟨rfl, hW6⟩; have HW6 := Lib.hid hW6; clear hW6)
      go_roundw
      case rel => exact ⟨i + 1, by omega, by go_num, HW6.out⟩
      case measure => simp [intOf]; omega
    · obtain hi64 : i = 64 := by omega
      have hW64 := HWi.out
      rw [hi64] at hW64
      have HW64 := Lib.hid hW64
      clear hW64
      go_wp2_with fail
      refine HW64.out.flush.mono ?_
      rintro e w7 ⟨rfl, F7, st7, hL7, hv7, hx7, hxF7, hxp7⟩
      have HL7 := Lib.hid hL7
      have HV7 := Lib.hid hv7
      have HX7 := Lib.hid hx7
      have HXF := Lib.hid (And.intro hxF7 hxp7)
      have h64 : from_ + 2 * m ≤ 64 ∧ 2 ≤ m ∧ m ≤ 32 := by have := HM2.out; omega
      have H64 := Lib.hid h64
      clear hL7 hv7 hx7 hxF7 hxp7 hi64 hlt hi HWi HW64
      have CF := Lib.hid (HL7.out.below (Below.refl w7.heap.size w7).drew |>.format from_ m from_ (2 * m : Nat) rfl rfl h64.1 h64.2.1 (by omega))
      rw [← HM2.out.1] at CF
      clear h64
      have S1 : w7.drew.cell? ⟨x, 4, none⟩ = some (.int .i64 from_) ∧ w7.drew.cell? ⟨x, 5, none⟩ = some (.int .i64 M2) := ⟨cell_of_list HX7.out 4, cell_of_list HX7.out 5⟩
      go_wp2_with fail
      go_region_held_law (fun v => v.cell? ⟨x, 4, none⟩ = some (.int .i64 from_) ∧ v.cell? ⟨x, 5, none⟩ = some (.int .i64 M2)) (first | exact S1 | exact S5) (first | (go_simp; go_at_call 10; refine CF.out.mono ?_; rintro e w8 ⟨j, F8, st8, hj8, rfl, hL8, hJ8, hv8, hM8⟩; have hx8 := (hM8.block (lt_of_heap HX7.out) (by simpa using HXF.out.2) HXF.out.1).trans HX7.out; have S5 : w8.cell? ⟨x, 4, none⟩ = some (.int .i64 from_) ∧ w8.cell? ⟨x, 5, none⟩ = some (.int .i64 M2) := ⟨cell_of_list hx8 4, cell_of_list hx8 5⟩; have HL8 := Lib.hid hL8; have HJ8 := Lib.hid hJ8; have HV8 := Lib.hid hv8; have HM8 := Lib.hid hM8; have HX8 := Lib.hid hx8; have HJL := Lib.hid hj8; clear hL8 hJ8 hv8 hM8 hx8 hj8) | fail)
      all_goals
        clear S1 S5 CF
        have HXF8 := Lib.hid (show x ∉ F8 from HM8.out.away (lt_of_heap HX7.out) HXF.out.1)
        have CP := Lib.hid (HL8.out.jd.dsk.pending 0 (by rw [HL8.out.jd.ps]; rfl))
        have c2 : w8.cell? ⟨x, 2, none⟩ = some (.pointer none) := cell_of_list HX8.out 2
        have f2 := free_of_list HX8.out 2
        have hs1 := set_list HX8.out 2 (.pointer (some ⟨j, 0, none⟩))
        have d5 : (w8.setCell ⟨x, 2, none⟩ (.pointer (some ⟨j, 0, none⟩))).cell? ⟨x, 5, none⟩ = some (.int .i64 M2) := cell_of_list hs1 5
        obtain ⟨M1, hM1⟩ : ∃ M1, M1 = m - 1 := ⟨_, rfl⟩
        have q1 : (M2 : Int).tdiv 2 = (m : Int) := by rw [Int.tdiv_eq_ediv_of_nonneg (by omega)]; have := HM2.out; omega
        have q1' : (M2 : Int) / 2 = (m : Int) := by have := HM2.out; omega
        have q2 : (m : Int) - 1 = (M1 : Int) := by have := H64.out; omega
        have hm32 : m ≤ 32 := H64.out.2.2
        have hk1 : Kept w8.heap.size [x] w8 (w8.setCell ⟨x, 2, none⟩ (.pointer (some ⟨j, 0, none⟩))) := (Kept.refl _ _ _).setCell (p := ⟨x, 2, none⟩) (by simp) _
        obtain ⟨w9, hw9⟩ : ∃ w9, w9 = (w8.setCell ⟨x, 2, none⟩ (.pointer (some ⟨j, 0, none⟩))).alloc (.cells #[.int .i64 M1, .int .i64 1, .slice none 0 0] 44) := ⟨_, rfl⟩
        have hb9 : Below (w8.setCell ⟨x, 2, none⟩ (.pointer (some ⟨j, 0, none⟩))).heap.size (w8.setCell ⟨x, 2, none⟩ (.pointer (some ⟨j, 0, none⟩))) w9 := by rw [hw9]; exact (Below.refl _ _).alloc (Nat.le_refl _) _
        have hz8 : (w8.setCell ⟨x, 2, none⟩ (.pointer (some ⟨j, 0, none⟩))).heap.size = w8.heap.size := by simp [World.setCell]
        have hx9 := (hb9.block x (lt_of_heap hs1)).trans hs1
        have hr9 : w9.heap[w8.heap.size]? = some (.cells [Value.int .i64 M1, .int .i64 1, .slice none 0 0].toArray 44 (0, 0)) := by rw [hw9, ← hz8]; exact heap_alloc_new _ _
        have c3 : w9.cell? ⟨x, 3, none⟩ = some (.pointer none) := cell_of_list hx9 3
        have f3 := free_of_list hx9 3
        have hs2 := set_list hx9 3 (.pointer (some ⟨w8.heap.size, 0, none⟩))
        rw [hw9] at c3 f3
        have HS2 := Lib.hid hs2
        have HR9 := Lib.hid hr9
        have HW9 := Lib.hid hw9
        have HK9 := Lib.hid (show Kept w8.heap.size [x] w8 w9 from hk1.trans ((Kept.of_below hb9).mono (by rw [hz8]; exact Nat.le_refl _) (fun _ _ hm => hm)))
        have HM1 := Lib.hid hM1
        have HZ8 := Lib.hid hz8
        clear hs1 hk1 hb9 hx9 hr9 hs2 hw9 hM1
        go_wp2_with (first | (go_at_call 11; refine CP.out.mono ?_; rintro e wz ⟨rfl, rfl⟩) | fail)
        rw [← HW9.out]
        obtain ⟨w10, hw10⟩ : ∃ w10, w10 = w9.setCell ⟨x, 3, none⟩ (.pointer (some ⟨w8.heap.size, 0, none⟩)) := ⟨_, rfl⟩
        have hwd : Wd w1 from_ m 0 x p d w10 := by
          as_aux_lemma =>
            have hxl8 := lt_of_heap HX8.out
            have hxl7 := lt_of_heap HX7.out
            have hjl := HJ8.out.at_.lt
            have hjL : w7.heap.size ≤ j := HJL.out
            have hFl := HL8.out.jd.dsk.Flt
            have hpl := HL8.out.jd.dsk.pow.lt
            have hk10 : Kept w8.heap.size [x] w8 w10 := by rw [hw10]; exact HK9.out.setCell (p := ⟨x, 3, none⟩) (by simp) _
            have hz := HL8.out.old.size
            have ha1 := HL8.out.jd.a1
            have hps := HL8.out.jd.ps
            have hr10 : w10.heap[w8.heap.size]? = some (.cells [Value.int .i64 M1, .int .i64 1, .slice none 0 0].toArray 44 (0, 0)) := by rw [hw10]; exact (heap_setCell_other _ _ _ _ (by show w8.heap.size ≠ x; omega)).trans HR9.out
            have hx10 := HS2.out
            rw [← hw10, HM2.out.1] at hx10
            rw [HM1.out] at hr10
            refine Or.inl ⟨0, ⟨F8, st8, true, j, w8.heap.size, 1, [], [], [], .slice none 0 0, .slice none 0 0, .slice none 0 0, false, false, false⟩, ⟨HL8.out.jd.dsk.keep hk10 (by simp; exact fun e => HXF.out.2 e.symm) (fun y hy hm => by simp at hm; exact HXF8.out (hm ▸ hy)), ⟨hr10, Texts.nil _⟩, hx10, Texts.nil _, Texts.nil _, fun y hy hy2 => ?_, fun q hq => (by rw [show st8.ps = [] from hps] at hq; cases hq), ⟨by show (-1 : Int) ≤ st8.fuse; rw [HL8.out.jd.free]; omega, by show st8.fuse ≤ _; rw [HL8.out.jd.free]; omega, HL8.out.jd.a0, by show st8.acts ≤ _; omega, by show st8.ps.length ≤ _; rw [hps]; simp⟩,
              ⟨HXF8.out, HXF.out.2, by show x ≠ j; omega, by show x ≠ w8.heap.size; omega, fun hm => by have := hFl w8.heap.size hm; omega, by show w8.heap.size ≠ p; omega, by show w8.heap.size ≠ j; omega, HJ8.out.jF, HJ8.out.jp, fun v hv g hg => ?_⟩, Nat.lt_of_lt_of_le hjl hk10.size, fun y hy => ?_, HL8.out.old.trans ((hk10.mono hz (fun _ _ hm => hm)).below (fun y hy => by simp at hy; rw [hy]; exact HXL.out))⟩,
              HJ8.out.at_.keep (hk10.block j hjl (by simp; omega)), rfl, rfl, by omega, by show 1 ≤ 4611686018427387904; omega, by rw [secsAll_nil]; have := H64.out; omega, by simp, by simp, fun _ => hps, fun _ _ => ⟨HJ8.out.on, rfl, rfl⟩, fun h => by cases h⟩
            · show st8.S.getD y [] = markL
              rw [← view_clean hps, HV8.out y (by have := HM2.out; omega)]
              exact HV7.out y hy2
            · have hv' : v = .slice none 0 0 := by rcases hv with e | e | e <;> exact e
              rw [hv'] at hg; cases hg
            · rcases hy with e | e | e | e | e
              · rw [e]; exact HL8.out.pn
              · rw [e]; exact HXL.out
              · rw [e]; exact HJ8.out.jn
              · rw [e]; exact hz
              · exact HL8.out.fn y e
        have HWD := Lib.hid hwd
        rw [← hw10]
        clear hwd hw10 c2 f2 d5 q1 q1' q2 hm32 c3 f3 hz8 HS2 HR9 HW9 HK9 HM1 HZ8 CP HL8 HJ8 HV8 HM8 HX8 HJL HXF8 HL7 HV7 HX7 HXF
        go_loopw [15] (fun iv wr => ∃ i : Nat, i ≤ len ∧ i ≤ 100 ∧ iv = .int .i64 i ∧ Wd w1 from_ m i x p d wr) (fun iv _ => 100 - (intOf iv).toNat)
        case atStart => exact ⟨0, by omega, by omega, rfl, HWD.out⟩
        case round =>
          clear HWD
          obtain ⟨i, hi1, hi2, rfl, hWd⟩ := hrel
          by_cases hgo : (i < len ∧ i < 100) ∧ ∃ act s, Pl w1 from_ m i x p d act s wr
          · as_aux_lemma =>
            obtain ⟨⟨hlt, h100⟩, act, s, hP⟩ := hgo
            obtain rfl : a0 = some ⟨bs_, off, none⟩ := HA.out.resolve_left (by omega)
            have hblk : bs_ < w.heap.size := HB.out.resolve_left (by omega)
            have hold : Below w.heap.size w wr := HB1.out.trans (hP.base.old.mono HB1.out.size)
            have hra : wr.rangeAt bs_ (off + i * 6) (St i).row := fun k v hv => (World.cell?_of_block (w := w) (a := ⟨bs_, off + i * 6 + k, none⟩) (hold.block bs_ hblk)).trans (HC.out i hlt k v hv)
            obtain ⟨hrc, hro⟩ := RowC.of (P := Tryz.prog) (T := 48) hra Tryz.underlying48 rfl (by rw [show (St i).row.length = 6 from rfl]; kernel_rfl)
            have c7 : wr.cell? ⟨x, 7, none⟩ = some (.bool false) := hP.ovf ▸ hP.base.cells.2.1.2.2.2
            have hso := (HO.out i hlt).below HB1.out
            obtain ⟨l, hll16, hgl⟩ := hso.texts
            obtain ⟨kb, ko, ks, keep, hyy, hkk⟩ := hso.yes
            have CS := Lib.hid (step_wd hP (by omega) H64.out.1 H64.out.2.1 HE1.out (St i).kd (St i).n ⟨hso.n1, hso.n2⟩ (St i).t (St i).tv (St i).kv (St i).tn l hll16 hgl kb ko ks keep hyy hkk)
            clear hWd hP hblk hold hra hso hgl hyy hkk hll16
            go_upto_region 23 with (go_at_call 12; refine CS.out.mono ?_; rintro e w12 ⟨rfl, hW12⟩; have HW12 := Lib.hid hW12; clear hW12)
            have h12 : (∃ act s, Pl w1 from_ m (i + 1) x p d act s w12 ∧ s.cl = false) ∨ ∃ s, Base w1 from_ m (i + 1) x p d s w12 ∧ s.cl = true := by
              rcases HW12.out with ⟨act, s, h⟩ | ⟨s, h1, _, h2⟩
              · cases hc : s.cl with
                | false => exact Or.inl ⟨act, s, h, hc⟩
                | true => exact Or.inr ⟨s, h.base, hc⟩
              · exact Or.inr ⟨s, h1, h2⟩
            clear hrc hro c7 CS
            go_upto_region 25 with fail
            obtain ⟨S, hS⟩ : ∃ S : World → Prop, S = fun v => Below w12.heap.size w12 v := ⟨_, rfl⟩
            have hSb : ∀ v v', S v → Below v.heap.size v v' → S v' := by rw [hS]; exact fun v v' hv hb => hv.trans (hb.mono hv.size)
            have hSv : ∀ v, S v → Below w12.heap.size w12 v := by rw [hS]; exact fun v h => h
            have S4 : S w12.drew := by rw [hS]; exact (Below.refl _ _).drew
            have HS4 := Lib.hid S4
            haveI : Nonempty (Of S) := ⟨⟨_, S4⟩⟩
            have HSS := Lib.hid hS
            rcases h12 with ⟨act2, s2, hP2, hc2⟩ | ⟨s2, hB2, hc2⟩
            · have hjl := hP2.base.jl
              have hxl := hP2.base.xl
              have hrl := hP2.base.rj.lt
              have hfit2 := hP2.fit
              have hll2 := length_le_secsAll s2.recs
              have hjat := hP2.jat
              rw [hc2] at hjat
              obtain ⟨vb, vc, hvr⟩ := hP2.base.rj.tx.slice
              have hrj := hP2.base.rj
              rw [hvr] at hrj
              obtain ⟨Lf, hLf⟩ : ∃ Lf, Lf = m - (1 + secsAll s2.recs) := ⟨_, rfl⟩
              obtain ⟨Hf, hHf⟩ : ∃ Hf, Hf = m - 1 := ⟨_, rfl⟩
              have HJt := Lib.hid hjat
              have HRj := Lib.hid hrj
              have HPx := Lib.hid hP2
              have SC1 := Lib.hid (quiet_S hSb (f := 13) (args := #[.pointer (some ⟨s2.j, 0, none⟩)]) (v := .int .i64 (Lf : Int)) (fun v hv => by
                rw [hLf]
                exact Left_is s2.j d from_ m act2 s2.ep (1 + s2.recs.length) (1 + secsAll s2.recs) false (by omega) (by have := H64.out; omega) v (HJt.out.keep ((hSv _ hv).block s2.j hjl))))
              have SC2 := Lib.hid (quiet_S hSb (f := 15) (args := #[.pointer (some ⟨s2.j, 0, none⟩)]) (v := .int .i64 (Hf : Int)) (fun v hv => by
                rw [hHf]
                exact (Half_is s2.j d from_ m act2 s2.ep (1 + s2.recs.length) (1 + secsAll s2.recs) false (by omega) (by have := H64.out; omega) v (HJt.out.keep ((hSv _ hv).block s2.j hjl))).mono fun _ _ ⟨he, hw⟩ => ⟨he, hw ▸ Below.refl _ _⟩))
              have SC3 := Lib.hid (quiet_S hSb (f := 16) (args := #[.pointer (some ⟨s2.j, 0, none⟩)]) (v := .int .i64 s2.ep) (fun v hv => (Epoch_is s2.j d from_ m act2 s2.ep (1 + s2.recs.length) (1 + secsAll s2.recs) false v (HJt.out.keep ((hSv _ hv).block s2.j hjl))).mono fun _ _ ⟨he, hw⟩ => ⟨he, hw ▸ Below.refl _ _⟩))
              have SC4 := Lib.hid (quiet_S hSb (f := 17) (args := #[.pointer (some ⟨s2.j, 0, none⟩)]) (v := .int .i64 (s2.recs.length : Nat)) (fun v hv => (show Calls Tryz.prog 17 #[.pointer (some ⟨s2.j, 0, none⟩)] v (fun r w' => r = .returned (.int .i64 (s2.recs.length : Nat)) ∧ v = w') by
                have := Len_is s2.j d from_ m act2 s2.ep (1 + s2.recs.length) (1 + secsAll s2.recs) false (by omega) (by have := H64.out; omega) v (HJt.out.keep ((hSv _ hv).block s2.j hjl))
                rw [Nat.add_sub_cancel_left] at this
                exact this).mono fun _ _ ⟨he, hw⟩ => ⟨he, hw ▸ Below.refl _ _⟩))
              have SC5 := Lib.hid (quiet_S hSb (f := 14) (args := #[.pointer (some ⟨s2.r, 0, none⟩)]) (v := .int .i64 (Lf : Int)) (fun v hv => by
                rw [hLf, ← Nat.sub_sub]
                exact rLeft_is s2.r (m - 1) s2.ep _ s2.recs (by have := H64.out; omega) (by omega) HPx.out.few v (HRj.out.below (hSv _ hv))))
              have XB : ∀ u : Of S, u.w.heap[x]? = w12.heap[x]? := fun u => (hSv _ u.ok).block x hxl
              have RB : ∀ u : Of S, u.w.heap[s2.r]? = w12.heap[s2.r]? := fun u => (hSv _ u.ok).block s2.r hrl
              have L2 : ∀ u : Of S, u.w.cell? ⟨x, 2, none⟩ = some (.pointer (some ⟨s2.j, 0, none⟩)) := fun u => (World.cell?_of_block (w := w12) (a := ⟨x, 2, none⟩) (XB u)).trans hP2.base.cells.1.2.2.1
              have L3 : ∀ u : Of S, u.w.cell? ⟨x, 3, none⟩ = some (.pointer (some ⟨s2.r, 0, none⟩)) := fun u => (World.cell?_of_block (w := w12) (a := ⟨x, 3, none⟩) (XB u)).trans hP2.base.cells.1.2.2.2
              have L6 : ∀ u : Of S, u.w.cell? ⟨x, 6, none⟩ = some (.bool false) := fun u => (World.cell?_of_block (w := w12) (a := ⟨x, 6, none⟩) (XB u)).trans (hc2 ▸ hP2.base.cells.2.1.2.2.1)
              have R0 : ∀ u : Of S, u.w.cell? ⟨s2.r, 0, none⟩ = some (.int .i64 (Hf : Int)) := fun u => (World.cell?_of_block (w := w12) (a := ⟨s2.r, 0, none⟩) (RB u)).trans (by rw [hHf]; exact hrj.cells.1)
              have R1 : ∀ u : Of S, u.w.cell? ⟨s2.r, 1, none⟩ = some (.int .i64 s2.ep) := fun u => (World.cell?_of_block (w := w12) (a := ⟨s2.r, 1, none⟩) (RB u)).trans hrj.cells.2.1
              have R2 : ∀ u : Of S, u.w.cell? ⟨s2.r, 2, none⟩ = some (.slice vb s2.recs.length vc) := fun u => (World.cell?_of_block (w := w12) (a := ⟨s2.r, 2, none⟩) (RB u)).trans hrj.cells.2.2
              clear S4 hS hSb hSv XB RB hP2 hrj hjat hvr hLf hHf hjl hxl hrl hfit2 hll2 hc2
              refine wp_region_S S (by kernel_rfl) (by kernel_rfl) HS4.out ?_
              repeat (go_big_quiet_step (first | (go_at_call 13; with_reducible exact SC1.out _) | (go_at_call 15; with_reducible exact SC2.out _) | (go_at_call 16; with_reducible exact SC3.out _) | (go_at_call 17; with_reducible exact SC4.out _) | (go_at_call 14; with_reducible exact SC5.out _)))
              refine wpQuiet_nil ?_
              rintro w13 ⟨u9, e9⟩
              have h9 : S w13 := e9 ▸ u9.ok
              rw [HSS.out] at h9
              have HP13 := Lib.hid (HPx.out.below h9)
              clear e9 u9 h9 this SC1 SC2 SC3 SC4 SC5 HS4 HSS L2 L3 L6 R0 R1 R2
              go_wp2_with fail
              go_roundw
              case rel => exact ⟨i + 1, by omega, by omega, by go_num, Or.inl ⟨act2, s2, HP13.out⟩⟩
              case measure => simp [intOf]; omega
            · have hxl := hB2.xl
              have L6 : ∀ u : Of S, u.w.cell? ⟨x, 6, none⟩ = some (.bool true) := fun u => (World.cell?_of_block (w := w12) (a := ⟨x, 6, none⟩) ((hSv _ u.ok).block x hxl)).trans (hc2 ▸ hB2.cells.2.1.2.2.1)
              clear S4 hS hSb hSv hB2 hc2 hxl
              refine wp_region_S S (by kernel_rfl) (by kernel_rfl) HS4.out ?_
              repeat (go_big_quiet_step (fail))
              refine wpQuiet_nil ?_
              rintro w13 ⟨u9, e9⟩
              have h9 : S w13 := e9 ▸ u9.ok
              rw [HSS.out] at h9
              have HW13 := Lib.hid (HW12.out.below h9)
              clear e9 u9 h9 this HS4 HSS L6
              go_wp2_with fail
              go_roundw
              case rel => exact ⟨i + 1, by omega, by omega, by go_num, HW13.out⟩
              case measure => simp [intOf]; omega
          · as_aux_lemma =>
            obtain ⟨s, hB⟩ := hWd.base
            have hov : i < len → i < 100 → wr.cell? ⟨x, 7, none⟩ = some (.bool true) := fun h1 h2 => by
              rcases hWd with ⟨act, s, h⟩ | ⟨s, h3, h4, _⟩
              · exact absurd ⟨⟨h1, h2⟩, act, s, h⟩ hgo
              · exact h4 ▸ h3.cells.2.1.2.2.2
            have HBs := Lib.hid hB
            clear hWd hgo hB
            go_upto_region 20 with fail
            go_cut [117] from 103 to 191 (fun s117 wx => s117 = .bool false ∧ wr = wx)
            case first =>
              by_cases h1 : i < len
              · have h1i : (i : Int) < (len : Int) := by omega
                by_cases h2 : i < 100
                · have h2i : (i : Int) < 100 := by omega
                  have c7 := hov h1 h2
                  clear hov
                  go_wp2
                  go_meet
                  exact ⟨rfl, rfl⟩
                · have h2i : ¬ (i : Int) < 100 := by omega
                  clear hov
                  go_wp2
                  go_meet
                  exact ⟨rfl, rfl⟩
              · have h1i : ¬ (i : Int) < (len : Int) := by omega
                clear hov
                go_wp2
                go_meet
                exact ⟨rfl, rfl⟩
            case rest =>
              obtain ⟨rfl, rfl⟩ := hcut
              clear hov
              obtain ⟨img, himg⟩ := list_of' s.st.S.flatten
              have CI := Lib.hid (Image_ok d p s.F 64 s.st.S s.st.ps 0 img himg wr HBs.out.dsk.liv)
              have HI := Lib.hid himg
              clear himg
              go_wp2_with fail
              refine CI.out.mono ?_
              rintro e w14 ⟨rfl, hb14⟩
              have HB14 := Lib.hid (HBs.out.below hb14)
              clear hb14 CI HBs
              go_wp2_with fail
              go_loopw [18] (fun kv wx => ∃ k : Nat, k ≤ 64 ∧ kv = .int .i64 k ∧ Base w1 from_ m i x p d s wx) (fun kv _ => 64 - (intOf kv).toNat)
              case atStart => exact ⟨0, by omega, rfl, HB14.out⟩
              case round =>
                clear HB14
                obtain ⟨k, hk, rfl, hBk⟩ := hrel
                by_cases h64 : k < 64
                · have hok := hBk.ok64
                  have himl : img.size = 4096 := by
                    have h4 := flat_len64 s.st.S hok.wide
                    rw [hok.len, ← HI.out, size_toList] at h4
                    omega
                  obtain ⟨K1, hK1⟩ : ∃ K1, K1 = 64 * k := ⟨_, rfl⟩
                  obtain ⟨K2, hK2⟩ : ∃ K2, K2 = 64 * k + 64 := ⟨_, rfl⟩
                  obtain ⟨FM, hFM⟩ : ∃ FM, FM = from_ + M2 := ⟨_, rfl⟩
                  have x1 : IntKind.i64.wrap (64 * (k : Int)) = (K1 : Int) := by rw [IntWalk.i64_in _ (by omega)]; omega
                  have x2 : IntKind.i64.wrap ((K1 : Int) + 64) = (K2 : Int) := by rw [IntWalk.i64_in _ (by omega)]; omega
                  have x3 : IntKind.i64.wrap ((from_ : Int) + (M2 : Int)) = (FM : Int) := by rw [IntWalk.i64_in _ (by have := HM2.out; omega)]; omega
                  have c4 : wr.cell? ⟨x, 4, none⟩ = some (.int .i64 from_) := hBk.cells.2.1.1
                  have c5 : wr.cell? ⟨x, 5, none⟩ = some (.int .i64 M2) := by rw [HM2.out.1]; exact hBk.cells.2.1.2.1
                  have HBk := Lib.hid hBk
                  by_cases hin : from_ ≤ k ∧ k < FM
                  · have n1 : ¬ (k : Int) < (from_ : Int) := by omega
                    have n1a : ¬ k < from_ := by omega
                    have n1b : decide ((k : Int) < (from_ : Int)) = false := by simpa using n1
                    have n1c : decide (k < from_) = false := by simpa using n1a
                    have n2 : ¬ (FM : Int) ≤ (k : Int) := by omega
                    have n2a : ¬ FM ≤ k := by omega
                    clear hBk hin hK1 hK2 hFM hok himl
                    go_wp2_with fail
                    obtain ⟨S, hS⟩ : ∃ S : World → Prop, S = fun v => Below wr.heap.size wr v := ⟨_, rfl⟩
                    have hSv : ∀ v, S v → Below wr.heap.size wr v := by rw [hS]; exact fun v h => h
                    have S4 : S wr.drew := by rw [hS]; exact (Below.refl _ _).drew
                    have HS4 := Lib.hid S4
                    haveI : Nonempty (Of S) := ⟨⟨_, S4⟩⟩
                    have HSS := Lib.hid hS
                    have L4 : ∀ u : Of S, u.w.cell? ⟨x, 4, none⟩ = some (.int .i64 (from_ : Int)) := fun u => (World.cell?_of_block (w := wr) (a := ⟨x, 4, none⟩) ((hSv _ u.ok).block x HBk.out.xl)).trans c4
                    have L5 : ∀ u : Of S, u.w.cell? ⟨x, 5, none⟩ = some (.int .i64 (M2 : Int)) := fun u => (World.cell?_of_block (w := wr) (a := ⟨x, 5, none⟩) ((hSv _ u.ok).block x HBk.out.xl)).trans c5
                    clear S4 hS hSv c4 c5
                    refine wp_region_S S (by kernel_rfl) (by kernel_rfl) HS4.out ?_
                    repeat (go_big_quiet_step (fail))
                    refine wpQuiet_nil ?_
                    rintro w13 ⟨u9, e9⟩
                    have h9 : S w13 := e9 ▸ u9.ok
                    rw [HSS.out] at h9
                    have HB13 := Lib.hid (HBk.out.below h9)
                    clear e9 u9 h9 this HS4 HSS L4 L5
                    go_wp2_with fail
                    go_roundw
                    case rel => exact ⟨k + 1, by omega, by go_num, HB13.out⟩
                    case measure => simp [intOf]; omega
                  · have hq : img.extract K1 K2 = q0 := by
                      have h1 : (img.extract K1 K2).data.toList = q0.data.toList := by
                        have h2 := image_rd s.st.S k 1 hok.wide (by rw [hok.len]; omega)
                        rw [rd_one, Dk.readAt_nil, hBk.far k (by rw [← HM2.out.1]; omega) h64] at h2
                        rw [extract_list, HI.out, HQ0.out, List.drop_take, hK1, hK2, show 64 * k + 64 - 64 * k = 64 * 1 by omega]
                        exact h2
                      exact (bs_of h1).trans (bs_of rfl).symm
                    have hmid : ∀ v : World, (Instr.slice 9 (.string img) (some (.int .i64 (K1 : Int))) (some (.int .i64 (K2 : Int))) none).run Tryz.prog v = .ok (.string q0) v := fun v => by
                      rw [← hq]; exact run_mid_string (P := Tryz.prog) v 9 img .i64 .i64 K1 K2 Tryz.underlying9 (by omega) (by omega)
                    by_cases hlo : k < from_
                    · have n1 : (k : Int) < (from_ : Int) := by omega
                      clear hBk hin hK1 hK2 hFM hok himl hq hlo
                      go_wp2_with fail
                      obtain ⟨S, hS⟩ : ∃ S : World → Prop, S = fun v => Below wr.heap.size wr v := ⟨_, rfl⟩
                      have hSv : ∀ v, S v → Below wr.heap.size wr v := by rw [hS]; exact fun v h => h
                      have S4 : S wr.drew := by rw [hS]; exact (Below.refl _ _).drew
                      have HS4 := Lib.hid S4
                      haveI : Nonempty (Of S) := ⟨⟨_, S4⟩⟩
                      have HSS := Lib.hid hS
                      have L4 : ∀ u : Of S, u.w.cell? ⟨x, 4, none⟩ = some (.int .i64 (from_ : Int)) := fun u => (World.cell?_of_block (w := wr) (a := ⟨x, 4, none⟩) ((hSv _ u.ok).block x HBk.out.xl)).trans c4
                      have L5 : ∀ u : Of S, u.w.cell? ⟨x, 5, none⟩ = some (.int .i64 (M2 : Int)) := fun u => (World.cell?_of_block (w := wr) (a := ⟨x, 5, none⟩) ((hSv _ u.ok).block x HBk.out.xl)).trans c5
                      clear S4 hS hSv c4 c5
                      refine wp_region_S S (by kernel_rfl) (by kernel_rfl) HS4.out ?_
                      repeat (go_big_quiet_step (fail))
                      refine wpQuiet_nil ?_
                      rintro w13 ⟨u9, e9⟩
                      have h9 : S w13 := e9 ▸ u9.ok
                      rw [HSS.out] at h9
                      have HB13 := Lib.hid (HBk.out.below h9)
                      clear e9 u9 h9 this HS4 HSS L4 L5
                      go_wp2_with fail
                      go_roundw
                      case rel => exact ⟨k + 1, by omega, by go_num, HB13.out⟩
                      case measure => simp [intOf]; omega
                    · have n1 : ¬ (k : Int) < (from_ : Int) := by omega
                      have n1a : ¬ k < from_ := by omega
                      have n1b : decide ((k : Int) < (from_ : Int)) = false := by simpa using n1
                      have n1c : decide (k < from_) = false := by simpa using n1a
                      have n2 : (FM : Int) ≤ (k : Int) := by omega
                      have n2a : FM ≤ k := by omega
                      clear hBk hin hK1 hK2 hFM hok himl hq hlo
                      go_wp2_with fail
                      obtain ⟨S, hS⟩ : ∃ S : World → Prop, S = fun v => Below wr.heap.size wr v := ⟨_, rfl⟩
                      have hSv : ∀ v, S v → Below wr.heap.size wr v := by rw [hS]; exact fun v h => h
                      have S4 : S wr.drew := by rw [hS]; exact (Below.refl _ _).drew
                      have HS4 := Lib.hid S4
                      haveI : Nonempty (Of S) := ⟨⟨_, S4⟩⟩
                      have HSS := Lib.hid hS
                      have L4 : ∀ u : Of S, u.w.cell? ⟨x, 4, none⟩ = some (.int .i64 (from_ : Int)) := fun u => (World.cell?_of_block (w := wr) (a := ⟨x, 4, none⟩) ((hSv _ u.ok).block x HBk.out.xl)).trans c4
                      have L5 : ∀ u : Of S, u.w.cell? ⟨x, 5, none⟩ = some (.int .i64 (M2 : Int)) := fun u => (World.cell?_of_block (w := wr) (a := ⟨x, 5, none⟩) ((hSv _ u.ok).block x HBk.out.xl)).trans c5
                      clear S4 hS hSv c4 c5
                      refine wp_region_S S (by kernel_rfl) (by kernel_rfl) HS4.out ?_
                      repeat (go_big_quiet_step (fail))
                      refine wpQuiet_nil ?_
                      rintro w13 ⟨u9, e9⟩
                      have h9 : S w13 := e9 ▸ u9.ok
                      rw [HSS.out] at h9
                      have HB13 := Lib.hid (HBk.out.below h9)
                      clear e9 u9 h9 this HS4 HSS L4 L5
                      go_wp2_with fail
                      go_roundw
                      case rel => exact ⟨k + 1, by omega, by go_num, HB13.out⟩
                      case measure => simp [intOf]; omega
                · have HBk := Lib.hid hBk
                  clear hBk
                  go_wp2_with fail
                  go_ret
                  exact ⟨rfl, HB1.out.trans (HBk.out.old.mono HB1.out.size)⟩
end Go.Proofs.YtbljhodnpddpiaaGreatDoor
