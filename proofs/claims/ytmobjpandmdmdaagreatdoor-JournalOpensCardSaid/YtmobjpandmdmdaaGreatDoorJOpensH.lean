/- What the statement JournalOpens uses: a disk that is written to, errors told, the image's sectors. -/
import Derived.Test.YtmobjpandmdmdaaGreatDoorJOpenG
import Derived.Test.YtmobjpandmdmdaaGreatDoorJHelp
import Derived.Test.YtmobjpandmdmdaaGreatDoorJRefAll
import Derived.Test.YtmobjpandmdmdaaGreatDoorDImage
namespace Go.Proofs.YtmobjpandmdmdaaGreatDoor
open Go.RowKit Go.Extern.Stop Go.Stop Go.Extern

/-- A disk of the call's own, written to at most K times. -/
def Wr (w0 : World) (d p K : Nat) (w : World) : Prop :=
  ∃ F S ps acts, Live d p F 64 S ps 0 w ∧ PowerAt p false (-1) acts w ∧ ps.length ≤ K ∧ 0 ≤ acts ∧ acts ≤ K ∧ Below w0.heap.size w0 w ∧ w0.heap.size ≤ p ∧ ∀ x ∈ F, w0.heap.size ≤ x
section
variable {w0 w w' : World} {d p K : Nat}
theorem Lw.wr {F : List Nat} {st : St} {c : Nat} (h : Lw w0 d p 64 F st c w) (hc : c = 0) : Wr w0 d p 0 w := by
  subst hc
  have h1 := h.jd.a1
  refine ⟨F, st.S, st.ps, st.acts, h.jd.dsk.liv, ?_, by rw [h.jd.ps]; simp, h.jd.a0, by simpa using h1, h.old, h.pn, h.fn⟩
  have := h.jd.dsk.pow
  rw [h.jd.free] at this
  exact this
theorem Wr.below (h : Wr w0 d p K w) (hb : Below w.heap.size w w') : Wr w0 d p K w' := by
  obtain ⟨F, S, ps, acts, h1, h2, h3, h4, h5, h6, h7, h8⟩ := h
  exact ⟨F, S, ps, acts, h1.below hb, h2.keep (hb.block p h2.lt), h3, h4, h5, h6.trans (hb.mono h6.size), h7, h8⟩
theorem Wr.write (h : Wr w0 d p K w) (hK : K ≤ 9000) (a : Nat) (q : ByteArray) (ha : a < 64) (hq : q.size = 64) :
    Calls Tryz.prog 8 #[.pointer (some ⟨d, 0, none⟩), .int .i64 a, .string q] w fun e w' => e = .returned .nilIface ∧ Wr w0 d p (K + 1) w' := by
  obtain ⟨F, S, ps, acts, h1, h2, h3, h4, h5, h6, h7, h8⟩ := h
  refine (Write_ok d p F 64 S ps 0 (-1) acts a q ha hq (by omega) (by omega) (by omega) (by omega) h4 (by omega) w h1 h2).mono ?_
  rintro e w' ⟨rfl, F', hL, hP, hF, hk⟩
  refine ⟨rfl, F', S, _, acts + 1, hL, hP, by simp; omega, by omega, by omega, h6.trans ((hk.mono h6.size (fun _ _ hm => hm)).below (fun x hx => ?_)), h7, fun x hx => ?_⟩
  · rcases List.mem_cons.1 hx with rfl | hx
    · exact h7
    · exact h8 x hx
  · rcases hF x hx with h | h
    · exact h8 x h
    · have := h6.size; omega
theorem Wr.flush (h : Wr w0 d p K w) (hK : K ≤ 9000) :
    Calls Tryz.prog 10 #[.pointer (some ⟨d, 0, none⟩)] w fun e w' => e = .returned .nilIface ∧ ∃ F st, Lw w0 d p 64 F st 1 w' := by
  obtain ⟨F, S, ps, acts, h1, h2, h3, h4, h5, h6, h7, h8⟩ := h
  refine (Flush_ok d p F 64 S ps 0 (-1) acts (by omega) (by omega) (by omega) h4 (by omega) w h1 h2).mono ?_
  rintro e w' ⟨rfl, hL, hP, hk⟩
  refine ⟨rfl, F, ⟨_, [], -1, acts + 1⟩, ⟨⟨⟨hL, hP⟩, rfl, rfl, ?_, ?_⟩, h6.trans ((hk.mono h6.size (fun _ _ hm => hm)).below (fun x hx => ?_)), h7, h8⟩⟩
  · show (0 : Int) ≤ acts + 1; omega
  · show acts + 1 ≤ ((10000 * 1 : Nat) : Int); omega
  · rcases List.mem_cons.1 hx with rfl | hx
    · exact h7
    · exact h8 x hx
end
set_option maxHeartbeats 1000000 in
theorem is_1 (g : Nat) (w : World) (h : FaultAt g 1 0 w) :
    Calls Tryz.prog 13 #[.iface 82 (.pointer (some ⟨g, 0, none⟩)), .int .i64 1] w fun e w' => e = .returned (.bool true) ∧ w = w' := by
  have c0 : w.cell? ⟨g, 0, none⟩ = some (.int .i64 1) := by rw [cell_of_list h]; rfl
  have c1 : w.cell? ⟨g, 1, none⟩ = some (.int .i64 0) := by rw [cell_of_list h]; rfl
  have c2 : w.cell? ⟨g, 2, none⟩ = some .nilIface := by rw [cell_of_list h]; rfl
  have af := assert_fault
  have H := Lib.hid h
  clear h
  go_enter Tryz.func13, Tryz.ntmps13
  go_wp2_with (go_at_call 39; refine (errorsIs_true g 1 0 _ H.out).mono ?_; rintro e w' ⟨rfl, rfl⟩)
  go_ret
  exact ⟨rfl, rfl⟩
set_option maxHeartbeats 1000000 in
theorem is_15 (g : Nat) (w : World) (h : FaultAt g 15 0 w) :
    Calls Tryz.prog 13 #[.iface 82 (.pointer (some ⟨g, 0, none⟩)), .int .i64 15] w fun e w' => e = .returned (.bool true) ∧ w = w' := by
  have c0 : w.cell? ⟨g, 0, none⟩ = some (.int .i64 15) := by rw [cell_of_list h]; rfl
  have c1 : w.cell? ⟨g, 1, none⟩ = some (.int .i64 0) := by rw [cell_of_list h]; rfl
  have c2 : w.cell? ⟨g, 2, none⟩ = some .nilIface := by rw [cell_of_list h]; rfl
  have af := assert_fault
  have H := Lib.hid h
  clear h
  go_enter Tryz.func13, Tryz.ntmps13
  go_wp2_with (go_at_call 39; refine (errorsIs_true g 15 0 _ H.out).mono ?_; rintro e w' ⟨rfl, rfl⟩)
  go_ret
  exact ⟨rfl, rfl⟩
set_option maxRecDepth 100000 in
set_option maxHeartbeats 1000000 in
theorem Open_bad (d p : Nat) (F : List Nat) (st : St) (c : Nat) (f s : Int) (hf1 : -9223372036854775808 ≤ f) (hf2 : f ≤ 9223372036854775807) (hs1 : -9223372036854775808 ≤ s) (hs2 : s ≤ 9223372036854775807) (hb : BadRow f s 64) (w : World) (h : Jd d p 64 F st c w) :
    Calls Tryz.prog 11 #[.pointer (some ⟨d, 0, none⟩), .int .i64 f, .int .i64 s] w (Refused 1 0 (fun v => .tuple #[.pointer none, .slice none 0 0, v]) w) := by
  have CR := Lib.hid (rowOf_bad d p 64 F st f s hf1 hf2 hs1 hs2 (by omega) hb w h.dsk.liv)
  clear h hb
  go_enter Tryz.func11, Tryz.ntmps11
  go_wp2_with (first | (go_at_call 36; refine CR.out.mono ?_; rintro e w1 ⟨g, hg, rfl, hf, hb1⟩; have HG := Lib.hid hg; have HF := Lib.hid hf; have HB1 := Lib.hid hb1; clear hg hf hb1) | fail)
  go_ret3
  exact ⟨g, HG.out, rfl, (((Below.refl w1.heap.size w1).alloc (Nat.le_refl _) _).block g (lt_of_heap HF.out)).trans HF.out, HB1.out.alloc HB1.out.size _⟩
set_option maxRecDepth 100000 in
set_option maxHeartbeats 1000000 in
theorem Format_bad (d p : Nat) (F : List Nat) (st : St) (c : Nat) (f s : Int) (hf1 : -9223372036854775808 ≤ f) (hf2 : f ≤ 9223372036854775807) (hs1 : -9223372036854775808 ≤ s) (hs2 : s ≤ 9223372036854775807) (hb : BadRow f s 64) (w : World) (h : Jd d p 64 F st c w) :
    Calls Tryz.prog 12 #[.pointer (some ⟨d, 0, none⟩), .int .i64 f, .int .i64 s] w (Refused 1 0 (fun v => .tuple #[.pointer none, v]) w) := by
  have CR := Lib.hid (rowOf_bad d p 64 F st f s hf1 hf2 hs1 hs2 (by omega) hb w h.dsk.liv)
  clear h hb
  go_enter Tryz.func12, Tryz.ntmps12
  go_wp2_with (first | (go_at_call 36; refine CR.out.mono ?_; rintro e w1 ⟨g, hg, rfl, hf, hb1⟩; have HG := Lib.hid hg; have HF := Lib.hid hf; have HB1 := Lib.hid hb1; clear hg hf hb1) | fail)
  go_ret2
  exact ⟨g, HG.out, rfl, (((Below.refl w1.heap.size w1).alloc (Nat.le_refl _) _).block g (lt_of_heap HF.out)).trans HF.out, HB1.out.alloc HB1.out.size _⟩
/-! The image's sectors. -/
theorem img_drop : ∀ (S : List (List UInt8)) (a : Nat), (∀ s ∈ S, s.length = 64) → S.flatten.drop (64 * a) = (S.drop a).flatten := by
  intro S
  induction S with
  | nil => intro a _; simp
  | cons x S ih =>
    intro a h
    cases a with
    | zero => simp
    | succ a =>
      have hx : x.length = 64 := h x (List.mem_cons_self ..)
      rw [List.flatten_cons, List.drop_succ_cons, ← ih a (fun s hs => h s (List.mem_cons_of_mem _ hs)), show 64 * (a + 1) = x.length + 64 * a by omega, ← List.drop_drop, List.drop_left]
theorem img_take : ∀ (S : List (List UInt8)) (k : Nat), (∀ s ∈ S, s.length = 64) → S.flatten.take (64 * k) = (S.take k).flatten := by
  intro S
  induction S with
  | nil => intro k _; simp
  | cons x S ih =>
    intro k h
    cases k with
    | zero => simp
    | succ k =>
      have hx : x.length = 64 := h x (List.mem_cons_self ..)
      rw [List.flatten_cons, List.take_succ_cons, List.flatten_cons, ← ih k (fun s hs => h s (List.mem_cons_of_mem _ hs)), List.take_append, List.take_of_length_le (by omega), show 64 * (k + 1) - x.length = 64 * k by omega]
theorem rd_flat (S : List (List UInt8)) (a : Nat) : ∀ k, a + k ≤ S.length → rd S [] a k = ((S.drop a).take k).flatten := by
  intro k
  induction k with
  | zero => intro _; rw [rd_zero]; simp
  | succ k ih =>
    intro h
    rw [rd_succ, ih (by omega), Dk.readAt_nil, List.take_succ_eq_append_getElem (by rw [List.length_drop]; omega), List.flatten_append, List.getElem_drop, List.getD, List.getElem?_eq_getElem (by omega)]
    simp
/-- So many sectors of an image. -/
theorem image_rd (S : List (List UInt8)) (a k : Nat) (hw : ∀ s ∈ S, s.length = 64) (h : a + k ≤ S.length) : (S.flatten.drop (64 * a)).take (64 * k) = rd S [] a k := by
  rw [rd_flat S a k h, img_drop S a hw, img_take _ k (fun s hs => hw s (List.mem_of_mem_drop hs))]
/-- The journal's bytes of an image. -/
structure Bytes (S : List (List UInt8)) (from_ m : Nat) (s : ByteArray) : Prop where
  size : s.size = 128 * m
  one : s.extract 0 64 = bs (Dk.readAt S [] from_)
  two : s.extract (64 * m) (64 * m + 64) = bs (Dk.readAt S [] (from_ + m))
  rest : ∀ act, act ≤ 1 → ((s.data.toList.drop (act * (64 * m))).take (64 * m)).drop 64 = rd S [] (from_ + act * m + 1) (m - 1)
theorem bytes_is (S : List (List UInt8)) (from_ m : Nat) (s : ByteArray) (hw : ∀ x ∈ S, x.length = 64) (h : from_ + 2 * m ≤ S.length) (hm : 2 ≤ m) (hs : s.data.toList = (S.flatten.take (64 * (from_ + 2 * m))).drop (64 * from_)) : Bytes S from_ m s := by
  have hfl : S.flatten.length = 64 * S.length := by
    have : ∀ (S : List (List UInt8)), (∀ x ∈ S, x.length = 64) → S.flatten.length = 64 * S.length := by
      intro S
      induction S with
      | nil => intro _; rfl
      | cons x S ih => intro h; rw [List.flatten_cons, List.length_append, ih (fun s hs => h s (List.mem_cons_of_mem _ hs)), h x (List.mem_cons_self ..), List.length_cons]; omega
    exact this S hw
  have hl : s.data.toList.length = 128 * m := by rw [hs, List.length_drop, List.length_take, hfl]; omega
  have part : ∀ a k, a + k ≤ 2 * m → (s.data.toList.drop (64 * a)).take (64 * k) = rd S [] (from_ + a) k := fun a k hk => by
    rw [← image_rd S (from_ + a) k hw (by omega), hs, List.drop_drop, List.drop_take, List.take_take, Nat.min_eq_left (by omega), show 64 * from_ + 64 * a = 64 * (from_ + a) by omega]
  refine ⟨by rw [← size_toList, hl], ?_, ?_, fun act ha => ?_⟩
  · refine bs_of ?_
    have := part 0 1 (by omega)
    rw [extract_list, List.drop_zero]
    rw [Nat.mul_zero, List.drop_zero, Nat.mul_one, Nat.add_zero, rd_one] at this
    exact this
  · refine bs_of ?_
    have := part m 1 (by omega)
    rw [extract_list, List.drop_take, show 64 * m + 64 - 64 * m = 64 by omega]
    rw [Nat.mul_one, rd_one] at this
    exact this
  · have := part (act * m + 1) (m - 1) (by
      have : act = 0 ∨ act = 1 := by omega
      rcases this with h0 | h0 <;> rw [h0] <;> omega)
    rw [List.drop_take, List.drop_drop, show act * (64 * m) + 64 = 64 * (act * m + 1) by rw [Nat.mul_add, Nat.mul_left_comm], show 64 * m - 64 = 64 * (m - 1) by omega, this, ← Nat.add_assoc]
end Go.Proofs.YtmobjpandmdmdaaGreatDoor
