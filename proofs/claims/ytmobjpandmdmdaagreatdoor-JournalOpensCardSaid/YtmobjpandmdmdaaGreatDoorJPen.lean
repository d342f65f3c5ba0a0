/- The walks of the journal's pen: it reads, writes and flushes till the disk answers an error. -/
import Derived.Test.YtmobjpandmdmdaaGreatDoorJSpec
import Derived.Deep.RegionHeldLaw
namespace Go.Proofs.YtmobjpandmdmdaaGreatDoor
open Go.RowKit

/-- What has been written is of some blocks (and of new ones) alone. -/
structure Mv (X F F' : List Nat) (w w' : World) : Prop where
  kept : Kept w.heap.size (X ++ F) w w'
  foot : ∀ x ∈ F', x ∈ F ∨ w.heap.size ≤ x
theorem Mv.refl (X F : List Nat) (w : World) : Mv X F F w w := ⟨Kept.refl _ _ _, fun _ h => Or.inl h⟩
theorem Mv.trans {X F F1 F2 : List Nat} {w w1 w2 : World} (h : Mv X F F1 w w1) (k : Mv X F1 F2 w1 w2) : Mv X F F2 w w2 := by
  have hz := h.kept.size
  refine ⟨h.kept.trans (k.kept.mono hz (fun x hx hm => ?_)), fun x hx => ?_⟩
  · rcases List.mem_append.1 hm with h1 | h1
    · exact List.mem_append.2 (Or.inl h1)
    · rcases h.foot x h1 with h2 | h2
      · exact List.mem_append.2 (Or.inr h2)
      · omega
  · rcases k.foot x hx with h1 | h1
    · exact h.foot x h1
    · exact Or.inr (Nat.le_trans hz h1)
theorem Mv.below (X F : List Nat) {w w' : World} (h : Below w.heap.size w w') : Mv X F F w w' := ⟨Kept.of_below h, fun _ h => Or.inl h⟩
theorem Mv.size {X F F' : List Nat} {w w' : World} (h : Mv X F F' w w') : w.heap.size ≤ w'.heap.size := h.kept.size
theorem Mv.more {X Y F F' : List Nat} {w w' : World} (h : Mv X F F' w w') (hs : ∀ x ∈ X, x ∈ Y ∨ w.heap.size ≤ x) : Mv Y F F' w w' := by
  refine ⟨h.kept.mono (Nat.le_refl _) (fun x hx hm => ?_), h.foot⟩
  rcases List.mem_append.1 hm with h1 | h1
  · rcases hs x h1 with h2 | h2
    · exact List.mem_append.2 (Or.inl h2)
    · omega
  · exact List.mem_append.2 (Or.inr h1)
theorem Mv.block {X F F' : List Nat} {w w' : World} (h : Mv X F F' w w') {g : Nat} (hg : g < w.heap.size) (hX : g ∉ X) (hF : g ∉ F) : w'.heap[g]? = w.heap[g]? :=
  h.kept.block g hg (by simp [hX, hF])

theorem kept_two {B : Nat} {a b c : List Nat} {w w1 w2 : World} (h1 : Kept B a w w1) (h2 : Kept w1.heap.size b w1 w2) (hB : B ≤ w1.heap.size) (s1 : ∀ x, x ∈ a → x ∈ c) (s2 : ∀ x, x ∈ b → x ∈ c) : Kept B c w w2 :=
  (h1.mono (Nat.le_refl _) (fun x _ hm => s1 x hm)).trans (h2.mono hB (fun x _ hm => s2 x hm))
/-- A disk's power has gone, if not all that was asked has been done. -/
structure Dsk (d p n : Nat) (F : List Nat) (st : St) (ok : Bool) (w : World) : Prop where
  liv : Live d p F n st.S st.ps 0 w
  pow : PowerAt p (!ok) st.fuse st.acts w
theorem Dsk.keep {d p n : Nat} {F : List Nat} {st : St} {ok : Bool} {w w' : World} (h : Dsk d p n F st ok w) {X : List Nat} (hk : Kept w.heap.size X w w') (hp : p ∉ X) (hF : ∀ x ∈ F, x ∉ X) : Dsk d p n F st ok w' :=
  ⟨h.liv.kept hk hF, h.pow.keep (hk.block p h.pow.lt hp)⟩
theorem Dsk.below {d p n : Nat} {F : List Nat} {st : St} {ok : Bool} {w w' : World} (h : Dsk d p n F st ok w) (hb : Below w.heap.size w w') : Dsk d p n F st ok w' :=
  ⟨h.liv.below hb, h.pow.keep (hb.block p h.pow.lt)⟩
theorem Dsk.pF {d p n : Nat} {F : List Nat} {st : St} {ok : Bool} {w : World} (h : Dsk d p n F st ok w) : p ∉ F := by
  obtain ⟨_, _, _, _, _, _, _, _, h5, _⟩ := h.liv; exact h5
theorem Dsk.dF {d p n : Nat} {F : List Nat} {st : St} {ok : Bool} {w : World} (h : Dsk d p n F st ok w) : d ∈ F := by
  obtain ⟨_, _, _, _, h1, _⟩ := h.liv; exact h1
theorem Dsk.Flt {d p n : Nat} {F : List Nat} {st : St} {ok : Bool} {w : World} (h : Dsk d p n F st ok w) : ∀ x ∈ F, x < w.heap.size := by
  obtain ⟨_, _, _, _, _, _, _, _, _, h6⟩ := h.liv; exact h6
/-- The pen's error: none, or that the power has gone. -/
def Erred (p : Nat) (F : List Nat) (ok : Bool) (ev : Value) (w : World) : Prop := (ok = true ∧ ev = .nilIface) ∨ (ok = false ∧ ∃ g, ev = faultV g ∧ FaultAt g 10 0 w ∧ g ∉ F ∧ g ≠ p)
/-- A pen at block q. -/
structure Pen (d p q n : Nat) (F : List Nat) (st : St) (ok : Bool) (w : World) : Prop where
  dsk : Dsk d p n F st ok w
  pen : ∃ ev, w.heap[q]? = some (.cells [Value.pointer (some ⟨d, 0, none⟩), ev].toArray 108 (0, 0)) ∧ Erred p F ok ev w ∧ (∀ g, ev = faultV g → g ≠ q)
  qF : q ∉ F
  qp : q ≠ p
section
variable {d p q n : Nat} {F : List Nat} {st : St} {ok : Bool} {w : World}
theorem Pen.qlt (h : Pen d p q n F st ok w) : q < w.heap.size := by obtain ⟨ev, h1, _⟩ := h.pen; exact lt_of_heap h1
theorem Pen.below {w' : World} (h : Pen d p q n F st ok w) (hb : Below w.heap.size w w') : Pen d p q n F st ok w' := by
  obtain ⟨ev, h1, h2, h3⟩ := h.pen
  refine ⟨h.dsk.below hb, ⟨ev, (hb.block q h.qlt).trans h1, ?_, h3⟩, h.qF, h.qp⟩
  rcases h2 with h2 | ⟨h2, g, h4, h5, h6⟩
  · exact Or.inl h2
  · exact Or.inr ⟨h2, g, h4, h5.keep (hb.block g h5.lt), h6⟩
theorem Pen.new (h : Dsk d p n F st true w) (hq : w.heap[q]? = some (.cells [Value.pointer (some ⟨d, 0, none⟩), .nilIface].toArray 108 (0, 0))) (hqF : q ∉ F) (hqp : q ≠ p) : Pen d p q n F st true w :=
  ⟨h, ⟨.nilIface, hq, Or.inl ⟨rfl, rfl⟩, fun g e => by cases e⟩, hqF, hqp⟩
theorem Pen.fine (h : Pen d p q n F st true w) : w.heap[q]? = some (.cells [Value.pointer (some ⟨d, 0, none⟩), .nilIface].toArray 108 (0, 0)) := by
  obtain ⟨ev, h1, h2, _⟩ := h.pen
  rcases h2 with ⟨_, rfl⟩ | ⟨h2, _⟩
  · exact h1
  · cases h2
theorem Pen.stuck (h : Pen d p q n F st false w) : ∃ g, w.heap[q]? = some (.cells [Value.pointer (some ⟨d, 0, none⟩), faultV g].toArray 108 (0, 0)) ∧ FaultAt g 10 0 w := by
  obtain ⟨ev, h1, h2, _⟩ := h.pen
  rcases h2 with ⟨h2, _⟩ | ⟨_, g, rfl, h4, _⟩
  · cases h2
  · exact ⟨g, h1, h4⟩
theorem Pen.again (h : Pen d p q n F st true w) {w' : World} (hk : Kept w.heap.size [q] w w') (hq : w'.heap[q]? = some (.cells [Value.pointer (some ⟨d, 0, none⟩), .nilIface].toArray 108 (0, 0))) : Pen d p q n F st true w' :=
  Pen.new (h.dsk.keep hk (by simpa using Ne.symm h.qp) (fun x hx e => h.qF (by simp at e; exact e ▸ hx))) hq h.qF h.qp
end
set_option maxRecDepth 100000 in
set_option maxHeartbeats 1000000 in
theorem flush_stuck (d p q n : Nat) (F : List Nat) (st : St) (w : World) (h : Pen d p q n F st false w) :
    Calls Tryz.prog 57 #[.pointer (some ⟨q, 0, none⟩)] w fun e w' => e = .returned (.tuple #[]) ∧ w = w' := by
  obtain ⟨g, hq, _⟩ := h.stuck
  have c1 : w.cell? ⟨q, 1, none⟩ = some (faultV g) := by rw [cell_of_list hq]; rfl
  unfold faultV at c1
  clear h hq
  go_enter Tryz.func57, Tryz.ntmps57
  go_wp2
  go_end0
  exact ⟨rfl, rfl⟩
theorem Dsk.flush {d p n : Nat} {F : List Nat} {st : St} {w : World} (h : Dsk d p n F st true w) (hf : st.Fit 1) (h0 : st.fuse ≠ 0) :
    Calls Tryz.prog 10 #[.pointer (some ⟨d, 0, none⟩)] w fun e w' => e = .returned .nilIface ∧ Dsk d p n F (st.did .flush) true w' ∧ Kept w.heap.size (p :: F) w w' := by
  refine (Flush_ok d p F n st.S st.ps 0 st.fuse st.acts h0 hf.f1 hf.f2 hf.a0 (by have := hf.a1; omega) w h.liv h.pow).mono ?_
  rintro e w' ⟨rfl, hL, hP, hk⟩
  exact ⟨rfl, ⟨hL, hP⟩, hk⟩
theorem Dsk.put {d p n : Nat} {F : List Nat} {st : St} {w : World} (h : Dsk d p n F st true w) (hf : st.Fit 1) (h0 : st.fuse ≠ 0) (a : Nat) (s : ByteArray) (ha : a < n) (hs : s.size = 64) :
    Calls Tryz.prog 8 #[.pointer (some ⟨d, 0, none⟩), .int .i64 a, .string s] w fun e w' => e = .returned .nilIface ∧ ∃ F', Dsk d p n F' (st.did (.put a s.data.toList)) true w' ∧ (∀ x ∈ F', x ∈ F ∨ w.heap.size ≤ x) ∧ Kept w.heap.size (p :: F) w w' := by
  refine (Write_ok d p F n st.S st.ps 0 st.fuse st.acts a s ha hs (by have := hf.few; omega) h0 hf.f1 hf.f2 hf.a0 (by have := hf.a1; omega) w h.liv h.pow).mono ?_
  rintro e w' ⟨rfl, F', hL, hP, hF, hk⟩
  exact ⟨rfl, F', ⟨hL, hP⟩, hF, hk⟩
theorem set_pen {w : World} {q d : Nat} {ev : Value} (v : Value) (h : w.heap[q]? = some (.cells [Value.pointer (some ⟨d, 0, none⟩), ev].toArray 108 (0, 0))) : (w.setCell ⟨q, 1, none⟩ v).heap[q]? = some (.cells [Value.pointer (some ⟨d, 0, none⟩), v].toArray 108 (0, 0)) := set_list h 1 v
section
variable {d p q n : Nat} {F : List Nat} {st : St} {w : World}
/-- Behind an act that was done. -/
theorem Pen.step {F' : List Nat} {st' : St} {w1 : World} (h : Pen d p q n F st true w) (h1 : Dsk d p n F' st' true w1) (hF : ∀ x ∈ F', x ∈ F ∨ w.heap.size ≤ x) (hk : Kept w.heap.size (p :: F) w w1) :
    Pen d p q n F' st' true (w1.setCell ⟨q, 1, none⟩ .nilIface) ∧ Mv [q, p] F F' w (w1.setCell ⟨q, 1, none⟩ .nilIface) := by
  have hq1 : w1.heap[q]? = some (.cells [Value.pointer (some ⟨d, 0, none⟩), .nilIface].toArray 108 (0, 0)) := (hk.block q h.qlt (by simp [h.qp, h.qF])).trans h.fine
  have hqF' : q ∉ F' := fun hm => by
    rcases hF q hm with h2 | h2
    · exact h.qF h2
    · have := h.qlt; omega
  have hk2 : Kept w1.heap.size [q] w1 (w1.setCell ⟨q, 1, none⟩ .nilIface) := (Kept.refl _ _ _).setCell (p := ⟨q, 1, none⟩) (by simp) _
  refine ⟨Pen.new (h1.keep hk2 (by simpa using Ne.symm h.qp) (fun x hx e => hqF' (by simp at e; exact e ▸ hx))) (set_pen _ hq1) hqF' h.qp, ⟨?_, hF⟩⟩
  exact kept_two hk hk2 hk.size (fun x hm => by rcases List.mem_cons.1 hm with rfl | hm <;> simp [*]) (fun x hm => by simp at hm; simp [hm])
/-- Behind one that was cut off. -/
theorem Pen.cut {g : Nat} {w1 : World} (h : Pen d p q n F st true w) (hz : st.fuse = 0) (hg : w.heap.size ≤ g) (hf : FaultAt g 10 0 w1) (hp : PowerAt p true 0 st.acts w1) (hk : Kept w.heap.size [p] w w1) :
    Pen d p q n F st false (w1.setCell ⟨q, 1, none⟩ (faultV g)) ∧ Mv [q, p] F F w (w1.setCell ⟨q, 1, none⟩ (faultV g)) := by
  have hq1 : w1.heap[q]? = some (.cells [Value.pointer (some ⟨d, 0, none⟩), .nilIface].toArray 108 (0, 0)) := (hk.block q h.qlt (by simp [h.qp])).trans h.fine
  have hgq : g ≠ q := by have := h.qlt; omega
  have hk2 : Kept w1.heap.size [q] w1 (w1.setCell ⟨q, 1, none⟩ (faultV g)) := (Kept.refl _ _ _).setCell (p := ⟨q, 1, none⟩) (by simp) _
  have hL : Live d p F n st.S st.ps 0 w1 := h.dsk.liv.kept hk (fun x hx e => h.dsk.pF (by simp at e; exact e ▸ hx))
  have h1 : Dsk d p n F st false w1 := ⟨hL, by rw [hz]; exact hp⟩
  refine ⟨⟨h1.keep hk2 (by simpa using Ne.symm h.qp) (fun x hx e => h.qF (by simp at e; exact e ▸ hx)), ⟨faultV g, set_pen _ hq1, Or.inr ⟨rfl, g, rfl, hf.keep (hk2.block g hf.lt (by simpa using hgq)), fun hm => ?_, ?_⟩, fun g' e => ?_⟩, h.qF, h.qp⟩, ⟨?_, fun _ hx => Or.inl hx⟩⟩
  · have := h.dsk.Flt g hm; omega
  · have := h.dsk.pow.lt; omega
  · unfold faultV at e; injection e with _ e; injection e with e; injection e with e; injection e with e; rw [← e]; exact hgq
  · exact kept_two hk hk2 hk.size (fun x hm => by simp at hm; simp [hm]) (fun x hm => by simp at hm; simp [hm])
end
set_option maxRecDepth 100000 in
set_option maxHeartbeats 1000000 in
theorem flush_on (d p q n : Nat) (F : List Nat) (st : St) (w : World) (h : Pen d p q n F st true w) (hf : st.Fit 1) (h0 : st.fuse ≠ 0) :
    Calls Tryz.prog 57 #[.pointer (some ⟨q, 0, none⟩)] w fun e w' => e = .returned (.tuple #[]) ∧ Pen d p q n F (st.did .flush) true w' ∧ Mv [q, p] F F w w' := by
  have hq := h.fine
  have c0 : w.cell? ⟨q, 0, none⟩ = some (.pointer (some ⟨d, 0, none⟩)) := by rw [cell_of_list hq]; rfl
  have c1 : w.cell? ⟨q, 1, none⟩ = some .nilIface := by rw [cell_of_list hq]; rfl
  have H := Lib.hid h
  clear h hq
  go_enter Tryz.func57, Tryz.ntmps57
  go_wp2_with fail
  refine (H.out.dsk.flush hf h0).mono ?_
  rintro e w1 ⟨rfl, h1, hk1⟩
  have hq1 : w1.heap[q]? = some (.cells [Value.pointer (some ⟨d, 0, none⟩), .nilIface].toArray 108 (0, 0)) := (hk1.block q H.out.qlt (by simp [H.out.qp, H.out.qF])).trans H.out.fine
  have f1 := free_of_list hq1
  have d1 : w1.cell? ⟨q, 1, none⟩ = some .nilIface := by rw [cell_of_list hq1]; rfl
  have HS := Lib.hid (H.out.step h1 (fun _ hx => Or.inl hx) hk1)
  clear h1 hk1 hq1
  go_wp2_with fail
  go_end0
  exact ⟨rfl, HS.out⟩
set_option maxRecDepth 100000 in
set_option maxHeartbeats 1000000 in
theorem flush_cut (d p q n : Nat) (F : List Nat) (st : St) (w : World) (h : Pen d p q n F st true w) (h0 : st.fuse = 0) :
    Calls Tryz.prog 57 #[.pointer (some ⟨q, 0, none⟩)] w fun e w' => e = .returned (.tuple #[]) ∧ Pen d p q n F st false w' ∧ Mv [q, p] F F w w' := by
  have hq := h.fine
  have c0 : w.cell? ⟨q, 0, none⟩ = some (.pointer (some ⟨d, 0, none⟩)) := by rw [cell_of_list hq]; rfl
  have c1 : w.cell? ⟨q, 1, none⟩ = some .nilIface := by rw [cell_of_list hq]; rfl
  have H := Lib.hid h
  clear h hq
  go_enter Tryz.func57, Tryz.ntmps57
  go_wp2_with fail
  refine (Flush_cut d p F n st.S st.ps 0 st.acts _ H.out.dsk.liv (by have := H.out.dsk.pow; rw [h0] at this; exact this)).mono ?_
  rintro e w1 ⟨g, hg, rfl, hfa, hp1, hk1⟩
  have hq1 : w1.heap[q]? = some (.cells [Value.pointer (some ⟨d, 0, none⟩), .nilIface].toArray 108 (0, 0)) := (hk1.block q H.out.qlt (by simp [H.out.qp])).trans H.out.fine
  have f1 := free_of_list hq1
  have d1 : w1.cell? ⟨q, 1, none⟩ = some .nilIface := by rw [cell_of_list hq1]; rfl
  have HS := Lib.hid (H.out.cut h0 hg hfa hp1 hk1)
  clear hfa hp1 hk1 hq1
  go_wp2_with fail
  go_end0
  exact ⟨rfl, HS.out⟩
theorem flush_any (d p q n : Nat) (F : List Nat) (st : St) (ok : Bool) (w : World) (h : Pen d p q n F st ok w) (hf : st.Fit 1) :
    Calls Tryz.prog 57 #[.pointer (some ⟨q, 0, none⟩)] w fun e w' => e = .returned (.tuple #[]) ∧ Pen d p q n F (does (st, ok) .flush).1 (does (st, ok) .flush).2 w' ∧ Mv [q, p] F F w w' := by
  cases ok with
  | false =>
    refine (flush_stuck d p q n F st w h).mono ?_
    rintro e w' ⟨rfl, rfl⟩
    exact ⟨rfl, h, Mv.refl _ _ _⟩
  | true =>
    by_cases h0 : st.fuse = 0
    · rw [does_cut h0]; exact flush_cut d p q n F st w h h0
    · rw [does_on h0]; exact flush_on d p q n F st w h hf h0
end Go.Proofs.YtmobjpandmdmdaaGreatDoor
