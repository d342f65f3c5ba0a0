/- The walks of sums that are told piece by piece: their making, telling, asking. -/
import Derived.Test.YtfdeggfhailinaaSums
namespace Go.Proofs.Ytfdeggfhailinaa
open Go.RowKit

theorem built_sums : Try.prog.built 52 [(1, .agg (Dig.h256.map u32v).toArray), (2, .agg (Dig.h5.map u32v).toArray)] = some (tailCells 0 (List.replicate 64 0) (both [])).toArray := by
  rw [both, Dig.fold_nil, Dig.fold_nil]; kernel_rfl
theorem SumsAt.new {g : Nat} {w : World} (h : w.heap[g]? = some (.cells (tailCells 0 (List.replicate 64 0) (both [])).toArray 52 (0, 0))) : SumsAt g [] w :=
  ⟨List.replicate 64 0, by simp, by simp, by simpa using h⟩

set_option maxHeartbeats 1000000 in
theorem New_any (w : World) : Calls Try.prog 9 #[] w fun e w' => ∃ g, w.heap.size ≤ g ∧ e = .returned (.pointer (some ⟨g, 0, none⟩)) ∧ SumsAt g [] w' ∧ Below w.heap.size w w' := by
  obtain ⟨cs, hcs⟩ : ∃ cs, cs = tailCells 0 (List.replicate 64 0) (both []) := ⟨_, rfl⟩
  have hb := built_sums
  rw [← hcs] at hb
  have HC := Lib.hid hcs
  have hbw : ∀ (a : Act) (w : World), a.eval (.tmp 1) = .agg (Dig.h256.map u32v).toArray → a.eval (.tmp 2) = .agg (Dig.h5.map u32v).toArray → (Instr.build 52 ((#[(1, .tmp 1), (2, .tmp 2)] : Array (Nat × Operand)).map fun (i, x) => (i, a.eval x))).run Try.prog w = .ok (.agg cs.toArray) w := by
    intro a w h1 h2
    refine run_build w _ _ _ ?_
    rw [← hb]; simp [h1, h2]
  have HW := Lib.hid hbw
  clear hcs hb hbw
  go_enter Try.func9, Try.ntmps9
  go_wp2_with (first | (go_at_call 28; refine (start256_any _).mono ?_; rintro e w1 ⟨rfl, hb1⟩) | (go_at_call 29; refine (start5_any _).mono ?_; rintro e w2 ⟨rfl, hb2⟩) | (refine wpList_build rfl 52 _ rfl cs (HW.out _ _ rfl rfl) ?_; go_frame) | (refine wpList_box rfl 52 _ rfl cs rfl ?_; go_frame) | fail)
  go_ret
  have b2 := hb1.trans (hb2.mono hb1.size)
  refine ⟨w2.heap.size, b2.size, rfl, SumsAt.new ?_, b2.alloc b2.size _⟩
  rw [← HC.out]; exact heap_alloc_new _ _

theorem SSize_any (g : Nat) (told : List UInt8) (w : World) (h : SumsAt g told w) : Calls Try.prog 15 #[.pointer (some ⟨g, 0, none⟩)] w fun e w' => e = .returned (.int .i64 told.length) ∧ w = w' := by
  obtain ⟨rs, _, _, hg⟩ := h
  have c0 : w.cell? ⟨g, 0, none⟩ = some (.int .i64 told.length) := by rw [cell_of_list hg]; rfl
  clear hg
  go_enter Try.func15, Try.ntmps15
  go_wp2_with fail
  go_ret
  exact ⟨rfl, rfl⟩

theorem told_of_sums {g : Nat} {told : List UInt8} {w : World} (h : SumsAt g told w) : Told g 52 (Made12 g w.heap.size) told (w.alloc (.cells #[.pointer (some ⟨g, 0, none⟩)] 24)) := by
  have hlt := h.lt
  obtain ⟨rs, h1, h2, h3⟩ := h
  exact ⟨rs, _, h1, h2, (heap_alloc_old _ _ hlt).trans h3, rfl, heap_alloc_new _ _⟩
theorem sums_of_told {g c : Nat} {told : List UInt8} {w : World} (h : Told g 52 (Made12 g c) told w) : SumsAt g told w := by
  obtain ⟨rs, R, h1, h2, h3, rfl, _⟩ := h
  exact ⟨rs, h1, h2, h3⟩
set_option maxHeartbeats 1000000 in
theorem SWrite_any (g : Nat) (told : List UInt8) (s : ByteArray) (hbig : told.length + s.size ≤ 1000000000000000) (w : World) (h : SumsAt g told w) :
    Calls Try.prog 10 #[.pointer (some ⟨g, 0, none⟩), .string s] w fun e w' => e = .returned (.tuple #[]) ∧ SumsAt g (told ++ s.data.toList) w' ∧ Kept w.heap.size [g] w w' := by
  have hT := Lib.hid (told_of_sums h)
  have hlt := h.lt
  clear h
  go_enter Try.func10, Try.ntmps10
  go_wp2_with fail
  refine (add_any 31 #[] #[.pointer (some ⟨w.heap.size, 0, none⟩)] g 52 (Made12 g w.heap.size) [g] (takes12 g w.heap.size (by omega)) told s hbig _ hT.out).mono ?_
  rintro e w' ⟨rfl, hT', hk⟩
  go_wp2_with fail
  go_end0
  exact ⟨rfl, sums_of_told hT', ((Kept.refl _ _ _).alloc (Nat.le_refl _) _).trans (hk.mono (by simp) (fun _ _ h => h))⟩

/-- The cells of what is of type T behind a pointer. -/
def midOf (P : Program) (T : TypeId) (w : World) (v : Value) : List Value :=
  match v with
  | .pointer (some a) => (match w.heap[a.block]? with | some (.cells c _ _) => (c.toList.drop a.off).take (((P.info? T).map (·.size)).getD 0) | _ => [])
  | _ => []
def RowyAt (P : Program) (T : TypeId) (w : World) (v : Value) : Prop :=
  ∃ b o cs d, v = .pointer (some ⟨b, o, none⟩) ∧ w.rangeAt b o cs ∧ midOf P T w v = cs ∧ P.underlying T = some d ∧ d.isRow = true ∧ (P.info? T).map (·.size) = some cs.length
theorem run_load_part {P : Program} {T : TypeId} {w : World} {ρ : Operand → Value} {dst : Option Tmp} {x : Operand} {ty : TypeId} {pos : String} {after : Array Edge} {guard : Option (Nat × Bool)} (h : RowyAt P T w (ρ x)) :
    Sem.run P (execOp ρ { dst := dst, op := .load T x, type := ty, pos := pos, after := after, guard := guard }) w = .ok (.value (.agg (midOf P T w (ρ x)).toArray)) w := by
  obtain ⟨b, o, cs, d, hv, hb, hm, hu, hd, hi⟩ := h
  unfold execOp
  rw [hm]
  simp only [hv, Sem.run_bind, run_loadAt_mid w b o T cs d hb hu hd hi, Result.andThen_ok]
  rfl
theorem midOf_mk {P : Program} {T : TypeId} {w : World} {b o : Nat} {A B C : List Value} {t : TypeId} {fr : Nat × Nat} (h : w.heap[b]? = some (.cells (A ++ (B ++ C)).toArray t fr)) (hA : A.length = o) (hi : (P.info? T).map (·.size) = some B.length) :
    midOf P T w (.pointer (some ⟨b, o, none⟩)) = B := by
  simp only [midOf, h, hi, Option.getD_some]
  rw [show o = A.length from hA.symm, List.drop_left, List.take_left]
theorem range_part {w : World} {b o : Nat} {A B C : List Value} {t : TypeId} {fr : Nat × Nat} (h : w.heap[b]? = some (.cells (A ++ (B ++ C)).toArray t fr)) (hA : A.length = o) : w.rangeAt b o B := by
  intro j v hv
  have hj : j < B.length := by
    rcases Nat.lt_or_ge j B.length with h | h
    · exact h
    · rw [List.getElem?_eq_none h] at hv; cases hv
  rw [cell_of_list h, List.getElem?_append_right (by omega), List.getElem?_append_left (by omega), show o + j - A.length = j from by omega]; exact hv
theorem rowyAt_mk {P : Program} {T : TypeId} {w : World} {b o : Nat} {A B C : List Value} {t : TypeId} {fr : Nat × Nat} {d : TypeDesc} (h : w.heap[b]? = some (.cells (A ++ (B ++ C)).toArray t fr)) (hA : A.length = o) (hi : (P.info? T).map (·.size) = some B.length)
    (hu : P.underlying T = some d) (hd : d.isRow = true) : RowyAt P T w (.pointer (some ⟨b, o, none⟩)) :=
  ⟨b, o, B, d, rfl, range_part h hA, midOf_mk h hA hi, hu, hd, hi⟩
/-- What a region keeps that loads two parts of a block. -/
abbrev PartS (P : Program) (T T' : TypeId) (w0 : World) (b o o' : Nat) (cs cs' : List Value) (w : World) : Prop :=
  RowyAt P T w (.pointer (some ⟨b, o, none⟩)) ∧ midOf P T w (.pointer (some ⟨b, o, none⟩)) = cs ∧ RowyAt P T' w (.pointer (some ⟨b, o', none⟩)) ∧ midOf P T' w (.pointer (some ⟨b, o', none⟩)) = cs' ∧ Below w0.heap.size w0 w
theorem part_drew {P : Program} {T T' : TypeId} {w0 : World} {b o o' : Nat} {cs cs' : List Value} {w : World} (h : PartS P T T' w0 b o o' cs cs' w) : PartS P T T' w0 b o o' cs cs' w.drew :=
  ⟨h.1, h.2.1, h.2.2.1, h.2.2.2.1, h.2.2.2.2.drew⟩
theorem midOf_keep {P : Program} {T : TypeId} {w w' : World} {b o : Nat} (h : w'.heap[b]? = w.heap[b]?) : midOf P T w' (.pointer (some ⟨b, o, none⟩)) = midOf P T w (.pointer (some ⟨b, o, none⟩)) := by
  simp only [midOf, h]
theorem RowyAt.keep {P : Program} {T : TypeId} {w w' : World} {b o : Nat} (h : RowyAt P T w (.pointer (some ⟨b, o, none⟩))) (hk : w'.heap[b]? = w.heap[b]?) : RowyAt P T w' (.pointer (some ⟨b, o, none⟩)) := by
  obtain ⟨b2, o2, cs, d, hv, hr, hm, r⟩ := h
  simp only [Value.pointer.injEq, Option.some.injEq, Addr.mk.injEq, and_true] at hv
  obtain ⟨rfl, rfl⟩ := hv
  exact ⟨b, o, cs, d, rfl, fun j v hj => (World.cell?_of_block (w := w) (a := ⟨b, o + j, none⟩) hk).trans (hr j v hj), (midOf_keep hk).trans hm, r⟩
theorem part_step {P : Program} {T T' : TypeId} {w0 : World} {b o o' : Nat} {cs cs' : List Value} {w w' : World} (hg : Hid (b < w0.heap.size)) (h : PartS P T T' w0 b o o' cs cs' w) (hb : Below w.heap.size w w') : PartS P T T' w0 b o o' cs cs' w' := by
  obtain ⟨h1, h2, h3, h4, h5⟩ := h
  have hk := hb.block b (by have := h5.size; have := hg.out; omega)
  exact ⟨h1.keep hk, (midOf_keep hk).trans h2, h3.keep hk, (midOf_keep hk).trans h4, h5.trans (hb.mono h5.size)⟩
theorem sums_parts256 {g : Nat} {told rs : List UInt8} {w : World} (hrs : rs.length = 64) (hg : w.heap[g]? = some (.cells (tailCells told.length rs (both (told.take (told.length / 64 * 64)))).toArray 52 (0, 0))) :
    PartS Try.prog 42 50 w g 65 0 ((Dig.fold Dig.turn256 Dig.h256 (told.take (told.length / 64 * 64))).map u32v) (tailCells told.length rs []) w := by
  have e0 : tailCells told.length rs (both (told.take (told.length / 64 * 64))) = [] ++ (tailCells told.length rs [] ++ both (told.take (told.length / 64 * 64))) := by simp [tailCells]
  have e1 : tailCells told.length rs (both (told.take (told.length / 64 * 64))) = tailCells told.length rs [] ++ ((Dig.fold Dig.turn256 Dig.h256 (told.take (told.length / 64 * 64))).map u32v ++ (Dig.fold Dig.turn5 Dig.h5 (told.take (told.length / 64 * 64))).map u32v) := by simp [tailCells, both]
  have l0 : (tailCells told.length rs []).length = 65 := by simp [tailCells, hrs]
  have i0 : (Try.prog.info? 50).map (·.size) = some (tailCells told.length rs []).length := by rw [l0]; kernel_rfl
  have i1 : (Try.prog.info? 42).map (·.size) = some ((Dig.fold Dig.turn256 Dig.h256 (told.take (told.length / 64 * 64))).map u32v).length := by rw [List.length_map, Dig.length_fold256]; kernel_rfl
  have g0 := hg
  have g1 := hg
  rw [e0] at g0
  rw [e1] at g1
  exact ⟨rowyAt_mk g1 l0 i1 Try.underlying42 rfl, midOf_mk g1 l0 i1, rowyAt_mk g0 rfl i0 Try.underlying50 rfl, midOf_mk g0 rfl i0, Below.refl _ _⟩
theorem sums_parts5 {g : Nat} {told rs : List UInt8} {w : World} (hrs : rs.length = 64) (hg : w.heap[g]? = some (.cells (tailCells told.length rs (both (told.take (told.length / 64 * 64)))).toArray 52 (0, 0))) :
    PartS Try.prog 45 50 w g 73 0 ((Dig.fold Dig.turn5 Dig.h5 (told.take (told.length / 64 * 64))).map u32v) (tailCells told.length rs []) w := by
  have e0 : tailCells told.length rs (both (told.take (told.length / 64 * 64))) = [] ++ (tailCells told.length rs [] ++ both (told.take (told.length / 64 * 64))) := by simp [tailCells]
  have e1 : tailCells told.length rs (both (told.take (told.length / 64 * 64))) = (tailCells told.length rs [] ++ (Dig.fold Dig.turn256 Dig.h256 (told.take (told.length / 64 * 64))).map u32v) ++ ((Dig.fold Dig.turn5 Dig.h5 (told.take (told.length / 64 * 64))).map u32v ++ []) := by simp [tailCells, both]
  have l0 : (tailCells told.length rs []).length = 65 := by simp [tailCells, hrs]
  have l1 : (tailCells told.length rs [] ++ (Dig.fold Dig.turn256 Dig.h256 (told.take (told.length / 64 * 64))).map u32v).length = 73 := by rw [List.length_append, l0, List.length_map, Dig.length_fold256]
  have i0 : (Try.prog.info? 50).map (·.size) = some (tailCells told.length rs []).length := by rw [l0]; kernel_rfl
  have i1 : (Try.prog.info? 45).map (·.size) = some ((Dig.fold Dig.turn5 Dig.h5 (told.take (told.length / 64 * 64))).map u32v).length := by rw [List.length_map, Dig.length_fold5]; kernel_rfl
  have g0 := hg
  have g1 := hg
  rw [e0] at g0
  rw [e1] at g1
  exact ⟨rowyAt_mk g1 l1 i1 Try.underlying45 rfl, midOf_mk g1 l1 i1, rowyAt_mk g0 rfl i0 Try.underlying50 rfl, midOf_mk g0 rfl i0, Below.refl _ _⟩
theorem end5_q (told rs : List UInt8) (hbig : told.length ≤ 500000000000000) (hrs : rs.length = 64) (ht : rs.take (told.length % 64) = told.drop (told.length / 64 * 64)) (w : World) :
    Calls Try.prog 35 #[.agg ((Dig.fold Dig.turn5 Dig.h5 (told.take (told.length / 64 * 64))).map u32v).toArray, .agg (tailCells told.length rs []).toArray] w fun e w' =>
      ∃ q : ByteArray, e = .returned (.string q) ∧ Hid (q = ⟨(Dig.sum5 told).toArray⟩) ∧ q.size ≤ 32 ∧ Below w.heap.size w w' :=
  (end5_any told rs hbig hrs ht w).mono fun _ _ ⟨he, hb⟩ => ⟨_, he, rfl, by rw [size_mk, Dig.length_sum5]; omega, hb⟩
attribute [local go_sem ↓] run_load_part
set_option maxHeartbeats 1000000 in
theorem SSum256_any (g : Nat) (told : List UInt8) (hbig : told.length ≤ 500000000000000) (w : World) (h : SumsAt g told w) :
    Calls Try.prog 11 #[.pointer (some ⟨g, 0, none⟩)] w fun e w' => e = .returned (.string ⟨(Dig.sum256 told).toArray⟩) ∧ Below w.heap.size w w' := by
  have hlt := Lib.hid h.lt
  obtain ⟨rs, hrs, ht, hg⟩ := h
  have HP := Lib.hid (sums_parts256 hrs hg)
  obtain ⟨tc, htc⟩ : ∃ tc, tc = tailCells told.length rs [] := ⟨_, rfl⟩
  obtain ⟨W, hWd⟩ : ∃ W, W = Dig.fold Dig.turn256 Dig.h256 (told.take (told.length / 64 * 64)) := ⟨_, rfl⟩
  rw [← htc, ← hWd] at HP
  have H2 := Lib.hid htc
  have H3 := Lib.hid hWd
  have HT := Lib.hid ht
  have HR := Lib.hid hrs
  clear htc hWd ht hrs hg
  go_enter Try.func11, Try.ntmps11
  go_wp2_with fail
  go_region_held3 (fun w' => PartS Try.prog 42 50 w g 65 0 (W.map u32v) tc w') (first | assumption | exact part_drew HP.out | exact part_drew (by assumption) | exact part_step hlt (by assumption) (by assumption)) (first | (go_at_call 34; rw [H3.out, H2.out]; refine (end256_q told rs hbig HR.out HT.out _).mono ?_; rintro e w7 ⟨q2, rfl, hq2, hz2, hb7⟩))
  go_wp2
  go_ret
  exact ⟨by rw [hq2.out]; rfl, (Below.drew (Below.refl _ _)).trans hb7⟩
set_option maxHeartbeats 1000000 in
theorem SSum5_any (g : Nat) (told : List UInt8) (hbig : told.length ≤ 500000000000000) (w : World) (h : SumsAt g told w) :
    Calls Try.prog 13 #[.pointer (some ⟨g, 0, none⟩)] w fun e w' => e = .returned (.string ⟨(Dig.sum5 told).toArray⟩) ∧ Below w.heap.size w w' := by
  have hlt := Lib.hid h.lt
  obtain ⟨rs, hrs, ht, hg⟩ := h
  have HP := Lib.hid (sums_parts5 hrs hg)
  obtain ⟨tc, htc⟩ : ∃ tc, tc = tailCells told.length rs [] := ⟨_, rfl⟩
  obtain ⟨W, hWd⟩ : ∃ W, W = Dig.fold Dig.turn5 Dig.h5 (told.take (told.length / 64 * 64)) := ⟨_, rfl⟩
  rw [← htc, ← hWd] at HP
  have H2 := Lib.hid htc
  have H3 := Lib.hid hWd
  have HT := Lib.hid ht
  have HR := Lib.hid hrs
  clear htc hWd ht hrs hg
  go_enter Try.func13, Try.ntmps13
  go_wp2_with fail
  go_region_held3 (fun w' => PartS Try.prog 45 50 w g 73 0 (W.map u32v) tc w') (first | assumption | exact part_drew HP.out | exact part_drew (by assumption) | exact part_step hlt (by assumption) (by assumption)) (first | (go_at_call 35; rw [H3.out, H2.out]; refine (end5_q told rs hbig HR.out HT.out _).mono ?_; rintro e w7 ⟨q2, rfl, hq2, hz2, hb7⟩))
  go_wp2
  go_ret
  exact ⟨by rw [hq2.out]; rfl, (Below.drew (Below.refl _ _)).trans hb7⟩
end Go.Proofs.Ytfdeggfhailinaa
