/- The walks of the whole sums: what takes the blocks in, the end, SHA-256 and MD5 of a text. -/
import Derived.Test.YtdimkgidaioolaaAdd
namespace Go.Proofs.Ytdimkgidaioolaa
open Go.RowKit

/-- A struct or an array by value, laid in a variable of its own. -/
theorem wpList_box {P : Program} {w : World} {ops : Array Oper} {rest : List Oper} {o : Oper} {a : Act} {Q : Exit → Act → World → Prop} (hgd : o.guard = none) (T : TypeId) (x : Operand) (ho : o.op = .box T x) (cs : List Value) (hx : a.eval x = .agg cs.toArray)
    (h : wpList P ops Q rest (a.put o.dst (.pointer (some ⟨w.heap.size, 0, none⟩))) (w.alloc (.cells cs.toArray T))) : wpList P ops Q (o :: rest) a w := by
  refine wpList_run hgd _ _ ?_ h
  unfold execOp
  simp only [ho, hx]
  rfl
/-- What the blocks of 'l' have made, in block gs. -/
def Made256 (gs : Nat) (l : List UInt8) (R : List Value) (w : World) : Prop := R = [] ∧ w.heap[gs]? = some (.cells ((Dig.fold Dig.turn256 Dig.h256 l).map u32v).toArray 104 (0, 0))
theorem map_get {S : List UInt32} {n i : Nat} (h : S.length = n) (hi : i < n) : (S.map u32v)[0 + i]? = some (u32v (S.getD i 0)) := by
  rw [Nat.zero_add]; exact getD_list h hi
theorem tail_get {n : Nat} {bs : List UInt8} {R : List Value} {i : Nat} (h : bs.length = 64) (hi : i < 64) : (tailCells n bs R)[1 + i]? = some (u8v (bs.getD i 0)) := by
  rw [Nat.add_comm, tailCells, List.getElem?_cons_succ, List.getElem?_append_left (by rw [List.length_map]; omega), List.getElem?_map, List.getD, List.getElem?_eq_getElem (by omega)]; rfl

theorem takes256 (g gs : Nat) (T : TypeId) (hne : gs ≠ g) : Takes 49 #[.pointer (some ⟨gs, 0, none⟩)] #[] g T (Made256 gs) [g, gs] where
  enters := fun args w => by kernel_rfl
  mem := by simp
  stays := fun l R w w' h hk => ⟨h.1, (hk gs hne).trans h.2⟩
  call := by
    rintro n l bs R w hl hb hg ⟨rfl, hs⟩
    have hlen := Dig.length_fold256 l
    refine (turn256_any gs 0 g 1 (Dig.fold Dig.turn256 Dig.h256 l) bs ((Dig.fold Dig.turn256 Dig.h256 l).map u32v) (tailCells n bs []) 104 T (0, 0) w hs hlen (fun i hi => map_get hlen hi) hg (fun i hi => tail_get hb hi)).mono ?_
    rintro e w' ⟨he, hs', hk⟩
    refine ⟨he, ⟨[], (hk.block g (lt_of_heap hg) (by simp; omega)).trans hg, rfl, ?_⟩, hk.mono (Nat.le_refl _) (fun k _ h => by simp at h; simp [h])⟩
    rw [hs', laid_whole _ _ (by simp [hlen, Dig.length_turn256 _ bs hlen]), Dig.fold_snoc _ _ _ _ hl hb]
theorem tail_ones (n : Nat) (rs : List UInt8) : ∀ v ∈ tailCells n rs [], v.oneCell' = true := by
  intro v hv
  simp only [tailCells, List.append_nil, List.mem_cons, List.mem_map] at hv
  rcases hv with rfl | ⟨x, _, rfl⟩ <;> rfl

theorem told_below {g B : Nat} {T : TypeId} {I : List UInt8 → List Value → World → Prop} {l : List UInt8} {w w' : World} (h : Told g T I l w) (hb : Below B w w') (hg : g < B) (hI : ∀ l R, I l R w → I l R w') : Told g T I l w' := by
  obtain ⟨rs, R, h1, h2, h3, h4⟩ := h
  exact ⟨rs, R, h1, h2, (hb.block g hg).trans h3, hI _ _ h4⟩
set_option maxHeartbeats 1000000 in
theorem end256_any (told rs : List UInt8) (hbig : told.length ≤ 500000000000000) (hrs : rs.length = 64) (ht : rs.take (told.length % 64) = told.drop (told.length / 64 * 64)) (w : World) :
    Calls Try.prog 50 #[.agg ((Dig.fold Dig.turn256 Dig.h256 (told.take (told.length / 64 * 64))).map u32v).toArray, .agg (tailCells told.length rs []).toArray] w fun e w' =>
      e = .returned (.string ⟨(Dig.sum256 told).toArray⟩) ∧ Below w.heap.size w w' := by
  obtain ⟨S, hS⟩ : ∃ S, S = (Dig.fold Dig.turn256 Dig.h256 (told.take (told.length / 64 * 64))).map u32v := ⟨_, rfl⟩
  obtain ⟨tc, htc⟩ : ∃ tc, tc = tailCells told.length rs [] := ⟨_, rfl⟩
  rw [← hS, ← htc]
  obtain ⟨w1, hw1⟩ : ∃ w1, w1 = (w.alloc (.cells S.toArray 104)).alloc (.cells tc.toArray 103) := ⟨_, rfl⟩
  have g1 : w1.heap[w.heap.size + 1]? = some (.cells tc.toArray 103 (0, 0)) := by rw [hw1]; exact heap_alloc2_new _ _ _
  have g0 : w1.heap[w.heap.size]? = some (.cells S.toArray 104 (0, 0)) := by rw [hw1]; exact heap_alloc2_old _ _ _
  have hb1 : Below w.heap.size w w1 := by rw [hw1]; exact ((Below.refl _ _).alloc (Nat.le_refl _) _).alloc (by simp) _
  have c0 : w1.cell? ⟨w.heap.size + 1, 0, none⟩ = some (.int .i64 told.length) := by rw [cell_of_list g1, htc]; rfl
  have hs1 : w.heap.size + 1 < w1.heap.size := lt_of_heap g1
  have hT : Told (w.heap.size + 1) 103 (Made256 w.heap.size) told w1 := ⟨rs, [], hrs, ht, by rw [← htc]; exact g1, rfl, by rw [← hS]; exact g0⟩
  have HT := Lib.hid hT
  have HW := Lib.hid hw1
  have HB := Lib.hid hb1
  clear hT hw1 hb1 g0 g1 hS htc hrs ht
  obtain ⟨n, hn⟩ : ∃ n, n = told.length := ⟨_, rfl⟩
  have HN := Lib.hid hn
  rw [← hn] at c0 hbig
  clear hn
  go_enter Try.func50, Try.ntmps50
  go_wp2_with (first | (go_at_call 57; refine (closing_any n false (by omega) _).mono ?_; rintro e w2 ⟨rfl, hb2⟩) | (refine wpList_box rfl 104 _ rfl S rfl ?_; go_frame; (try simp only [World.size_alloc])) | (refine wpList_box rfl 103 _ rfl tc rfl ?_; go_frame; (try simp only [World.size_alloc]); rw [← HW.out]) | fail)
  have hT2 : Told (w.heap.size + 1) 103 (Made256 w.heap.size) told w2 := told_below HT.out hb2 (by omega) (fun l R h => ⟨h.1, (hb2.block _ (by omega)).trans h.2⟩)
  have hcl : (ByteArray.mk (Dig.closing false n).toArray).size ≤ 72 := by have := Dig.length_closing false n; simpa [ByteArray.size] using this
  refine (add_any 49 _ _ _ _ _ _ (takes256 (w.heap.size + 1) w.heap.size 103 (by omega)) told ⟨(Dig.closing false n).toArray⟩ (by rw [← HN.out]; omega) _ hT2).mono ?_
  rintro e w3 ⟨rfl, hT3, hk3⟩
  obtain ⟨rs3, R3, hrs3, ht3, hg3, hR3, hs3⟩ := hT3
  have hpad : told ++ (Dig.closing false n) = Dig.padded false told := by rw [Dig.padded_eq, HN.out]
  simp only [hpad] at hs3
  have hl3 := Dig.length_padded false told
  rw [List.take_of_length_le (by omega)] at hs3
  have hz1 := HB.out.size
  have hz2 := hb2.size
  have hz3 := hk3.size
  have hb3 : Below w.heap.size w w3 := HB.out.trans ((hb2.mono hz1).trans ((hk3.mono (B := w.heap.size) (ws := [w.heap.size + 1, w.heap.size]) (by omega) (fun _ _ h => h)).below (by simp)))
  have hlen := Dig.length_fold256 (Dig.padded false told)
  obtain ⟨W, hWd⟩ : ∃ W, W = Dig.fold Dig.turn256 Dig.h256 (Dig.padded false told) := ⟨_, rfl⟩
  rw [← hWd] at hs3 hlen
  have HS := Lib.hid hs3
  have HL := Lib.hid hlen
  have HD := Lib.hid hWd
  have H3 := Lib.hid hb3
  clear hs3 hlen hWd hb3 hz1 hz2 hz3 hk3 hpad hR3 ht3 hrs3 hT2 hg3 hb2 hl3
  go_wp2_with (go_at_call 58; refine (textOf_any w.heap.size 0 8 8 false W (W.map u32v) 104 (0, 0) _ HS.out HL.out (by omega) (by omega) (fun i hi => map_get HL.out hi)).mono ?_; rintro e w4 ⟨rfl, hb4⟩)
  go_ret
  refine ⟨?_, H3.out.trans (hb4.mono H3.out.size)⟩
  rw [Dig.sum256_eq, ← HD.out]; rfl
end Go.Proofs.Ytdimkgidaioolaa
