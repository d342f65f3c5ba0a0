/- Several texts in one, in the order in which they build: JCalls JView JApi. -/
import Derived.Test.YtbljhodnpddpiaaGreatDoorQ10
/- The walks of reach, Append, Reset, Format, Open and what a journal tells. -/
namespace Go.Proofs.YtbljhodnpddpiaaGreatDoor
open Go.RowKit

def jCells (d from_ m a e n u : Nat) (c : Bool) : List Value := [.pointer (some ⟨d, 0, none⟩), .int .i64 from_, .int .i64 m, .int .i64 a, .int .i64 e, .int .i64 n, .int .i64 u, .bool c]
/-- A journal at block j. -/
def JAt (j d from_ m a e n u : Nat) (c : Bool) (w : World) : Prop := w.heap[j]? = some (.cells (jCells d from_ m a e n u c).toArray 81 (0, 0))
section
variable {j d from_ m a e n u : Nat} {c : Bool} {w : World}
theorem JAt.lt (h : JAt j d from_ m a e n u c w) : j < w.heap.size := lt_of_heap h
theorem JAt.keep {w' : World} (h : JAt j d from_ m a e n u c w) (hk : w'.heap[j]? = w.heap[j]?) : JAt j d from_ m a e n u c w' := hk.trans h
theorem JAt.cells (h : JAt j d from_ m a e n u c w) : w.cell? ⟨j, 0, none⟩ = some (.pointer (some ⟨d, 0, none⟩)) ∧ w.cell? ⟨j, 1, none⟩ = some (.int .i64 from_) ∧ w.cell? ⟨j, 2, none⟩ = some (.int .i64 m) ∧
    w.cell? ⟨j, 3, none⟩ = some (.int .i64 a) ∧ w.cell? ⟨j, 4, none⟩ = some (.int .i64 e) ∧ w.cell? ⟨j, 5, none⟩ = some (.int .i64 n) ∧ w.cell? ⟨j, 6, none⟩ = some (.int .i64 u) ∧ w.cell? ⟨j, 7, none⟩ = some (.bool c) := by
  refine ⟨?_, ?_, ?_, ?_, ?_, ?_, ?_, ?_⟩ <;> (rw [cell_of_list h]; rfl)
end
theorem Left_is (j d from_ m a e n u : Nat) (c : Bool) (hu : u ≤ m) (hm : m ≤ 8192) (w : World) (h : JAt j d from_ m a e n u c w) :
    Calls Tryz.prog 13 #[.pointer (some ⟨j, 0, none⟩)] w fun r w' => r = .returned (.int .i64 (m - u : Nat)) ∧ Below w.heap.size w w' := by
  obtain ⟨c0, c1, c2, c3, c4, c5, c6, c7⟩ := h.cells
  clear h
  go_enter Tryz.func13, Tryz.ntmps13
  go_wp2_with fail
  go_quiet (fail)
  go_wp2_with fail
  go_ret
  exact ⟨by rw [show ((m - u : Nat) : Int) = (m : Int) - (u : Int) from by omega]; rfl, below_drewN (Below.refl _ _) _⟩
theorem Half_is (j d from_ m a e n u : Nat) (c : Bool) (hm1 : 1 ≤ m) (hm : m ≤ 8192) (w : World) (h : JAt j d from_ m a e n u c w) :
    Calls Tryz.prog 15 #[.pointer (some ⟨j, 0, none⟩)] w fun r w' => r = .returned (.int .i64 (m - 1 : Nat)) ∧ w = w' := by
  obtain ⟨c0, c1, c2, c3, c4, c5, c6, c7⟩ := h.cells
  clear h
  go_enter Tryz.func15, Tryz.ntmps15
  go_wp2
  go_ret
  exact ⟨by rw [show ((m - 1 : Nat) : Int) = (m : Int) - 1 from by omega]; rfl, rfl⟩
theorem Epoch_is (j d from_ m a e n u : Nat) (c : Bool) (w : World) (h : JAt j d from_ m a e n u c w) :
    Calls Tryz.prog 16 #[.pointer (some ⟨j, 0, none⟩)] w fun r w' => r = .returned (.int .i64 e) ∧ w = w' := by
  obtain ⟨c0, c1, c2, c3, c4, c5, c6, c7⟩ := h.cells
  clear h
  go_enter Tryz.func16, Tryz.ntmps16
  go_wp2
  go_ret
  exact ⟨rfl, rfl⟩
theorem Len_is (j d from_ m a e n u : Nat) (c : Bool) (hn1 : 1 ≤ n) (hn : n ≤ 100000) (w : World) (h : JAt j d from_ m a e n u c w) :
    Calls Tryz.prog 17 #[.pointer (some ⟨j, 0, none⟩)] w fun r w' => r = .returned (.int .i64 (n - 1 : Nat)) ∧ w = w' := by
  obtain ⟨c0, c1, c2, c3, c4, c5, c6, c7⟩ := h.cells
  clear h
  go_enter Tryz.func17, Tryz.ntmps17
  go_wp2
  go_ret
  exact ⟨by rw [show ((n - 1 : Nat) : Int) = (n : Int) - 1 from by omega]; rfl, rfl⟩
/-- A row of sectors, asked for. -/
theorem rowOf_ok (d p n : Nat) (F : List Nat) (st : St) (from_ m : Nat) (hm : 2 ≤ m) (hn : from_ + 2 * m ≤ n) (hn2 : n ≤ 8192) (w : World) (h : Live d p F n st.S st.ps 0 w) :
    Calls Tryz.prog 32 #[.pointer (some ⟨d, 0, none⟩), .int .i64 from_, .int .i64 (2 * m : Nat)] w fun r w' => r = .returned (.tuple #[rowV d from_ m, .nilIface]) ∧ Below w.heap.size w w' := by
  obtain ⟨s, hs⟩ : ∃ s, s = 2 * m := ⟨_, rfl⟩
  have q2 : (s : Int).tmod 2 = 0 := by rw [Int.tmod_eq_emod_of_nonneg (by omega)]; omega
  have q2' : (s : Int) % 2 = 0 := by omega
  have d2 : (s : Int).tdiv 2 = (m : Int) := by rw [Int.tdiv_eq_ediv_of_nonneg (by omega)]; omega
  have d2' : (s : Int) / 2 = (m : Int) := by omega
  have hs4 : 4 ≤ s := by omega
  have hsn : from_ + s ≤ n := by omega
  have CS := Lib.hid (fun (v : World) (hb : Below w.heap.size w v) => Sectors_any d p F n st.S st.ps 0 v (h.below hb))
  rw [← hs]
  clear h hs
  go_enter Tryz.func32, Tryz.ntmps32
  go_wp2_with (go_at_call 55; refine (CS.out _ ((Below.refl _ _).alloc (Nat.le_refl _) _)).mono ?_; rintro e w' ⟨rfl, rfl⟩)
  refine bodyPost_ret (results_mid2 Tryz.results32 _ _ w.heap.size 0 [Value.pointer (some ⟨d, 0, none⟩), .int .i64 from_, .int .i64 m] _ rfl (range_of_list (heap_alloc_new _ _)) Tryz.underlying75 rfl (by kernel_rfl)) rfl ⟨rfl, (Below.refl _ _).alloc (Nat.le_refl _) _⟩
theorem lay_ok (d p n : Nat) (F : List Nat) (st : St) (from_ m half at_ : Nat) (first : List UInt8) (rest : List (List UInt8)) (hfirst : first.length = 64) (hrest : Wide rest) (hm : from_ + 2 * m ≤ n) (hn : n ≤ 8192) (hh : half ≤ 1) (hat : at_ + 1 + rest.length ≤ m)
    (more : List (List UInt8)) (hmore : more = if at_ + 1 + rest.length < m then [z64] else []) (a : Nat) (hae : a = from_ + half * m + at_) (w : World) (h : Dsk d p n F st true w) (hf : st.Fit (rest.length + 6)) (mk : Bool) (hmk : mk = Lib.hasPrefix (Dk.readAt st.S st.ps a) [1]) (X : St × Bool) (hX : X = doAll (st, true) (layActs a mk first (rest ++ more))) (hX2 : X.2 = true) :
    Calls Tryz.prog 69 #[rowV d from_ m, .int .i64 half, .int .i64 at_, .string (bs (first ++ rest.flatten))] w fun e w' => e = .returned .nilIface ∧ ∃ F', Dsk d p n F' X.1 true w' ∧ Mv [p] F F' w w' := by
  refine (lay_any d p n F st from_ m half at_ first rest hfirst hrest hm hn hh hat more hmore a hae w h hf mk hmk X hX (Or.inl hX2)).mono ?_
  rintro e w' ⟨F', h1, h2, ⟨_, rfl⟩ | ⟨h3, _⟩⟩
  · exact ⟨rfl, F', by rw [← hX2]; exact h1, h2⟩
  · rw [hX2] at h3; cases h3
theorem reached {d p n : Nat} {F F2 : List Nat} {st : St} {j b from_ m a0 e0 n0 u0 : Nat} {w w1 w2 : World} (hU : Below w.heap.size w w1) (hb : b = w.heap.size) (hjl : j < w.heap.size) (hD : Dsk d p n F2 st true w2) (hJ : JAt j d from_ m a0 e0 n0 u0 false w2)
    (hM : Mv [p] F F2 w1.drew w2) (hjF : j ∉ F) (hjp : j ≠ p) (hbF : b ∉ F) (hbp : b ≠ p) (x y : Value) (a e nn u : Nat) (hbl : b < w1.heap.size) :
    Dsk d p n F2 st true ((((((w2.setCell ⟨b, 2, none⟩ x).setCell ⟨b, 3, none⟩ y).setCell ⟨j, 3, none⟩ (.int .i64 a)).setCell ⟨j, 4, none⟩ (.int .i64 e)).setCell ⟨j, 5, none⟩ (.int .i64 nn)).setCell ⟨j, 6, none⟩ (.int .i64 u)) ∧
    JAt j d from_ m a e nn u false ((((((w2.setCell ⟨b, 2, none⟩ x).setCell ⟨b, 3, none⟩ y).setCell ⟨j, 3, none⟩ (.int .i64 a)).setCell ⟨j, 4, none⟩ (.int .i64 e)).setCell ⟨j, 5, none⟩ (.int .i64 nn)).setCell ⟨j, 6, none⟩ (.int .i64 u)) ∧
    Mv [p, j] F F2 w ((((((w2.setCell ⟨b, 2, none⟩ x).setCell ⟨b, 3, none⟩ y).setCell ⟨j, 3, none⟩ (.int .i64 a)).setCell ⟨j, 4, none⟩ (.int .i64 e)).setCell ⟨j, 5, none⟩ (.int .i64 nn)).setCell ⟨j, 6, none⟩ (.int .i64 u)) := by
  obtain ⟨w3, hw3⟩ : ∃ z, z = (w2.setCell ⟨b, 2, none⟩ x).setCell ⟨b, 3, none⟩ y := ⟨_, rfl⟩
  have k3 : Kept w2.heap.size [b] w2 w3 := by rw [hw3]; exact ((Kept.refl _ _ _).setCell (p := ⟨b, 2, none⟩) (by simp) _).setCell (p := ⟨b, 3, none⟩) (by simp) _
  have hj3 : JAt j d from_ m a0 e0 n0 u0 false w3 := hJ.keep (k3.block j hJ.lt (by simp; omega))
  rw [← hw3]
  obtain ⟨w4, hw4⟩ : ∃ z, z = (((w3.setCell ⟨j, 3, none⟩ (.int .i64 a)).setCell ⟨j, 4, none⟩ (.int .i64 e)).setCell ⟨j, 5, none⟩ (.int .i64 nn)).setCell ⟨j, 6, none⟩ (.int .i64 u) := ⟨_, rfl⟩
  have k4 : Kept w3.heap.size [j] w3 w4 := by rw [hw4]; exact ((((Kept.refl _ _ _).setCell (p := ⟨j, 3, none⟩) (by simp) _).setCell (p := ⟨j, 4, none⟩) (by simp) _).setCell (p := ⟨j, 5, none⟩) (by simp) _).setCell (p := ⟨j, 6, none⟩) (by simp) _
  have hj4 : JAt j d from_ m a e nn u false w4 := by rw [hw4]; exact set_list (set_list (set_list (set_list hj3 3 _) 4 _) 5 _) 6 _
  rw [← hw4]
  have k : Kept w2.heap.size [b, j] w2 w4 := kept_two k3 k4 k3.size (fun x hx => by simp at hx; simp [hx]) (fun x hx => by simp at hx; simp [hx])
  have hz1 : w1.drew.heap.size = w1.heap.size := rfl
  have hzU := hU.size
  have hF2 : ∀ x ∈ F2, x ≠ b ∧ x ≠ j := fun x hx => by
    rcases hM.foot x hx with h1 | h1
    · exact ⟨fun e => hbF (e ▸ h1), fun e => hjF (e ▸ h1)⟩
    · rw [hz1] at h1; exact ⟨by omega, by omega⟩
  refine ⟨hD.keep k (by simp; exact ⟨Ne.symm hbp, Ne.symm hjp⟩) (fun x hx hm => by have := hF2 x hx; simp at hm; omega), hj4, ⟨?_, fun x hx => ?_⟩⟩
  · refine (Kept.of_below (hU.drew)).trans ((hM.kept.mono (by rw [hz1]; exact hzU) (fun x _ hm => ?_)).trans (k.mono (Nat.le_trans hzU (by have := hM.size; rw [hz1] at this; exact this)) (fun x hx hm => ?_)))
    · rcases List.mem_append.1 hm with h1 | h1
      · simp at h1; simp [h1]
      · simp [h1]
    · simp at hm
      rcases hm with h1 | h1
      · omega
      · simp [h1]
  · rcases hM.foot x hx with h1 | h1
    · exact Or.inl h1
    · rw [hz1] at h1; exact Or.inr (by omega)
set_option maxRecDepth 100000 in
set_option maxHeartbeats 2000000 in
theorem reach_ok (d p n : Nat) (F : List Nat) (st : St) (from_ m act ep num used : Nat) (j a0 e0 n0 u0 : Nat) (v : Value) (l : List (List UInt8)) (first : List UInt8) (rest : List (List UInt8)) (hfirst : first.length = 64) (hrest : Wide rest) (hpk : first ++ rest.flatten = packs ep num l)
    (hm : from_ + 2 * m ≤ n) (hn : n ≤ 8192) (hh : act ≤ 1) (hat : used + 1 + rest.length ≤ m) (hep : ep ≤ 4611686018427387904) (hnum : num + l.length ≤ 100000) (hl : ∀ q ∈ l, q.length ≤ 60000)
    (more : List (List UInt8)) (hmore : more = if used + 1 + rest.length < m then [z64] else []) (a : Nat) (hae : a = from_ + act * m + used) (w : World) (h : Dsk d p n F st true w) (hf : st.Fit (rest.length + 6)) (mk : Bool) (hmk : mk = Lib.hasPrefix (Dk.readAt st.S st.ps a) [1]) (X : St × Bool) (hX : X = doAll (st, true) (layActs a mk first (rest ++ more))) (hX2 : X.2 = true)
    (hj : JAt j d from_ m a0 e0 n0 u0 false w) (hjF : j ∉ F) (hjp : j ≠ p) (hT : Texts v l w) :
    Calls Tryz.prog 48 #[.pointer (some ⟨j, 0, none⟩), .agg (stV act ep num used).toArray, v] w fun e w' => e = .returned .nilIface ∧ ∃ F', Dsk d p n F' X.1 true w' ∧ JAt j d from_ m act ep (num + l.length) (used + 1 + rest.length) false w' ∧ Mv [p, j] F F' w w' := by
  have hsec : 64 * secsAll l = 64 * (1 + rest.length) := by
    have := congrArg List.length hpk
    rw [length_packs, List.length_append, hfirst, hrest.flat] at this
    omega
  obtain ⟨vb, vc, rfl⟩ := hT.slice
  obtain ⟨T, hTe⟩ : ∃ T, T = bs (packs ep num l) := ⟨_, rfl⟩
  have hTs : T.size = 64 * (1 + rest.length) := by rw [hTe, bs_size, length_packs, hsec]
  have q64 : (T.size : Int) / 64 = 1 + (rest.length : Int) := by omega
  have hjl := hj.lt
  have HJ := Lib.hid hj
  have HT := Lib.hid hT
  have HD := Lib.hid h
  have HTE := Lib.hid hTe
  have CPK := Lib.hid (fun (v : World) (hb : Below w.heap.size w v) => packed_is ep num (.slice vb l.length vc) l hep (by omega) hl (by omega) v (hT.below (Nat.le_refl _) hb))
  rw [← hTe] at CPK
  have CL := Lib.hid (fun (v : World) (hv : Dsk d p n F st true v) => lay_ok d p n F st from_ m act used first rest hfirst hrest hm hn hh hat more hmore a hae v hv hf mk hmk X hX hX2)
  rw [hpk, ← hTe] at CL
  unfold rowV at CL
  clear hj hT h hTe hpk hfirst hrest hl hmore hae hf hmk hX hX2
  unfold stV
  go_enter Tryz.func48, Tryz.ntmps48
  go_wp2_with (first | (go_at_call 68; refine (CPK.out _ ((Below.refl _ _).alloc (Nat.le_refl _) _)).mono ?_; rintro e w1 ⟨rfl, hb1⟩; have HB1 := Lib.hid hb1; clear hb1) | fail)
  obtain ⟨b, hb⟩ : ∃ b, b = w.heap.size := ⟨_, rfl⟩
  rw [← hb]
  have hs0 : (w.alloc (.cells (stV act ep num used).toArray 79)).heap[b]? = some (.cells (stV act ep num used).toArray 79 (0, 0)) := by rw [hb]; exact heap_alloc_new _ _
  have HS1 := Lib.hid ((HB1.out.block b (by rw [hb]; simp)).trans hs0)
  have hU1 : Below w.heap.size w w1 := ((Below.refl _ _).alloc (Nat.le_refl _) _).trans (HB1.out.mono (by simp))
  have HU1 := Lib.hid hU1
  have HJ1 := Lib.hid (HJ.out.keep (hU1.block j hjl))
  have HD1 := Lib.hid ((HD.out.below hU1).below (Below.refl _ _).drew)
  have hFl := HD.out.Flt
  have hpl := HD.out.pow.lt
  have hbF : b ∉ F := fun hm => by have := hFl b hm; omega
  have hbp : b ≠ p := by omega
  have hjb : j ≠ b := by omega
  obtain ⟨c0, c1, c2, c3, c4, c5, c6, c7⟩ := HJ1.out.cells
  have S1 : (w1.drew.cell? ⟨j, 0, none⟩ = some (.pointer (some ⟨d, 0, none⟩)) ∧ w1.drew.cell? ⟨j, 1, none⟩ = some (.int .i64 from_) ∧ w1.drew.cell? ⟨j, 2, none⟩ = some (.int .i64 m)) ∧ w1.drew.cell? ⟨b, 0, none⟩ = some (.int .i64 act) ∧ w1.drew.cell? ⟨b, 3, none⟩ = some (.int .i64 used) :=
    ⟨⟨c0, c1, c2⟩, (by show w1.cell? _ = _; rw [cell_of_list HS1.out]; rfl), (by show w1.cell? _ = _; rw [cell_of_list HS1.out]; rfl)⟩
  have HBE := Lib.hid hb
  have HBL := Lib.hid (show w.heap.size < w1.heap.size by have := lt_of_heap HS1.out; omega)
  clear HB1 hs0 hU1 c0 c1 c2 c3 c4 c5 c6 c7 hFl hpl hb
  go_region_held_law (fun v => (v.cell? ⟨j, 0, none⟩ = some (.pointer (some ⟨d, 0, none⟩)) ∧ v.cell? ⟨j, 1, none⟩ = some (.int .i64 from_) ∧ v.cell? ⟨j, 2, none⟩ = some (.int .i64 m)) ∧ v.cell? ⟨b, 0, none⟩ = some (.int .i64 act) ∧ v.cell? ⟨b, 3, none⟩ = some (.int .i64 used)) (first | exact S1 | exact S2) (first | (go_simp; go_at_call 69; (with_reducible refine (CL.out _ HD1.out).mono ?_); rintro e w2 ⟨rfl, F2, hD2, hM2⟩; have HJ2 := Lib.hid (HJ1.out.keep (hM2.block (show j < w1.drew.heap.size from HJ1.out.lt) (by simpa using hjp) hjF)); have HS2 := Lib.hid ((hM2.block (show b < w1.drew.heap.size from lt_of_heap HS1.out) (by simpa using hbp) hbF).trans (show w1.drew.heap[b]? = _ from HS1.out)); have HD2 := Lib.hid hD2; have HM2 := Lib.hid hM2; clear hD2 hM2; have S2 := (show (w2.cell? ⟨j, 0, none⟩ = some (.pointer (some ⟨d, 0, none⟩)) ∧ w2.cell? ⟨j, 1, none⟩ = some (.int .i64 from_) ∧ w2.cell? ⟨j, 2, none⟩ = some (.int .i64 m)) ∧ w2.cell? ⟨b, 0, none⟩ = some (.int .i64 act) ∧ w2.cell? ⟨b, 3, none⟩ = some (.int .i64 used) from ⟨⟨HJ2.out.cells.1, HJ2.out.cells.2.1, HJ2.out.cells.2.2.1⟩, (by rw [cell_of_list HS2.out]; rfl), (by rw [cell_of_list HS2.out]; rfl)⟩)) | fail)
  all_goals
    obtain ⟨c0, c1, c2, c3, c4, c5, c6, c7⟩ := HJ2.out.cells
    have fj := free_of_list HJ2.out
    have fb := free_of_list HS2.out
    have s0 : w2.cell? ⟨b, 0, none⟩ = some (.int .i64 act) := by rw [cell_of_list HS2.out]; rfl
    have s1 : w2.cell? ⟨b, 1, none⟩ = some (.int .i64 ep) := by rw [cell_of_list HS2.out]; rfl
    have s2 : w2.cell? ⟨b, 2, none⟩ = some (.int .i64 num) := by rw [cell_of_list HS2.out]; rfl
    have s3 : w2.cell? ⟨b, 3, none⟩ = some (.int .i64 used) := by rw [cell_of_list HS2.out]; rfl
    clear S1 S2
    go_wp2_with fail
    go_ret
    refine ⟨rfl, F2, ?_⟩
    rw [show (num : Int) + (l.length : Int) = ((num + l.length : Nat) : Int) from by omega, show (used : Int) + (1 + (rest.length : Int)) = ((used + 1 + rest.length : Nat) : Int) from by omega]
    exact reached HU1.out HBE.out hjl HD2.out HJ2.out HM2.out hjF hjp hbF hbp _ _ act ep (num + l.length) (used + 1 + rest.length) (by rw [HBE.out]; exact HBL.out)
end Go.Proofs.YtbljhodnpddpiaaGreatDoor

/- What a disk reads as behind acts; what stands on a journal's sectors, plainly. -/
namespace Go.Proofs.YtbljhodnpddpiaaGreatDoor
open Go.RowKit

structure StOk (st : St) (n : Nat) : Prop where
  len : st.S.length = n
  wide : ∀ s ∈ st.S, s.length = 64
  wrs : ∀ x ∈ st.ps, x.1 < n ∧ x.2.length = 64
def St.view (st : St) (x : Nat) : List UInt8 := Dk.readAt st.S st.ps x
def Do.Good (n : Nat) : Do → Prop
  | .put a s => a < n ∧ s.length = 64
  | .flush => True
def upd (W : Nat → List UInt8) : Do → Nat → List UInt8
  | .put a s, x => if x = a then s else W x
  | .flush, x => W x
def updAll (W : Nat → List UInt8) (os : List Do) : Nat → List UInt8 := os.foldl upd W
theorem StOk.did {st : St} {n : Nat} (h : StOk st n) {o : Do} (ho : o.Good n) : StOk (st.did o) n := by
  cases o with
  | put a s =>
    refine ⟨h.len, h.wide, fun x hx => ?_⟩
    rcases List.mem_append.1 hx with h1 | h1
    · exact h.wrs x h1
    · simp at h1; subst h1; exact ho
  | flush =>
    have hw : ∀ x ∈ st.ps, x.1 < st.S.length ∧ x.2.length = 64 := fun x hx => by rw [h.len]; exact h.wrs x hx
    exact ⟨(Dk.length_settleTo _ _ _ _).trans h.len, Dk.settleTo_wide _ h.wide hw _ (Nat.le_refl _), fun x hx => by cases hx⟩
theorem view_did {st : St} {n : Nat} (h : StOk st n) {o : Do} (ho : o.Good n) : (st.did o).view = upd st.view o := by
  funext x
  cases o with
  | put a s => exact Dk.readAt_snoc st.S st.ps (a, s) x (by rw [h.len]; exact ho.1)
  | flush =>
    have hw : ∀ x ∈ st.ps, x.1 < st.S.length ∧ x.2.length = 64 := fun x hx => by rw [h.len]; exact h.wrs x hx
    have := Dk.flushed_at st.S st.ps h.wide hw st.ps.length (Nat.le_refl _) x
    rw [List.take_length] at this
    show Dk.readAt _ [] x = Dk.readAt st.S st.ps x
    rw [Dk.readAt_nil]
    exact this
theorem view_all {n : Nat} (os : List Do) : ∀ {st : St} (_ : StOk st n) (_ : ∀ o ∈ os, o.Good n) (_ : st.fuse = -1), StOk (doAll (st, true) os).1 n ∧ (doAll (st, true) os).1.view = updAll st.view os := by
  induction os with
  | nil => intro st h _ _; exact ⟨h, rfl⟩
  | cons o os ih =>
    intro st h ho hf
    obtain ⟨h1, h2⟩ := does_free hf o
    have hg := ho o (List.mem_cons_self ..)
    rw [doAll_cons, h1]
    obtain ⟨h3, h4⟩ := ih (h.did hg) (fun o ho' => ho o (List.mem_cons_of_mem _ ho')) h2
    refine ⟨h3, ?_⟩
    rw [h4, view_did h hg]; rfl
theorem updAll_append (W : Nat → List UInt8) (a b : List Do) : updAll W (a ++ b) = updAll (updAll W a) b := List.foldl_append
theorem updAll_puts (W : Nat → List UInt8) (a : Nat) (ss : List (List UInt8)) (x : Nat) : updAll W (puts a ss) x = if a ≤ x ∧ x < a + ss.length then ss.getD (x - a) [] else W x := by
  induction ss generalizing a W with
  | nil => rw [if_neg (by rw [List.length_nil]; omega)]; rfl
  | cons s ss ih =>
    show updAll (upd W (.put a s)) (puts (a + 1) ss) x = _
    rw [ih, List.length_cons]
    by_cases h1 : a + 1 ≤ x ∧ x < a + 1 + ss.length
    · rw [if_pos h1, if_pos (by omega), show x - a = (x - (a + 1)) + 1 by omega, List.getD_cons_succ]
    · rw [if_neg h1]
      by_cases h2 : x = a
      · subst h2
        rw [if_pos (by omega), Nat.sub_self]
        show (if x = x then s else W x) = _
        rw [if_pos rfl, List.getD_cons_zero]
      · rw [if_neg (by omega)]
        show (if x = a then s else W x) = _
        rw [if_neg h2]
theorem lay_view (W : Nat → List UInt8) (a : Nat) (mk : Bool) (first : List UInt8) (rs : List (List UInt8)) (x : Nat) :
    updAll W (layActs a mk first rs) x = if x = a then first else if a + 1 ≤ x ∧ x < a + 1 + rs.length then rs.getD (x - (a + 1)) [] else W x := by
  have e : updAll W (layActs a mk first rs) x = (if x = a then first else updAll (updAll W (puts a [0 :: first.drop 1])) (puts (a + 1) rs) x) := by
    unfold layActs
    rw [updAll_append, updAll_append, updAll_append]
    cases mk <;> rfl
  rw [e]
  by_cases h : x = a
  · rw [if_pos h, if_pos h]
  · rw [if_neg h, if_neg h, updAll_puts]
    by_cases h1 : a + 1 ≤ x ∧ x < a + 1 + rs.length
    · rw [if_pos h1, if_pos h1]
    · rw [if_neg h1, if_neg h1, updAll_puts, if_neg (by simp; omega)]
theorem layActs_good {n a : Nat} {mk : Bool} {first : List UInt8} {rs : List (List UInt8)} (hf : first.length = 64) (hr : Wide rs) (ha : a + 1 + rs.length ≤ n) : ∀ o ∈ layActs a mk first rs, o.Good n := by
  have hp : ∀ (ss : List (List UInt8)) (b : Nat), Wide ss → b + ss.length ≤ n → ∀ o ∈ puts b ss, o.Good n := by
    intro ss
    induction ss with
    | nil => intro b _ _ o ho; cases ho
    | cons s ss ih =>
      intro b hw hb o ho
      rw [List.length_cons] at hb
      rcases List.mem_cons.1 ho with rfl | ho
      · exact ⟨by omega, hw s (List.mem_cons_self ..)⟩
      · exact ih (b + 1) (fun t ht => hw t (List.mem_cons_of_mem _ ht)) (by omega) o ho
  intro o ho
  unfold layActs at ho
  rcases List.mem_append.1 ho with h | h
  · exact hp _ _ (wide_one (unmarked_64 hf)) (by rw [List.length_singleton]; omega) o h
  rcases List.mem_append.1 h with h | h
  · cases mk
    · simp at h
    · simp at h; subst h; trivial
  rcases List.mem_append.1 h with h | h
  · exact hp _ _ hr ha o h
  · simp at h
    rcases h with rfl | rfl | rfl
    · trivial
    · exact ⟨by omega, hf⟩
    · trivial
theorem doAll_ps {st : St} {os : List Do} (h : (doAll (st, true) (os ++ [.flush])).2 = true) : (doAll (st, true) (os ++ [.flush])).1.ps = [] := by
  rw [doAll_append] at h ⊢
  obtain ⟨⟨s, o⟩, hx⟩ : ∃ x, x = doAll (st, true) os := ⟨_, rfl⟩
  rw [← hx] at h ⊢
  cases o with
  | false => exact absurd h (by simp [doAll, does])
  | true =>
    by_cases h0 : s.fuse = 0
    · exact absurd h (by simp [doAll, does, h0])
    · show (does (s, true) .flush).1.ps = []
      rw [does_on h0]; rfl
theorem lay_ps {st : St} {a : Nat} {mk : Bool} {first : List UInt8} {rs : List (List UInt8)} (h : (doAll (st, true) (layActs a mk first rs)).2 = true) : (doAll (st, true) (layActs a mk first rs)).1.ps = [] := by
  have e : layActs a mk first rs = (puts a [0 :: first.drop 1] ++ ((if mk then [.flush] else []) ++ (puts (a + 1) rs ++ [.flush, .put a first]))) ++ [.flush] := by unfold layActs; simp
  rw [e] at h ⊢
  exact doAll_ps h
/-- Sectors, as one text. -/
def vt (W : Nat → List UInt8) (a k : Nat) : List UInt8 := ((List.range k).map fun i => W (a + i)).flatten
theorem vt_zero (W : Nat → List UInt8) (a : Nat) : vt W a 0 = [] := rfl
theorem vt_succ (W : Nat → List UInt8) (a k : Nat) : vt W a (k + 1) = vt W a k ++ W (a + k) := by simp [vt, List.range_succ]
theorem vt_add (W : Nat → List UInt8) (a j k : Nat) : vt W a (j + k) = vt W a j ++ vt W (a + j) k := by
  induction k with
  | zero => rw [vt_zero, List.append_nil]; rfl
  | succ k ih => rw [← Nat.add_assoc, vt_succ, ih, vt_succ, List.append_assoc, Nat.add_assoc]
theorem vt_congr {W W' : Nat → List UInt8} {a k : Nat} (h : ∀ x, a ≤ x → x < a + k → W' x = W x) : vt W' a k = vt W a k := by
  induction k with
  | zero => rfl
  | succ k ih => rw [vt_succ, vt_succ, ih (fun x h1 h2 => h x h1 (by omega)), h (a + k) (by omega) (by omega)]
theorem length_vt {W : Nat → List UInt8} {a k : Nat} (h : ∀ x, a ≤ x → x < a + k → (W x).length = 64) : (vt W a k).length = 64 * k := by
  induction k with
  | zero => rfl
  | succ k ih => rw [vt_succ, List.length_append, ih (fun x h1 h2 => h x h1 (by omega)), h (a + k) (by omega) (by omega)]; omega
theorem vt_list {W : Nat → List UInt8} {a : Nat} {ss : List (List UInt8)} (h : ∀ i, i < ss.length → W (a + i) = ss.getD i []) : vt W a ss.length = ss.flatten := by
  have key : ∀ k, k ≤ ss.length → vt W a k = (ss.take k).flatten := by
    intro k
    induction k with
    | zero => intro _; rfl
    | succ k ih =>
      intro hk
      rw [vt_succ, ih (by omega), h k (by omega), List.take_succ_eq_append_getElem (by omega), List.flatten_append, List.getD, List.getElem?_eq_getElem (by omega)]
      simp
  rw [key _ (Nat.le_refl _), List.take_length]
theorem rd_view (st : St) (a k : Nat) (h : st.ps = []) : rd st.S [] a k = vt st.view a k := by
  unfold rd vt St.view; rw [h]
/-- What stands on a journal's sectors is right. -/
structure JOn (W : Nat → List UInt8) (from_ m act ep : Nat) (recs : List (List UInt8)) : Prop where
  a1 : act ≤ 1
  e1 : 1 ≤ ep
  e2 : ep ≤ 4611686018427387904
  used : 1 + secsAll recs ≤ m
  head : W (from_ + act * m) = Fr.record ep 0 title
  text : ∃ tail, vt W (from_ + act * m + 1) (m - 1) = packs ep 1 recs ++ tail ∧ NoRec tail
  other : ∃ E, EpochIs (bs (W (from_ + (1 - act) * m))) E ∧ E < ep
  few : ∀ r ∈ recs, r.length ≤ 60000
theorem title_secs : secs title = 1 := by rw [secs_eq]; rfl
theorem length_head (ep : Nat) : (Fr.record ep 0 title).length = 64 := by rw [Fr.length_record, whole_secs, title_secs]
theorem epoch_head (ep : Nat) (h1 : 1 ≤ ep) (h2 : ep ≤ 4611686018427387904) : EpochIs (bs (Fr.record ep 0 title)) ep :=
  Or.inr ⟨isRec ep 0 title [] (by decide) _ (by rw [bs_list, List.append_nil]) (by rw [bs_size, length_head]; omega), h1, h2⟩
theorem epoch_z : EpochIs (bs z64) 0 := Or.inl ⟨Or.inr (by rw [bs_list]; decide), rfl⟩
theorem JOn.right {st : St} {from_ m act ep : Nat} {recs : List (List UInt8)} (h : JOn st.view from_ m act ep recs) (hps : st.ps = []) : ∃ tail, Right st.S from_ m act ep recs tail := by
  obtain ⟨tail, ht, hn⟩ := h.text
  obtain ⟨E', hE, hlt⟩ := h.other
  have hv : st.view = fun x => Dk.readAt st.S [] x := by funext x; unfold St.view; rw [hps]
  refine ⟨tail, ⟨?_, h.e1, by rw [rd_view st _ _ hps]; exact ht, hn, h.few⟩⟩
  have hh := epoch_head ep h.e1 h.e2
  rw [← h.head, hv] at hh
  rw [hv] at hE
  have ha : act = 0 ∨ act = 1 := by have := h.a1; omega
  rcases ha with rfl | rfl
  · rw [Nat.zero_mul, Nat.add_zero] at hh
    rw [Nat.sub_zero, Nat.one_mul] at hE
    exact ⟨ep, E', hh, hE, by rw [if_neg (by omega)], by rw [if_neg (by omega)]⟩
  · rw [Nat.one_mul] at hh
    rw [Nat.sub_self, Nat.zero_mul, Nat.add_zero] at hE
    exact ⟨E', ep, hE, hh, by rw [if_pos hlt], by rw [if_pos hlt]⟩
theorem JOn.congr {W W' : Nat → List UInt8} {from_ m act ep : Nat} {recs : List (List UInt8)} (h : JOn W from_ m act ep recs) (hm : 1 ≤ m) (hW : ∀ x, from_ ≤ x → x < from_ + 2 * m → W' x = W x) : JOn W' from_ m act ep recs := by
  have ham : act * m ≤ m := by have : act = 0 ∨ act = 1 := by have := h.a1; omega
                               rcases this with h0 | h0 <;> rw [h0] <;> omega
  have ham' : (1 - act) * m ≤ m := by have : 1 - act = 0 ∨ 1 - act = 1 := by omega
                                      rcases this with h0 | h0 <;> rw [h0] <;> omega
  obtain ⟨tail, ht, hn⟩ := h.text
  obtain ⟨E', hE, hlt⟩ := h.other
  refine ⟨h.a1, h.e1, h.e2, h.used, by rw [hW _ (by omega) (by omega)]; exact h.head, ⟨tail, ?_, hn⟩, ⟨E', by rw [hW _ (by omega) (by omega)]; exact hE, hlt⟩, h.few⟩
  rw [vt_congr (fun x h1 h2 => hW x (by omega) (by omega))]; exact ht
/-- What behind some sectors that were laid is no record: they are of bytes 0, or there are none. -/
theorem tail_none {W : Nat → List UInt8} {a k : Nat} (h : 0 < k → W a = z64) : NoRec (vt W a k) := by
  by_cases hk : 0 < k
  · right
    rw [show k = 1 + (k - 1) by omega, vt_add, show vt W a 1 = W a by rw [vt_succ, vt_zero]; rfl, h hk]
    unfold z64
    rw [List.getD, List.getElem?_append_left (by simp)]
    decide
  · left
    rw [show k = 0 by omega, vt_zero]; decide
/-- A record more. -/
theorem JOn.append {W : Nat → List UInt8} {from_ m act ep a : Nat} {recs : List (List UInt8)} (h : JOn W from_ m act ep recs) (r first : List UInt8) (rest more : List (List UInt8)) (mk : Bool) (hr : r.length ≤ 60000) (hpk : first ++ rest.flatten = packs ep (1 + recs.length) [r])
    (hfirst : first.length = 64) (hrest : Wide rest) (hfit : 1 + secsAll recs + secs r ≤ m) (hmore : more = if 1 + secsAll recs + 1 + rest.length < m then [z64] else []) (ha : a = from_ + act * m + (1 + secsAll recs)) (hw : ∀ x, from_ ≤ x → x < from_ + 2 * m → (W x).length = 64) :
    JOn (updAll W (layActs a mk first (rest ++ more))) from_ m act ep (recs ++ [r]) ∧ ∀ x, (x < from_ ∨ from_ + 2 * m ≤ x) → updAll W (layActs a mk first (rest ++ more)) x = W x := by
  have hk : secs r = 1 + rest.length := by
    have := congrArg List.length hpk
    rw [length_packs, List.length_append, hfirst, hrest.flat, secsAll_cons, secsAll_nil] at this
    omega
  have hml : more.length ≤ 1 := by rw [hmore]; split <;> simp
  have hmr : a + 1 + (rest ++ more).length ≤ from_ + act * m + m := by
    rw [List.length_append, hmore]; split
    · simp; omega
    · simp; omega
  have ham : act * m ≤ m := by have : act = 0 ∨ act = 1 := by have := h.a1; omega
                               rcases this with h0 | h0 <;> rw [h0] <;> omega
  have ho : (from_ + (1 - act) * m < from_ + act * m) ∨ from_ + act * m + m ≤ from_ + (1 - act) * m := by
    have : act = 0 ∨ act = 1 := by have := h.a1; omega
    rcases this with h0 | h0 <;> rw [h0]
    · right; omega
    · left; have := h.used; omega
  obtain ⟨tail, ht, hn⟩ := h.text
  obtain ⟨E', hE, hlt⟩ := h.other
  have V := lay_view W a mk first (rest ++ more)
  obtain ⟨W', hW'⟩ : ∃ W', W' = updAll W (layActs a mk first (rest ++ more)) := ⟨_, rfl⟩
  rw [← hW'] at V ⊢
  have Vold : ∀ x, x < a ∨ a + 1 + (rest ++ more).length ≤ x → W' x = W x := fun x hx => by rw [V, if_neg (by omega), if_neg (by omega)]
  obtain ⟨b, hb⟩ : ∃ b, b = from_ + act * m := ⟨_, rfl⟩
  rw [← hb] at ha hmr ht ho
  have hfrom : from_ ≤ b := by omega
  have hbm : b + m ≤ from_ + 2 * m := by omega
  refine ⟨⟨h.a1, h.e1, h.e2, by rw [secsAll_snoc]; omega, by rw [← hb, Vold b (Or.inl (by omega)), hb]; exact h.head, ?_, ⟨E', by rw [Vold _ (by omega)]; exact hE, hlt⟩, ?_⟩, fun x hx => Vold x (by omega)⟩
  · rw [← hb]
    have e1 : m - 1 = secsAll recs + ((1 + rest.length) + (m - 1 - secsAll recs - (1 + rest.length))) := by omega
    obtain ⟨q, hq⟩ : ∃ q, q = m - 1 - secsAll recs - (1 + rest.length) := ⟨_, rfl⟩
    rw [← hq] at e1
    have p1 : vt W' (b + 1) (secsAll recs) = packs ep 1 recs := by
      rw [vt_congr (W := W) (fun x _ h2 => Vold x (Or.inl (by omega)))]
      have := congrArg (List.take (64 * secsAll recs)) ht
      rw [e1, vt_add, List.take_left' (length_vt (fun x h1 h2 => hw x (by omega) (by omega))), List.take_left' (length_packs _ _ _)] at this
      exact this
    have p2 : vt W' (b + 1 + secsAll recs) (1 + rest.length) = Fr.record ep (1 + recs.length) r := by
      have e2 : (first :: rest).length = 1 + rest.length := by simp; omega
      rw [← e2, vt_list (ss := first :: rest) (fun i hi => ?_), flat_cons, hpk, packs_cons, packs_nil, List.append_nil]
      rw [e2] at hi
      rw [V]
      by_cases h0 : i = 0
      · rw [if_pos (by omega), h0]; rfl
      · obtain ⟨i', rfl⟩ : ∃ i', i = i' + 1 := ⟨i - 1, by omega⟩
        rw [if_neg (by omega), if_pos (by rw [List.length_append]; omega), List.getD_cons_succ, show b + 1 + secsAll recs + (i' + 1) - (a + 1) = i' by omega, List.getD, List.getElem?_append_left (by omega), ← List.getD]
    refine ⟨vt W' (b + 1 + secsAll recs + (1 + rest.length)) q, ?_, tail_none (fun h0 => ?_)⟩
    · rw [e1, vt_add, vt_add, p1, p2, packs_snoc, ← List.append_assoc]
    · have hm1 : more = [z64] := by rw [hmore, if_pos (by omega)]
      rw [V, if_neg (by omega), if_pos (by rw [List.length_append, hm1]; simp; omega), show b + 1 + secsAll recs + (1 + rest.length) - (a + 1) = rest.length by omega, List.getD, List.getElem?_append_right (Nat.le_refl _), Nat.sub_self, hm1]
      rfl
  · intro x hx
    rcases List.mem_append.1 hx with h1 | h1
    · exact h.few x h1
    · simp at h1; rw [h1]; exact hr
/-- These in the place of all. -/
theorem JOn.anew {W : Nat → List UInt8} {from_ m act ep a : Nat} {recs : List (List UInt8)} (hact : act ≤ 1) (hep : ep + 1 ≤ 4611686018427387904) (hother : ∃ E, EpochIs (bs (W (from_ + act * m))) E ∧ E < ep + 1) (first : List UInt8) (rest more : List (List UInt8)) (mk : Bool) (hr : ∀ r ∈ recs, r.length ≤ 60000)
    (hpk : first ++ rest.flatten = packs (ep + 1) 0 (title :: recs)) (hfirst : first.length = 64) (hrest : Wide rest) (hfit : 1 + secsAll recs ≤ m) (hmore : more = if 0 + 1 + rest.length < m then [z64] else []) (ha : a = from_ + (1 - act) * m + 0) :
    JOn (updAll W (layActs a mk first (rest ++ more))) from_ m (1 - act) (ep + 1) recs ∧ ∀ x, (x < from_ ∨ from_ + 2 * m ≤ x) → updAll W (layActs a mk first (rest ++ more)) x = W x := by
  rw [packs_cons] at hpk
  obtain ⟨hp1, hp2⟩ := List.append_inj hpk (by rw [hfirst, length_head])
  have hk : secsAll recs = rest.length := by
    have := congrArg List.length hp2
    rw [length_packs, hrest.flat] at this
    omega
  have hml : more.length ≤ 1 := by rw [hmore]; split <;> simp
  have hmr : a + 1 + (rest ++ more).length ≤ from_ + (1 - act) * m + m := by
    rw [List.length_append, hmore]; split
    · simp; omega
    · simp; omega
  have ham : (1 - act) * m ≤ m := by have : 1 - act = 0 ∨ 1 - act = 1 := by omega
                                     rcases this with h0 | h0 <;> rw [h0] <;> omega
  have hm1 : 1 ≤ m := by omega
  have ho : (from_ + act * m < from_ + (1 - act) * m) ∨ from_ + (1 - act) * m + m ≤ from_ + act * m := by
    have : act = 0 ∨ act = 1 := by omega
    rcases this with h0 | h0 <;> rw [h0]
    · left; omega
    · right; omega
  obtain ⟨E', hE, hlt⟩ := hother
  have V := lay_view W a mk first (rest ++ more)
  obtain ⟨W', hW'⟩ : ∃ W', W' = updAll W (layActs a mk first (rest ++ more)) := ⟨_, rfl⟩
  rw [← hW'] at V ⊢
  have Vold : ∀ x, x < a ∨ a + 1 + (rest ++ more).length ≤ x → W' x = W x := fun x hx => by rw [V, if_neg (by omega), if_neg (by omega)]
  obtain ⟨b, hb⟩ : ∃ b, b = from_ + (1 - act) * m := ⟨_, rfl⟩
  rw [← hb] at ha hmr ho
  have e11 : 1 - (1 - act) = act := by omega
  refine ⟨⟨by omega, by omega, hep, hfit, by rw [← hb, V, if_pos (by omega)]; exact hp1, ?_, ⟨E', by rw [e11, Vold _ (by omega)]; exact hE, hlt⟩, hr⟩, fun x hx => Vold x (by omega)⟩
  rw [← hb]
  have e1 : m - 1 = rest.length + (m - 1 - rest.length) := by omega
  obtain ⟨q, hq⟩ : ∃ q, q = m - 1 - rest.length := ⟨_, rfl⟩
  rw [← hq] at e1
  have p2 : vt W' (b + 1) rest.length = packs (ep + 1) 1 recs := by
    rw [vt_list (ss := rest) (fun i hi => ?_)]
    · exact hp2
    · rw [V, if_neg (by omega), if_pos (by rw [List.length_append]; omega), show b + 1 + i - (a + 1) = i by omega, List.getD, List.getElem?_append_left hi, ← List.getD]
  refine ⟨vt W' (b + 1 + rest.length) q, by rw [e1, vt_add, p2], tail_none (fun h0 => ?_)⟩
  have hm2 : more = [z64] := by rw [hmore, if_pos (by omega)]
  rw [V, if_neg (by omega), if_pos (by rw [List.length_append, hm2]; simp; omega), show b + 1 + rest.length - (a + 1) = rest.length by omega, List.getD, List.getElem?_append_right (Nat.le_refl _), Nat.sub_self, hm2]
  rfl
end Go.Proofs.YtbljhodnpddpiaaGreatDoor

/- Append, Reset, Format and Open at a power without a fuse: what each call does with a journal. -/
namespace Go.Proofs.YtbljhodnpddpiaaGreatDoor
open Go.RowKit

/-- A disk at a power without a fuse, of which all lasts, behind c calls. -/
structure Jd (d p n : Nat) (F : List Nat) (st : St) (c : Nat) (w : World) : Prop where
  dsk : Dsk d p n F st true w
  free : st.fuse = -1
  ps : st.ps = []
  a0 : 0 ≤ st.acts
  a1 : st.acts ≤ 10000 * c
theorem Jd.below {d p n : Nat} {F : List Nat} {st : St} {c : Nat} {w w' : World} (h : Jd d p n F st c w) (hb : Below w.heap.size w w') : Jd d p n F st c w' := ⟨h.dsk.below hb, h.free, h.ps, h.a0, h.a1⟩
/-- .. some of it may be pending. -/
structure Jp (d p n : Nat) (F : List Nat) (st : St) (c : Nat) (w : World) : Prop where
  dsk : Dsk d p n F st true w
  free : st.fuse = -1
  few : st.ps.length ≤ 5
  a0 : 0 ≤ st.acts
  a1 : st.acts ≤ 10000 * c
theorem Jd.jp {d p n : Nat} {F : List Nat} {st : St} {c : Nat} {w : World} (h : Jd d p n F st c w) : Jp d p n F st c w := ⟨h.dsk, h.free, by rw [h.ps]; simp, h.a0, h.a1⟩
theorem Jp.below {d p n : Nat} {F : List Nat} {st : St} {c : Nat} {w w' : World} (h : Jp d p n F st c w) (hb : Below w.heap.size w w') : Jp d p n F st c w' := ⟨h.dsk.below hb, h.free, h.few, h.a0, h.a1⟩
theorem Jp.ok {d p n : Nat} {F : List Nat} {st : St} {c : Nat} {w : World} (h : Jp d p n F st c w) : StOk st n := by
  obtain ⟨h1, h2, h3⟩ := h.dsk.wide
  exact ⟨h1, h2, fun x hx => by have := h3 x hx; rw [h1] at this; exact this⟩
theorem Jp.n2 {d p n : Nat} {F : List Nat} {st : St} {c : Nat} {w : World} (h : Jp d p n F st c w) : n ≤ 8192 := by
  obtain ⟨bl, bn, pv, h1, _⟩ := h.dsk.liv
  exact h1.n2
theorem Jp.fit {d p n : Nat} {F : List Nat} {st : St} {c : Nat} {w : World} (h : Jp d p n F st c w) (hc : c ≤ 1000000) (k : Nat) (hk : k ≤ 10000) : st.Fit k :=
  ⟨by rw [h.free]; omega, by rw [h.free]; omega, h.a0, by have := h.a1; omega, by have := h.few; omega⟩
theorem Jd.ok {d p n : Nat} {F : List Nat} {st : St} {c : Nat} {w : World} (h : Jd d p n F st c w) : StOk st n := by
  obtain ⟨h1, h2, h3⟩ := h.dsk.wide
  exact ⟨h1, h2, fun x hx => by have := h3 x hx; rw [h1] at this; exact this⟩
theorem Jd.n2 {d p n : Nat} {F : List Nat} {st : St} {c : Nat} {w : World} (h : Jd d p n F st c w) : n ≤ 8192 := by
  obtain ⟨bl, bn, pv, h1, _⟩ := h.dsk.liv
  exact h1.n2
theorem Jd.fit {d p n : Nat} {F : List Nat} {st : St} {c : Nat} {w : World} (h : Jd d p n F st c w) (hc : c ≤ 1000000) (k : Nat) (hk : k ≤ 10000) : st.Fit k :=
  ⟨by rw [h.free]; omega, by rw [h.free]; omega, h.a0, by have := h.a1; omega, by rw [h.ps]; simp; omega⟩
theorem doAll_acts (os : List Do) : ∀ st : St, st.acts ≤ (doAll (st, true) os).1.acts ∧ (doAll (st, true) os).1.acts ≤ st.acts + os.length := by
  induction os with
  | nil => intro st; exact ⟨Int.le_refl _, by simp [doAll]⟩
  | cons o os ih =>
    intro st
    rw [doAll_cons, List.length_cons]
    by_cases h0 : st.fuse = 0
    · rw [does_cut h0, doAll_off]; exact ⟨Int.le_refl _, by show st.acts ≤ _; omega⟩
    · rw [does_on h0]
      have h1 := ih (st.did o)
      have h2 : (st.did o).acts = st.acts + 1 := by cases o <;> rfl
      rw [h2] at h1
      exact ⟨by omega, by push_cast; omega⟩
theorem length_layActs (a : Nat) (mk : Bool) (first : List UInt8) (rs : List (List UInt8)) : (layActs a mk first rs).length ≤ rs.length + 5 := by
  unfold layActs
  simp only [List.length_append, length_puts, List.length_cons, List.length_nil]
  cases mk <;> simp <;> omega
theorem Jp.laid {d p n : Nat} {F F' : List Nat} {st : St} {c : Nat} {w w' : World} (h : Jp d p n F st c w) {a : Nat} {mk : Bool} {first : List UInt8} {rs : List (List UInt8)} (hl : rs.length ≤ 9000)
    (hD : Dsk d p n F' (doAll (st, true) (layActs a mk first rs)).1 true w') : Jd d p n F' (doAll (st, true) (layActs a mk first rs)).1 (c + 1) w' := by
  have h1 := doAll_acts (layActs a mk first rs) st
  have h2 := length_layActs a mk first rs
  have h3 := h.a0
  have h4 := h.a1
  exact ⟨hD, (doAll_free _ h.free).2, lay_ps (doAll_free _ h.free).1, by omega, by push_cast; omega⟩
theorem fit_ok (room : Nat) (v : Value) (l : List (List UInt8)) (hl : ∀ p ∈ l, p.length ≤ 60000) (hn : l.length ≤ 1000000) (hs : secsAll l ≤ room) (w : World) (h : Texts v l w) :
    Calls Tryz.prog 47 #[.int .i64 room, v] w fun e w' => e = .returned .nilIface ∧ Below w.heap.size w w' := by
  refine (fit_is room v l hl hn w h).mono ?_
  rintro e w' (⟨_, h1, h2⟩ | ⟨h1, _⟩)
  · exact ⟨h1, h2⟩
  · omega
theorem fit_full (room : Nat) (v : Value) (l : List (List UInt8)) (hl : ∀ p ∈ l, p.length ≤ 60000) (hn : l.length ≤ 1000000) (hs : room < secsAll l) (w : World) (h : Texts v l w) :
    Calls Tryz.prog 47 #[.int .i64 room, v] w (Refused 12 0 id w) := by
  refine (fit_is room v l hl hn w h).mono ?_
  rintro e w' (⟨h1, _⟩ | ⟨_, h1⟩)
  · omega
  · exact h1
theorem texts_one {r : List UInt8} {q : ByteArray} (w : World) (hq : q = bs r) : Texts (.slice (some ⟨w.heap.size, 0, none⟩) 1 1) [r] (w.alloc (.cells #[Value.string q] 9)) :=
  Texts.of_cells (l := [r]) (fr := (0, 0)) (by rw [hq]; exact heap_alloc_new _ _) 1
set_option maxRecDepth 100000 in
set_option maxHeartbeats 2000000 in
theorem Append_free (d p n : Nat) (F : List Nat) (st : St) (c from_ m act ep : Nat) (recs : List (List UInt8)) (j : Nat) (r : List UInt8) (hm : from_ + 2 * m ≤ n) (hc : c ≤ 1000000) (hr : r.length ≤ 60000) (hfit : 1 + secsAll recs + secs r ≤ m) (w : World) (h : Jd d p n F st c w)
    (hJ : JAt j d from_ m act ep (1 + recs.length) (1 + secsAll recs) false w) (hO : JOn st.view from_ m act ep recs) (hjF : j ∉ F) (hjp : j ≠ p) :
    Calls Tryz.prog 19 #[.pointer (some ⟨j, 0, none⟩), .string (bs r)] w fun e w' => e = .returned .nilIface ∧ ∃ F' st', Jd d p n F' st' (c + 1) w' ∧ JAt j d from_ m act ep (1 + (recs ++ [r]).length) (1 + secsAll (recs ++ [r])) false w' ∧
      JOn st'.view from_ m act ep (recs ++ [r]) ∧ (∀ x, x < from_ ∨ from_ + 2 * m ≤ x → st'.view x = st.view x) ∧ Mv [p, j] F F' w w' := by
  have hn := h.n2
  have hsp := secs_pos r
  obtain ⟨ss, hss, hsl, hsf⟩ := chop (secs r) (packs ep (1 + recs.length) [r]) (by rw [length_packs, secsAll_cons, secsAll_nil, Nat.add_zero])
  obtain ⟨first, rest, rfl⟩ : ∃ first rest, ss = first :: rest := by
    cases ss with
    | nil => simp at hsl; omega
    | cons a b => exact ⟨a, b, rfl⟩
  have hfirst : first.length = 64 := hss first (List.mem_cons_self ..)
  have hrest : Wide rest := fun s hs => hss s (List.mem_cons_of_mem _ hs)
  rw [List.length_cons] at hsl
  rw [flat_cons] at hsf
  obtain ⟨more, hmore⟩ : ∃ more, more = if 1 + secsAll recs + 1 + rest.length < m then [z64] else [] := ⟨_, rfl⟩
  have hml : more.length ≤ 1 := by rw [hmore]; split <;> simp
  obtain ⟨a, ha⟩ : ∃ a, a = from_ + act * m + (1 + secsAll recs) := ⟨_, rfl⟩
  have ham : act * m ≤ m := by have : act = 0 ∨ act = 1 := by have := hO.a1; omega
                               rcases this with h0 | h0 <;> rw [h0] <;> omega
  have hmr : a + 1 + (rest ++ more).length ≤ from_ + act * m + m := by
    rw [List.length_append, hmore]; split
    · simp; omega
    · simp; omega
  obtain ⟨mk, hmk⟩ : ∃ mk, mk = Lib.hasPrefix (Dk.readAt st.S st.ps a) [1] := ⟨_, rfl⟩
  have hll := length_le_secsAll recs
  have CR := Lib.hid (fun (v : World) (vv : Value) (hv : Below w.heap.size w v) (hT : Texts vv [r] v) => reach_ok d p n F st from_ m act ep (1 + recs.length) (1 + secsAll recs) j act ep (1 + recs.length) (1 + secsAll recs) vv [r] first rest hfirst hrest hsf hm hn hO.a1 (by omega) hO.e2 (by simp; omega) (by intro q hq; simp at hq; rw [hq]; exact hr)
    more hmore a ha v (h.dsk.below hv) (h.fit hc _ (by omega)) mk hmk _ rfl (doAll_free _ h.free).1 (hJ.keep (hv.block j hJ.lt)) hjF hjp hT)
  have hV := view_all (layActs a mk first (rest ++ more)) h.ok (layActs_good hfirst (fun s hs => by
    rcases List.mem_append.1 hs with h1 | h1
    · exact hrest s h1
    · rw [hmore] at h1; split at h1
      · exact wide_one length_z64 s h1
      · cases h1) (by omega)) h.free
  have hA := hO.append r first rest more mk hr hsf hfirst hrest hfit hmore ha (fun x h1 h2 => length_readAt h.ok.wide (fun y hy => by rw [h.ok.len]; exact h.ok.wrs y hy) (by rw [h.ok.len]; omega))
  rw [← hV.2] at hA
  have CF := Lib.hid (fun (v : World) (vv : Value) (hT : Texts vv [r] v) => fit_ok (m - (1 + secsAll recs)) vv [r] (by intro q hq; simp at hq; rw [hq]; exact hr) (by simp) (by rw [secsAll_cons, secsAll_nil]; omega) v hT)
  have CL := Lib.hid (fun (v : World) (hv : Below w.heap.size w v) => Left_is j d from_ m act ep (1 + recs.length) (1 + secsAll recs) false (by omega) (by omega) v (hJ.keep (hv.block j hJ.lt)))
  have HJ := Lib.hid hJ
  have HH := Lib.hid h
  have HA := Lib.hid hA
  have hrl : (rest ++ more).length ≤ 9000 := by omega
  obtain ⟨c0, c1, c2, c3, c4, c5, c6, c7⟩ := hJ.cells
  obtain ⟨q, hq⟩ : ∃ q, q = bs r := ⟨_, rfl⟩
  have HQ := Lib.hid hq
  rw [← hq]
  clear hJ h hO hsf hfirst hrest hmore hmk hV hA hss hq
  go_enter Tryz.func19, Tryz.ntmps19
  go_wp2_with (first | (go_at_call 13; refine (CL.out _ (Below.refl _ _)).mono ?_; rintro e w1 ⟨rfl, hb1⟩; have HB1 := Lib.hid hb1; clear hb1) | fail)
  have hT1 : Texts (.slice (some ⟨w1.heap.size, 0, none⟩) 1 1) [r] (w1.alloc (.cells #[Value.string q] 9)) := texts_one w1 HQ.out
  refine (CF.out _ _ hT1).mono ?_
  rintro e w2 ⟨rfl, hb2⟩
  have hB2 : Below w.heap.size w w2 := (HB1.out.alloc HB1.out.size _).trans (hb2.mono (by simp; have := HB1.out.size; omega))
  have HB2 := Lib.hid hB2
  have hz2 := hB2.size
  obtain ⟨c0, c1, c2, c3, c4, c5, c6, c7⟩ := (HJ.out.keep (hB2.block j HJ.out.lt)).cells
  clear hb2 hT1 hB2
  go_wp2_with fail
  have hT3 : Texts (.slice (some ⟨w2.heap.size, 0, none⟩) 1 1) [r] (w2.alloc (.cells #[Value.string q] 9)) := texts_one w2 HQ.out
  have hB3 : Below w.heap.size w (w2.alloc (.cells #[Value.string q] 9)) := HB2.out.alloc hz2 _
  refine (CR.out _ _ hB3 hT3).mono ?_
  rintro e w3 ⟨rfl, F', hD3, hJ3, hM3⟩
  have HD3 := Lib.hid hD3
  have HJ3 := Lib.hid hJ3
  have HM3 := Lib.hid ((Mv.below [p, j] F hB3).trans hM3)
  clear hD3 hJ3 hM3 hB3 hT3
  go_wp2_with fail
  go_ret
  have e1 : 1 + recs.length + [r].length = 1 + (recs ++ [r]).length := by simp; omega
  have e2 : 1 + secsAll recs + 1 + rest.length = 1 + secsAll (recs ++ [r]) := by rw [secsAll_snoc]; omega
  have hJx := HJ3.out
  rw [e1, e2] at hJx
  exact ⟨rfl, F', _, HH.out.jp.laid hrl HD3.out, hJx, HA.out.1, HA.out.2, HM3.out⟩
end Go.Proofs.YtbljhodnpddpiaaGreatDoor
