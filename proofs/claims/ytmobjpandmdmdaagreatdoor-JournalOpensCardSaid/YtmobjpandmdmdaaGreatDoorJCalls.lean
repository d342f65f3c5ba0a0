/- The walks of reach, Append, Reset, Format, Open and what a journal tells. -/
import Derived.Test.YtmobjpandmdmdaaGreatDoorJCat
namespace Go.Proofs.YtmobjpandmdmdaaGreatDoor
open Go.RowKit

def jCells (d from_ m a e n u : Nat) (c : Bool) : List Value := [.pointer (some ⟨d, 0, none⟩), .int .i64 from_, .int .i64 m, .int .i64 a, .int .i64 e, .int .i64 n, .int .i64 u, .bool c]
/-- A journal at block j. -/
def JAt (j d from_ m a e n u : Nat) (c : Bool) (w : World) : Prop := w.heap[j]? = some (.cells (jCells d from_ m a e n u c).toArray 80 (0, 0))
section
variable {j d from_ m a e n u : Nat} {c : Bool} {w : World}
theorem JAt.lt (h : JAt j d from_ m a e n u c w) : j < w.heap.size := lt_of_heap h
theorem JAt.keep {w' : World} (h : JAt j d from_ m a e n u c w) (hk : w'.heap[j]? = w.heap[j]?) : JAt j d from_ m a e n u c w' := hk.trans h
theorem JAt.cells (h : JAt j d from_ m a e n u c w) : w.cell? ⟨j, 0, none⟩ = some (.pointer (some ⟨d, 0, none⟩)) ∧ w.cell? ⟨j, 1, none⟩ = some (.int .i64 from_) ∧ w.cell? ⟨j, 2, none⟩ = some (.int .i64 m) ∧
    w.cell? ⟨j, 3, none⟩ = some (.int .i64 a) ∧ w.cell? ⟨j, 4, none⟩ = some (.int .i64 e) ∧ w.cell? ⟨j, 5, none⟩ = some (.int .i64 n) ∧ w.cell? ⟨j, 6, none⟩ = some (.int .i64 u) ∧ w.cell? ⟨j, 7, none⟩ = some (.bool c) := by
  refine ⟨?_, ?_, ?_, ?_, ?_, ?_, ?_, ?_⟩ <;> (rw [cell_of_list h]; rfl)
end
theorem Left_is (j d from_ m a e n u : Nat) (c : Bool) (hu : u ≤ m) (hm : m ≤ 8192) (w : World) (h : JAt j d from_ m a e n u c w) :
    Calls Tryz.prog 17 #[.pointer (some ⟨j, 0, none⟩)] w fun r w' => r = .returned (.int .i64 (m - u : Nat)) ∧ Below w.heap.size w w' := by
  obtain ⟨c0, c1, c2, c3, c4, c5, c6, c7⟩ := h.cells
  clear h
  go_enter Tryz.func17, Tryz.ntmps17
  go_wp2_with fail
  go_quiet (fail)
  go_wp2_with fail
  go_ret
  exact ⟨by rw [show ((m - u : Nat) : Int) = (m : Int) - (u : Int) from by omega]; rfl, below_drewN (Below.refl _ _) _⟩
theorem Half_is (j d from_ m a e n u : Nat) (c : Bool) (hm1 : 1 ≤ m) (hm : m ≤ 8192) (w : World) (h : JAt j d from_ m a e n u c w) :
    Calls Tryz.prog 20 #[.pointer (some ⟨j, 0, none⟩)] w fun r w' => r = .returned (.int .i64 (m - 1 : Nat)) ∧ w = w' := by
  obtain ⟨c0, c1, c2, c3, c4, c5, c6, c7⟩ := h.cells
  clear h
  go_enter Tryz.func20, Tryz.ntmps20
  go_wp2
  go_ret
  exact ⟨by rw [show ((m - 1 : Nat) : Int) = (m : Int) - 1 from by omega]; rfl, rfl⟩
theorem Epoch_is (j d from_ m a e n u : Nat) (c : Bool) (w : World) (h : JAt j d from_ m a e n u c w) :
    Calls Tryz.prog 18 #[.pointer (some ⟨j, 0, none⟩)] w fun r w' => r = .returned (.int .i64 e) ∧ w = w' := by
  obtain ⟨c0, c1, c2, c3, c4, c5, c6, c7⟩ := h.cells
  clear h
  go_enter Tryz.func18, Tryz.ntmps18
  go_wp2
  go_ret
  exact ⟨rfl, rfl⟩
theorem Len_is (j d from_ m a e n u : Nat) (c : Bool) (hn1 : 1 ≤ n) (hn : n ≤ 100000) (w : World) (h : JAt j d from_ m a e n u c w) :
    Calls Tryz.prog 19 #[.pointer (some ⟨j, 0, none⟩)] w fun r w' => r = .returned (.int .i64 (n - 1 : Nat)) ∧ w = w' := by
  obtain ⟨c0, c1, c2, c3, c4, c5, c6, c7⟩ := h.cells
  clear h
  go_enter Tryz.func19, Tryz.ntmps19
  go_wp2
  go_ret
  exact ⟨by rw [show ((n - 1 : Nat) : Int) = (n : Int) - 1 from by omega]; rfl, rfl⟩
/-- A row of sectors, asked for. -/
theorem rowOf_ok (d p n : Nat) (F : List Nat) (st : St) (from_ m : Nat) (hm : 2 ≤ m) (hn : from_ + 2 * m ≤ n) (hn2 : n ≤ 8192) (w : World) (h : Live d p F n st.S st.ps 0 w) :
    Calls Tryz.prog 36 #[.pointer (some ⟨d, 0, none⟩), .int .i64 from_, .int .i64 (2 * m : Nat)] w fun r w' => r = .returned (.tuple #[rowV d from_ m, .nilIface]) ∧ Below w.heap.size w w' := by
  obtain ⟨s, hs⟩ : ∃ s, s = 2 * m := ⟨_, rfl⟩
  have q2 : (s : Int).tmod 2 = 0 := by rw [Int.tmod_eq_emod_of_nonneg (by omega)]; omega
  have q2' : (s : Int) % 2 = 0 := by omega
  have d2 : (s : Int).tdiv 2 = (m : Int) := by rw [Int.tdiv_eq_ediv_of_nonneg (by omega)]; omega
  have d2' : (s : Int) / 2 = (m : Int) := by omega
  have hs4 : 4 ≤ s := by omega
  have hsn : from_ + s ≤ n := by omega
  have CS := Lib.hid (fun (v : World) (hb : Below w.heap.size w v) => Sectors_any d p F n st.S st.ps 0 v (h.below hb))
  rw [← hs]
  clear h hs
  go_enter Tryz.func36, Tryz.ntmps36
  go_wp2_with (go_at_call 51; refine (CS.out _ ((Below.refl _ _).alloc (Nat.le_refl _) _)).mono ?_; rintro e w' ⟨rfl, rfl⟩)
  refine bodyPost_ret (results_mid2 Tryz.results36 _ _ w.heap.size 0 [Value.pointer (some ⟨d, 0, none⟩), .int .i64 from_, .int .i64 m] _ rfl (range_of_list (heap_alloc_new _ _)) Tryz.underlying72 rfl (by kernel_rfl)) rfl ⟨rfl, (Below.refl _ _).alloc (Nat.le_refl _) _⟩
theorem lay_ok (d p n : Nat) (F : List Nat) (st : St) (from_ m half at_ : Nat) (first : List UInt8) (rest : List (List UInt8)) (hfirst : first.length = 64) (hrest : Wide rest) (hm : from_ + 2 * m ≤ n) (hn : n ≤ 8192) (hh : half ≤ 1) (hat : at_ + 1 + rest.length ≤ m)
    (more : List (List UInt8)) (hmore : more = if at_ + 1 + rest.length < m then [z64] else []) (a : Nat) (hae : a = from_ + half * m + at_) (w : World) (h : Dsk d p n F st true w) (hf : st.Fit (rest.length + 6)) (mk : Bool) (hmk : mk = Lib.hasPrefix (Dk.readAt st.S st.ps a) [1]) (X : St × Bool) (hX : X = doAll (st, true) (layActs a mk first (rest ++ more))) (hX2 : X.2 = true) :
    Calls Tryz.prog 72 #[rowV d from_ m, .int .i64 half, .int .i64 at_, .string (bs (first ++ rest.flatten))] w fun e w' => e = .returned .nilIface ∧ ∃ F', Dsk d p n F' X.1 true w' ∧ Mv [p] F F' w w' := by
  refine (lay_any d p n F st from_ m half at_ first rest hfirst hrest hm hn hh hat more hmore a hae w h hf mk hmk X hX (Or.inl hX2)).mono ?_
  rintro e w' ⟨F', h1, h2, ⟨_, rfl⟩ | ⟨h3, _⟩⟩
  · exact ⟨rfl, F', by rw [← hX2]; exact h1, h2⟩
  · rw [hX2] at h3; cases h3
theorem reached {d p n : Nat} {F F2 : List Nat} {st : St} {j b from_ m a0 e0 n0 u0 : Nat} {w w1 w2 : World} (hU : Below w.heap.size w w1) (hb : b = w.heap.size) (hjl : j < w.heap.size) (hD : Dsk d p n F2 st true w2) (hJ : JAt j d from_ m a0 e0 n0 u0 false w2)
    (hM : Mv [p] F F2 w1.drew w2) (hjF : j ∉ F) (hjp : j ≠ p) (hbF : b ∉ F) (hbp : b ≠ p) (x y : Value) (a e nn u : Nat) (hbl : b < w1.heap.size) :
    Dsk d p n F2 st true ((((((w2.setCell ⟨b, 2, none⟩ x).setCell ⟨b, 3, none⟩ y).setCell ⟨j, 3, none⟩ (.int .i64 a)).setCell ⟨j, 4, none⟩ (.int .i64 e)).setCell ⟨j, 5, none⟩ (.int .i64 nn)).setCell ⟨j, 6, none⟩ (.int .i64 u)) ∧
    JAt j d from_ m a e nn u false ((((((w2.setCell ⟨b, 2, none⟩ x).setCell ⟨b, 3, none⟩ y).setCell ⟨j, 3, none⟩ (.int .i64 a)).setCell ⟨j, 4, none⟩ (.int .i64 e)).setCell ⟨j, 5, none⟩ (.int .i64 nn)).setCell ⟨j, 6, none⟩ (.int .i64 u)) ∧
    Mv [p, j] F F2 w ((((((w2.setCell ⟨b, 2, none⟩ x).setCell ⟨b, 3, none⟩ y).setCell ⟨j, 3, none⟩ (.int .i64 a)).setCell ⟨j, 4, none⟩ (.int .i64 e)).setCell ⟨j, 5, none⟩ (.int .i64 nn)).setCell ⟨j, 6, none⟩ (.int .i64 u)) := by
  obtain ⟨w3, hw3⟩ : ∃ z, z = (w2.setCell ⟨b, 2, none⟩ x).setCell ⟨b, 3, none⟩ y := ⟨_, rfl⟩
  have k3 : Kept w2.heap.size [b] w2 w3 := by rw [hw3]; exact ((Kept.refl _ _ _).setCell (p := ⟨b, 2, none⟩) (by simp) _).setCell (p := ⟨b, 3, none⟩) (by simp) _
  have hj3 : JAt j d from_ m a0 e0 n0 u0 false w3 := hJ.keep (k3.block j hJ.lt (by simp; omega))
  rw [← hw3]
  obtain ⟨w4, hw4⟩ : ∃ z, z = (((w3.setCell ⟨j, 3, none⟩ (.int .i64 a)).setCell ⟨j, 4, none⟩ (.int .i64 e)).setCell ⟨j, 5, none⟩ (.int .i64 nn)).setCell ⟨j, 6, none⟩ (.int .i64 u) := ⟨_, rfl⟩
  have k4 : Kept w3.heap.size [j] w3 w4 := by rw [hw4]; exact ((((Kept.refl _ _ _).setCell (p := ⟨j, 3, none⟩) (by simp) _).setCell (p := ⟨j, 4, none⟩) (by simp) _).setCell (p := ⟨j, 5, none⟩) (by simp) _).setCell (p := ⟨j, 6, none⟩) (by simp) _
  have hj4 : JAt j d from_ m a e nn u false w4 := by rw [hw4]; exact set_list (set_list (set_list (set_list hj3 3 _) 4 _) 5 _) 6 _
  rw [← hw4]
  have k : Kept w2.heap.size [b, j] w2 w4 := kept_two k3 k4 k3.size (fun x hx => by simp at hx; simp [hx]) (fun x hx => by simp at hx; simp [hx])
  have hz1 : w1.drew.heap.size = w1.heap.size := rfl
  have hzU := hU.size
  have hF2 : ∀ x ∈ F2, x ≠ b ∧ x ≠ j := fun x hx => by
    rcases hM.foot x hx with h1 | h1
    · exact ⟨fun e => hbF (e ▸ h1), fun e => hjF (e ▸ h1)⟩
    · rw [hz1] at h1; exact ⟨by omega, by omega⟩
  refine ⟨hD.keep k (by simp; exact ⟨Ne.symm hbp, Ne.symm hjp⟩) (fun x hx hm => by have := hF2 x hx; simp at hm; omega), hj4, ⟨?_, fun x hx => ?_⟩⟩
  · refine (Kept.of_below (hU.drew)).trans ((hM.kept.mono (by rw [hz1]; exact hzU) (fun x _ hm => ?_)).trans (k.mono (Nat.le_trans hzU (by have := hM.size; rw [hz1] at this; exact this)) (fun x hx hm => ?_)))
    · rcases List.mem_append.1 hm with h1 | h1
      · simp at h1; simp [h1]
      · simp [h1]
    · simp at hm
      rcases hm with h1 | h1
      · omega
      · simp [h1]
  · rcases hM.foot x hx with h1 | h1
    · exact Or.inl h1
    · rw [hz1] at h1; exact Or.inr (by omega)
set_option maxRecDepth 100000 in
set_option maxHeartbeats 2000000 in
theorem reach_ok (d p n : Nat) (F : List Nat) (st : St) (from_ m act ep num used : Nat) (j a0 e0 n0 u0 : Nat) (v : Value) (l : List (List UInt8)) (first : List UInt8) (rest : List (List UInt8)) (hfirst : first.length = 64) (hrest : Wide rest) (hpk : first ++ rest.flatten = packs ep num l)
    (hm : from_ + 2 * m ≤ n) (hn : n ≤ 8192) (hh : act ≤ 1) (hat : used + 1 + rest.length ≤ m) (hep : ep ≤ 4611686018427387904) (hnum : num + l.length ≤ 100000) (hl : ∀ q ∈ l, q.length ≤ 60000)
    (more : List (List UInt8)) (hmore : more = if used + 1 + rest.length < m then [z64] else []) (a : Nat) (hae : a = from_ + act * m + used) (w : World) (h : Dsk d p n F st true w) (hf : st.Fit (rest.length + 6)) (mk : Bool) (hmk : mk = Lib.hasPrefix (Dk.readAt st.S st.ps a) [1]) (X : St × Bool) (hX : X = doAll (st, true) (layActs a mk first (rest ++ more))) (hX2 : X.2 = true)
    (hj : JAt j d from_ m a0 e0 n0 u0 false w) (hjF : j ∉ F) (hjp : j ≠ p) (hT : Texts v l w) :
    Calls Tryz.prog 46 #[.pointer (some ⟨j, 0, none⟩), .agg (stV act ep num used).toArray, v] w fun e w' => e = .returned .nilIface ∧ ∃ F', Dsk d p n F' X.1 true w' ∧ JAt j d from_ m act ep (num + l.length) (used + 1 + rest.length) false w' ∧ Mv [p, j] F F' w w' := by
  have hsec : 64 * secsAll l = 64 * (1 + rest.length) := by
    have := congrArg List.length hpk
    rw [length_packs, List.length_append, hfirst, hrest.flat] at this
    omega
  obtain ⟨vb, vc, rfl⟩ := hT.slice
  obtain ⟨T, hTe⟩ : ∃ T, T = bs (packs ep num l) := ⟨_, rfl⟩
  have hTs : T.size = 64 * (1 + rest.length) := by rw [hTe, bs_size, length_packs, hsec]
  have q64 : (T.size : Int) / 64 = 1 + (rest.length : Int) := by omega
  have hjl := hj.lt
  have HJ := Lib.hid hj
  have HT := Lib.hid hT
  have HD := Lib.hid h
  have HTE := Lib.hid hTe
  have CPK := Lib.hid (fun (v : World) (hb : Below w.heap.size w v) => packed_is ep num (.slice vb l.length vc) l hep (by omega) hl (by omega) v (hT.below (Nat.le_refl _) hb))
  rw [← hTe] at CPK
  have CL := Lib.hid (fun (v : World) (hv : Dsk d p n F st true v) => lay_ok d p n F st from_ m act used first rest hfirst hrest hm hn hh hat more hmore a hae v hv hf mk hmk X hX hX2)
  rw [hpk, ← hTe] at CL
  unfold rowV at CL
  clear hj hT h hTe hpk hfirst hrest hl hmore hae hf hmk hX hX2
  unfold stV
  go_enter Tryz.func46, Tryz.ntmps46
  go_wp2_with (first | (go_at_call 71; refine (CPK.out _ ((Below.refl _ _).alloc (Nat.le_refl _) _)).mono ?_; rintro e w1 ⟨rfl, hb1⟩; have HB1 := Lib.hid hb1; clear hb1) | fail)
  obtain ⟨b, hb⟩ : ∃ b, b = w.heap.size := ⟨_, rfl⟩
  rw [← hb]
  have hs0 : (w.alloc (.cells (stV act ep num used).toArray 76)).heap[b]? = some (.cells (stV act ep num used).toArray 76 (0, 0)) := by rw [hb]; exact heap_alloc_new _ _
  have HS1 := Lib.hid ((HB1.out.block b (by rw [hb]; simp)).trans hs0)
  have hU1 : Below w.heap.size w w1 := ((Below.refl _ _).alloc (Nat.le_refl _) _).trans (HB1.out.mono (by simp))
  have HU1 := Lib.hid hU1
  have HJ1 := Lib.hid (HJ.out.keep (hU1.block j hjl))
  have HD1 := Lib.hid ((HD.out.below hU1).below (Below.refl _ _).drew)
  have hFl := HD.out.Flt
  have hpl := HD.out.pow.lt
  have hbF : b ∉ F := fun hm => by have := hFl b hm; omega
  have hbp : b ≠ p := by omega
  have hjb : j ≠ b := by omega
  obtain ⟨c0, c1, c2, c3, c4, c5, c6, c7⟩ := HJ1.out.cells
  have S1 : (w1.drew.cell? ⟨j, 0, none⟩ = some (.pointer (some ⟨d, 0, none⟩)) ∧ w1.drew.cell? ⟨j, 1, none⟩ = some (.int .i64 from_) ∧ w1.drew.cell? ⟨j, 2, none⟩ = some (.int .i64 m)) ∧ w1.drew.cell? ⟨b, 0, none⟩ = some (.int .i64 act) ∧ w1.drew.cell? ⟨b, 3, none⟩ = some (.int .i64 used) :=
    ⟨⟨c0, c1, c2⟩, (by show w1.cell? _ = _; rw [cell_of_list HS1.out]; rfl), (by show w1.cell? _ = _; rw [cell_of_list HS1.out]; rfl)⟩
  have HBE := Lib.hid hb
  have HBL := Lib.hid (show w.heap.size < w1.heap.size by have := lt_of_heap HS1.out; omega)
  clear HB1 hs0 hU1 c0 c1 c2 c3 c4 c5 c6 c7 hFl hpl hb
  go_region_held_law (fun v => (v.cell? ⟨j, 0, none⟩ = some (.pointer (some ⟨d, 0, none⟩)) ∧ v.cell? ⟨j, 1, none⟩ = some (.int .i64 from_) ∧ v.cell? ⟨j, 2, none⟩ = some (.int .i64 m)) ∧ v.cell? ⟨b, 0, none⟩ = some (.int .i64 act) ∧ v.cell? ⟨b, 3, none⟩ = some (.int .i64 used)) (first | exact S1 | exact S2) (first | (go_simp; go_at_call 72; (with_reducible refine (CL.out _ HD1.out).mono ?_); rintro e w2 ⟨rfl, F2, hD2, hM2⟩; have HJ2 := Lib.hid (HJ1.out.keep (hM2.block (show j < w1.drew.heap.size from HJ1.out.lt) (by simpa using hjp) hjF)); have HS2 := Lib.hid ((hM2.block (show b < w1.drew.heap.size from lt_of_heap HS1.out) (by simpa using hbp) hbF).trans (show w1.drew.heap[b]? = _ from HS1.out)); have HD2 := Lib.hid hD2; have HM2 := Lib.hid hM2; clear hD2 hM2; have S2 := (show (w2.cell? ⟨j, 0, none⟩ = some (.pointer (some ⟨d, 0, none⟩)) ∧ w2.cell? ⟨j, 1, none⟩ = some (.int .i64 from_) ∧ w2.cell? ⟨j, 2, none⟩ = some (.int .i64 m)) ∧ w2.cell? ⟨b, 0, none⟩ = some (.int .i64 act) ∧ w2.cell? ⟨b, 3, none⟩ = some (.int .i64 used) from ⟨⟨HJ2.out.cells.1, HJ2.out.cells.2.1, HJ2.out.cells.2.2.1⟩, (by rw [cell_of_list HS2.out]; rfl), (by rw [cell_of_list HS2.out]; rfl)⟩)) | fail)
  all_goals
    obtain ⟨c0, c1, c2, c3, c4, c5, c6, c7⟩ := HJ2.out.cells
    have fj := free_of_list HJ2.out
    have fb := free_of_list HS2.out
    have s0 : w2.cell? ⟨b, 0, none⟩ = some (.int .i64 act) := by rw [cell_of_list HS2.out]; rfl
    have s1 : w2.cell? ⟨b, 1, none⟩ = some (.int .i64 ep) := by rw [cell_of_list HS2.out]; rfl
    have s2 : w2.cell? ⟨b, 2, none⟩ = some (.int .i64 num) := by rw [cell_of_list HS2.out]; rfl
    have s3 : w2.cell? ⟨b, 3, none⟩ = some (.int .i64 used) := by rw [cell_of_list HS2.out]; rfl
    clear S1 S2
    go_wp2_with fail
    go_ret
    refine ⟨rfl, F2, ?_⟩
    rw [show (num : Int) + (l.length : Int) = ((num + l.length : Nat) : Int) from by omega, show (used : Int) + (1 + (rest.length : Int)) = ((used + 1 + rest.length : Nat) : Int) from by omega]
    exact reached HU1.out HBE.out hjl HD2.out HJ2.out HM2.out hjF hjp hbF hbp _ _ act ep (num + l.length) (used + 1 + rest.length) (by rw [HBE.out]; exact HBL.out)
end Go.Proofs.YtmobjpandmdmdaaGreatDoor
