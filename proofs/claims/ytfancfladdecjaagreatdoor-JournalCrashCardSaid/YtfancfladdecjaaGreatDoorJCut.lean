/- Laying records when the power goes by the way. -/
import Derived.Test.YtfancfladdecjaaGreatDoorJCalls
namespace Go.Proofs.YtfancfladdecjaaGreatDoor
open Go.RowKit

/-- An error of the journal's that wraps one of the disk's. -/
def WrapAt (g g' : Nat) (w : World) : Prop := w.heap[g']? = some (.cells [Value.int .i64 10, .int .i64 0, faultV g].toArray 109 (0, 0)) ∧ FaultAt g 10 0 w
theorem lay_cut (d p n : Nat) (F : List Nat) (st : St) (from_ m half at_ : Nat) (first : List UInt8) (rest : List (List UInt8)) (hfirst : first.length = 64) (hrest : Wide rest) (hm : from_ + 2 * m ≤ n) (hn : n ≤ 8192) (hh : half ≤ 1) (hat : at_ + 1 + rest.length ≤ m)
    (more : List (List UInt8)) (hmore : more = if at_ + 1 + rest.length < m then [z64] else []) (a : Nat) (hae : a = from_ + half * m + at_) (w : World) (h : Dsk d p n F st true w) (hf : st.Fit (rest.length + 6)) (mk : Bool) (hmk : mk = Lib.hasPrefix (Dk.readAt st.S st.ps a) [1]) (X : St × Bool) (hX : X = doAll (st, true) (layActs a mk first (rest ++ more))) (hX2 : X.2 = false) (hW : WrapC p F w) :
    Calls Tryz.prog 93 #[rowV d from_ m, .int .i64 half, .int .i64 at_, .string (bs (first ++ rest.flatten))] w fun e w' => ∃ F' g g', e = .returned (faultV g') ∧ WrapAt g g' w' ∧ w.heap.size ≤ g' ∧ Dsk d p n F' X.1 false w' ∧ Mv [p] F F' w w' := by
  refine (lay_any d p n F st from_ m half at_ first rest hfirst hrest hm hn hh hat more hmore a hae w h hf mk hmk X hX (Or.inr hW)).mono ?_
  rintro e w' ⟨F', h1, h2, ⟨h3, _⟩ | ⟨_, g, g', hg, rfl, hh, hf⟩⟩
  · rw [hX2] at h3; cases h3
  · exact ⟨F', g, g', rfl, ⟨hh, hf⟩, hg, by rw [← hX2]; exact h1, h2⟩
theorem closed_cut {d p n : Nat} {F F2 : List Nat} {st : St} {j from_ m a0 e0 n0 u0 g g2 : Nat} {w w1 w2 : World} (hU : Below w.heap.size w w1) (hjl : j < w.heap.size) (hD : Dsk d p n F2 st false w2) (hJ : JAt j d from_ m a0 e0 n0 u0 false w2)
    (hM : Mv [p] F F2 w1.drew w2) (hjF : j ∉ F) (hjp : j ≠ p) (hA : WrapAt g g2 w2) (hg : w1.drew.heap.size ≤ g2) :
    WrapAt g g2 (w2.setCell ⟨j, 7, none⟩ (.bool true)) ∧ w.heap.size ≤ g2 ∧ Dsk d p n F2 st false (w2.setCell ⟨j, 7, none⟩ (.bool true)) ∧
    JAt j d from_ m a0 e0 n0 u0 true (w2.setCell ⟨j, 7, none⟩ (.bool true)) ∧ Mv [p, j] F F2 w (w2.setCell ⟨j, 7, none⟩ (.bool true)) := by
  obtain ⟨w4, hw4⟩ : ∃ z, z = w2.setCell ⟨j, 7, none⟩ (.bool true) := ⟨_, rfl⟩
  have k : Kept w2.heap.size [j] w2 w4 := by rw [hw4]; exact (Kept.refl _ _ _).setCell (p := ⟨j, 7, none⟩) (by simp) _
  have hj4 : JAt j d from_ m a0 e0 n0 u0 true w4 := by rw [hw4]; exact set_list hJ 7 _
  rw [← hw4]
  have hz1 : w1.drew.heap.size = w1.heap.size := rfl
  have hzU := hU.size
  have hF2 : ∀ x ∈ F2, x ≠ j := fun x hx => by
    rcases hM.foot x hx with h1 | h1
    · exact fun e => hjF (e ▸ h1)
    · rw [hz1] at h1; omega
  have hgj : g ≠ j := by
    rintro rfl
    have h1 := hA.2
    unfold FaultAt at h1
    unfold JAt at hJ
    rw [hJ] at h1
    simp at h1
  have hg2j : g2 ≠ j := by rw [hz1] at hg; omega
  refine ⟨⟨(k.block g2 (lt_of_heap hA.1) (by simpa using hg2j)).trans hA.1, hA.2.keep (k.block g hA.2.lt (by simpa using hgj))⟩, by rw [hz1] at hg; omega, hD.keep k (by simp; exact Ne.symm hjp) (fun x hx hm => by have := hF2 x hx; simp at hm; omega), hj4, ⟨?_, fun x hx => ?_⟩⟩
  · refine (Kept.of_below (hU.drew)).trans ((hM.kept.mono (by rw [hz1]; exact hzU) (fun x _ hm => ?_)).trans (k.mono (Nat.le_trans hzU (by have := hM.size; rw [hz1] at this; exact this)) (fun x hx hm => ?_)))
    · rcases List.mem_append.1 hm with h1 | h1
      · simp at h1; simp [h1]
      · simp [h1]
    · simp at hm; simp [hm]
  · rcases hM.foot x hx with h1 | h1
    · exact Or.inl h1
    · rw [hz1] at h1; exact Or.inr (by omega)
set_option maxRecDepth 100000 in
set_option maxHeartbeats 2000000 in
theorem reach_cut (d p n : Nat) (F : List Nat) (st : St) (from_ m act ep num used : Nat) (j a0 e0 n0 u0 : Nat) (v : Value) (l : List (List UInt8)) (first : List UInt8) (rest : List (List UInt8)) (hfirst : first.length = 64) (hrest : Wide rest) (hpk : first ++ rest.flatten = packs ep num l)
    (hm : from_ + 2 * m ≤ n) (hn : n ≤ 8192) (hh : act ≤ 1) (hat : used + 1 + rest.length ≤ m) (hep : ep ≤ 4611686018427387904) (hnum : num + l.length ≤ 100000) (hl : ∀ q ∈ l, q.length ≤ 60000)
    (more : List (List UInt8)) (hmore : more = if used + 1 + rest.length < m then [z64] else []) (a : Nat) (hae : a = from_ + act * m + used) (w : World) (h : Dsk d p n F st true w) (hf : st.Fit (rest.length + 6)) (mk : Bool) (hmk : mk = Lib.hasPrefix (Dk.readAt st.S st.ps a) [1]) (X : St × Bool) (hX : X = doAll (st, true) (layActs a mk first (rest ++ more))) (hX2 : X.2 = false) (hW : WrapC p F w)
    (hj : JAt j d from_ m a0 e0 n0 u0 false w) (hjF : j ∉ F) (hjp : j ≠ p) (hT : Texts v l w) :
    Calls Tryz.prog 65 #[.pointer (some ⟨j, 0, none⟩), .agg (stV act ep num used).toArray, v] w fun e w' => ∃ F' g g', e = .returned (faultV g') ∧ WrapAt g g' w' ∧ w.heap.size ≤ g' ∧ Dsk d p n F' X.1 false w' ∧ JAt j d from_ m a0 e0 n0 u0 true w' ∧ Mv [p, j] F F' w w' := by
  have hsec : 64 * secsAll l = 64 * (1 + rest.length) := by
    have := congrArg List.length hpk
    rw [length_packs, List.length_append, hfirst, hrest.flat] at this
    omega
  obtain ⟨vb, vc, rfl⟩ := hT.slice
  obtain ⟨T, hTe⟩ : ∃ T, T = bs (packs ep num l) := ⟨_, rfl⟩
  have hTs : T.size = 64 * (1 + rest.length) := by rw [hTe, bs_size, length_packs, hsec]
  have q64 : (T.size : Int) / 64 = 1 + (rest.length : Int) := by omega
  have hjl := hj.lt
  have HJ := Lib.hid hj
  have HT := Lib.hid hT
  have HD := Lib.hid h
  have HTE := Lib.hid hTe
  have CPK := Lib.hid (fun (v : World) (hb : Below w.heap.size w v) => packed_is ep num (.slice vb l.length vc) l hep (by omega) hl (by omega) v (hT.below (Nat.le_refl _) hb))
  rw [← hTe] at CPK
  have CL := Lib.hid (fun (v : World) (hv : Dsk d p n F st true v) (hw : WrapC p F v) => lay_cut d p n F st from_ m act used first rest hfirst hrest hm hn hh hat more hmore a hae v hv hf mk hmk X hX hX2 hw)
  rw [hpk, ← hTe] at CL
  unfold rowV faultV at CL
  clear hj hT h hTe hpk hfirst hrest hl hmore hae hf hmk hX hX2
  have HWC := Lib.hid hW
  clear hW
  unfold stV
  go_enter Tryz.func65, Tryz.ntmps65
  go_wp2_with (first | (go_at_call 92; refine (CPK.out _ ((Below.refl _ _).alloc (Nat.le_refl _) _)).mono ?_; rintro e w1 ⟨rfl, hb1⟩; have HB1 := Lib.hid hb1; clear hb1) | fail)
  obtain ⟨b, hb⟩ : ∃ b, b = w.heap.size := ⟨_, rfl⟩
  rw [← hb]
  have hs0 : (w.alloc (.cells (stV act ep num used).toArray 93)).heap[b]? = some (.cells (stV act ep num used).toArray 93 (0, 0)) := by rw [hb]; exact heap_alloc_new _ _
  have HS1 := Lib.hid ((HB1.out.block b (by rw [hb]; simp)).trans hs0)
  have hU1 : Below w.heap.size w w1 := ((Below.refl _ _).alloc (Nat.le_refl _) _).trans (HB1.out.mono (by simp))
  have HU1 := Lib.hid hU1
  have HWC1 := Lib.hid ((HWC.out.mv (Mv.below _ _ hU1)).mv (Mv.below _ _ (Below.refl _ _).drew))
  have HJ1 := Lib.hid (HJ.out.keep (hU1.block j hjl))
  have HD1 := Lib.hid ((HD.out.below hU1).below (Below.refl _ _).drew)
  have hFl := HD.out.Flt
  have hpl := HD.out.pow.lt
  have hbF : b ∉ F := fun hm => by have := hFl b hm; omega
  have hbp : b ≠ p := by omega
  have hjb : j ≠ b := by omega
  obtain ⟨c0, c1, c2, c3, c4, c5, c6, c7⟩ := HJ1.out.cells
  have S1 : (w1.drew.cell? ⟨j, 0, none⟩ = some (.pointer (some ⟨d, 0, none⟩)) ∧ w1.drew.cell? ⟨j, 1, none⟩ = some (.int .i64 from_) ∧ w1.drew.cell? ⟨j, 2, none⟩ = some (.int .i64 m)) ∧ w1.drew.cell? ⟨b, 0, none⟩ = some (.int .i64 act) ∧ w1.drew.cell? ⟨b, 3, none⟩ = some (.int .i64 used) :=
    ⟨⟨c0, c1, c2⟩, (by show w1.cell? _ = _; rw [cell_of_list HS1.out]; rfl), (by show w1.cell? _ = _; rw [cell_of_list HS1.out]; rfl)⟩
  have HBE := Lib.hid hb
  have HBL := Lib.hid (show w.heap.size < w1.heap.size by have := lt_of_heap HS1.out; omega)
  clear HB1 hs0 hU1 c0 c1 c2 c3 c4 c5 c6 c7 hFl hpl hb
  go_region_held_law (fun v => (v.cell? ⟨j, 0, none⟩ = some (.pointer (some ⟨d, 0, none⟩)) ∧ v.cell? ⟨j, 1, none⟩ = some (.int .i64 from_) ∧ v.cell? ⟨j, 2, none⟩ = some (.int .i64 m)) ∧ v.cell? ⟨b, 0, none⟩ = some (.int .i64 act) ∧ v.cell? ⟨b, 3, none⟩ = some (.int .i64 used)) (first | exact S1 | exact S2) (first | (go_simp; go_at_call 93; (with_reducible refine (CL.out _ HD1.out HWC1.out).mono ?_); rintro e w2 ⟨F2, g, g2, rfl, hwa, hg2, hD2, hM2⟩; have HWA := Lib.hid hwa; have HG2 := Lib.hid hg2; clear hwa hg2; have HJ2 := Lib.hid (HJ1.out.keep (hM2.block (show j < w1.drew.heap.size from HJ1.out.lt) (by simpa using hjp) hjF)); have HS2 := Lib.hid ((hM2.block (show b < w1.drew.heap.size from lt_of_heap HS1.out) (by simpa using hbp) hbF).trans (show w1.drew.heap[b]? = _ from HS1.out)); have HD2 := Lib.hid hD2; have HM2 := Lib.hid hM2; clear hD2 hM2; have S2 := (show (w2.cell? ⟨j, 0, none⟩ = some (.pointer (some ⟨d, 0, none⟩)) ∧ w2.cell? ⟨j, 1, none⟩ = some (.int .i64 from_) ∧ w2.cell? ⟨j, 2, none⟩ = some (.int .i64 m)) ∧ w2.cell? ⟨b, 0, none⟩ = some (.int .i64 act) ∧ w2.cell? ⟨b, 3, none⟩ = some (.int .i64 used) from ⟨⟨HJ2.out.cells.1, HJ2.out.cells.2.1, HJ2.out.cells.2.2.1⟩, (by rw [cell_of_list HS2.out]; rfl), (by rw [cell_of_list HS2.out]; rfl)⟩)) | fail)
  all_goals
    obtain ⟨c0, c1, c2, c3, c4, c5, c6, c7⟩ := HJ2.out.cells
    have fj := free_of_list HJ2.out
    clear S1 S2
    go_wp2_with fail
    go_ret
    obtain ⟨k1, k2, k3, k4, k5⟩ := closed_cut HU1.out hjl HD2.out HJ2.out HM2.out hjF hjp HWA.out HG2.out
    exact ⟨F2, g, g2, rfl, k1, k2, k3, k4, k5⟩
end Go.Proofs.YtfancfladdecjaaGreatDoor
