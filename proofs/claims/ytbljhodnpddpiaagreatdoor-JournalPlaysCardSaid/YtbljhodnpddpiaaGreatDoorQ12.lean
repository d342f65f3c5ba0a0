/- Several texts in one, in the order in which they build: JReset JFormat JHelp JKnown. -/
import Derived.Test.YtbljhodnpddpiaaGreatDoorQ11
/- The walk of Reset at a power without a fuse. -/
namespace Go.Proofs.YtbljhodnpddpiaaGreatDoor
open Go.RowKit

/-- A journal's half and epoch. -/
abbrev JpS (j a e : Nat) (v : World) : Prop := v.cell? ⟨j, 3, none⟩ = some (.int .i64 a) ∧ v.cell? ⟨j, 4, none⟩ = some (.int .i64 e)
theorem jp_of {w v : World} {j d from_ m a e n u : Nat} {c : Bool} (h : JAt j d from_ m a e n u c w) (hb : Below w.heap.size w v) : JpS j a e v := by
  obtain ⟨c0, c1, c2, c3, c4, c5, c6, c7⟩ := (h.keep (hb.block j h.lt)).cells
  exact ⟨c3, c4⟩
/-- The cells of a state. -/
abbrev StS (s a e n u : Nat) (v : World) : Prop := v.cell? ⟨s, 0, none⟩ = some (.int .i64 a) ∧ v.cell? ⟨s, 1, none⟩ = some (.int .i64 e) ∧ v.cell? ⟨s, 2, none⟩ = some (.int .i64 n) ∧ v.cell? ⟨s, 3, none⟩ = some (.int .i64 u)
theorem st_of {w v : World} {s a e n u : Nat} (h : w.heap[s]? = some (.cells (stV a e n u).toArray 79 (0, 0))) (hb : Below w.heap.size w v) : StS s a e n u v := by
  have h' := (hb.block s (lt_of_heap h)).trans h
  refine ⟨?_, ?_, ?_, ?_⟩ <;> (rw [cell_of_list h']; rfl)
set_option maxRecDepth 100000 in
set_option maxHeartbeats 2000000 in
theorem Reset_free (d p n : Nat) (F : List Nat) (st : St) (c from_ m act ep nn u : Nat) (recs : List (List UInt8)) (j : Nat) (v : Value) (hm : from_ + 2 * m ≤ n) (hc : c ≤ 1000000) (hact : act ≤ 1) (hep : ep + 1 ≤ 4611686018427387904) (hr : ∀ r ∈ recs, r.length ≤ 60000) (hfit : 1 + secsAll recs ≤ m) (w : World) (h : Jp d p n F st c w)
    (hJ : JAt j d from_ m act ep nn u false w) (hO : ∃ E, EpochIs (bs (st.view (from_ + act * m))) E ∧ E < ep + 1) (hjF : j ∉ F) (hjp : j ≠ p) (hT : Texts v recs w) :
    Calls Tryz.prog 22 #[.pointer (some ⟨j, 0, none⟩), v] w fun e w' => e = .returned .nilIface ∧ ∃ F' st', Jd d p n F' st' (c + 1) w' ∧ JAt j d from_ m (1 - act) (ep + 1) (1 + recs.length) (1 + secsAll recs) false w' ∧
      JOn st'.view from_ m (1 - act) (ep + 1) recs ∧ (∀ x, x < from_ ∨ from_ + 2 * m ≤ x → st'.view x = st.view x) ∧ Mv [p, j] F F' w w' := by
  have hn := h.n2
  have hll := length_le_secsAll recs
  obtain ⟨ss, hss, hsl, hsf⟩ := chop (1 + secsAll recs) (packs (ep + 1) 0 (title :: recs)) (by rw [length_packs, secsAll_cons, title_secs])
  obtain ⟨first, rest, rfl⟩ : ∃ first rest, ss = first :: rest := by
    cases ss with
    | nil => simp at hsl; omega
    | cons a b => exact ⟨a, b, rfl⟩
  have hfirst : first.length = 64 := hss first (List.mem_cons_self ..)
  have hrest : Wide rest := fun s hs => hss s (List.mem_cons_of_mem _ hs)
  rw [List.length_cons] at hsl
  rw [flat_cons] at hsf
  obtain ⟨more, hmore⟩ : ∃ more, more = if 0 + 1 + rest.length < m then [z64] else [] := ⟨_, rfl⟩
  have hml : more.length ≤ 1 := by rw [hmore]; split <;> simp
  obtain ⟨a, ha⟩ : ∃ a, a = from_ + (1 - act) * m + 0 := ⟨_, rfl⟩
  have ham : (1 - act) * m ≤ m := by have : 1 - act = 0 ∨ 1 - act = 1 := by omega
                                     rcases this with h0 | h0 <;> rw [h0] <;> omega
  have hmr : a + 1 + (rest ++ more).length ≤ from_ + (1 - act) * m + m := by
    rw [List.length_append, hmore]; split
    · simp; omega
    · simp; omega
  obtain ⟨mk, hmk⟩ : ∃ mk, mk = Lib.hasPrefix (Dk.readAt st.S st.ps a) [1] := ⟨_, rfl⟩
  have hl1 : ∀ q ∈ title :: recs, q.length ≤ 60000 := fun q hq => by
    rcases List.mem_cons.1 hq with rfl | h1
    · decide
    · exact hr q h1
  obtain ⟨a1, ha1⟩ : ∃ a1, a1 = 1 - act := ⟨_, rfl⟩
  obtain ⟨e1, he1⟩ : ∃ e1, e1 = ep + 1 := ⟨_, rfl⟩
  have hV := view_all (layActs a mk first (rest ++ more)) h.ok (layActs_good hfirst (fun s hs => by
    rcases List.mem_append.1 hs with h1 | h1
    · exact hrest s h1
    · rw [hmore] at h1; split at h1
      · exact wide_one length_z64 s h1
      · cases h1) (by omega)) h.free
  have hA := JOn.anew hact hep hO first rest more mk hr hsf hfirst hrest hfit hmore ha
  rw [← hV.2] at hA
  rw [← ha1] at hmr ham ha hA
  rw [← he1] at hsf hA hep
  have CR := Lib.hid (fun (y : World) (vv : Value) (hv : Below w.heap.size w y) (hTT : Texts vv (title :: recs) y) => reach_ok d p n F st from_ m a1 e1 0 0 j act ep nn u vv (title :: recs) first rest hfirst hrest hsf hm hn (by omega) (by omega) hep (by simp; omega) hl1
    more hmore a ha y (h.dsk.below hv) (h.fit hc _ (by omega)) mk hmk _ rfl (doAll_free _ h.free).1 (hJ.keep (hv.block j hJ.lt)) hjF hjp hTT)
  have CF := Lib.hid (fun (y : World) (hv : Below w.heap.size w y) => fit_ok (m - 1) v recs hr (by omega) (by omega) y (hT.below (Nat.le_refl _) hv))
  have CH := Lib.hid (fun (y : World) (hv : Below w.heap.size w y) => Half_is j d from_ m act ep nn u false (by omega) (by omega) y (hJ.keep (hv.block j hJ.lt)))
  have CC := Lib.hid (fun (y : World) (g gt : Nat) (hv : Below w.heap.size w y) (h1 : y.heap[g]? = some (.cells [Value.slice (some ⟨gt, 0, none⟩) 1 1, v].toArray 31 (0, 0))) (h2 : y.heap[gt]? = some (.cells [strv title].toArray 9 (0, 0))) => Concat_is g gt title v recs y h1 h2 (hT.below (Nat.le_refl _) hv) (by omega))
  have HJ := Lib.hid hJ
  have HH := Lib.hid h
  have HA := Lib.hid hA
  have hrl : (rest ++ more).length ≤ 9000 := by omega
  obtain ⟨c0, c1, c2, c3, c4, c5, c6, c7⟩ := hJ.cells
  have ea1 : IntKind.i64.wrap ((1 : Int) - (act : Int)) = (a1 : Int) := by rw [IntWalk.i64_in _ (by omega)]; omega
  have ee1 : IntKind.i64.wrap ((ep : Int) + 1) = (e1 : Int) := by rw [IntWalk.i64_in _ (by omega)]; omega
  have hb0 : ((ep : Int) == 4611686018427387904) = false := by rw [beq_eq_false_iff_ne]; omega
  obtain ⟨vb, vc, rfl⟩ := hT.slice
  have EA := Lib.hid ea1
  have EE := Lib.hid ee1
  have HT := Lib.hid hT
  have HA1 := Lib.hid (And.intro ha1 he1)
  clear hJ h hO hsf hfirst hrest hmore hmk hV hA hss ea1 ee1 hT hl1 hr ha1 he1
  go_enter Tryz.func22, Tryz.ntmps22
  go_wp2_with (first | (go_at_call 15; refine (CH.out _ (Below.refl _ _)).mono ?_; rintro e w1 ⟨rfl, rfl⟩) | (go_at_call 47; refine (CF.out _ (Below.refl _ _)).mono ?_; rintro e w2 ⟨rfl, hb2⟩; have HB2 := Lib.hid hb2; obtain ⟨c0, c1, c2, c3, c4, c5, c6, c7⟩ := (HJ.out.keep (hb2.block j HJ.out.lt)).cells; clear hb2) | fail)
  have HJ2 := Lib.hid (HJ.out.keep (HB2.out.block j HJ.out.lt))
  go_region_held_law (fun v => JpS j act ep v) (first | exact jp_of HJ2.out (Below.refl _ _).drew | exact jp_of HJ2.out ((Below.refl _ _).drew.alloc (Nat.le_refl _) _) | exact jp_of HJ2.out ((((((Below.refl _ _).drew.alloc (Nat.le_refl _) _).setCell (Nat.le_refl _) _).setCell (Nat.le_refl _) _).setCell (Nat.le_refl _) _).setCell (Nat.le_refl _) _)) (fail)
  rw [EA.out, EE.out]
  obtain ⟨s, hs⟩ : ∃ s, s = w2.heap.size := ⟨_, rfl⟩
  obtain ⟨wS, hwS⟩ : ∃ x, x = (w2.alloc (.cells #[Value.int IntKind.i64 a1, Value.int IntKind.i64 e1, Value.int IntKind.i64 0, Value.int IntKind.i64 0] 79)).drew := ⟨_, rfl⟩
  rw [← hwS, ← hs]
  have hsS : wS.heap[s]? = some (.cells (stV a1 e1 0 0).toArray 79 (0, 0)) := by rw [hwS, hs]; exact heap_alloc_new _ _
  have hbS : Below w.heap.size w wS := by rw [hwS]; exact (HB2.out.alloc HB2.out.size _).drew
  have HSS := Lib.hid hsS
  have HBS := Lib.hid hbS
  have hzS := hbS.size
  have hsw : w.heap.size ≤ s := by rw [hs]; exact HB2.out.size
  have hjl := HJ.out.lt
  have hpl := HH.out.dsk.pow.lt
  have hsF : s ∉ F := fun hm => by have := HH.out.dsk.Flt s hm; omega
  have hspj : s ∉ [p, j] := by simp; omega
  clear hwS hs hsS hbS c0 c1 c2 c3 c4 c5 c6 c7
  go_wp2_with fail
  have HBA := Lib.hid (show Below w.heap.size w ((wS.drew.alloc (.cells #[Value.string ⟨#[106, 111, 117, 114, 110, 97, 108]⟩] 9)).alloc (.cells #[Value.slice (some ⟨wS.heap.size, 0, none⟩) 1 1, Value.slice vb recs.length vc] 31)) from ((HBS.out.drew).alloc hzS _).alloc (by simp; omega) _)
  have HG1 := Lib.hid (show ((wS.drew.alloc (.cells #[Value.string ⟨#[106, 111, 117, 114, 110, 97, 108]⟩] 9)).alloc (.cells #[Value.slice (some ⟨wS.heap.size, 0, none⟩) 1 1, Value.slice vb recs.length vc] 31)).heap[wS.heap.size]? = some (.cells [strv title].toArray 9 (0, 0)) by
    unfold strv; rw [title_bs]; exact heap_alloc2_old wS.drew _ _)
  have HG2 := Lib.hid (show ((wS.drew.alloc (.cells #[Value.string ⟨#[106, 111, 117, 114, 110, 97, 108]⟩] 9)).alloc (.cells #[Value.slice (some ⟨wS.heap.size, 0, none⟩) 1 1, Value.slice vb recs.length vc] 31)).heap[wS.heap.size + 1]? = some (.cells [Value.slice (some ⟨wS.heap.size, 0, none⟩) 1 1, Value.slice vb recs.length vc].toArray 31 (0, 0)) from heap_alloc2_new wS.drew _ _)
  go_region_held_law (fun v => StS s a1 e1 0 0 v) (first | exact st_of HSS.out (Below.refl _ _).drew | exact st_of HSS.out ((Below.refl _ _).drew.alloc (Nat.le_refl _) _) | exact st_of HSS.out (((Below.refl _ _).drew.alloc (Nat.le_refl _) _).alloc (by simp) _) | exact S5 | exact S6) (first | (go_simp; go_at_call 52; refine (CC.out _ _ _ HBA.out HG2.out HG1.out).mono ?_; rintro e w5 ⟨v5, rfl, hown5, hb5⟩; have HO5 := Lib.hid hown5; have HB5 := Lib.hid (HBA.out.trans (hb5.mono HBA.out.size)); have hbx := ((((Below.refl wS.heap.size wS).drew.alloc (Nat.le_refl _) _).alloc (by simp) _).trans (hb5.mono (by simp; omega))); have S5 := st_of HSS.out hbx; have HS5 := Lib.hid ((hbx.block s (lt_of_heap HSS.out)).trans HSS.out); have HT5 := Lib.hid (Texts.of_own (l := title :: recs) (by rw [List.length_cons, Nat.add_comm]; exact hown5)); clear hown5 hb5 hbx) | (go_simp; go_at_call 48; refine (CR.out _ _ HB5.out HT5.out).mono ?_; rintro e w6 ⟨rfl, F6, hD6, hJ6, hM6⟩; have S6 := st_of ((hM6.block (lt_of_heap HS5.out) hspj hsF).trans HS5.out) (Below.refl _ _); have HD6 := Lib.hid hD6; have HJ6 := Lib.hid hJ6; have HM6 := Lib.hid ((Mv.below [p, j] F HB5.out).trans hM6); clear hD6 hJ6 hM6) | fail)
  all_goals
    go_wp2_with fail
    go_ret
    have ee1 : 0 + (title :: recs).length = 1 + recs.length := by simp; omega
    have ee2 : 0 + 1 + rest.length = 1 + secsAll recs := by omega
    have hJx := HJ6.out
    rw [ee1, ee2] at hJx
    rw [← HA1.out.1, ← HA1.out.2]
    exact ⟨rfl, F6, _, HH.out.laid hrl HD6.out, hJx, HA.out.1, HA.out.2, HM6.out⟩
end Go.Proofs.YtbljhodnpddpiaaGreatDoor

/- The walks of blank, Format and Open at a power without a fuse. -/
namespace Go.Proofs.YtbljhodnpddpiaaGreatDoor
open Go.RowKit

set_option maxRecDepth 100000 in
set_option maxHeartbeats 2000000 in
theorem blank_free (d p n : Nat) (F : List Nat) (st : St) (c from_ m : Nat) (hm : from_ + 2 * m ≤ n) (hm1 : 1 ≤ m) (hc : c ≤ 1000000) (w : World) (h : Jd d p n F st c w) :
    Calls Tryz.prog 33 #[rowV d from_ m, .int .i64 1] w fun e w' => e = .returned .nilIface ∧ ∃ F' st', Jp d p n F' st' (c + 1) w' ∧ (∀ x, st'.view x = if x = from_ + m then z64 else st.view x) ∧ Mv [p] F F' w w' := by
  have hn := h.n2
  obtain ⟨b, hb⟩ : ∃ b, b = from_ + m := ⟨_, rfl⟩
  have hbn : b < n := by omega
  have hD := does_free h.free (.put b z64)
  have hV := view_did h.ok (o := .put b z64) ⟨hbn, length_z64⟩
  have CS := Lib.hid (fun y : World => (show Calls Tryz.prog 57 #[.agg #[.pointer (some ⟨d, 0, none⟩), .int .i64 from_, .int .i64 m], .int .i64 1] y (fun e w' => e = .returned (.int .i64 b) ∧ Below y.heap.size y w') by rw [hb]; exact start_1 d from_ m (by omega) y))
  have CW := Lib.hid (fun (q : Nat) (y : World) (hp : Pen d p q n F st true y) => write_any d p q n F st true b [z64] (wide_one length_z64) (by rw [List.length_singleton]; omega) hn y hp (h.jp.fit hc _ (by simp)))
  rw [show ([z64] : List (List UInt8)).flatten = z64 from by simp, show doAll (st, true) (puts b [z64]) = (st.did (.put b z64), true) from hD.1] at CW
  have H := Lib.hid h
  have HV := Lib.hid hV
  have HD2 := Lib.hid hD.2
  rw [← hb]
  have hFl := h.dsk.Flt
  have hpl := h.dsk.pow.lt
  clear h hV hD hb
  unfold rowV
  go_enter Tryz.func33, Tryz.ntmps33
  go_wp2_with (first | (refine wpList_alloc rfl 113 rfl _ allocPen ?_; go_frame) | fail)
  obtain ⟨q, hq⟩ : ∃ q, q = w.heap.size + 1 := ⟨_, rfl⟩
  obtain ⟨w2, hw2⟩ : ∃ x, x = (w.alloc (.cells #[Value.pointer (some ⟨d, 0, none⟩), .int .i64 from_, .int .i64 m] 75)).alloc (.cells #[Value.pointer (some ⟨d, 0, none⟩), .nilIface] 113) := ⟨_, rfl⟩
  rw [← hq, ← hw2]
  have hb2 : Below w.heap.size w w2 := by rw [hw2]; exact ((Below.refl _ _).alloc (Nat.le_refl _) _).alloc (by simp) _
  have hp2 : w2.heap[q]? = some (.cells [Value.pointer (some ⟨d, 0, none⟩), .nilIface].toArray 113 (0, 0)) := by rw [hw2, hq]; exact heap_alloc2_new _ _ _
  have hP2 : Pen d p q n F st true w2 := Pen.new (H.out.dsk.below hb2) hp2 (fun hm => by have := hFl q hm; omega) (by omega)
  have HP := Lib.hid hP2
  have HB := Lib.hid hb2
  have HQ := Lib.hid hq
  clear hw2 hp2 hP2 hb2 hq
  go_wp2_with (first | (go_at_call 57; refine (CS.out _).mono ?_; rintro e w3 ⟨rfl, hb3⟩; have HP3 := Lib.hid (HP.out.below hb3); have HB3 := Lib.hid (HB.out.trans (hb3.mono HB.out.size)); clear hb3) | (go_at_call 58; refine (empty_any _).mono ?_; rintro e w4 ⟨rfl, hb4⟩; have HP4 := Lib.hid (HP3.out.below hb4); have HB4 := Lib.hid (HB3.out.trans (hb4.mono HB3.out.size)); clear hb4) | (go_at_call 56; refine (CW.out q _ HP4.out).mono ?_; rintro e w5 ⟨rfl, F5, h5, m5⟩; have HP5 := Lib.hid h5; have HM5 := Lib.hid ((Mv.below [q, p] F HB4.out).trans m5); have c1 : w5.cell? ⟨q, 1, none⟩ = some .nilIface := (by rw [cell_of_list h5.fine]; rfl); clear h5 m5) | (go_at_call 59; refine (wrapped_nil _).mono ?_; rintro e w6 ⟨rfl, hb6⟩; have HB6 := Lib.hid hb6; clear hb6) | fail)
  go_ret
  have hqw := HQ.out
  refine ⟨rfl, F5, st.did (.put b z64), ⟨HP5.out.dsk.below HB6.out, HD2.out, ?_, ?_, ?_⟩, fun x => ?_, ?_⟩
  · show (st.ps ++ [(b, z64)]).length ≤ 5
    rw [H.out.ps]; simp
  · have := H.out.a0; show 0 ≤ st.acts + 1; omega
  · have := H.out.a1; show st.acts + 1 ≤ _; push_cast; omega
  · rw [HV.out]; rfl
  · exact (HM5.out.more (Y := [p]) (fun x hx => by
      simp only [List.mem_cons, List.not_mem_nil, or_false] at hx
      rcases hx with rfl | rfl
      · exact Or.inr (by omega)
      · exact Or.inl (by simp))).trans (Mv.below _ _ HB6.out)
theorem Mv.weak {X Y F F' : List Nat} {w w' : World} (h : Mv X F F' w w') (hs : ∀ x ∈ X, x ∈ Y) : Mv Y F F' w w' := h.more (fun x hx => Or.inl (hs x hx))
set_option maxRecDepth 100000 in
set_option maxHeartbeats 2000000 in
theorem Format_free (d p n : Nat) (F : List Nat) (st : St) (c from_ m : Nat) (fi si : Int) (hfi : fi = from_) (hsi : si = (2 * m : Nat)) (hm : from_ + 2 * m ≤ n) (hm2 : 2 ≤ m) (hc : c ≤ 100000) (w : World) (h : Jd d p n F st c w) :
    Calls Tryz.prog 10 #[.pointer (some ⟨d, 0, none⟩), .int .i64 fi, .int .i64 si] w fun e w' => ∃ j F' st', w.heap.size ≤ j ∧ e = .returned (.tuple #[.pointer (some ⟨j, 0, none⟩), .nilIface]) ∧ j ∉ F' ∧ Jd d p n F' st' (c + 2) w' ∧ JAt j d from_ m 0 1 1 1 false w' ∧
      JOn st'.view from_ m 0 1 [] ∧ (∀ x, x < from_ ∨ from_ + 2 * m ≤ x → st'.view x = st.view x) ∧ Mv [p] F F' w w' := by
  have hn := h.n2
  subst hfi hsi
  have CR := Lib.hid (rowOf_ok d p n F st from_ m hm2 hm hn w h.dsk.liv)
  unfold rowV at CR
  have CB := Lib.hid (fun (y : World) (hy : Below w.heap.size w y) => blank_free d p n F st c from_ m hm (by omega) (by omega) y (h.below hy))
  unfold rowV at CB
  have H := Lib.hid h
  have hFl := h.dsk.Flt
  have hpl := h.dsk.pow.lt
  clear h
  go_enter Tryz.func10, Tryz.ntmps10
  go_wp2_with (first | (go_at_call 32; refine CR.out.mono ?_; rintro e w1 ⟨rfl, hb1⟩; have HB1 := Lib.hid hb1; clear hb1) | fail)
  obtain ⟨j, hj⟩ : ∃ j, j = w1.heap.size + 1 := ⟨_, rfl⟩
  obtain ⟨w2, hw2⟩ : ∃ x, x = (w1.alloc (.cells #[Value.pointer (some ⟨d, 0, none⟩), .int .i64 from_, .int .i64 m] 75)).alloc (.cells #[Value.pointer (some ⟨d, 0, none⟩), .int .i64 from_, .int .i64 m, .int .i64 1, .int .i64 0, .int .i64 0, .int .i64 0, .bool false] 81) := ⟨_, rfl⟩
  rw [← hj, ← hw2]
  have hz1 := HB1.out.size
  have hb2 : Below w.heap.size w w2 := by rw [hw2]; exact (HB1.out.alloc hz1 _).alloc (by simp; omega) _
  have hJ2 : JAt j d from_ m 1 0 0 0 false w2 := by rw [hw2, hj]; exact heap_alloc2_new _ _ _
  have hjw : w.heap.size ≤ j := by omega
  have hjF : j ∉ F := fun hm => by have := hFl j hm; omega
  have hjp : j ≠ p := by omega
  have HB2 := Lib.hid hb2
  have HJ2 := Lib.hid hJ2
  clear hw2 hb2 hJ2 hj
  refine (CB.out _ HB2.out).mono ?_
  rintro e w3 ⟨rfl, F3, st3, hP3, hV3, hM3⟩
  have hz2 := HB2.out.size
  have hjF3 : j ∉ F3 := fun hm => by
    rcases hM3.foot j hm with h1 | h1
    · exact hjF h1
    · have := HJ2.out.lt; omega
  have HJ3 := Lib.hid (HJ2.out.keep (hM3.block HJ2.out.lt (by simpa using hjp) hjF))
  have HP3 := Lib.hid hP3
  have HV3 := Lib.hid hV3
  have HM3 := Lib.hid ((Mv.below [p] F HB2.out).trans hM3)
  clear hP3 hV3 hM3
  go_wp2_with fail
  refine (Reset_free d p n F3 st3 (c + 1) from_ m 1 0 0 0 [] j _ hm (by omega) (by omega) (by omega) (by intro r hr; cases hr) (by rw [secsAll_nil]; omega) _ HP3.out HJ3.out ⟨0, by rw [HV3.out, Nat.one_mul, if_pos rfl]; exact epoch_z, by omega⟩ hjF3 hjp (Texts.nil _)).mono ?_
  rintro e w4 ⟨rfl, F4, st4, hD4, hJ4, hO4, hV4, hM4⟩
  have hjF4 : j ∉ F4 := fun hm => by
    rcases hM4.foot j hm with h1 | h1
    · exact hjF3 h1
    · have := HJ3.out.lt; omega
  have HD4 := Lib.hid hD4
  have HJ4 := Lib.hid hJ4
  have HO4 := Lib.hid hO4
  have HV4 := Lib.hid hV4
  have HM4 := Lib.hid hM4
  clear hD4 hJ4 hO4 hV4 hM4
  go_wp2_with fail
  go_ret2
  have hJx := HJ4.out
  rw [secsAll_nil] at hJx
  refine ⟨j, F4, st4, hjw, rfl, hjF4, HD4.out, hJx, HO4.out, fun x hx => ?_, ?_⟩
  · rw [HV4.out x hx, HV3.out, if_neg (by omega)]
  · exact ((HM3.out.weak (Y := [p, j]) (fun x hx => by simp at hx; simp [hx])).trans HM4.out).more (fun x hx => by
      simp only [List.mem_cons, List.not_mem_nil, or_false] at hx
      rcases hx with rfl | rfl
      · exact Or.inl (by simp)
      · exact Or.inr hjw)
set_option maxRecDepth 100000 in
set_option maxHeartbeats 2000000 in
theorem Open_is (d p n : Nat) (F : List Nat) (st : St) (c from_ m act ep : Nat) (recs : List (List UInt8)) (fi si : Int) (hfi : fi = from_) (hsi : si = (2 * m : Nat)) (hm : from_ + 2 * m ≤ n) (hm2 : 2 ≤ m) (w : World) (h : Jd d p n F st c w) (hO : JOn st.view from_ m act ep recs) :
    Calls Tryz.prog 21 #[.pointer (some ⟨d, 0, none⟩), .int .i64 fi, .int .i64 si] w fun e w' => ∃ j v, w.heap.size ≤ j ∧ e = .returned (.tuple #[.pointer (some ⟨j, 0, none⟩), v, .nilIface]) ∧ Jd d p n F st c w' ∧ JAt j d from_ m act ep (1 + recs.length) (1 + secsAll recs) false w' ∧
      w'.ownsRow w.heap.size 9 1 v recs.length (recs.map strv) ∧ Below w.heap.size w w' := by
  have hn := h.n2
  subst hfi hsi
  obtain ⟨tail, hR⟩ := hO.right h.ps
  have CR := Lib.hid (rowOf_ok d p n F st from_ m hm2 hm hn w h.dsk.liv)
  unfold rowV at CR
  have CFI := Lib.hid (fun (y : World) (hy : Below w.heap.size w y) => find_is d p n F st from_ m act ep recs tail hm hm2 hn h.ps hR y (h.dsk.below hy))
  unfold rowV at CFI
  have H := Lib.hid h
  have hll := length_le_secsAll recs
  have hus := hO.used
  clear h hO hR
  go_enter Tryz.func21, Tryz.ntmps21
  go_wp2_with (first | (go_at_call 32; refine CR.out.mono ?_; rintro e w1 ⟨rfl, hb1⟩; have HB1 := Lib.hid hb1; clear hb1) | fail)
  have hz1 := HB1.out.size
  refine (CFI.out _ (HB1.out.alloc hz1 _)).mono ?_
  rintro e w3 ⟨v, rfl, hown, hD3, hb3⟩
  have hz3 := hb3.size
  have HB3 := Lib.hid ((HB1.out.alloc hz1 _).trans (hb3.mono (by simp; omega)))
  have HO3 := Lib.hid hown
  have g0 : w3.heap[w1.heap.size]? = some (.cells [Value.pointer (some ⟨d, 0, none⟩), .int .i64 from_, .int .i64 m].toArray 75 (0, 0)) := (hb3.block w1.heap.size (by simp)).trans (heap_alloc_new _ _)
  have c0 : w3.cell? ⟨w1.heap.size, 0, none⟩ = some (.pointer (some ⟨d, 0, none⟩)) := by rw [cell_of_list g0]; rfl
  have c1 : w3.cell? ⟨w1.heap.size, 1, none⟩ = some (.int .i64 from_) := by rw [cell_of_list g0]; rfl
  have c2 : w3.cell? ⟨w1.heap.size, 2, none⟩ = some (.int .i64 m) := by rw [cell_of_list g0]; rfl
  have hlt := lt_of_heap g0
  have HD3 := Lib.hid hD3
  clear hown hD3 hb3 g0
  have hz30 := HB3.out.size
  unfold stV
  go_wp2_with fail
  go_ret3
  refine ⟨w3.heap.size + 1, v, by omega, rfl, ?_, ?_, own_low (own_below (own_below HO3.out ((Below.refl _ _).alloc (Nat.le_refl _) _)) ((Below.refl _ _).alloc (Nat.le_refl _) _)) (by simp; omega), (HB3.out.alloc hz30 _).alloc (by simp; omega) _⟩
  · exact ⟨(HD3.out.below ((Below.refl _ _).alloc (Nat.le_refl _) _)).below ((Below.refl _ _).alloc (Nat.le_refl _) _), H.out.free, H.out.ps, H.out.a0, H.out.a1⟩
  · exact heap_alloc2_new _ _ _
end Go.Proofs.YtbljhodnpddpiaaGreatDoor

/- The walks of what the statements use: a rack, texts, picks, errors, lists that are the same. -/
namespace Go.Proofs.YtbljhodnpddpiaaGreatDoor
open Go.RowKit Go.Extern.Stop Go.Stop Go.Extern

/-- A disk that a call made itself, at a power without a fuse. -/
structure Lw (w0 : World) (d p n : Nat) (F : List Nat) (st : St) (c : Nat) (w : World) : Prop where
  jd : Jd d p n F st c w
  old : Below w0.heap.size w0 w
  pn : w0.heap.size ≤ p
  fn : ∀ x ∈ F, w0.heap.size ≤ x
section
variable {w0 : World} {d p n : Nat} {F F' : List Nat} {st st' : St} {c c' : Nat} {w w' : World}
theorem Lw.below (h : Lw w0 d p n F st c w) (hb : Below w.heap.size w w') : Lw w0 d p n F st c w' := ⟨h.jd.below hb, h.old.trans (hb.mono h.old.size), h.pn, h.fn⟩
theorem Lw.mv {X : List Nat} (h : Lw w0 d p n F st c w) (hJ : Jd d p n F' st' c' w') (hM : Mv X F F' w w') (hX : ∀ x ∈ X, w0.heap.size ≤ x) : Lw w0 d p n F' st' c' w' := by
  have hz := h.old.size
  refine ⟨hJ, h.old.trans ((hM.kept.mono hz (fun _ _ hm => hm)).below (fun k hk => ?_)), h.pn, fun x hx => ?_⟩
  · rcases List.mem_append.1 hk with h1 | h1
    · exact hX k h1
    · exact h.fn k h1
  · rcases hM.foot x hx with h1 | h1
    · exact h.fn x h1
    · omega
end
theorem jrack_ok (w : World) : Calls Tryz.prog 5 #[] w fun e w' => ∃ p d F st, e = .returned (.tuple #[.pointer (some ⟨p, 0, none⟩), .pointer (some ⟨d, 0, none⟩)]) ∧ Lw w d p 64 F st 0 w' := by
  go_enter Tryz.func5, Tryz.ntmps5
  go_wp2_with fail
  refine (NewPower_any _).mono ?_
  rintro e w1 ⟨p, hp, rfl, hP, hb1⟩
  have HP := Lib.hid hP
  have HB := Lib.hid hb1
  clear hP hb1
  go_wp2_with fail
  refine (New_ok p false (-1) 0 64 (by omega) (by omega) _ HP.out).mono ?_
  rintro e w2 ⟨d, F, rfl, hL, hF, hb2⟩
  have HL := Lib.hid hL
  have HF := Lib.hid hF
  have HB2 := Lib.hid hb2
  clear hL hF hb2
  go_wp2_with fail
  go_ret2
  have hz := HB.out.size
  exact ⟨p, d, F, ⟨blankS 64, [], -1, 0⟩, rfl, ⟨⟨⟨HL.out, HP.out.keep (HB2.out.block p HP.out.lt)⟩, rfl, rfl, Int.le_refl _, by simp⟩, HB.out.trans (HB2.out.mono hz), hp, fun x hx => Nat.le_trans hz (HF.out x hx)⟩⟩
theorem text_is (k : Nat) (hk : k ≤ 100000) (w : World) : Calls Tryz.prog 7 #[.int .i64 k] w fun e w' => e = .returned (.string (bs (Fr.zero k))) ∧ Below w.heap.size w w' := by
  have hl : (Fr.zero k).length = k := Fr.length_zero k
  have HL := Lib.hid hl
  clear hl
  go_enter Tryz.func7, Tryz.ntmps7
  go_wp2_with (first | (refine wpList_make_zb rfl _ _ rfl k (by omega) rfl rfl ?_; intro w3 h3 b3 s3; have R3 := Lib.hid (range_of_list h3.out); go_frame) | (refine wpList_bytes_string rfl 59 9 _ rfl 5 w.heap.size 0 k k rfl (Fr.zero k) HL.out Tryz.underlying59 Tryz.underlying5 Tryz.underlying9 R3.out ?_; go_frame) | fail)
  go_ret
  exact ⟨by rw [← bs_eq]; rfl, b3.out⟩
set_option maxHeartbeats 1000000 in
theorem is_12 (g : Nat) (w : World) (h : FaultAt g 12 0 w) :
    Calls Tryz.prog 20 #[.iface 92 (.pointer (some ⟨g, 0, none⟩)), .int .i64 12] w fun e w' => e = .returned (.bool true) ∧ w = w' := by
  have c0 : w.cell? ⟨g, 0, none⟩ = some (.int .i64 12) := by rw [cell_of_list h]; rfl
  have c1 : w.cell? ⟨g, 1, none⟩ = some (.int .i64 0) := by rw [cell_of_list h]; rfl
  have c2 : w.cell? ⟨g, 2, none⟩ = some .nilIface := by rw [cell_of_list h]; rfl
  have af := assert_fault
  have H := Lib.hid h
  clear h
  go_enter Tryz.func20, Tryz.ntmps20
  go_wp2_with (go_at_call 49; refine (errorsIs_true g 12 0 _ H.out).mono ?_; rintro e w' ⟨rfl, rfl⟩)
  go_ret
  exact ⟨rfl, rfl⟩
/-- Some texts of a list, cut. -/
def cutAll (l : List (List UInt8)) (many long : Nat) : List (List UInt8) := (l.take many).map fun s => s.take long
theorem cutAll_zero (l : List (List UInt8)) (long : Nat) : cutAll l 0 long = [] := by simp [cutAll]
theorem cutAll_succ {l : List (List UInt8)} {i : Nat} (long : Nat) (h : i < l.length) : cutAll l (i + 1) long = cutAll l i long ++ [(l.getD i []).take long] := by
  rw [cutAll, List.take_succ_eq_append_getElem h, List.map_append, List.getD, List.getElem?_eq_getElem h]; rfl
theorem length_cutAll (l : List (List UInt8)) (n long : Nat) : (cutAll l n long).length ≤ n := by rw [cutAll, List.length_map, List.length_take]; omega
theorem length_cutAll' {l : List (List UInt8)} {n : Nat} (long : Nat) (h : n ≤ l.length) : (cutAll l n long).length = n := by rw [cutAll, List.length_map, List.length_take]; omega
theorem cutAll_short (l : List (List UInt8)) (n long : Nat) : ∀ s ∈ cutAll l n long, s.length ≤ long := fun s hs => by
  obtain ⟨t, _, rfl⟩ := List.mem_map.1 hs
  rw [List.length_take]; omega
theorem cutAll_all {l : List (List UInt8)} {n m : Nat} (long : Nat) (h : l.length ≤ n) (hm : l.length ≤ m) : cutAll l n long = cutAll l m long := by
  rw [cutAll, cutAll, List.take_of_length_le h, List.take_of_length_le hm]
/-- A list of texts that a statement is given. -/
def Given (v : Value) (l : List (List UInt8)) (w : World) : Prop := (l = [] ∧ ∃ b cap, v = .slice b 0 cap) ∨ Texts v l w
theorem Given.slice {v : Value} {l : List (List UInt8)} {w : World} (h : Given v l w) : ∃ b cap, v = .slice b l.length cap := by
  rcases h with ⟨rfl, h⟩ | h
  · exact h
  · exact h.slice
theorem Given.below {v : Value} {l : List (List UInt8)} {w w' : World} (h : Given v l w) {B : Nat} (hB : w.heap.size ≤ B) (hb : Below B w w') : Given v l w' := by
  rcases h with h | h
  · exact Or.inl h
  · exact Or.inr (h.below hB hb)
set_option maxRecDepth 100000 in
set_option maxHeartbeats 2000000 in
theorem same_is (v1 v2 : Value) (l : List (List UInt8)) (hll : l.length ≤ 1000000) (w : World) (h1 : Texts v1 l w) (h2 : Texts v2 l w) :
    Calls Tryz.prog 62 #[v1, v2] w fun e w' => e = .returned (.bool true) ∧ Below w.heap.size w w' := by
  obtain ⟨b1, cap1, rfl⟩ := h1.slice
  obtain ⟨b2, cap2, rfl⟩ := h2.slice
  have H1 := Lib.hid h1
  have H2 := Lib.hid h2
  clear h1 h2
  go_enter Tryz.func62, Tryz.ntmps62
  go_wp2_with fail
  go_loopw [5] (fun iv wr => ∃ k : Nat, k ≤ l.length ∧ iv = .int .i64 k ∧ Below w.heap.size w wr) (fun iv _ => l.length - (intOf iv).toNat)
  case atStart => exact ⟨0, by omega, rfl, Below.refl _ _⟩
  case round =>
    obtain ⟨k, hk, rfl, hB⟩ := hrel
    by_cases hlt : k < l.length
    · rcases H1.out with ⟨_, h0⟩ | ⟨g1, o1, c1, hv1, hg1, hc1⟩
      · rw [h0] at hlt; simp at hlt
      rcases H2.out with ⟨_, h0⟩ | ⟨g2, o2, c2, hv2, hg2, hc2⟩
      · rw [h0] at hlt; simp at hlt
      injection hv1 with hv1 _ hv3
      injection hv2 with hv4 _ hv6
      subst hv1 hv4
      have e1 := (hB.cell (p := ⟨g1, o1 + k, none⟩) hg1).trans (hc1 k hlt)
      have e2 := (hB.cell (p := ⟨g2, o2 + k, none⟩) hg2).trans (hc2 k hlt)
      unfold strv at e1 e2
      obtain ⟨x, hx⟩ : ∃ x, x = bs (l.getD k []) := ⟨_, rfl⟩
      rw [← hx] at e1 e2
      have d1 : wr.drew.cell? ⟨g1, o1 + k, none⟩ = some (.string x) := e1
      have d2 : wr.drew.cell? ⟨g2, o2 + k, none⟩ = some (.string x) := e2
      have HB := Lib.hid hB
      clear hB hx hc1 hc2 hv3 hv6
      go_wp2_with fail
      go_region
      all_goals
        go_wp2_with fail
        go_roundw
        case rel => exact ⟨k + 1, by omega, by go_num, HB.out.drew⟩
        case measure => simp [intOf]; omega
    · have HB := Lib.hid hB
      clear hB
      go_wp2_with fail
      go_ret
      exact ⟨rfl, HB.out⟩
set_option maxRecDepth 100000 in
set_option maxHeartbeats 2000000 in
theorem Append_full (d from_ m a e n u j : Nat) (r : List UInt8) (hr : r.length ≤ 60000) (hu : u ≤ m) (hm : m ≤ 8192) (hfull : m - u < secs r) (w : World) (hJ : JAt j d from_ m a e n u false w) :
    Calls Tryz.prog 19 #[.pointer (some ⟨j, 0, none⟩), .string (bs r)] w (Refused 12 0 id w) := by
  have CF := Lib.hid (fun (v : World) (vv : Value) (hT : Texts vv [r] v) => fit_full (m - u) vv [r] (by intro q hq; simp at hq; rw [hq]; exact hr) (by simp) (by rw [secsAll_cons, secsAll_nil]; omega) v hT)
  have CL := Lib.hid (fun (v : World) (hv : Below w.heap.size w v) => Left_is j d from_ m a e n u false hu hm v (hJ.keep (hv.block j hJ.lt)))
  obtain ⟨c0, c1, c2, c3, c4, c5, c6, c7⟩ := hJ.cells
  obtain ⟨q, hq⟩ : ∃ q, q = bs r := ⟨_, rfl⟩
  have HQ := Lib.hid hq
  rw [← hq]
  clear hJ hq
  go_enter Tryz.func19, Tryz.ntmps19
  go_wp2_with (first | (go_at_call 13; refine (CL.out _ (Below.refl _ _)).mono ?_; rintro e w1 ⟨rfl, hb1⟩; have HB1 := Lib.hid hb1; clear hb1) | fail)
  refine (CF.out _ _ (texts_one w1 HQ.out)).mono ?_
  rintro e w2 ⟨g, hg, rfl, hf, hb2⟩
  have hz1 := HB1.out.size
  have HF := Lib.hid hf
  have HB2 := Lib.hid ((HB1.out.alloc hz1 _).trans (hb2.mono (by simp; omega)))
  clear hf hb2
  go_wp2_with fail
  go_ret
  exact ⟨g, by simp at hg; omega, rfl, HF.out, HB2.out⟩
theorem textsBlock_own (v : Value) : textsBlock v = v.ownBlock := by
  cases v with
  | slice a _ _ => cases a <;> rfl
  | _ => rfl
theorem Texts.mv {v : Value} {l : List (List UInt8)} {w w' : World} {X F F' : List Nat} (h : Texts v l w) (hM : Mv X F F' w w') (hX : ∀ g, textsBlock v = some g → g ∉ X ∧ g ∉ F) : Texts v l w' :=
  h.keep hM.size (fun g hg => hM.block (h.lt hg) (hX g hg).1 (hX g hg).2)
/-- A journal on the disk. -/
structure Jrn (w0 : World) (d p : Nat) (F : List Nat) (st : St) (j from_ m act ep : Nat) (recs : List (List UInt8)) (w : World) : Prop where
  at_ : JAt j d from_ m act ep (1 + recs.length) (1 + secsAll recs) false w
  on : JOn st.view from_ m act ep recs
  jF : j ∉ F
  jp : j ≠ p
  jn : w0.heap.size ≤ j
theorem Jrn.below {w0 : World} {d p : Nat} {F : List Nat} {st : St} {j from_ m act ep : Nat} {recs : List (List UInt8)} {w w' : World} (h : Jrn w0 d p F st j from_ m act ep recs w) (hb : Below w.heap.size w w') : Jrn w0 d p F st j from_ m act ep recs w' :=
  ⟨h.at_.keep (hb.block j h.at_.lt), h.on, h.jF, h.jp, h.jn⟩
/-- What is not of the disk's blocks stays so. -/
theorem Mv.away {X F F' : List Nat} {w w' : World} (h : Mv X F F' w w') {g : Nat} (hg : g < w.heap.size) (hF : g ∉ F) : g ∉ F' := fun hm => by
  rcases h.foot g hm with h1 | h1
  · exact hF h1
  · omega
/-- Another journal, on other sectors, is as it was. -/
theorem Jrn.other {w0 : World} {d p : Nat} {F F' : List Nat} {st st' : St} {j from_ m act ep : Nat} {recs : List (List UInt8)} {w w' : World} {X : List Nat} (h : Jrn w0 d p F st j from_ m act ep recs w) (hM : Mv X F F' w w') (hX : j ∉ X) (hm : 1 ≤ m) (hV : ∀ x, from_ ≤ x → x < from_ + 2 * m → st'.view x = st.view x) : Jrn w0 d p F' st' j from_ m act ep recs w' :=
  ⟨h.at_.keep (hM.block h.at_.lt hX h.jF), h.on.congr hm hV, hM.away h.at_.lt h.jF, h.jp, h.jn⟩
section
variable {w0 : World} {d p n : Nat} {F : List Nat} {st : St} {c : Nat} {w : World}
theorem Lw.format (h : Lw w0 d p n F st c w) (from_ m : Nat) (fi si : Int) (hfi : fi = from_) (hsi : si = (2 * m : Nat)) (hm : from_ + 2 * m ≤ n) (hm2 : 2 ≤ m) (hc : c ≤ 100000) :
    Calls Tryz.prog 10 #[.pointer (some ⟨d, 0, none⟩), .int .i64 fi, .int .i64 si] w fun e w' => ∃ j F' st', w.heap.size ≤ j ∧ e = .returned (.tuple #[.pointer (some ⟨j, 0, none⟩), .nilIface]) ∧ Lw w0 d p n F' st' (c + 2) w' ∧ Jrn w0 d p F' st' j from_ m 0 1 [] w' ∧
      (∀ x, x < from_ ∨ from_ + 2 * m ≤ x → st'.view x = st.view x) ∧ Mv [p] F F' w w' := by
  refine (Format_free d p n F st c from_ m fi si hfi hsi hm hm2 hc w h.jd).mono ?_
  rintro e w' ⟨j, F', st', hj, rfl, hjF, hD, hA, hO, hV, hM⟩
  have hz := h.old.size
  have hp := h.jd.dsk.pow.lt
  exact ⟨j, F', st', hj, rfl, h.mv hD hM (fun x hx => by simp at hx; rw [hx]; exact h.pn), ⟨by rw [secsAll_nil]; exact hA, hO, hjF, by omega, by omega⟩, hV, hM⟩
theorem Lw.append (h : Lw w0 d p n F st c w) {j from_ m act ep : Nat} {recs : List (List UInt8)} (hj : Jrn w0 d p F st j from_ m act ep recs w) (r : List UInt8) (hm : from_ + 2 * m ≤ n) (hc : c ≤ 1000000) (hr : r.length ≤ 60000) (hfit : 1 + secsAll recs + secs r ≤ m) :
    Calls Tryz.prog 19 #[.pointer (some ⟨j, 0, none⟩), .string (bs r)] w fun e w' => e = .returned .nilIface ∧ ∃ F' st', Lw w0 d p n F' st' (c + 1) w' ∧ Jrn w0 d p F' st' j from_ m act ep (recs ++ [r]) w' ∧
      (∀ x, x < from_ ∨ from_ + 2 * m ≤ x → st'.view x = st.view x) ∧ Mv [p, j] F F' w w' := by
  refine (Append_free d p n F st c from_ m act ep recs j r hm hc hr hfit w h.jd hj.at_ hj.on hj.jF hj.jp).mono ?_
  rintro e w' ⟨rfl, F', st', hD, hA, hO, hV, hM⟩
  exact ⟨rfl, F', st', h.mv hD hM (fun x hx => by
    simp only [List.mem_cons, List.not_mem_nil, or_false] at hx
    rcases hx with rfl | rfl
    · exact h.pn
    · exact hj.jn), ⟨hA, hO, hM.away hj.at_.lt hj.jF, hj.jp, hj.jn⟩, hV, hM⟩
theorem Lw.reset (h : Lw w0 d p n F st c w) {j from_ m act ep : Nat} {recs0 : List (List UInt8)} (hj : Jrn w0 d p F st j from_ m act ep recs0 w) (v : Value) (recs : List (List UInt8)) (hm : from_ + 2 * m ≤ n) (hc : c ≤ 1000000) (hep : ep + 1 ≤ 4611686018427387904) (hr : ∀ r ∈ recs, r.length ≤ 60000) (hfit : 1 + secsAll recs ≤ m) (hT : Texts v recs w) :
    Calls Tryz.prog 22 #[.pointer (some ⟨j, 0, none⟩), v] w fun e w' => e = .returned .nilIface ∧ ∃ F' st', Lw w0 d p n F' st' (c + 1) w' ∧ Jrn w0 d p F' st' j from_ m (1 - act) (ep + 1) recs w' ∧
      (∀ x, x < from_ ∨ from_ + 2 * m ≤ x → st'.view x = st.view x) ∧ Mv [p, j] F F' w w' := by
  refine (Reset_free d p n F st c from_ m act ep _ _ recs j v hm hc hj.on.a1 hep hr hfit w h.jd.jp hj.at_ ⟨ep, by rw [hj.on.head]; exact epoch_head ep hj.on.e1 hj.on.e2, by omega⟩ hj.jF hj.jp hT).mono ?_
  rintro e w' ⟨rfl, F', st', hD, hA, hO, hV, hM⟩
  exact ⟨rfl, F', st', h.mv hD hM (fun x hx => by
    simp only [List.mem_cons, List.not_mem_nil, or_false] at hx
    rcases hx with rfl | rfl
    · exact h.pn
    · exact hj.jn), ⟨hA, hO, hM.away hj.at_.lt hj.jF, hj.jp, hj.jn⟩, hV, hM⟩
theorem Lw.open_ (h : Lw w0 d p n F st c w) {j from_ m act ep : Nat} {recs : List (List UInt8)} (hj : Jrn w0 d p F st j from_ m act ep recs w) (fi si : Int) (hfi : fi = from_) (hsi : si = (2 * m : Nat)) (hm : from_ + 2 * m ≤ n) (hm2 : 2 ≤ m) :
    Calls Tryz.prog 21 #[.pointer (some ⟨d, 0, none⟩), .int .i64 fi, .int .i64 si] w fun e w' => ∃ k v, e = .returned (.tuple #[.pointer (some ⟨k, 0, none⟩), v, .nilIface]) ∧ Texts v recs w' ∧ (∀ g, textsBlock v = some g → w.heap.size ≤ g) ∧ Lw w0 d p n F st c w' ∧ Jrn w0 d p F st j from_ m act ep recs w' ∧ Below w.heap.size w w' := by
  refine (Open_is d p n F st c from_ m act ep recs fi si hfi hsi hm hm2 w h.jd hj.on).mono ?_
  rintro e w' ⟨k, v, hk, rfl, hD, hA, hown, hb⟩
  exact ⟨k, v, rfl, Texts.of_own hown, fun g hg => (hown.lt g (by rw [← textsBlock_own]; exact hg)).1, h.below hb, hj.below hb, hb⟩
end
end Go.Proofs.YtbljhodnpddpiaaGreatDoor

/- The walk of the chapter's example. -/
namespace Go.Proofs.YtbljhodnpddpiaaGreatDoor
open Go.RowKit

theorem secs_40 : secs (Fr.zero 40) = 1 := by rw [secs_eq, Fr.length_zero]
theorem secs_41 : secs (Fr.zero 41) = 2 := by rw [secs_eq, Fr.length_zero]
theorem secs_x : secs [120] = 1 := by rw [secs_eq]; rfl
theorem secs_y : secs [121] = 1 := by rw [secs_eq]; rfl
set_option maxRecDepth 100000 in
set_option maxHeartbeats 4000000 in
theorem jknown_true (w : World) : Calls Tryz.prog 4 #[] w fun e w' => e = .returned (.bool true) ∧ Below w.heap.size w w' := by
  have n3 : secsAll [Fr.zero 40, Fr.zero 41] = 3 := by rw [secsAll_cons, secsAll_cons, secsAll_nil, secs_40, secs_41]
  have n1 : secsAll [Fr.zero 40] = 1 := by rw [secsAll_cons, secsAll_nil, secs_40]
  have nx : secsAll [[120]] = 1 := by rw [secsAll_cons, secsAll_nil, secs_x]
  have N3 := Lib.hid n3
  have N1 := Lib.hid n1
  have NX := Lib.hid nx
  clear n3 n1 nx
  go_enter Tryz.func4, Tryz.ntmps4
  go_wp2_with fail
  refine (jrack_ok _).mono ?_
  rintro e w1 ⟨p, d, F1, st1, rfl, hL1⟩
  have HL1 := Lib.hid hL1
  clear hL1
  go_wp2_with fail
  refine (HL1.out.format 4 5 4 10 rfl rfl (by omega) (by omega) (by omega)).mono ?_
  rintro e w2 ⟨j, F2, st2, hj, rfl, hL2, hJ2, hV2, hM2⟩
  have hA2 : JAt j d 4 5 0 1 1 1 false w2 := by have := hJ2.at_; rw [secsAll_nil] at this; exact this
  have HL2 := Lib.hid hL2
  have HJ2 := Lib.hid hJ2
  have HA2 := Lib.hid hA2
  clear hL2 hJ2 hV2 hM2 hA2 hj
  go_wp2_with (first | (go_at_call 13; refine (Left_is j d 4 5 0 1 1 1 false (by omega) (by omega) _ HA2.out).mono ?_; rintro e w3 ⟨rfl, hb3⟩; have HL3 := Lib.hid (HL2.out.below hb3); have HJ3 := Lib.hid (HJ2.out.below hb3); have HA3 := Lib.hid (HA2.out.keep (hb3.block j HA2.out.lt)); clear hb3) | (go_at_call 15; refine (Half_is j d 4 5 0 1 1 1 false (by omega) (by omega) _ HA3.out).mono ?_; rintro e w' ⟨rfl, rfl⟩) | (go_at_call 16; refine (Epoch_is j d 4 5 0 1 1 1 false _ HA3.out).mono ?_; rintro e w' ⟨rfl, rfl⟩) | (go_at_call 17; refine (Len_is j d 4 5 0 1 1 1 false (by omega) (by omega) _ HA3.out).mono ?_; rintro e w' ⟨rfl, rfl⟩) | (go_at_call 7; refine (text_is 40 (by omega) _).mono ?_; rintro e w4 ⟨rfl, hb4⟩; have HL4 := Lib.hid (HL3.out.below hb4); have HJ4 := Lib.hid (HJ3.out.below hb4); clear hb4) | fail)
  refine (HL4.out.append HJ4.out (Fr.zero 40) (by omega) (by omega) (by rw [Fr.length_zero]; omega) (by rw [secsAll_nil, secs_40]; omega)).mono ?_
  rintro e w5 ⟨rfl, F5, st5, hL5, hJ5, _, _⟩
  have HL5 := Lib.hid hL5
  have HJ5 := Lib.hid hJ5
  clear hL5 hJ5
  go_wp2_with (first | (go_at_call 7; refine (text_is 41 (by omega) _).mono ?_; rintro e w6 ⟨rfl, hb6⟩; have HL6 := Lib.hid (HL5.out.below hb6); have HJ6 := Lib.hid (HJ5.out.below hb6); clear hb6) | fail)
  refine (HL6.out.append HJ6.out (Fr.zero 41) (by omega) (by omega) (by rw [Fr.length_zero]; omega) (by rw [List.nil_append, N1.out, secs_41]; omega)).mono ?_
  rintro e w7 ⟨rfl, F7, st7, hL7, hJ7, _, _⟩
  rw [List.nil_append, List.singleton_append] at hJ7
  have HL7 := Lib.hid hL7
  have HJ7 := Lib.hid hJ7
  clear hL7 hJ7
  go_wp2_with (first | (go_at_call 7; refine (text_is 41 (by omega) _).mono ?_; rintro e w8 ⟨rfl, hb8⟩; have HL8 := Lib.hid (HL7.out.below hb8); have HJ8 := Lib.hid (HJ7.out.below hb8); clear hb8) | fail)
  refine (Append_full d 4 5 0 1 _ _ j (Fr.zero 41) (by rw [Fr.length_zero]; omega) (by rw [N3.out]; omega) (by omega) (by rw [N3.out, secs_41]; omega) _ HJ8.out.at_).mono ?_
  rintro e w9 ⟨g, hg, rfl, hf, hb9⟩
  have HL9 := Lib.hid (HL8.out.below hb9)
  have HJ9 := Lib.hid (HJ8.out.below hb9)
  have HF9 := Lib.hid hf
  clear hf hb9
  go_wp2_with (first | (go_at_call 20; refine (is_12 g _ HF9.out).mono ?_; rintro e w' ⟨rfl, rfl⟩) | fail)
  refine (HL9.out.open_ HJ9.out 4 10 rfl rfl (by omega) (by omega)).mono ?_
  rintro e w10 ⟨k1, v10, rfl, hT10, hv10, hL10, hJ10, hb10⟩
  have hX10 : ∀ g, textsBlock v10 = some g → g ∉ [p, j] ∧ g ∉ F7 := fun g hg => by
    have h1 := hv10 g hg
    have h2 := HL9.out.jd.dsk.pow.lt
    have h3 := HJ9.out.at_.lt
    refine ⟨by simp; omega, fun hm => by have := HL9.out.jd.dsk.Flt g hm; omega⟩
  have HX10 := Lib.hid hX10
  have HL10 := Lib.hid hL10
  have HJ10 := Lib.hid hJ10
  have HT10 := Lib.hid hT10
  clear hX10 hL10 hJ10 hT10 hv10 hb10
  go_wp2_with fail
  have hb11 : Below w10.heap.size w10 (w10.alloc (.cells #[Value.string ⟨#[120]⟩] 9)) := (Below.refl _ _).alloc (Nat.le_refl _) _
  refine ((HL10.out.below hb11).reset (HJ10.out.below hb11) _ [[120]] (by omega) (by omega) (by omega) (by intro r hr; simp at hr; rw [hr]; decide) (by rw [NX.out]; omega) (texts_one (r := [120]) w10 (bs_of rfl))).mono ?_
  rintro e w12 ⟨rfl, F12, st12, hL12, hJ12, _, hM12⟩
  have HT12 := Lib.hid ((HT10.out.below (Nat.le_refl _) hb11).mv hM12 HX10.out)
  have HL12 := Lib.hid hL12
  have HJ12 := Lib.hid hJ12
  clear hL12 hJ12 hM12 hb11
  go_wp2_with fail
  refine (HL12.out.open_ HJ12.out 4 10 rfl rfl (by omega) (by omega)).mono ?_
  rintro e w13 ⟨k2, v13, rfl, hT13, hv13, hL13, hJ13, hb13⟩
  have hA13 : JAt j d 4 5 1 2 2 2 false w13 := by have := hJ13.at_; rw [NX.out] at this; exact this
  rcases HT12.out.below (Nat.le_refl _) hb13 with ⟨_, h0⟩ | ⟨g1, o1, cap1, rfl, hg1, hc1⟩
  · cases h0
  rcases hT13 with ⟨_, h0⟩ | ⟨g2, o2, cap2, rfl, hg2, hc2⟩
  · cases h0
  have d1 : w13.cell? ⟨g1, o1 + 1, none⟩ = some (.string (bs (Fr.zero 41))) := hc1 1 (by decide)
  have d2 : w13.cell? ⟨g2, o2, none⟩ = some (.string (bs [120])) := hc2 0 (by decide)
  have hs41 : (bs (Fr.zero 41)).size = 41 := by rw [bs_size, Fr.length_zero]
  obtain ⟨q41, hq41⟩ : ∃ q, q = bs (Fr.zero 41) := ⟨_, rfl⟩
  rw [← hq41] at d1 hs41
  rw [show bs [120] = (⟨#[120]⟩ : ByteArray) from (bs_of (s := ⟨#[120]⟩) rfl).symm] at d2
  have HL13 := Lib.hid hL13
  have HA13 := Lib.hid hA13
  clear hq41 hL13 hJ13 hA13 hc1 hc2 hv13 hb13 hg1
  go_wp2_with (first | (go_at_call 13; refine (Left_is j d 4 5 1 2 2 2 false (by omega) (by omega) _ HA13.out).mono ?_; rintro e w14 ⟨rfl, hb14⟩; have HL14 := Lib.hid (HL13.out.below hb14); have HA14 := Lib.hid (HA13.out.keep (hb14.block j HA13.out.lt)); have d2 := (hb14.cell (p := ⟨g2, o2, none⟩) (by omega)).trans d2; clear hb14) | (go_at_call 16; refine (Epoch_is j d 4 5 1 2 2 2 false _ HA13.out).mono ?_; rintro e w' ⟨rfl, rfl⟩) | (go_at_call 17; refine (Len_is j d 4 5 1 2 2 2 false (by omega) (by omega) _ HA14.out).mono ?_; rintro e w' ⟨rfl, rfl⟩) | fail)
  go_ret
  exact ⟨rfl, HL14.out.old⟩
end Go.Proofs.YtbljhodnpddpiaaGreatDoor
