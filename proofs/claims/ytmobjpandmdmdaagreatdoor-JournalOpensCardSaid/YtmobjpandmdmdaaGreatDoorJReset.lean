/- The walk of Reset at a power without a fuse. -/
import Derived.Test.YtmobjpandmdmdaaGreatDoorJApi
namespace Go.Proofs.YtmobjpandmdmdaaGreatDoor
open Go.RowKit

/-- A journal's half and epoch. -/
abbrev JpS (j a e : Nat) (v : World) : Prop := v.cell? ⟨j, 3, none⟩ = some (.int .i64 a) ∧ v.cell? ⟨j, 4, none⟩ = some (.int .i64 e)
theorem jp_of {w v : World} {j d from_ m a e n u : Nat} {c : Bool} (h : JAt j d from_ m a e n u c w) (hb : Below w.heap.size w v) : JpS j a e v := by
  obtain ⟨c0, c1, c2, c3, c4, c5, c6, c7⟩ := (h.keep (hb.block j h.lt)).cells
  exact ⟨c3, c4⟩
/-- The cells of a state. -/
abbrev StS (s a e n u : Nat) (v : World) : Prop := v.cell? ⟨s, 0, none⟩ = some (.int .i64 a) ∧ v.cell? ⟨s, 1, none⟩ = some (.int .i64 e) ∧ v.cell? ⟨s, 2, none⟩ = some (.int .i64 n) ∧ v.cell? ⟨s, 3, none⟩ = some (.int .i64 u)
theorem st_of {w v : World} {s a e n u : Nat} (h : w.heap[s]? = some (.cells (stV a e n u).toArray 76 (0, 0))) (hb : Below w.heap.size w v) : StS s a e n u v := by
  have h' := (hb.block s (lt_of_heap h)).trans h
  refine ⟨?_, ?_, ?_, ?_⟩ <;> (rw [cell_of_list h']; rfl)
set_option maxRecDepth 100000 in
set_option maxHeartbeats 2000000 in
theorem Reset_free (d p n : Nat) (F : List Nat) (st : St) (c from_ m act ep nn u : Nat) (recs : List (List UInt8)) (j : Nat) (v : Value) (hm : from_ + 2 * m ≤ n) (hc : c ≤ 1000000) (hact : act ≤ 1) (hep : ep + 1 ≤ 4611686018427387904) (hr : ∀ r ∈ recs, r.length ≤ 60000) (hfit : 1 + secsAll recs ≤ m) (w : World) (h : Jp d p n F st c w)
    (hJ : JAt j d from_ m act ep nn u false w) (hO : ∃ E, EpochIs (bs (st.view (from_ + act * m))) E ∧ E < ep + 1) (hjF : j ∉ F) (hjp : j ≠ p) (hT : Texts v recs w) :
    Calls Tryz.prog 22 #[.pointer (some ⟨j, 0, none⟩), v] w fun e w' => e = .returned .nilIface ∧ ∃ F' st', Jd d p n F' st' (c + 1) w' ∧ JAt j d from_ m (1 - act) (ep + 1) (1 + recs.length) (1 + secsAll recs) false w' ∧
      JOn st'.view from_ m (1 - act) (ep + 1) recs ∧ (∀ x, x < from_ ∨ from_ + 2 * m ≤ x → st'.view x = st.view x) ∧ Mv [p, j] F F' w w' := by
  have hn := h.n2
  have hll := length_le_secsAll recs
  obtain ⟨ss, hss, hsl, hsf⟩ := chop (1 + secsAll recs) (packs (ep + 1) 0 (title :: recs)) (by rw [length_packs, secsAll_cons, title_secs])
  obtain ⟨first, rest, rfl⟩ : ∃ first rest, ss = first :: rest := by
    cases ss with
    | nil => simp at hsl; omega
    | cons a b => exact ⟨a, b, rfl⟩
  have hfirst : first.length = 64 := hss first (List.mem_cons_self ..)
  have hrest : Wide rest := fun s hs => hss s (List.mem_cons_of_mem _ hs)
  rw [List.length_cons] at hsl
  rw [flat_cons] at hsf
  obtain ⟨more, hmore⟩ : ∃ more, more = if 0 + 1 + rest.length < m then [z64] else [] := ⟨_, rfl⟩
  have hml : more.length ≤ 1 := by rw [hmore]; split <;> simp
  obtain ⟨a, ha⟩ : ∃ a, a = from_ + (1 - act) * m + 0 := ⟨_, rfl⟩
  have ham : (1 - act) * m ≤ m := by have : 1 - act = 0 ∨ 1 - act = 1 := by omega
                                     rcases this with h0 | h0 <;> rw [h0] <;> omega
  have hmr : a + 1 + (rest ++ more).length ≤ from_ + (1 - act) * m + m := by
    rw [List.length_append, hmore]; split
    · simp; omega
    · simp; omega
  obtain ⟨mk, hmk⟩ : ∃ mk, mk = Lib.hasPrefix (Dk.readAt st.S st.ps a) [1] := ⟨_, rfl⟩
  have hl1 : ∀ q ∈ title :: recs, q.length ≤ 60000 := fun q hq => by
    rcases List.mem_cons.1 hq with rfl | h1
    · decide
    · exact hr q h1
  obtain ⟨a1, ha1⟩ : ∃ a1, a1 = 1 - act := ⟨_, rfl⟩
  obtain ⟨e1, he1⟩ : ∃ e1, e1 = ep + 1 := ⟨_, rfl⟩
  have hV := view_all (layActs a mk first (rest ++ more)) h.ok (layActs_good hfirst (fun s hs => by
    rcases List.mem_append.1 hs with h1 | h1
    · exact hrest s h1
    · rw [hmore] at h1; split at h1
      · exact wide_one length_z64 s h1
      · cases h1) (by omega)) h.free
  have hA := JOn.anew hact hep hO first rest more mk hr hsf hfirst hrest hfit hmore ha
  rw [← hV.2] at hA
  rw [← ha1] at hmr ham ha hA
  rw [← he1] at hsf hA hep
  have CR := Lib.hid (fun (y : World) (vv : Value) (hv : Below w.heap.size w y) (hTT : Texts vv (title :: recs) y) => reach_ok d p n F st from_ m a1 e1 0 0 j act ep nn u vv (title :: recs) first rest hfirst hrest hsf hm hn (by omega) (by omega) hep (by simp; omega) hl1
    more hmore a ha y (h.dsk.below hv) (h.fit hc _ (by omega)) mk hmk _ rfl (doAll_free _ h.free).1 (hJ.keep (hv.block j hJ.lt)) hjF hjp hTT)
  have CF := Lib.hid (fun (y : World) (hv : Below w.heap.size w y) => fit_ok (m - 1) v recs hr (by omega) (by omega) y (hT.below (Nat.le_refl _) hv))
  have CH := Lib.hid (fun (y : World) (hv : Below w.heap.size w y) => Half_is j d from_ m act ep nn u false (by omega) (by omega) y (hJ.keep (hv.block j hJ.lt)))
  have CC := Lib.hid (fun (y : World) (g gt : Nat) (hv : Below w.heap.size w y) (h1 : y.heap[g]? = some (.cells [Value.slice (some ⟨gt, 0, none⟩) 1 1, v].toArray 23 (0, 0))) (h2 : y.heap[gt]? = some (.cells [strv title].toArray 9 (0, 0))) => Concat_is g gt title v recs y h1 h2 (hT.below (Nat.le_refl _) hv) (by omega))
  have HJ := Lib.hid hJ
  have HH := Lib.hid h
  have HA := Lib.hid hA
  have hrl : (rest ++ more).length ≤ 9000 := by omega
  obtain ⟨c0, c1, c2, c3, c4, c5, c6, c7⟩ := hJ.cells
  have ea1 : IntKind.i64.wrap ((1 : Int) - (act : Int)) = (a1 : Int) := by rw [IntWalk.i64_in _ (by omega)]; omega
  have ee1 : IntKind.i64.wrap ((ep : Int) + 1) = (e1 : Int) := by rw [IntWalk.i64_in _ (by omega)]; omega
  have hb0 : ((ep : Int) == 4611686018427387904) = false := by rw [beq_eq_false_iff_ne]; omega
  obtain ⟨vb, vc, rfl⟩ := hT.slice
  have EA := Lib.hid ea1
  have EE := Lib.hid ee1
  have HT := Lib.hid hT
  have HA1 := Lib.hid (And.intro ha1 he1)
  clear hJ h hO hsf hfirst hrest hmore hmk hV hA hss ea1 ee1 hT hl1 hr ha1 he1
  go_enter Tryz.func22, Tryz.ntmps22
  go_wp2_with (first | (go_at_call 20; refine (CH.out _ (Below.refl _ _)).mono ?_; rintro e w1 ⟨rfl, rfl⟩) | (go_at_call 45; refine (CF.out _ (Below.refl _ _)).mono ?_; rintro e w2 ⟨rfl, hb2⟩; have HB2 := Lib.hid hb2; obtain ⟨c0, c1, c2, c3, c4, c5, c6, c7⟩ := (HJ.out.keep (hb2.block j HJ.out.lt)).cells; clear hb2) | fail)
  have HJ2 := Lib.hid (HJ.out.keep (HB2.out.block j HJ.out.lt))
  go_region_held_law (fun v => JpS j act ep v) (first | exact jp_of HJ2.out (Below.refl _ _).drew | exact jp_of HJ2.out ((Below.refl _ _).drew.alloc (Nat.le_refl _) _) | exact jp_of HJ2.out ((((((Below.refl _ _).drew.alloc (Nat.le_refl _) _).setCell (Nat.le_refl _) _).setCell (Nat.le_refl _) _).setCell (Nat.le_refl _) _).setCell (Nat.le_refl _) _)) (fail)
  rw [EA.out, EE.out]
  obtain ⟨s, hs⟩ : ∃ s, s = w2.heap.size := ⟨_, rfl⟩
  obtain ⟨wS, hwS⟩ : ∃ x, x = (w2.alloc (.cells #[Value.int IntKind.i64 a1, Value.int IntKind.i64 e1, Value.int IntKind.i64 0, Value.int IntKind.i64 0] 76)).drew := ⟨_, rfl⟩
  rw [← hwS, ← hs]
  have hsS : wS.heap[s]? = some (.cells (stV a1 e1 0 0).toArray 76 (0, 0)) := by rw [hwS, hs]; exact heap_alloc_new _ _
  have hbS : Below w.heap.size w wS := by rw [hwS]; exact (HB2.out.alloc HB2.out.size _).drew
  have HSS := Lib.hid hsS
  have HBS := Lib.hid hbS
  have hzS := hbS.size
  have hsw : w.heap.size ≤ s := by rw [hs]; exact HB2.out.size
  have hjl := HJ.out.lt
  have hpl := HH.out.dsk.pow.lt
  have hsF : s ∉ F := fun hm => by have := HH.out.dsk.Flt s hm; omega
  have hspj : s ∉ [p, j] := by simp; omega
  clear hwS hs hsS hbS c0 c1 c2 c3 c4 c5 c6 c7
  go_wp2_with fail
  have HBA := Lib.hid (show Below w.heap.size w ((wS.drew.alloc (.cells #[Value.string ⟨#[106, 111, 117, 114, 110, 97, 108]⟩] 9)).alloc (.cells #[Value.slice (some ⟨wS.heap.size, 0, none⟩) 1 1, Value.slice vb recs.length vc] 23)) from ((HBS.out.drew).alloc hzS _).alloc (by simp; omega) _)
  have HG1 := Lib.hid (show ((wS.drew.alloc (.cells #[Value.string ⟨#[106, 111, 117, 114, 110, 97, 108]⟩] 9)).alloc (.cells #[Value.slice (some ⟨wS.heap.size, 0, none⟩) 1 1, Value.slice vb recs.length vc] 23)).heap[wS.heap.size]? = some (.cells [strv title].toArray 9 (0, 0)) by
    unfold strv; rw [title_bs]; exact heap_alloc2_old wS.drew _ _)
  have HG2 := Lib.hid (show ((wS.drew.alloc (.cells #[Value.string ⟨#[106, 111, 117, 114, 110, 97, 108]⟩] 9)).alloc (.cells #[Value.slice (some ⟨wS.heap.size, 0, none⟩) 1 1, Value.slice vb recs.length vc] 23)).heap[wS.heap.size + 1]? = some (.cells [Value.slice (some ⟨wS.heap.size, 0, none⟩) 1 1, Value.slice vb recs.length vc].toArray 23 (0, 0)) from heap_alloc2_new wS.drew _ _)
  go_region_held_law (fun v => StS s a1 e1 0 0 v) (first | exact st_of HSS.out (Below.refl _ _).drew | exact st_of HSS.out ((Below.refl _ _).drew.alloc (Nat.le_refl _) _) | exact st_of HSS.out (((Below.refl _ _).drew.alloc (Nat.le_refl _) _).alloc (by simp) _) | exact S5 | exact S6) (first | (go_simp; go_at_call 47; refine (CC.out _ _ _ HBA.out HG2.out HG1.out).mono ?_; rintro e w5 ⟨v5, rfl, hown5, hb5⟩; have HO5 := Lib.hid hown5; have HB5 := Lib.hid (HBA.out.trans (hb5.mono HBA.out.size)); have hbx := ((((Below.refl wS.heap.size wS).drew.alloc (Nat.le_refl _) _).alloc (by simp) _).trans (hb5.mono (by simp; omega))); have S5 := st_of HSS.out hbx; have HS5 := Lib.hid ((hbx.block s (lt_of_heap HSS.out)).trans HSS.out); have HT5 := Lib.hid (Texts.of_own (l := title :: recs) (by rw [List.length_cons, Nat.add_comm]; exact hown5)); clear hown5 hb5 hbx) | (go_simp; go_at_call 46; refine (CR.out _ _ HB5.out HT5.out).mono ?_; rintro e w6 ⟨rfl, F6, hD6, hJ6, hM6⟩; have S6 := st_of ((hM6.block (lt_of_heap HS5.out) hspj hsF).trans HS5.out) (Below.refl _ _); have HD6 := Lib.hid hD6; have HJ6 := Lib.hid hJ6; have HM6 := Lib.hid ((Mv.below [p, j] F HB5.out).trans hM6); clear hD6 hJ6 hM6) | fail)
  all_goals
    go_wp2_with fail
    go_ret
    have ee1 : 0 + (title :: recs).length = 1 + recs.length := by simp; omega
    have ee2 : 0 + 1 + rest.length = 1 + secsAll recs := by omega
    have hJx := HJ6.out
    rw [ee1, ee2] at hJx
    rw [← HA1.out.1, ← HA1.out.2]
    exact ⟨rfl, F6, _, HH.out.laid hrl HD6.out, hJx, HA.out.1, HA.out.2, HM6.out⟩
end Go.Proofs.YtmobjpandmdmdaaGreatDoor
