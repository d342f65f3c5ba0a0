/- Reset when the power may go by the way. -/
import Derived.Test.YtfancfladdecjaaGreatDoorJFuse
import Derived.Test.YtfancfladdecjaaGreatDoorJReset
namespace Go.Proofs.YtfancfladdecjaaGreatDoor
open Go.RowKit

set_option maxRecDepth 100000 in
set_option maxHeartbeats 2000000 in
/-- Reset answers what reach answers. -/
theorem Reset_walk (d p n : Nat) (F : List Nat) (st : St) (from_ m act ep nn u a1 e1 : Nat) (recs : List (List UInt8)) (j : Nat) (v : Value) (hm8 : m ≤ 8192) (hact : act ≤ 1) (hep : ep + 1 ≤ 4611686018427387904) (hr : ∀ r ∈ recs, r.length ≤ 60000) (hfit : 1 + secsAll recs ≤ m) (w : World) (h : Dsk d p n F st true w)
    (hJ : JAt j d from_ m act ep nn u false w) (hT : Texts v recs w) (ha1 : a1 = 1 - act) (he1 : e1 = ep + 1) (Q : Value → World → Prop)
    (CR : Hid (∀ (y : World) (vv : Value), Below w.heap.size w y → Texts vv (title :: recs) y → Calls Tryz.prog 65 #[.pointer (some ⟨j, 0, none⟩), .agg (stV a1 e1 0 0).toArray, vv] y fun e w' => ∃ x F', e = .returned x ∧ Mv [p, j] F F' y w' ∧ Q x w')) :
    Calls Tryz.prog 35 #[.pointer (some ⟨j, 0, none⟩), v] w fun e w' => ∃ x, e = .returned x ∧ Q x w' := by
  have hll := length_le_secsAll recs
  have CF := Lib.hid (fun (y : World) (hv : Below w.heap.size w y) => fit_ok (m - 1) v recs hr (by omega) (by omega) y (hT.below (Nat.le_refl _) hv))
  have CH := Lib.hid (fun (y : World) (hv : Below w.heap.size w y) => Half_is j d from_ m act ep nn u false (by omega) (by omega) y (hJ.keep (hv.block j hJ.lt)))
  have CC := Lib.hid (fun (y : World) (g gt : Nat) (hv : Below w.heap.size w y) (h1 : y.heap[g]? = some (.cells [Value.slice (some ⟨gt, 0, none⟩) 1 1, v].toArray 31 (0, 0))) (h2 : y.heap[gt]? = some (.cells [strv title].toArray 9 (0, 0))) => Concat_is g gt title v recs y h1 h2 (hT.below (Nat.le_refl _) hv) (by omega))
  have HJ := Lib.hid hJ
  have HH := Lib.hid h
  obtain ⟨c0, c1, c2, c3, c4, c5, c6, c7⟩ := hJ.cells
  have ea1 : IntKind.i64.wrap ((1 : Int) - (act : Int)) = (a1 : Int) := by rw [IntWalk.i64_in _ (by omega)]; omega
  have ee1 : IntKind.i64.wrap ((ep : Int) + 1) = (e1 : Int) := by rw [IntWalk.i64_in _ (by omega)]; omega
  have hb0 : ((ep : Int) == 4611686018427387904) = false := by rw [beq_eq_false_iff_ne]; omega
  obtain ⟨vb, vc, rfl⟩ := hT.slice
  have EA := Lib.hid ea1
  have EE := Lib.hid ee1
  have HT := Lib.hid hT
  clear hJ h ea1 ee1 hT hr ha1 he1
  go_enter Tryz.func35, Tryz.ntmps35
  go_wp2_with (first | (go_at_call 18; refine (CH.out _ (Below.refl _ _)).mono ?_; rintro e w1 ⟨rfl, rfl⟩) | (go_at_call 64; refine (CF.out _ (Below.refl _ _)).mono ?_; rintro e w2 ⟨rfl, hb2⟩; have HB2 := Lib.hid hb2; obtain ⟨c0, c1, c2, c3, c4, c5, c6, c7⟩ := (HJ.out.keep (hb2.block j HJ.out.lt)).cells; clear hb2) | fail)
  have HJ2 := Lib.hid (HJ.out.keep (HB2.out.block j HJ.out.lt))
  go_region_held_law (fun v => JpS j act ep v) (first | exact jp_of HJ2.out (Below.refl _ _).drew | exact jp_of HJ2.out ((Below.refl _ _).drew.alloc (Nat.le_refl _) _) | exact jp_of HJ2.out ((((((Below.refl _ _).drew.alloc (Nat.le_refl _) _).setCell (Nat.le_refl _) _).setCell (Nat.le_refl _) _).setCell (Nat.le_refl _) _).setCell (Nat.le_refl _) _)) (fail)
  rw [EA.out, EE.out]
  obtain ⟨s, hs⟩ : ∃ s, s = w2.heap.size := ⟨_, rfl⟩
  obtain ⟨wS, hwS⟩ : ∃ x, x = (w2.alloc (.cells #[Value.int IntKind.i64 a1, Value.int IntKind.i64 e1, Value.int IntKind.i64 0, Value.int IntKind.i64 0] 93)).drew := ⟨_, rfl⟩
  rw [← hwS, ← hs]
  have hsS : wS.heap[s]? = some (.cells (stV a1 e1 0 0).toArray 93 (0, 0)) := by rw [hwS, hs]; exact heap_alloc_new _ _
  have hbS : Below w.heap.size w wS := by rw [hwS]; exact (HB2.out.alloc HB2.out.size _).drew
  have HSS := Lib.hid hsS
  have HBS := Lib.hid hbS
  have hzS := hbS.size
  have hsw : w.heap.size ≤ s := by rw [hs]; exact HB2.out.size
  have hjl := HJ.out.lt
  have hpl := HH.out.pow.lt
  have hsF : s ∉ F := fun hm => by have := HH.out.Flt s hm; omega
  have hspj : s ∉ [p, j] := by simp; omega
  clear hwS hs hsS hbS c0 c1 c2 c3 c4 c5 c6 c7
  go_wp2_with fail
  have HBA := Lib.hid (show Below w.heap.size w ((wS.drew.alloc (.cells #[Value.string ⟨#[106, 111, 117, 114, 110, 97, 108]⟩] 9)).alloc (.cells #[Value.slice (some ⟨wS.heap.size, 0, none⟩) 1 1, Value.slice vb recs.length vc] 31)) from ((HBS.out.drew).alloc hzS _).alloc (by simp; omega) _)
  have HG1 := Lib.hid (show ((wS.drew.alloc (.cells #[Value.string ⟨#[106, 111, 117, 114, 110, 97, 108]⟩] 9)).alloc (.cells #[Value.slice (some ⟨wS.heap.size, 0, none⟩) 1 1, Value.slice vb recs.length vc] 31)).heap[wS.heap.size]? = some (.cells [strv title].toArray 9 (0, 0)) by
    unfold strv; rw [title_bs]; exact heap_alloc2_old wS.drew _ _)
  have HG2 := Lib.hid (show ((wS.drew.alloc (.cells #[Value.string ⟨#[106, 111, 117, 114, 110, 97, 108]⟩] 9)).alloc (.cells #[Value.slice (some ⟨wS.heap.size, 0, none⟩) 1 1, Value.slice vb recs.length vc] 31)).heap[wS.heap.size + 1]? = some (.cells [Value.slice (some ⟨wS.heap.size, 0, none⟩) 1 1, Value.slice vb recs.length vc].toArray 31 (0, 0)) from heap_alloc2_new wS.drew _ _)
  go_region_held_law (fun v => StS s a1 e1 0 0 v) (first | exact st_of HSS.out (Below.refl _ _).drew | exact st_of HSS.out ((Below.refl _ _).drew.alloc (Nat.le_refl _) _) | exact st_of HSS.out (((Below.refl _ _).drew.alloc (Nat.le_refl _) _).alloc (by simp) _) | exact S5 | exact S6) (first | (go_simp; go_at_call 70; refine (CC.out _ _ _ HBA.out HG2.out HG1.out).mono ?_; rintro e w5 ⟨v5, rfl, hown5, hb5⟩; have HO5 := Lib.hid hown5; have HB5 := Lib.hid (HBA.out.trans (hb5.mono HBA.out.size)); have hbx := ((((Below.refl wS.heap.size wS).drew.alloc (Nat.le_refl _) _).alloc (by simp) _).trans (hb5.mono (by simp; omega))); have S5 := st_of HSS.out hbx; have HS5 := Lib.hid ((hbx.block s (lt_of_heap HSS.out)).trans HSS.out); have HT5 := Lib.hid (Texts.of_own (l := title :: recs) (by rw [List.length_cons, Nat.add_comm]; exact hown5)); clear hown5 hb5 hbx) | (go_simp; go_at_call 65; refine (CR.out _ _ HB5.out HT5.out).mono ?_; rintro e w6 ⟨x6, F6, rfl, hM6, hQ6⟩; have S6 := st_of ((hM6.block (lt_of_heap HS5.out) hspj hsF).trans HS5.out) (Below.refl _ _); have HQ6 := Lib.hid hQ6; clear hQ6 hM6) | fail)
  all_goals
    go_wp2_with fail
    go_ret
    exact ⟨x6, rfl, HQ6.out⟩
set_option maxHeartbeats 1000000 in
theorem Reset_fuse (d p n : Nat) (F : List Nat) (st : St) (from_ m act ep : Nat) (old recs : List (List UInt8)) (j : Nat) (v : Value) (hm : from_ + 2 * m ≤ n) (hep : ep + 1 ≤ 4611686018427387904) (hr : ∀ r ∈ recs, r.length ≤ 60000) (hfit : 1 + secsAll recs ≤ m) (w : World) (h : Dsk d p n F st true w) (hFt : st.Fit 10200) (hps : st.ps = [])
    (hJ : JAt j d from_ m act ep (1 + old.length) (1 + secsAll old) false w) (hO : JOn st.view from_ m act ep old) (hjF : j ∉ F) (hjp : j ≠ p) (hW : WrapC p F w) (hT : Texts v recs w) :
    Calls Tryz.prog 35 #[.pointer (some ⟨j, 0, none⟩), v] w fun e w' => ∃ x, e = .returned x ∧ Fused d p n F j from_ m act ep old (1 - act) (ep + 1) recs st.acts w x w' := by
  have hn := h.n2
  have hok := h.okk
  have hact := hO.a1
  have hll := length_le_secsAll recs
  obtain ⟨ss, hss, hsl, hsf⟩ := chop (1 + secsAll recs) (packs (ep + 1) 0 (title :: recs)) (by rw [length_packs, secsAll_cons, title_secs])
  obtain ⟨first, rest, rfl⟩ : ∃ first rest, ss = first :: rest := by
    cases ss with
    | nil => simp at hsl; omega
    | cons a b => exact ⟨a, b, rfl⟩
  have hfirst : first.length = 64 := hss first (List.mem_cons_self ..)
  have hrest : Wide rest := fun s hs => hss s (List.mem_cons_of_mem _ hs)
  rw [List.length_cons] at hsl
  rw [flat_cons] at hsf
  obtain ⟨more, hmore⟩ : ∃ more, more = if 0 + 1 + rest.length < m then [z64] else [] := ⟨_, rfl⟩
  have hml : more.length ≤ 1 := by rw [hmore]; split <;> simp
  obtain ⟨a, ha⟩ : ∃ a, a = from_ + (1 - act) * m + 0 := ⟨_, rfl⟩
  have ham : (1 - act) * m ≤ m := by have : 1 - act = 0 ∨ 1 - act = 1 := by omega
                                     rcases this with h0 | h0 <;> rw [h0] <;> omega
  have hmr0 : 1 + (rest ++ more).length ≤ m := by
    rw [List.length_append, hmore]; split
    · simp; omega
    · simp; omega
  obtain ⟨mk, hmk⟩ : ∃ mk, mk = Lib.hasPrefix (Dk.readAt st.S st.ps a) [1] := ⟨_, rfl⟩
  have hl1 : ∀ q ∈ title :: recs, q.length ≤ 60000 := fun q hq => by
    rcases List.mem_cons.1 hq with rfl | h1
    · decide
    · exact hr q h1
  have hwide : Wide (rest ++ more) := fun s hs => by
    rcases List.mem_append.1 hs with h1 | h1
    · exact hrest s h1
    · rw [hmore] at h1; split at h1
      · exact wide_one length_z64 s h1
      · cases h1
  have hgood : ∀ o ∈ layActs a mk first (rest ++ more), o.Good n := layActs_good hfirst hwide (by omega)
  have hlen := length_layActs a mk first (rest ++ more)
  have hhead := epoch_head ep hO.e1 hO.e2
  rw [← hO.head] at hhead
  have hA := JOn.anew hact hep ⟨ep, hhead, by omega⟩ first rest more mk hr hsf hfirst hrest hfit hmore ha
  have hOkX := ok_any _ hok hgood
  have hFX : (doAll (st, true) (layActs a mk first (rest ++ more))).1.Fit 1000 ∧ (doAll (st, true) (layActs a mk first (rest ++ more))).1.acts ≤ st.acts + 10000 := ⟨St.Fit.doAll _ (hFt.less (by omega)) true, by have := (doAll_acts (layActs a mk first (rest ++ more)) st).2; omega⟩
  have ee1 : 0 + (title :: recs).length = 1 + recs.length := by simp; omega
  have ee2 : 0 + 1 + rest.length = 1 + secsAll recs := by omega
  cases hX2 : (doAll (st, true) (layActs a mk first (rest ++ more))).2 with
  | true =>
    have hV := view_on _ hok hgood hX2
    rw [← hV.2] at hA
    refine Reset_walk d p n F st from_ m act ep (1 + old.length) (1 + secsAll old) (1 - act) (ep + 1) recs j v (by omega) hact hep hr hfit w h hJ hT rfl rfl _ (Lib.hid (fun y vv hv hTT => ?_))
    refine (reach_ok d p n F st from_ m (1 - act) (ep + 1) 0 0 j act ep (1 + old.length) (1 + secsAll old) vv (title :: recs) first rest hfirst hrest hsf hm hn (by omega) (by omega) hep (by simp; omega) hl1
      more hmore a ha y (h.below hv) (hFt.less (by omega)) mk hmk _ rfl hX2 (hJ.keep (hv.block j hJ.lt)) hjF hjp hTT).mono ?_
    rintro e w' ⟨rfl, F', hD', hJ', hM'⟩
    rw [ee1, ee2] at hJ'
    exact ⟨_, F', rfl, hM', F', _, (Mv.below _ _ hv).trans hM', hOkX, hFX, Or.inl ⟨rfl, hD', lay_ps hX2, hA.1, hJ'⟩⟩
  | false =>
    refine Reset_walk d p n F st from_ m act ep (1 + old.length) (1 + secsAll old) (1 - act) (ep + 1) recs j v (by omega) hact hep hr hfit w h hJ hT rfl rfl _ (Lib.hid (fun y vv hv hTT => ?_))
    refine (reach_cut d p n F st from_ m (1 - act) (ep + 1) 0 0 j act ep (1 + old.length) (1 + secsAll old) vv (title :: recs) first rest hfirst hrest hsf hm hn (by omega) (by omega) hep (by simp; omega) hl1
      more hmore a ha y (h.below hv) (hFt.less (by omega)) mk hmk _ rfl hX2 (hW.mv (Mv.below _ _ hv)) (hJ.keep (hv.block j hJ.lt)) hjF hjp hTT).mono ?_
    rintro e w' ⟨F', g, g', rfl, hA', hg', hD', hJ', hM'⟩
    refine ⟨_, F', rfl, hM', F', _, (Mv.below _ _ hv).trans hM', hOkX, hFX, Or.inr ⟨g, g', rfl, hA', Nat.le_trans hv.size hg', hD', hJ', fun len => ?_⟩⟩
    have hMx := crash_lay hok hps hfirst hwide (by omega) hmk hX2 len
    rcases hO.mixed_anew hMx (by omega) hmr0 with h1 | h1
    · exact Or.inl h1
    · right; rw [h1]; exact hA.1
end Go.Proofs.YtfancfladdecjaaGreatDoor
