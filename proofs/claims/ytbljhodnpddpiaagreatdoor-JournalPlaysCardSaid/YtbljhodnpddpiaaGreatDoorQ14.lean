/- Several texts in one, in the order in which they build: JFuse JFuse2 JTell JCrash. -/
import Derived.Test.YtbljhodnpddpiaaGreatDoorQ13
import Derived.Test.YtbljhodnpddpiaaGreatDoorQ11
import Derived.Test.YtbljhodnpddpiaaGreatDoorQ12
/- Append when the power may go by the way. -/
namespace Go.Proofs.YtbljhodnpddpiaaGreatDoor
open Go.RowKit

set_option maxRecDepth 100000 in
set_option maxHeartbeats 2000000 in
/-- Append answers what reach answers. -/
theorem Append_walk (d from_ m act ep : Nat) (recs : List (List UInt8)) (j : Nat) (r : List UInt8) (hm8 : m ≤ 8192) (hr : r.length ≤ 60000) (hfit : 1 + secsAll recs + secs r ≤ m) (w : World) (hJ : JAt j d from_ m act ep (1 + recs.length) (1 + secsAll recs) false w) (Q : Value → World → Prop)
    (CR : Hid (∀ (v : World) (vv : Value), Below w.heap.size w v → Texts vv [r] v → Calls Tryz.prog 48 #[.pointer (some ⟨j, 0, none⟩), .agg (stV act ep (1 + recs.length) (1 + secsAll recs)).toArray, vv] v fun e w' => ∃ x, e = .returned x ∧ Q x w')) :
    Calls Tryz.prog 19 #[.pointer (some ⟨j, 0, none⟩), .string (bs r)] w fun e w' => ∃ x, e = .returned x ∧ Q x w' := by
  have CF := Lib.hid (fun (v : World) (vv : Value) (hT : Texts vv [r] v) => fit_ok (m - (1 + secsAll recs)) vv [r] (by intro q hq; simp at hq; rw [hq]; exact hr) (by simp) (by rw [secsAll_cons, secsAll_nil]; omega) v hT)
  have CL := Lib.hid (fun (v : World) (hv : Below w.heap.size w v) => Left_is j d from_ m act ep (1 + recs.length) (1 + secsAll recs) false (by omega) (by omega) v (hJ.keep (hv.block j hJ.lt)))
  have HJ := Lib.hid hJ
  obtain ⟨c0, c1, c2, c3, c4, c5, c6, c7⟩ := hJ.cells
  obtain ⟨q, hq⟩ : ∃ q, q = bs r := ⟨_, rfl⟩
  have HQ := Lib.hid hq
  rw [← hq]
  clear hJ hq
  go_enter Tryz.func19, Tryz.ntmps19
  go_wp2_with (first | (go_at_call 13; refine (CL.out _ (Below.refl _ _)).mono ?_; rintro e w1 ⟨rfl, hb1⟩; have HB1 := Lib.hid hb1; clear hb1) | fail)
  have hT1 : Texts (.slice (some ⟨w1.heap.size, 0, none⟩) 1 1) [r] (w1.alloc (.cells #[Value.string q] 9)) := texts_one w1 HQ.out
  refine (CF.out _ _ hT1).mono ?_
  rintro e w2 ⟨rfl, hb2⟩
  have hB2 : Below w.heap.size w w2 := (HB1.out.alloc HB1.out.size _).trans (hb2.mono (by simp; have := HB1.out.size; omega))
  have HB2 := Lib.hid hB2
  have hz2 := hB2.size
  obtain ⟨c0, c1, c2, c3, c4, c5, c6, c7⟩ := (HJ.out.keep (hB2.block j HJ.out.lt)).cells
  clear hb2 hT1 hB2
  go_wp2_with fail
  have hT3 : Texts (.slice (some ⟨w2.heap.size, 0, none⟩) 1 1) [r] (w2.alloc (.cells #[Value.string q] 9)) := texts_one w2 HQ.out
  have hB3 : Below w.heap.size w (w2.alloc (.cells #[Value.string q] 9)) := HB2.out.alloc hz2 _
  refine (CR.out _ _ hB3 hT3).mono ?_
  rintro e w3 ⟨x, rfl, hQ⟩
  have HQX := Lib.hid hQ
  clear hB3 hT3 hQ
  go_wp2_with fail
  go_ret
  exact ⟨x, rfl, HQX.out⟩
/-- What has come of a call that lays records, whether the power went or not. -/
def Fused (d p n : Nat) (F : List Nat) (j from_ m act ep : Nat) (recs : List (List UInt8)) (act' ep' : Nat) (recs' : List (List UInt8)) (A : Int) (w : World) (x : Value) (w' : World) : Prop :=
  ∃ F' st', Mv [p, j] F F' w w' ∧ StOk st' n ∧ (st'.Fit 1000 ∧ st'.acts ≤ A + 10000) ∧
   ((x = .nilIface ∧ Dsk d p n F' st' true w' ∧ st'.ps = [] ∧ JOn st'.view from_ m act' ep' recs' ∧ JAt j d from_ m act' ep' (1 + recs'.length) (1 + secsAll recs') false w') ∨
    (∃ g g' : Nat, x = faultV g' ∧ WrapAt g g' w' ∧ w.heap.size ≤ g' ∧ Dsk d p n F' st' false w' ∧ JAt j d from_ m act ep (1 + recs.length) (1 + secsAll recs) true w' ∧ ∀ len, JOn (lost st' len) from_ m act ep recs ∨ JOn (lost st' len) from_ m act' ep' recs'))
theorem Dsk.okk {d p n : Nat} {F : List Nat} {st : St} {w : World} (h : Dsk d p n F st true w) : StOk st n := by
  obtain ⟨h1, h2, h3⟩ := h.wide
  exact ⟨h1, h2, fun x hx => by have := h3 x hx; rw [h1] at this; exact this⟩
theorem Dsk.n2 {d p n : Nat} {F : List Nat} {st : St} {ok : Bool} {w : World} (h : Dsk d p n F st ok w) : n ≤ 8192 := by
  obtain ⟨bl, bn, pv, h1, _⟩ := h.liv
  exact h1.n2
set_option maxHeartbeats 1000000 in
theorem Append_fuse (d p n : Nat) (F : List Nat) (st : St) (from_ m act ep : Nat) (recs : List (List UInt8)) (j : Nat) (r : List UInt8) (hm : from_ + 2 * m ≤ n) (hr : r.length ≤ 60000) (hfit : 1 + secsAll recs + secs r ≤ m) (w : World) (h : Dsk d p n F st true w) (hFt : st.Fit 10200) (hps : st.ps = [])
    (hJ : JAt j d from_ m act ep (1 + recs.length) (1 + secsAll recs) false w) (hO : JOn st.view from_ m act ep recs) (hjF : j ∉ F) (hjp : j ≠ p) (hW : WrapC p F w) :
    Calls Tryz.prog 19 #[.pointer (some ⟨j, 0, none⟩), .string (bs r)] w fun e w' => ∃ x, e = .returned x ∧ Fused d p n F j from_ m act ep recs act ep (recs ++ [r]) st.acts w x w' := by
  have hn := h.n2
  have hok := h.okk
  have hsp := secs_pos r
  obtain ⟨ss, hss, hsl, hsf⟩ := chop (secs r) (packs ep (1 + recs.length) [r]) (by rw [length_packs, secsAll_cons, secsAll_nil, Nat.add_zero])
  obtain ⟨first, rest, rfl⟩ : ∃ first rest, ss = first :: rest := by
    cases ss with
    | nil => simp at hsl; omega
    | cons a b => exact ⟨a, b, rfl⟩
  have hfirst : first.length = 64 := hss first (List.mem_cons_self ..)
  have hrest : Wide rest := fun s hs => hss s (List.mem_cons_of_mem _ hs)
  rw [List.length_cons] at hsl
  rw [flat_cons] at hsf
  obtain ⟨more, hmore⟩ : ∃ more, more = if 1 + secsAll recs + 1 + rest.length < m then [z64] else [] := ⟨_, rfl⟩
  have hml : more.length ≤ 1 := by rw [hmore]; split <;> simp
  obtain ⟨a, ha⟩ : ∃ a, a = from_ + act * m + (1 + secsAll recs) := ⟨_, rfl⟩
  have ham : act * m ≤ m := by have : act = 0 ∨ act = 1 := by have := hO.a1; omega
                               rcases this with h0 | h0 <;> rw [h0] <;> omega
  have hmr : a + 1 + (rest ++ more).length ≤ from_ + act * m + m := by
    rw [List.length_append, hmore]; split
    · simp; omega
    · simp; omega
  obtain ⟨mk, hmk⟩ : ∃ mk, mk = Lib.hasPrefix (Dk.readAt st.S st.ps a) [1] := ⟨_, rfl⟩
  have hll := length_le_secsAll recs
  have hwide : Wide (rest ++ more) := fun s hs => by
    rcases List.mem_append.1 hs with h1 | h1
    · exact hrest s h1
    · rw [hmore] at h1; split at h1
      · exact wide_one length_z64 s h1
      · cases h1
  have hgood : ∀ o ∈ layActs a mk first (rest ++ more), o.Good n := layActs_good hfirst hwide (by omega)
  have hlen := length_layActs a mk first (rest ++ more)
  have hW64 : ∀ x, from_ ≤ x → x < from_ + 2 * m → (st.view x).length = 64 := fun x h1 h2 => length_readAt hok.wide (fun y hy => by rw [hok.len]; exact hok.wrs y hy) (by rw [hok.len]; omega)
  have hA := hO.append r first rest more mk hr hsf hfirst hrest hfit hmore ha hW64
  have hOkX := ok_any _ hok hgood
  have hFX : (doAll (st, true) (layActs a mk first (rest ++ more))).1.Fit 1000 ∧ (doAll (st, true) (layActs a mk first (rest ++ more))).1.acts ≤ st.acts + 10000 := ⟨St.Fit.doAll _ (hFt.less (by omega)) true, by have := (doAll_acts (layActs a mk first (rest ++ more)) st).2; omega⟩
  have e1 : 1 + recs.length + [r].length = 1 + (recs ++ [r]).length := by simp; omega
  have e2 : 1 + secsAll recs + 1 + rest.length = 1 + secsAll (recs ++ [r]) := by rw [secsAll_snoc]; omega
  cases hX2 : (doAll (st, true) (layActs a mk first (rest ++ more))).2 with
  | true =>
    have hV := view_on _ hok hgood hX2
    rw [← hV.2] at hA
    refine Append_walk d from_ m act ep recs j r (by omega) hr hfit w hJ _ (Lib.hid (fun v vv hv hT => ?_))
    refine (reach_ok d p n F st from_ m act ep (1 + recs.length) (1 + secsAll recs) j act ep (1 + recs.length) (1 + secsAll recs) vv [r] first rest hfirst hrest hsf hm hn hO.a1 (by omega) hO.e2 (by simp; omega) (by intro q hq; simp at hq; rw [hq]; exact hr)
      more hmore a ha v (h.below hv) (hFt.less (by omega)) mk hmk _ rfl hX2 (hJ.keep (hv.block j hJ.lt)) hjF hjp hT).mono ?_
    rintro e w' ⟨rfl, F', hD', hJ', hM'⟩
    rw [e1, e2] at hJ'
    exact ⟨_, rfl, F', _, (Mv.below _ _ hv).trans hM', hOkX, hFX, Or.inl ⟨rfl, hD', lay_ps hX2, hA.1, hJ'⟩⟩
  | false =>
    refine Append_walk d from_ m act ep recs j r (by omega) hr hfit w hJ _ (Lib.hid (fun v vv hv hT => ?_))
    refine (reach_cut d p n F st from_ m act ep (1 + recs.length) (1 + secsAll recs) j act ep (1 + recs.length) (1 + secsAll recs) vv [r] first rest hfirst hrest hsf hm hn hO.a1 (by omega) hO.e2 (by simp; omega) (by intro q hq; simp at hq; rw [hq]; exact hr)
      more hmore a ha v (h.below hv) (hFt.less (by omega)) mk hmk _ rfl hX2 (hW.mv (Mv.below _ _ hv)) (hJ.keep (hv.block j hJ.lt)) hjF hjp hT).mono ?_
    rintro e w' ⟨F', g, g', rfl, hA', hg', hD', hJ', hM'⟩
    refine ⟨_, rfl, F', _, (Mv.below _ _ hv).trans hM', hOkX, hFX, Or.inr ⟨g, g', rfl, hA', Nat.le_trans hv.size hg', hD', hJ', fun len => ?_⟩⟩
    have hMx := crash_lay hok hps hfirst hwide (by omega) hmk hX2 len
    rcases hO.mixed hMx ha hmr hW64 (lost_wide hOkX len a (by omega)) with h1 | h1
    · exact Or.inl h1
    · right; rw [h1]; exact hA.1
end Go.Proofs.YtbljhodnpddpiaaGreatDoor

/- Reset when the power may go by the way. -/
namespace Go.Proofs.YtbljhodnpddpiaaGreatDoor
open Go.RowKit

set_option maxRecDepth 100000 in
set_option maxHeartbeats 2000000 in
/-- Reset answers what reach answers. -/
theorem Reset_walk (d p n : Nat) (F : List Nat) (st : St) (from_ m act ep nn u a1 e1 : Nat) (recs : List (List UInt8)) (j : Nat) (v : Value) (hm8 : m ≤ 8192) (hact : act ≤ 1) (hep : ep + 1 ≤ 4611686018427387904) (hr : ∀ r ∈ recs, r.length ≤ 60000) (hfit : 1 + secsAll recs ≤ m) (w : World) (h : Dsk d p n F st true w)
    (hJ : JAt j d from_ m act ep nn u false w) (hT : Texts v recs w) (ha1 : a1 = 1 - act) (he1 : e1 = ep + 1) (Q : Value → World → Prop)
    (CR : Hid (∀ (y : World) (vv : Value), Below w.heap.size w y → Texts vv (title :: recs) y → Calls Tryz.prog 48 #[.pointer (some ⟨j, 0, none⟩), .agg (stV a1 e1 0 0).toArray, vv] y fun e w' => ∃ x F', e = .returned x ∧ Mv [p, j] F F' y w' ∧ Q x w')) :
    Calls Tryz.prog 22 #[.pointer (some ⟨j, 0, none⟩), v] w fun e w' => ∃ x, e = .returned x ∧ Q x w' := by
  have hll := length_le_secsAll recs
  have CF := Lib.hid (fun (y : World) (hv : Below w.heap.size w y) => fit_ok (m - 1) v recs hr (by omega) (by omega) y (hT.below (Nat.le_refl _) hv))
  have CH := Lib.hid (fun (y : World) (hv : Below w.heap.size w y) => Half_is j d from_ m act ep nn u false (by omega) (by omega) y (hJ.keep (hv.block j hJ.lt)))
  have CC := Lib.hid (fun (y : World) (g gt : Nat) (hv : Below w.heap.size w y) (h1 : y.heap[g]? = some (.cells [Value.slice (some ⟨gt, 0, none⟩) 1 1, v].toArray 31 (0, 0))) (h2 : y.heap[gt]? = some (.cells [strv title].toArray 9 (0, 0))) => Concat_is g gt title v recs y h1 h2 (hT.below (Nat.le_refl _) hv) (by omega))
  have HJ := Lib.hid hJ
  have HH := Lib.hid h
  obtain ⟨c0, c1, c2, c3, c4, c5, c6, c7⟩ := hJ.cells
  have ea1 : IntKind.i64.wrap ((1 : Int) - (act : Int)) = (a1 : Int) := by rw [IntWalk.i64_in _ (by omega)]; omega
  have ee1 : IntKind.i64.wrap ((ep : Int) + 1) = (e1 : Int) := by rw [IntWalk.i64_in _ (by omega)]; omega
  have hb0 : ((ep : Int) == 4611686018427387904) = false := by rw [beq_eq_false_iff_ne]; omega
  obtain ⟨vb, vc, rfl⟩ := hT.slice
  have EA := Lib.hid ea1
  have EE := Lib.hid ee1
  have HT := Lib.hid hT
  clear hJ h ea1 ee1 hT hr ha1 he1
  go_enter Tryz.func22, Tryz.ntmps22
  go_wp2_with (first | (go_at_call 15; refine (CH.out _ (Below.refl _ _)).mono ?_; rintro e w1 ⟨rfl, rfl⟩) | (go_at_call 47; refine (CF.out _ (Below.refl _ _)).mono ?_; rintro e w2 ⟨rfl, hb2⟩; have HB2 := Lib.hid hb2; obtain ⟨c0, c1, c2, c3, c4, c5, c6, c7⟩ := (HJ.out.keep (hb2.block j HJ.out.lt)).cells; clear hb2) | fail)
  have HJ2 := Lib.hid (HJ.out.keep (HB2.out.block j HJ.out.lt))
  go_region_held_law (fun v => JpS j act ep v) (first | exact jp_of HJ2.out (Below.refl _ _).drew | exact jp_of HJ2.out ((Below.refl _ _).drew.alloc (Nat.le_refl _) _) | exact jp_of HJ2.out ((((((Below.refl _ _).drew.alloc (Nat.le_refl _) _).setCell (Nat.le_refl _) _).setCell (Nat.le_refl _) _).setCell (Nat.le_refl _) _).setCell (Nat.le_refl _) _)) (fail)
  rw [EA.out, EE.out]
  obtain ⟨s, hs⟩ : ∃ s, s = w2.heap.size := ⟨_, rfl⟩
  obtain ⟨wS, hwS⟩ : ∃ x, x = (w2.alloc (.cells #[Value.int IntKind.i64 a1, Value.int IntKind.i64 e1, Value.int IntKind.i64 0, Value.int IntKind.i64 0] 79)).drew := ⟨_, rfl⟩
  rw [← hwS, ← hs]
  have hsS : wS.heap[s]? = some (.cells (stV a1 e1 0 0).toArray 79 (0, 0)) := by rw [hwS, hs]; exact heap_alloc_new _ _
  have hbS : Below w.heap.size w wS := by rw [hwS]; exact (HB2.out.alloc HB2.out.size _).drew
  have HSS := Lib.hid hsS
  have HBS := Lib.hid hbS
  have hzS := hbS.size
  have hsw : w.heap.size ≤ s := by rw [hs]; exact HB2.out.size
  have hjl := HJ.out.lt
  have hpl := HH.out.pow.lt
  have hsF : s ∉ F := fun hm => by have := HH.out.Flt s hm; omega
  have hspj : s ∉ [p, j] := by simp; omega
  clear hwS hs hsS hbS c0 c1 c2 c3 c4 c5 c6 c7
  go_wp2_with fail
  have HBA := Lib.hid (show Below w.heap.size w ((wS.drew.alloc (.cells #[Value.string ⟨#[106, 111, 117, 114, 110, 97, 108]⟩] 9)).alloc (.cells #[Value.slice (some ⟨wS.heap.size, 0, none⟩) 1 1, Value.slice vb recs.length vc] 31)) from ((HBS.out.drew).alloc hzS _).alloc (by simp; omega) _)
  have HG1 := Lib.hid (show ((wS.drew.alloc (.cells #[Value.string ⟨#[106, 111, 117, 114, 110, 97, 108]⟩] 9)).alloc (.cells #[Value.slice (some ⟨wS.heap.size, 0, none⟩) 1 1, Value.slice vb recs.length vc] 31)).heap[wS.heap.size]? = some (.cells [strv title].toArray 9 (0, 0)) by
    unfold strv; rw [title_bs]; exact heap_alloc2_old wS.drew _ _)
  have HG2 := Lib.hid (show ((wS.drew.alloc (.cells #[Value.string ⟨#[106, 111, 117, 114, 110, 97, 108]⟩] 9)).alloc (.cells #[Value.slice (some ⟨wS.heap.size, 0, none⟩) 1 1, Value.slice vb recs.length vc] 31)).heap[wS.heap.size + 1]? = some (.cells [Value.slice (some ⟨wS.heap.size, 0, none⟩) 1 1, Value.slice vb recs.length vc].toArray 31 (0, 0)) from heap_alloc2_new wS.drew _ _)
  go_region_held_law (fun v => StS s a1 e1 0 0 v) (first | exact st_of HSS.out (Below.refl _ _).drew | exact st_of HSS.out ((Below.refl _ _).drew.alloc (Nat.le_refl _) _) | exact st_of HSS.out (((Below.refl _ _).drew.alloc (Nat.le_refl _) _).alloc (by simp) _) | exact S5 | exact S6) (first | (go_simp; go_at_call 52; refine (CC.out _ _ _ HBA.out HG2.out HG1.out).mono ?_; rintro e w5 ⟨v5, rfl, hown5, hb5⟩; have HO5 := Lib.hid hown5; have HB5 := Lib.hid (HBA.out.trans (hb5.mono HBA.out.size)); have hbx := ((((Below.refl wS.heap.size wS).drew.alloc (Nat.le_refl _) _).alloc (by simp) _).trans (hb5.mono (by simp; omega))); have S5 := st_of HSS.out hbx; have HS5 := Lib.hid ((hbx.block s (lt_of_heap HSS.out)).trans HSS.out); have HT5 := Lib.hid (Texts.of_own (l := title :: recs) (by rw [List.length_cons, Nat.add_comm]; exact hown5)); clear hown5 hb5 hbx) | (go_simp; go_at_call 48; refine (CR.out _ _ HB5.out HT5.out).mono ?_; rintro e w6 ⟨x6, F6, rfl, hM6, hQ6⟩; have S6 := st_of ((hM6.block (lt_of_heap HS5.out) hspj hsF).trans HS5.out) (Below.refl _ _); have HQ6 := Lib.hid hQ6; clear hQ6 hM6) | fail)
  all_goals
    go_wp2_with fail
    go_ret
    exact ⟨x6, rfl, HQ6.out⟩
set_option maxHeartbeats 1000000 in
theorem Reset_fuse (d p n : Nat) (F : List Nat) (st : St) (from_ m act ep : Nat) (old recs : List (List UInt8)) (j : Nat) (v : Value) (hm : from_ + 2 * m ≤ n) (hep : ep + 1 ≤ 4611686018427387904) (hr : ∀ r ∈ recs, r.length ≤ 60000) (hfit : 1 + secsAll recs ≤ m) (w : World) (h : Dsk d p n F st true w) (hFt : st.Fit 10200) (hps : st.ps = [])
    (hJ : JAt j d from_ m act ep (1 + old.length) (1 + secsAll old) false w) (hO : JOn st.view from_ m act ep old) (hjF : j ∉ F) (hjp : j ≠ p) (hW : WrapC p F w) (hT : Texts v recs w) :
    Calls Tryz.prog 22 #[.pointer (some ⟨j, 0, none⟩), v] w fun e w' => ∃ x, e = .returned x ∧ Fused d p n F j from_ m act ep old (1 - act) (ep + 1) recs st.acts w x w' := by
  have hn := h.n2
  have hok := h.okk
  have hact := hO.a1
  have hll := length_le_secsAll recs
  obtain ⟨ss, hss, hsl, hsf⟩ := chop (1 + secsAll recs) (packs (ep + 1) 0 (title :: recs)) (by rw [length_packs, secsAll_cons, title_secs])
  obtain ⟨first, rest, rfl⟩ : ∃ first rest, ss = first :: rest := by
    cases ss with
    | nil => simp at hsl; omega
    | cons a b => exact ⟨a, b, rfl⟩
  have hfirst : first.length = 64 := hss first (List.mem_cons_self ..)
  have hrest : Wide rest := fun s hs => hss s (List.mem_cons_of_mem _ hs)
  rw [List.length_cons] at hsl
  rw [flat_cons] at hsf
  obtain ⟨more, hmore⟩ : ∃ more, more = if 0 + 1 + rest.length < m then [z64] else [] := ⟨_, rfl⟩
  have hml : more.length ≤ 1 := by rw [hmore]; split <;> simp
  obtain ⟨a, ha⟩ : ∃ a, a = from_ + (1 - act) * m + 0 := ⟨_, rfl⟩
  have ham : (1 - act) * m ≤ m := by have : 1 - act = 0 ∨ 1 - act = 1 := by omega
                                     rcases this with h0 | h0 <;> rw [h0] <;> omega
  have hmr0 : 1 + (rest ++ more).length ≤ m := by
    rw [List.length_append, hmore]; split
    · simp; omega
    · simp; omega
  obtain ⟨mk, hmk⟩ : ∃ mk, mk = Lib.hasPrefix (Dk.readAt st.S st.ps a) [1] := ⟨_, rfl⟩
  have hl1 : ∀ q ∈ title :: recs, q.length ≤ 60000 := fun q hq => by
    rcases List.mem_cons.1 hq with rfl | h1
    · decide
    · exact hr q h1
  have hwide : Wide (rest ++ more) := fun s hs => by
    rcases List.mem_append.1 hs with h1 | h1
    · exact hrest s h1
    · rw [hmore] at h1; split at h1
      · exact wide_one length_z64 s h1
      · cases h1
  have hgood : ∀ o ∈ layActs a mk first (rest ++ more), o.Good n := layActs_good hfirst hwide (by omega)
  have hlen := length_layActs a mk first (rest ++ more)
  have hhead := epoch_head ep hO.e1 hO.e2
  rw [← hO.head] at hhead
  have hA := JOn.anew hact hep ⟨ep, hhead, by omega⟩ first rest more mk hr hsf hfirst hrest hfit hmore ha
  have hOkX := ok_any _ hok hgood
  have hFX : (doAll (st, true) (layActs a mk first (rest ++ more))).1.Fit 1000 ∧ (doAll (st, true) (layActs a mk first (rest ++ more))).1.acts ≤ st.acts + 10000 := ⟨St.Fit.doAll _ (hFt.less (by omega)) true, by have := (doAll_acts (layActs a mk first (rest ++ more)) st).2; omega⟩
  have ee1 : 0 + (title :: recs).length = 1 + recs.length := by simp; omega
  have ee2 : 0 + 1 + rest.length = 1 + secsAll recs := by omega
  cases hX2 : (doAll (st, true) (layActs a mk first (rest ++ more))).2 with
  | true =>
    have hV := view_on _ hok hgood hX2
    rw [← hV.2] at hA
    refine Reset_walk d p n F st from_ m act ep (1 + old.length) (1 + secsAll old) (1 - act) (ep + 1) recs j v (by omega) hact hep hr hfit w h hJ hT rfl rfl _ (Lib.hid (fun y vv hv hTT => ?_))
    refine (reach_ok d p n F st from_ m (1 - act) (ep + 1) 0 0 j act ep (1 + old.length) (1 + secsAll old) vv (title :: recs) first rest hfirst hrest hsf hm hn (by omega) (by omega) hep (by simp; omega) hl1
      more hmore a ha y (h.below hv) (hFt.less (by omega)) mk hmk _ rfl hX2 (hJ.keep (hv.block j hJ.lt)) hjF hjp hTT).mono ?_
    rintro e w' ⟨rfl, F', hD', hJ', hM'⟩
    rw [ee1, ee2] at hJ'
    exact ⟨_, F', rfl, hM', F', _, (Mv.below _ _ hv).trans hM', hOkX, hFX, Or.inl ⟨rfl, hD', lay_ps hX2, hA.1, hJ'⟩⟩
  | false =>
    refine Reset_walk d p n F st from_ m act ep (1 + old.length) (1 + secsAll old) (1 - act) (ep + 1) recs j v (by omega) hact hep hr hfit w h hJ hT rfl rfl _ (Lib.hid (fun y vv hv hTT => ?_))
    refine (reach_cut d p n F st from_ m (1 - act) (ep + 1) 0 0 j act ep (1 + old.length) (1 + secsAll old) vv (title :: recs) first rest hfirst hrest hsf hm hn (by omega) (by omega) hep (by simp; omega) hl1
      more hmore a ha y (h.below hv) (hFt.less (by omega)) mk hmk _ rfl hX2 (hW.mv (Mv.below _ _ hv)) (hJ.keep (hv.block j hJ.lt)) hjF hjp hTT).mono ?_
    rintro e w' ⟨F', g, g', rfl, hA', hg', hD', hJ', hM'⟩
    refine ⟨_, F', rfl, hM', F', _, (Mv.below _ _ hv).trans hM', hOkX, hFX, Or.inr ⟨g, g', rfl, hA', Nat.le_trans hv.size hg', hD', hJ', fun len => ?_⟩⟩
    have hMx := crash_lay hok hps hfirst hwide (by omega) hmk hX2 len
    rcases hO.mixed_anew hMx (by omega) hmr0 with h1 | h1
    · exact Or.inl h1
    · right; rw [h1]; exact hA.1
end Go.Proofs.YtbljhodnpddpiaaGreatDoor

/- What the statements ask behind a crash: which error one is that wraps the disk's; whether two lists are the same. -/
namespace Go.Proofs.YtbljhodnpddpiaaGreatDoor
open Go.RowKit Go.Extern.Stop Go.Stop Go.Extern

set_option maxHeartbeats 1000000 in
theorem FaultIs_cell (g : Nat) (c : Int) (w : World) (c0 : w.cell? ⟨g, 0, none⟩ = some (.int .i64 c)) :
    Calls Tryz.prog 139 #[.pointer (some ⟨g, 0, none⟩), .iface 70 (.int .i64 c)] w fun e w' => e = .returned (.bool true) ∧ w = w' := by
  have ae := assert_errno c
  go_enter Tryz.func139, Tryz.ntmps139
  go_wp2
  go_ret
  exact ⟨rfl, rfl⟩
set_option maxHeartbeats 1000000 in
theorem errorsis_cell (g : Nat) (c : Int) (w : World) (h : w.cell? ⟨g, 0, none⟩ = some (.int .i64 c)) :
    Calls Tryz.prog 71 #[.iface 92 (.pointer (some ⟨g, 0, none⟩)), .iface 70 (.int .i64 c), .bool true] w fun e w' => e = .returned (.bool true) ∧ w = w' := by
  have mI := method_is
  have hI := has_is
  have hty := run_eql_iface_types (P := Tryz.prog) 92 70 (.pointer (some ⟨g, 0, none⟩)) (.int .i64 c) Tryz.underlying37 (by decide) w
  have H := Lib.hid h
  clear h
  go_enter Tryz.func71, Tryz.ntmps71
  go_wp2_with fail
  refine wp_loop_rounds 1 ?_
  rw [rounds_succ]
  go_wp2_with (go_at_call 139; refine (FaultIs_cell g c _ H.out).mono ?_; rintro e w' ⟨rfl, rfl⟩)
  go_ret
  exact ⟨rfl, rfl⟩
set_option maxHeartbeats 1000000 in
theorem errorsIs_cell (g : Nat) (c : Int) (w : World) (h : w.cell? ⟨g, 0, none⟩ = some (.int .i64 c)) :
    Calls Tryz.prog 49 #[.iface 92 (.pointer (some ⟨g, 0, none⟩)), .iface 70 (.int .i64 c)] w fun e w' => e = .returned (.bool true) ∧ w = w' := by
  have h8 := @run_callFunc_extern Tryz.prog 70 _ Extern.ReflectliteType.typeOf Tryz.func70 (by kernel_rfl) (by kernel_rfl) (by kernel_rfl) (by kernel_rfl)
  have tT := typeOf_errno
  have cT := comparable_errno
  have mR := method_comparable
  have H := Lib.hid h
  clear h
  go_enter Tryz.func49, Tryz.ntmps49
  go_wp2_with (go_at_call 71; refine (errorsis_cell g c _ H.out).mono ?_; rintro e w' ⟨rfl, rfl⟩)
  go_ret
  exact ⟨rfl, rfl⟩
theorem WrapAt.is {g g' : Nat} {w : World} (h : WrapAt g g' w) :
    Calls Tryz.prog 49 #[.iface 92 (.pointer (some ⟨g', 0, none⟩)), .iface 70 (.int .i64 10)] w fun e w' => e = .returned (.bool true) ∧ w = w' :=
  errorsIs_cell g' 10 w (by rw [cell_of_list h.1]; rfl)
end Go.Proofs.YtbljhodnpddpiaaGreatDoor
namespace Go.Proofs.YtbljhodnpddpiaaGreatDoor
open Go.RowKit

theorem same_diff (v1 v2 : Value) (l1 l2 : List (List UInt8)) (hne : l1.length ≠ l2.length) (w : World) (h1 : Texts v1 l1 w) (h2 : Texts v2 l2 w) :
    Calls Tryz.prog 62 #[v1, v2] w fun e w' => e = .returned (.bool false) ∧ Below w.heap.size w w' := by
  obtain ⟨b1, cap1, rfl⟩ := h1.slice
  obtain ⟨b2, cap2, rfl⟩ := h2.slice
  have hn : ¬ (l1.length : Int) = (l2.length : Int) := by omega
  clear h1 h2
  go_enter Tryz.func62, Tryz.ntmps62
  go_wp2
  go_ret
  exact ⟨rfl, Below.refl _ _⟩
theorem eq_of_getD {l1 l2 : List (List UInt8)} (hl : l1.length = l2.length) (h : ∀ i, i < l1.length → l1.getD i [] = l2.getD i []) : l1 = l2 := by
  apply List.ext_getElem hl
  intro i h1 h2
  have := h i h1
  rw [List.getD, List.getElem?_eq_getElem h1, List.getD, List.getElem?_eq_getElem h2] at this
  exact this
set_option maxRecDepth 100000 in
set_option maxHeartbeats 2000000 in
theorem same_len (v1 v2 : Value) (l1 l2 : List (List UInt8)) (hll : l1.length ≤ 1000000) (hl : l2.length = l1.length) (w : World) (h1 : Texts v1 l1 w) (h2 : Texts v2 l2 w) :
    Calls Tryz.prog 62 #[v1, v2] w fun e w' => ∃ b : Bool, e = .returned (.bool b) ∧ (b = true ↔ l1 = l2) ∧ Below w.heap.size w w' := by
  obtain ⟨b1, cap1, rfl⟩ := h1.slice
  obtain ⟨b2, cap2, rfl⟩ := h2.slice
  rw [hl]
  have H1 := Lib.hid h1
  have H2 := Lib.hid h2
  have HL := Lib.hid hl
  clear h1 h2 hl
  go_enter Tryz.func62, Tryz.ntmps62
  go_wp2_with fail
  go_loopw [5] (fun iv wr => ∃ k : Nat, k ≤ l1.length ∧ iv = .int .i64 k ∧ Hid (∀ i, i < k → l1.getD i [] = l2.getD i []) ∧ Below w.heap.size w wr) (fun iv _ => l1.length - (intOf iv).toNat)
  case atStart => exact ⟨0, by omega, rfl, Lib.hid (fun i hi => by omega), Below.refl _ _⟩
  case round =>
    obtain ⟨k, hk, rfl, HE, hB⟩ := hrel
    by_cases hlt : k < l1.length
    · rcases H1.out with ⟨_, h0⟩ | ⟨g1, o1, c1, hv1, hg1, hc1⟩
      · rw [h0] at hlt; simp at hlt
      rcases H2.out with ⟨_, h0⟩ | ⟨g2, o2, c2, hv2, hg2, hc2⟩
      · have := HL.out; rw [h0] at this; simp at this; omega
      injection hv1 with hv1 _ hv3
      injection hv2 with hv4 _ hv6
      subst hv1 hv4
      have e1 := (hB.cell (p := ⟨g1, o1 + k, none⟩) hg1).trans (hc1 k hlt)
      have e2 := (hB.cell (p := ⟨g2, o2 + k, none⟩) hg2).trans (hc2 k (by rw [HL.out]; exact hlt))
      unfold strv at e1 e2
      have HB := Lib.hid hB
      obtain ⟨x, hx⟩ : ∃ x, x = bs (l1.getD k []) := ⟨_, rfl⟩
      obtain ⟨y, hy⟩ : ∃ y, y = bs (l2.getD k []) := ⟨_, rfl⟩
      by_cases hq : l1.getD k [] = l2.getD k []
      · have hxy : y = x := by rw [hx, hy, hq]
        rw [← hx] at e1
        rw [← hy, hxy] at e2
        have d1 : wr.drew.cell? ⟨g1, o1 + k, none⟩ = some (.string x) := e1
        have d2 : wr.drew.cell? ⟨g2, o2 + k, none⟩ = some (.string x) := e2
        have HQ := Lib.hid hq
        clear hB hx hy hxy hc1 hc2 hv3 hv6 hq
        go_wp2_with fail
        go_region
        all_goals
          go_wp2_with fail
          go_roundw
          case rel => exact ⟨k + 1, by omega, by go_num, Lib.hid (fun i hi => by
            by_cases h : i < k
            · exact HE.out i h
            · rw [show i = k by omega]; exact HQ.out), HB.out.drew⟩
          case measure => simp [intOf]; omega
      · have hxy : (x.toList == y.toList) = false := by
          rw [beq_eq_false_iff_ne, ByteArray.toList_eq, ByteArray.toList_eq, hx, hy, bs_list, bs_list]
          exact hq
        rw [← hx] at e1
        rw [← hy] at e2
        have d1 : wr.drew.cell? ⟨g1, o1 + k, none⟩ = some (.string x) := e1
        have d2 : wr.drew.cell? ⟨g2, o2 + k, none⟩ = some (.string y) := e2
        have HQ := Lib.hid (show ¬ l1 = l2 from fun e => hq (by rw [e]))
        clear hB hx hy hc1 hc2 hv3 hv6 hq
        go_wp2_with fail
        go_region
        all_goals
          go_wp2_with fail
          go_ret
          exact ⟨false, rfl, by simp [HQ.out], HB.out.drew⟩
    · have HB := Lib.hid hB
      have hkl : k = l1.length := by omega
      clear hB
      go_wp2_with fail
      go_ret
      exact ⟨true, rfl, by simp; exact eq_of_getD HL.out.symm (fun i hi => HE.out i (by omega)), HB.out⟩
theorem same_any (v1 v2 : Value) (l1 l2 : List (List UInt8)) (hll : l1.length ≤ 1000000) (w : World) (h1 : Texts v1 l1 w) (h2 : Texts v2 l2 w) :
    Calls Tryz.prog 62 #[v1, v2] w fun e w' => ∃ b : Bool, e = .returned (.bool b) ∧ (b = true ↔ l1 = l2) ∧ Below w.heap.size w w' := by
  by_cases hl : l2.length = l1.length
  · exact same_len v1 v2 l1 l2 hll hl w h1 h2
  · refine (same_diff v1 v2 l1 l2 (fun e => hl e.symm) w h1 h2).mono ?_
    rintro e w' ⟨rfl, hb⟩
    exact ⟨false, rfl, by simp; intro e; exact hl (by rw [e]), hb⟩
end Go.Proofs.YtbljhodnpddpiaaGreatDoor

/- A disk that a call made itself, while its power has a fuse, when it is gone, and when it is on again and all that was pending is lost. -/
namespace Go.Proofs.YtbljhodnpddpiaaGreatDoor
open Go.RowKit

/-- What a call made lies apart from all that was there. -/
structure Own (w0 : World) (p : Nat) (F : List Nat) (w : World) : Prop where
  old : Below w0.heap.size w0 w
  pn : w0.heap.size ≤ p
  fn : ∀ x ∈ F, w0.heap.size ≤ x
section
variable {w0 : World} {d p n : Nat} {F F' : List Nat} {st st' : St} {c : Nat} {w w' : World}
theorem Lw.own (h : Lw w0 d p n F st c w) : Own w0 p F w := ⟨h.old, h.pn, h.fn⟩
theorem Own.below (h : Own w0 p F w) (hb : Below w.heap.size w w') : Own w0 p F w' := ⟨h.old.trans (hb.mono h.old.size), h.pn, h.fn⟩
theorem Own.kept {X : List Nat} (h : Own w0 p F w) (hk : Kept w.heap.size X w w') (hX : ∀ x ∈ X, w0.heap.size ≤ x) : Own w0 p F w' :=
  ⟨h.old.trans ((hk.mono h.old.size (fun _ _ hm => hm)).below (fun k hk => hX k hk)), h.pn, h.fn⟩
theorem Own.mv {X : List Nat} (h : Own w0 p F w) (hM : Mv X F F' w w') (hX : ∀ x ∈ X, w0.heap.size ≤ x) : Own w0 p F' w' := by
  have hz := h.old.size
  refine ⟨h.old.trans ((hM.kept.mono hz (fun _ _ hm => hm)).below (fun k hk => ?_)), h.pn, fun x hx => ?_⟩
  · rcases List.mem_append.1 hk with h1 | h1
    · exact hX k h1
    · exact h.fn k h1
  · rcases hM.foot x hx with h1 | h1
    · exact h.fn x h1
    · omega
/-- The power is given a fuse. -/
theorem Lw.fuse (h : Lw w0 d p n F st c w) (hc : c ≤ 100000) (r : Nat) (hr : r ≤ 1000) :
    Calls Tryz.prog 40 #[.pointer (some ⟨p, 0, none⟩), .int .i64 r] w fun e w' => e = .returned (.tuple #[]) ∧ Dsk d p n F ⟨st.S, st.ps, r, st.acts⟩ true w' ∧ St.Fit ⟨st.S, st.ps, r, st.acts⟩ 10200 ∧ Own w0 p F w' ∧ Kept w.heap.size [p] w w' := by
  refine (Fuse_any p false st.fuse st.acts r w h.jd.dsk.pow).mono ?_
  rintro e w' ⟨rfl, hP, hk⟩
  have hpF := h.jd.dsk.pF
  refine ⟨rfl, ⟨h.jd.dsk.liv.kept hk (fun x hx hm => ?_), hP⟩, ⟨?_, ?_, h.jd.a0, ?_, ?_⟩, h.own.kept hk (fun x hx => by simp at hx; rw [hx]; exact h.pn), hk⟩
  · simp at hm; exact hpF (hm ▸ hx)
  · show (-1 : Int) ≤ (r : Int); omega
  · show (r : Int) ≤ _; omega
  · show st.acts + _ ≤ _; have := h.jd.a1; omega
  · show st.ps.length + _ ≤ _; rw [h.jd.ps]; simp
/-- It is on again. -/
theorem on_again {ok : Bool} (h : Dsk d p n F st ok w) (hO : Own w0 p F w) :
    Calls Tryz.prog 41 #[.pointer (some ⟨p, 0, none⟩)] w fun e w' => e = .returned (.tuple #[]) ∧ Dsk d p n F ⟨st.S, st.ps, -1, st.acts⟩ true w' ∧ Own w0 p F w' ∧ Kept w.heap.size [p] w w' := by
  refine (On_any p (!ok) st.fuse st.acts w h.pow).mono ?_
  rintro e w' ⟨rfl, hP, hk⟩
  have hpF := h.pF
  exact ⟨rfl, ⟨h.liv.kept hk (fun x hx hm => by simp at hm; exact hpF (hm ▸ hx)), hP⟩, hO.kept hk (fun x hx => by simp at hx; rw [hx]; exact hO.pn), hk⟩
/-- What was pending is lost. -/
theorem lose_it (h : Dsk d p n F st true w) (hf : st.fuse = -1) (ha0 : 0 ≤ st.acts) (ha1 : st.acts ≤ 10000 * c) (hO : Own w0 p F w) (kv : Value) (kb ko : Nat) (ks : List Nat) (keep : List Bool) (t : Int) (hy : Yes kv kb ko ks keep w) (hks : ∀ k ∈ ks, k < w.heap.size ∧ k ∉ F) :
    Calls Tryz.prog 42 #[.pointer (some ⟨d, 0, none⟩), kv, .int .i64 t] w fun e w' => e = .returned (.tuple #[]) ∧ ∃ st', Lw w0 d p n F st' c w' ∧ st'.view = lost st (Dk.keptAt keep (Dk.clamp t)) ∧ Kept w.heap.size F w w' := by
  have hpF := h.pF
  refine (Lose_any d p F n st.S st.ps 0 kv kb ko ks keep t w h.liv hy hks).mono ?_
  rintro e w' ⟨rfl, hL, hk⟩
  refine ⟨rfl, ⟨Dk.settleTo st.S st.ps (Dk.keptAt keep (Dk.clamp t)) st.ps.length, [], -1, st.acts⟩, ?_, ?_, hk⟩
  · have hO' := hO.kept hk hO.fn
    refine ⟨⟨⟨hL, ?_⟩, rfl, rfl, ha0, ha1⟩, hO'.old, hO.pn, hO.fn⟩
    have hP := h.pow.keep (hk.block p h.pow.lt hpF)
    rw [hf] at hP
    exact hP
  · funext x
    unfold lost St.view
    rw [Dk.readAt_nil]
theorem Own.wrap (h : Own w0 p F w) (hE : ErrCell w0) : WrapC p F w := by
  have hz := hE.lt
  refine ⟨hE.below h.old, ?_, fun hm => ?_⟩
  · have := h.pn; omega
  · have := h.fn 0 hm; omega
theorem lost_fuse (S : List (List UInt8)) (ps : List Dk.Wr) (f f' a a' : Int) (len : Nat → Nat) : lost ⟨S, ps, f, a⟩ len = lost ⟨S, ps, f', a'⟩ len := rfl
/-- Open finds what is there, whoever laid it. -/
theorem Lw.open_on (h : Lw w0 d p n F st c w) {from_ m act ep : Nat} {recs : List (List UInt8)} (hO : JOn st.view from_ m act ep recs) (fi si : Int) (hfi : fi = from_) (hsi : si = (2 * m : Nat)) (hm : from_ + 2 * m ≤ n) (hm2 : 2 ≤ m) :
    Calls Tryz.prog 21 #[.pointer (some ⟨d, 0, none⟩), .int .i64 fi, .int .i64 si] w fun e w' => ∃ k v, e = .returned (.tuple #[.pointer (some ⟨k, 0, none⟩), v, .nilIface]) ∧ Texts v recs w' ∧ (∀ g, textsBlock v = some g → w.heap.size ≤ g) ∧ Lw w0 d p n F st c w' ∧ Jrn w0 d p F st k from_ m act ep recs w' ∧ Below w.heap.size w w' := by
  refine (Open_is d p n F st c from_ m act ep recs fi si hfi hsi hm hm2 w h.jd hO).mono ?_
  rintro e w' ⟨k, v, hk, rfl, hD, hA, hown, hb⟩
  have hz := h.old.size
  have hp := h.jd.dsk.pow.lt
  exact ⟨k, v, rfl, Texts.of_own hown, fun g hg => (hown.lt g (by rw [← textsBlock_own]; exact hg)).1, h.below hb, ⟨hA, hO, fun hm => by have := h.jd.dsk.Flt k hm; omega, by omega, by omega⟩, hb⟩
/-- Append on an own disk under a fuse. -/
theorem Own.append (hO : Own w0 p F w) (hE : ErrCell w0) (h : Dsk d p n F st true w) (hFt : st.Fit 10200) (hps : st.ps = []) {j from_ m act ep : Nat} {recs : List (List UInt8)} {S0 : St} (hj : Jrn w0 d p F S0 j from_ m act ep recs w) (hv : st.view = S0.view) (r : List UInt8) (hm : from_ + 2 * m ≤ n) (hr : r.length ≤ 60000) (hfit : 1 + secsAll recs + secs r ≤ m) :
    Calls Tryz.prog 19 #[.pointer (some ⟨j, 0, none⟩), .string (bs r)] w fun e w' => ∃ x, e = .returned x ∧ Fused d p n F j from_ m act ep recs act ep (recs ++ [r]) st.acts w x w' :=
  Append_fuse d p n F st from_ m act ep recs j r hm hr hfit w h hFt hps hj.at_ (by rw [hv]; exact hj.on) hj.jF hj.jp (hO.wrap hE)
/-- Reset on an own disk under a fuse. -/
theorem Own.reset (hO : Own w0 p F w) (hE : ErrCell w0) (h : Dsk d p n F st true w) (hFt : st.Fit 10200) (hps : st.ps = []) {j from_ m act ep : Nat} {old recs : List (List UInt8)} {S0 : St} (hj : Jrn w0 d p F S0 j from_ m act ep old w) (hv : st.view = S0.view) (v : Value) (hm : from_ + 2 * m ≤ n) (hep : ep + 1 ≤ 4611686018427387904) (hr : ∀ r ∈ recs, r.length ≤ 60000) (hfit : 1 + secsAll recs ≤ m) (hT : Texts v recs w) :
    Calls Tryz.prog 22 #[.pointer (some ⟨j, 0, none⟩), v] w fun e w' => ∃ x, e = .returned x ∧ Fused d p n F j from_ m act ep old (1 - act) (ep + 1) recs st.acts w x w' :=
  Reset_fuse d p n F st from_ m act ep old recs j v hm hep hr hfit w h hFt hps hj.at_ (by rw [hv]; exact hj.on) hj.jF hj.jp (hO.wrap hE) hT
end
end Go.Proofs.YtbljhodnpddpiaaGreatDoor
