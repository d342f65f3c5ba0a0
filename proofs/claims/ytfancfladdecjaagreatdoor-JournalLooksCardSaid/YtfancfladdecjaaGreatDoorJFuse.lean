/- Append when the power may go by the way. -/
import Derived.Test.YtfancfladdecjaaGreatDoorJLost
import Derived.Test.YtfancfladdecjaaGreatDoorJCut
import Derived.Test.YtfancfladdecjaaGreatDoorJApi
namespace Go.Proofs.YtfancfladdecjaaGreatDoor
open Go.RowKit

set_option maxRecDepth 100000 in
set_option maxHeartbeats 2000000 in
/-- Append answers what reach answers. -/
theorem Append_walk (d from_ m act ep : Nat) (recs : List (List UInt8)) (j : Nat) (r : List UInt8) (hm8 : m ≤ 8192) (hr : r.length ≤ 60000) (hfit : 1 + secsAll recs + secs r ≤ m) (w : World) (hJ : JAt j d from_ m act ep (1 + recs.length) (1 + secsAll recs) false w) (Q : Value → World → Prop)
    (CR : Hid (∀ (v : World) (vv : Value), Below w.heap.size w v → Texts vv [r] v → Calls Tryz.prog 65 #[.pointer (some ⟨j, 0, none⟩), .agg (stV act ep (1 + recs.length) (1 + secsAll recs)).toArray, vv] v fun e w' => ∃ x, e = .returned x ∧ Q x w')) :
    Calls Tryz.prog 28 #[.pointer (some ⟨j, 0, none⟩), .string (bs r)] w fun e w' => ∃ x, e = .returned x ∧ Q x w' := by
  have CF := Lib.hid (fun (v : World) (vv : Value) (hT : Texts vv [r] v) => fit_ok (m - (1 + secsAll recs)) vv [r] (by intro q hq; simp at hq; rw [hq]; exact hr) (by simp) (by rw [secsAll_cons, secsAll_nil]; omega) v hT)
  have CL := Lib.hid (fun (v : World) (hv : Below w.heap.size w v) => Left_is j d from_ m act ep (1 + recs.length) (1 + secsAll recs) false (by omega) (by omega) v (hJ.keep (hv.block j hJ.lt)))
  have HJ := Lib.hid hJ
  obtain ⟨c0, c1, c2, c3, c4, c5, c6, c7⟩ := hJ.cells
  obtain ⟨q, hq⟩ : ∃ q, q = bs r := ⟨_, rfl⟩
  have HQ := Lib.hid hq
  rw [← hq]
  clear hJ hq
  go_enter Tryz.func28, Tryz.ntmps28
  go_wp2_with (first | (go_at_call 16; refine (CL.out _ (Below.refl _ _)).mono ?_; rintro e w1 ⟨rfl, hb1⟩; have HB1 := Lib.hid hb1; clear hb1) | fail)
  have hT1 : Texts (.slice (some ⟨w1.heap.size, 0, none⟩) 1 1) [r] (w1.alloc (.cells #[Value.string q] 9)) := texts_one w1 HQ.out
  refine (CF.out _ _ hT1).mono ?_
  rintro e w2 ⟨rfl, hb2⟩
  have hB2 : Below w.heap.size w w2 := (HB1.out.alloc HB1.out.size _).trans (hb2.mono (by simp; have := HB1.out.size; omega))
  have HB2 := Lib.hid hB2
  have hz2 := hB2.size
  obtain ⟨c0, c1, c2, c3, c4, c5, c6, c7⟩ := (HJ.out.keep (hB2.block j HJ.out.lt)).cells
  clear hb2 hT1 hB2
  go_wp2_with fail
  have hT3 : Texts (.slice (some ⟨w2.heap.size, 0, none⟩) 1 1) [r] (w2.alloc (.cells #[Value.string q] 9)) := texts_one w2 HQ.out
  have hB3 : Below w.heap.size w (w2.alloc (.cells #[Value.string q] 9)) := HB2.out.alloc hz2 _
  refine (CR.out _ _ hB3 hT3).mono ?_
  rintro e w3 ⟨x, rfl, hQ⟩
  have HQX := Lib.hid hQ
  clear hB3 hT3 hQ
  go_wp2_with fail
  go_ret
  exact ⟨x, rfl, HQX.out⟩
/-- What has come of a call that lays records, whether the power went or not. -/
def Fused (d p n : Nat) (F : List Nat) (j from_ m act ep : Nat) (recs : List (List UInt8)) (act' ep' : Nat) (recs' : List (List UInt8)) (A : Int) (w : World) (x : Value) (w' : World) : Prop :=
  ∃ F' st', Mv [p, j] F F' w w' ∧ StOk st' n ∧ (st'.Fit 1000 ∧ st'.acts ≤ A + 10000) ∧
   ((x = .nilIface ∧ Dsk d p n F' st' true w' ∧ st'.ps = [] ∧ JOn st'.view from_ m act' ep' recs' ∧ JAt j d from_ m act' ep' (1 + recs'.length) (1 + secsAll recs') false w') ∨
    (∃ g g' : Nat, x = faultV g' ∧ WrapAt g g' w' ∧ w.heap.size ≤ g' ∧ Dsk d p n F' st' false w' ∧ JAt j d from_ m act ep (1 + recs.length) (1 + secsAll recs) true w' ∧ ∀ len, JOn (lost st' len) from_ m act ep recs ∨ JOn (lost st' len) from_ m act' ep' recs'))
theorem Dsk.okk {d p n : Nat} {F : List Nat} {st : St} {w : World} (h : Dsk d p n F st true w) : StOk st n := by
  obtain ⟨h1, h2, h3⟩ := h.wide
  exact ⟨h1, h2, fun x hx => by have := h3 x hx; rw [h1] at this; exact this⟩
theorem Dsk.n2 {d p n : Nat} {F : List Nat} {st : St} {ok : Bool} {w : World} (h : Dsk d p n F st ok w) : n ≤ 8192 := by
  obtain ⟨bl, bn, pv, h1, _⟩ := h.liv
  exact h1.n2
set_option maxHeartbeats 1000000 in
theorem Append_fuse (d p n : Nat) (F : List Nat) (st : St) (from_ m act ep : Nat) (recs : List (List UInt8)) (j : Nat) (r : List UInt8) (hm : from_ + 2 * m ≤ n) (hr : r.length ≤ 60000) (hfit : 1 + secsAll recs + secs r ≤ m) (w : World) (h : Dsk d p n F st true w) (hFt : st.Fit 10200) (hps : st.ps = [])
    (hJ : JAt j d from_ m act ep (1 + recs.length) (1 + secsAll recs) false w) (hO : JOn st.view from_ m act ep recs) (hjF : j ∉ F) (hjp : j ≠ p) (hW : WrapC p F w) :
    Calls Tryz.prog 28 #[.pointer (some ⟨j, 0, none⟩), .string (bs r)] w fun e w' => ∃ x, e = .returned x ∧ Fused d p n F j from_ m act ep recs act ep (recs ++ [r]) st.acts w x w' := by
  have hn := h.n2
  have hok := h.okk
  have hsp := secs_pos r
  obtain ⟨ss, hss, hsl, hsf⟩ := chop (secs r) (packs ep (1 + recs.length) [r]) (by rw [length_packs, secsAll_cons, secsAll_nil, Nat.add_zero])
  obtain ⟨first, rest, rfl⟩ : ∃ first rest, ss = first :: rest := by
    cases ss with
    | nil => simp at hsl; omega
    | cons a b => exact ⟨a, b, rfl⟩
  have hfirst : first.length = 64 := hss first (List.mem_cons_self ..)
  have hrest : Wide rest := fun s hs => hss s (List.mem_cons_of_mem _ hs)
  rw [List.length_cons] at hsl
  rw [flat_cons] at hsf
  obtain ⟨more, hmore⟩ : ∃ more, more = if 1 + secsAll recs + 1 + rest.length < m then [z64] else [] := ⟨_, rfl⟩
  have hml : more.length ≤ 1 := by rw [hmore]; split <;> simp
  obtain ⟨a, ha⟩ : ∃ a, a = from_ + act * m + (1 + secsAll recs) := ⟨_, rfl⟩
  have ham : act * m ≤ m := by have : act = 0 ∨ act = 1 := by have := hO.a1; omega
                               rcases this with h0 | h0 <;> rw [h0] <;> omega
  have hmr : a + 1 + (rest ++ more).length ≤ from_ + act * m + m := by
    rw [List.length_append, hmore]; split
    · simp; omega
    · simp; omega
  obtain ⟨mk, hmk⟩ : ∃ mk, mk = Lib.hasPrefix (Dk.readAt st.S st.ps a) [1] := ⟨_, rfl⟩
  have hll := length_le_secsAll recs
  have hwide : Wide (rest ++ more) := fun s hs => by
    rcases List.mem_append.1 hs with h1 | h1
    · exact hrest s h1
    · rw [hmore] at h1; split at h1
      · exact wide_one length_z64 s h1
      · cases h1
  have hgood : ∀ o ∈ layActs a mk first (rest ++ more), o.Good n := layActs_good hfirst hwide (by omega)
  have hlen := length_layActs a mk first (rest ++ more)
  have hW64 : ∀ x, from_ ≤ x → x < from_ + 2 * m → (st.view x).length = 64 := fun x h1 h2 => length_readAt hok.wide (fun y hy => by rw [hok.len]; exact hok.wrs y hy) (by rw [hok.len]; omega)
  have hA := hO.append r first rest more mk hr hsf hfirst hrest hfit hmore ha hW64
  have hOkX := ok_any _ hok hgood
  have hFX : (doAll (st, true) (layActs a mk first (rest ++ more))).1.Fit 1000 ∧ (doAll (st, true) (layActs a mk first (rest ++ more))).1.acts ≤ st.acts + 10000 := ⟨St.Fit.doAll _ (hFt.less (by omega)) true, by have := (doAll_acts (layActs a mk first (rest ++ more)) st).2; omega⟩
  have e1 : 1 + recs.length + [r].length = 1 + (recs ++ [r]).length := by simp; omega
  have e2 : 1 + secsAll recs + 1 + rest.length = 1 + secsAll (recs ++ [r]) := by rw [secsAll_snoc]; omega
  cases hX2 : (doAll (st, true) (layActs a mk first (rest ++ more))).2 with
  | true =>
    have hV := view_on _ hok hgood hX2
    rw [← hV.2] at hA
    refine Append_walk d from_ m act ep recs j r (by omega) hr hfit w hJ _ (Lib.hid (fun v vv hv hT => ?_))
    refine (reach_ok d p n F st from_ m act ep (1 + recs.length) (1 + secsAll recs) j act ep (1 + recs.length) (1 + secsAll recs) vv [r] first rest hfirst hrest hsf hm hn hO.a1 (by omega) hO.e2 (by simp; omega) (by intro q hq; simp at hq; rw [hq]; exact hr)
      more hmore a ha v (h.below hv) (hFt.less (by omega)) mk hmk _ rfl hX2 (hJ.keep (hv.block j hJ.lt)) hjF hjp hT).mono ?_
    rintro e w' ⟨rfl, F', hD', hJ', hM'⟩
    rw [e1, e2] at hJ'
    exact ⟨_, rfl, F', _, (Mv.below _ _ hv).trans hM', hOkX, hFX, Or.inl ⟨rfl, hD', lay_ps hX2, hA.1, hJ'⟩⟩
  | false =>
    refine Append_walk d from_ m act ep recs j r (by omega) hr hfit w hJ _ (Lib.hid (fun v vv hv hT => ?_))
    refine (reach_cut d p n F st from_ m act ep (1 + recs.length) (1 + secsAll recs) j act ep (1 + recs.length) (1 + secsAll recs) vv [r] first rest hfirst hrest hsf hm hn hO.a1 (by omega) hO.e2 (by simp; omega) (by intro q hq; simp at hq; rw [hq]; exact hr)
      more hmore a ha v (h.below hv) (hFt.less (by omega)) mk hmk _ rfl hX2 (hW.mv (Mv.below _ _ hv)) (hJ.keep (hv.block j hJ.lt)) hjF hjp hT).mono ?_
    rintro e w' ⟨F', g, g', rfl, hA', hg', hD', hJ', hM'⟩
    refine ⟨_, rfl, F', _, (Mv.below _ _ hv).trans hM', hOkX, hFX, Or.inr ⟨g, g', rfl, hA', Nat.le_trans hv.size hg', hD', hJ', fun len => ?_⟩⟩
    have hMx := crash_lay hok hps hfirst hwide (by omega) hmk hX2 len
    rcases hO.mixed hMx ha hmr hW64 (lost_wide hOkX len a (by omega)) with h1 | h1
    · exact Or.inl h1
    · right; rw [h1]; exact hA.1
end Go.Proofs.YtfancfladdecjaaGreatDoor
