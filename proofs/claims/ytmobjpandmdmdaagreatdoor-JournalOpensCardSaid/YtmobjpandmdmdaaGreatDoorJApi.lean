/- Append, Reset, Format and Open at a power without a fuse: what each call does with a journal. -/
import Derived.Test.YtmobjpandmdmdaaGreatDoorJView
namespace Go.Proofs.YtmobjpandmdmdaaGreatDoor
open Go.RowKit

/-- A disk at a power without a fuse, of which all lasts, behind c calls. -/
structure Jd (d p n : Nat) (F : List Nat) (st : St) (c : Nat) (w : World) : Prop where
  dsk : Dsk d p n F st true w
  free : st.fuse = -1
  ps : st.ps = []
  a0 : 0 ≤ st.acts
  a1 : st.acts ≤ 10000 * c
theorem Jd.below {d p n : Nat} {F : List Nat} {st : St} {c : Nat} {w w' : World} (h : Jd d p n F st c w) (hb : Below w.heap.size w w') : Jd d p n F st c w' := ⟨h.dsk.below hb, h.free, h.ps, h.a0, h.a1⟩
/-- .. some of it may be pending. -/
structure Jp (d p n : Nat) (F : List Nat) (st : St) (c : Nat) (w : World) : Prop where
  dsk : Dsk d p n F st true w
  free : st.fuse = -1
  few : st.ps.length ≤ 5
  a0 : 0 ≤ st.acts
  a1 : st.acts ≤ 10000 * c
theorem Jd.jp {d p n : Nat} {F : List Nat} {st : St} {c : Nat} {w : World} (h : Jd d p n F st c w) : Jp d p n F st c w := ⟨h.dsk, h.free, by rw [h.ps]; simp, h.a0, h.a1⟩
theorem Jp.below {d p n : Nat} {F : List Nat} {st : St} {c : Nat} {w w' : World} (h : Jp d p n F st c w) (hb : Below w.heap.size w w') : Jp d p n F st c w' := ⟨h.dsk.below hb, h.free, h.few, h.a0, h.a1⟩
theorem Jp.ok {d p n : Nat} {F : List Nat} {st : St} {c : Nat} {w : World} (h : Jp d p n F st c w) : StOk st n := by
  obtain ⟨h1, h2, h3⟩ := h.dsk.wide
  exact ⟨h1, h2, fun x hx => by have := h3 x hx; rw [h1] at this; exact this⟩
theorem Jp.n2 {d p n : Nat} {F : List Nat} {st : St} {c : Nat} {w : World} (h : Jp d p n F st c w) : n ≤ 8192 := by
  obtain ⟨bl, bn, pv, h1, _⟩ := h.dsk.liv
  exact h1.n2
theorem Jp.fit {d p n : Nat} {F : List Nat} {st : St} {c : Nat} {w : World} (h : Jp d p n F st c w) (hc : c ≤ 1000000) (k : Nat) (hk : k ≤ 10000) : st.Fit k :=
  ⟨by rw [h.free]; omega, by rw [h.free]; omega, h.a0, by have := h.a1; omega, by have := h.few; omega⟩
theorem Jd.ok {d p n : Nat} {F : List Nat} {st : St} {c : Nat} {w : World} (h : Jd d p n F st c w) : StOk st n := by
  obtain ⟨h1, h2, h3⟩ := h.dsk.wide
  exact ⟨h1, h2, fun x hx => by have := h3 x hx; rw [h1] at this; exact this⟩
theorem Jd.n2 {d p n : Nat} {F : List Nat} {st : St} {c : Nat} {w : World} (h : Jd d p n F st c w) : n ≤ 8192 := by
  obtain ⟨bl, bn, pv, h1, _⟩ := h.dsk.liv
  exact h1.n2
theorem Jd.fit {d p n : Nat} {F : List Nat} {st : St} {c : Nat} {w : World} (h : Jd d p n F st c w) (hc : c ≤ 1000000) (k : Nat) (hk : k ≤ 10000) : st.Fit k :=
  ⟨by rw [h.free]; omega, by rw [h.free]; omega, h.a0, by have := h.a1; omega, by rw [h.ps]; simp; omega⟩
theorem doAll_acts (os : List Do) : ∀ st : St, st.acts ≤ (doAll (st, true) os).1.acts ∧ (doAll (st, true) os).1.acts ≤ st.acts + os.length := by
  induction os with
  | nil => intro st; exact ⟨Int.le_refl _, by simp [doAll]⟩
  | cons o os ih =>
    intro st
    rw [doAll_cons, List.length_cons]
    by_cases h0 : st.fuse = 0
    · rw [does_cut h0, doAll_off]; exact ⟨Int.le_refl _, by show st.acts ≤ _; omega⟩
    · rw [does_on h0]
      have h1 := ih (st.did o)
      have h2 : (st.did o).acts = st.acts + 1 := by cases o <;> rfl
      rw [h2] at h1
      exact ⟨by omega, by push_cast; omega⟩
theorem length_layActs (a : Nat) (mk : Bool) (first : List UInt8) (rs : List (List UInt8)) : (layActs a mk first rs).length ≤ rs.length + 5 := by
  unfold layActs
  simp only [List.length_append, length_puts, List.length_cons, List.length_nil]
  cases mk <;> simp <;> omega
theorem Jp.laid {d p n : Nat} {F F' : List Nat} {st : St} {c : Nat} {w w' : World} (h : Jp d p n F st c w) {a : Nat} {mk : Bool} {first : List UInt8} {rs : List (List UInt8)} (hl : rs.length ≤ 9000)
    (hD : Dsk d p n F' (doAll (st, true) (layActs a mk first rs)).1 true w') : Jd d p n F' (doAll (st, true) (layActs a mk first rs)).1 (c + 1) w' := by
  have h1 := doAll_acts (layActs a mk first rs) st
  have h2 := length_layActs a mk first rs
  have h3 := h.a0
  have h4 := h.a1
  exact ⟨hD, (doAll_free _ h.free).2, lay_ps (doAll_free _ h.free).1, by omega, by push_cast; omega⟩
theorem fit_ok (room : Nat) (v : Value) (l : List (List UInt8)) (hl : ∀ p ∈ l, p.length ≤ 60000) (hn : l.length ≤ 1000000) (hs : secsAll l ≤ room) (w : World) (h : Texts v l w) :
    Calls Tryz.prog 45 #[.int .i64 room, v] w fun e w' => e = .returned .nilIface ∧ Below w.heap.size w w' := by
  refine (fit_is room v l hl hn w h).mono ?_
  rintro e w' (⟨_, h1, h2⟩ | ⟨h1, _⟩)
  · exact ⟨h1, h2⟩
  · omega
theorem fit_full (room : Nat) (v : Value) (l : List (List UInt8)) (hl : ∀ p ∈ l, p.length ≤ 60000) (hn : l.length ≤ 1000000) (hs : room < secsAll l) (w : World) (h : Texts v l w) :
    Calls Tryz.prog 45 #[.int .i64 room, v] w (Refused 12 0 id w) := by
  refine (fit_is room v l hl hn w h).mono ?_
  rintro e w' (⟨h1, _⟩ | ⟨_, h1⟩)
  · omega
  · exact h1
theorem texts_one {r : List UInt8} {q : ByteArray} (w : World) (hq : q = bs r) : Texts (.slice (some ⟨w.heap.size, 0, none⟩) 1 1) [r] (w.alloc (.cells #[Value.string q] 9)) :=
  Texts.of_cells (l := [r]) (fr := (0, 0)) (by rw [hq]; exact heap_alloc_new _ _) 1
set_option maxRecDepth 100000 in
set_option maxHeartbeats 2000000 in
theorem Append_free (d p n : Nat) (F : List Nat) (st : St) (c from_ m act ep : Nat) (recs : List (List UInt8)) (j : Nat) (r : List UInt8) (hm : from_ + 2 * m ≤ n) (hc : c ≤ 1000000) (hr : r.length ≤ 60000) (hfit : 1 + secsAll recs + secs r ≤ m) (w : World) (h : Jd d p n F st c w)
    (hJ : JAt j d from_ m act ep (1 + recs.length) (1 + secsAll recs) false w) (hO : JOn st.view from_ m act ep recs) (hjF : j ∉ F) (hjp : j ≠ p) :
    Calls Tryz.prog 21 #[.pointer (some ⟨j, 0, none⟩), .string (bs r)] w fun e w' => e = .returned .nilIface ∧ ∃ F' st', Jd d p n F' st' (c + 1) w' ∧ JAt j d from_ m act ep (1 + (recs ++ [r]).length) (1 + secsAll (recs ++ [r])) false w' ∧
      JOn st'.view from_ m act ep (recs ++ [r]) ∧ (∀ x, x < from_ ∨ from_ + 2 * m ≤ x → st'.view x = st.view x) ∧ Mv [p, j] F F' w w' := by
  have hn := h.n2
  have hsp := secs_pos r
  obtain ⟨ss, hss, hsl, hsf⟩ := chop (secs r) (packs ep (1 + recs.length) [r]) (by rw [length_packs, secsAll_cons, secsAll_nil, Nat.add_zero])
  obtain ⟨first, rest, rfl⟩ : ∃ first rest, ss = first :: rest := by
    cases ss with
    | nil => simp at hsl; omega
    | cons a b => exact ⟨a, b, rfl⟩
  have hfirst : first.length = 64 := hss first (List.mem_cons_self ..)
  have hrest : Wide rest := fun s hs => hss s (List.mem_cons_of_mem _ hs)
  rw [List.length_cons] at hsl
  rw [flat_cons] at hsf
  obtain ⟨more, hmore⟩ : ∃ more, more = if 1 + secsAll recs + 1 + rest.length < m then [z64] else [] := ⟨_, rfl⟩
  have hml : more.length ≤ 1 := by rw [hmore]; split <;> simp
  obtain ⟨a, ha⟩ : ∃ a, a = from_ + act * m + (1 + secsAll recs) := ⟨_, rfl⟩
  have ham : act * m ≤ m := by have : act = 0 ∨ act = 1 := by have := hO.a1; omega
                               rcases this with h0 | h0 <;> rw [h0] <;> omega
  have hmr : a + 1 + (rest ++ more).length ≤ from_ + act * m + m := by
    rw [List.length_append, hmore]; split
    · simp; omega
    · simp; omega
  obtain ⟨mk, hmk⟩ : ∃ mk, mk = Lib.hasPrefix (Dk.readAt st.S st.ps a) [1] := ⟨_, rfl⟩
  have hll := length_le_secsAll recs
  have CR := Lib.hid (fun (v : World) (vv : Value) (hv : Below w.heap.size w v) (hT : Texts vv [r] v) => reach_ok d p n F st from_ m act ep (1 + recs.length) (1 + secsAll recs) j act ep (1 + recs.length) (1 + secsAll recs) vv [r] first rest hfirst hrest hsf hm hn hO.a1 (by omega) hO.e2 (by simp; omega) (by intro q hq; simp at hq; rw [hq]; exact hr)
    more hmore a ha v (h.dsk.below hv) (h.fit hc _ (by omega)) mk hmk _ rfl (doAll_free _ h.free).1 (hJ.keep (hv.block j hJ.lt)) hjF hjp hT)
  have hV := view_all (layActs a mk first (rest ++ more)) h.ok (layActs_good hfirst (fun s hs => by
    rcases List.mem_append.1 hs with h1 | h1
    · exact hrest s h1
    · rw [hmore] at h1; split at h1
      · exact wide_one length_z64 s h1
      · cases h1) (by omega)) h.free
  have hA := hO.append r first rest more mk hr hsf hfirst hrest hfit hmore ha (fun x h1 h2 => length_readAt h.ok.wide (fun y hy => by rw [h.ok.len]; exact h.ok.wrs y hy) (by rw [h.ok.len]; omega))
  rw [← hV.2] at hA
  have CF := Lib.hid (fun (v : World) (vv : Value) (hT : Texts vv [r] v) => fit_ok (m - (1 + secsAll recs)) vv [r] (by intro q hq; simp at hq; rw [hq]; exact hr) (by simp) (by rw [secsAll_cons, secsAll_nil]; omega) v hT)
  have CL := Lib.hid (fun (v : World) (hv : Below w.heap.size w v) => Left_is j d from_ m act ep (1 + recs.length) (1 + secsAll recs) false (by omega) (by omega) v (hJ.keep (hv.block j hJ.lt)))
  have HJ := Lib.hid hJ
  have HH := Lib.hid h
  have HA := Lib.hid hA
  have hrl : (rest ++ more).length ≤ 9000 := by omega
  obtain ⟨c0, c1, c2, c3, c4, c5, c6, c7⟩ := hJ.cells
  obtain ⟨q, hq⟩ : ∃ q, q = bs r := ⟨_, rfl⟩
  have HQ := Lib.hid hq
  rw [← hq]
  clear hJ h hO hsf hfirst hrest hmore hmk hV hA hss hq
  go_enter Tryz.func21, Tryz.ntmps21
  go_wp2_with (first | (go_at_call 17; refine (CL.out _ (Below.refl _ _)).mono ?_; rintro e w1 ⟨rfl, hb1⟩; have HB1 := Lib.hid hb1; clear hb1) | fail)
  have hT1 : Texts (.slice (some ⟨w1.heap.size, 0, none⟩) 1 1) [r] (w1.alloc (.cells #[Value.string q] 9)) := texts_one w1 HQ.out
  refine (CF.out _ _ hT1).mono ?_
  rintro e w2 ⟨rfl, hb2⟩
  have hB2 : Below w.heap.size w w2 := (HB1.out.alloc HB1.out.size _).trans (hb2.mono (by simp; have := HB1.out.size; omega))
  have HB2 := Lib.hid hB2
  have hz2 := hB2.size
  obtain ⟨c0, c1, c2, c3, c4, c5, c6, c7⟩ := (HJ.out.keep (hB2.block j HJ.out.lt)).cells
  clear hb2 hT1 hB2
  go_wp2_with fail
  have hT3 : Texts (.slice (some ⟨w2.heap.size, 0, none⟩) 1 1) [r] (w2.alloc (.cells #[Value.string q] 9)) := texts_one w2 HQ.out
  have hB3 : Below w.heap.size w (w2.alloc (.cells #[Value.string q] 9)) := HB2.out.alloc hz2 _
  refine (CR.out _ _ hB3 hT3).mono ?_
  rintro e w3 ⟨rfl, F', hD3, hJ3, hM3⟩
  have HD3 := Lib.hid hD3
  have HJ3 := Lib.hid hJ3
  have HM3 := Lib.hid ((Mv.below [p, j] F hB3).trans hM3)
  clear hD3 hJ3 hM3 hB3 hT3
  go_wp2_with fail
  go_ret
  have e1 : 1 + recs.length + [r].length = 1 + (recs ++ [r]).length := by simp; omega
  have e2 : 1 + secsAll recs + 1 + rest.length = 1 + secsAll (recs ++ [r]) := by rw [secsAll_snoc]; omega
  have hJx := HJ3.out
  rw [e1, e2] at hJx
  exact ⟨rfl, F', _, HH.out.jp.laid hrl HD3.out, hJx, HA.out.1, HA.out.2, HM3.out⟩
end Go.Proofs.YtmobjpandmdmdaaGreatDoor
