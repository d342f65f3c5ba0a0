/- Several texts in one, in the order in which they build: JS3 JS4 JS5 DRack. -/
import Derived.Test.YtbljhodnpddpiaaGreatDoorQ21
import Derived.Test.YtbljhodnpddpiaaGreatDoorQ20
/- JournalPlays: what was done, held against the document's. -/
namespace Go.Proofs.YtbljhodnpddpiaaGreatDoor
open Go.RowKit

section
variable {w0 : World} {from_ m N x p d : Nat} {s : Js} {w : World}
theorem did_closed (h : Base w0 from_ m N x p d s w) (hc : s.cl = true) (g : Nat) (hf : FaultAt g 16 0 w) (e : Int) (r2 : Nat) :
    Calls Tryz.prog 36 #[.pointer (some ⟨x, 0, none⟩), .iface 92 (.pointer (some ⟨g, 0, none⟩)), .int .i64 e, .pointer (some ⟨r2, 0, none⟩)] w fun y w' => y = .returned (.bool true) ∧ w = w' := by
  have c6 : w.cell? ⟨x, 6, none⟩ = some (.bool true) := hc ▸ h.cells.2.1.2.2.1
  have HF := Lib.hid hf
  clear h hf hc
  go_enter Tryz.func36, Tryz.ntmps36
  go_wp2_with (go_at_call 20; refine (is_16 g _ HF.out).mono ?_; rintro e w' ⟨rfl, rfl⟩)
  go_ret
  exact ⟨rfl, rfl⟩
theorem did_bad (h : Base w0 from_ m N x p d s w) (hc : s.cl = false) (g : Nat) (c : Int) (hcc : c = 1 ∨ c = 12) (hf : FaultAt g c 0 w) (r2 : Nat) :
    Calls Tryz.prog 36 #[.pointer (some ⟨x, 0, none⟩), .iface 92 (.pointer (some ⟨g, 0, none⟩)), .int .i64 c, .pointer (some ⟨r2, 0, none⟩)] w fun y w' => y = .returned (.bool true) ∧ w = w' := by
  have c6 : w.cell? ⟨x, 6, none⟩ = some (.bool false) := hc ▸ h.cells.2.1.2.2.1
  have HF := Lib.hid hf
  clear h hf hc
  rcases hcc with rfl | rfl
  · go_enter Tryz.func36, Tryz.ntmps36
    go_wp2_with (go_at_call 20; refine (is_1 g _ HF.out).mono ?_; rintro e w' ⟨rfl, rfl⟩)
    go_ret
    exact ⟨rfl, rfl⟩
  · go_enter Tryz.func36, Tryz.ntmps36
    go_wp2_with (go_at_call 20; refine (is_12 g _ HF.out).mono ?_; rintro e w' ⟨rfl, rfl⟩)
    go_ret
    exact ⟨rfl, rfl⟩
theorem did_gone (h : Base w0 from_ m N x p d s w) (hc : s.cl = false) (hok : s.ok = false) (g g' : Nat) (hf : WrapAt g g' w) (hE : ErrCell w) (hx0 : x ≠ 0) {r2 h2 e2 : Nat} {v2 : Value} {recs2 : List (List UInt8)} (hr : RJ r2 h2 e2 v2 recs2 w) (hxr : r2 ≠ x) :
    Calls Tryz.prog 36 #[.pointer (some ⟨x, 0, none⟩), .iface 92 (.pointer (some ⟨g', 0, none⟩)), .int .i64 0, .pointer (some ⟨r2, 0, none⟩)] w fun y w' => y = .returned (.bool true) ∧ Kept w.heap.size [x] w w' ∧
      w'.heap[x]? = some (.cells (wCells p d s.j s.r from_ m true s.ov s.rot s.vw v2).toArray 33 (0, 0)) := by
  obtain ⟨⟨c0, c1, c2, c3⟩, ⟨c4, c5, c6, c7⟩, c8, c9, c10⟩ := h.cells
  rw [hc] at c6
  obtain ⟨vb2, vc2, rfl⟩ := hr.tx.slice
  have f6 := h.free 6
  have CG := Lib.hid (fun v : World => fun hv : Below w.heap.size w v => Gone_any p (!s.ok) s.st.fuse s.st.acts v (h.below hv).dsk.pow)
  rw [hok] at CG
  have hs1 := set_list h.wld 6 (.bool true)
  have k1 : Kept w.heap.size [x] w (w.setCell ⟨x, 6, none⟩ (.bool true)) := (Kept.refl _ _ _).setCell (p := ⟨x, 6, none⟩) (by simp) _
  have d10 : (w.setCell ⟨x, 6, none⟩ (.bool true)).cell? ⟨x, 10, none⟩ = some s.vb := cell_of_list hs1 10
  have f10 := free_of_list hs1 10
  have r1 : (w.setCell ⟨x, 6, none⟩ (.bool true)).cell? ⟨r2, 2, none⟩ = some (.slice vb2 recs2.length vc2) := by
    have hr2 := (k1.block r2 hr.lt (by simpa using hxr)).trans hr.at_
    exact cell_of_list hr2 2
  have hs2 := set_list hs1 10 (.slice vb2 recs2.length vc2)
  have k2 : Kept w.heap.size [x] w ((w.setCell ⟨x, 6, none⟩ (.bool true)).setCell ⟨x, 10, none⟩ (.slice vb2 recs2.length vc2)) := k1.setCell (p := ⟨x, 10, none⟩) (by simp) _
  have hgx : g ≠ x := by
    rintro rfl
    have h1 := hf.2
    unfold FaultAt at h1
    rw [h.wld] at h1
    simp at h1
  have hgx' : g' ≠ x := by
    rintro rfl
    have h1 := hf.1
    rw [h.wld] at h1
    simp at h1
  have hW : WrapAt g g' ((w.setCell ⟨x, 6, none⟩ (.bool true)).setCell ⟨x, 10, none⟩ (.slice vb2 recs2.length vc2)) := ⟨(k2.block g' (lt_of_heap hf.1) (by simpa using hgx')).trans hf.1, hf.2.keep (k2.block g hf.2.lt (by simpa using hgx))⟩
  have hE2 : ErrCell ((w.setCell ⟨x, 6, none⟩ (.bool true)).setCell ⟨x, 10, none⟩ (.slice vb2 recs2.length vc2)) := hE.keep (k2.block 0 hE.lt (by simpa using fun e => hx0 e.symm))
  have CI := Lib.hid (is_10 g g' _ hW hE2)
  have HS2 := Lib.hid hs2
  have HK2 := Lib.hid k2
  have hxl := h.xl
  clear h hf hE hr hs1 hs2 k1 k2 hW hE2 c1 c2 c3 c4 c5 c7 c8 c9
  go_enter Tryz.func36, Tryz.ntmps36
  go_wp2_with (first | (go_at_call 38; refine (CG.out _ (Below.refl _ _)).mono ?_; rintro e w' ⟨rfl, rfl⟩) | (go_at_call 20; refine CI.out.mono ?_; rintro e w5 ⟨rfl, hb5⟩; have HB5 := Lib.hid hb5; clear hb5) | fail)
  go_ret
  exact ⟨rfl, HK2.out.trans (Kept.of_below (HB5.out.mono HK2.out.size)), (HB5.out.block x (lt_of_heap HS2.out)).trans HS2.out⟩
theorem did_ok (h : Base w0 from_ m N x p d s w) (hc : s.cl = false) (hok : s.ok = true) {r2 h2 e2 : Nat} {v2 : Value} {recs2 : List (List UInt8)} (hr : RJ r2 h2 e2 v2 recs2 w) (hxr : r2 ≠ x) :
    Calls Tryz.prog 36 #[.pointer (some ⟨x, 0, none⟩), .nilIface, .int .i64 0, .pointer (some ⟨r2, 0, none⟩)] w fun y w' => y = .returned (.bool true) ∧ Kept w.heap.size [x] w w' ∧
      w'.heap[x]? = some (.cells (wCells p d s.j r2 from_ m false s.ov s.rot v2 v2).toArray 33 (0, 0)) := by
  obtain ⟨⟨c0, c1, c2, c3⟩, ⟨c4, c5, c6, c7⟩, c8, c9, c10⟩ := h.cells
  rw [hc] at c6
  obtain ⟨vb2, vc2, rfl⟩ := hr.tx.slice
  have f3 := h.free 3
  have CG := Lib.hid (fun v : World => fun hv : Below w.heap.size w v => Gone_any p (!s.ok) s.st.fuse s.st.acts v (h.below hv).dsk.pow)
  rw [hok] at CG
  have hs1 := set_list h.wld 3 (.pointer (some ⟨r2, 0, none⟩))
  have k1 : Kept w.heap.size [x] w (w.setCell ⟨x, 3, none⟩ (.pointer (some ⟨r2, 0, none⟩))) := (Kept.refl _ _ _).setCell (p := ⟨x, 3, none⟩) (by simp) _
  have d9 : (w.setCell ⟨x, 3, none⟩ (.pointer (some ⟨r2, 0, none⟩))).cell? ⟨x, 9, none⟩ = some s.vw := cell_of_list hs1 9
  have f9 := free_of_list hs1 9
  have r1 : (w.setCell ⟨x, 3, none⟩ (.pointer (some ⟨r2, 0, none⟩))).cell? ⟨r2, 2, none⟩ = some (.slice vb2 recs2.length vc2) := by
    have hr2 := (k1.block r2 hr.lt (by simpa using hxr)).trans hr.at_
    exact cell_of_list hr2 2
  have hs2 := set_list hs1 9 (.slice vb2 recs2.length vc2)
  have k2 : Kept w.heap.size [x] w ((w.setCell ⟨x, 3, none⟩ (.pointer (some ⟨r2, 0, none⟩))).setCell ⟨x, 9, none⟩ (.slice vb2 recs2.length vc2)) := k1.setCell (p := ⟨x, 9, none⟩) (by simp) _
  have d10 : ((w.setCell ⟨x, 3, none⟩ (.pointer (some ⟨r2, 0, none⟩))).setCell ⟨x, 9, none⟩ (.slice vb2 recs2.length vc2)).cell? ⟨x, 10, none⟩ = some s.vb := cell_of_list hs2 10
  have f10 := free_of_list hs2 10
  have r2' : ((w.setCell ⟨x, 3, none⟩ (.pointer (some ⟨r2, 0, none⟩))).setCell ⟨x, 9, none⟩ (.slice vb2 recs2.length vc2)).cell? ⟨r2, 2, none⟩ = some (.slice vb2 recs2.length vc2) := by
    have hr2 := (k2.block r2 hr.lt (by simpa using hxr)).trans hr.at_
    exact cell_of_list hr2 2
  have HS3 := Lib.hid (set_list hs2 10 (.slice vb2 recs2.length vc2))
  have HK3 := Lib.hid (k2.setCell (p := ⟨x, 10, none⟩) (by simp) (.slice vb2 recs2.length vc2))
  have HC := Lib.hid hc
  clear h hr hs1 hs2 k1 k2 c1 c2 c4 c5 c7 c8
  go_enter Tryz.func36, Tryz.ntmps36
  go_wp2_with (first | (go_at_call 38; refine (CG.out _ (Below.refl _ _)).mono ?_; rintro e w' ⟨rfl, rfl⟩) | fail)
  go_ret
  have hs := HS3.out
  rw [HC.out] at hs
  exact ⟨rfl, HK3.out, hs⟩
end
end Go.Proofs.YtbljhodnpddpiaaGreatDoor

/- JournalPlays: a step that appends. -/
namespace Go.Proofs.YtbljhodnpddpiaaGreatDoor
open Go.RowKit

/-- Another journal of the document's lies apart. -/
structure Fresh (x p : Nat) (s : Js) (r2 : Nat) (v2 : Value) : Prop where
  rF : r2 ∉ s.F
  rp : r2 ≠ p
  rj : r2 ≠ s.j
  rx : r2 ≠ x
  tp : ∀ g, textsBlock v2 = some g → g ∉ s.F ∧ g ≠ p ∧ g ≠ s.j ∧ g ≠ x ∧ g ≠ r2 ∧ g ≠ s.r
theorem Fresh.of {w0 w w2 : World} {from_ m N x p d r2 h2 e2 : Nat} {s : Js} {v2 : Value} {recs2 : List (List UInt8)} (h : Base w0 from_ m N x p d s w) (hr : w.heap.size ≤ r2) (hR : RJ r2 h2 e2 v2 recs2 w2) (ho : w2.ownsRow w.heap.size 9 1 v2 recs2.length (recs2.map strv)) : Fresh x p s r2 v2 := by
  have hxl := h.xl
  have hpl := h.dsk.pow.lt
  have hFl := h.dsk.Flt
  have hjl := h.jl
  have hrl := h.rj.lt
  refine ⟨fun hm => by have := hFl r2 hm; omega, by omega, by omega, by omega, fun g hg => ?_⟩
  rw [textsBlock_own] at hg
  have h1 := (ho.lt g hg).1
  exact ⟨fun hm => by have := hFl g hm; omega, by omega, by omega, by omega, fun e => own_ne ho hR.at_ (by rw [hg, e]), by omega⟩
theorem Fresh.away {x p r2 W : Nat} {s : Js} {v2 : Value} (h : Fresh x p s r2 v2) {F' : List Nat} (st' : St) (ok' : Bool) (hF : ∀ y ∈ F', y ∈ s.F ∨ W ≤ y) (hr : r2 < W) (hv : ∀ g, textsBlock v2 = some g → g < W) : Fresh x p { s with F := F', st := st', ok := ok' } r2 v2 :=
  ⟨fun hm => by
    rcases hF r2 hm with e | e
    · exact h.rF e
    · omega, h.rp, h.rj, h.rx, fun g hg => ⟨fun hm => by
      rcases hF g hm with e | e
      · exact (h.tp g hg).1 e
      · have := hv g hg; omega, (h.tp g hg).2⟩⟩
section
variable {w0 : World} {from_ m N x p d : Nat} {s : Js} {w w' : World}
theorem Base.err (h : Base w0 from_ m N x p d s w) (hE : ErrCell w0) : ErrCell w ∧ x ≠ 0 ∧ WrapC p s.F w := by
  have hz := hE.lt
  have h1 := h.low x (Or.inr (Or.inl rfl))
  have h2 := h.low p (Or.inl rfl)
  have he := hE.below h.old
  exact ⟨he, by omega, he, by omega, fun hm => by have := h.low 0 (Or.inr (Or.inr (Or.inr (Or.inr hm)))); omega⟩
/-- What a call that lays records leaves. -/
theorem Base.fused (h : Base w0 from_ m N x p d s w) {F' : List Nat} {st' : St} {ok' : Bool} (hM : Mv [p, s.j] s.F F' w w') (hd : Dsk d p 64 F' st' ok' w') (hO : Outs from_ m s.st st') (hF : st'.Fit 1000) (hA : st'.acts ≤ s.st.acts + 10000) : Base w0 from_ m (N + 1) x p d { s with F := F', st := st', ok := ok' } w' := by
  obtain ⟨g1, g2, g3, g4, g5⟩ := h.fits
  refine h.turn (M := N + 1) hM.kept (fun y hy => ?_) hM.foot hd (fun y hy hy2 => (hO.far y hy).trans (h.far y hy hy2)) hO.near ⟨hF.f1, hF.f2, hF.a0, by omega, by have := hF.few; omega⟩
  rcases List.mem_append.1 hy with h1 | h1
  · simp only [List.mem_cons, List.not_mem_nil, or_false] at h1
    rcases h1 with h1 | h1
    · exact Or.inl h1
    · exact Or.inr (Or.inl h1)
  · exact Or.inr (Or.inr h1)
/-- The document's journal is the next one. -/
theorem Base.renew (hb : Base w0 from_ m N x p d s w) (hk : Kept w.heap.size [x] w w') {r2 ep2 : Nat} {v2 : Value} {recs2 : List (List UInt8)} (hR : RJ r2 (m - 1) ep2 v2 recs2 w) (hf : Fresh x p s r2 v2) (hlow : w0.heap.size ≤ r2)
    (hw : w'.heap[x]? = some (.cells (wCells p d s.j r2 from_ m false s.ov s.rot v2 v2).toArray 33 (0, 0))) {act2 : Nat} (hj : JAt s.j d from_ m act2 ep2 (1 + recs2.length) (1 + secsAll recs2) false w) (hok : s.ok = true) (hov : s.ov = false)
    (ha : act2 ≤ 1) (he : ep2 ≤ 4611686018427387904) (hfit : 1 + secsAll recs2 ≤ m) (hm : m ≤ 32) (hfew : ∀ q ∈ recs2, q.length ≤ 60000) (hps : s.st.ps = []) (hfine : s.rot = false → JOn s.st.view from_ m act2 ep2 recs2) : Wd w0 from_ m N x p d w' := by
  have hll := length_le_secsAll recs2
  have ht : Texts v2 recs2 w' := hR.tx.keep hk.size (fun g hg => hk.block g (hR.tx.lt hg) (by simp; exact (hf.tp g hg).2.2.2.1))
  have hR' : RJ r2 (m - 1) ep2 v2 recs2 w' := ⟨(hk.block r2 hR.lt (by simp; exact hf.rx)).trans hR.at_, ht⟩
  refine Or.inl ⟨act2, _, hb.newx hk (fun y hy => Or.inl (by simpa using hy)) hw hR' ht ht ⟨hb.apt.xF, hb.apt.xp, hb.apt.xj, fun e => hf.rx e.symm, hf.rF, hf.rp, hf.rj, hb.apt.jF, hb.apt.jp, fun v hv g hg => ?_⟩ (Nat.lt_of_lt_of_le hb.jl hk.size) (hb.low s.j (Or.inr (Or.inr (Or.inl rfl)))) hlow, hj.keep (hk.block s.j hb.jl (by simp; exact fun e => hb.apt.xj e.symm)), by show false = !s.ok; rw [hok]; rfl, hov, ha, he, hfit, hfew, ⟨by show recs2.length ≤ 1000; omega, by show recs2.length ≤ 1000; omega⟩, fun _ => hps, fun _ hr => ⟨hfine hr, rfl, rfl⟩, fun h => by rw [show s.ok = false from h] at hok; cases hok⟩
  have hv' : v = v2 := by rcases hv with e | e | e <;> exact e
  subst hv'
  obtain ⟨h1, h2, h3, h4, h5, _⟩ := hf.tp g hg
  exact ⟨h1, h2, h3, h4, h5⟩
/-- The power has gone: what would have been is told. -/
theorem Base.shut (hb : Base w0 from_ m N x p d s w) (hk : Kept w.heap.size [x] w w') {r2 : Nat} {v2 : Value} {recs2 : List (List UInt8)} (ht : Texts v2 recs2 w) (hf : Fresh x p s r2 v2)
    (hw : w'.heap[x]? = some (.cells (wCells p d s.j s.r from_ m true s.ov s.rot s.vw v2).toArray 33 (0, 0))) {act : Nat} (hj : JAt s.j d from_ m act s.ep (1 + s.recs.length) (1 + secsAll s.recs) true w) (hok : s.ok = false) (hov : s.ov = false)
    (ha : act ≤ 1) (he : s.ep ≤ 4611686018427387904) (hfit : 1 + secsAll s.recs ≤ m) (hfew : ∀ q ∈ s.recs, q.length ≤ 60000) (hwas : s.was.length ≤ 1000) (hwould : recs2.length ≤ 1000)
    (htorn : s.rot = false → ∀ len, ∃ a e l, JOn (lost s.st len) from_ m a e l ∧ (l = s.was ∨ l = recs2)) : Wd w0 from_ m N x p d w' := by
  obtain ⟨h1, h2, _⟩ := hb.keepx hk
  have ht' : Texts v2 recs2 w' := ht.keep hk.size (fun g hg => hk.block g (ht.lt hg) (by simp; exact (hf.tp g hg).2.2.2.1))
  refine Or.inl ⟨act, _, hb.newx hk (fun y hy => Or.inl (by simpa using hy)) hw h1 h2 ht' ⟨hb.apt.xF, hb.apt.xp, hb.apt.xj, hb.apt.xr, hb.apt.rF, hb.apt.rp, hb.apt.rj, hb.apt.jF, hb.apt.jp, fun v hv g hg => ?_⟩ (Nat.lt_of_lt_of_le hb.jl hk.size) (hb.low s.j (Or.inr (Or.inr (Or.inl rfl)))) (hb.low s.r (Or.inr (Or.inr (Or.inr (Or.inl rfl))))), hj.keep (hk.block s.j hb.jl (by simp; exact fun e => hb.apt.xj e.symm)), by show true = !s.ok; rw [hok]; rfl, hov, ha, he, hfit, hfew, ⟨hwas, hwould⟩, fun h => (by rw [show s.ok = true from h] at hok; cases hok), fun h => (by rw [show s.ok = true from h] at hok; cases hok), fun _ hr => htorn hr⟩
  rcases hv with e | e | e
  · exact hb.apt.tp v (Or.inl e) g hg
  · exact hb.apt.tp v (Or.inr (Or.inl e)) g hg
  · rw [show v = v2 from e] at hg
    obtain ⟨g1, g2, g3, g4, _, g6⟩ := hf.tp g hg
    exact ⟨g1, g2, g3, g4, g6⟩
theorem Base.drop (hb : Base w0 from_ m N x p d s w) {M : Nat} (hk : Below w.heap.size w w') (hN : N ≤ M) : Base w0 from_ m M x p d s w' := (hb.below hk).more hN
theorem Pl.below {act : Nat} (h : Pl w0 from_ m N x p d act s w) (hb : Below w.heap.size w w') : Pl w0 from_ m N x p d act s w' := { h with base := h.base.below hb, jat := h.jat.keep (hb.block s.j h.base.jl) }
theorem Pl.more {act M : Nat} (h : Pl w0 from_ m N x p d act s w) (hN : N ≤ M) : Pl w0 from_ m M x p d act s w := { h with base := h.base.more hN }
end
/-- What the document's Append answers, whatever it is. -/
def RAppP (h B : Nat) (r e : Nat) (recs : List (List UInt8)) (x : List UInt8) (w : World) (y : Ending) (w' : World) : Prop :=
  ∃ c : Int, y = .returned (.int .i64 c) ∧ Below B w w' ∧ ((c = 1 ∧ 60000 < x.length) ∨ (c = 12 ∧ x.length ≤ 60000 ∧ h < secsAll recs + secs x) ∨ (c = 0 ∧ x.length ≤ 60000 ∧ secsAll recs + secs x ≤ h ∧ ∃ v', RJ r h e v' (recs ++ [x]) w' ∧ w'.ownsRow B 9 1 v' (recs ++ [x]).length ((recs ++ [x]).map strv)))
theorem rAppend_any (r h e B : Nat) (v : Value) (recs : List (List UInt8)) (hh : h ≤ 8192) (hf : secsAll recs ≤ h) (hfew : ∀ q ∈ recs, q.length ≤ 60000) (x : List UInt8) (q : ByteArray) (hq : q = bs x) (w : World) (H : RJ r h e v recs w)
    (hown : w.ownsRow B 9 1 v recs.length (recs.map strv)) (hB : B ≤ r) : Calls Tryz.prog 35 #[.pointer (some ⟨r, 0, none⟩), .string q] w (RAppP h B r e recs x w) := by
  have hrl := H.lt
  by_cases hx : x.length ≤ 60000
  · by_cases hfit : secsAll recs + secs x ≤ h
    · refine (rAppend_ok r h e B v recs hh hf hfew x q hq hx hfit w H hown hB).mono ?_
      rintro y w' ⟨rfl, v', h1, h2, h3⟩
      exact ⟨0, rfl, h3, Or.inr (Or.inr ⟨rfl, hx, hfit, v', h1, h2⟩)⟩
    · refine (rAppend_full r h e v recs hh hf hfew x q hq hx (by omega) w H).mono ?_
      rintro y w' ⟨rfl, h1⟩
      exact ⟨12, rfl, h1.mono (by omega), Or.inr (Or.inl ⟨rfl, hx, by omega⟩)⟩
  · refine (rAppend_long r q (by rw [hq, bs_size]; omega) w).mono ?_
    rintro y w' ⟨rfl, rfl⟩
    exact ⟨1, rfl, Below.refl _ _, Or.inl ⟨rfl, by omega⟩⟩
def stepRow (kd n : Int) (t : ByteArray) (tv kv : Value) (tn : Int) : List Value := [.int .i64 kd, .int .i64 n, .string t, tv, kv, .int .i64 tn]
set_option maxRecDepth 100000 in
set_option maxHeartbeats 4000000 in
theorem step_append {w0 w : World} {from_ m N x p d act : Nat} {s : Js} (h : Pl w0 from_ m N x p d act s w) (hN : N ≤ 200) (hm : from_ + 2 * m ≤ 64) (hm2 : 2 ≤ m) (hE : ErrCell w0) (kd n : Int) (hkd : kd = 1 ∨ kd = 7) (hn : -9223372036854775808 ≤ n ∧ n ≤ 9223372036854775807) (t : ByteArray) (tv kv : Value) (tn : Int) :
    Calls Tryz.prog 12 #[.pointer (some ⟨x, 0, none⟩), .agg (stepRow kd n t tv kv tn).toArray] w fun e w' => e = .returned (.bool true) ∧ Wd w0 from_ m (N + 1) x p d w' := by
  obtain ⟨K, hK, hpk⟩ := pick_is n 3000 (by omega) (by omega) hn
  have HPK := Lib.hid hpk
  obtain ⟨qz, hqz⟩ : ∃ q, q = bs (Fr.zero K) := ⟨_, rfl⟩
  have CT := Lib.hid (fun v : World => (show Calls Tryz.prog 7 #[.int .i64 K] v (fun e w' => e = .returned (.string qz) ∧ Below v.heap.size v w') from hqz ▸ text_is K (by omega) v))
  have HZ := Lib.hid hqz
  have hll := length_le_secsAll s.recs
  have hfit := h.fit
  have hz : Below w.heap.size w (w.alloc (.cells (stepRow kd n t tv kv tn).toArray 48)) := (Below.refl _ _).alloc (Nat.le_refl _) _
  have HP := Lib.hid (h.below hz)
  have hcz : (w.alloc (.cells (stepRow kd n t tv kv tn).toArray 48)).heap[w.heap.size]? = some (.cells (stepRow kd n t tv kv tn).toArray 48 (0, 0)) := heap_alloc_new _ _
  obtain ⟨w1, hw1⟩ : ∃ z, z = w.alloc (.cells (stepRow kd n t tv kv tn).toArray 48) := ⟨_, rfl⟩
  rw [← hw1] at HP hcz
  have HW1 := Lib.hid hw1
  have HCZ := Lib.hid hcz
  have c3 := HP.out.base.cells.1.2.2.2
  have CC := Lib.hid (rCopy_is s.r (m - 1) s.ep s.vr s.recs (by omega) w1 HP.out.base.rj)
  clear h hpk hqz hz hw1 hcz
  unfold stepRow at HW1
  unfold stepRow
  go_enter Tryz.func12, Tryz.ntmps12
  go_upto_region 1 with fail
  rw [← HW1.out]
  obtain ⟨z, hz⟩ : ∃ z, z = w.heap.size := ⟨_, rfl⟩
  rw [← hz] at HCZ ⊢
  clear HW1 hz
  go_wp2_with fail
  refine CC.out.mono ?_
  rintro e w2 ⟨r2, v2, rfl, hr2, hR2, hown2, hb2⟩
  have HFR := Lib.hid (Fresh.of HP.out.base hr2 hR2 hown2)
  have HP2 := Lib.hid (HP.out.below hb2)
  have HR2 := Lib.hid hR2
  have HO2 := Lib.hid hown2
  have HCZ2 := Lib.hid ((hb2.block z (lt_of_heap HCZ.out)).trans HCZ.out)
  have HRL := Lib.hid (show w0.heap.size ≤ r2 by have := HP.out.base.old.size; omega)
  have HR12 := Lib.hid hr2
  have z0 : w2.cell? ⟨z, 0, none⟩ = some (.int .i64 kd) := cell_of_list HCZ2.out 0
  have z1 : w2.cell? ⟨z, 1, none⟩ = some (.int .i64 n) := cell_of_list HCZ2.out 1
  have z2 : w2.cell? ⟨z, 2, none⟩ = some (.string t) := cell_of_list HCZ2.out 2
  have HB12 := Lib.hid hb2
  clear hr2 hR2 hown2 hb2 c3 CC HP2 HCZ
  rcases hkd with rfl | rfl
  case' inl =>
    go_upto_region 8 with fail
    obtain ⟨w3, hw3⟩ : ∃ z, z = w2 := ⟨_, rfl⟩
    have HB3 := Lib.hid (show Below w2.heap.size w2 w3 by rw [hw3]; exact Below.refl _ _)
    rw [← hw3]
    obtain ⟨q, hq⟩ : ∃ q, q = t := ⟨_, rfl⟩
    rw [← hq]
    have HQ : Hid (∃ xx, q = bs xx) := Lib.hid ⟨t.data.toList, by rw [hq, bs_self]⟩
    clear hw3 hq z0 z1 z2 CT HPK HZ
  case' inr =>
    go_upto_region 8 with (first | (go_at_call 6; refine (HPK.out _).mono ?_; rintro e wz ⟨rfl, rfl⟩) | (go_at_call 7; refine (CT.out _).mono ?_; rintro e w3 ⟨rfl, hb3⟩; have HB3 := Lib.hid hb3; clear hb3))
    obtain ⟨q, hq⟩ : ∃ q, q = qz := ⟨_, rfl⟩
    rw [← hq]
    have HQ : Hid (∃ xx, q = bs xx) := Lib.hid ⟨Fr.zero K, by rw [hq, HZ.out]⟩
    clear hq z0 z1 z2 CT HPK HZ
  all_goals
    obtain ⟨xx, hxx⟩ := HQ.out
    have HXX := Lib.hid hxx
    clear hxx HQ
    go_wp2_with fail
    refine (rAppend_any r2 (m - 1) s.ep w1.heap.size v2 s.recs (by omega) (by omega) HP.out.few xx q HXX.out w3 (HR2.out.below HB3.out) (own_below HO2.out HB3.out) HR12.out).mono ?_
    rintro e w4 ⟨c, rfl, hb4, hcase⟩
    have HB14 := Lib.hid ((HB12.out.trans (HB3.out.mono HB12.out.size)).trans hb4)
    have HP4 := Lib.hid (HP.out.below HB14.out)
    have HCS := Lib.hid hcase
    have c2 := HP4.out.base.cells.1.2.2.1
    clear hb4 hcase HR2 HO2 HB3 HB12 HFR
    go_wp2_with fail
    have hclo := HP4.out.clo
    cases hok : s.ok with
    | false =>
      rw [hok] at hclo
      have hJ := HP4.out.jat
      rw [hclo] at hJ
      refine (Append_closed d from_ m act s.ep _ _ s.j q w4 hJ).mono ?_
      rintro e w5 ⟨g, hg, rfl, hf, hb5⟩
      have HP5 := Lib.hid (HP4.out.below hb5)
      have HF5 := Lib.hid hf
      clear hg hf hb5 hJ c2
      go_wp2_with fail
      refine (did_closed HP5.out.base hclo g HF5.out c r2).mono ?_
      rintro e wz ⟨rfl, rfl⟩
      go_wp2_with fail
      go_ret
      exact ⟨rfl, Or.inl ⟨act, s, HP5.out.more (by omega)⟩⟩
    | true =>
      rw [hok] at hclo
      have hJ := HP4.out.jat
      have hcl : s.cl = false := hclo
      rw [hcl] at hJ
      have hbad : c ≠ 0 → FitBad (m - (1 + secsAll s.recs)) [xx] c ∧ (c = 1 ∨ c = 12) := by
        intro hc
        rcases HCS.out with ⟨rfl, h1⟩ | ⟨rfl, h1, h2⟩ | ⟨h0, _⟩
        · exact ⟨Or.inl ⟨⟨xx, by simp, h1⟩, rfl⟩, Or.inl rfl⟩
        · exact ⟨Or.inr ⟨fun y hy => by simp at hy; rw [hy]; exact h1, by rw [secsAll_cons, secsAll_nil]; omega, rfl⟩, Or.inr rfl⟩
        · exact absurd h0 hc
      by_cases hc : c = 0
      · subst hc
        obtain ⟨hx6, hxf, v3, hR4, hown4⟩ : xx.length ≤ 60000 ∧ secsAll s.recs + secs xx ≤ m - 1 ∧ ∃ v', RJ r2 (m - 1) s.ep v' (s.recs ++ [xx]) w4 ∧ w4.ownsRow w1.heap.size 9 1 v' (s.recs ++ [xx]).length ((s.recs ++ [xx]).map strv) := by
          rcases HCS.out with ⟨h1, _⟩ | ⟨h1, _⟩ | ⟨_, h⟩
          · cases h1
          · cases h1
          · exact h
        have HFR4 := Lib.hid (Fresh.of HP.out.base HR12.out hR4 hown4)
        have hD : Dsk d p 64 s.F s.st true w4 := hok ▸ HP4.out.base.dsk
        have CA := AppendG d p 64 s.F s.st from_ m act s.ep s.recs s.j xx hm hx6 (by omega) w4 hD (HP4.out.base.fits.fit (by omega) (HP4.out.ps hok)) (HP4.out.ps hok) hJ HP4.out.a1 HP4.out.e2 HP4.out.base.apt.jF HP4.out.base.apt.jp (HP4.out.base.err hE).2.2
        rw [← HXX.out] at CA
        refine CA.mono ?_
        rintro e w5 ⟨y, rfl, F', st', hM, hok', ⟨hFit, hAc⟩, hOut, hcs⟩
        have hFR5 := HFR4.out.away st' true hM.foot hR4.lt (fun g hg => hR4.tx.lt hg)
        have hFR5' := HFR4.out.away st' false hM.foot hR4.lt (fun g hg => hR4.tx.lt hg)
        have hR5 : RJ r2 (m - 1) s.ep v3 (s.recs ++ [xx]) w5 := ⟨(hM.block hR4.lt (by simp; exact ⟨HFR4.out.rp, HFR4.out.rj⟩) HFR4.out.rF).trans hR4.at_, hR4.tx.mv hM (fun g hg => by
          obtain ⟨g1, g2, g3, _⟩ := HFR4.out.tp g hg
          exact ⟨by simp; exact ⟨g2, g3⟩, g1⟩)⟩
        have HFRt := Lib.hid hFR5
        have HFRf := Lib.hid hFR5'
        have HR5 := Lib.hid hR5
        have HBF := Lib.hid (fun (ok' : Bool) (hd : Dsk d p 64 F' st' ok' w5) => HP4.out.base.fused hM hd hOut hFit hAc)
        clear hFR5 hFR5' hR5 hM hok' hFit hAc hOut hR4 hown4 hJ CA hD hbad HCS
        rcases hcs with ⟨rfl, hD5, hps5, hon, hJ5⟩ | ⟨g, g', rfl, hWA, _, hD5, hJ5, hon⟩
        · have HB5 := Lib.hid (HBF.out true hD5)
          have HJ5 := Lib.hid hJ5
          have HON := Lib.hid hon
          have HPS := Lib.hid hps5
          clear hD5 hJ5 hon hps5 HBF
          go_wp2_with fail
          refine (did_ok HB5.out hcl rfl HR5.out HFRt.out.rx).mono ?_
          rintro e w6 ⟨rfl, hk6, hx6'⟩
          have HK6 := Lib.hid hk6
          have HX6 := Lib.hid hx6'
          clear hk6 hx6'
          go_wp2_with fail
          go_ret
          refine ⟨rfl, HB5.out.renew HK6.out HR5.out HFRt.out HRL.out HX6.out HJ5.out rfl HP4.out.ovf HP4.out.a1 HP4.out.e2 (by rw [secsAll_snoc]; omega) (by omega) (fun y hy => ?_) HPS.out (fun hr => HON.out (HP4.out.fine hok hr).1)⟩
          rcases List.mem_append.1 hy with h1 | h1
          · exact HP4.out.few y h1
          · simp at h1; rw [h1]; exact hx6
        · have HB5 := Lib.hid (HBF.out false hD5)
          have HJ5 := Lib.hid hJ5
          have HON := Lib.hid hon
          have HWA := Lib.hid hWA
          clear hD5 hJ5 hon hWA HBF
          unfold faultV
          go_wp2_with fail
          obtain ⟨hE5, hx0, _⟩ := HB5.out.err hE
          refine (did_gone HB5.out hcl rfl g g' HWA.out hE5 hx0 HR5.out HFRf.out.rx).mono ?_
          rintro e w6 ⟨rfl, hk6, hx6'⟩
          have HK6 := Lib.hid hk6
          have HX6 := Lib.hid hx6'
          clear hk6 hx6' hE5
          go_wp2_with fail
          go_ret
          have hl2 : (s.recs ++ [xx]).length ≤ 1000 := by have := length_le_secsAll (s.recs ++ [xx]); rw [secsAll_snoc] at this; omega
          refine ⟨rfl, HB5.out.shut HK6.out HR5.out.tx HFRf.out HX6.out HJ5.out rfl HP4.out.ovf HP4.out.a1 HP4.out.e2 HP4.out.fit HP4.out.few HP4.out.wasf.1 hl2 (fun hr len => ?_)⟩
          obtain ⟨f1, f2, _⟩ := HP4.out.fine hok hr
          rcases HON.out f1 len with h1 | h1
          · exact ⟨_, _, _, h1, Or.inl f2.symm⟩
          · exact ⟨_, _, _, h1, Or.inr rfl⟩
      · obtain ⟨hb1, hb2⟩ := hbad hc
        have CB := Append_bad d from_ m act s.ep _ _ s.j xx c (by omega) (by omega) hb1 w4 hJ
        rw [← HXX.out] at CB
        refine CB.mono ?_
        rintro e w5 ⟨g, hg, rfl, hf, hb5⟩
        have HP5 := Lib.hid (HP4.out.below hb5)
        have HF5 := Lib.hid hf
        have hb2' := Lib.hid hb2
        clear hg hf hb5 hJ c2 CB hbad hb1 hb2 hc
        go_wp2_with fail
        refine (did_bad HP5.out.base hcl g c hb2'.out HF5.out r2).mono ?_
        rintro e wz ⟨rfl, rfl⟩
        go_wp2_with fail
        go_ret
        exact ⟨rfl, Or.inl ⟨act, s, HP5.out.more (by omega)⟩⟩
end Go.Proofs.YtbljhodnpddpiaaGreatDoor

/- JournalPlays: a step that lays all anew. -/
namespace Go.Proofs.YtbljhodnpddpiaaGreatDoor
open Go.RowKit

theorem did_fused {w0 w4 w5 : World} {from_ m N x p d act act' ep' r2 : Nat} {s : Js} {v3 y : Value} {recs' : List (List UInt8)} (h : Pl w0 from_ m N x p d act s w4) (hE : ErrCell w0) (hm : m ≤ 32) (hok : s.ok = true) (hR4 : RJ r2 (m - 1) ep' v3 recs' w4) (hFR : Fresh x p s r2 v3) (hrl : w0.heap.size ≤ r2)
    (ha' : act' ≤ 1) (he' : ep' ≤ 4611686018427387904) (hfit' : 1 + secsAll recs' ≤ m) (hfew' : ∀ q ∈ recs', q.length ≤ 60000) (hFu : FusedG d p 64 s.F s.j from_ m act s.ep s.recs act' ep' recs' s.st w4 y w5) :
    Calls Tryz.prog 36 #[.pointer (some ⟨x, 0, none⟩), y, .int .i64 0, .pointer (some ⟨r2, 0, none⟩)] w5 fun o w' => o = .returned (.bool true) ∧ Wd w0 from_ m (N + 1) x p d w' ∧ w'.cell? ⟨x, 2, none⟩ = some (.pointer (some ⟨s.j, 0, none⟩)) ∧
      ∀ z, z < w4.heap.size → z ≠ x → z ≠ p → z ≠ s.j → z ∉ s.F → w'.heap[z]? = w4.heap[z]? := by
  obtain ⟨F', st', hM, hok', ⟨hFit, hAc⟩, hOut, hcs⟩ := hFu
  have hcl : s.cl = false := by rw [h.clo, hok]; rfl
  have hR5 : RJ r2 (m - 1) ep' v3 recs' w5 := ⟨(hM.block hR4.lt (by simp; exact ⟨hFR.rp, hFR.rj⟩) hFR.rF).trans hR4.at_, hR4.tx.mv hM (fun g hg => by
    obtain ⟨g1, g2, g3, _⟩ := hFR.tp g hg
    exact ⟨by simp; exact ⟨g2, g3⟩, g1⟩)⟩
  have key : ∀ w' : World, Kept w5.heap.size [x] w5 w' → ∀ z, z < w4.heap.size → z ≠ x → z ≠ p → z ≠ s.j → z ∉ s.F → w'.heap[z]? = w4.heap[z]? := fun w' hk z hz h1 h2 h3 h4 =>
    (hk.block z (Nat.lt_of_lt_of_le hz hM.size) (by simpa using h1)).trans (hM.block hz (by simp; exact ⟨h2, h3⟩) h4)
  rcases hcs with ⟨rfl, hD5, hps5, hon, hJ5⟩ | ⟨g, g', rfl, hWA, _, hD5, hJ5, hon⟩
  · have hB5 := h.base.fused hM hD5 hOut hFit hAc
    have hF5 := hFR.away st' true hM.foot hR4.lt (fun g hg => hR4.tx.lt hg)
    refine (did_ok hB5 hcl rfl hR5 hF5.rx).mono ?_
    rintro e w6 ⟨rfl, hk6, hx6⟩
    exact ⟨rfl, hB5.renew hk6 hR5 hF5 hrl hx6 hJ5 rfl h.ovf ha' he' hfit' hm hfew' hps5 (fun hr => hon (h.fine hok hr).1), cell_of_list hx6 2, key w6 hk6⟩
  · have hB5 := h.base.fused hM hD5 hOut hFit hAc
    have hF5 := hFR.away st' false hM.foot hR4.lt (fun g hg => hR4.tx.lt hg)
    obtain ⟨hE5, hx0, _⟩ := hB5.err hE
    refine (did_gone hB5 hcl rfl g g' hWA hE5 hx0 hR5 hF5.rx).mono ?_
    rintro e w6 ⟨rfl, hk6, hx6⟩
    have hl2 := length_le_secsAll recs'
    refine ⟨rfl, hB5.shut hk6 hR5.tx hF5 hx6 hJ5 rfl h.ovf h.a1 h.e2 h.fit h.few h.wasf.1 (by omega) (fun hr len => ?_), cell_of_list hx6 2, key w6 hk6⟩
    obtain ⟨f1, f2, _⟩ := h.fine hok hr
    rcases hon f1 len with h1 | h1
    · exact ⟨_, _, _, h1, Or.inl f2.symm⟩
    · exact ⟨_, _, _, h1, Or.inr rfl⟩
/-- What the document's Reset answers, whatever it is. -/
def RResP2 (h B r e : Nat) (l : List (List UInt8)) (w : World) (y : Ending) (w' : World) : Prop :=
  ∃ c : Int, y = .returned (.int .i64 c) ∧ Below B w w' ∧ ((c = 1 ∧ (Long l ∨ e = 4611686018427387904)) ∨ (c = 12 ∧ (∀ q ∈ l, q.length ≤ 60000) ∧ e < 4611686018427387904 ∧ h < secsAll l) ∨ (c = 0 ∧ (∀ q ∈ l, q.length ≤ 60000) ∧ e < 4611686018427387904 ∧ secsAll l ≤ h ∧ ∃ v', RJ r h (e + 1) v' l w' ∧ w'.ownsRow B 9 1 v' l.length (l.map strv)))
theorem rReset_any (r h e B : Nat) (v0 : Value) (recs : List (List UInt8)) (he : e ≤ 4611686018427387904) (v : Value) (l : List (List UInt8)) (hl : l.length * 16 ≤ 140737488355328) (w : World) (H : RJ r h e v0 recs w) (hB : B ≤ r) (hBw : B ≤ w.heap.size) (hG : Given v l w) :
    Calls Tryz.prog 37 #[.pointer (some ⟨r, 0, none⟩), v] w (RResP2 h B r e l w) := by
  by_cases hL : Long l
  · refine (rReset_long r v l hl hL w hG).mono ?_
    rintro y w' ⟨rfl, hb⟩
    exact ⟨1, rfl, hb.mono hBw, Or.inl ⟨rfl, Or.inl hL⟩⟩
  · have hs : ∀ q ∈ l, q.length ≤ 60000 := fun q hq => by
      rcases Nat.lt_or_ge 60000 q.length with h1 | h1
      · exact absurd ⟨q, hq, h1⟩ hL
      · exact h1
    refine (rReset_short r h e B v0 recs he v l hl hs w H hB hG).mono ?_
    rintro y w' (⟨h1, rfl, hb⟩ | ⟨h1, h2, rfl, hb⟩ | ⟨h1, h2, rfl, v', h3, h4, hb⟩)
    · exact ⟨1, rfl, hb, Or.inl ⟨rfl, Or.inr h1⟩⟩
    · exact ⟨12, rfl, hb, Or.inr (Or.inl ⟨rfl, hs, h1, h2⟩)⟩
    · exact ⟨0, rfl, hb, Or.inr (Or.inr ⟨rfl, hs, h1, h2, v', h3, h4⟩)⟩
set_option maxRecDepth 100000 in
set_option maxHeartbeats 4000000 in
theorem step_reset {w0 w : World} {from_ m N x p d act : Nat} {s : Js} (h : Pl w0 from_ m N x p d act s w) (hN : N ≤ 200) (hm : from_ + 2 * m ≤ 64) (hm2 : 2 ≤ m) (hE : ErrCell w0) (n : Int) (t : ByteArray) (tv kv : Value) (tn : Int) (l : List (List UInt8)) (hl : l.length * 16 ≤ 140737488355328) (hG : Given tv l w) :
    Calls Tryz.prog 12 #[.pointer (some ⟨x, 0, none⟩), .agg (stepRow 2 n t tv kv tn).toArray] w fun e w' => e = .returned (.bool true) ∧ Wd w0 from_ m (N + 1) x p d w' := by
  have hll := length_le_secsAll s.recs
  have hfit := h.fit
  have hz : Below w.heap.size w (w.alloc (.cells (stepRow 2 n t tv kv tn).toArray 48)) := (Below.refl _ _).alloc (Nat.le_refl _) _
  have HP := Lib.hid (h.below hz)
  have hcz : (w.alloc (.cells (stepRow 2 n t tv kv tn).toArray 48)).heap[w.heap.size]? = some (.cells (stepRow 2 n t tv kv tn).toArray 48 (0, 0)) := heap_alloc_new _ _
  have HG := Lib.hid (hG.below (Nat.le_refl _) hz)
  have HZ := Lib.hid (show (w.heap.size ≠ x ∧ w.heap.size ≠ p ∧ w.heap.size ≠ s.j ∧ w.heap.size ∉ s.F) from ⟨fun e => by have := h.base.xl; omega, fun e => by have := h.base.dsk.pow.lt; omega, fun e => by have := h.base.jl; omega, fun hm => by have := h.base.dsk.Flt _ hm; omega⟩)
  obtain ⟨vb0, vc0, rfl⟩ := hG.slice
  obtain ⟨w1, hw1⟩ : ∃ z, z = w.alloc (.cells (stepRow 2 n t (.slice vb0 l.length vc0) kv tn).toArray 48) := ⟨_, rfl⟩
  rw [← hw1] at HP hcz HG
  have HW1 := Lib.hid hw1
  have HCZ := Lib.hid hcz
  have c3 := HP.out.base.cells.1.2.2.2
  have CC := Lib.hid (rCopy_is s.r (m - 1) s.ep s.vr s.recs (by omega) w1 HP.out.base.rj)
  clear h hz hw1 hcz hG
  unfold stepRow at HW1
  unfold stepRow
  go_enter Tryz.func12, Tryz.ntmps12
  go_upto_region 1 with fail
  rw [← HW1.out]
  obtain ⟨z, hz⟩ : ∃ z, z = w.heap.size := ⟨_, rfl⟩
  rw [← hz] at HCZ HZ ⊢
  clear HW1 hz
  go_wp2_with fail
  refine CC.out.mono ?_
  rintro e w2 ⟨r2, v2, rfl, hr2, hR2, hown2, hb2⟩
  have HR2 := Lib.hid hR2
  have HCZ2 := Lib.hid ((hb2.block z (lt_of_heap HCZ.out)).trans HCZ.out)
  have HRL := Lib.hid (show w0.heap.size ≤ r2 by have := HP.out.base.old.size; omega)
  have HR12 := Lib.hid hr2
  have HG2 := Lib.hid (HG.out.below (Nat.le_refl _) hb2)
  have z0 : w2.cell? ⟨z, 0, none⟩ = some (.int .i64 2) := cell_of_list HCZ2.out 0
  have z3 : w2.cell? ⟨z, 3, none⟩ = some (.slice vb0 l.length vc0) := cell_of_list HCZ2.out 3
  have HB12 := Lib.hid hb2
  have hzl := lt_of_heap HCZ.out
  clear hr2 hR2 hown2 hb2 c3 CC HCZ
  go_wp2_with fail
  refine (rReset_any r2 (m - 1) s.ep w1.heap.size v2 s.recs HP.out.e2 (.slice vb0 l.length vc0) l hl w2 HR2.out HR12.out HB12.out.size HG2.out).mono ?_
  rintro e w4 ⟨c, rfl, hb4, hcase⟩
  have HB14 := Lib.hid (HB12.out.trans hb4)
  have HP4 := Lib.hid (HP.out.below HB14.out)
  have HCS := Lib.hid hcase
  have HCZ4 := Lib.hid ((hb4.block z hzl).trans HCZ2.out)
  have HG4 := Lib.hid (HG.out.below (Nat.le_refl _) HB14.out)
  clear hb4 hcase HR2 HB12 z0 z3 HCZ2 HG2 HG
  go_wp2_with fail
  have HGd := Lib.hid (HG4.out.below (Nat.le_refl _) (Below.refl w4.heap.size w4).drew)
  have HSB := Lib.hid (show ∀ v : World, Below w4.heap.size w4 v → v.cell? ⟨x, 2, none⟩ = some (.pointer (some ⟨s.j, 0, none⟩)) ∧ v.cell? ⟨z, 3, none⟩ = some (.slice vb0 l.length vc0) from fun v hv => ⟨(HP4.out.below hv).base.cells.1.2.2.1, cell_of_list ((hv.block z (lt_of_heap HCZ4.out)).trans HCZ4.out) 3⟩)
  have S1 := HSB.out _ (Below.refl w4.heap.size w4).drew
  have hclo := HP4.out.clo
  cases hok : s.ok with
  | false =>
    rw [hok] at hclo
    have CJ := Lib.hid (fun (v : World) (hv : Below w4.heap.size w4 v) (u : Value) => Reset_closed d from_ m act s.ep _ _ s.j u v (hclo ▸ (HP4.out.below hv).jat))
    have CD := Lib.hid (fun (v : World) (hv : Below w4.heap.size w4 v) (g : Nat) (hf : FaultAt g 16 0 v) => did_closed (HP4.out.below hv).base hclo g hf c r2)
    clear hclo
    go_region_held_law (fun v => v.cell? ⟨x, 2, none⟩ = some (.pointer (some ⟨s.j, 0, none⟩)) ∧ v.cell? ⟨z, 3, none⟩ = some (.slice vb0 l.length vc0)) (first | exact S1 | exact S5 | exact S6) (first | (refine step_append_given rfl (.const (Value.slice none 0 0)) (.tmp 57) rfl rfl _ l rfl HGd.out hl (some 58) rfl ?_; intro u w5 ho5 hb5; have b5 : Below w4.heap.size w4 w5 := (Below.refl w4.heap.size w4).drew.trans hb5.out; have S5 := HSB.out w5 b5; have HB5 := Lib.hid b5; clear b5) | (go_simp; go_at_call 22; refine (CJ.out _ HB5.out _).mono ?_; rintro e w6 ⟨g, hg, rfl, hf, hb6⟩; have b6 := HB5.out.trans (hb6.mono HB5.out.size); have S6 := HSB.out w6 b6; have HB6 := Lib.hid b6; have HF6 := Lib.hid hf; clear b6 hg hf hb6) | (go_simp; go_at_call 36; refine (CD.out _ HB6.out g HF6.out).mono ?_; rintro e w7 ⟨rfl, rfl⟩) | fail)
    all_goals
      go_wp2_with fail
      go_ret
      exact ⟨rfl, Or.inl ⟨act, s, (HP4.out.below HB6.out).more (by omega)⟩⟩
  | true =>
    rw [hok] at hclo
    have hcl : s.cl = false := hclo
    by_cases hc : c = 0
    · subst hc
      obtain ⟨hx6, hxe, hxf, v3, hR4, hown4⟩ : (∀ q ∈ l, q.length ≤ 60000) ∧ s.ep < 4611686018427387904 ∧ secsAll l ≤ m - 1 ∧ ∃ v', RJ r2 (m - 1) (s.ep + 1) v' l w4 ∧ w4.ownsRow w1.heap.size 9 1 v' l.length (l.map strv) := by
        rcases HCS.out with ⟨h1, _⟩ | ⟨h1, _⟩ | ⟨_, h⟩
        · cases h1
        · cases h1
        · exact h
      have CJ := Lib.hid (fun (v : World) (hv : Below w4.heap.size w4 v) (u : Value) (hu : Texts u l v) => ResetG d p 64 s.F s.st from_ m act s.ep s.recs l s.j u hm (by omega) hx6 (by omega) v (hok ▸ (HP4.out.below hv).base.dsk) (HP4.out.base.fits.fit (by omega) (HP4.out.ps hok)) (HP4.out.ps hok) (hcl ▸ (HP4.out.below hv).jat) HP4.out.a1 HP4.out.base.apt.jF HP4.out.base.apt.jp ((HP4.out.below hv).base.err hE).2.2 hu)
      have hFR4 := Fresh.of HP.out.base HR12.out hR4 hown4
      have CD := Lib.hid (fun (v v' : World) (y : Value) (hv : Below w4.heap.size w4 v) (hF : FusedG d p 64 s.F s.j from_ m act s.ep s.recs (1 - act) (s.ep + 1) l s.st v y v') => did_fused (HP4.out.below hv) hE (by omega) hok (hR4.below hv) hFR4 HRL.out (by omega) (by omega) (by omega) hx6 hF)
      have HFZ := Lib.hid (fun (v v' : World) (y : Value) (hv : Below w4.heap.size w4 v) (hF : FusedG d p 64 s.F s.j from_ m act s.ep s.recs (1 - act) (s.ep + 1) l s.st v y v') => (show v'.cell? ⟨x, 2, none⟩ = some (.pointer (some ⟨s.j, 0, none⟩)) ∧ v'.cell? ⟨z, 3, none⟩ = some (.slice vb0 l.length vc0) by
        obtain ⟨F', st', hM, _⟩ := hF
        have hb := (HP4.out.below hv).base
        exact ⟨cell_of_list ((hM.block hb.xl (by simp; exact ⟨hb.apt.xp, hb.apt.xj⟩) hb.apt.xF).trans hb.wld) 2, cell_of_list ((hM.block (Nat.lt_of_lt_of_le (lt_of_heap HCZ4.out) hv.size) (by simp; exact ⟨HZ.out.2.1, HZ.out.2.2.1⟩) HZ.out.2.2.2).trans ((hv.block z (lt_of_heap HCZ4.out)).trans HCZ4.out)) 3⟩))
      have HZZ := Lib.hid (lt_of_heap HCZ4.out)
      clear hR4 hown4 hFR4 hclo
      go_region_held_law (fun v => v.cell? ⟨x, 2, none⟩ = some (.pointer (some ⟨s.j, 0, none⟩)) ∧ v.cell? ⟨z, 3, none⟩ = some (.slice vb0 l.length vc0)) (first | exact S1 | exact S5 | exact S6 | exact S7) (first | (refine step_append_given rfl (.const (Value.slice none 0 0)) (.tmp 57) rfl rfl _ l rfl HGd.out hl (some 58) rfl ?_; intro u w5 ho5 hb5; have b5 : Below w4.heap.size w4 w5 := (Below.refl w4.heap.size w4).drew.trans hb5.out; have S5 := HSB.out w5 b5; have HB5 := Lib.hid b5; clear b5) | (go_simp; go_at_call 22; refine (CJ.out _ HB5.out _ (Texts.of_own ho5.out)).mono ?_; rintro e w6 ⟨y, rfl, hF6⟩; have S6 := HFZ.out _ _ _ HB5.out hF6; have HF6 := Lib.hid hF6; clear hF6) | (go_simp; go_at_call 36; refine (CD.out _ _ _ HB5.out HF6.out).mono ?_; rintro e w7 ⟨rfl, hWd, hc7, hz7⟩; have HWD := Lib.hid hWd; have S7 : w7.cell? ⟨x, 2, none⟩ = some (.pointer (some ⟨s.j, 0, none⟩)) ∧ w7.cell? ⟨z, 3, none⟩ = some (.slice vb0 l.length vc0) := ⟨hc7, cell_of_list ((hz7 z (Nat.lt_of_lt_of_le HZZ.out HB5.out.size) HZ.out.1 HZ.out.2.1 HZ.out.2.2.1 HZ.out.2.2.2).trans ((HB5.out.block z HZZ.out).trans HCZ4.out)) 3⟩; clear hWd hc7 hz7) | fail)
      all_goals
        go_wp2_with fail
        go_ret
        exact ⟨rfl, HWD.out⟩
    · have hc12 : c = 1 ∨ c = 12 := by
        rcases HCS.out with ⟨h1, _⟩ | ⟨h1, _⟩ | ⟨h1, _⟩
        · exact Or.inl h1
        · exact Or.inr h1
        · exact absurd h1 hc
      have CJ := Lib.hid (fun (v : World) (hv : Below w4.heap.size w4 v) (u : Value) (hu : Texts u l v) => (show Calls Tryz.prog 22 #[.pointer (some ⟨s.j, 0, none⟩), u] v (Refused c 0 id v) by
        have hJ := (HP4.out.below hv).jat
        rw [hcl] at hJ
        by_cases htop : s.ep = 4611686018427387904
        · have h1 : c = 1 := by
            rcases HCS.out with ⟨h1, _⟩ | ⟨_, _, h2, _⟩ | ⟨h1, _⟩
            · exact h1
            · omega
            · exact absurd h1 hc
          rw [h1]
          rw [htop] at hJ
          exact Reset_top d from_ m act _ _ s.j u v hJ
        · have hee := HP4.out.e2
          refine Reset_bad d from_ m act s.ep _ _ s.j u l c (by omega) (by omega) (by omega) hl ?_ v hJ hu
          rcases HCS.out with ⟨h1, h2⟩ | ⟨h1, h2, h3, h4⟩ | ⟨h1, _⟩
          · rcases h2 with h2 | h2
            · exact Or.inl ⟨h2, h1⟩
            · exact absurd h2 htop
          · exact Or.inr ⟨h2, h4, h1⟩
          · exact absurd h1 hc))
      have CD := Lib.hid (fun (v : World) (hv : Below w4.heap.size w4 v) (g : Nat) (hf : FaultAt g c 0 v) => did_bad (HP4.out.below hv).base hcl g c hc12 hf r2)
      clear hclo hc12 hc
      go_region_held_law (fun v => v.cell? ⟨x, 2, none⟩ = some (.pointer (some ⟨s.j, 0, none⟩)) ∧ v.cell? ⟨z, 3, none⟩ = some (.slice vb0 l.length vc0)) (first | exact S1 | exact S5 | exact S6) (first | (refine step_append_given rfl (.const (Value.slice none 0 0)) (.tmp 57) rfl rfl _ l rfl HGd.out hl (some 58) rfl ?_; intro u w5 ho5 hb5; have b5 : Below w4.heap.size w4 w5 := (Below.refl w4.heap.size w4).drew.trans hb5.out; have S5 := HSB.out w5 b5; have HB5 := Lib.hid b5; clear b5) | (go_simp; go_at_call 22; refine (CJ.out _ HB5.out _ (Texts.of_own ho5.out)).mono ?_; rintro e w6 ⟨g, hg, rfl, hf, hb6⟩; have b6 := HB5.out.trans (hb6.mono HB5.out.size); have S6 := HSB.out w6 b6; have HB6 := Lib.hid b6; have HF6 := Lib.hid hf; clear b6 hg hf hb6) | (go_simp; go_at_call 36; refine (CD.out _ HB6.out g HF6.out).mono ?_; rintro e w7 ⟨rfl, rfl⟩) | fail)
      all_goals
        go_wp2_with fail
        go_ret
        exact ⟨rfl, Or.inl ⟨act, s, (HP4.out.below HB6.out).more (by omega)⟩⟩
end Go.Proofs.YtbljhodnpddpiaaGreatDoor

/- A disk and its power that a call made itself, as one thing; what each call does with it. -/
namespace Go.Proofs.YtbljhodnpddpiaaGreatDoor
open Go.RowKit

theorem less_none : less (-1) = -1 := rfl
/-- A disk at a power without a fuse, made since w0. -/
structure Rack (w0 : World) (p d : Nat) (F : List Nat) (n : Nat) (S : List (List UInt8)) (ps : List Dk.Wr) (acts : Nat) (w : World) : Prop where
  pow : PowerAt p false (-1) acts w
  liv : Live d p F n S ps 0 w
  old : Below w0.heap.size w0 w
  pn : w0.heap.size ≤ p
  fn : ∀ x ∈ F, w0.heap.size ≤ x
section
variable {w0 w : World} {p d : Nat} {F : List Nat} {n : Nat} {S : List (List UInt8)} {ps : List Dk.Wr} {acts : Nat}
theorem Rack.below {w' : World} (h : Rack w0 p d F n S ps acts w) (hb : Below w.heap.size w w') : Rack w0 p d F n S ps acts w' :=
  ⟨h.pow.keep (hb.block p h.pow.lt), h.liv.below hb, h.old.trans (hb.mono h.old.size), h.pn, h.fn⟩
theorem Rack.back {w1 : World} (h : Rack w0 p d F n S ps acts w) (hb : Below w1.heap.size w1 w0) : Rack w1 p d F n S ps acts w :=
  ⟨h.pow, h.liv, hb.trans (h.old.mono hb.size), Nat.le_trans hb.size h.pn, fun x hx => Nat.le_trans hb.size (h.fn x hx)⟩
theorem Rack.write (h : Rack w0 p d F n S ps acts w) (a : Nat) (q : ByteArray) (ha : a < n) (hq : q.size = 64) (hfew : ps.length < 1000000) (hacts : acts ≤ 1000000000) :
    Calls Tryz.prog 8 #[.pointer (some ⟨d, 0, none⟩), .int .i64 a, .string q] w fun e w' => e = .returned .nilIface ∧ ∃ F', Rack w0 p d F' n S (ps ++ [(a, q.data.toList)]) (acts + 1) w' := by
  refine (Write_ok d p F n S ps 0 (-1) acts a q ha hq hfew (by omega) (by omega) (by omega) (by omega) (by omega) w h.liv h.pow).mono ?_
  rintro e w' ⟨rfl, F', hL, hP, hF, hk⟩
  have hz := h.old.size
  refine ⟨rfl, F', by rw [less_none] at hP; exact hP, hL, h.old.trans ((hk.mono hz (fun _ _ hm => hm)).below (fun k hm => ?_)), h.pn, fun x hx => ?_⟩
  · rcases List.mem_cons.1 hm with rfl | hm
    · exact h.pn
    · exact h.fn k hm
  · rcases hF x hx with h1 | h1
    · exact h.fn x h1
    · omega
theorem Rack.flush (h : Rack w0 p d F n S ps acts w) (hacts : acts ≤ 1000000000) :
    Calls Tryz.prog 9 #[.pointer (some ⟨d, 0, none⟩)] w fun e w' => e = .returned .nilIface ∧ Rack w0 p d F n (Dk.settleTo S ps (fun _ => 64) ps.length) [] (acts + 1) w' := by
  refine (Flush_ok d p F n S ps 0 (-1) acts (by omega) (by omega) (by omega) (by omega) (by omega) w h.liv h.pow).mono ?_
  rintro e w' ⟨rfl, hL, hP, hk⟩
  have hz := h.old.size
  refine ⟨rfl, by rw [less_none] at hP; exact hP, hL, h.old.trans ((hk.mono hz (fun _ _ hm => hm)).below (fun k hm => ?_)), h.pn, h.fn⟩
  rcases List.mem_cons.1 hm with rfl | hm
  · exact h.pn
  · exact h.fn k hm
theorem Rack.lose (h : Rack w0 p d F n S ps acts w) (kv : Value) (kb ko : Nat) (ks : List Nat) (keep : List Bool) (t : Int) (hy : Yes kv kb ko ks keep w) (hks : ∀ k ∈ ks, k < w.heap.size ∧ k ∉ F) :
    Calls Tryz.prog 42 #[.pointer (some ⟨d, 0, none⟩), kv, .int .i64 t] w fun e w' => e = .returned (.tuple #[]) ∧ Rack w0 p d F n (Dk.settleTo S ps (Dk.keptAt keep (Dk.clamp t)) ps.length) [] acts w' := by
  have hpF : p ∉ F := by obtain ⟨_, _, _, _, _, _, _, _, h5, _⟩ := h.liv; exact h5
  refine (Lose_any d p F n S ps 0 kv kb ko ks keep t w h.liv hy hks).mono ?_
  rintro e w' ⟨rfl, hL, hk⟩
  have hz := h.old.size
  exact ⟨rfl, h.pow.keep (hk.block p h.pow.lt hpF), hL, h.old.trans ((hk.mono hz (fun _ _ hm => hm)).below h.fn), h.pn, h.fn⟩
theorem Rack.read (h : Rack w0 p d F n S ps acts w) (a : Nat) (ha : a < n) (q : ByteArray) (hq : q.data.toList = Dk.readAt S ps a) :
    Calls Tryz.prog 91 #[.pointer (some ⟨d, 0, none⟩), .int .i64 a] w fun e w' => e = .returned (.tuple #[.string q, .nilIface]) ∧ w = w' := Read_ok d p F n S ps 0 (-1) acts a ha q hq w h.liv h.pow
theorem Rack.image (h : Rack w0 p d F n S ps acts w) (q : ByteArray) (hq : q.data.toList = S.flatten) :
    Calls Tryz.prog 18 #[.pointer (some ⟨d, 0, none⟩)] w fun e w' => e = .returned (.string q) ∧ Rack w0 p d F n S ps acts w' :=
  (Image_ok d p F n S ps 0 q hq w h.liv).mono fun _ _ ⟨he, hb⟩ => ⟨he, h.below hb⟩
theorem Rack.pending (h : Rack w0 p d F n S ps acts w) (m : Nat) (hm : m = ps.length) : Calls Tryz.prog 11 #[.pointer (some ⟨d, 0, none⟩)] w fun e w' => e = .returned (.int .i64 m) ∧ w = w' := by
  obtain ⟨bl, bn, pv, h, _⟩ := h.liv
  subst hm
  exact Pending_any d p bl bn pv n S ps 0 w h
end
end Go.Proofs.YtbljhodnpddpiaaGreatDoor
