/- Several texts in one, in the order in which they build: JM1 JS2. -/
import Derived.Test.YtbljhodnpddpiaaGreatDoorQ20
import Derived.Test.YtbljhodnpddpiaaGreatDoorQ18
/- JournalPlays: what is right is what stands there; the journal's bytes. -/
namespace Go.Proofs.YtbljhodnpddpiaaGreatDoor
open Go.RowKit

theorem NoRec.not {l : List UInt8} (h : NoRec l) (e n : Nat) : NotRec (bs l) e n := fun p hp => by
  rcases h with h | h
  · have := hp.looks.size; rw [bs_size] at this; omega
  · have := hp.looks.mark; rw [strAt_eq, bs_list] at this; exact h this
theorem EpochIs.g {s : ByteArray} {R : Nat} (h : EpochIs s R) : EpochG s R := by
  rcases h with ⟨h, rfl⟩ | h
  · refine Or.inl ⟨rfl, Or.inr (Or.inr (fun hp => ?_))⟩
    rcases h with h | h
    · have := hp.looks.size; rw [size_toList] at h; omega
    · have := hp.looks.mark; rw [strAt_eq] at this; exact h this
  · exact Or.inr h
theorem chain_packs (e : Nat) (tail : List UInt8) (ht : NoRec tail) : ∀ (ps : List (List UInt8)) (n : Nat), (∀ p ∈ ps, p.length ≤ 60000) → (packs e n ps ++ tail).length ≤ 281474976710656 → Chain e n (packs e n ps ++ tail) ps := by
  intro ps
  induction ps with
  | nil => intro n _ _; rw [packs_nil, List.nil_append]; exact .stop (ht.not e n)
  | cons p ps ih =>
    intro n hf hl
    have hsplit : packs e n (p :: ps) ++ tail = Fr.record e n p ++ (packs e (n + 1) ps ++ tail) := by rw [packs_cons, List.append_assoc]
    refine .next (isRec e n p (packs e (n + 1) ps ++ tail) (hf p (List.mem_cons_self ..)) _ (by rw [bs_list, hsplit]) (by rw [bs_size]; exact hl)) ?_
    rw [hsplit, List.drop_left' (by rw [Fr.length_record, whole_secs])]
    exact ih (n + 1) (fun q hq => hf q (List.mem_cons_of_mem _ hq)) (by rw [hsplit, List.length_append] at hl; omega)
theorem JOn.rightG {st : St} {n from_ m act ep : Nat} {recs : List (List UInt8)} (h : JOn st.view from_ m act ep recs) (hok : StOk st n) (hps : st.ps = []) (hm : from_ + 2 * m ≤ n) (hn : n ≤ 8192) : RightG st.S from_ m act ep recs := by
  obtain ⟨tail, hR⟩ := h.right hps
  obtain ⟨E0, E1, h0, h1, h2, h3⟩ := hR.heads
  refine ⟨⟨E0, E1, h0.g, h1.g, h2, h3⟩, ?_⟩
  have hl : (rd st.S [] (from_ + act * m + 1) (m - 1)).length = 64 * (m - 1) := by
    have ham : act * m ≤ m := by have : act = 0 ∨ act = 1 := by have := h.a1; omega
                                 rcases this with h0 | h0 <;> rw [h0] <;> omega
    have := h.used
    exact length_rd hok.wide (by simp) _ _ (by rw [hok.len]; omega)
  rw [hR.text] at hl ⊢
  exact chain_packs ep tail hR.none recs 1 hR.few (by rw [hl]; omega)
/-- What an opening finds. -/
structure Found (from_ m : Nat) (s : Js) (act E : Nat) (recs : List (List UInt8)) : Prop where
  right : RightG s.st.S from_ m act E recs
  a1 : act ≤ 1
  e2 : E ≤ 4611686018427387904
  fit : 1 + secsAll recs ≤ m
  few : ∀ q ∈ recs, q.length ≤ 60000
  fine : s.rot = false → 1 ≤ E ∧ JOn s.st.view from_ m act E recs ∧ (recs = s.was ∨ recs = s.would)
theorem RightG.facts {st : St} {from_ m act E : Nat} {recs : List (List UInt8)} (h : RightG st.S from_ m act E recs) (hok : StOk st 64) (hm : from_ + 2 * m ≤ 64) (hm2 : 2 ≤ m) : act ≤ 1 ∧ E ≤ 4611686018427387904 ∧ 1 + secsAll recs ≤ m ∧ ∀ q ∈ recs, q.length ≤ 60000 := by
  obtain ⟨⟨E0, E1, h0, h1, h2, h3⟩, hc⟩ := h
  have ha : act ≤ 1 := by rw [h2]; split <;> omega
  have m0 := h0.most
  have m1 := h1.most
  refine ⟨ha, by rw [h3]; split <;> omega, ?_, hc.few⟩
  have hl := hc.len
  rw [length_rd hok.wide (by simp) _ _ (by
    have ham : act * m ≤ m := by
      have : act = 0 ∨ act = 1 := by omega
      rcases this with h0 | h0 <;> rw [h0] <;> omega
    rw [hok.len]; omega)] at hl
  omega
theorem Pre.found {w0 w : World} {from_ m N x p d : Nat} {s : Js} (h : Pre w0 from_ m N x p d s w) (hm : from_ + 2 * m ≤ 64) (hm2 : 2 ≤ m) : ∃ act E recs, Found from_ m s act E recs := by
  have hok := h.base.ok64
  cases hr : s.rot with
  | false =>
    obtain ⟨a, e, l, hj, hl⟩ := h.hist hr
    have hg := hj.rightG hok h.ps hm (by omega)
    obtain ⟨f1, f2, f3, f4⟩ := hg.facts hok hm hm2
    exact ⟨a, e, l, hg, f1, f2, f3, f4, fun _ => ⟨hj.e1, hj, hl⟩⟩
  | true =>
    obtain ⟨E0, hE0⟩ := epochG_is (bs (Dk.readAt s.st.S [] from_))
    obtain ⟨E1, hE1⟩ := epochG_is (bs (Dk.readAt s.st.S [] (from_ + m)))
    obtain ⟨act, hact⟩ : ∃ act, act = (if E0 < E1 then 1 else 0) := ⟨_, rfl⟩
    obtain ⟨E, hE⟩ : ∃ E, E = (if E0 < E1 then E1 else E0) := ⟨_, rfl⟩
    obtain ⟨recs, hrecs⟩ := chain_is E _ 1 (rd s.st.S [] (from_ + act * m + 1) (m - 1)) (Nat.le_refl _)
    have hg : RightG s.st.S from_ m act E recs := ⟨⟨E0, E1, hE0, hE1, hact, hE⟩, hrecs⟩
    obtain ⟨f1, f2, f3, f4⟩ := hg.facts hok hm hm2
    exact ⟨act, E, recs, hg, f1, f2, f3, f4, fun h => by rw [hr] at h; cases h⟩
theorem flat_len64 : ∀ (S : List (List UInt8)), (∀ x ∈ S, x.length = 64) → S.flatten.length = 64 * S.length := by
  intro S
  induction S with
  | nil => intro _; rfl
  | cons x S ih => intro h; rw [List.flatten_cons, List.length_append, ih (fun s hs => h s (List.mem_cons_of_mem _ hs)), h x (List.mem_cons_self ..), List.length_cons]; omega
/-- The document's Read of the journal's bytes. -/
def ReadC (m act E : Nat) (recs : List (List UInt8)) (sx : ByteArray) : Prop :=
  (E = 0 → ∀ w : World, Calls Tryz.prog 60 #[.string sx] w fun e w' => e = .returned (.agg (fndV 0 (.slice none 0 0) 0 false).toArray) ∧ Below w.heap.size w w') ∧
  (1 ≤ E → ∀ w : World, Calls Tryz.prog 60 #[.string sx] w fun e w' => ∃ v, e = .returned (.agg (fndV E v ((m - 1 - secsAll recs : Nat) : Int) (decide (act = 1))).toArray) ∧ w'.ownsRow w.heap.size 9 1 v recs.length (recs.map strv) ∧ Below w.heap.size w w')
theorem readC {S : List (List UInt8)} {from_ m act E : Nat} {recs : List (List UInt8)} {sx : ByteArray} (hR : RightG S from_ m act E recs) (hB : Bytes S from_ m sx) (hm2 : 2 ≤ m) (hm : m ≤ 32) : ReadC m act E recs sx := by
  obtain ⟨⟨E0, E1, hE0, hE1, hact, hE⟩, hc⟩ := hR
  refine ⟨fun he w => ?_, fun he w => ?_⟩
  · have e01 : E0 = 0 ∧ E1 = 0 := by
      rw [hE] at he
      by_cases hc : E0 < E1
      · rw [if_pos hc] at he; omega
      · rw [if_neg hc] at he; omega
    exact rRead_blank sx m hm2 (by omega) hB.size (by rw [hB.one]; exact e01.1 ▸ hE0) (by rw [hB.two]; exact e01.2 ▸ hE1) w
  · refine rRead_is sx m E0 E1 act E recs hm2 (by omega) hB.size (by rw [hB.one]; exact hE0) (by rw [hB.two]; exact hE1) hact hE he ?_ w
    rw [hB.rest act (by rw [hact]; split <;> omega)]
    exact hc
set_option maxRecDepth 100000 in
set_option maxHeartbeats 1000000 in
theorem bytes_any {w0 w : World} {from_ m N x p d : Nat} {s : Js} (h : Base w0 from_ m N x p d s w) (hm : from_ + 2 * m ≤ 64) (hm2 : 2 ≤ m) :
    Calls Tryz.prog 61 #[.pointer (some ⟨x, 0, none⟩)] w fun e w' => ∃ sx, e = .returned (.string sx) ∧ Bytes s.st.S from_ m sx ∧ Below w.heap.size w w' := by
  obtain ⟨img, himg⟩ := list_of' s.st.S.flatten
  obtain ⟨sx, hsx⟩ : ∃ sx, sx = img.extract (64 * from_) (64 * (from_ + 2 * m)) := ⟨_, rfl⟩
  have hok := h.ok64
  have hBy := bytes_is s.st.S from_ m sx hok.wide (by rw [hok.len]; omega) hm2 (by rw [hsx, extract_list, himg])
  have himl : img.size = 4096 := by
    have h4 := flat_len64 s.st.S hok.wide
    rw [hok.len, ← himg, size_toList] at h4
    omega
  have CI := Lib.hid (fun (v : World) (hb : Below w.heap.size w v) => Image_ok d p s.F 64 s.st.S s.st.ps 0 img himg v (h.below hb).dsk.liv)
  obtain ⟨⟨c0, c1, c2, c3⟩, ⟨c4, c5, c6, c7⟩, c8, c9, c10⟩ := h.cells
  have hxl := h.xl
  obtain ⟨K1, hK1⟩ : ∃ K, K = 64 * from_ := ⟨_, rfl⟩
  obtain ⟨K2, hK2⟩ : ∃ K, K = from_ + 2 * m := ⟨_, rfl⟩
  obtain ⟨K3, hK3⟩ : ∃ K, K = 64 * (from_ + 2 * m) := ⟨_, rfl⟩
  obtain ⟨M2, hM2⟩ : ∃ K, K = 2 * m := ⟨_, rfl⟩
  rw [← hK1, ← hK3] at hsx
  rw [← hM2] at c5
  have hmid : ∀ v : World, (Instr.slice 9 (.string img) (some (.int .i64 (K1 : Int))) (some (.int .i64 (K3 : Int))) none).run Tryz.prog v = .ok (.string sx) v := fun v => by
    rw [hsx]; exact run_mid_string (P := Tryz.prog) v 9 img .i64 .i64 K1 K3 Tryz.underlying9 (by omega) (by omega)
  have x1 : IntKind.i64.wrap (64 * (from_ : Int)) = (K1 : Int) := by rw [IntWalk.i64_in _ (by omega)]; omega
  have x2 : IntKind.i64.wrap ((from_ : Int) + (M2 : Int)) = (K2 : Int) := by rw [IntWalk.i64_in _ (by omega)]; omega
  have x3 : IntKind.i64.wrap (64 * (K2 : Int)) = (K3 : Int) := by rw [IntWalk.i64_in _ (by omega)]; omega
  have HBy := Lib.hid hBy
  have S1 : w.drew.cell? ⟨x, 1, none⟩ = some (.pointer (some ⟨d, 0, none⟩)) ∧ w.drew.cell? ⟨x, 4, none⟩ = some (.int .i64 from_) ∧ w.drew.cell? ⟨x, 5, none⟩ = some (.int .i64 M2) := ⟨c1, c4, c5⟩
  have SB : ∀ v : World, Below w.heap.size w v → v.cell? ⟨x, 1, none⟩ = some (.pointer (some ⟨d, 0, none⟩)) ∧ v.cell? ⟨x, 4, none⟩ = some (.int .i64 from_) ∧ v.cell? ⟨x, 5, none⟩ = some (.int .i64 M2) := fun v hv => ⟨(World.cell?_of_block (w := w) (a := ⟨x, 1, none⟩) (hv.block x hxl)).trans c1, (World.cell?_of_block (w := w) (a := ⟨x, 4, none⟩) (hv.block x hxl)).trans c4, (World.cell?_of_block (w := w) (a := ⟨x, 5, none⟩) (hv.block x hxl)).trans c5⟩
  have HSB := Lib.hid SB
  clear h hBy himl hsx himg hok hK1 hK2 hK3 hM2 SB c0 c2 c3 c6 c7 c8 c9 c10
  go_enter Tryz.func61, Tryz.ntmps61
  go_wp2_with fail
  go_region_held_law (fun v => v.cell? ⟨x, 1, none⟩ = some (.pointer (some ⟨d, 0, none⟩)) ∧ v.cell? ⟨x, 4, none⟩ = some (.int .i64 from_) ∧ v.cell? ⟨x, 5, none⟩ = some (.int .i64 M2)) (first | exact S1 | exact S5) (first | (go_simp; go_at_call 18; refine (CI.out _ (Below.refl _ _).drew).mono ?_; rintro e w5 ⟨rfl, hb5⟩; have S5 := HSB.out w5 ((Below.refl _ _).drew.trans hb5); have HB5 := Lib.hid hb5; clear hb5) | fail)
  all_goals
    go_wp2_with fail
    go_ret
    exact ⟨sx, rfl, HBy.out, (Below.refl _ _).drew.trans HB5.out⟩
end Go.Proofs.YtbljhodnpddpiaaGreatDoor

/- JournalPlays: the journal opened anew. -/
namespace Go.Proofs.YtbljhodnpddpiaaGreatDoor
open Go.RowKit

/-- What the law's world has come to: a journal, or nothing any more. -/
def Wd (w0 : World) (from_ m N x p d : Nat) (w : World) : Prop := (∃ act s, Pl w0 from_ m N x p d act s w) ∨ ∃ s, Base w0 from_ m N x p d s w ∧ s.ov = true ∧ s.cl = true
set_option maxRecDepth 100000 in
set_option maxHeartbeats 4000000 in
theorem open_blank {w0 w : World} {from_ m N x p d : Nat} {s : Js} (h : Pre w0 from_ m N x p d s w) (hm : from_ + 2 * m ≤ 64) (hm2 : 2 ≤ m) (act : Nat) (recs : List (List UInt8)) (hF : Found from_ m s act 0 recs) :
    Calls Tryz.prog 39 #[.pointer (some ⟨x, 0, none⟩)] w fun e w' => e = .returned (.bool true) ∧ Wd w0 from_ m N x p d w' := by
  have hrot : s.rot = true := by
    cases hr : s.rot with
    | true => rfl
    | false => have := (hF.fine hr).1; omega
  have CB := Lib.hid (fun (v : World) (hb : Base w0 from_ m N x p d s v) => bytes_any hb hm hm2)
  have CR := Lib.hid (fun (sx : ByteArray) (hB : Bytes s.st.S from_ m sx) => (readC hF.right hB hm2 (by omega)).1 rfl)
  have CO := Lib.hid (fun (v : World) (hb : Base w0 from_ m N x p d s v) => OpenD_blank d p 64 s.F s.st from_ m act recs from_ (2 * m : Nat) rfl rfl hm hm2 h.ps v (h.okt ▸ hb.dsk) hF.right)
  obtain ⟨M2, hM2⟩ : ∃ K, K = 2 * m := ⟨_, rfl⟩
  rw [← hM2] at CO
  have HB := Lib.hid h.base
  have HM := Lib.hid hM2
  have HROT := Lib.hid hrot
  clear h hF hrot hM2
  go_enter Tryz.func39, Tryz.ntmps39
  go_wp2_with fail
  refine (CB.out _ HB.out).mono ?_
  rintro e w1 ⟨sx, rfl, hBy, hb1⟩
  have HB1 := Lib.hid (HB.out.below hb1)
  have CR1 := Lib.hid (CR.out sx hBy)
  clear hb1 hBy CR CB
  go_wp2_with fail
  refine (CR1.out _).mono ?_
  rintro e w2 ⟨rfl, hb2⟩
  have HB2 := Lib.hid (HB1.out.below hb2)
  clear hb2 CR1
  go_wp2_with (first | (refine wpList_alloc rfl 116 rfl _ allocFound ?_; go_frame) | (refine wpList_store_whole rfl 116 _ _ rfl w2.heap.size (fndV 0 (.slice none 0 0) 0 false) (fndV 0 (.slice none 0 0) 0 false) 116 rfl rfl (heap_alloc_new _ _) rfl (by kernel_rfl) (fnd_ones _ _ _ _ _ _) ?_; intro w3 h3 k3 s3; have b23 : Below w2.heap.size w2 w3 := ((Below.refl w2.heap.size w2).alloc (Nat.le_refl _) _).trans ((k3.out.mono (by simp) (fun _ _ hm => hm)).below (fun y hy => by simp at hy; omega)); have HB3 := Lib.hid (HB2.out.below b23); have H3 := Lib.hid h3.out; clear h3 k3 s3 b23; go_frame) | fail)
  obtain ⟨fb, hfb⟩ : ∃ fb, fb = w2.heap.size := ⟨_, rfl⟩
  rw [← hfb] at H3 ⊢
  obtain ⟨⟨c0, c1, c2, c3⟩, ⟨c4, c5, c6, c7⟩, c8, c9, c10⟩ := HB3.out.cells
  rw [← HM.out] at c5
  have S1 : w3.drew.cell? ⟨x, 1, none⟩ = some (.pointer (some ⟨d, 0, none⟩)) ∧ w3.drew.cell? ⟨x, 4, none⟩ = some (.int .i64 from_) ∧ w3.drew.cell? ⟨x, 5, none⟩ = some (.int .i64 M2) := ⟨c1, c4, c5⟩
  have HSB := Lib.hid (show ∀ v : World, Below w3.heap.size w3 v → v.cell? ⟨x, 1, none⟩ = some (.pointer (some ⟨d, 0, none⟩)) ∧ v.cell? ⟨x, 4, none⟩ = some (.int .i64 from_) ∧ v.cell? ⟨x, 5, none⟩ = some (.int .i64 M2) from fun v hv => ⟨(World.cell?_of_block (w := w3) (a := ⟨x, 1, none⟩) (hv.block x HB3.out.xl)).trans c1, (World.cell?_of_block (w := w3) (a := ⟨x, 4, none⟩) (hv.block x HB3.out.xl)).trans c4, (World.cell?_of_block (w := w3) (a := ⟨x, 5, none⟩) (hv.block x HB3.out.xl)).trans c5⟩)
  have CO3 := Lib.hid (CO.out _ (HB3.out.below (Below.refl _ _).drew))
  clear c0 c1 c2 c3 c4 c5 c6 c7 c8 c9 c10 CO hfb HB HB1 HB2
  go_region_held_law (fun v => v.cell? ⟨x, 1, none⟩ = some (.pointer (some ⟨d, 0, none⟩)) ∧ v.cell? ⟨x, 4, none⟩ = some (.int .i64 from_) ∧ v.cell? ⟨x, 5, none⟩ = some (.int .i64 M2)) (first | exact S1 | exact S5) (first | (go_simp; go_at_call 21; refine CO3.out.mono ?_; rintro e w5 ⟨g, hg, rfl, hf5, hb5⟩; have HF5 := Lib.hid hf5; have S5 := HSB.out w5 ((Below.refl _ _).drew.trans hb5); have HB5 := Lib.hid ((Below.refl w3.heap.size w3).drew.trans hb5); clear hb5 hg hf5) | fail)
  all_goals
    clear S1 S5 HSB CO3
    have HBx := Lib.hid (HB3.out.below HB5.out)
    have d0 : w5.cell? ⟨fb, 0, none⟩ = some (.int .i64 0) := cell_of_list ((HB5.out.block fb (lt_of_heap H3.out)).trans H3.out) 0
    have c6 := HBx.out.cells.2.1.2.2.1
    have f6 := HBx.out.free 6
    have hs1 := set_list HBx.out.wld 6 (.bool true)
    have c7 : (w5.setCell ⟨x, 6, none⟩ (.bool true)).cell? ⟨x, 7, none⟩ = some (.bool s.ov) := cell_of_list hs1 7
    have f7 := free_of_list hs1 7
    have hs2 := set_list hs1 7 (.bool true)
    have c8 : ((w5.setCell ⟨x, 6, none⟩ (.bool true)).setCell ⟨x, 7, none⟩ (.bool true)).cell? ⟨x, 8, none⟩ = some (.bool true) := (cell_of_list hs2 8).trans (by rw [← HROT.out]; rfl)
    have HS2 := Lib.hid hs2
    clear hs1 hs2
    go_wp2_with (first | (go_at_call 20; refine (is_15 g _ HF5.out).mono ?_; rintro e wz ⟨rfl, rfl⟩) | fail)
    go_ret
    have hb := HBx.out
    have hk : Kept w5.heap.size [x] w5 ((w5.setCell ⟨x, 6, none⟩ (.bool true)).setCell ⟨x, 7, none⟩ (.bool true)) := ((Kept.refl _ _ _).setCell (p := ⟨x, 6, none⟩) (by simp) _).setCell (p := ⟨x, 7, none⟩) (by simp) _
    exact ⟨rfl, Or.inr ⟨_, hb.flags hk HS2.out, rfl, rfl⟩⟩
/-- The law's world, the document's journal and what was found. -/
structure Tri (x r fb : Nat) (L R G : List Value) (w : World) : Prop where
  hx : w.heap[x]? = some (.cells L.toArray 33 (0, 0))
  hr : w.heap[r]? = some (.cells R.toArray 44 (0, 0))
  hf : w.heap[fb]? = some (.cells G.toArray 116 (0, 0))
  ne : x ≠ r
section
variable {x r fb : Nat} {L R G : List Value} {w : World}
theorem Tri.fx (h : Tri x r fb L R G w) : fb ≠ x := by
  rintro rfl
  have h1 := h.hx
  rw [h.hf] at h1
  simp at h1
theorem Tri.fr' (h : Tri x r fb L R G w) : fb ≠ r := by
  rintro rfl
  have h1 := h.hr
  rw [h.hf] at h1
  simp at h1
theorem Tri.cx (h : Tri x r fb L R G w) (i : Nat) : w.cell? ⟨x, i, none⟩ = L[i]? := cell_of_list h.hx i
theorem Tri.cr (h : Tri x r fb L R G w) (i : Nat) : w.cell? ⟨r, i, none⟩ = R[i]? := cell_of_list h.hr i
theorem Tri.cf (h : Tri x r fb L R G w) (i : Nat) : w.cell? ⟨fb, i, none⟩ = G[i]? := cell_of_list h.hf i
theorem Tri.xr (h : Tri x r fb L R G w) (i : Nat) : w.frozen? ⟨x, i, none⟩ = false := free_of_list h.hx i
theorem Tri.fr (h : Tri x r fb L R G w) (i : Nat) : w.frozen? ⟨r, i, none⟩ = false := free_of_list h.hr i
theorem Tri.setx (h : Tri x r fb L R G w) (i : Nat) (v : Value) : Tri x r fb (L.set i v) R G (w.setCell ⟨x, i, none⟩ v) :=
  ⟨set_list h.hx i v, (heap_setCell_other _ _ _ _ (fun e => h.ne e.symm)).trans h.hr, (heap_setCell_other _ _ _ _ h.fx).trans h.hf, h.ne⟩
theorem Tri.setr (h : Tri x r fb L R G w) (i : Nat) (v : Value) : Tri x r fb L (R.set i v) G (w.setCell ⟨r, i, none⟩ v) :=
  ⟨(heap_setCell_other _ _ _ _ h.ne).trans h.hx, set_list h.hr i v, (heap_setCell_other _ _ _ _ h.fr').trans h.hf, h.ne⟩
theorem Tri.drew (h : Tri x r fb L R G w) : Tri x r fb L R G w.drew := ⟨h.hx, h.hr, h.hf, h.ne⟩
end
set_option maxRecDepth 100000 in
set_option maxHeartbeats 4000000 in
theorem open_found {w0 w : World} {from_ m N x p d : Nat} {s : Js} (h : Pre w0 from_ m N x p d s w) (hm : from_ + 2 * m ≤ 64) (hm2 : 2 ≤ m) (act E : Nat) (recs : List (List UInt8)) (hF : Found from_ m s act E recs) (he1 : 1 ≤ E) :
    Calls Tryz.prog 39 #[.pointer (some ⟨x, 0, none⟩)] w fun e w' => e = .returned (.bool true) ∧ Wd w0 from_ m N x p d w' := by
  have CB := Lib.hid (fun (v : World) (hb : Base w0 from_ m N x p d s v) => bytes_any hb hm hm2)
  have CR := Lib.hid (fun (sx : ByteArray) (hB : Bytes s.st.S from_ m sx) => (readC hF.right hB hm2 (by omega)).2 he1)
  have CO := Lib.hid (fun (v : World) (hb : Base w0 from_ m N x p d s v) => OpenD_gen d p 64 s.F s.st from_ m act E recs from_ (2 * m : Nat) rfl rfl hm hm2 h.ps v (h.okt ▸ hb.dsk) hF.right he1)
  have hll := length_le_secsAll recs
  have hfit := hF.fit
  obtain ⟨M2, hM2⟩ : ∃ K, K = 2 * m := ⟨_, rfl⟩
  rw [← hM2] at CO
  have HB := Lib.hid h.base
  have HM := Lib.hid hM2
  have HPRE := Lib.hid h
  have HFND := Lib.hid hF
  have hEz : ((E : Int) == 0) = false := by rw [beq_eq_false_iff_ne]; omega
  have hm32 : m ≤ 32 := by omega
  clear h hF hM2
  go_enter Tryz.func39, Tryz.ntmps39
  go_wp2_with fail
  refine (CB.out _ HB.out).mono ?_
  rintro e w1 ⟨sx, rfl, hBy, hb1⟩
  have HB1 := Lib.hid (HB.out.below hb1)
  have CR1 := Lib.hid (CR.out sx hBy)
  have hz1 := hb1.size
  clear hb1 hBy CR CB
  go_wp2_with fail
  refine (CR1.out _).mono ?_
  rintro e w2 ⟨v2, rfl, hown2, hb2⟩
  obtain ⟨vb2, vc2, rfl⟩ := own_slice hown2
  have HB2 := Lib.hid (HB1.out.below hb2)
  have HO2 := Lib.hid hown2
  have hz2 := hb2.size
  clear hb2 hown2 CR1
  go_wp2_with (first | (refine wpList_alloc rfl 116 rfl _ allocFound ?_; go_frame) | (refine wpList_store_whole rfl 116 _ _ rfl w2.heap.size (fndV E (.slice vb2 recs.length vc2) ((m - 1 - secsAll recs : Nat) : Int) (decide (act = 1))) (fndV 0 (.slice none 0 0) 0 false) 116 rfl rfl (heap_alloc_new _ _) rfl (by kernel_rfl) (fnd_ones _ _ _ _ _ _) ?_; intro w3 h3 k3 s3; have b23 : Below w2.heap.size w2 w3 := ((Below.refl w2.heap.size w2).alloc (Nat.le_refl _) _).trans ((k3.out.mono (by simp) (fun _ _ hm => hm)).below (fun y hy => by simp at hy; omega)); have HB3 := Lib.hid (HB2.out.below b23); have HO3 := Lib.hid (own_below HO2.out b23); have hz3 := b23.size; have H3 := Lib.hid h3.out; clear h3 k3 s3 b23; go_frame) | fail)
  obtain ⟨fb, hfb⟩ : ∃ fb, fb = w2.heap.size := ⟨_, rfl⟩
  rw [← hfb] at H3 ⊢
  obtain ⟨⟨c0, c1, c2, c3⟩, ⟨c4, c5, c6, c7⟩, c8, c9, c10⟩ := HB3.out.cells
  rw [← HM.out] at c5
  have S1 : w3.drew.cell? ⟨x, 1, none⟩ = some (.pointer (some ⟨d, 0, none⟩)) ∧ w3.drew.cell? ⟨x, 4, none⟩ = some (.int .i64 from_) ∧ w3.drew.cell? ⟨x, 5, none⟩ = some (.int .i64 M2) := ⟨c1, c4, c5⟩
  have HSB := Lib.hid (show ∀ v : World, Below w3.heap.size w3 v → v.cell? ⟨x, 1, none⟩ = some (.pointer (some ⟨d, 0, none⟩)) ∧ v.cell? ⟨x, 4, none⟩ = some (.int .i64 from_) ∧ v.cell? ⟨x, 5, none⟩ = some (.int .i64 M2) from fun v hv => ⟨(World.cell?_of_block (w := w3) (a := ⟨x, 1, none⟩) (hv.block x HB3.out.xl)).trans c1, (World.cell?_of_block (w := w3) (a := ⟨x, 4, none⟩) (hv.block x HB3.out.xl)).trans c4, (World.cell?_of_block (w := w3) (a := ⟨x, 5, none⟩) (hv.block x HB3.out.xl)).trans c5⟩)
  have CO3 := Lib.hid (CO.out _ (HB3.out.below (Below.refl _ _).drew))
  have HFB := Lib.hid hfb
  clear c0 c1 c2 c3 c4 c5 c6 c7 c8 c9 c10 CO hfb HB1 HB2 HO2
  go_region_held_law (fun v => v.cell? ⟨x, 1, none⟩ = some (.pointer (some ⟨d, 0, none⟩)) ∧ v.cell? ⟨x, 4, none⟩ = some (.int .i64 from_) ∧ v.cell? ⟨x, 5, none⟩ = some (.int .i64 M2)) (first | exact S1 | exact S5) (first | (go_simp; go_at_call 21; refine CO3.out.mono ?_; rintro e w5 ⟨j, v5, hj, rfl, hd5, hJ5, hown5, hb5⟩; obtain ⟨vb5, vc5, hv5⟩ := own_slice hown5; subst hv5; have HJ5 := Lib.hid hJ5; have HJ := Lib.hid hj; have HO5 := Lib.hid hown5; have S5 := HSB.out w5 ((Below.refl _ _).drew.trans hb5); have HB5 := Lib.hid ((Below.refl w3.heap.size w3).drew.trans hb5); clear hb5 hj hd5 hJ5 hown5) | fail)
  all_goals
    clear S1 S5 HSB CO3
    have HBx := Lib.hid (HB3.out.below HB5.out)
    have H5 := Lib.hid ((HB5.out.block fb (lt_of_heap H3.out)).trans H3.out)
    have HP5 := Lib.hid (own_below HO3.out HB5.out)
    have d0 : w5.cell? ⟨fb, 0, none⟩ = some (.int .i64 E) := cell_of_list H5.out 0
    have d1 : w5.cell? ⟨fb, 1, none⟩ = some (.slice vb2 recs.length vc2) := cell_of_list H5.out 1
    go_wp2_with fail
    refine (same_is _ _ recs (by omega) _ (Texts.of_own HO5.out) (Texts.of_own HP5.out)).mono ?_
    rintro e w6 ⟨rfl, hb6⟩
    have HO6 := Lib.hid (own_below HO5.out hb6)
    have HJ6 := Lib.hid (HJ5.out.keep (hb6.block j HJ5.out.lt))
    have HB6 := Lib.hid (HB5.out.trans (hb6.mono HB5.out.size))
    clear d0 d1 HBx H5 HP5 HO5 HJ5 hb6 HB5
    go_wp2_with fail
    go_loopw [9] (fun iv wr => ∃ (k : Nat) (xs : List Value), k ≤ recs.length ∧ iv = .int .i64 k ∧ Hid (wr.ownsRow w3.heap.size 9 1 (.slice vb5 recs.length vc5) recs.length xs) ∧ Hid (Below w3.heap.size w3 wr) ∧ Hid (JAt j d from_ m act E (1 + recs.length) (1 + secsAll recs) false wr)) (fun iv _ => recs.length - (intOf iv).toNat)
    case atStart => exact ⟨0, _, by omega, rfl, HO6, HB6, HJ6⟩
    case round =>
      clear HO6 HB6 HJ6
      obtain ⟨k, xs, hk, rfl, HOr, HBr, HJr⟩ := hrel
      by_cases hlt : k < recs.length
      · as_aux_lemma =>
        obtain ⟨g, hvg, hbg, hg, hcl⟩ : ∃ g, vb5 = some ⟨g, 0, none⟩ ∧ w3.heap.size ≤ g ∧ (∃ cur, wr.heap[g]? = some (.cells cur 9 (0, 0))) ∧ xs.length = recs.length := by
          have hxl := HOr.out.1
          rcases HOr.out.2 with ⟨hv, h0⟩ | ⟨g, cap, cur, hv, hb, hg, _⟩
          · omega
          · injection hv with hv1 _ _
            exact ⟨g, hv1, hb, ⟨cur, hg⟩, by omega⟩
        subst hvg
        have hst := HOr.out.stored k (.string ⟨#[63]⟩)
        have ck : wr.cell? ⟨g, k, none⟩ = some (xs.getD k (.string ⟨#[]⟩)) := by rw [HOr.out.cellAt k (by omega), List.getD, List.getElem?_eq_getElem (by omega)]; rfl
        have fk := HOr.out.frozenAt k
        have HST := Lib.hid hst.1
        have hgj : j ≠ g := by
          rintro rfl
          obtain ⟨cur, hg⟩ := hg
          have := HJr.out
          unfold JAt at this
          rw [hg] at this; simp at this
        have HBs := Lib.hid (HBr.out.setCell (p := ⟨g, k, none⟩) hbg (.string ⟨#[63]⟩))
        have HJs : Hid (JAt j d from_ m act E (1 + recs.length) (1 + secsAll recs) false (wr.setCell ⟨g, k, none⟩ (.string ⟨#[63]⟩))) := Lib.hid (HJr.out.keep (heap_setCell_other _ _ _ _ hgj))
        clear hst hcl hg
        go_wp2_with fail
        go_roundw
        case rel => exact ⟨k + 1, _, by omega, by go_num, HST, HBs, HJs⟩
        case measure => simp [intOf]; omega
      · as_aux_lemma =>
        have HBx := Lib.hid (HB3.out.below HBr.out)
        have Hf := Lib.hid ((HBr.out.block fb (lt_of_heap H3.out)).trans H3.out)
        have HPr := Lib.hid (own_below HO3.out HBr.out)
        obtain rfl : k = recs.length := by omega
        clear HO3 H3 HB3 HOr hlt hk
        go_wp2_with fail
        have hjl : j < wr.heap.size := HJr.out.lt
        have hfl : fb < wr.heap.size := lt_of_heap Hf.out
        have e0 : wr.cell? ⟨fb, 0, none⟩ = some (.int .i64 E) := cell_of_list Hf.out 0
        have e2 : wr.cell? ⟨fb, 2, none⟩ = some (.int .i64 ((m - 1 - secsAll recs : Nat) : Int)) := cell_of_list Hf.out 2
        obtain ⟨S, hS⟩ : ∃ S : World → Prop, S = fun v => Below wr.heap.size wr v := ⟨_, rfl⟩
        have hSb : ∀ v v', S v → Below v.heap.size v v' → S v' := by rw [hS]; exact fun v v' hv hb => hv.trans (hb.mono hv.size)
        have hSv : ∀ v, S v → Below wr.heap.size wr v := by rw [hS]; exact fun v h => h
        have SC1 := Lib.hid (quiet_S hSb (f := 13) (args := #[.pointer (some ⟨j, 0, none⟩)]) (v := .int .i64 ((m - 1 - secsAll recs : Nat) : Int)) (fun v hv => by
          rw [Nat.sub_sub]
          exact Left_is j d from_ m act E (1 + recs.length) (1 + secsAll recs) false (by omega) (by omega) v (HJr.out.keep ((show Below wr.heap.size wr v by rw [hS] at hv; exact hv).block j hjl))))
        have SC2 := Lib.hid (quiet_S hSb (f := 16) (args := #[.pointer (some ⟨j, 0, none⟩)]) (v := .int .i64 E) (fun v hv => (Epoch_is j d from_ m act E (1 + recs.length) (1 + secsAll recs) false v (HJr.out.keep ((show Below wr.heap.size wr v by rw [hS] at hv; exact hv).block j hjl))).mono fun _ _ ⟨he, hw⟩ => ⟨he, hw ▸ Below.refl _ _⟩))
        have S4 : S wr.drew := by rw [hS]; exact (Below.refl _ _).drew
        have L0 : ∀ u : Of S, u.w.cell? ⟨fb, 0, none⟩ = some (.int .i64 E) := fun u => (World.cell?_of_block (w := wr) (a := ⟨fb, 0, none⟩) ((hSv _ u.ok).block fb hfl)).trans e0
        have L2 : ∀ u : Of S, u.w.cell? ⟨fb, 2, none⟩ = some (.int .i64 ((m - 1 - secsAll recs : Nat) : Int)) := fun u => (World.cell?_of_block (w := wr) (a := ⟨fb, 2, none⟩) ((hSv _ u.ok).block fb hfl)).trans e2
        have HS4 := Lib.hid S4
        haveI : Nonempty (Of S) := ⟨⟨_, S4⟩⟩
        have HSS := Lib.hid hS
        clear S4 hS hSb hSv e0 e2
        refine wp_region_S S (by kernel_rfl) (by kernel_rfl) HS4.out ?_
        repeat (go_big_quiet_step (first | (go_at_call 13; with_reducible exact SC1.out _) | (go_at_call 16; with_reducible exact SC2.out _)))
        refine wpQuiet_nil ?_
        rintro w9 ⟨u9, e9⟩
        have h9 : S w9 := e9 ▸ u9.ok
        rw [HSS.out] at h9
        have HB9 := Lib.hid h9
        clear e9 u9 h9 this SC1 SC2 HS4 HSS L0 L2
        have HBa := Lib.hid (HBx.out.below HB9.out)
        have Hfa := Lib.hid ((HB9.out.block fb hfl).trans Hf.out)
        have HPa := Lib.hid (own_below HPr.out HB9.out)
        have HJa := Lib.hid (HJr.out.keep (HB9.out.block j hjl))
        clear HBx Hf HPr HJr HB9 hjl hfl HBr
        go_wp2_with fail
        have hrl6 : recs.length ≤ 1000000 := by omega
        have CS1 := Lib.hid (fun (v : World) (hv : Below w9.heap.size w9 v) => same_any (.slice vb2 recs.length vc2) s.vw recs s.was hrl6 v (Texts.of_own (own_below HPa.out hv)) (HBa.out.below hv).tw)
        have HSB := Lib.hid (show ∀ v : World, Below w9.heap.size w9 v → v.cell? ⟨fb, 1, none⟩ = some (.slice vb2 recs.length vc2) ∧ v.cell? ⟨x, 9, none⟩ = some s.vw from fun v hv => ⟨cell_of_list ((hv.block fb (lt_of_heap Hfa.out)).trans Hfa.out) 1, (HBa.out.below hv).cells.2.2.2.1⟩)
        have S1 := HSB.out _ (Below.refl w9.heap.size w9).drew
        go_region_held_law (fun v => v.cell? ⟨fb, 1, none⟩ = some (.slice vb2 recs.length vc2) ∧ v.cell? ⟨x, 9, none⟩ = some s.vw) (first | exact S1 | exact S5) (first | (go_simp; go_at_call 62; refine (CS1.out _ (Below.refl _ _).drew).mono ?_; rintro e w10 ⟨q1, rfl, hq1, hb10⟩; have HQ1 := Lib.hid hq1; have S5 := HSB.out w10 ((Below.refl _ _).drew.trans hb10); have HB10 := Lib.hid ((Below.refl w9.heap.size w9).drew.trans hb10); clear hb10 hq1) | fail)
        all_goals
          clear S1 S5 HSB CS1
          have HBb := Lib.hid (HBa.out.below HB10.out)
          have Hfb := Lib.hid ((HB10.out.block fb (lt_of_heap Hfa.out)).trans Hfa.out)
          have HPb := Lib.hid (own_below HPa.out HB10.out)
          have HJb := Lib.hid (HJa.out.keep (HB10.out.block j HJa.out.lt))
          clear HBa Hfa HPa HJa HB10
          have CS1 := Lib.hid (fun (v : World) (hv : Below w10.heap.size w10 v) => same_any (.slice vb2 recs.length vc2) s.vb recs s.would hrl6 v (Texts.of_own (own_below HPb.out hv)) (HBb.out.below hv).tb)
          have HSB := Lib.hid (show ∀ v : World, Below w10.heap.size w10 v → v.cell? ⟨fb, 1, none⟩ = some (.slice vb2 recs.length vc2) ∧ v.cell? ⟨x, 10, none⟩ = some s.vb from fun v hv => ⟨cell_of_list ((hv.block fb (lt_of_heap Hfb.out)).trans Hfb.out) 1, (HBb.out.below hv).cells.2.2.2.2⟩)
          go_wp2_with fail
          have S1 := HSB.out _ (Below.refl w10.heap.size w10).drew
          go_region_held_law (fun v => v.cell? ⟨fb, 1, none⟩ = some (.slice vb2 recs.length vc2) ∧ v.cell? ⟨x, 10, none⟩ = some s.vb) (first | exact S1 | exact S5) (first | (go_simp; go_at_call 62; refine (CS1.out _ (Below.refl _ _).drew).mono ?_; rintro e w11 ⟨q2, rfl, hq2, hb11⟩; have HQ2 := Lib.hid hq2; have S5 := HSB.out w11 ((Below.refl _ _).drew.trans hb11); have HB11 := Lib.hid ((Below.refl w10.heap.size w10).drew.trans hb11); clear hb11 hq2) | fail)
          all_goals
            clear S1 S5 HSB CS1
            have HBc := Lib.hid (HBb.out.below HB11.out)
            have Hfc := Lib.hid ((HB11.out.block fb (lt_of_heap Hfb.out)).trans Hfb.out)
            have HPc := Lib.hid (own_below HPb.out HB11.out)
            have HJc := Lib.hid (HJb.out.keep (HB11.out.block j HJb.out.lt))
            clear HBb Hfb HPb HJb HB11
            have c2 := HBc.out.cells.1.2.2.1
            have f2 := HBc.out.free 2
            go_upto_region 18 with fail
            have hT : Tri x s.r fb (wCells p d s.j s.r from_ m s.cl s.ov s.rot s.vw s.vb) [Value.int .i64 (m - 1 : Nat), .int .i64 s.ep, s.vr] (fndV E (.slice vb2 recs.length vc2) ((m - 1 - secsAll recs : Nat) : Int) (decide (act = 1))) w11 := ⟨HBc.out.wld, HBc.out.rj.at_, Hfc.out, HBc.out.apt.xr⟩
            have HT1 := Lib.hid (hT.setx 2 (.pointer (some ⟨j, 0, none⟩)))
            obtain ⟨w12, hw12⟩ : ∃ z, z = w11.setCell ⟨x, 2, none⟩ (.pointer (some ⟨j, 0, none⟩)) := ⟨_, rfl⟩
            have hk12 : Kept w11.heap.size [x, s.r] w11 w12 := by rw [hw12]; exact (Kept.refl _ _ _).setCell (p := ⟨x, 2, none⟩) (by simp) _
            rw [← hw12] at HT1 ⊢
            have HK12 := Lib.hid hk12
            have c3 : w12.cell? ⟨x, 3, none⟩ = some (.pointer (some ⟨s.r, 0, none⟩)) := HT1.out.cx 3
            have d0 : w12.cell? ⟨fb, 0, none⟩ = some (.int .i64 E) := HT1.out.cf 0
            have r1 : w12.cell? ⟨s.r, 1, none⟩ = some (.int .i64 s.ep) := HT1.out.cr 1
            have g1 := HT1.out.fr 1
            clear hT hw12 hk12 c2 f2
            go_region
            all_goals
              go_upto_region 19 with fail
              obtain ⟨w13, hw13⟩ : ∃ z, z = (w12.setCell ⟨s.r, 1, none⟩ (.int .i64 E)).drew := ⟨_, rfl⟩
              have HT2 := Lib.hid (HT1.out.setr 1 (.int .i64 E)).drew
              have hk13 : Kept w11.heap.size [x, s.r] w11 w13 := by rw [hw13]; exact (HK12.out.setCell (p := ⟨s.r, 1, none⟩) (by simp) _).drew
              rw [← hw13] at HT2 ⊢
              have HK13 := Lib.hid hk13
              clear hw13 hk13 c3 d0 r1 g1 HT1 HK12
              have c3 : w13.cell? ⟨x, 3, none⟩ = some (.pointer (some ⟨s.r, 0, none⟩)) := HT2.out.cx 3
              have d1 : w13.cell? ⟨fb, 1, none⟩ = some (.slice vb2 recs.length vc2) := HT2.out.cf 1
              have r2 : w13.cell? ⟨s.r, 2, none⟩ = some s.vr := HT2.out.cr 2
              have g2 := HT2.out.fr 2
              go_region
              all_goals
                go_upto_region 20 with fail
                obtain ⟨w14, hw14⟩ : ∃ z, z = (w13.setCell ⟨s.r, 2, none⟩ (.slice vb2 recs.length vc2)).drew := ⟨_, rfl⟩
                have HT3 := Lib.hid (HT2.out.setr 2 (.slice vb2 recs.length vc2)).drew
                have hk14 : Kept w11.heap.size [x, s.r] w11 w14 := by rw [hw14]; exact (HK13.out.setCell (p := ⟨s.r, 2, none⟩) (by simp) _).drew
                rw [← hw14] at HT3 ⊢
                have HK14 := Lib.hid hk14
                clear hw14 hk14 c3 d1 r2 g2 HT2 HK13
                have c6 : w14.cell? ⟨x, 6, none⟩ = some (.bool s.cl) := HT3.out.cx 6
                have f6 := HT3.out.xr 6
                have hT4 := HT3.out.setx 6 (.bool false)
                obtain ⟨w15, hw15⟩ : ∃ z, z = w14.setCell ⟨x, 6, none⟩ (.bool false) := ⟨_, rfl⟩
                rw [← hw15] at hT4
                have HK15 := Lib.hid (show Kept w11.heap.size [x, s.r] w11 w15 by rw [hw15]; exact HK14.out.setCell (p := ⟨x, 6, none⟩) (by simp) _)
                have HT4 := Lib.hid hT4
                have HW15 := Lib.hid hw15
                clear hT4 hw15
                go_upto_region 21 with fail
                rw [← HW15.out]
                have c8 : w15.cell? ⟨x, 8, none⟩ = some (.bool s.rot) := HT4.out.cx 8
                have d1 : w15.cell? ⟨fb, 1, none⟩ = some (.slice vb2 recs.length vc2) := HT4.out.cf 1
                have c9 : w15.cell? ⟨x, 9, none⟩ = some s.vw := HT4.out.cx 9
                have f9 := HT4.out.xr 9
                have hT5 := HT4.out.setx 9 (.slice vb2 recs.length vc2)
                have c10 : (w15.setCell ⟨x, 9, none⟩ (.slice vb2 recs.length vc2)).cell? ⟨x, 10, none⟩ = some s.vb := hT5.cx 10
                have e1 : (w15.setCell ⟨x, 9, none⟩ (.slice vb2 recs.length vc2)).cell? ⟨fb, 1, none⟩ = some (.slice vb2 recs.length vc2) := hT5.cf 1
                have f10 := hT5.xr 10
                have HT6 := Lib.hid (hT5.setx 10 (.slice vb2 recs.length vc2))
                have HK17 := Lib.hid (show Kept w11.heap.size [x, s.r] w11 ((w15.setCell ⟨x, 9, none⟩ (.slice vb2 recs.length vc2)).setCell ⟨x, 10, none⟩ (.slice vb2 recs.length vc2)) from (HK15.out.setCell (p := ⟨x, 9, none⟩) (by simp) _).setCell (p := ⟨x, 10, none⟩) (by simp) _)
                clear hT5 c6 f6 HW15
                have hcase : s.rot = true ∨ (s.rot = false ∧ q1 = true) ∨ (s.rot = false ∧ q1 = false ∧ q2 = true) := by
                  cases hr : s.rot with
                  | true => exact Or.inl rfl
                  | false =>
                    rcases (HFND.out.fine hr).2.2 with h | h
                    · exact Or.inr (Or.inl ⟨rfl, HQ1.out.2 h⟩)
                    · cases q1 with
                      | true => exact Or.inr (Or.inl ⟨rfl, rfl⟩)
                      | false => exact Or.inr (Or.inr ⟨rfl, rfl, HQ2.out.2 h⟩)
                have fin : Wd w0 from_ m N x p d ((w15.setCell ⟨x, 9, none⟩ (.slice vb2 recs.length vc2)).setCell ⟨x, 10, none⟩ (.slice vb2 recs.length vc2)) := by
                  as_aux_lemma =>
                    have hb := HPRE.out.base
                    have hxl := hb.xl
                    have hrl := hb.rj.lt
                    have hpl := hb.dsk.pow.lt
                    have hFl := hb.dsk.Flt
                    have hj : w3.heap.size ≤ j := HJ.out
                    have hjl := HJc.out.lt
                    have ho := own_keep HPc.out (w' := (w15.setCell ⟨x, 9, none⟩ (.slice vb2 recs.length vc2)).setCell ⟨x, 10, none⟩ (.slice vb2 recs.length vc2)) (fun g hg => HK17.out.block g (HPc.out.lt g hg).2 (by have := (HPc.out.lt g hg).1; simp; omega))
                    have hgj : ∀ g, (Value.slice vb2 recs.length vc2).ownBlock = some g → g ≠ j := by
                      rintro g hg rfl
                      rcases HPc.out.2 with ⟨hv, _⟩ | ⟨g2, cap, cur, hv, _, hh, _⟩
                      · rw [hv] at hg; cases hg
                      · rw [hv] at hg
                        obtain rfl : g2 = g := by simpa [Value.ownBlock] using hg
                        have h1 := HJc.out
                        unfold JAt at h1
                        rw [hh] at h1; simp at h1
                    have hlow := HBc.out.old.size
                    have hjn : j ∉ [x, s.r] := by simp; omega
                    refine Or.inl ⟨act, _, HBc.out.newx (j' := j) (r' := s.r) (ep' := E) (recs' := recs) (was' := recs) (would' := recs) (vr' := .slice vb2 recs.length vc2) (vw' := .slice vb2 recs.length vc2) (vb' := .slice vb2 recs.length vc2) (cl' := false) (ov' := s.ov) (rot' := s.rot) HK17.out (fun y hy => by simpa using hy) HT6.out.hx ⟨HT6.out.hr, Texts.of_own ho⟩ (Texts.of_own ho) (Texts.of_own ho) ⟨HBc.out.apt.xF, HBc.out.apt.xp, by show x ≠ j; omega, HBc.out.apt.xr, HBc.out.apt.rF, HBc.out.apt.rp, by show s.r ≠ j; omega, fun hm => by have := hFl j hm; omega, by show j ≠ p; omega, fun v hv g hg => ?_⟩ (Nat.lt_of_lt_of_le hjl HK17.out.size) (by have := hb.old.size; omega) (hb.low s.r (Or.inr (Or.inr (Or.inr (Or.inl rfl))))), HJc.out.keep (HK17.out.block j hjl hjn), by show false = !s.ok; rw [HPRE.out.okt]; rfl, HPRE.out.ovf, HFND.out.a1, HFND.out.e2, HFND.out.fit, HFND.out.few, ⟨by show recs.length ≤ 1000; omega, by show recs.length ≤ 1000; omega⟩, fun _ => HPRE.out.ps, fun _ hr => ⟨(HFND.out.fine hr).2.1, rfl, rfl⟩, fun h => by have := HPRE.out.okt; rw [h] at this; cases this⟩
                    have hv' : v = .slice vb2 recs.length vc2 := by rcases hv with e | e | e <;> exact e
                    subst hv'
                    rw [textsBlock_own] at hg
                    have h1 := (HPc.out.lt g hg).1
                    exact ⟨fun hm => by have := hFl g hm; omega, by omega, hgj g hg, by omega, by show g ≠ s.r; omega⟩
                have FIN := Lib.hid fin
                clear fin HT4 HK15 HK14 HT3
                rcases hcase with h1 | ⟨h1, h2⟩ | ⟨h1, h2, h3⟩
                · rw [h1] at c8
                  go_wp2_with fail
                  go_ret
                  exact ⟨rfl, FIN.out⟩
                · rw [h1] at c8
                  subst h2
                  go_wp2_with fail
                  go_ret
                  exact ⟨rfl, FIN.out⟩
                · rw [h1] at c8
                  subst h2 h3
                  go_wp2_with fail
                  go_ret
                  exact ⟨rfl, FIN.out⟩
theorem open_wd {w0 w : World} {from_ m N x p d : Nat} {s : Js} (h : Pre w0 from_ m N x p d s w) (hm : from_ + 2 * m ≤ 64) (hm2 : 2 ≤ m) :
    Calls Tryz.prog 39 #[.pointer (some ⟨x, 0, none⟩)] w fun e w' => e = .returned (.bool true) ∧ Wd w0 from_ m N x p d w' := by
  obtain ⟨act, E, recs, hF⟩ := h.found hm hm2
  by_cases he : E = 0
  · subst he; exact open_blank h hm hm2 act recs hF
  · exact open_found h hm hm2 act E recs hF (by omega)
end Go.Proofs.YtbljhodnpddpiaaGreatDoor
