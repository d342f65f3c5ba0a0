/- Several texts in one, in the order in which they build: DRot JS6 JS7 JS8. -/
import Derived.Test.YtbljhodnpddpiaaGreatDoorQ22
/- The walk of a bit's turning. -/
namespace Go.Proofs.YtbljhodnpddpiaaGreatDoor
open Go.RowKit

/-- A byte with a bit turned. -/
def turnBit (x : UInt8) (k : Nat) : UInt8 := x ^^^ UInt8.ofNat (2 ^ k)
/-- Sectors with a bit turned. -/
def rotS (S : List (List UInt8)) (a bit : Nat) : List (List UInt8) := S.set a ((S.getD a []).set (bit / 8) (turnBit ((S.getD a []).getD (bit / 8) 0) (bit % 8)))
theorem pow_lt8 {k : Nat} (h : k < 8) : 2 ^ k < 256 := by
  have : 2 ^ k < 2 ^ 8 := Nat.pow_lt_pow_right (by omega) h
  omega
theorem turn_fold (x : UInt8) (k : Nat) (hk : k < 8) : bits .xor .u8 (x.toNat : Int) ((2 ^ k : Nat) : Int) = ((turnBit x k).toNat : Int) := by
  have hp := pow_lt8 hk
  rw [u8_xor_nat _ _ x.toNat_lt hp, turnBit, UInt8.toNat_xor, UInt8.toNat_ofNat', Nat.mod_eq_of_lt hp]
theorem turn_fold' (x : UInt8) (k : Nat) (hk : k < 8) : u8v (turnBit x k) = .int .u8 (bits .xor .u8 (x.toNat : Int) (2 ^ k % 256)) := by
  have hp := pow_lt8 hk
  rw [u8v, ← turn_fold x k hk]
  congr 2
  have e : ((2 ^ k : Nat) : Int) = (2 : Int) ^ k := by simp
  rw [← e]
  generalize 2 ^ k = m at hp ⊢
  omega
theorem set_in {A B C : List Value} {o i : Nat} {v : Value} (hA : A.length = o) (hi : i < B.length) : (A ++ (B ++ C)).set (o + i) v = A ++ (B.set i v ++ C) := by
  rw [List.set_append_right _ _ (by omega), show o + i - A.length = i from by omega, List.set_append_left _ _ hi]
set_option maxRecDepth 100000 in
set_option maxHeartbeats 1000000 in
theorem Rot_ok (d p : Nat) (F : List Nat) (n : Nat) (S : List (List UInt8)) (ps : List Dk.Wr) (life : Int) (a bit : Nat) (ha : a < n) (hbit : bit < 512) (w : World) (h : Live d p F n S ps life w) :
    Calls Tryz.prog 43 #[.pointer (some ⟨d, 0, none⟩), .int .i64 a, .int .i64 bit] w fun e w' => e = .returned .nilIface ∧ Live d p F n (rotS S a bit) ps life w' ∧ Kept w.heap.size F w w' := by
  obtain ⟨bl, bn, pv, h, k1, k2, k3, k4, k5, k6⟩ := h
  have c1 := h.c1
  have h1 := h.n1
  have h2 := h.n2
  have haS : a < S.length := by rw [h.len]; exact ha
  obtain ⟨A, C, hA, hS1, hS2⟩ := sect_split h.wide haS
  obtain ⟨s, hs⟩ : ∃ s, s = S.getD a [] := ⟨_, rfl⟩
  have hsl : s.length = 64 := by rw [hs, List.getD, List.getElem?_eq_getElem haS]; exact h.wide _ (List.getElem_mem _)
  rw [← hs] at hS1
  obtain ⟨x, hx⟩ : ∃ x, x = s.getD (bit / 8) 0 := ⟨_, rfl⟩
  obtain ⟨k, hk⟩ : ∃ k, k = bit % 8 := ⟨_, rfl⟩
  have hk8 : k < 8 := by omega
  have hbl := h.lst
  rw [hS1] at hbl
  have cb : w.cell? ⟨bl, a * 64 + bit / 8, none⟩ = some (.int .u8 x.toNat) := by
    rw [cell_of_list hbl, List.getElem?_append_right (by omega), List.getElem?_append_left (by rw [List.length_map, hsl]; omega), show a * 64 + bit / 8 - A.length = bit / 8 from by omega, List.getElem?_map, List.getElem?_eq_getElem (by rw [hsl]; omega), hx, List.getD, List.getElem?_eq_getElem (by rw [hsl]; omega)]
    rfl
  have fb := free_of_list hbl (a * 64 + bit / 8)
  have H := Lib.hid h
  have K := Lib.hid (And.intro k1 (And.intro k2 (And.intro k3 (And.intro k4 (And.intro k5 k6)))))
  have HBL := Lib.hid hbl
  have HS2 := Lib.hid hS2
  have HX := Lib.hid hx
  have HK := Lib.hid hk
  have HSL := Lib.hid hsl
  have HAL := Lib.hid hA
  have HS := Lib.hid hs
  clear h k1 k2 k3 k4 k5 k6 hbl hS1 hS2 hx hk hsl hA hs haS
  go_enter Tryz.func43, Tryz.ntmps43
  go_wp2_with (first | (go_at_call 54; refine (Dead_no d bl n (by omega) (by omega) _ c1).mono ?_; rintro e w' ⟨rfl, rfl⟩) | (go_at_call 26; refine (has_yes d bl n a ha _ c1).mono ?_; rintro e w' ⟨rfl, rfl⟩))
  go_region
  all_goals
    go_wp2
    go_ret
    have hv : Value.int IntKind.u8 (bits .xor .u8 (x.toNat : Int) (2 ^ (bit % 8) % 256)) = u8v (turnBit x k) := by
      rw [← HK.out, ← turn_fold' x k hk8]
    rw [hv]
    obtain ⟨k1, k2, k3, k4, k5, k6⟩ := K.out
    have e5 : ∀ j, j ≠ bl → ((w.setCell ⟨bl, a * 64 + bit / 8, none⟩ (u8v (turnBit x k))).drew).heap[j]? = w.heap[j]? := fun j hj => by rw [heap_drew, heap_setCell_other _ _ _ _ hj]
    have hz : ((w.setCell ⟨bl, a * 64 + bit / 8, none⟩ (u8v (turnBit x k))).drew).heap.size = w.heap.size := by simp [World.setCell]
    refine ⟨rfl, ⟨bl, bn, pv, ⟨?_, ?_, ?_, own_keep H.out.pnd (fun g hg => e5 g (H.out.own g hg).2.1), ?_, h1, h2, ?_, H.out.wrs, H.out.few, H.out.d1, H.out.d2, H.out.d3, H.out.p0, H.out.p1, H.out.p2, H.out.own⟩, k1, k2, k3, k4, k5, fun y hy => by rw [hz]; exact k6 y hy⟩, ?_⟩
    · rw [e5 d H.out.d1]; exact H.out.obj
    · rw [heap_drew, rotS, HS2.out, ← HS.out, ← HX.out, ← HK.out, set_list HBL.out, set_in HAL.out (by rw [List.length_map, HSL.out]; omega), List.map_set]
    · rw [e5 bn (fun e => H.out.d3 e.symm)]; exact H.out.nws
    · rw [rotS, List.length_set]; exact H.out.len
    · intro y hy
      rcases List.mem_or_eq_of_mem_set hy with h | h
      · exact H.out.wide y h
      · rw [h, List.length_set, ← HS.out]; exact HSL.out
    · exact ((Kept.refl _ _ _).setCell (p := ⟨bl, a * 64 + bit / 8, none⟩) (Or.inl k2) _).drew
theorem Rack.rot {w0 w : World} {p d : Nat} {F : List Nat} {n : Nat} {S : List (List UInt8)} {ps : List Dk.Wr} {acts : Nat} (h : Rack w0 p d F n S ps acts w) (a bit : Nat) (ha : a < n) (hbit : bit < 512) :
    Calls Tryz.prog 43 #[.pointer (some ⟨d, 0, none⟩), .int .i64 a, .int .i64 bit] w fun e w' => e = .returned .nilIface ∧ Rack w0 p d F n (rotS S a bit) ps acts w' := by
  have hpF : p ∉ F := by obtain ⟨_, _, _, _, _, _, _, _, h5, _⟩ := h.liv; exact h5
  refine (Rot_ok d p F n S ps 0 a bit ha hbit w h.liv).mono ?_
  rintro e w' ⟨rfl, hL, hk⟩
  have hz := h.old.size
  exact ⟨rfl, h.pow.keep (hk.block p h.pow.lt hpF), hL, h.old.trans ((hk.mono hz (fun _ _ hm => hm)).below h.fn), h.pn, h.fn⟩
end Go.Proofs.YtbljhodnpddpiaaGreatDoor

/- JournalPlays: the other steps. -/
namespace Go.Proofs.YtbljhodnpddpiaaGreatDoor
open Go.RowKit

theorem Pl.pre {w0 w : World} {from_ m N x p d act : Nat} {s : Js} (h : Pl w0 from_ m N x p d act s w) (hok : s.ok = true) (hm : m ≤ 8192) : Pre w0 from_ m N x p d s w :=
  ⟨h.base, hok, h.ovf, h.wasf, by have := length_le_secsAll s.recs; have := h.fit; omega, h.ps hok, fun hr => by
    obtain ⟨h1, h2, _⟩ := h.fine hok hr
    exact ⟨act, s.ep, s.recs, h1, Or.inl h2.symm⟩⟩
theorem Pre.more {w0 w : World} {from_ m N M x p d : Nat} {s : Js} (h : Pre w0 from_ m N x p d s w) (hN : N ≤ M) : Pre w0 from_ m M x p d s w := { h with base := h.base.more hN }
theorem Pre.below {w0 w w' : World} {from_ m N x p d : Nat} {s : Js} (h : Pre w0 from_ m N x p d s w) (hb : Below w.heap.size w w') : Pre w0 from_ m N x p d s w' := { h with base := h.base.below hb }
/-- The step's own variable, the document's next journal. -/
structure Stp1 (w0 : World) (from_ m N x p d act : Nat) (s : Js) (z : Nat) (kd n : Int) (t : ByteArray) (tv kv : Value) (tn : Int) (w : World) : Prop where
  pl : Pl w0 from_ m N x p d act s w
  cz : w.heap[z]? = some (.cells (stepRow kd n t tv kv tn).toArray 48 (0, 0))
  ne : z ≠ x ∧ z ≠ p ∧ z ≠ s.j ∧ z ∉ s.F
theorem Stp1.below {w0 w w' : World} {from_ m N x p d act z : Nat} {s : Js} {kd n : Int} {t : ByteArray} {tv kv : Value} {tn : Int} (h : Stp1 w0 from_ m N x p d act s z kd n t tv kv tn w) (hb : Below w.heap.size w w') : Stp1 w0 from_ m N x p d act s z kd n t tv kv tn w' :=
  ⟨h.pl.below hb, (hb.block z (lt_of_heap h.cz)).trans h.cz, h.ne⟩
theorem Stp1.z {w0 w : World} {from_ m N x p d act z : Nat} {s : Js} {kd n : Int} {t : ByteArray} {tv kv : Value} {tn : Int} (h : Stp1 w0 from_ m N x p d act s z kd n t tv kv tn w) (i : Nat) : w.cell? ⟨z, i, none⟩ = (stepRow kd n t tv kv tn)[i]? := cell_of_list h.cz i
theorem Pl.box {w0 w : World} {from_ m N x p d act : Nat} {s : Js} (h : Pl w0 from_ m N x p d act s w) (kd n : Int) (t : ByteArray) (tv kv : Value) (tn : Int) : ∃ w1 z, w1 = w.alloc (.cells (stepRow kd n t tv kv tn).toArray 48) ∧ z = w.heap.size ∧ Stp1 w0 from_ m N x p d act s z kd n t tv kv tn w1 :=
  ⟨_, _, rfl, rfl, h.below ((Below.refl _ _).alloc (Nat.le_refl _) _), heap_alloc_new _ _, fun e => by have := h.base.xl; omega, fun e => by have := h.base.dsk.pow.lt; omega, fun e => by have := h.base.jl; omega, fun hm => by have := h.base.dsk.Flt _ hm; omega⟩
theorem Wd.more {w0 w : World} {from_ m N M x p d : Nat} (h : Wd w0 from_ m N x p d w) (hN : N ≤ M) : Wd w0 from_ m M x p d w := by
  rcases h with ⟨act, s, h⟩ | ⟨s, h1, h2⟩
  · exact Or.inl ⟨act, s, h.more hN⟩
  · exact Or.inr ⟨s, h1.more hN, h2⟩
set_option maxRecDepth 100000 in
set_option maxHeartbeats 4000000 in
theorem step_none {w0 w : World} {from_ m N x p d act : Nat} {s : Js} (h : Pl w0 from_ m N x p d act s w) (hm : from_ + 2 * m ≤ 64) (kd n : Int) (k1 : kd ≠ 1) (k2 : kd ≠ 2) (k3 : kd ≠ 3) (k4 : kd ≠ 4) (k5 : kd ≠ 5) (k6 : kd ≠ 6) (k7 : kd ≠ 7) (t : ByteArray) (tv kv : Value) (tn : Int) :
    Calls Tryz.prog 12 #[.pointer (some ⟨x, 0, none⟩), .agg (stepRow kd n t tv kv tn).toArray] w fun e w' => e = .returned (.bool true) ∧ Wd w0 from_ m (N + 1) x p d w' := by
  obtain ⟨w1, z, hw1, hz, hS⟩ := h.box kd n t tv kv tn
  have hll := length_le_secsAll s.recs
  have hfit := h.fit
  have HS := Lib.hid hS
  have HW1 := Lib.hid hw1
  have HZ := Lib.hid hz
  have c3 := hS.pl.base.cells.1.2.2.2
  have CC := Lib.hid (rCopy_is s.r (m - 1) s.ep s.vr s.recs (by omega) w1 hS.pl.base.rj)
  clear h hS hw1 hz
  unfold stepRow at HW1
  unfold stepRow
  go_enter Tryz.func12, Tryz.ntmps12
  go_upto_region 1 with fail
  rw [← HW1.out, ← HZ.out]
  clear HW1 HZ
  go_wp2_with fail
  refine CC.out.mono ?_
  rintro e w2 ⟨r2, v2, rfl, hr2, hR2, hown2, hb2⟩
  have HS2 := Lib.hid (HS.out.below hb2)
  have z0 : w2.cell? ⟨z, 0, none⟩ = some (.int .i64 kd) := HS2.out.z 0
  clear hr2 hR2 hown2 hb2 c3 CC HS
  go_wp2_with fail
  go_ret
  exact ⟨rfl, Or.inl ⟨act, s, HS2.out.pl.more (by omega)⟩⟩
set_option maxRecDepth 100000 in
set_option maxHeartbeats 4000000 in
theorem step_open {w0 w : World} {from_ m N x p d act : Nat} {s : Js} (h : Pl w0 from_ m N x p d act s w) (hm : from_ + 2 * m ≤ 64) (hm2 : 2 ≤ m) (hE : ErrCell w0) (n : Int) (t : ByteArray) (tv kv : Value) (tn : Int) :
    Calls Tryz.prog 12 #[.pointer (some ⟨x, 0, none⟩), .agg (stepRow 3 n t tv kv tn).toArray] w fun e w' => e = .returned (.bool true) ∧ Wd w0 from_ m (N + 1) x p d w' := by
  obtain ⟨w1, z, hw1, hz, hS⟩ := h.box 3 n t tv kv tn
  have hll := length_le_secsAll s.recs
  have hfit := h.fit
  have HS := Lib.hid hS
  have HW1 := Lib.hid hw1
  have HZ := Lib.hid hz
  have c3 := hS.pl.base.cells.1.2.2.2
  have CC := Lib.hid (rCopy_is s.r (m - 1) s.ep s.vr s.recs (by omega) w1 hS.pl.base.rj)
  clear h hS hw1 hz
  unfold stepRow at HW1
  unfold stepRow
  go_enter Tryz.func12, Tryz.ntmps12
  go_upto_region 1 with fail
  rw [← HW1.out, ← HZ.out]
  clear HW1 HZ
  go_wp2_with fail
  refine CC.out.mono ?_
  rintro e w2 ⟨r2, v2, rfl, hr2, hR2, hown2, hb2⟩
  have HS2 := Lib.hid (HS.out.below hb2)
  have z0 : w2.cell? ⟨z, 0, none⟩ = some (.int .i64 3) := HS2.out.z 0
  obtain ⟨⟨c0, c1, c2, c3'⟩, ⟨c4, c5, c6, c7⟩, c8, c9, c10⟩ := HS2.out.pl.base.cells
  clear hr2 hR2 hown2 hb2 c3 CC HS
  have CG := Lib.hid (Gone_any p (!s.ok) s.st.fuse s.st.acts w2 HS2.out.pl.base.dsk.pow)
  obtain ⟨M2, hM2⟩ : ∃ K, K = 2 * m := ⟨_, rfl⟩
  rw [← hM2] at c5
  have HM := Lib.hid hM2
  clear hM2
  cases hok : s.ok with
  | false =>
    rw [hok] at CG
    have CO := Lib.hid (fun (v : World) (hv : Below w2.heap.size w2 v) => Open_gone d p 64 s.F s.st from_ m from_ (2 * m : Nat) rfl rfl hm hm2 v (hok ▸ (HS2.out.below hv).pl.base.dsk) ((HS2.out.below hv).pl.base.err hE).1)
    rw [← HM.out] at CO
    go_wp2_with (first | (go_at_call 38; refine CG.out.mono ?_; rintro e wz ⟨rfl, rfl⟩) | fail)
    have S1 : w2.drew.cell? ⟨x, 1, none⟩ = some (.pointer (some ⟨d, 0, none⟩)) ∧ w2.drew.cell? ⟨x, 4, none⟩ = some (.int .i64 from_) ∧ w2.drew.cell? ⟨x, 5, none⟩ = some (.int .i64 M2) := ⟨c1, c4, c5⟩
    have HSB := Lib.hid (show ∀ v : World, Below w2.heap.size w2 v → v.cell? ⟨x, 1, none⟩ = some (.pointer (some ⟨d, 0, none⟩)) ∧ v.cell? ⟨x, 4, none⟩ = some (.int .i64 from_) ∧ v.cell? ⟨x, 5, none⟩ = some (.int .i64 M2) from fun v hv => by
      obtain ⟨⟨_, k1, _, _⟩, ⟨k4, k5, _, _⟩, _⟩ := (HS2.out.below hv).pl.base.cells
      rw [← HM.out] at k5
      exact ⟨k1, k4, k5⟩)
    clear c0 c1 c2 c3' c4 c5 c6 c7 c8 c9 c10 z0 CG
    unfold faultV at CO
    go_region_held_law (fun v => v.cell? ⟨x, 1, none⟩ = some (.pointer (some ⟨d, 0, none⟩)) ∧ v.cell? ⟨x, 4, none⟩ = some (.int .i64 from_) ∧ v.cell? ⟨x, 5, none⟩ = some (.int .i64 M2)) (first | exact S1 | exact S5) (first | (go_simp; go_at_call 21; refine (CO.out _ (Below.refl _ _).drew).mono ?_; rintro e w5 ⟨g, g', rfl, hWA, hg', hb5⟩; have hb25 : Below w2.heap.size w2 w5 := (Below.refl w2.heap.size w2).drew.trans hb5; have S5 := HSB.out w5 hb25; have HWA := Lib.hid hWA; have HB5 := Lib.hid hb25; clear hb5 hb25 hg' hWA) | fail)
    all_goals
      have HS5 := Lib.hid (HS2.out.below HB5.out)
      have CI := Lib.hid (is_10 g g' w5 HWA.out (HS5.out.pl.base.err hE).1)
      clear S1 S5 HSB CO
      go_wp2_with (first | (go_at_call 20; refine CI.out.mono ?_; rintro e w6 ⟨rfl, hb6⟩; have HB6 := Lib.hid hb6; clear hb6) | fail)
      go_ret
      exact ⟨rfl, Or.inl ⟨act, s, (HS5.out.pl.below HB6.out).more (by omega)⟩⟩
  | true =>
    rw [hok] at CG
    have CP := Lib.hid (HS2.out.pl.base.dsk.pending 0 (by rw [HS2.out.pl.ps hok]; rfl))
    have CW := Lib.hid (open_wd ((HS2.out.pl.pre hok (by omega)).more (show N ≤ N + 1 by omega)) hm hm2)
    clear HM c2 c3' c4 c5 c6 c7 c8 c9 c10
    go_wp2_with (first | (go_at_call 38; refine CG.out.mono ?_; rintro e wz ⟨rfl, rfl⟩) | (go_at_call 11; refine CP.out.mono ?_; rintro e wz ⟨rfl, rfl⟩) | (go_at_call 39; refine CW.out.mono ?_; rintro e w5 ⟨rfl, hWd⟩; have HWD := Lib.hid hWd; clear hWd) | fail)
    go_ret
    exact ⟨rfl, HWD.out⟩
end Go.Proofs.YtbljhodnpddpiaaGreatDoor

/- JournalPlays: a fuse; power that comes again; a bit that turns. -/
namespace Go.Proofs.YtbljhodnpddpiaaGreatDoor
open Go.RowKit

theorem Pl.fused {w0 w w' : World} {from_ m N x p d act : Nat} {s : Js} (h : Pl w0 from_ m N x p d act s w) (r : Nat) (hr : r ≤ 1000) (hp : PowerAt p (!s.ok) r s.st.acts w') (hk : Kept w.heap.size [p] w w') : Pl w0 from_ m N x p d act { s with st := ⟨s.st.S, s.st.ps, r, s.st.acts⟩ } w' := by
  obtain ⟨g1, g2, g3, g4, g5⟩ := h.base.fits
  have hb := h.base.turn (st' := ⟨s.st.S, s.st.ps, r, s.st.acts⟩) (ok' := s.ok) (M := N) hk (fun y hy => Or.inl (by simpa using hy)) (fun y hy => Or.inl hy)
    ⟨h.base.dsk.liv.kept hk (fun y hy hm => by simp at hm; exact h.base.dsk.pF (hm ▸ hy)), hp⟩ h.base.far h.base.near ⟨by show (-1 : Int) ≤ r; omega, by show (r : Int) ≤ _; omega, g3, g4, g5⟩
  exact { h with base := hb, jat := h.jat.keep (hk.block s.j h.base.jl (by simpa using h.base.apt.jp)) }
theorem Pl.lit {w0 w w' : World} {from_ m N x p d act : Nat} {s : Js} (h : Pl w0 from_ m N x p d act s w) (hp : PowerAt p false (-1) s.st.acts w') (hk : Kept w.heap.size [p] w w') : Base w0 from_ m N x p d { s with st := ⟨s.st.S, s.st.ps, -1, s.st.acts⟩, ok := true } w' := by
  obtain ⟨g1, g2, g3, g4, g5⟩ := h.base.fits
  exact h.base.turn (st' := ⟨s.st.S, s.st.ps, -1, s.st.acts⟩) (ok' := true) (M := N) hk (fun y hy => Or.inl (by simpa using hy)) (fun y hy => Or.inl hy)
    ⟨h.base.dsk.liv.kept hk (fun y hy hm => by simp at hm; exact h.base.dsk.pF (hm ▸ hy)), hp⟩ h.base.far h.base.near ⟨by show (-1 : Int) ≤ -1; omega, by show (-1 : Int) ≤ _; omega, g3, g4, g5⟩
/-- What was pending is lost: the sectors hold some journal. -/
theorem lost_pre {w0 w w1 w' : World} {from_ m N x p d act : Nat} {s : Js} (h : Pl w0 from_ m N x p d act s w) (hb : Base w0 from_ m N x p d { s with st := ⟨s.st.S, s.st.ps, -1, s.st.acts⟩, ok := true } w1) (len : Nat → Nat) (hm : m ≤ 8192)
    (hL : Live d p s.F 64 (Dk.settleTo s.st.S s.st.ps len s.st.ps.length) [] 0 w') (hk : Kept w1.heap.size s.F w1 w') :
    Pre w0 from_ m N x p d { s with st := ⟨Dk.settleTo s.st.S s.st.ps len s.st.ps.length, [], -1, s.st.acts⟩, ok := true } w' := by
  obtain ⟨g1, g2, g3, g4, g5⟩ := hb.fits
  have hok := h.base.ok64
  have hp := hb.dsk.pow.keep (hk.block p hb.dsk.pow.lt hb.dsk.pF)
  have hb2 := hb.turn (F' := s.F) (st' := ⟨Dk.settleTo s.st.S s.st.ps len s.st.ps.length, [], -1, s.st.acts⟩) (ok' := true) (M := N) hk (fun y hy => Or.inr (Or.inr hy)) (fun y hy => Or.inl hy) ⟨hL, hp⟩
    (fun y hy hy2 => (settle_far (fun q hq => by rw [hok.len]; exact (hok.wrs q hq).1) (fun q hq => by have := h.base.near q hq; omega) _ (Nat.le_refl _)).trans (h.base.far y hy hy2)) (fun q hq => by cases hq) ⟨g1, g2, g3, g4, by show 0 ≤ 999000; omega⟩
  refine ⟨hb2, rfl, h.ovf, h.wasf, by have := length_le_secsAll s.recs; have := h.fit; show s.recs.length ≤ 8192; omega, rfl, fun hr => ?_⟩
  have hv : ∀ y, St.view ⟨Dk.settleTo s.st.S s.st.ps len s.st.ps.length, [], -1, s.st.acts⟩ y = lost s.st len y := fun y => by unfold St.view lost; rw [Dk.readAt_nil]
  have hv2 : St.view ⟨Dk.settleTo s.st.S s.st.ps len s.st.ps.length, [], -1, s.st.acts⟩ = lost s.st len := funext hv
  show ∃ a e l, JOn (St.view ⟨Dk.settleTo s.st.S s.st.ps len s.st.ps.length, [], -1, s.st.acts⟩) from_ m a e l ∧ (l = s.was ∨ l = s.would)
  rw [hv2]
  cases hk : s.ok with
  | true =>
    obtain ⟨h1, h2, _⟩ := h.fine hk hr
    exact ⟨act, s.ep, s.recs, by rw [lost_clean (h.ps hk)]; exact h1, Or.inl h2.symm⟩
  | false => exact h.torn hk hr len
set_option maxRecDepth 100000 in
set_option maxHeartbeats 4000000 in
theorem step_fuse {w0 w : World} {from_ m N x p d act : Nat} {s : Js} (h : Pl w0 from_ m N x p d act s w) (hm : from_ + 2 * m ≤ 64) (n : Int) (hn : -9223372036854775808 ≤ n ∧ n ≤ 9223372036854775807) (t : ByteArray) (tv kv : Value) (tn : Int) :
    Calls Tryz.prog 12 #[.pointer (some ⟨x, 0, none⟩), .agg (stepRow 4 n t tv kv tn).toArray] w fun e w' => e = .returned (.bool true) ∧ Wd w0 from_ m (N + 1) x p d w' := by
  obtain ⟨w1, z, hw1, hz, hS⟩ := h.box 4 n t tv kv tn
  have hll := length_le_secsAll s.recs
  have hfit := h.fit
  obtain ⟨K, hK, hpk⟩ := pick_is n 30 (by omega) (by omega) hn
  have HPK := Lib.hid hpk
  have HS := Lib.hid hS
  have HW1 := Lib.hid hw1
  have HZ := Lib.hid hz
  have c3 := hS.pl.base.cells.1.2.2.2
  have CC := Lib.hid (rCopy_is s.r (m - 1) s.ep s.vr s.recs (by omega) w1 hS.pl.base.rj)
  clear h hS hw1 hz hpk
  unfold stepRow at HW1
  unfold stepRow
  go_enter Tryz.func12, Tryz.ntmps12
  go_upto_region 1 with fail
  rw [← HW1.out, ← HZ.out]
  clear HW1 HZ
  go_wp2_with fail
  refine CC.out.mono ?_
  rintro e w2 ⟨r2, v2, rfl, hr2, hR2, hown2, hb2⟩
  have HS2 := Lib.hid (HS.out.below hb2)
  have z0 : w2.cell? ⟨z, 0, none⟩ = some (.int .i64 4) := HS2.out.z 0
  have S1 : w2.drew.cell? ⟨x, 0, none⟩ = some (.pointer (some ⟨p, 0, none⟩)) ∧ w2.drew.cell? ⟨z, 1, none⟩ = some (.int .i64 n) := ⟨HS2.out.pl.base.cells.1.1, HS2.out.z 1⟩
  clear hr2 hR2 hown2 hb2 c3 CC HS
  have HD2 := Lib.hid (HS2.out.below (Below.refl w2.heap.size w2).drew)
  have CF := Lib.hid (Fuse_any p (!s.ok) s.st.fuse s.st.acts K w2.drew HD2.out.pl.base.dsk.pow)
  go_wp2_with fail
  go_region_held_law (fun v => v.cell? ⟨x, 0, none⟩ = some (.pointer (some ⟨p, 0, none⟩)) ∧ v.cell? ⟨z, 1, none⟩ = some (.int .i64 n)) (first | exact S1 | exact S5) (first | (go_simp; go_at_call 6; refine (HPK.out _).mono ?_; rintro e wz ⟨rfl, rfl⟩) | (go_simp; go_at_call 40; refine CF.out.mono ?_; rintro e w5 ⟨rfl, hp5, hk5⟩; have hP5 := HD2.out.pl.fused K (by omega) hp5 hk5; have S5 : w5.cell? ⟨x, 0, none⟩ = some (.pointer (some ⟨p, 0, none⟩)) ∧ w5.cell? ⟨z, 1, none⟩ = some (.int .i64 n) := ⟨hP5.base.cells.1.1, cell_of_list ((hk5.block z (lt_of_heap HD2.out.cz) (by simpa using HD2.out.ne.2.1)).trans HD2.out.cz) 1⟩; have HP5 := Lib.hid hP5; clear hp5 hk5 hP5) | fail)
  all_goals
    go_wp2_with fail
    go_ret
    exact ⟨rfl, Or.inl ⟨act, _, HP5.out.more (by omega)⟩⟩
set_option maxRecDepth 100000 in
set_option maxHeartbeats 4000000 in
theorem step_lose {w0 w : World} {from_ m N x p d act : Nat} {s : Js} (h : Pl w0 from_ m N x p d act s w) (hm : from_ + 2 * m ≤ 64) (hm2 : 2 ≤ m) (n : Int) (t : ByteArray) (tv kv : Value) (tn : Int) (kb ko : Nat) (ks : List Nat) (keep : List Bool) (hy : Yes kv kb ko ks keep w0) (hks : ∀ k ∈ ks, k < w0.heap.size) :
    Calls Tryz.prog 12 #[.pointer (some ⟨x, 0, none⟩), .agg (stepRow 5 n t tv kv tn).toArray] w fun e w' => e = .returned (.bool true) ∧ Wd w0 from_ m (N + 1) x p d w' := by
  obtain ⟨w1, z, hw1, hz, hS⟩ := h.box 5 n t tv kv tn
  have hll := length_le_secsAll s.recs
  have hfit := h.fit
  have HS := Lib.hid hS
  have HW1 := Lib.hid hw1
  have HZ := Lib.hid hz
  have HY := Lib.hid hy
  have HKS := Lib.hid hks
  have c3 := hS.pl.base.cells.1.2.2.2
  have CC := Lib.hid (rCopy_is s.r (m - 1) s.ep s.vr s.recs (by omega) w1 hS.pl.base.rj)
  clear h hS hw1 hz hy hks
  unfold stepRow at HW1
  unfold stepRow
  go_enter Tryz.func12, Tryz.ntmps12
  go_upto_region 1 with fail
  rw [← HW1.out, ← HZ.out]
  clear HW1 HZ
  go_wp2_with fail
  refine CC.out.mono ?_
  rintro e w2 ⟨r2, v2, rfl, hr2, hR2, hown2, hb2⟩
  have HS2 := Lib.hid (HS.out.below hb2)
  have z0 : w2.cell? ⟨z, 0, none⟩ = some (.int .i64 5) := HS2.out.z 0
  have c0 := HS2.out.pl.base.cells.1.1
  clear hr2 hR2 hown2 hb2 c3 CC HS
  have CN := Lib.hid (On_any p (!s.ok) s.st.fuse s.st.acts w2 HS2.out.pl.base.dsk.pow)
  go_wp2_with fail
  refine CN.out.mono ?_
  rintro e w3 ⟨rfl, hp3, hk3⟩
  have hB3 := HS2.out.pl.lit hp3 hk3
  have hcz3 := (hk3.block z (lt_of_heap HS2.out.cz) (by simpa using HS2.out.ne.2.1)).trans HS2.out.cz
  have HB3 := Lib.hid hB3
  have HCZ3 := Lib.hid hcz3
  have HBd := Lib.hid (hB3.below (Below.refl w3.heap.size w3).drew)
  have S1 : w3.drew.cell? ⟨x, 1, none⟩ = some (.pointer (some ⟨d, 0, none⟩)) ∧ w3.drew.cell? ⟨z, 4, none⟩ = some kv ∧ w3.drew.cell? ⟨z, 5, none⟩ = some (.int .i64 tn) := ⟨hB3.cells.1.2.1, cell_of_list hcz3 4, cell_of_list hcz3 5⟩
  have CL := Lib.hid (Lose_any d p s.F 64 s.st.S s.st.ps 0 kv kb ko ks keep tn w3.drew HBd.out.dsk.liv (HY.out.keep (fun k hk => HBd.out.old.block k (HKS.out k hk))) (fun k hk => ⟨by have h1 := HKS.out k hk; have h2 := HBd.out.old.size; omega, fun hm => by have h1 := HKS.out k hk; have h2 := HBd.out.low k (Or.inr (Or.inr (Or.inr (Or.inr hm)))); omega⟩))
  clear z0 c0 hp3 hk3 hB3 hcz3 CN
  obtain ⟨kb1, kl1, kc1, rfl⟩ : ∃ a b c, kv = .slice a b c := by
    obtain ⟨a, c, hkv, _⟩ := HY.out.1
    exact ⟨_, _, _, hkv⟩
  go_wp2_with fail
  go_region_held_law (fun v => v.cell? ⟨x, 1, none⟩ = some (.pointer (some ⟨d, 0, none⟩)) ∧ v.cell? ⟨z, 4, none⟩ = some (.slice kb1 kl1 kc1) ∧ v.cell? ⟨z, 5, none⟩ = some (.int .i64 tn)) (first | exact S1 | exact S5) (first | (go_simp; go_at_call 42; refine CL.out.mono ?_; rintro e w5 ⟨rfl, hL5, hk5⟩; have hP5 := lost_pre HS2.out.pl HBd.out _ (by omega) hL5 hk5; have S5 : w5.cell? ⟨x, 1, none⟩ = some (.pointer (some ⟨d, 0, none⟩)) ∧ w5.cell? ⟨z, 4, none⟩ = some (.slice kb1 kl1 kc1) ∧ w5.cell? ⟨z, 5, none⟩ = some (.int .i64 tn) := ⟨hP5.base.cells.1.2.1, cell_of_list ((hk5.block z (lt_of_heap HCZ3.out) HS2.out.ne.2.2.2).trans HCZ3.out) 4, cell_of_list ((hk5.block z (lt_of_heap HCZ3.out) HS2.out.ne.2.2.2).trans HCZ3.out) 5⟩; have HP5 := Lib.hid hP5; clear hL5 hk5 hP5) | fail)
  all_goals
    have CW := Lib.hid (open_wd (HP5.out.more (show N ≤ N + 1 by omega)) hm hm2)
    clear S1 S5 CL
    go_wp2_with (first | (go_at_call 39; refine CW.out.mono ?_; rintro e w6 ⟨rfl, hWd⟩; have HWD := Lib.hid hWd; clear hWd) | fail)
    go_ret
    exact ⟨rfl, HWD.out⟩
end Go.Proofs.YtbljhodnpddpiaaGreatDoor

/- JournalPlays: a bit that turns; any step. -/
namespace Go.Proofs.YtbljhodnpddpiaaGreatDoor
open Go.RowKit

theorem rot_pl {w0 w w' : World} {from_ m N x p d act a b : Nat} {s : Js} (h : Pl w0 from_ m N x p d act s w) (hok : s.ok = true) (hrot : s.rot = true) (ha : from_ ≤ a ∧ a < from_ + 2 * m) (hL : Live d p s.F 64 (rotS s.st.S a b) s.st.ps 0 w') (hk : Kept w.heap.size s.F w w') :
    Pl w0 from_ m N x p d act { s with st := ⟨rotS s.st.S a b, s.st.ps, s.st.fuse, s.st.acts⟩ } w' := by
  obtain ⟨g1, g2, g3, g4, g5⟩ := h.base.fits
  have hb := h.base.turn (F' := s.F) (st' := ⟨rotS s.st.S a b, s.st.ps, s.st.fuse, s.st.acts⟩) (ok' := s.ok) (M := N) hk (fun y hy => Or.inr (Or.inr hy)) (fun y hy => Or.inl hy) ⟨hL, h.base.dsk.pow.keep (hk.block p h.base.dsk.pow.lt h.base.dsk.pF)⟩
    (fun y hy hy2 => by
      show (rotS s.st.S a b).getD y [] = markL
      rw [rotS, List.getD, List.getElem?_set_ne (by omega)]
      exact h.base.far y hy hy2) h.base.near ⟨g1, g2, g3, g4, g5⟩
  exact { h with
    base := hb
    jat := h.jat.keep (hk.block s.j h.base.jl h.base.apt.jF)
    fine := fun _ hr => by rw [show s.rot = false from hr] at hrot; cases hrot
    torn := fun h2 _ => by rw [show s.ok = false from h2] at hok; cases hok }
set_option maxRecDepth 100000 in
set_option maxHeartbeats 4000000 in
theorem step_rot {w0 w : World} {from_ m N x p d act : Nat} {s : Js} (h : Pl w0 from_ m N x p d act s w) (hm : from_ + 2 * m ≤ 64) (hm2 : 2 ≤ m) (n : Int) (hn : -9223372036854775808 ≤ n ∧ n ≤ 9223372036854775807) (t : ByteArray) (tv kv : Value) (tn : Int) :
    Calls Tryz.prog 12 #[.pointer (some ⟨x, 0, none⟩), .agg (stepRow 6 n t tv kv tn).toArray] w fun e w' => e = .returned (.bool true) ∧ Wd w0 from_ m (N + 1) x p d w' := by
  obtain ⟨w1, z, hw1, hz, hS⟩ := h.box 6 n t tv kv tn
  have hll := length_le_secsAll s.recs
  have hfit := h.fit
  obtain ⟨q, hq⟩ : ∃ q, q = n.tdiv 512 := ⟨_, rfl⟩
  have hqr : -9223372036854775808 ≤ q ∧ q ≤ 9223372036854775807 := by
    rw [hq]
    have h1 : (n.tdiv 512).natAbs = n.natAbs / 512 := Int.natAbs_tdiv n 512
    have h2 : n.natAbs / 512 ≤ n.natAbs := Nat.div_le_self _ _
    have h3 : n.natAbs / 512 * 512 ≤ n.natAbs := Nat.div_mul_le_self _ _
    omega
  have hqw : IntKind.i64.wrap (n.tdiv 512) = q := by rw [IntWalk.i64_in _ (by omega), hq]
  clear hq
  obtain ⟨M2, hM2⟩ : ∃ K, K = 2 * m := ⟨_, rfl⟩
  obtain ⟨A, hA, hpa⟩ := pick_is q M2 (by omega) (by omega) hqr
  obtain ⟨Bt, hBt, hpb⟩ := pick_is n 512 (by omega) (by omega) hn
  have HPA := Lib.hid hpa
  have HPB := Lib.hid (fun v : World => (show Calls Tryz.prog 6 #[.int .i64 n, .int .i64 512] v (fun e w' => e = .returned (.int .i64 Bt) ∧ v = w') from hpb v))
  have HS := Lib.hid hS
  have HW1 := Lib.hid hw1
  have HZ := Lib.hid hz
  have HM := Lib.hid hM2
  have c3 := hS.pl.base.cells.1.2.2.2
  have CC := Lib.hid (rCopy_is s.r (m - 1) s.ep s.vr s.recs (by omega) w1 hS.pl.base.rj)
  have hm64 : from_ ≤ 64 := by omega
  have hm26 : M2 ≤ 64 := by omega
  clear h hS hw1 hz hpa hpb hM2
  unfold stepRow at HW1
  unfold stepRow
  go_enter Tryz.func12, Tryz.ntmps12
  go_upto_region 1 with fail
  rw [← HW1.out, ← HZ.out]
  clear HW1 HZ
  go_wp2_with fail
  refine CC.out.mono ?_
  rintro e w2 ⟨r2, v2, rfl, hr2, hR2, hown2, hb2⟩
  have HS2 := Lib.hid (HS.out.below hb2)
  have z0 : w2.cell? ⟨z, 0, none⟩ = some (.int .i64 6) := HS2.out.z 0
  have c6 := HS2.out.pl.base.cells.2.1.2.2.1
  have f8 := HS2.out.pl.base.free 8
  have c8 := HS2.out.pl.base.cells.2.2.1
  have hclo := HS2.out.pl.clo
  clear hr2 hR2 hown2 hb2 c3 CC HS
  cases hok : s.ok with
  | false =>
    rw [hok] at hclo
    rw [show s.cl = true from hclo] at c6
    go_wp2_with fail
    go_ret
    exact ⟨rfl, Or.inl ⟨act, s, HS2.out.pl.more (by omega)⟩⟩
  | true =>
    rw [hok] at hclo
    rw [show s.cl = false from hclo] at c6
    have hs3 := set_list HS2.out.pl.base.wld 8 (.bool true)
    have hk3 : Kept w2.heap.size [x] w2 (w2.setCell ⟨x, 8, none⟩ (.bool true)) := (Kept.refl _ _ _).setCell (p := ⟨x, 8, none⟩) (by simp) _
    obtain ⟨w3, hw3⟩ : ∃ y, y = w2.setCell ⟨x, 8, none⟩ (.bool true) := ⟨_, rfl⟩
    rw [← hw3] at hs3 hk3
    have hB3 := HS2.out.pl.base.flags hk3 (cl' := s.cl) (ov' := s.ov) (rot' := true) hs3
    have hP3 : Pl w0 from_ m N x p d act { s with rot := true } w3 := { HS2.out.pl with
      base := hB3
      jat := HS2.out.pl.jat.keep (hk3.block s.j HS2.out.pl.base.jl (by simpa using fun e => HS2.out.pl.base.apt.xj e.symm))
      fine := fun _ hr => by cases hr
      torn := fun h2 _ => by rw [show s.ok = false from h2] at hok; cases hok }
    have hcz3 := (hk3.block z (lt_of_heap HS2.out.cz) (by simpa using HS2.out.ne.1)).trans HS2.out.cz
    have HP3 := Lib.hid hP3
    have HCZ3 := Lib.hid hcz3
    have HNE := Lib.hid HS2.out.ne
    have HW3 := Lib.hid hw3
    clear hs3 hk3 hB3 hP3 hcz3 hw3 HS2 hclo
    go_upto_region 30 with fail
    rw [← HW3.out]
    clear z0 c6 f8 c8 HW3
    have HPd := Lib.hid (HP3.out.below (Below.refl w3.heap.size w3).drew)
    have c5 := HPd.out.base.cells.2.1.2.1
    have S1 : w3.drew.cell? ⟨x, 1, none⟩ = some (.pointer (some ⟨d, 0, none⟩)) ∧ w3.drew.cell? ⟨x, 4, none⟩ = some (.int .i64 from_) ∧ w3.drew.cell? ⟨x, 5, none⟩ = some (.int .i64 M2) ∧ w3.drew.cell? ⟨z, 1, none⟩ = some (.int .i64 n) := ⟨HPd.out.base.cells.1.2.1, HPd.out.base.cells.2.1.1, by rw [HM.out]; exact c5, cell_of_list HCZ3.out 1⟩
    obtain ⟨R, hR⟩ : ∃ R, R = from_ + A := ⟨_, rfl⟩
    have x1 : IntKind.i64.wrap ((from_ : Int) + (A : Int)) = (R : Int) := by rw [IntWalk.i64_in _ (by omega)]; omega
    have hRm : from_ ≤ R ∧ R < from_ + 2 * m := by have := HM.out; omega
    have CRt := Lib.hid (Rot_ok d p s.F 64 s.st.S s.st.ps 0 R Bt (by omega) hBt w3.drew HPd.out.base.dsk.liv)
    clear c5 hR
    go_region_held_law (fun v => v.cell? ⟨x, 1, none⟩ = some (.pointer (some ⟨d, 0, none⟩)) ∧ v.cell? ⟨x, 4, none⟩ = some (.int .i64 from_) ∧ v.cell? ⟨x, 5, none⟩ = some (.int .i64 M2) ∧ v.cell? ⟨z, 1, none⟩ = some (.int .i64 n)) (first | exact S1 | exact S5) (first | (go_simp; go_at_call 6; (with_reducible refine (HPA.out _).mono ?_); rintro e wz ⟨rfl, rfl⟩) | (go_simp; go_at_call 6; (with_reducible refine (HPB.out _).mono ?_); rintro e wz ⟨rfl, rfl⟩) | (go_simp; go_at_call 43; refine CRt.out.mono ?_; rintro e w5 ⟨rfl, hL5, hk5⟩; have hP5 := rot_pl HPd.out hok rfl hRm hL5 hk5; have S5 : w5.cell? ⟨x, 1, none⟩ = some (.pointer (some ⟨d, 0, none⟩)) ∧ w5.cell? ⟨x, 4, none⟩ = some (.int .i64 from_) ∧ w5.cell? ⟨x, 5, none⟩ = some (.int .i64 M2) ∧ w5.cell? ⟨z, 1, none⟩ = some (.int .i64 n) := ⟨hP5.base.cells.1.2.1, hP5.base.cells.2.1.1, by rw [HM.out]; exact hP5.base.cells.2.1.2.1, cell_of_list ((hk5.block z (lt_of_heap HCZ3.out) HNE.out.2.2.2).trans HCZ3.out) 1⟩; have HP5 := Lib.hid hP5; clear hL5 hk5 hP5) | fail)
    all_goals
      go_wp2_with fail
      go_ret
      exact ⟨rfl, Or.inl ⟨act, _, HP5.out.more (by omega)⟩⟩
/-- Any step. -/
theorem step_wd {w0 w : World} {from_ m N x p d act : Nat} {s : Js} (h : Pl w0 from_ m N x p d act s w) (hN : N ≤ 200) (hm : from_ + 2 * m ≤ 64) (hm2 : 2 ≤ m) (hE : ErrCell w0) (kd n : Int) (hn : -9223372036854775808 ≤ n ∧ n ≤ 9223372036854775807) (t : ByteArray) (tv kv : Value) (tn : Int)
    (l : List (List UInt8)) (hl : l.length * 16 ≤ 140737488355328) (hG : Given tv l w0) (kb ko : Nat) (ks : List Nat) (keep : List Bool) (hy : Yes kv kb ko ks keep w0) (hks : ∀ k ∈ ks, k < w0.heap.size) :
    Calls Tryz.prog 12 #[.pointer (some ⟨x, 0, none⟩), .agg (stepRow kd n t tv kv tn).toArray] w fun e w' => e = .returned (.bool true) ∧ Wd w0 from_ m (N + 1) x p d w' := by
  by_cases k1 : kd = 1 ∨ kd = 7
  · exact step_append h hN hm hm2 hE kd n k1 hn t tv kv tn
  by_cases k2 : kd = 2
  · subst k2; exact step_reset h hN hm hm2 hE n t tv kv tn l hl (hG.below (Nat.le_refl _) h.base.old)
  by_cases k3 : kd = 3
  · subst k3; exact step_open h hm hm2 hE n t tv kv tn
  by_cases k4 : kd = 4
  · subst k4; exact step_fuse h hm n hn t tv kv tn
  by_cases k5 : kd = 5
  · subst k5; exact step_lose h hm hm2 n t tv kv tn kb ko ks keep hy hks
  by_cases k6 : kd = 6
  · subst k6; exact step_rot h hm hm2 n hn t tv kv tn
  exact step_none h hm kd n (fun e => k1 (Or.inl e)) k2 k3 k4 k5 k6 (fun e => k1 (Or.inr e)) t tv kv tn
end Go.Proofs.YtbljhodnpddpiaaGreatDoor
