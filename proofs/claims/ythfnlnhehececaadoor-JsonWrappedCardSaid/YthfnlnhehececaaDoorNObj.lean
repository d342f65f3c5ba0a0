/- The program reads an object. -/
import Derived.Test.YthfnlnhehececaaDoorNList
namespace Go.Proofs.YthfnlnhehececaaDoor
open Go Go.RowKit

theorem obj_bind {m : List UInt8} {f : List UInt8 → Js.Rs Js.J} {x r r2 : List UInt8} (hq : Js.quoted m = .ok x r) (hw : Js.ws r = 58 :: r2) : Js.mem f m = (f (Js.ws r2)).map fun j => (x, j) := by
  unfold Js.mem
  rw [hq]
  show (Js.tk 58 (Js.ws r)).bind _ = _
  rw [hw, Js.tk_hit]
  rfl
theorem obj_miss {m : List UInt8} {f : List UInt8 → Js.Rs Js.J} {x r : List UInt8} (hq : Js.quoted m = .ok x r) (hw : (Js.ws r).head? ≠ some 58) : Js.mem f m = .bad 54 (Js.ws r) := by
  unfold Js.mem
  rw [hq]
  show (Js.tk 58 (Js.ws r)).bind _ = _
  rw [Js.tk_miss hw]
  rfl
theorem obj_bad {m : List UInt8} {f : List UInt8 → Js.Rs Js.J} {c : Nat} {r : List UInt8} (hq : Js.quoted m = .bad c r) : Js.mem f m = .bad c r := by
  unfold Js.mem
  rw [hq]
  rfl
theorem tmps24 (t : Array Value) (h : t.size = 24) : ∃ x0 x1 x2 x3 x4 x5 x6 x7 x8 x9 x10 x11 x12 x13 x14 x15 x16 x17 x18 x19 x20 x21 x22 x23, t = #[x0, x1, x2, x3, x4, x5, x6, x7, x8, x9, x10, x11, x12, x13, x14, x15, x16, x17, x18, x19, x20, x21, x22, x23] := by
  obtain ⟨l⟩ := t
  match l, h with
  | [x0, x1, x2, x3, x4, x5, x6, x7, x8, x9, x10, x11, x12, x13, x14, x15, x16, x17, x18, x19, x20, x21, x22, x23], _ => exact ⟨x0, x1, x2, x3, x4, x5, x6, x7, x8, x9, x10, x11, x12, x13, x14, x15, x16, x17, x18, x19, x20, x21, x22, x23, rfl⟩
theorem St.rbc {jb rb b lo : Nat} {k : Int} {nv kv : Value} {ns : List (List UInt8)} {ks : List Js.J} {w : World} (h : St jb rb b lo k nv kv ns ks w) : w.cell? ⟨rb, 0, none⟩ = some (.pointer (some ⟨b, 0, none⟩)) := by
  rw [cell_of_list h.rb_]; rfl
set_option maxHeartbeats 4000000 in
theorem object1_member (D : Nat) (hV : ValC D) (S : List UInt8) (hS : S.length ≤ 8000) (b d base lo jb rb : Nat) (hdD : d + 1 + D = 20) (hb : Hi b) (hbb : b < base) (hbase : base ≤ lo) (hjb : base ≤ jb) :
    Member 85 #[.pointer (some ⟨jb, 0, none⟩), .pointer (some ⟨rb, 0, none⟩)] b S d base (Js.mem (Js.val D)) (fun xs w => ∃ nv kv, St jb rb b lo 7 nv kv (xs.map (·.1)) (xs.map (·.2)) w) where
  eg := enters_of Tryd.func85 (by kernel_rfl) rfl
  suf := Js.mem_suf _ (Js.val_suf D)
  con := Js.mem_con _ (Js.val_suf D)
  keep := fun xs w w' ⟨nv, kv, h⟩ hk => ⟨nv, kv, h.keep hk⟩
  call := by
    intro xs m q w hx ⟨nv, kv, hst⟩ hT hbw hr hm
    have HB := Lib.hid (fun (w0 w' : World) (h : Kept lo [b, jb] w0 w') => h.mono hbase (ws := [b]) (fun g hg hm => by simp at hm ⊢; omega))
    go_enter Tryd.func85, Tryd.ntmps85
    refine wp_seq ?_
    refine name_region S jb rb b q (d + 1) lo 2 24 7 nv kv (xs.map (·.1)) (xs.map (·.2)) (Js.quoted m) _ 0 "read.go:115" _ w hst (by simpa using hx) hb hT hr rfl rfl (by omega) (by omega) rfl rfl (fun v hv hT => quoted_any S m hS b q (d + 1) v hb hT hv hm) ?_ ?_
    · intro c r hR a w' hd hk
      unfold Exit.then
      dsimp only
      refine panic_end hd ?_
      rw [obj_bad hR]
      exact ⟨rfl, hk.mono hbw (fun _ _ h => h)⟩
    · intro x r hR a w1 nv1 hd hsz h0 h1 hst1 hr1 hk1
      show Code.wp _ _ _ _ _
      obtain ⟨t, df⟩ := a
      simp only at hd hsz h0 h1
      subst hd
      obtain ⟨x0, x1, x2, x3, x4, x5, x6, x7, x8, x9, x10, x11, x12, x13, x14, x15, x16, x17, x18, x19, x20, x21, x22, x23, rfl⟩ := tmps24 t hsz
      obtain rfl : x0 = .pointer (some ⟨jb, 0, none⟩) := h0
      obtain rfl : x1 = .pointer (some ⟨rb, 0, none⟩) := h1
      clear hsz
      have hh : Here S (S.length - r.length) r := hm.sufTo (by have := Js.quoted_suf m; rw [hR] at this; exact this)
      have c1 := hst1.rbc
      have T1 : Tb w1 := hT.keepB hb hbb (HB.out _ _ hk1)
      have bw1 : base ≤ w1.heap.size := Nat.le_trans hbw hk1.size
      have K1 := HB.out _ _ hk1
      have SB := Lib.hid (fun v hv => skipBlanks_any S r (by omega) b _ (d + 1) v hv hh)
      have hh2 := hh.sufTo (Js.ws_suf r)
      by_cases hc : (Js.ws r).head? = some 58
      · obtain ⟨r2, hw⟩ : ∃ r2, Js.ws r = 58 :: r2 := by
          cases hws : Js.ws r with
          | nil => rw [hws] at hc; cases hc
          | cons c r2 => rw [hws] at hc; obtain rfl : c = 58 := by simpa using hc
                         exact ⟨r2, rfl⟩
        rw [obj_bind hR hw]
        have hh3 := hh2
        rw [hw] at hh3 SB
        have hh4 := hh3.tail
        have hh5 := hh4.sufTo (Js.ws_suf r2)
        have TH := Lib.hid (fun v hv => take_hit S r2 (by omega) 58 b _ (d + 1) v hv hh3)
        have SB2 := Lib.hid (fun v hv => skipBlanks_any S r2 (by omega) b _ (d + 1) v hv hh4)
        have HV := Lib.hid (fun v hv hT => hV S (Js.ws r2) b _ (d + 1) v hS hdD hb hT hv hh5)
        clear hh hh2 hh3 hh4 hh5 hm hr hc hw hR
        go_wp2_with (first | (go_at_call 38; refine (SB2.out _ hr4).mono ?_; rintro e' w5 ⟨rfl, hr5, hk5⟩; have c5 := (((hst1.keep hk3).keep hk4).keep hk5).rbc; go_frame) | (go_at_call 38; refine (SB.out _ hr1).mono ?_; rintro e' w3 ⟨rfl, hr3, hk3⟩; have c3 := (hst1.keep hk3).rbc; go_frame) | (go_at_call 79; refine (TH.out _ hr3).mono ?_; rintro e' w4 ⟨rfl, hr4, hk4⟩; have c4 := ((hst1.keep hk3).keep hk4).rbc; go_frame))
        have hs3 := hk3.size
        have hs4 := hk4.size
        have hs5 := hk5.size
        have K5 : Kept base [b] w w5 := kbase (kbase (kbase K1 bw1 hk3) (by omega) hk4) (by omega) hk5
        have bw5 : base ≤ w5.heap.size := by omega
        have T5 : Tb w5 := hT.keepB hb hbb K5
        refine kid_region S jb rb b _ (d + 1) lo 15 24 7 nv1 kv _ _ (Js.val D (Js.ws r2)) _ 4 "read.go:119" _ w5 (((hst1.keep hk3).keep hk4).keep hk5) (by simpa using hx) hb T5 hr5 rfl rfl (by omega) (by omega) rfl rfl HV.out ?_ ?_
        · intro c r hR a w' hd hk
          refine panic_end hd ?_
          rw [hR]
          exact ⟨rfl, kbase K5 bw5 hk⟩
        · intro j r hR a w' kv' hd hst' hr' hk
          refine normal_end rfl hd ?_
          rw [hR]
          exact ⟨rfl, ⟨nv1, kv', by simpa using hst'⟩, hr', K5.trans (HB.out _ _ hk)⟩
      · have TM := Lib.hid (fun v hv => take_miss S (Js.ws r) 58 b _ (d + 1) v hv hh2 hc)
        go_wp2_with (first | (go_at_call 38; refine (SB.out _ hr1).mono ?_; rintro e' w3 ⟨rfl, hr3, hk3⟩; have c3 := (hst1.keep hk3).rbc; go_frame) | (go_at_call 79; refine (TM.out _ hr3).mono ?_; rintro e' w4 ⟨rfl, hb4⟩; go_frame))
        refine panic_end rfl ?_
        rw [obj_miss hR hc]
        exact ⟨rfl, kbase K1 bw1 (kb hk3 hb4)⟩
set_option maxRecDepth 100000 in
set_option maxHeartbeats 4000000 in
theorem object_any (D : Nat) (hV : ValC D) (S r : List UInt8) (hS : S.length ≤ 8000) (b p d : Nat) (w : World) (hd : d + (D + 1) = 20) (hb : Hi b) (hT : Tb w) (hr : Rd w b (bs S) p d) (hl : Here S p (123 :: r)) :
    Calls Tryd.prog 63 #[.pointer (some ⟨b, 0, none⟩)] w (Out b S d w (Made w) ((Js.mems 125 (Js.mem (Js.val D)) ((123 :: r).length + 1) true (Js.ws r)).map fun ms => .mk 7 [] (ms.map (·.1)) (ms.map (·.2)))) := by
  have hlt := hr.lt
  have hmf := mf
  have HR := Lib.hid hr
  have HT := Lib.hid hT
  have hrb := heap_alloc_new w (.cells #[Value.pointer (some ⟨b, 0, none⟩)] 87)
  have hrbB := (Below.refl w.heap.size w).alloc (Nat.le_refl _) (.cells #[Value.pointer (some ⟨b, 0, none⟩)] 87)
  have HRB := Lib.hid hrb
  have HRBB := Lib.hid hrbB
  have hsz1 : (w.alloc (.cells #[Value.pointer (some ⟨b, 0, none⟩)] 87)).heap.size = w.heap.size + 1 := by simp
  have HMem := Lib.hid (fun lo jb (h1 : w.heap.size ≤ lo) (h2 : w.heap.size ≤ jb) => list1_member D hV S hS b d w.heap.size lo jb w.heap.size (by omega) hb h1 h2)
  have HME := Lib.hid (fun lo jb (h1 : jb ≤ lo) (h2 : b < jb) v (hv : jb ≤ v.heap.size) hT' hr' hI => members_any S r 123 hS 85 _ b p d jb (Js.mem (Js.val D)) _ 125 v (object1_member D hV S hS b d jb lo jb w.heap.size (by omega) hb h2 h1 (Nat.le_refl _)) hb h2 hv hT' (by omega) hr' hl hI)
  clear hr hT hrb hrbB hl
  generalize Js.mems 125 (Js.mem (Js.val D)) ((123 :: r).length + 1) true (Js.ws r) = R at *
  cases R with
  | bad c q =>
    go_enter Tryd.func63, Tryd.ntmps63
    go_wp2_with (first | (refine wpList_alloc_v (w := w.alloc (.cells #[Value.pointer (some ⟨b, 0, none⟩)] 87)) rfl 25 rfl _ allocJson ?_; intro w2 hg2 hb2 hs2; go_frame) | (refine wpList_alloc_v (w := w2) rfl 25 rfl _ allocJson ?_; intro w3 hg3 hb3 hs3; go_frame) | (refine wpList_build_json1 rfl _ rfl 7 rfl ?_; go_frame) | (refine wpList_store_json rfl _ _ rfl w2.heap.size 7 [] (.slice none 0 0) (.slice none 0 0) noRow rfl rfl rfl rfl rfl hg3.out ?_; intro w4 hg4 hk4 hs4; obtain ⟨L1, L2, L3, L4, L5, L6, L7⟩ := list_laid hlt HR HT HRB HRBB hsz1 hg2 hb2 hs2 hg3 hb3 hs3 hg4 hk4 hs4; have L1o := L1.out; go_frame) | (go_at_call 83; refine (HME.out w4.heap.size w2.heap.size L6.out.1 L6.out.2.1 w4 L6.out.1 L2.out L3.out ⟨_, _, L4.out⟩).mono ?_; rintro e1 w5 ⟨rfl, hk5⟩))
    refine panic_end rfl ?_
    exact ⟨rfl, L5.out.trans (hk5.mono L6.out.2.2.1 (fun _ _ h => h))⟩
  | ok ks q =>
    go_enter Tryd.func63, Tryd.ntmps63
    go_wp2_with (first | (refine wpList_alloc_v (w := w.alloc (.cells #[Value.pointer (some ⟨b, 0, none⟩)] 87)) rfl 25 rfl _ allocJson ?_; intro w2 hg2 hb2 hs2; go_frame) | (refine wpList_alloc_v (w := w2) rfl 25 rfl _ allocJson ?_; intro w3 hg3 hb3 hs3; go_frame) | (refine wpList_build_json1 rfl _ rfl 7 rfl ?_; go_frame) | (refine wpList_store_json rfl _ _ rfl w2.heap.size 7 [] (.slice none 0 0) (.slice none 0 0) noRow rfl rfl rfl rfl rfl hg3.out ?_; intro w4 hg4 hk4 hs4; obtain ⟨L1, L2, L3, L4, L5, L6, L7⟩ := list_laid hlt HR HT HRB HRBB hsz1 hg2 hb2 hs2 hg3 hb3 hs3 hg4 hk4 hs4; have L1o := L1.out; go_frame) | (go_at_call 83; refine (HME.out w4.heap.size w2.heap.size L6.out.1 L6.out.2.1 w4 L6.out.1 L2.out L3.out ⟨_, _, L4.out⟩).mono ?_; rintro e1 w5 ⟨rfl, ⟨nv, kv, hst⟩, hr5, hk5⟩; obtain ⟨J1, J2, J3, J4⟩ := list_done hst hr5 hk5 L5 L6 L7 hlt; clear hst hr5 hk5; go_frame) | (refine wpList_load_mid rfl 25 _ rfl w2.heap.size 0 rfl (jrow 7 [] nv kv) _ (range_of_list J1.out) Tryd.underlying25 rfl (by kernel_rfl) ?_; go_frame) | (refine wpList_store_json rfl _ _ rfl (w.alloc (.cells #[Value.pointer (some ⟨b, 0, none⟩)] 87)).heap.size 7 [] nv kv noRow rfl rfl J3.out.1 J3.out.2 rfl J2.out ?_; intro w6 hg6 hk6 hs6; go_frame))
    obtain ⟨D1, D2, D3⟩ := J4.out w6 hk6.out hs6.out
    refine bodyPost_ret (results_json rfl _ _ _ 7 [] _ _ rfl hg6.out) rfl ?_
    exact ⟨_, rfl, D1, D2, D3⟩
set_option maxRecDepth 100000 in
set_option maxHeartbeats 4000000 in
theorem list_deep (S r : List UInt8) (b p : Nat) (w : World) (hT : Tb w) (hr : Rd w b (bs S) p 20) (hl : Here S p (91 :: r)) :
    Calls Tryd.prog 62 #[.pointer (some ⟨b, 0, none⟩)] w (Out b S 20 w (Made w) (.bad 57 (91 :: r))) := by
  have hlt := hr.lt
  have hmf := mf
  have HR := Lib.hid hr
  have HT := Lib.hid hT
  have hrb := heap_alloc_new w (.cells #[Value.pointer (some ⟨b, 0, none⟩)] 87)
  have hrbB := (Below.refl w.heap.size w).alloc (Nat.le_refl _) (.cells #[Value.pointer (some ⟨b, 0, none⟩)] 87)
  have HRB := Lib.hid hrb
  have HRBB := Lib.hid hrbB
  have hsz1 : (w.alloc (.cells #[Value.pointer (some ⟨b, 0, none⟩)] 87)).heap.size = w.heap.size + 1 := by simp
  have HME := Lib.hid (fun jb v hr' => members_deep S 84 #[.pointer (some ⟨jb, 0, none⟩), .pointer (some ⟨w.heap.size, 0, none⟩)] b p 93 v hr')
  have HAT := Lib.hid hl.at_
  clear hr hT hrb hrbB hl
  go_enter Tryd.func62, Tryd.ntmps62
  go_wp2_with (first | (refine wpList_alloc_v (w := w.alloc (.cells #[Value.pointer (some ⟨b, 0, none⟩)] 87)) rfl 25 rfl _ allocJson ?_; intro w2 hg2 hb2 hs2; go_frame) | (refine wpList_alloc_v (w := w2) rfl 25 rfl _ allocJson ?_; intro w3 hg3 hb3 hs3; go_frame) | (refine wpList_build_json1 rfl _ rfl 6 rfl ?_; go_frame) | (refine wpList_store_json rfl _ _ rfl w2.heap.size 6 [] (.slice none 0 0) (.slice none 0 0) noRow rfl rfl rfl rfl rfl hg3.out ?_; intro w4 hg4 hk4 hs4; obtain ⟨L1, L2, L3, L4, L5, L6, L7⟩ := list_laid hlt HR HT HRB HRBB hsz1 hg2 hb2 hs2 hg3 hb3 hs3 hg4 hk4 hs4; have L1o := L1.out; go_frame) | (go_at_call 83; refine (HME.out w2.heap.size w4 L3.out).mono ?_; rintro e1 w5 ⟨rfl, rfl⟩))
  refine panic_end rfl ?_
  exact ⟨by rw [HAT.out], L5.out⟩
set_option maxRecDepth 100000 in
set_option maxHeartbeats 4000000 in
theorem object_deep (S r : List UInt8) (b p : Nat) (w : World) (hT : Tb w) (hr : Rd w b (bs S) p 20) (hl : Here S p (123 :: r)) :
    Calls Tryd.prog 63 #[.pointer (some ⟨b, 0, none⟩)] w (Out b S 20 w (Made w) (.bad 57 (123 :: r))) := by
  have hlt := hr.lt
  have hmf := mf
  have HR := Lib.hid hr
  have HT := Lib.hid hT
  have hrb := heap_alloc_new w (.cells #[Value.pointer (some ⟨b, 0, none⟩)] 87)
  have hrbB := (Below.refl w.heap.size w).alloc (Nat.le_refl _) (.cells #[Value.pointer (some ⟨b, 0, none⟩)] 87)
  have HRB := Lib.hid hrb
  have HRBB := Lib.hid hrbB
  have hsz1 : (w.alloc (.cells #[Value.pointer (some ⟨b, 0, none⟩)] 87)).heap.size = w.heap.size + 1 := by simp
  have HME := Lib.hid (fun jb v hr' => members_deep S 85 #[.pointer (some ⟨jb, 0, none⟩), .pointer (some ⟨w.heap.size, 0, none⟩)] b p 125 v hr')
  have HAT := Lib.hid hl.at_
  clear hr hT hrb hrbB hl
  go_enter Tryd.func63, Tryd.ntmps63
  go_wp2_with (first | (refine wpList_alloc_v (w := w.alloc (.cells #[Value.pointer (some ⟨b, 0, none⟩)] 87)) rfl 25 rfl _ allocJson ?_; intro w2 hg2 hb2 hs2; go_frame) | (refine wpList_alloc_v (w := w2) rfl 25 rfl _ allocJson ?_; intro w3 hg3 hb3 hs3; go_frame) | (refine wpList_build_json1 rfl _ rfl 7 rfl ?_; go_frame) | (refine wpList_store_json rfl _ _ rfl w2.heap.size 7 [] (.slice none 0 0) (.slice none 0 0) noRow rfl rfl rfl rfl rfl hg3.out ?_; intro w4 hg4 hk4 hs4; obtain ⟨L1, L2, L3, L4, L5, L6, L7⟩ := list_laid hlt HR HT HRB HRBB hsz1 hg2 hb2 hs2 hg3 hb3 hs3 hg4 hk4 hs4; have L1o := L1.out; go_frame) | (go_at_call 83; refine (HME.out w2.heap.size w4 L3.out).mono ?_; rintro e1 w5 ⟨rfl, rfl⟩))
  refine panic_end rfl ?_
  exact ⟨by rw [HAT.out], L5.out⟩
end Go.Proofs.YthfnlnhehececaaDoor
