/- The program asks whether values are right: those in a list or an object. -/
import Derived.Test.YthfnlnhehececaaDoorNRt2
namespace Go.Proofs.YthfnlnhehececaaDoor
open Go Go.RowKit

/-- So many were looked at. -/
def Cen (w : World) (b n : Nat) : Prop := w.heap[b]? = some (.cells [Value.int .i64 n].toArray 76 (0, 0))
theorem At.jv_ {w : World} {F : Nat → Prop} {k : Int} {t : List UInt8} {ns : List (List UInt8)} {ks : List Js.J} {v : Value} (h : At w F (.mk k t ns ks) v) : ∃ nv kv vs, v = jv k t nv kv ∧ nv.oneCell' = true ∧ kv.oneCell' = true ∧ NsAt w F nv ns ∧ KsAt w F kv vs ∧ vs.length = ks.length ∧
    ∀ (i : Nat) (j : Js.J) (v : Value), ks[i]? = some j → vs[i]? = some v → At w F j v := by
  cases h with
  | mk _ _ _ _ nv kv vs hn hk hl hs =>
    refine ⟨nv, kv, vs, rfl, ?_, ?_, hn, hk, hl, hs⟩
    · obtain ⟨a, c, rfl, _⟩ := hn.sl; rfl
    · obtain ⟨a, c, rfl, _⟩ := hk.sl; rfl
theorem lies_row {w : World} {g o : Nat} {k : Int} {t : List UInt8} {nv kv : Value} (h : Lies w g o (jv k t nv kv)) : w.rangeAt g o (jrow k t nv kv) := by
  obtain ⟨a, b, c, d, e, h0, h1, h2, h3⟩ := h
  unfold jv at e
  simp only [Value.agg.injEq, Array.mk.injEq, List.cons.injEq, and_true] at e
  obtain ⟨rfl, rfl, rfl, rfl⟩ := e
  intro j v hj
  match j, hj with
  | 0, hj => obtain rfl := Option.some.inj hj; exact h0
  | 1, hj => obtain rfl := Option.some.inj hj; exact h1
  | 2, hj => obtain rfl := Option.some.inj hj; exact h2
  | 3, hj => obtain rfl := Option.some.inj hj; exact h3
/-- What lies below a bound stays as it is read, where nothing below it is written. -/
theorem At.keep {w w' : World} {B C : Nat} {ex : List Nat} {j : Js.J} {v : Value} (h : At w (· < B) j v) (hk : Kept C ex w w') (hB : B ≤ C) (he : ∀ x ∈ ex, B ≤ x) : At w' (· < B) j v :=
  h.frame (fun _ h => h) hk.size fun g hg _ => hk.block g (by omega) (fun hm => by have := he g hm; omega)
theorem At.low {w w' : World} {B C : Nat} {j : Js.J} {v : Value} (h : At w (· < B) j v) (hk : Below C w w') (hB : B ≤ C) : At w' (· < B) j v := h.keep (Kept.of_below (ws := []) hk) hB (by simp)
/-- What is asked of the question for one value. -/
def RightC (D : Nat) : Prop := ∀ (j : Js.J) (v : Value) (n d B cb : Nat) (w : World), d + D = 20 → n ≤ 8000 → Js.Fit j → At w (· < B) j v → B ≤ cb → B ≤ w.heap.size → Cen w cb n → Tb w → Hi cb →
  Calls Tryd.prog 40 #[.pointer (some ⟨cb, 0, none⟩), v, .int .i64 d] w fun e w' => e = .returned (.bool (Js.rt D j n).1) ∧ Cen w' cb (Js.rt D j n).2 ∧ Kept w.heap.size [cb] w w'
theorem rts_drop {f : Js.J → Nat → Bool × Nat} {ks : List Js.J} {i n : Nat} {j : Js.J} (h : ks[i]? = some j) : Js.rts f (ks.drop i) n = if (f j n).1 then Js.rts f (ks.drop (i + 1)) (f j n).2 else (false, (f j n).2) := by
  have hi := (List.getElem?_eq_some_iff.1 h)
  rw [List.drop_eq_getElem_cons hi.1, hi.2, Js.rts]
theorem kid_laid {wr w1 w2 : World} {cb m : Nat} (hb1 : Hid (Below wr.heap.size wr w1)) (hk2 : Hid (Kept w1.heap.size [wr.heap.size] w1 w2)) (hs1 : Hid (w1.heap.size = wr.heap.size + 1)) (_hs2 : Hid (w2.heap.size = w1.heap.size)) (hce : Hid (Cen wr cb m)) : Hid (Below wr.heap.size wr w2) ∧ Hid (Cen w2 cb m) := by
  have s1 := hs1.out
  have hl := lt_of_heap hce.out
  have B2 := below_kept hb1.out hk2.out (Nat.le_refl _) (by omega)
  exact ⟨Lib.hid B2, Lib.hid ((B2.block cb hl).trans hce.out)⟩
set_option maxRecDepth 100000 in
set_option maxHeartbeats 4000000 in
theorem areRight_any (D : Nat) (hR : RightC D) (ks : List Js.J) (kv : Value) (vs : List Value) (n d B cb : Nat) (w : World) (hd : d + D = 20) (hn : n ≤ 8000) (hf : ∀ j ∈ ks, Js.Fit j) (hl8 : ks.length ≤ 140737488355328) (hk : KsAt w (· < B) kv vs) (hl : vs.length = ks.length)
    (hs : ∀ (i : Nat) (j : Js.J) (v : Value), ks[i]? = some j → vs[i]? = some v → At w (· < B) j v) (hBc : B ≤ cb) (hBw : B ≤ w.heap.size) (hc : Cen w cb n) (hT : Tb w) (hi : Hi cb) :
    Calls Tryd.prog 66 #[.pointer (some ⟨cb, 0, none⟩), kv, .int .i64 d] w fun e w' => e = .returned (.bool (Js.rts (Js.rt D) ks n).1) ∧ Cen w' cb (Js.rts (Js.rt D) ks n).2 ∧ Kept w.heap.size [cb] w w' := by
  obtain ⟨N, hN⟩ : ∃ N, N = ks.length := ⟨_, rfl⟩
  obtain ⟨R, hRR⟩ : ∃ R, R = Js.rts (Js.rt D) ks n := ⟨_, rfl⟩
  rw [← hRR]
  obtain ⟨a, c, rfl, hcell⟩ := hk.sl
  rw [hl, ← hN]
  have HN := Lib.hid hN
  have HRR := Lib.hid hRR
  have HC := Lib.hid hcell
  have HS := Lib.hid hs
  have HF := Lib.hid hf
  have HL := Lib.hid hl
  have HCE := Lib.hid hc
  have HT := Lib.hid hT
  have HR := Lib.hid hR
  have hd20 : d ≤ 20 := by omega
  have hcl := lt_of_heap hc
  rw [← hN] at hl8
  clear hk hcell hs hf hl hc hT hN hRR hR
  have hnot : ∀ (x : Bool) (w : World), (Op.unary .not (.bool x)).run Tryd.prog w = .ok (.bool (!x)) w := fun _ _ => rfl
  go_enter Tryd.func66, Tryd.ntmps66
  go_wp2_with fail
  go_loopw [13] (fun iv wr => ∃ i m : Nat, i ≤ N ∧ m ≤ 8000 ∧ iv = .int .i64 i ∧ Hid (R = Js.rts (Js.rt D) (ks.drop i) m) ∧ Hid (Cen wr cb m) ∧ Hid (Kept w.heap.size [cb] w wr)) (fun iv _ => N - (intOf iv).toNat)
  case atStart => exact ⟨0, n, by omega, hn, rfl, HRR, HCE, Lib.hid (Kept.refl _ _ _)⟩
  case round =>
    obtain ⟨i, m, hi1, hm, rfl, hr, hce, hke⟩ := hrel
    have hws := hke.out.size
    have HTr := Lib.hid (HT.out.keep hi hke.out)
    by_cases hiN : i < N
    · have hik : i < ks.length := by rw [← HN.out]; exact hiN
      have hiv : i < vs.length := by rw [HL.out]; exact hik
      have hj := List.getElem?_eq_getElem hik
      have hv := List.getElem?_eq_getElem hiv
      generalize ks[i] = j at hj
      generalize vs[i] = v at hv
      obtain ⟨g, o, rfl, hgB, hg, hli⟩ := HC.out i v hv
      have hat := HS.out i j v hj hv
      have hfit := Lib.hid (HF.out j (List.mem_of_getElem? hj))
      have hr2 := hr.out
      rw [rts_drop hj] at hr2
      obtain ⟨k, t, ns, ks'⟩ := j
      obtain ⟨nv, kv, _, rfl, h1, h2, _⟩ := hat.jv_
      have hgc : g ≠ cb := by omega
      have hrow := Lib.hid (lies_row (hli.frame (hke.out.block g hg (by simp; omega))))
      rw [Nat.mul_comm 4 i] at hrow
      have hatr := Lib.hid (hat.keep hke.out hBw (by simp; exact hBc))
      have HX := Lib.hid (fun (u : World) hb hs hc hT => HR.out _ _ m d B cb u hd hm hfit.out (hatr.out.low (C := wr.heap.size) hb (by omega)) hBc hs hc hT hi)
      have hgk := Lib.hid (hke.out.block g hg (by simp; omega))
      clear hli hat hj hv hr
      have hsz : wr.heap.size = wr.heap.size := rfl
      have HCr := Lib.hid (lt_of_heap hce.out)
      cases hrj : (Js.rt D (.mk k t ns ks') m).1 with
      | true =>
        have hle := Js.rt_le D _ _ hrj
        rw [hrj] at hr2 HX
        simp only [if_true] at hr2
        have HR2 := Lib.hid hr2
        generalize (Js.rt D (.mk k t ns ks') m).2 = m2 at *
        clear hr2 hrj HC HS HF HRR HCE HR
        go_wp2_with (first | (refine wpList_load_mid rfl 25 _ rfl g (o + i * 4) rfl (jrow k t nv kv) _ hrow.out Tryd.underlying25 rfl (by kernel_rfl) ?_; go_frame) | (refine wpList_alloc_v (w := wr) rfl 25 rfl _ allocJson ?_; intro w1 hg1 hb1 hs1; go_frame) | (refine wpList_store_json rfl _ _ rfl wr.heap.size k t nv kv noRow rfl rfl h1 h2 rfl hg1.out ?_; intro w2 hg2 hk2 hs2; obtain ⟨B2, C2⟩ := kid_laid hb1 hk2 hs1 hs2 hce; go_frame) | (refine wpList_load_mid rfl 25 _ rfl wr.heap.size 0 rfl (jrow k t nv kv) _ (range_of_list hg2.out) Tryd.underlying25 rfl (by kernel_rfl) ?_; go_frame) | (go_at_call 40; refine (HX.out w2 B2.out (Nat.le_trans hBw (Nat.le_trans hws B2.out.size)) C2.out (HTr.out.below B2.out)).mono ?_; rintro e1 w3 ⟨rfl, hc3, hk3⟩; go_frame))
        go_roundw
        case rel => exact ⟨i + 1, m2, by omega, hle, by go_num, HR2, Lib.hid hc3, Lib.hid (kk hke.out (kk (Kept.of_below B2.out) hk3))⟩
        case measure => simp [intOf]; omega
      | false =>
        rw [hrj] at hr2 HX
        simp only [Bool.false_eq_true, if_false] at hr2
        have HR2 := Lib.hid hr2
        generalize (Js.rt D (.mk k t ns ks') m).2 = m2 at *
        clear hr2 hrj HC HS HF HRR HCE HR
        go_wp2_with (first | (refine wpList_load_mid rfl 25 _ rfl g (o + i * 4) rfl (jrow k t nv kv) _ hrow.out Tryd.underlying25 rfl (by kernel_rfl) ?_; go_frame) | (refine wpList_alloc_v (w := wr) rfl 25 rfl _ allocJson ?_; intro w1 hg1 hb1 hs1; go_frame) | (refine wpList_store_json rfl _ _ rfl wr.heap.size k t nv kv noRow rfl rfl h1 h2 rfl hg1.out ?_; intro w2 hg2 hk2 hs2; obtain ⟨B2, C2⟩ := kid_laid hb1 hk2 hs1 hs2 hce; go_frame) | (refine wpList_load_mid rfl 25 _ rfl wr.heap.size 0 rfl (jrow k t nv kv) _ (range_of_list hg2.out) Tryd.underlying25 rfl (by kernel_rfl) ?_; go_frame) | (go_at_call 40; refine (HX.out w2 B2.out (Nat.le_trans hBw (Nat.le_trans hws B2.out.size)) C2.out (HTr.out.below B2.out)).mono ?_; rintro e1 w3 ⟨rfl, hc3, hk3⟩; go_frame))
        go_ret
        rw [HR2.out]
        exact ⟨rfl, hc3, kk hke.out (kk (Kept.of_below B2.out) hk3)⟩
    · obtain rfl : i = N := by omega
      have hr2 := hr.out
      rw [List.drop_eq_nil_of_le (by rw [← HN.out]; exact Nat.le_refl _), Js.rts] at hr2
      have HR2 := Lib.hid hr2
      clear hr2 hr HC HS HF HRR HR HT HTr
      go_wp2_with fail
      go_ret
      rw [HR2.out]
      exact ⟨rfl, hce.out, hke.out⟩
theorem areRight_deep (kv : Value) (n cb : Nat) (w : World) (hc : Cen w cb n) : Calls Tryd.prog 66 #[.pointer (some ⟨cb, 0, none⟩), kv, .int .i64 21] w fun e w' => e = .returned (.bool false) ∧ Cen w' cb n ∧ w' = w := by
  go_enter Tryd.func66, Tryd.ntmps66
  go_wp2_with fail
  go_ret
  exact ⟨rfl, hc, rfl⟩
end Go.Proofs.YthfnlnhehececaaDoor
