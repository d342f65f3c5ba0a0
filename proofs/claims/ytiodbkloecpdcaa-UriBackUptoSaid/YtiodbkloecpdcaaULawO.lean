/- The walk of a law: a query is signed alike in whatever order its pairs stand. -/
import Derived.Test.YtiodbkloecpdcaaUSame
import Derived.Test.YtiodbkloecpdcaaURefT
namespace Go.Proofs.Ytiodbkloecpdcaa
open Go.RowKit

theorem own_setCell {w : World} {B g n cap size : Nat} {e : TypeId} {xs : List Value} (h : w.ownsRow B e size (.slice (some ⟨g, 0, none⟩) n cap) n xs) (j : Nat) (hj : j < xs.length) (v : Value) : (w.setCell ⟨g, j, none⟩ v).ownsRow B e size (.slice (some ⟨g, 0, none⟩) n cap) n (xs.set j v) := by
  refine ⟨by rw [List.length_set]; exact h.1, ?_⟩
  rcases h.2 with ⟨hv, _⟩ | ⟨g', cap', cur, hv, hB, hg, h1, h2, h3, h4⟩
  · cases hv
  · cases hv
    refine .inr ⟨g, cap, cur.setIfInBounds j v, rfl, hB, ?_, h1, h2, by simpa using h3, ?_⟩
    · have hl := h.1
      have hx : j < cur.size := by rw [h3]; exact Nat.lt_of_lt_of_le (by rw [hl] at hj; exact hj) (Nat.mul_le_mul_right _ h1)
      rw [← Array.toArray_toList (xs := cur)] at hg ⊢
      have := set_list hg j v
      rw [this]
      have e : (cur.toList.set j v).toArray = cur.setIfInBounds j v := Array.ext' (by simp)
      rw [e, Array.toArray_toList]
    · rw [Array.toList_setIfInBounds, List.take_set, h4]
theorem prs_set (M : List Ur.Pr) (i : Nat) (p : Ur.Pr) : prs (M.set i p) = ((prs M).set (i * 2) (.string (bs p.1))).set (i * 2 + 1) (.string (bs p.2)) := by
  induction M generalizing i with
  | nil => rfl
  | cons q r ih =>
    cases i with
    | zero =>
      rw [List.set_cons_zero, show p :: r = [p] ++ r from rfl, show q :: r = [q] ++ r from rfl, prs_append, prs_append, prs_one p.1 p.2, prs_one q.1 q.2]
      rfl
    | succ i =>
      rw [List.set_cons_succ, show q :: r.set i p = [q] ++ r.set i p from rfl, show q :: r = [q] ++ r from rfl, prs_append, prs_append, prs_one q.1 q.2, ih, show (i + 1) * 2 = i * 2 + 1 + 1 by omega]
      rfl
theorem swap_perm (M : List Ur.Pr) (i j : Nat) (hi : i < j) (hj : j < M.length) (d : Ur.Pr) : ((M.set i (M.getD j d)).set j (M.getD i d)).Perm M := by
  have e1 : M.getD j d = M[j] := by simp [List.getD, List.getElem?_eq_getElem hj]
  have e2 : M.getD i d = M[i] := by simp [List.getD, List.getElem?_eq_getElem (show i < M.length by omega)]
  rw [e1, e2]
  exact List.set_set_perm (by omega) hj
theorem canon_perm {l m : List Ur.Pr} (h : l.Perm m) : canon l = canon m := by unfold canon; rw [srt_of_perm (h.map ep)]
theorem prs_ones (l : List Ur.Pr) : ∀ v ∈ prs l, v.oneCell' = true := by
  induction l with
  | nil => intro v hv; cases hv
  | cons p r ih =>
    intro v hv
    rw [show p :: r = [p] ++ r from rfl, prs_append, prs_one p.1 p.2] at hv
    rcases List.mem_append.1 hv with h | h
    · exact one_str _ _ v h
    · exact ih v h
theorem own_some {w : World} {B n size : Nat} {e : TypeId} {v : Value} {xs : List Value} (h : w.ownsRow B e size v n xs) (hn : 0 < n) : ∃ g cap, v = .slice (some ⟨g, 0, none⟩) n cap := by
  rcases h.2 with ⟨_, h0⟩ | ⟨g, cap, _, rfl, _⟩
  · omega
  · exact ⟨g, cap, rfl⟩
theorem own_block {w : World} {B n size g cap : Nat} {e : TypeId} {xs : List Value} (h : w.ownsRow B e size (.slice (some ⟨g, 0, none⟩) n cap) n xs) : ∃ L : List Value, w.heap[g]? = some (.cells L.toArray e (0, 0)) := by
  rcases h.2 with ⟨hv, _⟩ | ⟨g', cap', cur, hv, hB, hg, h1, h2, h3, h4⟩
  · cases hv
  · cases hv
    exact ⟨cur.toList, by simpa using hg⟩
set_option maxRecDepth 100000 in
set_option maxHeartbeats 8000000 in
theorem Order_none (a : Option Addr) (c : Nat) (t : Int) (w : World) (hm0 : Mx w) : Calls Try.prog 4 #[.slice a 0 c, .int .i64 t] w fun e w' => e = .returned (.bool true) ∧ Below w.heap.size w w' := by
  have X := Lib.hid (fun v hm => examples_true v hm)
  have HM := Lib.hid hm0
  clear hm0
  go_enter Try.func4, Try.ntmps4
  go_wp2_with (go_at_call 10; refine (X.out _ HM.out).mono ?_; rintro e w1 ⟨rfl, hb1⟩; have HB := Lib.hid hb1; clear hb1)
  go_ret
  exact ⟨rfl, HB.out⟩
/-- Behind the turn: the pairs put into another order, and both queries told. -/
theorem turned (t : Int) (ht : -9223372036854775808 ≤ t ∧ t < 9223372036854775808) (n : Nat) (hn : 0 < n) : ∃ k : Nat, k < n ∧ (if t < 0 then -(t + 1) else t).tmod (n : Int) = (k : Int) := by
  obtain ⟨u, hu⟩ : ∃ u : Nat, (if t < 0 then -(t + 1) else t) = (u : Int) := by
    split
    · exact ⟨(-(t + 1)).toNat, by omega⟩
    · exact ⟨t.toNat, by omega⟩
  rw [hu]
  exact ⟨u % n, Nat.mod_lt _ hn, by rw [Int.tmod_eq_emod_of_nonneg (by omega)]; omega⟩
set_option maxRecDepth 100000 in
set_option maxHeartbeats 8000000 in
theorem Order_true (b off cap : Nat) (l : List Ur.Pr) (hl : l.length ≤ 1099511627776) (hcap : l.length ≤ cap) (h0 : 0 < l.length) (hsh : Short 35184372088832 l) (hcan : (canon l).length ≤ 140737488355328) (t : Int) (ht : -9223372036854775808 ≤ t ∧ t < 9223372036854775808) (w : World) (hm0 : Mx w) (hb : b < w.heap.size) (hr : w.rangeAt b off (prs l)) :
    Calls Try.prog 4 #[.slice (some ⟨b, off, none⟩) l.length cap, .int .i64 t] w fun e w' => e = .returned (.bool true) ∧ Below w.heap.size w w' := by
  obtain ⟨i0, hinf, hz0, hz1, hz2⟩ := info_parts infoPair
  have X := Lib.hid (fun v hm => examples_true v hm)
  have ca : ∀ (M : List Ur.Pr) (hp : M.Perm l) (sv : Value) (v : World), PairsAt v.heap.size v sv M → Calls Try.prog 13 #[sv] v fun e W' => e = .returned (.string (bs (canon l))) ∧ Below v.heap.size v W' := fun M hp sv v h => by
    have q := Canon_any sv M (by rw [hp.length_eq]; exact hl) (fun p hq => hsh p (hp.mem_iff.1 hq)) (by rw [canon_perm hp]; exact hcan) v h
    rw [canon_perm hp] at q
    exact q
  have CA := Lib.hid ca
  clear ca
  have HM := Lib.hid hm0
  have HR := Lib.hid hr
  obtain ⟨k, hk, hmod⟩ := turned t ht l.length h0
  have hdl : (l.drop k).length = l.length - k := List.length_drop
  have htl : (l.take k).length = k := by rw [List.length_take]; omega
  have HP0 := Lib.hid (show (l.drop k ++ l.take k).Perm l from (List.perm_append_comm).trans (by rw [List.take_append_drop]))
  have N1 : ∀ v : World, Below w.heap.size w v → ∀ j u, (prs (l.drop k))[j]? = some u → v.cell? ((⟨b, off + k * 2, none⟩ : Addr).add j) = some u := fun v hv j u hj => by
    have e : prs l = prs (l.take k) ++ prs (l.drop k) := by rw [← prs_append, List.take_append_drop]
    have h := hr (k * 2 + j) u (by rw [e, List.getElem?_append_right (by rw [prs_len, htl]; omega), prs_len, htl, show k * 2 + j - 2 * k = j by omega]; exact hj)
    rw [Addr.add_mid, Nat.add_assoc]
    exact (hv.cell (p := ⟨b, off + (k * 2 + j), none⟩) hb).trans h
  have N2 : ∀ v : World, Below w.heap.size w v → ∀ j u, (prs (l.take k))[j]? = some u → v.cell? ((⟨b, off, none⟩ : Addr).add j) = some u := fun v hv j u hj => by
    have e : prs l = prs (l.take k) ++ prs (l.drop k) := by rw [← prs_append, List.take_append_drop]
    have hjl : j < (prs (l.take k)).length := (List.getElem?_eq_some_iff.1 hj).1
    have h := hr j u (by rw [e, List.getElem?_append_left hjl]; exact hj)
    rw [Addr.add_mid]
    exact (hv.cell (p := ⟨b, off + j, none⟩) hb).trans h
  have HN1 := Lib.hid N1
  have HN2 := Lib.hid N2
  have hpd := prs_len (l.drop k)
  have hpt := prs_len (l.take k)
  obtain ⟨n, hn⟩ : ∃ n, n = l.length := ⟨_, rfl⟩
  rw [← hn] at hmod hdl h0 hl hcap hk ⊢
  have HNN := Lib.hid hn
  have HDL := Lib.hid hdl
  have HTL := Lib.hid htl
  clear hm0 hsh hcan hr N1 N2 hn hdl htl
  have hsp : (t < 0 ∧ (-(t + 1)).tmod (n : Int) = (k : Int)) ∨ (¬ t < 0 ∧ t.tmod (n : Int) = (k : Int)) := by
    by_cases htn : t < 0
    · rw [if_pos htn] at hmod; exact .inl ⟨htn, hmod⟩
    · rw [if_neg htn] at hmod; exact .inr ⟨htn, hmod⟩
  clear hmod
  obtain ⟨h2, hh⟩ : ∃ h2 : Nat, h2 = n / 2 := ⟨_, rfl⟩
  have hq : (n : Int).tdiv 2 = (h2 : Int) := by rw [Int.tdiv_eq_ediv_of_nonneg (by omega)]; omega
  have hh2 : 2 * h2 ≤ n := by omega
  clear hh
  rcases hsp with ⟨htn, hmod⟩ | ⟨htn, hmod⟩
  all_goals
    go_enter Try.func4, Try.ntmps4
    go_wp2_with (first | (go_at_call 10; refine (X.out _ HM.out).mono ?_; rintro e w1 ⟨rfl, hb1⟩; have HB := Lib.hid hb1; replace HM := Lib.hid (HM.out.below hb1); clear hb1) | (refine wpList_append_own _ rfl _ _ 22 rfl w.heap.size 32 i0 (.agg #[.string ⟨#[]⟩, .string ⟨#[]⟩]) 2 32 Try.underlying22 hinf hz0 hz1 hz2 rfl (by decide) _ (n - k) (prs (l.drop k)) rfl H7.out ⟨b, off, none⟩ k cap (prs (l.take k)) rfl (by rw [prs_len, HTL.out]; omega) (HN2.out _ HB7.out) (prs_ones _) (by unfold maxLen; omega) (by omega) HB7.out.size ?_; intro v8 w8 h8 hg8 _; rw [Nat.sub_add_cancel (by omega), ← prs_append] at h8; have H8 := Lib.hid h8; have HB8 := Lib.hid (HB7.out.grown hg8 HB7.out.size (fun q hq => (H7.out.lt q hq).1)); clear h8 hg8; go_frame) | (refine wpList_append_own _ rfl _ _ 22 rfl w.heap.size 32 i0 (.agg #[.string ⟨#[]⟩, .string ⟨#[]⟩]) 2 32 Try.underlying22 hinf hz0 hz1 hz2 rfl (by decide) _ 0 [] rfl (World.ownsRow_nil _ _ _ _) ⟨b, off + k * 2, none⟩ (n - k) (cap - k) (prs (l.drop k)) rfl (by rw [prs_len, HDL.out]; omega) (HN1.out _ HB.out) (prs_ones _) (by unfold maxLen; omega) (by omega) HB.out.size ?_; intro v7 w7 h7 hg7 _; rw [Nat.zero_add, List.nil_append] at h7; have H7 := Lib.hid h7; have HB7 := Lib.hid (HB.out.grown hg7 HB.out.size (fun q hq => by cases hq)); clear h7 hg7; go_frame))
    obtain ⟨g, c8, rfl⟩ := own_some H8.out h0
    have HH := Lib.hid (show ∃ M : List Ur.Pr, M.Perm l ∧ w8.ownsRow w.heap.size 32 2 (.slice (some ⟨g, 0, none⟩) n c8) n (prs M) from ⟨_, HP0.out, H8.out⟩)
    clear H7 HB7 HN1 HN2 HP0 H8 HDL HTL hmod hpd hpt
    go_loopw [8] (fun iv wr => ∃ i : Nat, i ≤ h2 ∧ iv = .int .i64 i ∧ Hid (∃ M : List Ur.Pr, M.Perm l ∧ wr.ownsRow w.heap.size 32 2 (.slice (some ⟨g, 0, none⟩) n c8) n (prs M)) ∧ Hid (Below w.heap.size w wr)) (fun iv _ => h2 - (intOf iv).toNat)
    case atStart => exact ⟨0, by omega, rfl, HH, HB8⟩
    case round =>
      clear HH HB8
      obtain ⟨i, hi, rfl, HH, HB9⟩ := hrel
      obtain ⟨M, hM, hO⟩ := HH.out
      by_cases hlt : i < h2
      · have hMl : M.length = n := by rw [hM.length_eq]; exact HNN.out.symm
        obtain ⟨j, hj⟩ : ∃ j, j = n - 1 - i := ⟨_, rfl⟩
        have hij : i < j := by omega
        have hjn : j < n := by omega
        have hin : i < n := by omega
        have hje : (n : Int) - 1 - (i : Int) = (j : Int) := by omega
        have pi := prs_at M i (by omega)
        have pj := prs_at M j (by omega)
        rw [Nat.mul_comm 2 i] at pi
        rw [Nat.mul_comm 2 j] at pj
        have ci0 := own_cell hO (i * 2) pi.1
        have ci1 := own_cell hO (i * 2 + 1) pi.2
        have cj0 := own_cell hO (j * 2) pj.1
        have cj1 := own_cell hO (j * 2 + 1) pj.2
        obtain ⟨L, hgh⟩ := own_block hO
        have z0 := not_frozen hgh (i * 2)
        have z1 := not_frozen hgh (i * 2 + 1)
        have z2 := not_frozen hgh (j * 2)
        have z3 := not_frozen hgh (j * 2 + 1)
        have hgw := lt_of_heap hgh
        have HO := Lib.hid hO
        have HM2 := Lib.hid hM
        obtain ⟨x1, e1⟩ : ∃ x, x = bs (M.getD i ([], [])).1 := ⟨_, rfl⟩
        obtain ⟨x2, e2⟩ : ∃ x, x = bs (M.getD i ([], [])).2 := ⟨_, rfl⟩
        obtain ⟨y1, e3⟩ : ∃ x, x = bs (M.getD j ([], [])).1 := ⟨_, rfl⟩
        obtain ⟨y2, e4⟩ : ∃ x, x = bs (M.getD j ([], [])).2 := ⟨_, rfl⟩
        rw [← e1] at ci0
        rw [← e2] at ci1
        rw [← e3] at cj0
        rw [← e4] at cj1
        have E1 := Lib.hid e1
        have E2 := Lib.hid e2
        have E3 := Lib.hid e3
        have E4 := Lib.hid e4
        have HML := Lib.hid hMl
        clear pi pj hgh hO hM hj hMl e1 e2 e3 e4
        go_wp2_with fail
        refine ⟨⟨i + 1, by omega, by go_num, Lib.hid ⟨(M.set i (M.getD j ([], []))).set j (M.getD i ([], [])), (swap_perm M i j hij (by rw [HML.out]; exact hjn) _).trans HM2.out, ?_⟩, Lib.hid ?_⟩, ?_⟩
        · rw [prs_set, prs_set, ← E1.out, ← E2.out, ← E3.out, ← E4.out]
          have hp2 : (prs M).length = n * 2 := by rw [prs_len, HML.out, Nat.mul_comm]
          have o1 := own_setCell HO.out (i * 2) (by rw [hp2]; omega) (.string y1)
          have o2 := own_setCell o1 (i * 2 + 1) (by rw [List.length_set, hp2]; omega) (.string y2)
          have o3 := own_setCell o2 (j * 2) (by rw [List.length_set, List.length_set, hp2]; omega) (.string x1)
          have o4 := own_setCell o3 (j * 2 + 1) (by rw [List.length_set, List.length_set, List.length_set, hp2]; omega) (.string x2)
          exact o4.alloc _
        · have hgB : w.heap.size ≤ g := (HO.out.lt g rfl).1
          exact ((((HB9.out.setCell (p := ⟨g, i * 2, none⟩) hgB _).setCell (p := ⟨g, i * 2 + 1, none⟩) hgB _).setCell (p := ⟨g, j * 2, none⟩) hgB _).setCell (p := ⟨g, j * 2 + 1, none⟩) hgB _).alloc (by simp; exact HB9.out.size) _
        · simp [intOf]; omega
      · have HML := Lib.hid (show M.length = n by rw [hM.length_eq]; exact HNN.out.symm)
        have C1 := Lib.hid (CA.out M hM (.slice (some ⟨g, 0, none⟩) n c8) wr (pairsAt_self (l := M) (by rw [HML.out]; exact hO) rfl (Nat.le_refl _)))
        have C2 := Lib.hid (fun (v : World) (hv : Below w.heap.size w v) => CA.out l (List.Perm.refl l) (.slice (some ⟨b, off, none⟩) n cap) v (.inr ⟨b, off, cap, by rw [HNN.out], Nat.lt_of_lt_of_le hb hv.size, fun q u hq => (hv.cell (p := ⟨b, off + q, none⟩) hb).trans (HR.out q u hq)⟩))
        generalize bs (canon l) = cx at *
        clear hM hO HH CA
        go_wp2_with (first | (go_at_call 13; first | ((with_reducible refine C1.out.mono ?_); rintro e w11 ⟨rfl, hb11⟩; have HB11 := Lib.hid (bthen HB9.out hb11); clear hb11) | ((with_reducible refine (C2.out _ HB11.out).mono ?_); rintro e w12 ⟨rfl, hb12⟩; have HB12 := Lib.hid (bthen HB11.out hb12); clear hb12)))
        go_ret
        exact ⟨by first | rfl | simp, HB12.out⟩
end Go.Proofs.Ytiodbkloecpdcaa
