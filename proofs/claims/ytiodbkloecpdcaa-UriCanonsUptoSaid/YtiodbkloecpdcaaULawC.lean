/- The walk of a law: a query is told as the document says, and stays as it was. -/
import Derived.Test.YtiodbkloecpdcaaURefC
import Derived.Laws.OwnMore
import Derived.Laws.CopyOwn
namespace Go.Proofs.Ytiodbkloecpdcaa
open Go.RowKit

theorem run_copy_sz {P : Program} (w : World) (dT sT ty elem : TypeId) (size g dLen dCap : Nat) (a : Addr) (sLen sCap : Nat) (cur : Array Value) (t : TypeId) (cs : List Value)
    (hu : P.underlying dT = some (.slice elem)) (hs : (P.info? elem).map (·.size) = some size)
    (hg : w.heap[g]? = some (.cells cur t (0, 0))) (hn : cs.length = Nat.min sLen dLen * size)
    (hsrc : ∀ j v, cs[j]? = some v → w.cell? (a.add j) = some v) (hfit : 0 + cs.length ≤ cur.size) (h1 : ∀ v ∈ cs, v.oneCell' = true) :
    (Builtin.copy_ #[dT, sT] ty #[.slice (some ⟨g, 0, none⟩) dLen dCap, .slice (some a) sLen sCap]).run P w =
      .ok (goInt (Nat.min sLen dLen)) (w.setRow g (cur.toList.take 0 ++ cs ++ cur.toList.drop (0 + cs.length)).toArray) := by
  have hl := run_loadCells_list (P := P) w a cs hsrc
  have hst := run_storeCells_at P g 0 t cs 0 cur w hg (by simpa using hfit) h1
  cases hq : P.info? elem with
  | none => simp [hq] at hs
  | some i =>
    have hi : i.size = size := by simpa [hq] using hs
    simp [Builtin.copy_, run_underlying hu, Builtin.lenOf, Builtin.firstCells, sizeOf, typeInfo, hq, hi, ← hn, hl]
    simp only [List.take_zero, List.nil_append, Nat.zero_add, Nat.add_zero] at hst
    rw [hst]
    rfl
theorem run_copy_zero {P : Program} (w : World) (dT sT ty elem : TypeId) (size : Nat) (d a : Option Addr) (dLen dCap sCap : Nat)
    (hu : P.underlying dT = some (.slice elem)) (hs : (P.info? elem).map (·.size) = some size) :
    (Builtin.copy_ #[dT, sT] ty #[.slice d dLen dCap, .slice a 0 sCap]).run P w = .ok (goInt 0) w := by
  cases hq : P.info? elem with
  | none => simp [hq] at hs
  | some i =>
    cases d <;> cases a <;> simp [Builtin.copy_, run_underlying hu, Builtin.lenOf, Builtin.firstCells, sizeOf, typeInfo, hq, storeCells, loadCells, loadCellsFrom]
/-- A copy of pairs to a new row's front. -/
theorem wpList_copy_prs {P : Program} {w : World} {ops : Array Oper} {rest : List Oper} {o : Oper} {a : Act} {Q : Exit → Act → World → Prop} (hgd : o.guard = none) (d s : Operand) (dT sT : TypeId)
    (ho : o.op = .call { callee := .builtin .copy, args := #[d, s], argTypes := #[dT, sT] }) (elem : TypeId) (hu : P.underlying dT = some (.slice elem)) (hsz : (P.info? elem).map (·.size) = some 2)
    (g n dCap sCap : Nat) (sp : Option Addr) (hd : a.eval d = .slice (some ⟨g, 0, none⟩) (n + 1) dCap) (hs : a.eval s = .slice sp n sCap)
    (cur : List Value) (t : TypeId) (hg : w.heap[g]? = some (.cells cur.toArray t (0, 0))) (cs : List Value) (hn : cs.length = n * 2) (hfit : cs.length ≤ cur.length)
    (hsrc : 0 < n → ∃ ad, sp = some ad ∧ ∀ j v, cs[j]? = some v → w.cell? (ad.add j) = some v) (h1 : ∀ v ∈ cs, v.oneCell' = true)
    (h : ∀ w', Hid (w'.heap[g]? = some (.cells (cs ++ cur.drop cs.length).toArray t (0, 0))) → Hid (Below g w w' ∧ w'.heap.size = w.heap.size) → wpList P ops Q rest (a.put o.dst (goInt n)) w') :
    wpList P ops Q (o :: rest) a w := by
  refine wpList_plain hgd fun K hK => ?_
  have hm : Nat.min n (n + 1) = n := Nat.min_eq_left (by omega)
  by_cases h0 : n = 0
  · subst h0
    obtain rfl : cs = [] := List.eq_nil_of_length_eq_zero (by simpa using hn)
    have hrun := run_copy_zero (P := P) w dT sT o.type elem 2 (some ⟨g, 0, none⟩) sp (0 + 1) dCap sCap hu hsz
    unfold Oper.wp
    simp [execOp, ho, resolve, invoke, builtin, hd, hs, hrun, Result.andThen]
    exact hK _ _ (h w (Lib.hid (by simpa using hg)) (Lib.hid ⟨Below.refl _ _, rfl⟩))
  · obtain ⟨ad, rfl, hc⟩ := hsrc (by omega)
    have hrun := run_copy_sz (P := P) w dT sT o.type elem 2 g (n + 1) dCap ad n sCap cur.toArray t cs hu hsz hg (by rw [hm, hn]) hc (by simpa using hfit) h1
    rw [hm] at hrun
    unfold Oper.wp
    simp [execOp, ho, resolve, invoke, builtin, hd, hs, hrun, Result.andThen]
    refine hK _ _ (h _ (Lib.hid (show _ = _ from ?_)) (Lib.hid ⟨below_setRow (Below.refl _ _) (Nat.le_refl _) _, by simp [World.setRow]⟩))
    simpa using setRow_heap w g _ (cs ++ cur.drop cs.length).toArray t _ hg
theorem wpList_make_full {P : Program} {w : World} {ops : Array Oper} {rest : List Oper} {o : Oper} {a : Act} {Q : Exit → Act → World → Prop} (hgd : o.guard = none) (t : TypeId) (x y : Operand) (ho : o.op = .makeSlice t x y)
    (e : TypeId) (i : TypeInfo) (z : Value) (bytes : Nat) (ht : P.underlying t = some (.slice e)) (hi : P.info? e = some i) (hz : i.zero = some z) (hsz : i.size = 2) (hby : i.bytes = bytes)
    (n : Nat) (hx : a.eval x = .int .i64 ((n : Int) + 1)) (hy : a.eval y = .int .i64 ((n : Int) + 1)) (hbytes : bytes * (n + 1) ≤ 281474976710656) (hmax : n + 1 ≤ maxLen)
    (h : ∀ w', Hid (∃ L : List Value, w'.heap[w.heap.size]? = some (.cells L.toArray e (0, 0)) ∧ L.length = (n + 1) * 2) → Hid (Below w.heap.size w w') →
      wpList P ops Q rest (a.put o.dst (.slice (some ⟨w.heap.size, 0, none⟩) (n + 1) (n + 1))) w') : wpList P ops Q (o :: rest) a w := by
  obtain ⟨w', hrun, hown, hg⟩ := run_make_full (P := P) w w.heap.size t e i z 2 ht hi hz hsz .i64 .i64 (n + 1) (by rw [hby]; exact hbytes) hmax (Nat.le_refl _)
  rw [show ((n + 1 : Nat) : Int) = (n : Int) + 1 by omega] at hrun
  refine wpList_run hgd _ w' ?_ (h _ (Lib.hid ?_) (Lib.hid ((Below.refl _ _).grown hg (Nat.le_refl _) (fun k e => by cases e))))
  · unfold execOp
    simp only [ho, hx, hy, Sem.run_bind, hrun, Result.andThen_ok]
    rfl
  · rcases hown.2 with ⟨hv, _⟩ | ⟨g', cap', cur, hv, _, hgh, _, _, hcs, _⟩
    · cases hv
    · cases hv
      exact ⟨cur.toList, by simpa using hgh, by simpa using hcs⟩
theorem two_left (L : List Value) (k : Nat) (h : L.length = k + 2) : ∃ r0 r1, L.drop k = [r0, r1] := by
  have hl : (L.drop k).length = 2 := by rw [List.length_drop]; omega
  match L.drop k, hl with
  | [a, b], _ => exact ⟨a, b, rfl⟩
theorem mark_cells {w : World} {g n : Nat} {P : List Value} {a b : Value} {t : TypeId} (h : w.heap[g]? = some (.cells (P ++ [a, b]).toArray t (0, 0))) (hn : P.length = n * 2) : w.cell? ⟨g, n * 2, none⟩ = some a ∧ w.cell? ⟨g, n * 2 + 1, none⟩ = some b := by
  have c0 := cell_of_list h (n * 2)
  have c1 := cell_of_list h (n * 2 + 1)
  rw [List.getElem?_append_right (by omega), hn, Nat.sub_self] at c0
  rw [List.getElem?_append_right (by omega), hn, show n * 2 + 1 - n * 2 = 1 by omega] at c1
  exact ⟨c0, c1⟩
theorem mark_facts {w : World} {g n : Nat} {P : List Value} {a b : Value} {t : TypeId} (h : w.heap[g]? = some (.cells (P ++ [a, b]).toArray t (0, 0))) (hn : P.length = n * 2) :
    w.cell? ⟨g, n * 2, none⟩ = some a ∧ w.cell? ⟨g, n * 2 + 1, none⟩ = some b ∧ w.frozen? ⟨g, n * 2, none⟩ = false ∧ w.frozen? ⟨g, n * 2 + 1, none⟩ = false ∧
    ((w.setCell ⟨g, n * 2, none⟩ (.string ⟨#[109, 97, 114, 107]⟩)).setCell ⟨g, n * 2 + 1, none⟩ (.string ⟨#[]⟩)).heap[g]? = some (.cells (P ++ [Value.string ⟨#[109, 97, 114, 107]⟩, .string ⟨#[]⟩]).toArray t (0, 0)) := by
  refine ⟨(mark_cells h hn).1, (mark_cells h hn).2, not_frozen h _, not_frozen h _, ?_⟩
  have q := set_list (set_list h (n * 2) (.string ⟨#[109, 97, 114, 107]⟩)) (n * 2 + 1) (.string ⟨#[]⟩)
  rw [List.set_append_right _ _ (by omega), hn, Nat.sub_self, List.set_append_right _ _ (by omega), hn, show n * 2 + 1 - n * 2 = 1 by omega] at q
  exact q
theorem pairs_front {w : World} {g c n : Nat} {zs : List Ur.Pr} {R : List Value} {t : TypeId} (hn : n = zs.length) (h : w.heap[g]? = some (.cells (prs zs ++ R).toArray t (0, 0))) : PairsAt w.heap.size w (.slice (some ⟨g, 0, none⟩) n c) zs := by
  subst hn
  refine .inr ⟨g, 0, c, rfl, lt_of_heap h, fun j u hj => ?_⟩
  have hl : j < (prs zs).length := (List.getElem?_eq_some_iff.1 hj).1
  have q := cell_of_list h j
  rw [List.getElem?_append_left hl, hj] at q
  rw [Nat.zero_add]
  exact q
set_option maxRecDepth 100000 in
set_option maxHeartbeats 1000000 in
theorem same_nil (a b : Option Addr) (c d : Nat) (w : World) : Calls Try.prog 21 #[.slice a 0 c, .slice b 0 d] w fun e w' => e = .returned (.bool true) ∧ Below w.heap.size w w' := by
  go_enter Try.func21, Try.ntmps21
  go_wp2_with fail
  go_loopw [5] (fun iv wr => iv = .int .i64 0 ∧ Hid (Below w.heap.size w wr)) (fun iv _ => 0)
  case atStart => exact ⟨rfl, Lib.hid (Below.refl _ _)⟩
  case round =>
    obtain ⟨rfl, HB⟩ := hrel
    go_wp2_with fail
    go_ret
    exact ⟨rfl, HB.out⟩
set_option maxRecDepth 100000 in
set_option maxHeartbeats 8000000 in
theorem Canons_true (a : Option Addr) (c : Nat) (zs : List Ur.Pr) (hlen : zs.length ≤ 1099511627776) (hsh : Short 35184372088832 zs) (hcan : (canon zs).length ≤ 140737488355328) (w : World) (hm0 : Mx w) (hI : 0 < zs.length → ∃ b off, a = some ⟨b, off, none⟩ ∧ b < w.heap.size ∧ w.rangeAt b off (prs zs)) :
    Calls Try.prog 8 #[.slice a zs.length c] w fun e w' => e = .returned (.bool true) ∧ Below w.heap.size w w' := by
  obtain ⟨i0, hinf, hz0, hz1, hz2⟩ := info_parts infoPair
  have hsz2 : (Try.prog.info? 32).map (·.size) = some 2 := by kernel_rfl
  have X := Lib.hid (fun v hm => examples_true v hm)
  have HM := Lib.hid hm0
  have hup : ∀ v, Below w.heap.size w v → 0 < zs.length → ∃ b off, a = some ⟨b, off, none⟩ ∧ b < v.heap.size ∧ v.rangeAt b off (prs zs) := fun v hv h0 => by
    obtain ⟨b, off, e, hb, hr⟩ := hI h0
    exact ⟨b, off, e, Nat.lt_of_lt_of_le hb hv.size, fun j u hj => (hv.cell (p := ⟨b, off + j, none⟩) hb).trans (hr j u hj)⟩
  have UP := Lib.hid hup
  have CA := Lib.hid (fun (sv : Value) (v : World) h => Canon_any sv zs hlen hsh hcan v h)
  have CV := Lib.hid (fun (v : World) (hv : Below w.heap.size w v) => vCanon_any a c zs hlen hsh hcan v (hup v hv))
  have sm : ∀ (v : World) (g : Nat), Below w.heap.size w v → PairsAt v.heap.size v (.slice (some ⟨g, 0, none⟩) zs.length (zs.length + 1)) zs → Calls Try.prog 21 #[.slice (some ⟨g, 0, none⟩) zs.length (zs.length + 1), .slice a zs.length c] v fun e w' => e = .returned (.bool true) ∧ Below v.heap.size v w' := fun v g hv hp => by
    by_cases h0 : 0 < zs.length
    · obtain ⟨b, off, rfl, hb, hr⟩ := hup v hv h0
      have q := same_any _ (.slice (some ⟨b, off, none⟩) zs.length c) zs zs hlen v hp (.inr ⟨b, off, c, rfl, hb, hr⟩)
      rwa [decide_eq_true rfl] at q
    · have e0 : zs.length = 0 := by omega
      rw [e0]
      exact same_nil _ _ _ _ v
  have SM := Lib.hid sm
  have HPL := Lib.hid (prs_len zs)
  obtain ⟨n, hn⟩ : ∃ n, n = zs.length := ⟨_, rfl⟩
  have HN := Lib.hid hn
  rw [← hn] at SM CV hlen ⊢
  clear hm0 hup sm hI hsh hcan hn
  generalize bs (canon zs) = y at *
  go_enter Try.func8, Try.ntmps8
  go_wp2_with (first | (go_at_call 10; refine (X.out _ HM.out).mono ?_; rintro e w1 ⟨rfl, hb1⟩; have HB1 := Lib.hid hb1; clear hb1) | (refine wpList_make_full rfl 22 _ _ rfl 32 i0 _ 32 Try.underlying22 hinf hz0 hz1 hz2 n rfl rfl (by omega) (by unfold maxLen; omega) ?_; intro w2 HL2 HB2; obtain ⟨L, hL⟩ := HL2.out; go_frame) | (refine wpList_copy_prs rfl _ _ 22 22 rfl 32 Try.underlying22 hsz2 w1.heap.size n (n + 1) c a rfl rfl L 32 hL.1 (prs zs) (by rw [HPL.out, ← HN.out, Nat.mul_comm]) (by rw [HPL.out, ← HN.out, hL.2]; omega) (fun h0 => by obtain ⟨b, off, e, hb, hr⟩ := UP.out w2 (bthen HB1.out HB2.out) (by rw [← HN.out]; exact h0); exact ⟨⟨b, off, none⟩, e, fun j u hj => by rw [Addr.add_mid]; exact hr j u hj⟩) (prs_ones zs) ?_; intro w3 HG3 HB3; obtain ⟨r0, r1, hr⟩ := two_left L (prs zs).length (by rw [hL.2, HPL.out, ← HN.out]; omega); rw [hr] at HG3; have K0 := mark_facts HG3.out (by rw [HPL.out, ← HN.out, Nat.mul_comm]); have k0 := K0.1; have k1 := K0.2.1; have z0 := K0.2.2.1; have z1 := K0.2.2.2.1; have HG4 := Lib.hid K0.2.2.2.2; have HBX := Lib.hid (bthen HB1.out HB2.out); have HB4 := Lib.hid (((HBX.out.trans (HB3.out.1.mono HB1.out.size)).setCell (p := ⟨w1.heap.size, n * 2, none⟩) HB1.out.size (.string ⟨#[109, 97, 114, 107]⟩)).setCell (p := ⟨w1.heap.size, n * 2 + 1, none⟩) HB1.out.size (.string ⟨#[]⟩)); clear hr K0; go_frame) | (go_at_call 13; (refine (CA.out _ _ (pairs_front HN.out HG4.out)).mono ?_; rintro e w5 ⟨rfl, hb5⟩; have HG5 := Lib.hid (kept_block HG4.out hb5); have HB5 := Lib.hid (bthen HB4.out hb5); clear hb5)) | (go_at_call 21; refine (SM.out _ _ HB5.out (pairs_front HN.out HG5.out)).mono ?_; rintro e w6 ⟨rfl, hb6⟩; have HG6 := Lib.hid (kept_block HG5.out hb6); have HB6 := Lib.hid (bthen HB5.out hb6); clear hb6) | (go_at_call 22; refine (CV.out _ HB6.out).mono ?_; rintro e w7 ⟨rfl, hb7⟩; have HG7 := Lib.hid (kept_block HG6.out hb7); have HB7 := Lib.hid (bthen HB6.out hb7); have D7 := mark_cells HG7.out (n := n) (by rw [HPL.out, ← HN.out, Nat.mul_comm]); have d0 := D7.1; have d1 := D7.2; have EQ := eq_pair; have GD := gd_pair; clear hb7 D7))
  go_ret
  exact ⟨by first | rfl | simp, HB7.out⟩
end Go.Proofs.Ytiodbkloecpdcaa
