/- The document's own telling of a query: sorted by insertion. -/
import Derived.Test.YtiodbkloecpdcaaULawO
import Derived.Test.YtiodbkloecpdcaaUOpen
import Derived.Test.YtiodbkloecpdcaaURef2
import Derived.Deep.CutRange
namespace Go.Proofs.Ytiodbkloecpdcaa
open Go.RowKit Go.Shelf Go.Sort

theorem bl_eq (a b : List UInt8) : Op.bytesLess a b = decide (Lib.compareBytes a b < 0) := by
  induction a generalizing b with
  | nil => cases b <;> simp [Op.bytesLess, Lib.compareBytes]
  | cons c r ih =>
    cases b with
    | nil => simp [Op.bytesLess, Lib.compareBytes]
    | cons d s =>
      rw [Op.bytesLess, cb_cons, ih]
      by_cases h1 : c.toNat < d.toNat
      · have : c < d := UInt8.lt_iff_toNat_lt.2 h1
        rw [if_pos h1]; simp [this]
      · have n1 : ¬ c < d := fun h => h1 (UInt8.lt_iff_toNat_lt.1 h)
        by_cases h2 : d.toNat < c.toNat
        · have n2 : c ≠ d := fun h => by rw [h] at h2; omega
          rw [if_neg h1, if_pos h2]; simp [n1, n2]
        · have e : c = d := UInt8.toNat_inj.1 (by omega)
          rw [if_neg h1, if_neg h2]; simp [e]
/-- How a pair stands ahead of another one. -/
theorem lt_yes (p q : Ur.Pr) (h : ltOf cfP p q = true) : Op.bytesLess (bs p.1).toList (bs q.1).toList = true ∨ (Op.bytesLess (bs p.1).toList (bs q.1).toList = false ∧ ((bs p.1).toList == (bs q.1).toList) = true ∧ Op.bytesLess (bs p.2).toList (bs q.2).toList = true) := by
  simp only [ByteArray.toList_eq, bs_list, bl_eq]
  replace h : cfP p q < 0 := of_decide_eq_true h
  unfold cfP or2 at h
  by_cases h1 : Lib.compareBytes p.1 q.1 = 0
  · rw [h1] at h ⊢
    have e := cb_zero _ _ h1
    right
    refine ⟨by decide, by rw [e]; simp, decide_eq_true (by simpa using h)⟩
  · rw [if_pos h1] at h
    exact .inl (decide_eq_true h)
theorem lt_no (p q : Ur.Pr) (h : ltOf cfP p q = false) : Op.bytesLess (bs p.1).toList (bs q.1).toList = false ∧ (((bs p.1).toList == (bs q.1).toList) = false ∨ (((bs p.1).toList == (bs q.1).toList) = true ∧ Op.bytesLess (bs p.2).toList (bs q.2).toList = false)) := by
  simp only [ByteArray.toList_eq, bs_list, bl_eq]
  replace h : ¬ cfP p q < 0 := of_decide_eq_false h
  unfold cfP or2 at h
  by_cases h1 : Lib.compareBytes p.1 q.1 = 0
  · rw [h1] at h ⊢
    have e := cb_zero _ _ h1
    refine ⟨by decide, .inr ⟨by rw [e]; simp, decide_eq_false (by simpa using h)⟩⟩
  · rw [if_pos h1] at h
    refine ⟨decide_eq_false h, .inl ?_⟩
    rw [beq_eq_false_iff_ne]
    intro e
    rw [e, cb_refl] at h1
    exact h1 rfl
/-- In order. -/
def Srtd (l : List Ur.Pr) : Prop := l.Pairwise fun x y => ltOf cfP y x = false
theorem srtd_in (A D : List Ur.Pr) (x : Ur.Pr) (h : Srtd (A ++ D)) (hD : ∀ y ∈ D, ltOf cfP x y = true) (hA : ∀ B y, A = B ++ [y] → ltOf cfP x y = false) : Srtd (A ++ x :: D) := by
  unfold Srtd at *
  rw [List.pairwise_append] at h ⊢
  obtain ⟨h1, h2, h3⟩ := h
  refine ⟨h1, List.pairwise_cons.2 ⟨fun y hy => ?_, h2⟩, fun a ha b hb => ?_⟩
  · have := hD y hy
    cases h : ltOf cfP y x with
    | false => rfl
    | true => have := swoP.trans x y x this h; rw [swoP.irrefl] at this; cases this
  · rcases List.mem_cons.1 hb with rfl | hb
    · rcases List.eq_nil_or_concat A with rfl | ⟨B, y, hB⟩
      · cases ha
      · have hxy := hA B y (by rw [hB, List.concat_eq_append])
        rw [hB, List.concat_eq_append] at ha h1
        rcases List.mem_append.1 ha with ha | ha
        · have := (List.pairwise_append.1 h1).2.2 a ha y (by simp)
          exact swoP.ntrans _ _ _ hxy this
        · simp only [List.mem_singleton] at ha
          rw [ha]; exact hxy
    · exact h3 a ha b hb
theorem swap_in (A D : List Ur.Pr) (x y : Ur.Pr) : ((A ++ [y] ++ x :: D).set (A.length + 1) y).set A.length x = A ++ x :: y :: D := by
  simp
theorem perm_in (A D : List Ur.Pr) (x : Ur.Pr) : (A ++ x :: D).Perm (A ++ D ++ [x]) := by
  refine List.perm_middle.trans ?_
  exact (List.perm_append_comm (l₁ := [x]) (l₂ := A ++ D))
theorem at_in (A D : List Ur.Pr) (x y : Ur.Pr) : (A ++ [y] ++ x :: D).getD (A.length + 1) ([], []) = x ∧ (A ++ [y] ++ x :: D).getD A.length ([], []) = y := by
  simp [List.getD]
theorem join_exact (L : List (List UInt8)) (h : L ≠ []) : (Lib.join L [38]).length + 1 = sizes L := by
  cases L with
  | nil => exact absurd rfl h
  | cons a r =>
    rw [Lib.join_cons, List.length_append, tail_len r]
    simp only [sizes, List.map_cons, List.sum_cons]
    omega
theorem sizes_append (a b : List (List UInt8)) : sizes (a ++ b) = sizes a + sizes b := by simp [sizes]
theorem join_part (L : List (List UInt8)) (j : Nat) : (Lib.join (L.take j) [38]).length ≤ (Lib.join L [38]).length := by
  by_cases h0 : L.take j = []
  · rw [h0]; simp [Lib.join_nil]
  · have hL : L ≠ [] := fun e => h0 (by rw [e]; simp)
    have a := join_exact _ h0
    have b := join_exact _ hL
    have c := sizes_append (L.take j) (L.drop j)
    rw [List.take_append_drop] at c
    omega
theorem join_step (L : List (List UInt8)) (t : List UInt8) : Lib.join (L ++ [t]) [38] = if L = [] then t else Lib.join L [38] ++ [38] ++ t := by
  cases L with
  | nil => rw [if_pos rfl, List.nil_append, Lib.join_one]
  | cons a r =>
    rw [if_neg (by simp), List.cons_append, Lib.join_cons, Lib.join_cons]
    simp [Lib.joinTail]
/-- What is kept while a pair is put in escapes. -/
structure Stt (B : Nat) (wr : World) (b k : Nat) (x2 : ByteArray) (v : World) : Prop where
  old : Below B wr v
  cell : v.cell? ⟨b, k, none⟩ = some (.string x2)
  lt : b < v.heap.size
theorem Stt.drew {B : Nat} {wr : World} {b k : Nat} {x2 : ByteArray} {v : World} (h : Stt B wr b k x2 v) : Stt B wr b k x2 v.drew := ⟨h.old.drew, h.cell, h.lt⟩
theorem Stt.alloc {B : Nat} {wr : World} {b k : Nat} {x2 : ByteArray} {v : World} (h : Stt B wr b k x2 v) (hB : B ≤ v.heap.size) (o : Obj) : Stt B wr b k x2 (v.alloc o) := by
  have hb := (Below.refl v.heap.size v).alloc (Nat.le_refl _) o
  exact ⟨h.old.alloc hB o, (hb.cell (p := ⟨b, k, none⟩) h.lt).trans h.cell, Nat.lt_of_lt_of_le h.lt hb.size⟩
theorem Stt.call {B : Nat} {wr : World} {b k : Nat} {x2 : ByteArray} {v v' : World} (h : Stt B wr b k x2 v) (hB : B ≤ v.heap.size) (hb : Below v.heap.size v v') : Stt B wr b k x2 v' ∧ B ≤ v'.heap.size :=
  ⟨⟨h.old.trans (hb.mono hB), (hb.cell (p := ⟨b, k, none⟩) h.lt).trans h.cell, Nat.lt_of_lt_of_le h.lt hb.size⟩, Nat.le_trans hB hb.size⟩
set_option maxRecDepth 100000 in
set_option maxHeartbeats 8000000 in
theorem vCanon_any (a : Option Addr) (c : Nat) (zs : List Ur.Pr) (hlen : zs.length ≤ 1099511627776) (hsh : Short 35184372088832 zs) (hcan : (canon zs).length ≤ 140737488355328) (w : World) (hI : 0 < zs.length → ∃ b off, a = some ⟨b, off, none⟩ ∧ b < w.heap.size ∧ w.rangeAt b off (prs zs)) :
    Calls Try.prog 22 #[.slice a zs.length c] w fun e W' => e = .returned (.string (bs (canon zs))) ∧ Below w.heap.size w W' := by
  obtain ⟨i0, hinf, hz0, hz1, hz2⟩ := info_parts infoPair
  have HI := Lib.hid hI
  have HSH := Lib.hid hsh
  obtain ⟨n, hn⟩ : ∃ n, n = zs.length := ⟨_, rfl⟩
  have HN := Lib.hid hn
  rw [← hn] at hlen ⊢
  clear hI hsh hn
  go_enter Try.func22, Try.ntmps22
  go_wp2_with fail
  go_loopw [3, 4] (fun v iv wr => ∃ i : Nat, i ≤ n ∧ iv = .int .i64 i ∧ Hid (∃ Q : List Ur.Pr, Q.Perm ((zs.take i).map ep) ∧ Srtd Q ∧ wr.ownsRow w.heap.size 32 2 v i (prs Q)) ∧ Hid (Below w.heap.size w wr)) (fun _ iv _ => n - (intOf iv).toNat)
  case atStart => exact ⟨0, by omega, rfl, Lib.hid ⟨[], by simp, List.Pairwise.nil, by simpa [prs] using World.ownsRow_nil _ _ _ _⟩, Lib.hid (Below.refl _ _)⟩
  case round =>
    obtain ⟨i, hi, rfl, HQ, HB⟩ := hrel
    obtain ⟨Q, hQ, hS, hO⟩ := HQ.out
    by_cases hlt : i < n
    · have hlz : i < zs.length := by rw [← HN.out]; exact hlt
      obtain ⟨b, off, rfl, hbw, hr⟩ := HI.out (by omega)
      have hcc := PairsAt.cells hr hlz
      have hc0 := (HB.out.cell (p := ⟨b, off + i * 2, none⟩) hbw).trans hcc.1
      have hc1 := (HB.out.cell (p := ⟨b, off + i * 2 + 1, none⟩) hbw).trans hcc.2
      have hst := HSH.out.at_ i hlz
      have htk := ep_take zs i hlz
      have E1 := Lib.hid (fun v : World => vEncode_any (zs.getD i ([], [])).1 hst.1 true v)
      have E2 := Lib.hid (fun v : World => vEncode_any (zs.getD i ([], [])).2 hst.2 true v)
      simp only [if_true] at E1 E2
      have hsr := HB.out.size
      generalize (zs.getD i ([], [])) = p at *
      obtain ⟨y1, hy1⟩ : ∃ y, y = bs (Ur.enc Ur.fre p.1) := ⟨_, rfl⟩
      obtain ⟨y2, hy2⟩ : ∃ y, y = bs (Ur.enc Ur.fre p.2) := ⟨_, rfl⟩
      obtain ⟨x, hx⟩ : ∃ x, x = ep p := ⟨_, rfl⟩
      have hpx : prs [x] = [Value.string (bs x.1), .string (bs x.2)] := prs_one _ _
      have hx1 : bs x.1 = y1 := by rw [hx, hy1]; rfl
      have hx2 : bs x.2 = y2 := by rw [hx, hy2]; rfl
      rw [hx1, hx2] at hpx
      rw [← hy1] at E1
      rw [← hy2] at E2
      rw [← hx] at htk
      generalize bs p.1 = x1 at *
      generalize bs p.2 = x2 at *
      have HPX := Lib.hid hpx
      have HX1 := Lib.hid hx1
      have HX2 := Lib.hid hx2
      have HTK := Lib.hid htk
      have HO := Lib.hid hO
      have HS := Lib.hid hS
      have HQP := Lib.hid hQ
      have hbr : b < wr.heap.size := Nat.lt_of_lt_of_le hbw hsr
      have ST := Lib.hid (Stt.drew (⟨Below.refl wr.heap.size wr, hc1, hbr⟩ : Stt wr.heap.size wr b (off + i * 2 + 1) x2 wr))
      have e0 := fun o => (Stt.alloc (Stt.drew (⟨Below.refl wr.heap.size wr, hc0, hbr⟩ : Stt wr.heap.size wr b (off + i * 2) x1 wr)) (Nat.le_refl _) o).cell
      have e1 := fun o => (Stt.alloc (Stt.drew (⟨Below.refl wr.heap.size wr, hc1, hbr⟩ : Stt wr.heap.size wr b (off + i * 2 + 1) x2 wr)) (Nat.le_refl _) o).cell
      have HA0 := Lib.hid (show ∀ o, (wr.drew.alloc o).heap[wr.heap.size]? = some o from fun o => heap_alloc_new wr.drew o)
      clear hr hcc hst htk hpx hy1 hy2 hx hx1 hx2 hO hS hQ HQ
      go_upto_region 5 with fail
      go_cut [5] from 9 to 93 (fun s5 wx => ∃ xb : Nat, s5 = .pointer (some ⟨xb, 0, none⟩) ∧ wr.heap.size ≤ xb ∧ Hid (wx.heap[xb]? = some (.cells [Value.string y1, .string y2].toArray 32 (0, 0))) ∧ Hid (Below wr.heap.size wr wx))
      case first =>
        go_region_law (first
          | (go_simp; go_at_call 19; first
            | ((with_reducible refine (E1.out _).mono ?_); rintro e w5 ⟨rfl, hb5⟩; (first | (have T5 := Stt.call ST.out (Nat.le_refl _) hb5) | (have T5 := Stt.call (ST.out.alloc (Nat.le_refl _) _) (by simp) hb5)); have S5 := Lib.hid T5.1; have L5 := T5.2; have d5 := T5.1.cell; have d5a := fun o => (T5.1.alloc T5.2 o).cell; (try have GZ5 := Lib.hid (kept_block (HA0.out _) hb5)); clear hb5 T5)
            | ((with_reducible refine (E2.out _).mono ?_); rintro e w6 ⟨rfl, hb6⟩; (first | (have T6 := Stt.call S5.out L5 hb6) | (have T6 := Stt.call (S5.out.alloc L5 _) (by simp; omega) hb6)); have S6 := Lib.hid T6.1; have L6 := T6.2; (try have GZ6 := Lib.hid (kept_block (heap_alloc_new w5 _) hb6)); (try have GZ6 := Lib.hid (kept_block GZ5.out hb6)); (try have c0 := cell_of_list GZ6.out 0); (try have c1 := cell_of_list GZ6.out 1); (try have z0 := not_frozen GZ6.out 0); (try have z1 := not_frozen GZ6.out 1); (try simp only [List.getElem?_cons_zero, List.getElem?_cons_succ] at c0 c1); clear hb6 T6)))
        all_goals
          go_wp2_with fail
          go_meet
          first
            | exact ⟨_, rfl, L6, Lib.hid (heap_alloc_new w6 _), Lib.hid (S6.out.old.alloc L6 _)⟩
            | exact ⟨_, rfl, by first | exact Nat.le_refl _ | exact L5, Lib.hid (set_list (set_list GZ6.out 0 _) 1 _), Lib.hid ((S6.out.old.setCell (by first | exact Nat.le_refl _ | exact L5) _).setCell (by first | exact Nat.le_refl _ | exact L5) _)⟩
      case rest =>
        obtain ⟨xb, rfl, hxb, HX, HBx⟩ := hcut
        have c0 := cell_of_list HX.out 0
        have c1 := cell_of_list HX.out 1
        simp only [List.getElem?_cons_zero, List.getElem?_cons_succ] at c0 c1
        have HOC := Lib.hid (own_below HO.out HBx.out)
        have HBC := Lib.hid (bthen HB.out HBx.out)
        have hlx := lt_of_heap HX.out
        have hgl : ∀ gk, Value.ownBlock u3 = some gk → gk < wr.heap.size := fun gk h => (HO.out.lt gk h).2
        clear ST HA0 e0 e1 hc0 hc1 E1 E2
        go_wp2_with (refine wpList_append_where rfl _ _ 22 rfl w.heap.size 32 i0 (.agg #[.string ⟨#[]⟩, .string ⟨#[]⟩]) 2 32 Try.underlying22 hinf hz0 hz1 hz2 rfl (by decide) _ i _ rfl (HOC.out.alloc _) ⟨wc.heap.size, 0, none⟩ 1 1 [.string y1, .string y2] rfl (by omega) rfl (news_row (heap_alloc_new wc _)) (one_str _ _) (by unfold maxLen; omega) (by omega) (by have := HBC.out.size; simp; omega) ?_; intro g7 cap7 w7 H7 G7 K7; go_frame)
        have HX7 := Lib.hid ((G7.out.block xb (by simp; omega) (fun e => by have := hgl xb e.symm; omega)).trans ((heap_alloc_old _ _ xb hlx).trans HX.out))
        have HB7 := Lib.hid ((HBC.out.alloc HBC.out.size (.cells #[.string y1, .string y2] 32)).grown G7.out (by have := HBC.out.size; simp; omega) (fun k hk => (HOC.out.lt k hk).1))
        have hgx : g7 ≠ xb := by
          rcases K7.out with h | h
          · have := hgl g7 h; omega
          · simp at h; omega
        have HQL : Q.length = i := by rw [HQP.out.length_eq, List.length_map, List.length_take]; omega
        have HST0 := Lib.hid (show w7.ownsRow w.heap.size 32 2 (.slice (some ⟨g7, 0, none⟩) (i + 1) cap7) (i + 1) (prs (Q ++ x :: [])) by rw [prs_append, HPX.out]; exact H7.out)
        clear H7 G7 K7 c0 c1 HOC HBC HO hgl hlx HX HBx
        go_loopw [6] (fun kv wx => ∃ (k : Nat) (A D : List Ur.Pr), kv = .int .i64 k ∧ k ≤ i ∧ Hid (A.length = k) ∧ Hid (Q = A ++ D) ∧ Hid (∀ y ∈ D, ltOf cfP x y = true) ∧ Hid (wx.ownsRow w.heap.size 32 2 (.slice (some ⟨g7, 0, none⟩) (i + 1) cap7) (i + 1) (prs (A ++ x :: D))) ∧ Hid (wx.heap[xb]? = some (.cells [Value.string y1, .string y2].toArray 32 (0, 0))) ∧ Hid (Below w.heap.size w wx)) (fun kv _ => (intOf kv).toNat)
        case atStart => exact ⟨i, Q, [], by go_num, Nat.le_refl _, Lib.hid HQL, Lib.hid (by simp), Lib.hid (by simp), HST0, HX7, HB7⟩
        case round =>
          clear HST0 HX7 HB7
          obtain ⟨k, A, D, rfl, hki, HA, HQA, HD, HO, HX, HB7⟩ := hrel
          rcases List.eq_nil_or_concat A with rfl | ⟨B, y, hBy⟩
          · have hk0 : k = 0 := by rw [← HA.out]; rfl
            have dk : decide (0 < (k : Int)) = false := decide_eq_false (by omega)
            go_upto_region 8 with fail
            go_quiet (fail)
            go_wp2_with fail
            go_roundw
            case rel =>
              exact ⟨i + 1, by omega, by go_num, Lib.hid ⟨[] ++ x :: D, by rw [HTK.out]; exact (perm_in [] D x).trans (by rw [← HQA.out]; exact HQP.out.append_right [x]), srtd_in [] D x (by rw [← HQA.out]; exact HS.out) HD.out (fun B y e => by simp at e), HO.out⟩, Lib.hid (below_drewN HB7.out _)⟩
            case measure => simp [intOf]; omega
          · rw [List.concat_eq_append] at hBy
            subst hBy
            obtain ⟨k', hk'⟩ : ∃ k', k' = B.length := ⟨_, rfl⟩
            have hkk : k = k' + 1 := by rw [← HA.out, List.length_append, hk']; rfl
            have hk1 : (k : Int) - 1 = (k' : Int) := by omega
            have dk : decide (0 < k) = true := decide_eq_true (by omega)
            have hin := at_in B D x y
            rw [← hk', ← hkk] at hin
            have hml : (B ++ [y] ++ x :: D).length = i + 1 := by
              have h := HQL
              rw [HQA.out] at h
              simp at h ⊢
              omega
            have pk := prs_at (B ++ [y] ++ x :: D) k (by rw [hml]; omega)
            have pj := prs_at (B ++ [y] ++ x :: D) k' (by rw [hml]; omega)
            rw [hin.1, Nat.mul_comm 2 k, HX1.out, HX2.out] at pk
            rw [hin.2, Nat.mul_comm 2 k'] at pj
            have ck0 := own_cell HO.out (k * 2) pk.1
            have ck1 := own_cell HO.out (k * 2 + 1) pk.2
            have cj0 := own_cell HO.out (k' * 2) pj.1
            have cj1 := own_cell HO.out (k' * 2 + 1) pj.2
            have cx0 := cell_of_list HX.out 0
            have cx1 := cell_of_list HX.out 1
            simp only [List.getElem?_cons_zero, List.getElem?_cons_succ] at cx0 cx1
            obtain ⟨Lx, hgh⟩ := own_block HO.out
            have z0 := not_frozen hgh (k * 2)
            have z1 := not_frozen hgh (k * 2 + 1)
            have z2 := not_frozen hgh (k' * 2)
            have z3 := not_frozen hgh (k' * 2 + 1)
            have hY := lt_yes x y
            have hN := lt_no x y
            rw [HX1.out, HX2.out] at hY hN
            have HZ1 := Lib.hid (show bs y.1 = bs y.1 from rfl)
            have HK' := Lib.hid hk'
            have HML := Lib.hid hml
            obtain ⟨v1, hv1⟩ : ∃ v, v = bs y.1 := ⟨_, rfl⟩
            obtain ⟨v2, hv2⟩ : ∃ v, v = bs y.2 := ⟨_, rfl⟩
            rw [← hv1, ← hv2] at hY hN
            rw [← hv1] at cj0
            rw [← hv2] at cj1
            have HV1 := Lib.hid hv1
            have HV2 := Lib.hid hv2
            have hkl : k < i + 1 := by omega
            have hkl' : k' < i + 1 := by omega
            have hkI : (k : Int) < (i : Int) + 1 := by omega
            have hkI' : (k' : Int) < (i : Int) + 1 := by omega
            have hkz : (0 : Int) ≤ (k : Int) := by omega
            have hkz' : (0 : Int) ≤ (k' : Int) := by omega
            have hkle' : k' ≤ i := by omega
            have HKK := Lib.hid hkk
            have hkn : k' < k := by omega
            clear hin hml pk pj hgh hk' hv1 hv2 HZ1 hkk
            cases hlt3 : ltOf cfP x y with
            | false =>
              obtain ⟨l1, l2⟩ := hN hlt3
              have HL3 := Lib.hid hlt3
              clear hY hN hlt3
              rcases l2 with l2 | ⟨l2, l3⟩
              all_goals
                go_upto_region 8 with fail
                go_quiet (fail)
                go_wp2_with fail
                go_roundw
                case rel =>
                      exact ⟨i + 1, by omega, by go_num, Lib.hid ⟨B ++ [y] ++ x :: D, by rw [HTK.out]; exact (perm_in (B ++ [y]) D x).trans (by rw [← HQA.out]; exact HQP.out.append_right [x]), srtd_in (B ++ [y]) D x (by rw [← HQA.out]; exact HS.out) HD.out (fun B' y' e => by have := (List.append_inj' e rfl).2; simp only [List.cons.injEq, and_true] at this; rw [← this]; exact HL3.out), HO.out⟩, Lib.hid (below_drewN HB7.out _)⟩
                case measure => simp [intOf]; omega
            | true =>
              have l0 := hY hlt3
              have HL3 := Lib.hid hlt3
              clear hY hN hlt3
              rcases l0 with l1 | ⟨l1, l2, l3⟩
              all_goals
                go_upto_region 8 with fail
                go_quiet (fail)
                go_wp2_with fail
                have hgB : w.heap.size ≤ g7 := (HO.out.lt g7 rfl).1
                have hxg : xb ≠ g7 := fun e => hgx e.symm
                have hp2 : (prs (B ++ [y] ++ x :: D)).length = (i + 1) * 2 := by rw [prs_len, HML.out, Nat.mul_comm]
                have o0 : (wr.drewN nq).ownsRow w.heap.size 32 2 (.slice (some ⟨g7, 0, none⟩) (i + 1) cap7) (i + 1) (prs (B ++ [y] ++ x :: D)) := HO.out
                have o1 := own_setCell o0 (k * 2) (by rw [hp2]; omega) (.string v1)
                have o2 := own_setCell o1 (k * 2 + 1) (by rw [List.length_set, hp2]; omega) (.string v2)
                have o3 := own_setCell o2 (k' * 2) (by rw [List.length_set, List.length_set, hp2]; omega) (.string y1)
                have o4 := own_setCell o3 (k' * 2 + 1) (by rw [List.length_set, List.length_set, List.length_set, hp2]; omega) (.string y2)
                refine ⟨⟨k', B, y :: D, rfl, by omega, Lib.hid HK'.out.symm, Lib.hid (by rw [HQA.out]; simp), Lib.hid (fun z hz => by rcases List.mem_cons.1 hz with rfl | hz; exact HL3.out; exact HD.out z hz), Lib.hid ?_, Lib.hid ?_, Lib.hid ?_⟩, by simp [intOf]; omega⟩
                · rw [show B ++ x :: y :: D = ((B ++ [y] ++ x :: D).set k y).set k' x by rw [HKK.out, HK'.out]; exact (swap_in B D x y).symm, prs_set, prs_set, HX1.out, HX2.out, ← HV1.out, ← HV2.out]
                  exact o4
                · exact (Below.heap_setCell _ _ _ xb hxg).trans ((Below.heap_setCell _ _ _ xb hxg).trans ((Below.heap_setCell _ _ _ xb hxg).trans ((Below.heap_setCell _ _ _ xb hxg).trans HX.out)))
                · exact ((((below_drewN HB7.out nq).setCell (p := ⟨g7, k * 2, none⟩) hgB _).setCell (p := ⟨g7, k * 2 + 1, none⟩) hgB _).setCell (p := ⟨g7, k' * 2, none⟩) hgB _).setCell (p := ⟨g7, k' * 2 + 1, none⟩) hgB _
    · obtain rfl : i = n := by omega
      have hQs : Q = srt (zs.map ep) := srt_of_sorted (by rw [HN.out, List.take_length] at hQ; exact hQ) hS
      have hcan2 : (Lib.join (Q.map txt) [38]).length ≤ 140737488355328 := by rw [hQs]; exact hcan
      have hQl : Q.length = i := by rw [hQs, (srt_perm _).length_eq, List.length_map, HN.out]
      obtain ⟨av, cv, hv⟩ : ∃ a c, u3 = .slice a i c := by
        rcases hO.2 with ⟨h1, h2⟩ | ⟨g, cap, _, h1, _⟩
        · exact ⟨none, 0, by rw [h1, h2]⟩
        · exact ⟨_, _, h1⟩
      subst hv
      have HQS := Lib.hid hQs
      have HQL := Lib.hid hQl
      have HO := Lib.hid hO
      have HC2 := Lib.hid hcan2
      clear hQs hcan2 hcan hQl hO hS hQ HQ
      go_wp2_with fail
      go_loopw [7, 8] (fun sv jv wx => ∃ j : Nat, j ≤ i ∧ jv = .int .i64 j ∧ sv = .string (bs (Lib.join ((Q.take j).map txt) [38])) ∧ Hid (wx.ownsRow w.heap.size 32 2 (.slice av i cv) i (prs Q)) ∧ Hid (Below w.heap.size w wx)) (fun _ jv _ => i - (intOf jv).toNat)
      case atStart => exact ⟨0, by omega, rfl, by rw [List.take_zero, List.map_nil, Lib.join_nil, ← bs_nil], HO, HB⟩
      case round =>
        clear HO HB
        obtain ⟨j, hj, rfl, rfl, HO, HB⟩ := hrel
        by_cases hjl : j < i
        · obtain ⟨g, cap, hg⟩ := own_some HO.out (by omega)
          cases hg
          have hjQ : j < Q.length := by rw [HQL.out]; exact hjl
          have pj := prs_at Q j hjQ
          rw [Nat.mul_comm 2 j] at pj
          have cj0 := own_cell HO.out (j * 2) pj.1
          have cj1 := own_cell HO.out (j * 2 + 1) pj.2
          have htk := take_txt Q j hjQ
          have hsz := join_part (Q.map txt) (j + 1)
          rw [← List.map_take, htk] at hsz
          have hlim := Nat.le_trans hsz HC2.out
          have hjs := join_step ((Q.take j).map txt) (txt (Q.getD j ([], [])))
          rw [← htk] at hjs hlim
          have hemp : ((Q.take j).map txt = []) ↔ j = 0 := by
            rw [List.map_eq_nil_iff, List.take_eq_nil_iff]
            constructor
            · rintro (h | h)
              · exact h
              · rw [h] at hjQ; simp at hjQ
            · exact .inl
          have hT0 : j = 0 → Lib.join ((Q.take j).map txt) [38] = [] := fun h => by rw [hemp.2 h]; rfl
          generalize Q.getD j ([], []) = p at *
          generalize Lib.join ((Q.take j).map txt) [38] = T at *
          obtain ⟨x1, ex1⟩ : ∃ x, x = bs p.1 := ⟨_, rfl⟩
          obtain ⟨x2, ex2⟩ : ∃ x, x = bs p.2 := ⟨_, rfl⟩
          rw [← ex1] at cj0
          rw [← ex2] at cj1
          obtain ⟨z0, ez0⟩ : ∃ x, x = bs T := ⟨_, rfl⟩
          rw [← ez0]
          clear pj htk hsz hjQ
          by_cases hj0 : j = 0
          · rw [if_pos (hemp.2 hj0)] at hjs
            have hT := hT0 hj0
            rw [hjs] at hlim
            unfold txt at hlim
            simp only [List.length_append, List.length_cons, List.length_nil] at hlim
            have hTl : T.length = 0 := by rw [hT]; rfl
            obtain ⟨z1, ez1⟩ : ∃ x, x = bs (T ++ p.1) := ⟨_, rfl⟩
            obtain ⟨z2, ez2⟩ : ∃ x, x = bs (T ++ p.1 ++ [61]) := ⟨_, rfl⟩
            obtain ⟨z3, ez3⟩ : ∃ x, x = bs (T ++ p.1 ++ [61] ++ p.2) := ⟨_, rfl⟩
            have a1 : ∀ v : World, (Op.stringOp .add z0 x1).run Try.prog v = .ok (.string z1) v := fun v => by rw [ez0, ex1, ez1]; exact add_any _ _ (by first | omega | (simp; omega)) v
            have a2 : ∀ v : World, (Op.stringOp .add z1 ⟨#[61]⟩).run Try.prog v = .ok (.string z2) v := fun v => by rw [ez1, ez2, show (⟨#[61]⟩ : ByteArray) = bs [61] by rw [← bs_eq]]; exact add_any _ _ (by first | omega | (simp; omega)) v
            have a3 : ∀ v : World, (Op.stringOp .add z2 x2).run Try.prog v = .ok (.string z3) v := fun v => by rw [ez2, ex2, ez3]; exact add_any _ _ (by first | omega | (simp; omega)) v
            have HZ3 := Lib.hid (show z3 = bs (Lib.join ((Q.take (j + 1)).map txt) [38]) by rw [ez3, hjs, hT]; rfl)
            have dk : decide (0 < j) = false := by simp; omega
            clear ex1 ex2 ez1 ez2 ez3 hjs hlim hT hTl hT0 ez0 hemp hj0
            go_wp2_with fail
            go_quiet (fail)
            go_wp2_with fail
            go_roundw
            case rel => exact ⟨j + 1, by omega, by go_num, by rw [HZ3.out], Lib.hid HO.out, Lib.hid (below_drewN HB.out _)⟩
            case measure => simp [intOf]; omega
          · rw [if_neg (fun h => hj0 (hemp.1 h))] at hjs
            rw [hjs] at hlim
            unfold txt at hlim
            simp only [List.length_append, List.length_cons, List.length_nil] at hlim
            obtain ⟨zz, ezz⟩ : ∃ x, x = bs (T ++ [38]) := ⟨_, rfl⟩
            have a0 : ∀ v : World, (Op.stringOp .add z0 ⟨#[38]⟩).run Try.prog v = .ok (.string zz) v := fun v => by rw [ez0, ezz, show (⟨#[38]⟩ : ByteArray) = bs [38] by rw [← bs_eq]]; exact add_any _ _ (by first | omega | (simp; omega)) v
            obtain ⟨z1, ez1⟩ : ∃ x, x = bs (T ++ [38] ++ p.1) := ⟨_, rfl⟩
            obtain ⟨z2, ez2⟩ : ∃ x, x = bs (T ++ [38] ++ p.1 ++ [61]) := ⟨_, rfl⟩
            obtain ⟨z3, ez3⟩ : ∃ x, x = bs (T ++ [38] ++ p.1 ++ [61] ++ p.2) := ⟨_, rfl⟩
            have a1 : ∀ v : World, (Op.stringOp .add zz x1).run Try.prog v = .ok (.string z1) v := fun v => by rw [ezz, ex1, ez1]; exact add_any _ _ (by first | omega | (simp; omega)) v
            have a2 : ∀ v : World, (Op.stringOp .add z1 ⟨#[61]⟩).run Try.prog v = .ok (.string z2) v := fun v => by rw [ez1, ez2, show (⟨#[61]⟩ : ByteArray) = bs [61] by rw [← bs_eq]]; exact add_any _ _ (by first | omega | (simp; omega)) v
            have a3 : ∀ v : World, (Op.stringOp .add z2 x2).run Try.prog v = .ok (.string z3) v := fun v => by rw [ez2, ex2, ez3]; exact add_any _ _ (by first | omega | (simp; omega)) v
            have HZ3 := Lib.hid (show z3 = bs (Lib.join ((Q.take (j + 1)).map txt) [38]) by rw [ez3, hjs]; unfold txt; simp)
            have dk : decide (0 < j) = true := by simp; omega
            clear ex1 ex2 ez1 ez2 ez3 hjs hlim hT0 ez0 ezz hemp
            go_wp2_with fail
            go_quiet (fail)
            go_wp2_with fail
            go_roundw
            case rel => exact ⟨j + 1, by omega, by go_num, by rw [HZ3.out], Lib.hid HO.out, Lib.hid (below_drewN HB.out _)⟩
            case measure => simp [intOf]; omega
        · obtain rfl : j = i := by omega
          go_wp2_with fail
          go_ret
          refine ⟨?_, HB.out⟩
          have e : Q.take j = Q := by rw [← HQL.out, List.take_length]
          show _ = _
          unfold canon
          rw [← HQS.out, e]
          rfl
end Go.Proofs.Ytiodbkloecpdcaa
