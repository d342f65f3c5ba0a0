/- The walk of the document's own MD5. -/
import Derived.Test.YtjalmmhbjilabaaRSumL
import Derived.Test.YtjalmmhbjilabaaRLast
namespace Go.Proofs.Ytjalmmhbjilabaa
open Go.RowKit

/-- What stands while a text is summed: the table, the turns, the four words, the padded text. -/
structure SumF (w : World) (b g N cap : Nat) (P : List UInt8) (H : List UInt32) (wr : World) : Prop where
  tab : wr.heap[b]? = some (.cells (Dig.k5.map u32v).toArray 67 (0, 0))
  turns : wr.heap[b + 1]? = some (.cells (Dig.turns5.map intv).toArray 3 (0, 0))
  four : wr.heap[b + 1 + 1]? = some (.cells (H.map u32v).toArray 44 (0, 0))
  row : RowS wr (b + 1 + 1 + 1) g N cap (P.map u8v)
  low : w.heap.size ≤ b
  old : Below w.heap.size w wr
theorem SumF.below {w : World} {b g N cap : Nat} {P : List UInt8} {H : List UInt32} {wr wi : World} (h : SumF w b g N cap P H wr) (hb : Below wr.heap.size wr wi) : SumF w b g N cap P H wi :=
  ⟨(hb.block _ (lt_of_heap h.tab)).trans h.tab, (hb.block _ (lt_of_heap h.turns)).trans h.turns, (hb.block _ (lt_of_heap h.four)).trans h.four, h.row.block (Nat.lt_of_lt_of_le h.row.lt hb.size) (hb.block _ h.row.lt), h.low, h.old.trans (hb.mono h.old.size)⟩
theorem SumF.byte {w : World} {b g N cap : Nat} {P : List UInt8} {H : List UInt32} {wr : World} (h : SumF w b g N cap P H wr) (q : Nat) (hq : q < P.length) : wr.cell? ⟨g, q, none⟩ = some (.int .u8 (P.getD q 0).toNat) := by
  refine h.row.told q _ ?_
  rw [List.getElem?_map, List.getD, List.getElem?_eq_getElem hq]; rfl
theorem alloc4u (w : World) : (Instr.alloc 44 true (.tuple #[])).run Try.prog w = .ok (.pointer (some ⟨w.heap.size, 0, none⟩)) (w.alloc (.cells (zeros 4).toArray 44)) := by kernel_rfl
theorem le_fold (a b c d : UInt8) : bits .or .u32 (bits .or .u32 (bits .or .u32 ((a.toNat : Int) % 4294967296) ((b.toNat : Int) % 4294967296 * 256 % 4294967296)) ((c.toNat : Int) % 4294967296 * 65536 % 4294967296)) ((d.toNat : Int) % 4294967296 * 16777216 % 4294967296) = ((Dig.le4 a b c d).toNat : Int) := by
  have ha := a.toNat_lt
  have hb := b.toNat_lt
  have hc := c.toNat_lt
  have hd := d.toNat_lt
  rw [show (d.toNat : Int) % 4294967296 * 16777216 % 4294967296 = ((UInt32.ofNat (d.toNat * 2 ^ 24)).toNat : Int) from by rw [← fold_ofNat]; omega,
    show (c.toNat : Int) % 4294967296 * 65536 % 4294967296 = ((UInt32.ofNat (c.toNat * 2 ^ 16)).toNat : Int) from by rw [← fold_ofNat]; omega,
    show (b.toNat : Int) % 4294967296 * 256 % 4294967296 = ((UInt32.ofNat (b.toNat * 2 ^ 8)).toNat : Int) from by rw [← fold_ofNat]; omega,
    show (a.toNat : Int) % 4294967296 = ((UInt32.ofNat a.toNat).toNat : Int) from by rw [← fold_ofNat], fold_or, fold_or, fold_or, Dig.le4_eq]
theorem four_of_list {S : List UInt32} (h : S.length = 4) : (Dig.Four.of S).list = S := by
  match S, h with
  | [_, _, _, _], _ => rfl
theorem four_cells {w : World} {g : Nat} {r : Dig.Four} {T : TypeId} (h : w.heap[g]? = some (.cells (r.list.map u32v).toArray T (0, 0))) :
    w.cell? ⟨g, 0, none⟩ = some (.int .u32 r.a.toNat) ∧ w.cell? ⟨g, 1, none⟩ = some (.int .u32 r.b.toNat) ∧ w.cell? ⟨g, 2, none⟩ = some (.int .u32 r.c.toNat) ∧ w.cell? ⟨g, 3, none⟩ = some (.int .u32 r.d.toNat) :=
  ⟨by rw [cell_of_list h]; rfl, by rw [cell_of_list h]; rfl, by rw [cell_of_list h]; rfl, by rw [cell_of_list h]; rfl⟩
theorem rleft_q (x : UInt32) (n : Nat) (h0 : 1 ≤ n) (h1 : n ≤ 31) (w : World) :
    Calls Try.prog 44 #[.int .u32 x.toNat, .int .i64 n] w fun e w' => e = .returned (.int .u32 (Dig.rotl x n).toNat) ∧ ∃ m, w' = w.drewN m :=
  (rleft_any x n h0 h1 w).mono fun _ _ ⟨he, hw⟩ => ⟨he, 1, hw⟩
theorem turns5_pos : ∀ i, i < 16 → 1 ≤ Dig.turns5.getD i 0 := by decide +kernel
theorem wp_store_all {P : Program} {op : Oper} {a : Act} {w : World} {next : Act → World → Prop} {Q : Exit → Act → World → Prop} (ty : TypeId) (x y : Operand) (ho : op.op = .store ty x y)
    (b : Nat) (cells old : List Value) (t : TypeId) (hx : a.eval x = .pointer (some ⟨b, 0, none⟩)) (hy : a.eval y = .agg cells.toArray)
    (hg : w.heap[b]? = some (.cells old.toArray t (0, 0))) (hl : old.length = cells.length) (hi : (P.info? ty).map (·.size) = some cells.length) (h1 : ∀ v ∈ cells, v.oneCell' = true)
    (h : ∀ w', Hid (w'.heap[b]? = some (.cells cells.toArray t (0, 0))) → Hid (Kept w.heap.size [b] w w') → Hid (w'.heap.size = w.heap.size) → next (a.put op.dst undef) w') : op.wp P a w next Q := by
  refine wp_store_mid ty x y ho b 0 cells.toArray hx hy (there_of_list hg (by simp [hl])) (by simpa using hi) (all_oneCell_toArray h1) ?_
  refine h _ (Lib.hid ?_) (Lib.hid (kept_setCells _ _ _ _)) (Lib.hid (setCells_size _ _ _))
  have := setCells_list cells 0 old w hg
  rw [laid_whole old cells hl.symm] at this
  exact this
theorem build4 (x0 x1 x2 x3 : UInt32) (w : World) : (Instr.build 44 #[(0, .int .u32 x0.toNat), (1, .int .u32 x1.toNat), (2, .int .u32 x2.toNat), (3, .int .u32 x3.toNat)]).run Try.prog w = .ok (.agg ([x0, x1, x2, x3].map u32v).toArray) w := by kernel_rfl
attribute [local go_sem ↓] build4
attribute [local go_sem] go_add go_add' go_xor go_and go_or go_not go_not' go_nt_r u32_signed
set_option maxRecDepth 100000 in
set_option maxHeartbeats 40000000 in
theorem rSum5_any (s : ByteArray) (hs : s.size ≤ 140737488355200) (w : World) :
    Calls Try.prog 22 #[.string s] w fun e w' => e = .returned (.string ⟨(Dig.sum5 s.data.toList).toArray⟩) ∧ Below w.heap.size w w' := by
  obtain ⟨i0, hi, hz0, hz1, hz2⟩ := info_parts infoByte
  obtain ⟨l, hl⟩ : ∃ l, l = s.data.toList := ⟨_, rfl⟩
  have hlen : l.length = s.size := by rw [hl]; exact size_toList s
  have HL := Lib.hid hl
  have HLEN := Lib.hid hlen
  rw [← hl]
  clear hl hlen
  have hk64 : (Dig.k5.map u32v).length = 64 := by rw [List.length_map, Dig.length_k5]
  go_enter Try.func22, Try.ntmps22
  go_wp2_with fail
  refine (rtable5_any _).mono ?_
  rintro e w1 ⟨rfl, hb1⟩
  have HB1 := Lib.hid hb1
  clear hb1
  go_wp2_with (first | (refine wpList_alloc rfl 67 rfl (zeros 64) alloc64 ?_; go_frame) | (refine wpList_store_whole rfl 67 _ _ rfl w1.heap.size (Dig.k5.map u32v) (zeros 64) 67 rfl rfl (heap_alloc_new _ _) (by rw [hk64, length_zeros]) (by rw [hk64]; kernel_rfl) (u32_ones _) ?_; intro w2 h2 k2 s2; go_frame) | fail)
  obtain ⟨w3, hw3⟩ : ∃ w3, w3 = (w2.alloc (.cells #[.int .i64 7, .int .i64 12, .int .i64 17, .int .i64 22, .int .i64 5, .int .i64 9, .int .i64 14, .int .i64 20, .int .i64 4, .int .i64 11, .int .i64 16, .int .i64 23, .int .i64 6, .int .i64 10, .int .i64 15, .int .i64 21] 3)).alloc (.cells #[.int .u32 1732584193, .int .u32 4023233417, .int .u32 2562383102, .int .u32 271733878] 44) := ⟨_, rfl⟩
  rw [← hw3]
  have hz2 : w2.heap.size = w1.heap.size + 1 := by rw [s2.out]; simp
  have hz3 : w3.heap.size = w1.heap.size + 3 := by rw [hw3]; simp; omega
  have hM3 : w3.heap[w1.heap.size + 1]? = some (.cells (Dig.turns5.map intv).toArray 3 (0, 0)) := by
    rw [hw3, ← hz2, heap_alloc_old _ _ (by simp)]; exact (heap_alloc_new w2 _).trans (by kernel_rfl)
  have hH3 : w3.heap[w1.heap.size + 1 + 1]? = some (.cells (Dig.h5.map u32v).toArray 44 (0, 0)) := by
    rw [hw3, ← hz2]; exact (heap_alloc2_new w2 _ _).trans (by kernel_rfl)
  have hK3 : w3.heap[w1.heap.size]? = some (.cells (Dig.k5.map u32v).toArray 67 (0, 0)) := by
    rw [hw3, heap_alloc_old _ _ (by simp; omega), heap_alloc_old _ _ (by omega)]; exact h2.out
  have hB3 : Below w.heap.size w w3 := by
    rw [hw3]
    exact ((below_kept (HB1.out.alloc HB1.out.size _) k2.out HB1.out.size (by simp; have := HB1.out.size; omega)).alloc (by have := HB1.out.size; omega) _).alloc (by simp; have := HB1.out.size; omega) _
  have hlow := HB1.out.size
  rw [hz2]
  clear hw3 hz2 h2 k2 s2
  refine (rpadded_any s false (by omega) w3).mono ?_
  rw [← HL.out]
  rintro e w4 ⟨g, cap, rfl, hR4, hb4⟩
  obtain ⟨P, hP⟩ : ∃ P, P = Dig.padded (!false) l := ⟨_, rfl⟩
  obtain ⟨N, hN⟩ : ∃ N, N = P.length := ⟨_, rfl⟩
  have h64 : N % 64 = 0 := by rw [hN, hP]; exact Dig.length_padded _ _
  rw [← hP, ← hN] at hR4 ⊢
  rw [hz3] at hR4
  obtain ⟨b, hb⟩ : ∃ b, b = w1.heap.size := ⟨_, rfl⟩
  rw [← hb] at hR4 hM3 hH3 hK3 hlow hz3 ⊢
  have hS4 : SumF w b g N cap P (Dig.fold Dig.turn5 Dig.h5 (P.take (64 * 0))) w4 :=
    ⟨by rw [hb4.block _ (by omega)]; exact hK3, by rw [hb4.block _ (by omega)]; exact hM3, by rw [hb4.block _ (by omega), Nat.mul_zero, List.take_zero, Dig.fold_nil]; exact hH3, hR4.out, hlow, hB3.trans (hb4.mono (by omega))⟩
  have HP := Lib.hid hP
  have HN := Lib.hid hN
  have hNle : N ≤ 140737488355328 := by rw [hN, hP, Dig.padded_eq, List.length_append]; have := Dig.length_closing (!false) l.length; have := HLEN.out; omega
  clear hP hN hR4 hb4 hM3 hH3 hK3 hB3 hz3 hlow hb HB1
  go_wp2_with fail
  go_loopw [7] (fun a wr => ∃ j : Nat, 64 * j ≤ N ∧ a = .int .i64 (64 * j : Nat) ∧ SumF w b g N cap P (Dig.fold Dig.turn5 Dig.h5 (P.take (64 * j))) wr) (fun a _ => N - (intOf a).toNat)
  case atStart => exact ⟨0, by omega, rfl, hS4⟩
  case round =>
    clear hS4
    obtain ⟨j, hj, rfl, hS⟩ := hrel
    obtain ⟨w6, rfl⟩ : ∃ x, x = wr := ⟨_, rfl⟩
    by_cases hlt : 64 * j < N
    · as_aux_lemma =>
      obtain ⟨A, hA⟩ : ∃ A, A = 64 * j := ⟨_, rfl⟩
      rw [← hA] at hlt ⊢
      have HA := Lib.hid hA
      have HS := Lib.hid hS
      have hSl := Dig.length_fold5 (P.take (64 * j))
      obtain ⟨S, hSd⟩ : ∃ S, S = Dig.fold Dig.turn5 Dig.h5 (P.take (64 * j)) := ⟨_, rfl⟩
      rw [← hSd] at hSl hS
      have hSm : (S.map u32v).length = 4 := by rw [List.length_map, hSl]
      have H4 := Lib.hid hS.four
      clear hA hS hj
      go_wp2_with (first | (refine wpList_load_mid rfl 44 _ rfl (b + 1 + 1) 0 rfl (S.map u32v) _ (range_of_list H4.out) Try.underlying44 rfl (by rw [hSm]; kernel_rfl) ?_; go_frame) | (refine wpList_alloc rfl 44 rfl (zeros 4) alloc4u ?_; go_frame) | (refine wpList_store_new rfl 44 _ _ rfl w6.heap.size (S.map u32v) (zeros 4) 44 rfl rfl (heap_alloc_new _ _) (by rw [hSm, length_zeros]) (by rw [hSm]; kernel_rfl) (u32_ones _) ?_; go_frame))
      obtain ⟨bs, hbs⟩ : ∃ bs, bs = (P.drop A).take 64 := ⟨_, rfl⟩
      have hA64 : A + 64 ≤ N := by have := HA.out; omega
      have hbg : ∀ q, q < 64 → bs.getD q 0 = P.getD (A + q) 0 := by
        intro q hq
        rw [hbs]; simp [List.getD, hq]
      have HBS := Lib.hid hbs
      have HBG := Lib.hid hbg
      obtain ⟨st, hst⟩ : ∃ st, st = Dig.Four.of S := ⟨_, rfl⟩
      obtain ⟨w8, hw8⟩ : ∃ w8, w8 = (w6.alloc (.cells (zeros 4).toArray 44)).setCells w6.heap.size 0 (S.map u32v) := ⟨_, rfl⟩
      rw [← hw8]
      have hV8 : w8.heap[w6.heap.size]? = some (.cells ((Dig.roundsTo5 (Dig.words true bs) st 0).list.map u32v).toArray 44 (0, 0)) := by
        rw [hw8, setCells_list _ _ _ _ (heap_alloc_new _ _), laid_whole _ _ (by rw [hSm, length_zeros]), Dig.roundsTo5_zero, hst, four_of_list hSl]
      have hB8 : Below w6.heap.size w6 w8 := by rw [hw8]; exact below_setCells ((Below.refl _ _).alloc (Nat.le_refl _) _) (Nat.le_refl _) _ _
      have HST := Lib.hid hst
      have HSD := Lib.hid hSd
      have HSL := Lib.hid hSl
      have hb6 : b + 1 + 1 < w6.heap.size := lt_of_heap H4.out
      clear hbs hbg hw8 hst hSd hSl hSm
      go_loopw [9] (fun iv wi => ∃ k : Nat, k ≤ 64 ∧ iv = .int .i64 k ∧ wi.heap[w6.heap.size]? = some (.cells ((Dig.roundsTo5 (Dig.words true bs) st k).list.map u32v).toArray 44 (0, 0)) ∧ Below w6.heap.size w6 wi) (fun iv _ => 64 - (intOf iv).toNat)
      case atStart => exact ⟨0, by omega, rfl, hV8, hB8⟩
      case round =>
        clear hV8 hB8
        obtain ⟨k, hk64, rfl, hV, hB⟩ := hrel
        by_cases hltk : k < 64
        · as_aux_lemma =>
          obtain ⟨r, hr⟩ : ∃ r, r = Dig.roundsTo5 (Dig.words true bs) st k := ⟨_, rfl⟩
          rw [← hr] at hV
          have hSi := HS.out.below hB
          have cK := getD_cell Dig.length_k5 hltk hSi.tab
          have cT : wr.cell? ⟨b + 1, 4 * (k / 16) + k % 4, none⟩ = some (intv (Dig.turns5.getD (4 * (k / 16) + k % 4) 0)) := by
            rw [cell_of_list hSi.turns, List.getElem?_map, List.getD, List.getElem?_eq_getElem (by rw [Dig.length_turns5]; omega)]; rfl
          have hnl := Nat.le_of_lt_succ (Dig.turns5_lt (4 * (k / 16) + k % 4) (by omega))
          have hnp := turns5_pos (4 * (k / 16) + k % 4) (by omega)
          obtain ⟨n, hn⟩ : ∃ n, n = Dig.turns5.getD (4 * (k / 16) + k % 4) 0 := ⟨_, rfl⟩
          rw [← hn] at cT hnl hnp
          obtain ⟨c0, c1, c2, c3⟩ := four_cells hV
          obtain ⟨x1, hx1⟩ : ∃ x, x = Dig.k5.getD k 0 := ⟨_, rfl⟩
          rw [← hx1] at cK
          unfold u32v at cK
          unfold intv at cT
          have H1 := Lib.hid hx1
          have HNN := Lib.hid hn
          have HV := Lib.hid hV
          have HR := Lib.hid hr
          have HB := Lib.hid hB
          have CT := Lib.hid cT
          have CK := Lib.hid cK
          clear hx1 hn hV hr hB hSi cT cK
          by_cases h16 : k < 16
          · as_aux_lemma =>
            have e0 : ((k : Int) / 16 == 0) = true := by rw [beq_iff_eq]; omega
            have hw5 := Lib.hid (show k / 16 = 0 ∧ Dig.word5 k = k from ⟨by omega, by rw [Dig.word5_0 (by omega)]; omega⟩)
            go_wp2_with fail
            obtain ⟨F, hF⟩ : ∃ F, F = Dig.oR (Dig.an r.b r.c) (Dig.an (Dig.nt r.b) r.d) := ⟨_, rfl⟩
            rw [← hF]
            have hSi := HS.out.below HB.out
            have hPl := HN.out
            have t0 := hSi.byte (A + 4 * k) (by omega)
            have t1 := hSi.byte (A + 4 * k + 1) (by omega)
            have t2 := hSi.byte (A + 4 * k + 2) (by omega)
            have t3 := hSi.byte (A + 4 * k + 3) (by omega)
            have hq : A + 4 * k + 3 < N := by omega
            obtain ⟨y0, hy0⟩ : ∃ x, x = P.getD (A + 4 * k) 0 := ⟨_, rfl⟩
            obtain ⟨y1, hy1⟩ : ∃ x, x = P.getD (A + 4 * k + 1) 0 := ⟨_, rfl⟩
            obtain ⟨y2, hy2⟩ : ∃ x, x = P.getD (A + 4 * k + 2) 0 := ⟨_, rfl⟩
            obtain ⟨y3, hy3⟩ : ∃ x, x = P.getD (A + 4 * k + 3) 0 := ⟨_, rfl⟩
            rw [← hy0] at t0
            rw [← hy1] at t1
            rw [← hy2] at t2
            rw [← hy3] at t3
            have eM := le_fold y0 y1 y2 y3
            obtain ⟨m, hm⟩ : ∃ m, m = Dig.le4 y0 y1 y2 y3 := ⟨_, rfl⟩
            rw [← hm] at eM
            have HM := Lib.hid (show m = (Dig.words true bs).getD (Dig.word5 k) 0 by
              rw [hw5.out.2, Dig.words_get true bs k h16, hm, hy0, hy1, hy2, hy3]
              unfold Dig.word4
              rw [if_pos rfl, HBG.out _ (by omega), HBG.out _ (by omega), HBG.out _ (by omega), HBG.out _ (by omega)]
              rfl)
            have HF := Lib.hid hF
            clear hy0 hy1 hy2 hy3 hm hSi hPl hF
            go_quiet (fail)
            obtain ⟨w9, hw9⟩ : ∃ x, x = wr.drewN nq := ⟨_, rfl⟩
            rw [← hw9]
            have c0 : w9.cell? ⟨w6.heap.size, 0, none⟩ = some (.int .u32 r.a.toNat) := by rw [hw9]; exact c0
            have c1 : w9.cell? ⟨w6.heap.size, 1, none⟩ = some (.int .u32 r.b.toNat) := by rw [hw9]; exact c1
            have c2 : w9.cell? ⟨w6.heap.size, 2, none⟩ = some (.int .u32 r.c.toNat) := by rw [hw9]; exact c2
            have c3 : w9.cell? ⟨w6.heap.size, 3, none⟩ = some (.int .u32 r.d.toNat) := by rw [hw9]; exact c3
            have cK : w9.cell? ⟨b, k, none⟩ = some (.int .u32 x1.toNat) := by rw [hw9]; exact CK.out
            have HV9 := Lib.hid (show w9.heap[w6.heap.size]? = some (.cells (r.list.map u32v).toArray 44 (0, 0)) by rw [hw9, World.heap_drewN]; exact HV.out)
            have HB9 := Lib.hid (show Below w6.heap.size w6 w9 by rw [hw9]; exact below_drewN HB.out nq)
            have CT9 := Lib.hid (show w9.cell? ⟨b + 1, 4 * (k / 16) + k % 4, none⟩ = some (.int .i64 n) by rw [hw9]; exact CT.out)
            obtain ⟨F2, hF2⟩ : ∃ x, Dig.ad (Dig.ad (Dig.ad F r.a) x1) m = x := ⟨_, rfl⟩
            clear hw9 t0 t1 t2 t3 eM HV HB CT CK hq
            go_wp2_with fail
            go_quiet (fail)
            obtain ⟨w10, hw10⟩ : ∃ x, x = w9.drewN nq := ⟨_, rfl⟩
            rw [← hw10]
            have c0 : w10.cell? ⟨w6.heap.size, 0, none⟩ = some (.int .u32 r.a.toNat) := by rw [hw10]; exact c0
            have c1 : w10.cell? ⟨w6.heap.size, 1, none⟩ = some (.int .u32 r.b.toNat) := by rw [hw10]; exact c1
            have c2 : w10.cell? ⟨w6.heap.size, 2, none⟩ = some (.int .u32 r.c.toNat) := by rw [hw10]; exact c2
            have c3 : w10.cell? ⟨w6.heap.size, 3, none⟩ = some (.int .u32 r.d.toNat) := by rw [hw10]; exact c3
            have cT : w10.cell? ⟨b + 1, 4 * (k / 16) + k % 4, none⟩ = some (.int .i64 n) := by rw [hw10]; exact CT9.out
            have HV10 := Lib.hid (show w10.heap[w6.heap.size]? = some (.cells (r.list.map u32v).toArray 44 (0, 0)) by rw [hw10, World.heap_drewN]; exact HV9.out)
            have HB10 := Lib.hid (show Below w6.heap.size w6 w10 by rw [hw10]; exact below_drewN HB9.out nq)
            have hF2' := Lib.hid hF2
            obtain ⟨nv, hnv⟩ : ∃ x, Dig.ad r.b (Dig.rotl F2 n) = x := ⟨_, rfl⟩
            have HNV := Lib.hid hnv
            clear hw10 cK HV9 HB9 CT9 hF2
            go_wp2_with fail
            refine wp_region_quiet_end (by kernel_rfl) rfl rfl (by kernel_rfl) (by kernel_rfl) (by kernel_rfl) ?_
            simp only [initL, lastL, List.cons_append, List.nil_append, Oper.mute]
            repeat (go_big_quiet_step (first | (go_at_call 44; exact Calls.quiet_of (rleft_q _ _ hnp hnl _))))
            refine wpQuiet_nil ?_
            rintro _ ⟨nq, rfl⟩
            refine wp_store_all 44 _ _ rfl w6.heap.size ([r.d, nv, r.b, r.c].map u32v) (r.list.map u32v) 44 rfl (by rw [← HNV.out]; rfl) (by rw [World.heap_drewN]; exact HV10.out) rfl (by kernel_rfl) (u32_ones _) ?_
            intro w11 h11 k11 s11
            clear hnv
            go_wp2_with fail
            go_roundw
            case rel =>
              refine ⟨k + 1, by omega, by go_num, ?_, below_kept (below_drewN HB10.out nq) k11.out (Nat.le_refl _) (by simpa using HB10.out.size)⟩
              rw [h11.out, Dig.roundsTo5_succ, ← HR.out, ← H1.out, ← HM.out, show k / 16 * 4 + k % 4 = 4 * (k / 16) + k % 4 from by omega, ← HNN.out, hw5.out.1]
              have e : (Dig.round5 0 n x1 m r).list = [r.d, nv, r.b, r.c] := by
                show [r.d, Dig.ad r.b (Dig.rotl (Dig.ad (Dig.mix5 0 r) (Dig.ad (Dig.ad r.a x1) m)) n), r.b, r.c] = _
                have eA : Dig.ad (Dig.mix5 0 r) (Dig.ad (Dig.ad r.a x1) m) = Dig.ad (Dig.ad (Dig.ad F r.a) x1) m := by
                  rw [show Dig.mix5 0 r = F from HF.out.symm]
                  simp only [Dig.ad_eq]
                  ac_rfl
                rw [eA, hF2'.out, HNV.out]
              rw [e]
            case measure => simp [intOf]; omega
          · by_cases h32 : k < 32
            · as_aux_lemma =>
              have e0 : ((k : Int) / 16 == 0) = false := by rw [beq_eq_false_iff_ne]; omega
              have e1 : ((k : Int) / 16 == 1) = true := by rw [beq_iff_eq]; omega
              obtain ⟨G, hG⟩ : ∃ G, G = (5 * k + 1) % 16 := ⟨_, rfl⟩
              have hG16 : G < 16 := by omega
              have eG : ((5 * (k : Int) + 1) % 16) = (G : Int) := by omega
              have hw5 := Lib.hid (show k / 16 = 1 ∧ Dig.word5 k = G from ⟨by omega, by rw [Dig.word5_1 (by omega), hG]⟩)
              clear hG
              go_wp2_with fail
              rw [eG]
              obtain ⟨F, hF⟩ : ∃ F, F = Dig.oR (Dig.an r.d r.b) (Dig.an (Dig.nt r.d) r.c) := ⟨_, rfl⟩
              rw [← hF]
              have hSi := HS.out.below HB.out
              have hPl := HN.out
              have t0 := hSi.byte (A + 4 * G) (by omega)
              have t1 := hSi.byte (A + 4 * G + 1) (by omega)
              have t2 := hSi.byte (A + 4 * G + 2) (by omega)
              have t3 := hSi.byte (A + 4 * G + 3) (by omega)
              have hq : A + 4 * G + 3 < N := by omega
              obtain ⟨y0, hy0⟩ : ∃ x, x = P.getD (A + 4 * G) 0 := ⟨_, rfl⟩
              obtain ⟨y1, hy1⟩ : ∃ x, x = P.getD (A + 4 * G + 1) 0 := ⟨_, rfl⟩
              obtain ⟨y2, hy2⟩ : ∃ x, x = P.getD (A + 4 * G + 2) 0 := ⟨_, rfl⟩
              obtain ⟨y3, hy3⟩ : ∃ x, x = P.getD (A + 4 * G + 3) 0 := ⟨_, rfl⟩
              rw [← hy0] at t0
              rw [← hy1] at t1
              rw [← hy2] at t2
              rw [← hy3] at t3
              have eM := le_fold y0 y1 y2 y3
              obtain ⟨m, hm⟩ : ∃ m, m = Dig.le4 y0 y1 y2 y3 := ⟨_, rfl⟩
              rw [← hm] at eM
              have HM := Lib.hid (show m = (Dig.words true bs).getD (Dig.word5 k) 0 by
                rw [hw5.out.2, Dig.words_get true bs G hG16, hm, hy0, hy1, hy2, hy3]
                unfold Dig.word4
                rw [if_pos rfl, HBG.out _ (by omega), HBG.out _ (by omega), HBG.out _ (by omega), HBG.out _ (by omega)]
                rfl)
              have HF := Lib.hid hF
              clear hy0 hy1 hy2 hy3 hm hSi hPl hF eG
              go_quiet (fail)
              obtain ⟨w9, hw9⟩ : ∃ x, x = wr.drewN nq := ⟨_, rfl⟩
              rw [← hw9]
              have c0 : w9.cell? ⟨w6.heap.size, 0, none⟩ = some (.int .u32 r.a.toNat) := by rw [hw9]; exact c0
              have c1 : w9.cell? ⟨w6.heap.size, 1, none⟩ = some (.int .u32 r.b.toNat) := by rw [hw9]; exact c1
              have c2 : w9.cell? ⟨w6.heap.size, 2, none⟩ = some (.int .u32 r.c.toNat) := by rw [hw9]; exact c2
              have c3 : w9.cell? ⟨w6.heap.size, 3, none⟩ = some (.int .u32 r.d.toNat) := by rw [hw9]; exact c3
              have cK : w9.cell? ⟨b, k, none⟩ = some (.int .u32 x1.toNat) := by rw [hw9]; exact CK.out
              have HV9 := Lib.hid (show w9.heap[w6.heap.size]? = some (.cells (r.list.map u32v).toArray 44 (0, 0)) by rw [hw9, World.heap_drewN]; exact HV.out)
              have HB9 := Lib.hid (show Below w6.heap.size w6 w9 by rw [hw9]; exact below_drewN HB.out nq)
              have CT9 := Lib.hid (show w9.cell? ⟨b + 1, 4 * (k / 16) + k % 4, none⟩ = some (.int .i64 n) by rw [hw9]; exact CT.out)
              obtain ⟨F2, hF2⟩ : ∃ x, Dig.ad (Dig.ad (Dig.ad F r.a) x1) m = x := ⟨_, rfl⟩
              clear hw9 t0 t1 t2 t3 eM HV HB CT CK hq
              go_wp2_with fail
              go_quiet (fail)
              obtain ⟨w10, hw10⟩ : ∃ x, x = w9.drewN nq := ⟨_, rfl⟩
              rw [← hw10]
              have c0 : w10.cell? ⟨w6.heap.size, 0, none⟩ = some (.int .u32 r.a.toNat) := by rw [hw10]; exact c0
              have c1 : w10.cell? ⟨w6.heap.size, 1, none⟩ = some (.int .u32 r.b.toNat) := by rw [hw10]; exact c1
              have c2 : w10.cell? ⟨w6.heap.size, 2, none⟩ = some (.int .u32 r.c.toNat) := by rw [hw10]; exact c2
              have c3 : w10.cell? ⟨w6.heap.size, 3, none⟩ = some (.int .u32 r.d.toNat) := by rw [hw10]; exact c3
              have cT : w10.cell? ⟨b + 1, 4 * (k / 16) + k % 4, none⟩ = some (.int .i64 n) := by rw [hw10]; exact CT9.out
              have HV10 := Lib.hid (show w10.heap[w6.heap.size]? = some (.cells (r.list.map u32v).toArray 44 (0, 0)) by rw [hw10, World.heap_drewN]; exact HV9.out)
              have HB10 := Lib.hid (show Below w6.heap.size w6 w10 by rw [hw10]; exact below_drewN HB9.out nq)
              have hF2' := Lib.hid hF2
              obtain ⟨nv, hnv⟩ : ∃ x, Dig.ad r.b (Dig.rotl F2 n) = x := ⟨_, rfl⟩
              have HNV := Lib.hid hnv
              clear hw10 cK HV9 HB9 CT9 hF2
              go_wp2_with fail
              refine wp_region_quiet_end (by kernel_rfl) rfl rfl (by kernel_rfl) (by kernel_rfl) (by kernel_rfl) ?_
              simp only [initL, lastL, List.cons_append, List.nil_append, Oper.mute]
              repeat (go_big_quiet_step (first | (go_at_call 44; exact Calls.quiet_of (rleft_q _ _ hnp hnl _))))
              refine wpQuiet_nil ?_
              rintro _ ⟨nq, rfl⟩
              refine wp_store_all 44 _ _ rfl w6.heap.size ([r.d, nv, r.b, r.c].map u32v) (r.list.map u32v) 44 rfl (by rw [← HNV.out]; rfl) (by rw [World.heap_drewN]; exact HV10.out) rfl (by kernel_rfl) (u32_ones _) ?_
              intro w11 h11 k11 s11
              clear hnv
              go_wp2_with fail
              go_roundw
              case rel =>
                refine ⟨k + 1, by omega, by go_num, ?_, below_kept (below_drewN HB10.out nq) k11.out (Nat.le_refl _) (by simpa using HB10.out.size)⟩
                rw [h11.out, Dig.roundsTo5_succ, ← HR.out, ← H1.out, ← HM.out, show k / 16 * 4 + k % 4 = 4 * (k / 16) + k % 4 from by omega, ← HNN.out, hw5.out.1]
                have e : (Dig.round5 1 n x1 m r).list = [r.d, nv, r.b, r.c] := by
                  show [r.d, Dig.ad r.b (Dig.rotl (Dig.ad (Dig.mix5 1 r) (Dig.ad (Dig.ad r.a x1) m)) n), r.b, r.c] = _
                  have eA : Dig.ad (Dig.mix5 1 r) (Dig.ad (Dig.ad r.a x1) m) = Dig.ad (Dig.ad (Dig.ad F r.a) x1) m := by
                    rw [show Dig.mix5 1 r = F from HF.out.symm]
                    simp only [Dig.ad_eq]
                    ac_rfl
                  rw [eA, hF2'.out, HNV.out]
                rw [e]
              case measure => simp [intOf]; omega
            · by_cases h48 : k < 48
              · as_aux_lemma =>
                have e0 : ((k : Int) / 16 == 0) = false := by rw [beq_eq_false_iff_ne]; omega
                have e1 : ((k : Int) / 16 == 1) = false := by rw [beq_eq_false_iff_ne]; omega
                have e2 : ((k : Int) / 16 == 2) = true := by rw [beq_iff_eq]; omega
                obtain ⟨G, hG⟩ : ∃ G, G = (3 * k + 5) % 16 := ⟨_, rfl⟩
                have hG16 : G < 16 := by omega
                have eG : ((3 * (k : Int) + 5) % 16) = (G : Int) := by omega
                have hw5 := Lib.hid (show k / 16 = 2 ∧ Dig.word5 k = G from ⟨by omega, by rw [Dig.word5_2 (by omega), hG]⟩)
                clear hG
                go_wp2_with fail
                rw [eG]
                obtain ⟨F, hF⟩ : ∃ F, F = Dig.xr (Dig.xr r.b r.c) r.d := ⟨_, rfl⟩
                rw [← hF]
                have hSi := HS.out.below HB.out
                have hPl := HN.out
                have t0 := hSi.byte (A + 4 * G) (by omega)
                have t1 := hSi.byte (A + 4 * G + 1) (by omega)
                have t2 := hSi.byte (A + 4 * G + 2) (by omega)
                have t3 := hSi.byte (A + 4 * G + 3) (by omega)
                have hq : A + 4 * G + 3 < N := by omega
                obtain ⟨y0, hy0⟩ : ∃ x, x = P.getD (A + 4 * G) 0 := ⟨_, rfl⟩
                obtain ⟨y1, hy1⟩ : ∃ x, x = P.getD (A + 4 * G + 1) 0 := ⟨_, rfl⟩
                obtain ⟨y2, hy2⟩ : ∃ x, x = P.getD (A + 4 * G + 2) 0 := ⟨_, rfl⟩
                obtain ⟨y3, hy3⟩ : ∃ x, x = P.getD (A + 4 * G + 3) 0 := ⟨_, rfl⟩
                rw [← hy0] at t0
                rw [← hy1] at t1
                rw [← hy2] at t2
                rw [← hy3] at t3
                have eM := le_fold y0 y1 y2 y3
                obtain ⟨m, hm⟩ : ∃ m, m = Dig.le4 y0 y1 y2 y3 := ⟨_, rfl⟩
                rw [← hm] at eM
                have HM := Lib.hid (show m = (Dig.words true bs).getD (Dig.word5 k) 0 by
                  rw [hw5.out.2, Dig.words_get true bs G hG16, hm, hy0, hy1, hy2, hy3]
                  unfold Dig.word4
                  rw [if_pos rfl, HBG.out _ (by omega), HBG.out _ (by omega), HBG.out _ (by omega), HBG.out _ (by omega)]
                  rfl)
                have HF := Lib.hid hF
                clear hy0 hy1 hy2 hy3 hm hSi hPl hF eG
                go_quiet (fail)
                obtain ⟨w9, hw9⟩ : ∃ x, x = wr.drewN nq := ⟨_, rfl⟩
                rw [← hw9]
                have c0 : w9.cell? ⟨w6.heap.size, 0, none⟩ = some (.int .u32 r.a.toNat) := by rw [hw9]; exact c0
                have c1 : w9.cell? ⟨w6.heap.size, 1, none⟩ = some (.int .u32 r.b.toNat) := by rw [hw9]; exact c1
                have c2 : w9.cell? ⟨w6.heap.size, 2, none⟩ = some (.int .u32 r.c.toNat) := by rw [hw9]; exact c2
                have c3 : w9.cell? ⟨w6.heap.size, 3, none⟩ = some (.int .u32 r.d.toNat) := by rw [hw9]; exact c3
                have cK : w9.cell? ⟨b, k, none⟩ = some (.int .u32 x1.toNat) := by rw [hw9]; exact CK.out
                have HV9 := Lib.hid (show w9.heap[w6.heap.size]? = some (.cells (r.list.map u32v).toArray 44 (0, 0)) by rw [hw9, World.heap_drewN]; exact HV.out)
                have HB9 := Lib.hid (show Below w6.heap.size w6 w9 by rw [hw9]; exact below_drewN HB.out nq)
                have CT9 := Lib.hid (show w9.cell? ⟨b + 1, 4 * (k / 16) + k % 4, none⟩ = some (.int .i64 n) by rw [hw9]; exact CT.out)
                obtain ⟨F2, hF2⟩ : ∃ x, Dig.ad (Dig.ad (Dig.ad F r.a) x1) m = x := ⟨_, rfl⟩
                clear hw9 t0 t1 t2 t3 eM HV HB CT CK hq
                go_wp2_with fail
                go_quiet (fail)
                obtain ⟨w10, hw10⟩ : ∃ x, x = w9.drewN nq := ⟨_, rfl⟩
                rw [← hw10]
                have c0 : w10.cell? ⟨w6.heap.size, 0, none⟩ = some (.int .u32 r.a.toNat) := by rw [hw10]; exact c0
                have c1 : w10.cell? ⟨w6.heap.size, 1, none⟩ = some (.int .u32 r.b.toNat) := by rw [hw10]; exact c1
                have c2 : w10.cell? ⟨w6.heap.size, 2, none⟩ = some (.int .u32 r.c.toNat) := by rw [hw10]; exact c2
                have c3 : w10.cell? ⟨w6.heap.size, 3, none⟩ = some (.int .u32 r.d.toNat) := by rw [hw10]; exact c3
                have cT : w10.cell? ⟨b + 1, 4 * (k / 16) + k % 4, none⟩ = some (.int .i64 n) := by rw [hw10]; exact CT9.out
                have HV10 := Lib.hid (show w10.heap[w6.heap.size]? = some (.cells (r.list.map u32v).toArray 44 (0, 0)) by rw [hw10, World.heap_drewN]; exact HV9.out)
                have HB10 := Lib.hid (show Below w6.heap.size w6 w10 by rw [hw10]; exact below_drewN HB9.out nq)
                have hF2' := Lib.hid hF2
                obtain ⟨nv, hnv⟩ : ∃ x, Dig.ad r.b (Dig.rotl F2 n) = x := ⟨_, rfl⟩
                have HNV := Lib.hid hnv
                clear hw10 cK HV9 HB9 CT9 hF2
                go_wp2_with fail
                refine wp_region_quiet_end (by kernel_rfl) rfl rfl (by kernel_rfl) (by kernel_rfl) (by kernel_rfl) ?_
                simp only [initL, lastL, List.cons_append, List.nil_append, Oper.mute]
                repeat (go_big_quiet_step (first | (go_at_call 44; exact Calls.quiet_of (rleft_q _ _ hnp hnl _))))
                refine wpQuiet_nil ?_
                rintro _ ⟨nq, rfl⟩
                refine wp_store_all 44 _ _ rfl w6.heap.size ([r.d, nv, r.b, r.c].map u32v) (r.list.map u32v) 44 rfl (by rw [← HNV.out]; rfl) (by rw [World.heap_drewN]; exact HV10.out) rfl (by kernel_rfl) (u32_ones _) ?_
                intro w11 h11 k11 s11
                clear hnv
                go_wp2_with fail
                go_roundw
                case rel =>
                  refine ⟨k + 1, by omega, by go_num, ?_, below_kept (below_drewN HB10.out nq) k11.out (Nat.le_refl _) (by simpa using HB10.out.size)⟩
                  rw [h11.out, Dig.roundsTo5_succ, ← HR.out, ← H1.out, ← HM.out, show k / 16 * 4 + k % 4 = 4 * (k / 16) + k % 4 from by omega, ← HNN.out, hw5.out.1]
                  have e : (Dig.round5 2 n x1 m r).list = [r.d, nv, r.b, r.c] := by
                    show [r.d, Dig.ad r.b (Dig.rotl (Dig.ad (Dig.mix5 2 r) (Dig.ad (Dig.ad r.a x1) m)) n), r.b, r.c] = _
                    have eA : Dig.ad (Dig.mix5 2 r) (Dig.ad (Dig.ad r.a x1) m) = Dig.ad (Dig.ad (Dig.ad F r.a) x1) m := by
                      rw [show Dig.mix5 2 r = F from HF.out.symm]
                      simp only [Dig.ad_eq]
                      ac_rfl
                    rw [eA, hF2'.out, HNV.out]
                  rw [e]
                case measure => simp [intOf]; omega
              · as_aux_lemma =>
                have e0 : ((k : Int) / 16 == 0) = false := by rw [beq_eq_false_iff_ne]; omega
                have e1 : ((k : Int) / 16 == 1) = false := by rw [beq_eq_false_iff_ne]; omega
                have e2 : ((k : Int) / 16 == 2) = false := by rw [beq_eq_false_iff_ne]; omega
                obtain ⟨G, hG⟩ : ∃ G, G = (7 * k) % 16 := ⟨_, rfl⟩
                have hG16 : G < 16 := by omega
                have eG : (7 * (k : Int) % 16) = (G : Int) := by omega
                have hw5 := Lib.hid (show k / 16 = 3 ∧ Dig.word5 k = G from ⟨by omega, by rw [Dig.word5_3 (by omega), hG]⟩)
                clear hG
                go_wp2_with fail
                rw [eG]
                obtain ⟨F, hF⟩ : ∃ F, F = Dig.xr r.c (Dig.oR r.b (Dig.nt r.d)) := ⟨_, rfl⟩
                rw [← hF]
                have hSi := HS.out.below HB.out
                have hPl := HN.out
                have t0 := hSi.byte (A + 4 * G) (by omega)
                have t1 := hSi.byte (A + 4 * G + 1) (by omega)
                have t2 := hSi.byte (A + 4 * G + 2) (by omega)
                have t3 := hSi.byte (A + 4 * G + 3) (by omega)
                have hq : A + 4 * G + 3 < N := by omega
                obtain ⟨y0, hy0⟩ : ∃ x, x = P.getD (A + 4 * G) 0 := ⟨_, rfl⟩
                obtain ⟨y1, hy1⟩ : ∃ x, x = P.getD (A + 4 * G + 1) 0 := ⟨_, rfl⟩
                obtain ⟨y2, hy2⟩ : ∃ x, x = P.getD (A + 4 * G + 2) 0 := ⟨_, rfl⟩
                obtain ⟨y3, hy3⟩ : ∃ x, x = P.getD (A + 4 * G + 3) 0 := ⟨_, rfl⟩
                rw [← hy0] at t0
                rw [← hy1] at t1
                rw [← hy2] at t2
                rw [← hy3] at t3
                have eM := le_fold y0 y1 y2 y3
                obtain ⟨m, hm⟩ : ∃ m, m = Dig.le4 y0 y1 y2 y3 := ⟨_, rfl⟩
                rw [← hm] at eM
                have HM := Lib.hid (show m = (Dig.words true bs).getD (Dig.word5 k) 0 by
                  rw [hw5.out.2, Dig.words_get true bs G hG16, hm, hy0, hy1, hy2, hy3]
                  unfold Dig.word4
                  rw [if_pos rfl, HBG.out _ (by omega), HBG.out _ (by omega), HBG.out _ (by omega), HBG.out _ (by omega)]
                  rfl)
                have HF := Lib.hid hF
                clear hy0 hy1 hy2 hy3 hm hSi hPl hF eG
                go_quiet (fail)
                obtain ⟨w9, hw9⟩ : ∃ x, x = wr.drewN nq := ⟨_, rfl⟩
                rw [← hw9]
                have c0 : w9.cell? ⟨w6.heap.size, 0, none⟩ = some (.int .u32 r.a.toNat) := by rw [hw9]; exact c0
                have c1 : w9.cell? ⟨w6.heap.size, 1, none⟩ = some (.int .u32 r.b.toNat) := by rw [hw9]; exact c1
                have c2 : w9.cell? ⟨w6.heap.size, 2, none⟩ = some (.int .u32 r.c.toNat) := by rw [hw9]; exact c2
                have c3 : w9.cell? ⟨w6.heap.size, 3, none⟩ = some (.int .u32 r.d.toNat) := by rw [hw9]; exact c3
                have cK : w9.cell? ⟨b, k, none⟩ = some (.int .u32 x1.toNat) := by rw [hw9]; exact CK.out
                have HV9 := Lib.hid (show w9.heap[w6.heap.size]? = some (.cells (r.list.map u32v).toArray 44 (0, 0)) by rw [hw9, World.heap_drewN]; exact HV.out)
                have HB9 := Lib.hid (show Below w6.heap.size w6 w9 by rw [hw9]; exact below_drewN HB.out nq)
                have CT9 := Lib.hid (show w9.cell? ⟨b + 1, 4 * (k / 16) + k % 4, none⟩ = some (.int .i64 n) by rw [hw9]; exact CT.out)
                obtain ⟨F2, hF2⟩ : ∃ x, Dig.ad (Dig.ad (Dig.ad F r.a) x1) m = x := ⟨_, rfl⟩
                clear hw9 t0 t1 t2 t3 eM HV HB CT CK hq
                go_wp2_with fail
                go_quiet (fail)
                obtain ⟨w10, hw10⟩ : ∃ x, x = w9.drewN nq := ⟨_, rfl⟩
                rw [← hw10]
                have c0 : w10.cell? ⟨w6.heap.size, 0, none⟩ = some (.int .u32 r.a.toNat) := by rw [hw10]; exact c0
                have c1 : w10.cell? ⟨w6.heap.size, 1, none⟩ = some (.int .u32 r.b.toNat) := by rw [hw10]; exact c1
                have c2 : w10.cell? ⟨w6.heap.size, 2, none⟩ = some (.int .u32 r.c.toNat) := by rw [hw10]; exact c2
                have c3 : w10.cell? ⟨w6.heap.size, 3, none⟩ = some (.int .u32 r.d.toNat) := by rw [hw10]; exact c3
                have cT : w10.cell? ⟨b + 1, 4 * (k / 16) + k % 4, none⟩ = some (.int .i64 n) := by rw [hw10]; exact CT9.out
                have HV10 := Lib.hid (show w10.heap[w6.heap.size]? = some (.cells (r.list.map u32v).toArray 44 (0, 0)) by rw [hw10, World.heap_drewN]; exact HV9.out)
                have HB10 := Lib.hid (show Below w6.heap.size w6 w10 by rw [hw10]; exact below_drewN HB9.out nq)
                have hF2' := Lib.hid hF2
                obtain ⟨nv, hnv⟩ : ∃ x, Dig.ad r.b (Dig.rotl F2 n) = x := ⟨_, rfl⟩
                have HNV := Lib.hid hnv
                clear hw10 cK HV9 HB9 CT9 hF2
                go_wp2_with fail
                refine wp_region_quiet_end (by kernel_rfl) rfl rfl (by kernel_rfl) (by kernel_rfl) (by kernel_rfl) ?_
                simp only [initL, lastL, List.cons_append, List.nil_append, Oper.mute]
                repeat (go_big_quiet_step (first | (go_at_call 44; exact Calls.quiet_of (rleft_q _ _ hnp hnl _))))
                refine wpQuiet_nil ?_
                rintro _ ⟨nq, rfl⟩
                refine wp_store_all 44 _ _ rfl w6.heap.size ([r.d, nv, r.b, r.c].map u32v) (r.list.map u32v) 44 rfl (by rw [← HNV.out]; rfl) (by rw [World.heap_drewN]; exact HV10.out) rfl (by kernel_rfl) (u32_ones _) ?_
                intro w11 h11 k11 s11
                clear hnv
                go_wp2_with fail
                go_roundw
                case rel =>
                  refine ⟨k + 1, by omega, by go_num, ?_, below_kept (below_drewN HB10.out nq) k11.out (Nat.le_refl _) (by simpa using HB10.out.size)⟩
                  rw [h11.out, Dig.roundsTo5_succ, ← HR.out, ← H1.out, ← HM.out, show k / 16 * 4 + k % 4 = 4 * (k / 16) + k % 4 from by omega, ← HNN.out, hw5.out.1]
                  have e : (Dig.round5 3 n x1 m r).list = [r.d, nv, r.b, r.c] := by
                    show [r.d, Dig.ad r.b (Dig.rotl (Dig.ad (Dig.mix5 3 r) (Dig.ad (Dig.ad r.a x1) m)) n), r.b, r.c] = _
                    have eA : Dig.ad (Dig.mix5 3 r) (Dig.ad (Dig.ad r.a x1) m) = Dig.ad (Dig.ad (Dig.ad F r.a) x1) m := by
                      rw [show Dig.mix5 3 r = F from HF.out.symm]
                      simp only [Dig.ad_eq]
                      ac_rfl
                    rw [eA, hF2'.out, HNV.out]
                  rw [e]
                case measure => simp [intOf]; omega
        · as_aux_lemma =>
          obtain rfl : k = 64 := by omega
          obtain ⟨w12, rfl⟩ : ∃ x, x = wr := ⟨_, rfl⟩
          obtain ⟨R, hR⟩ : ∃ R, R = (Dig.roundsTo5 (Dig.words true bs) st 64).list := ⟨_, rfl⟩
          have hRl : R.length = 4 := by rw [hR]; rfl
          have HT := Lib.hid (show List.zipWith Dig.ad S R = Dig.turn5 S bs by rw [hR, Dig.turn5_eq, HST.out])
          rw [← hR] at hV
          have hG12 : w12.heap[b + 1 + 1]? = some (.cells (laid (S.map u32v) 0 (((List.zipWith Dig.ad S R).take 0).map u32v)).toArray 44 (0, 0)) := by
            rw [hB.block _ (lt_of_heap H4.out)]; exact H4.out
          have hK12 : Kept w6.heap.size [b + 1 + 1] w6 w12 := Kept.of_below hB
          have HRL := Lib.hid hRl
          clear hR hRl hB hltk
          go_wp2_with fail
          go_loopw [13] (fun iv wz => ∃ q : Nat, q ≤ 4 ∧ iv = .int .i64 q ∧ wz.heap[b + 1 + 1]? = some (.cells (laid (S.map u32v) 0 (((List.zipWith Dig.ad S R).take q).map u32v)).toArray 44 (0, 0)) ∧ wz.heap[w6.heap.size]? = some (.cells (R.map u32v).toArray 44 (0, 0)) ∧ Kept w6.heap.size [b + 1 + 1] w6 wz) (fun iv _ => 4 - (intOf iv).toNat)
          case atStart => exact ⟨0, by omega, rfl, hG12, hV, hK12⟩
          case round =>
            clear hG12 hV hK12
            obtain ⟨q, hq8, rfl, hG, hV, hK⟩ := hrel
            by_cases hltq : q < 4
            · as_aux_lemma =>
              have cS := add_cell HSL.out HRL.out (fun i hi => map_get HSL.out hi) hltq hG
              rw [Nat.zero_add] at cS
              have cF := free_of_list hG q
              have cR := getD_cell HRL.out hltq hV
              obtain ⟨x1, hx1⟩ : ∃ x, x = S.getD q 0 := ⟨_, rfl⟩
              obtain ⟨x2, hx2⟩ : ∃ x, x = R.getD q 0 := ⟨_, rfl⟩
              rw [← hx1] at cS
              rw [← hx2] at cR
              unfold u32v at cS cR
              have H1 := Lib.hid hx1
              have H2 := Lib.hid hx2
              have HG := Lib.hid hG
              have HV := Lib.hid hV
              have HK := Lib.hid hK
              clear hx1 hx2 hG hV hK
              go_wp2_with fail
              go_region
              all_goals
                go_wp2_with fail
                go_roundw
                case rel =>
                  have hst := add_step (v := .int .u32 (Dig.ad x1 x2).toNat) HSL.out HRL.out hltq HG.out (by rw [← H1.out, ← H2.out]; rfl)
                  rw [Nat.zero_add] at hst
                  refine ⟨q + 1, by omega, by go_num, hst, ?_, (HK.out.setCell (p := ⟨b + 1 + 1, q, none⟩) (Or.inl (by simp)) _).drew⟩
                  rw [heap_drew, heap_setCell_other _ _ _ _ (by simp; omega)]; exact HV.out
                case measure => simp [intOf]; omega
            · as_aux_lemma =>
              obtain rfl : q = 4 := by omega
              have hall : (List.zipWith Dig.ad S R).take 4 = Dig.turn5 S bs := by rw [← HT.out, List.take_of_length_le (by simp [HSL.out, HRL.out])]
              rw [hall] at hG
              have hSN : SumF w b g N cap P (Dig.fold Dig.turn5 Dig.h5 (P.take (64 * (j + 1)))) wr := by
                have h1 := lt_of_heap HS.out.tab
                have h2 := lt_of_heap HS.out.turns
                refine ⟨?_, ?_, ?_, ?_, HS.out.low, ?_⟩
                · rw [hK.block _ (by omega) (by simp; omega)]; exact HS.out.tab
                · rw [hK.block _ (by omega) (by simp)]; exact HS.out.turns
                · rw [hG, Dig.fold_take _ _ _ _ (by rw [← HN.out]; have := HA.out; omega), ← HSD.out, ← HA.out, ← HBS.out, laid_whole]
                  rw [List.length_map, List.length_map, Dig.length_turn5 _ _ HSL.out, HSL.out]
                · have hlow := HS.out.row.low
                  exact HS.out.row.block (Nat.lt_of_lt_of_le HS.out.row.lt hK.size) (hK.block _ HS.out.row.lt (by simp; omega))
                · have hlow := HS.out.low
                  exact HS.out.old.trans ((hK.mono (by have := HS.out.old.size; omega) (fun k hk hm => by simp at hm; omega)).below (ws := []) (by simp))
              have HSN := Lib.hid hSN
              clear hG hV hK hall hSN
              go_wp2_with fail
              go_roundw
              case rel => exact ⟨j + 1, by have := HA.out; omega, int64_congr (by have := HA.out; omega), HSN.out⟩
              case measure => have := HA.out; simp [intOf]; omega
    · as_aux_lemma =>
      have hjN : 64 * j = N := by omega
      have hPN : P.take (64 * j) = P := List.take_of_length_le (by rw [← HN.out]; omega)
      rw [hPN] at hS
      obtain ⟨S, hSd⟩ : ∃ S, S = Dig.fold Dig.turn5 Dig.h5 P := ⟨_, rfl⟩
      have hSl : S.length = 4 := by rw [hSd]; exact Dig.length_fold5 _
      rw [← hSd] at hS
      have hfin : Dig.textOf true S = Dig.sum5 l := by rw [hSd, HP.out, Dig.sum5_eq]; rfl
      have HF := Lib.hid hfin
      have HSL := Lib.hid hSl
      have H8 := Lib.hid hS.four
      have HO := Lib.hid hS.old
      have hb6 : b + 1 + 1 < w6.heap.size := lt_of_heap hS.four
      have hB0 : Below w6.heap.size w6 w6 := Below.refl _ _
      obtain ⟨A, hA⟩ : ∃ A, A = 64 * j := ⟨_, rfl⟩
      rw [← hA] at hlt ⊢
      clear hS hSd hfin hPN hjN hA
      go_wp2_with fail
      go_loopw [14, 15] (fun v iv wr => ∃ q : Nat, q ≤ 4 ∧ iv = .int .i64 q ∧ wr.ownsRow w6.heap.size 5 1 v (4 * q) ((Dig.textOf true (S.take q)).map u8v) ∧ Below w6.heap.size w6 wr) (fun _ iv _ => 4 - (intOf iv).toNat)
      case atStart => exact ⟨0, by omega, rfl, by rw [List.take_zero, Dig.textOf_nil]; exact World.ownsRow_nil _ _ _ _, hB0⟩
      case round =>
        clear hB0
        obtain ⟨q, hq8, rfl, hown, hB⟩ := hrel
        by_cases hltq : q < 4
        · as_aux_lemma =>
          have cS : wr.cell? ⟨b + 1 + 1, q, none⟩ = some (u32v (S.getD q 0)) := by
            rw [hB.cell (p := ⟨b + 1 + 1, q, none⟩) hb6, cell_of_list H8.out, getD_list HSL.out hltq]
          have ht4 : Dig.textOf true (S.take (q + 1)) = Dig.textOf true (S.take q) ++ Dig.bytesTo true 4 (S.getD q 0).toNat 4 := by
            rw [List.take_succ_eq_append_getElem (by rw [HSL.out]; exact hltq), Dig.textOf_snoc, List.getD, List.getElem?_eq_getElem (by rw [HSL.out]; exact hltq)]; rfl
          obtain ⟨x, hx⟩ : ∃ x, x = S.getD q 0 := ⟨_, rfl⟩
          rw [← hx] at cS ht4
          unfold u32v at cS
          have c1 : wr.drew.cell? ⟨b + 1 + 1, q, none⟩ = some (.int .u32 x.toNat) := cS
          have hsz := hB.size
          have hBcell := hB.cell (p := ⟨b + 1 + 1, q, none⟩) hb6
          have HO2 := Lib.hid hown
          have HB := Lib.hid hB
          have HT := Lib.hid ht4
          clear hown hB ht4 hx
          obtain ⟨y3, hy3⟩ : ∃ y, y = Dig.byteAt x.toNat 3 := ⟨_, rfl⟩
          obtain ⟨y2, hy2⟩ : ∃ y, y = Dig.byteAt x.toNat 2 := ⟨_, rfl⟩
          obtain ⟨y1, hy1⟩ : ∃ y, y = Dig.byteAt x.toNat 1 := ⟨_, rfl⟩
          obtain ⟨y0, hy0⟩ : ∃ y, y = Dig.byteAt x.toNat 0 := ⟨_, rfl⟩
          have e3 : IntKind.u8.wrap ((x.toNat : Int) / 16777216) = (y3.toNat : Int) := by rw [hy3]; exact b3_fold x
          have e2 : IntKind.u8.wrap ((x.toNat : Int) / 65536) = (y2.toNat : Int) := by rw [hy2]; exact b2_fold x
          have e1 : IntKind.u8.wrap ((x.toNat : Int) / 256) = (y1.toNat : Int) := by rw [hy1]; exact b1_fold x
          have e0 : IntKind.u8.wrap ((x.toNat : Int)) = (y0.toNat : Int) := by rw [hy0]; exact b0_fold x
          have eT : (Dig.textOf true (S.take (q + 1))).map u8v = (Dig.textOf true (S.take q)).map u8v ++ four y0 y1 y2 y3 := by
            rw [HT.out, bytes_low, List.map_append, hy3, hy2, hy1, hy0]; rfl
          have hm1 : 4 * q + 4 ≤ maxLen := by unfold maxLen; omega
          have hm2 : (4 * q + 4) * 1 ≤ 140737488355328 := by omega
          have hone := four_one y0 y1 y2 y3
          have hb4 : ∀ o, w6.heap.size ≤ ((wr.alloc o).drew).heap.size := fun o => by simp; omega
          have ET := Lib.hid eT
          clear eT hy3 hy2 hy1 hy0
          have C0 : Hid (w6.cell? ⟨b + 1 + 1, q, none⟩ = some (.int .u32 x.toNat)) := Lib.hid ((hBcell).symm.trans cS)
          have S0 : TxtS w6 ⟨b + 1 + 1, q, none⟩ (.int .u32 x.toNat) wr.drew := ⟨c1, HB.out.drew⟩
          have HP6 := Lib.hid hb6
          clear hBcell
          go_wp2_with fail
          go_region_held_law (fun v => TxtS w6 ⟨b + 1 + 1, q, none⟩ (.int .u32 x.toNat) v) (first | assumption | exact txt_of C0.out HP6.out ((HB.out.alloc hsz _).drew) | exact txt_of C0.out HP6.out B5.out) (first | (refine step_append_own_d rfl (.tmp 182) (.tmp 202) 57 rfl w6.heap.size 5 i0 (.int .u8 0) 1 1 Try.underlying57 hi hz0 hz1 hz2 rfl (by decide) u14 (4 * q) ((Dig.textOf true (S.take q)).map u8v) rfl (own_drew (HO2.out.alloc _)) ⟨wr.heap.size, 0, none⟩ 4 4 (four y0 y1 y2 y3) rfl (by decide) rfl (news_four wr y0 y1 y2 y3 5) hone hm1 hm2 (hb4 _) (some 203) rfl ?_; intro g5 cap5 w5 h5 hg5 hk5; have B5 := Lib.hid (((HB.out.alloc hsz _).drew).grown hg5.out (by simp; omega) (fun k hk => (HO2.out.lt k hk).1))) | fail)
          all_goals
            go_wp2_with fail
            go_roundw
            case rel => exact ⟨q + 1, by omega, by go_num, by rw [ET.out, show 4 * (q + 1) = 4 * q + 4 from by omega]; exact h5.out, B5.out⟩
            case measure => simp [intOf]; omega
        · obtain rfl : q = 4 := by omega
          rw [List.take_of_length_le (by rw [HSL.out]; exact Nat.le_refl _), HF.out] at hown
          have hl16 : (Dig.sum5 l).length = 4 * 4 := Dig.length_sum5 l
          have HO2 := Lib.hid hown
          have HB := Lib.hid hB
          clear hown hB
          go_wp2_with (refine wpList_own_string rfl 57 9 _ rfl w6.heap.size 5 _ (4 * 4) rfl _ hl16 Try.underlying57 Try.underlying5 Try.underlying9 HO2.out ?_; go_frame)
          go_ret
          exact ⟨rfl, HO.out.trans (HB.out.mono HO.out.size)⟩
end Go.Proofs.Ytjalmmhbjilabaa
