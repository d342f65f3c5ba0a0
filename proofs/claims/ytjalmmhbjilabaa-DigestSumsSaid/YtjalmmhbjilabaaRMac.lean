/- The walk of the document's own HMAC, over the contract of its sum. -/
import Derived.Test.YtjalmmhbjilabaaRSumL
import Derived.Test.YtjalmmhbjilabaaMac2
namespace Go.Proofs.Ytjalmmhbjilabaa
open Go.RowKit

/-- The contract of the document's own sum. -/
def SumC : Prop := ∀ (s : ByteArray) (w : World), s.size ≤ 140737488355200 → Calls Try.prog 41 #[.string s, .agg rW.toArray] w fun e w' => e = .returned (.string ⟨(Dig.sum256 s.data.toList).toArray⟩) ∧ Below w.heap.size w w'
theorem sum_q (h : SumC) (s : ByteArray) (hs : s.size ≤ 140737488355200) (w : World) :
    Calls Try.prog 41 #[.string s, .agg rW.toArray] w fun e w' => ∃ q : ByteArray, e = .returned (.string q) ∧ Hid (q.data.toList = Dig.sum256 s.data.toList) ∧ q.size = 32 ∧ Below w.heap.size w w' := by
  refine (h s w hs).mono ?_
  rintro e w' ⟨rfl, hb⟩
  exact ⟨_, rfl, Lib.hid rfl, by rw [← size_toList]; exact Dig.length_sum256 _, hb⟩
theorem rwords_rW (w : World) : Calls Try.prog 40 #[] w fun e w' => e = .returned (.agg rW.toArray) ∧ Below w.heap.size w w' := by
  have := rwords_any w
  rw [show rW = (Dig.h256 ++ Dig.k256).map u32v from by unfold rW; rfl]
  exact this
theorem length_rW : rW.length = 72 := by unfold rW; rw [List.length_map, List.length_append, Dig.length_h256, Dig.length_k256]
theorem rW_ones : ∀ v ∈ rW, v.oneCell' = true := by unfold rW; exact u32_ones _
theorem make64 (w : World) : (Instr.makeSlice 57 (.int .i64 64) (.int .i64 64)).run Try.prog w = .ok (.slice (some ⟨w.heap.size, 0, none⟩) 64 64) (w.alloc (.cells (zeros8 64).toArray 5)) := by kernel_rfl
/-- What is filled of 64 bytes. -/
def fillTo (l : List UInt8) (i : Nat) : List Value := (l.take i).map u8v ++ List.replicate (64 - i) (.int .u8 0)
theorem fill_zero (l : List UInt8) : fillTo l 0 = zeros8 64 := by simp [fillTo, zeros8]
theorem fill_all {l : List UInt8} (h : l.length = 64) : fillTo l 64 = l.map u8v := by simp [fillTo, ← h]
theorem fill_get {l : List UInt8} {i : Nat} (h : l.length = 64) (hi : i < 64) : (fillTo l i)[i]? = some (.int .u8 0) := by
  rw [fillTo, List.getElem?_append_right (by rw [List.length_map, List.length_take]; omega), List.length_map, List.length_take, show i - min i l.length = 0 by omega, List.getElem?_replicate, if_pos (by omega)]
theorem fill_step {l : List UInt8} {i : Nat} (h : l.length = 64) (hi : i < 64) : (fillTo l i).set i (u8v (l.getD i 0)) = fillTo l (i + 1) := by
  have hl : ((l.take i).map u8v).length = i := by rw [List.length_map, List.length_take]; omega
  rw [fillTo, List.set_append_right _ _ (by omega), hl, Nat.sub_self, show 64 - i = (64 - (i + 1)) + 1 from by omega, List.replicate_succ, List.set_cons_zero, fillTo, List.take_succ_eq_append_getElem (by omega), List.map_append, List.append_assoc, List.getD, List.getElem?_eq_getElem (by omega)]
  rfl
theorem x8_36 (a : UInt8) : bits .xor .u8 (a.toNat : Int) 54 = ((Dig.x8 a 0x36).toNat : Int) := go_x8 a 0x36
theorem x8_5c (a : UInt8) : bits .xor .u8 (a.toNat : Int) 92 = ((Dig.x8 a 0x5c).toNat : Int) := go_x8 a 0x5c
theorem x8_36z : bits .xor .u8 0 54 = ((Dig.x8 0 0x36).toNat : Int) := go_x8 0 0x36
theorem x8_5cz : bits .xor .u8 0 92 = ((Dig.x8 0 0x5c).toNat : Int) := go_x8 0 0x5c
theorem masked_get (k : ByteArray) (m : UInt8) (hk : k.size ≤ 64) (i : Nat) (hi : i < 64) : (Dig.masked k.data.toList m).getD i 0 = Dig.x8 (if i < k.size then strAt k i else 0) m := by
  have hl := size_toList k
  have hkb : (Dig.keyBlock k.data.toList).length = 64 := Dig.length_keyBlock _ (by omega)
  rw [Dig.masked_eq, List.getD, List.getElem?_map, List.getElem?_eq_getElem (by omega)]
  have e : (Dig.keyBlock k.data.toList)[i]'(by omega) = if i < k.size then strAt k i else 0 := by
    have : (Dig.keyBlock k.data.toList)[i]? = some (if i < k.size then strAt k i else 0) := by
      rw [Dig.keyBlock_eq]
      by_cases h : i < k.size
      · rw [if_pos h, List.getElem?_append_left (by omega), strAt_eq, List.getD, List.getElem?_eq_getElem (by omega)]; rfl
      · rw [if_neg h, List.getElem?_append_right (by omega), List.getElem?_replicate, if_pos (by omega)]
    rw [List.getElem?_eq_getElem (by omega)] at this
    injection this
  rw [e]; rfl
attribute [local go_sem high] run_index_byte x8_36 x8_5c x8_36z x8_5cz
attribute [local go_sem ↓] run_load_whole
/-- What the last statement keeps. -/
abbrev MacS (w5 : World) (gi go_ gc : Nat) (qi qo : ByteArray) (v : World) : Prop :=
  (convert 57 9 (.slice (some ⟨gi, 0, none⟩) 64 64)).run Try.prog v = .ok (.string qi) v ∧ (convert 57 9 (.slice (some ⟨go_, 0, none⟩) 64 64)).run Try.prog v = .ok (.string qo) v ∧
  Rowy Try.prog 69 v (.pointer (some ⟨gc, 0, none⟩)) ∧ rowOf v (.pointer (some ⟨gc, 0, none⟩)) = rW ∧ Below w5.heap.size w5 v
theorem mac_of {w5 v : World} {gi go_ gc : Nat} {mi mo : List UInt8} (hi : w5.heap[gi]? = some (.cells (mi.map u8v).toArray 5 (0, 0))) (ho : w5.heap[go_]? = some (.cells (mo.map u8v).toArray 5 (0, 0))) (hc : w5.heap[gc]? = some (.cells rW.toArray 69 (0, 0)))
    (li : mi.length = 64) (lo : mo.length = 64) (hb : Below w5.heap.size w5 v) : MacS w5 gi go_ gc ⟨mi.toArray⟩ ⟨mo.toArray⟩ v := by
  have ei : v.heap[gi]? = some (.cells (mi.map u8v).toArray 5 (0, 0)) := (hb.block _ (lt_of_heap hi)).trans hi
  have eo : v.heap[go_]? = some (.cells (mo.map u8v).toArray 5 (0, 0)) := (hb.block _ (lt_of_heap ho)).trans ho
  have ec : v.heap[gc]? = some (.cells rW.toArray 69 (0, 0)) := (hb.block _ (lt_of_heap hc)).trans hc
  exact ⟨run_bytes_string v 57 9 5 gi 0 64 64 mi li Try.underlying57 Try.underlying5 Try.underlying9 (range_of_list ei),
    run_bytes_string v 57 9 5 go_ 0 64 64 mo lo Try.underlying57 Try.underlying5 Try.underlying9 (range_of_list eo),
    ⟨gc, rW, _, _, _, rfl, ec, Try.underlying69, rfl, by rw [length_rW]; kernel_rfl⟩, rowOf_mk ec, hb⟩
set_option maxRecDepth 100000 in
set_option maxHeartbeats 4000000 in
theorem rMAC_short (hsum : SumC) (k s : ByteArray) (hk : k.size ≤ 64) (hs : s.size ≤ 140737488355000) (w : World) :
    Calls Try.prog 23 #[.string k, .string s] w fun e w' => e = .returned (.string ⟨(Dig.sum256 (Dig.masked k.data.toList 0x5c ++ Dig.sum256 (Dig.masked k.data.toList 0x36 ++ s.data.toList))).toArray⟩) ∧ Below w.heap.size w w' := by
  obtain ⟨mi, hmi⟩ : ∃ m, m = Dig.masked k.data.toList 0x36 := ⟨_, rfl⟩
  obtain ⟨mo, hmo⟩ : ∃ m, m = Dig.masked k.data.toList 0x5c := ⟨_, rfl⟩
  have hli : mi.length = 64 := by rw [hmi]; exact Dig.length_masked _ _ (by rw [size_toList]; exact hk)
  have hlo : mo.length = 64 := by rw [hmo]; exact Dig.length_masked _ _ (by rw [size_toList]; exact hk)
  have gi : ∀ i, i < 64 → mi.getD i 0 = Dig.x8 (if i < k.size then strAt k i else 0) 0x36 := fun i hi => by rw [hmi]; exact masked_get k _ hk i hi
  have go_ : ∀ i, i < 64 → mo.getD i 0 = Dig.x8 (if i < k.size then strAt k i else 0) 0x5c := fun i hi => by rw [hmo]; exact masked_get k _ hk i hi
  rw [← hmi, ← hmo]
  have HLI := Lib.hid hli
  have HLO := Lib.hid hlo
  have GI := Lib.hid gi
  have GO := Lib.hid go_
  clear hmi hmo hli hlo gi go_
  have hrl := length_rW
  have HRL := Lib.hid hrl
  clear hrl
  have m64 := make64
  go_enter Try.func23, Try.ntmps23
  go_wp2_with fail
  refine (rwords_rW _).mono ?_
  rintro e w1 ⟨rfl, hb1⟩
  have HB1 := Lib.hid hb1
  clear hb1
  go_wp2_with (first | (refine wpList_alloc rfl 69 rfl (zeros 72) alloc72 ?_; go_frame) | (refine wpList_store_whole rfl 69 _ _ rfl w1.heap.size rW (zeros 72) 69 rfl rfl (heap_alloc_new _ _) (by rw [HRL.out, length_zeros]) (by rw [HRL.out]; kernel_rfl) rW_ones ?_; intro w2 h2 k2 s2; go_frame))
  have HBW := Lib.hid (below_kept ((HB1.out.alloc HB1.out.size _)) k2.out HB1.out.size (by simp; have := HB1.out.size; omega))
  obtain ⟨w4, hw4⟩ : ∃ x, x = (w2.alloc (.cells (zeros8 64).toArray 5)).alloc (.cells (zeros8 64).toArray 5) := ⟨_, rfl⟩
  rw [← hw4]
  have hz4 : w4.heap.size = w2.heap.size + 2 := by rw [hw4]; simp
  have hi4 : w4.heap[w2.heap.size]? = some (.cells (fillTo mi 0).toArray 5 (0, 0)) := by rw [hw4, fill_zero]; exact heap_alloc2_old _ _ _
  have ho4 : w4.heap[w2.heap.size + 1]? = some (.cells (fillTo mo 0).toArray 5 (0, 0)) := by rw [hw4, fill_zero]; exact heap_alloc2_new _ _ _
  have hb4 : Below w2.heap.size w2 w4 := by rw [hw4]; exact ((Below.refl _ _).alloc (Nat.le_refl _) _).alloc (by simp) _
  clear hw4
  go_loopw [8] (fun iv wr => ∃ i : Nat, i ≤ 64 ∧ iv = .int .i64 i ∧ wr.heap[w2.heap.size]? = some (.cells (fillTo mi i).toArray 5 (0, 0)) ∧ wr.heap[w2.heap.size + 1]? = some (.cells (fillTo mo i).toArray 5 (0, 0)) ∧ Below w2.heap.size w2 wr) (fun iv _ => 64 - (intOf iv).toNat)
  case atStart => exact ⟨0, by omega, rfl, hi4, ho4, hb4⟩
  case round =>
    clear hi4 ho4 hb4 hz4
    obtain ⟨i, hi64, rfl, hI, hO, hB⟩ := hrel
    by_cases hlt : i < 64
    · have ci : wr.cell? ⟨w2.heap.size, i, none⟩ = some (.int .u8 0) := by rw [cell_of_list hI, fill_get HLI.out hlt]
      have co : wr.cell? ⟨w2.heap.size + 1, i, none⟩ = some (.int .u8 0) := by rw [cell_of_list hO, fill_get HLO.out hlt]
      have fi := free_of_list hI i
      have fo := free_of_list hO i
      have HI := Lib.hid hI
      have HO := Lib.hid hO
      have HB := Lib.hid hB
      have ei := GI.out i hlt
      have eo := GO.out i hlt
      clear hI hO hB
      have rel : ∀ (b : UInt8), mi.getD i 0 = Dig.x8 b 0x36 → mo.getD i 0 = Dig.x8 b 0x5c → ((wr.setCell ⟨w2.heap.size, i, none⟩ (.int .u8 (Dig.x8 b 0x36).toNat)).setCell ⟨w2.heap.size + 1, i, none⟩ (.int .u8 (Dig.x8 b 0x5c).toNat)).heap[w2.heap.size]? = some (.cells (fillTo mi (i + 1)).toArray 5 (0, 0)) ∧
          ((wr.setCell ⟨w2.heap.size, i, none⟩ (.int .u8 (Dig.x8 b 0x36).toNat)).setCell ⟨w2.heap.size + 1, i, none⟩ (.int .u8 (Dig.x8 b 0x5c).toNat)).heap[w2.heap.size + 1]? = some (.cells (fillTo mo (i + 1)).toArray 5 (0, 0)) ∧
          Below w2.heap.size w2 ((wr.setCell ⟨w2.heap.size, i, none⟩ (.int .u8 (Dig.x8 b 0x36).toNat)).setCell ⟨w2.heap.size + 1, i, none⟩ (.int .u8 (Dig.x8 b 0x5c).toNat)) := by
        intro b h1 h2
        refine ⟨?_, ?_, (HB.out.setCell (p := ⟨w2.heap.size, i, none⟩) (Nat.le_refl _) _).setCell (p := ⟨w2.heap.size + 1, i, none⟩) (by simp) _⟩
        · rw [heap_setCell_other _ _ _ _ (by simp), set_list HI.out, ← fill_step HLI.out hlt, h1]; rfl
        · rw [set_list (cs := fillTo mo i) (by rw [heap_setCell_other _ _ _ _ (by simp)]; exact HO.out), ← fill_step HLO.out hlt, h2]; rfl
      have REL := Lib.hid rel
      clear rel
      by_cases hki : i < k.size
      · rw [if_pos hki] at ei eo
        have EI := Lib.hid ei
        have EO := Lib.hid eo
        clear ei eo
        go_wp2_with fail
        go_roundw
        case rel => exact ⟨i + 1, by omega, by go_num, REL.out _ EI.out EO.out⟩
        case measure => simp [intOf]; omega
      · rw [if_neg hki] at ei eo
        have EI := Lib.hid ei
        have EO := Lib.hid eo
        clear ei eo
        go_wp2_with fail
        go_roundw
        case rel => exact ⟨i + 1, by omega, by go_num, REL.out 0 EI.out EO.out⟩
        case measure => simp [intOf]; omega
    · obtain rfl : i = 64 := by omega
      rw [fill_all HLI.out] at hI
      rw [fill_all HLO.out] at hO
      obtain ⟨w5, rfl⟩ : ∃ x, x = wr := ⟨_, rfl⟩
      have hC : w5.heap[w1.heap.size]? = some (.cells rW.toArray 69 (0, 0)) := (hB.block _ (lt_of_heap h2.out)).trans h2.out
      obtain ⟨qi, hqi⟩ : ∃ q : ByteArray, q = ⟨mi.toArray⟩ := ⟨_, rfl⟩
      obtain ⟨qo, hqo⟩ : ∃ q : ByteArray, q = ⟨mo.toArray⟩ := ⟨_, rfl⟩
      have hqis : qi.size = 64 := by rw [← size_toList, hqi]; simpa using HLI.out
      have hqos : qo.size = 64 := by rw [← size_toList, hqo]; simpa using HLO.out
      have hS0 : ∀ v, Below w5.heap.size w5 v → MacS w5 w2.heap.size (w2.heap.size + 1) w1.heap.size qi qo v := fun v hv => by
        rw [hqi, hqo]; exact mac_of hI hO hC HLI.out HLO.out hv
      have S0 := Lib.hid hS0
      have HB5 := Lib.hid (HBW.out.trans (hB.mono HBW.out.size))
      have HQI := Lib.hid hqi
      have HQO := Lib.hid hqo
      have hadd : (qi ++ s).size = qi.size + s.size := ByteArray.size_append
      have hx1 : ¬ 9223372036854775807 < 64 + s.size := by omega
      have HA1 := Lib.hid (show (qi ++ s).size ≤ 140737488355200 by omega)
      clear hI hO hB hC hS0 hqi hqo hlt
      go_wp2_with fail
      go_region_held3 (fun v => MacS w5 w2.heap.size (w2.heap.size + 1) w1.heap.size qi qo v) (first | assumption | exact S0.out _ (Below.refl _ _).drew | exact S0.out _ (B6.out) | exact S0.out _ (B7.out)) (first | (go_at_call 41; (with_reducible refine (sum_q hsum (qi ++ s) HA1.out _).mono ?_); rintro e w6 ⟨q1, rfl, hq1, hz1, hb6⟩; have HA2 := Lib.hid (show (qo ++ q1).size ≤ 140737488355200 by rw [ByteArray.size_append]; omega); have B6 := Lib.hid ((Below.refl w5.heap.size w5).drew.trans hb6)) | (go_at_call 41; (with_reducible refine (sum_q hsum (qo ++ q1) HA2.out _).mono ?_); rintro e w7 ⟨q2, rfl, hq2, hz2, hb7⟩; have B7 := Lib.hid (B6.out.trans (hb7.mono B6.out.size))))
      all_goals
        go_wp2_with fail
        go_ret
        refine ⟨?_, HB5.out.trans (B7.out.mono HB5.out.size)⟩
        have e2 : q2 = ⟨(Dig.sum256 (mo ++ Dig.sum256 (mi ++ s.data.toList))).toArray⟩ := by
          have h2 := hq2.out
          have h1 := hq1.out
          rw [show (qo ++ q1 : ByteArray).data.toList = qo.data.toList ++ q1.data.toList by simp, h1, show (qi ++ s : ByteArray).data.toList = qi.data.toList ++ s.data.toList by simp, HQI.out, HQO.out] at h2
          simp only [] at h2
          rw [← h2]
        rw [← e2]
        rfl
set_option maxRecDepth 100000 in
set_option maxHeartbeats 4000000 in
theorem rMAC_long (hsum : SumC) (k s : ByteArray) (hk : 64 < k.size) (hk2 : k.size ≤ 140737488355200) (hs : s.size ≤ 140737488355000) (w : World) :
    Calls Try.prog 23 #[.string k, .string s] w fun e w' => e = .returned (.string ⟨(Dig.sum256 (Dig.masked (Dig.sum256 k.data.toList) 0x5c ++ Dig.sum256 (Dig.masked (Dig.sum256 k.data.toList) 0x36 ++ s.data.toList))).toArray⟩) ∧ Below w.heap.size w w' := by
  obtain ⟨mi, hmi⟩ : ∃ m, m = Dig.masked (Dig.sum256 k.data.toList) 0x36 := ⟨_, rfl⟩
  obtain ⟨mo, hmo⟩ : ∃ m, m = Dig.masked (Dig.sum256 k.data.toList) 0x5c := ⟨_, rfl⟩
  have hl32 := Dig.length_sum256 k.data.toList
  have hli : mi.length = 64 := by rw [hmi]; exact Dig.length_masked _ _ (by omega)
  have hlo : mo.length = 64 := by rw [hmo]; exact Dig.length_masked _ _ (by omega)
  have HMI := Lib.hid hmi
  have HMO := Lib.hid hmo
  rw [← hmi, ← hmo]
  have HLI := Lib.hid hli
  have HLO := Lib.hid hlo
  clear hmi hmo hli hlo hl32
  have hrl := length_rW
  have HRL := Lib.hid hrl
  clear hrl
  have m64 := make64
  go_enter Try.func23, Try.ntmps23
  go_wp2_with fail
  refine (rwords_rW _).mono ?_
  rintro e w1 ⟨rfl, hb1⟩
  have HB1 := Lib.hid hb1
  clear hb1
  go_wp2_with (first | (refine wpList_alloc rfl 69 rfl (zeros 72) alloc72 ?_; go_frame) | (refine wpList_store_whole rfl 69 _ _ rfl w1.heap.size rW (zeros 72) 69 rfl rfl (heap_alloc_new _ _) (by rw [HRL.out, length_zeros]) (by rw [HRL.out]; kernel_rfl) rW_ones ?_; intro w2 h2 k2 s2; go_frame) | (refine wpList_load_mid rfl 69 (.tmp 5) rfl w1.heap.size 0 rfl rW _ (range_of_list h2.out) Try.underlying69 rfl (by rw [HRL.out]; kernel_rfl) ?_; go_frame) | fail)
  refine (sum_q hsum k hk2 _).mono ?_
  rintro e w3 ⟨q0, rfl, hq0, hz0, hb3⟩
  have HBW2 := Lib.hid (below_kept ((HB1.out.alloc HB1.out.size _)) k2.out HB1.out.size (by simp; have := HB1.out.size; omega))
  have HBW := Lib.hid (HBW2.out.trans (hb3.mono HBW2.out.size))
  have HC3 := Lib.hid ((hb3.block _ (lt_of_heap h2.out)).trans h2.out)
  have hq64 : q0.size ≤ 64 := by omega
  have GI : Hid (∀ i, i < 64 → mi.getD i 0 = Dig.x8 (if i < q0.size then strAt q0 i else 0) 0x36) := Lib.hid (fun i hi => by rw [HMI.out, ← hq0.out]; exact masked_get q0 _ hq64 i hi)
  have GO : Hid (∀ i, i < 64 → mo.getD i 0 = Dig.x8 (if i < q0.size then strAt q0 i else 0) 0x5c) := Lib.hid (fun i hi => by rw [HMO.out, ← hq0.out]; exact masked_get q0 _ hq64 i hi)
  clear hb3 hz0
  go_wp2_with fail
  obtain ⟨w4, hw4⟩ : ∃ x, x = (w3.alloc (.cells (zeros8 64).toArray 5)).alloc (.cells (zeros8 64).toArray 5) := ⟨_, rfl⟩
  rw [← hw4]
  have hz4 : w4.heap.size = w3.heap.size + 2 := by rw [hw4]; simp
  have hi4 : w4.heap[w3.heap.size]? = some (.cells (fillTo mi 0).toArray 5 (0, 0)) := by rw [hw4, fill_zero]; exact heap_alloc2_old _ _ _
  have ho4 : w4.heap[w3.heap.size + 1]? = some (.cells (fillTo mo 0).toArray 5 (0, 0)) := by rw [hw4, fill_zero]; exact heap_alloc2_new _ _ _
  have hb4 : Below w3.heap.size w3 w4 := by rw [hw4]; exact ((Below.refl _ _).alloc (Nat.le_refl _) _).alloc (by simp) _
  clear hw4
  go_loopw [8] (fun iv wr => ∃ i : Nat, i ≤ 64 ∧ iv = .int .i64 i ∧ wr.heap[w3.heap.size]? = some (.cells (fillTo mi i).toArray 5 (0, 0)) ∧ wr.heap[w3.heap.size + 1]? = some (.cells (fillTo mo i).toArray 5 (0, 0)) ∧ Below w3.heap.size w3 wr) (fun iv _ => 64 - (intOf iv).toNat)
  case atStart => exact ⟨0, by omega, rfl, hi4, ho4, hb4⟩
  case round =>
    clear hi4 ho4 hb4 hz4
    obtain ⟨i, hi64, rfl, hI, hO, hB⟩ := hrel
    by_cases hlt : i < 64
    · have ci : wr.cell? ⟨w3.heap.size, i, none⟩ = some (.int .u8 0) := by rw [cell_of_list hI, fill_get HLI.out hlt]
      have co : wr.cell? ⟨w3.heap.size + 1, i, none⟩ = some (.int .u8 0) := by rw [cell_of_list hO, fill_get HLO.out hlt]
      have fi := free_of_list hI i
      have fo := free_of_list hO i
      have HI := Lib.hid hI
      have HO := Lib.hid hO
      have HB := Lib.hid hB
      have ei := GI.out i hlt
      have eo := GO.out i hlt
      clear hI hO hB
      have rel : ∀ (b : UInt8), mi.getD i 0 = Dig.x8 b 0x36 → mo.getD i 0 = Dig.x8 b 0x5c → ((wr.setCell ⟨w3.heap.size, i, none⟩ (.int .u8 (Dig.x8 b 0x36).toNat)).setCell ⟨w3.heap.size + 1, i, none⟩ (.int .u8 (Dig.x8 b 0x5c).toNat)).heap[w3.heap.size]? = some (.cells (fillTo mi (i + 1)).toArray 5 (0, 0)) ∧
          ((wr.setCell ⟨w3.heap.size, i, none⟩ (.int .u8 (Dig.x8 b 0x36).toNat)).setCell ⟨w3.heap.size + 1, i, none⟩ (.int .u8 (Dig.x8 b 0x5c).toNat)).heap[w3.heap.size + 1]? = some (.cells (fillTo mo (i + 1)).toArray 5 (0, 0)) ∧
          Below w3.heap.size w3 ((wr.setCell ⟨w3.heap.size, i, none⟩ (.int .u8 (Dig.x8 b 0x36).toNat)).setCell ⟨w3.heap.size + 1, i, none⟩ (.int .u8 (Dig.x8 b 0x5c).toNat)) := by
        intro b h1 h2
        refine ⟨?_, ?_, (HB.out.setCell (p := ⟨w3.heap.size, i, none⟩) (Nat.le_refl _) _).setCell (p := ⟨w3.heap.size + 1, i, none⟩) (by simp) _⟩
        · rw [heap_setCell_other _ _ _ _ (by simp), set_list HI.out, ← fill_step HLI.out hlt, h1]; rfl
        · rw [set_list (cs := fillTo mo i) (by rw [heap_setCell_other _ _ _ _ (by simp)]; exact HO.out), ← fill_step HLO.out hlt, h2]; rfl
      have REL := Lib.hid rel
      clear rel
      by_cases hki : i < q0.size
      · rw [if_pos hki] at ei eo
        have EI := Lib.hid ei
        have EO := Lib.hid eo
        clear ei eo
        go_wp2_with fail
        go_roundw
        case rel => exact ⟨i + 1, by omega, by go_num, REL.out _ EI.out EO.out⟩
        case measure => simp [intOf]; omega
      · rw [if_neg hki] at ei eo
        have EI := Lib.hid ei
        have EO := Lib.hid eo
        clear ei eo
        go_wp2_with fail
        go_roundw
        case rel => exact ⟨i + 1, by omega, by go_num, REL.out 0 EI.out EO.out⟩
        case measure => simp [intOf]; omega
    · obtain rfl : i = 64 := by omega
      rw [fill_all HLI.out] at hI
      rw [fill_all HLO.out] at hO
      obtain ⟨w5, rfl⟩ : ∃ x, x = wr := ⟨_, rfl⟩
      have hC : w5.heap[w1.heap.size]? = some (.cells rW.toArray 69 (0, 0)) := (hB.block _ (lt_of_heap HC3.out)).trans HC3.out
      obtain ⟨qi, hqi⟩ : ∃ q : ByteArray, q = ⟨mi.toArray⟩ := ⟨_, rfl⟩
      obtain ⟨qo, hqo⟩ : ∃ q : ByteArray, q = ⟨mo.toArray⟩ := ⟨_, rfl⟩
      have hqis : qi.size = 64 := by rw [← size_toList, hqi]; simpa using HLI.out
      have hqos : qo.size = 64 := by rw [← size_toList, hqo]; simpa using HLO.out
      have hS0 : ∀ v, Below w5.heap.size w5 v → MacS w5 w3.heap.size (w3.heap.size + 1) w1.heap.size qi qo v := fun v hv => by
        rw [hqi, hqo]; exact mac_of hI hO hC HLI.out HLO.out hv
      have S0 := Lib.hid hS0
      have HB5 := Lib.hid (HBW.out.trans (hB.mono HBW.out.size))
      have HQI := Lib.hid hqi
      have HQO := Lib.hid hqo
      have hadd : (qi ++ s).size = qi.size + s.size := ByteArray.size_append
      have hx1 : ¬ 9223372036854775807 < 64 + s.size := by omega
      have HA1 := Lib.hid (show (qi ++ s).size ≤ 140737488355200 by omega)
      clear hI hO hB hC hS0 hqi hqo hlt
      go_wp2_with fail
      go_region_held3 (fun v => MacS w5 w3.heap.size (w3.heap.size + 1) w1.heap.size qi qo v) (first | assumption | exact S0.out _ (Below.refl _ _).drew | exact S0.out _ (B6.out) | exact S0.out _ (B7.out)) (first | (go_at_call 41; (with_reducible refine (sum_q hsum (qi ++ s) HA1.out _).mono ?_); rintro e w6 ⟨q1, rfl, hq1, hz1, hb6⟩; have HA2 := Lib.hid (show (qo ++ q1).size ≤ 140737488355200 by rw [ByteArray.size_append]; omega); have B6 := Lib.hid ((Below.refl w5.heap.size w5).drew.trans hb6)) | (go_at_call 41; (with_reducible refine (sum_q hsum (qo ++ q1) HA2.out _).mono ?_); rintro e w7 ⟨q2, rfl, hq2, hz2, hb7⟩; have B7 := Lib.hid (B6.out.trans (hb7.mono B6.out.size))))
      all_goals
        go_wp2_with fail
        go_ret
        refine ⟨?_, HB5.out.trans (B7.out.mono HB5.out.size)⟩
        have e2 : q2 = ⟨(Dig.sum256 (mo ++ Dig.sum256 (mi ++ s.data.toList))).toArray⟩ := by
          have h2 := hq2.out
          have h1 := hq1.out
          rw [show (qo ++ q1 : ByteArray).data.toList = qo.data.toList ++ q1.data.toList by simp, h1, show (qi ++ s : ByteArray).data.toList = qi.data.toList ++ s.data.toList by simp, HQI.out, HQO.out] at h2
          simp only [] at h2
          rw [← h2]
        rw [← e2]
        rfl
theorem rMAC_any (hsum : SumC) (k s : ByteArray) (hk : k.size ≤ 140737488355200) (hs : s.size ≤ 140737488355000) (w : World) :
    Calls Try.prog 23 #[.string k, .string s] w fun e w' => e = .returned (.string ⟨(Dig.mac k.data.toList s.data.toList).toArray⟩) ∧ Below w.heap.size w w' := by
  rw [Dig.mac_eq, Dig.shortKey, size_toList]
  by_cases h : 64 < k.size
  · rw [if_pos h]; exact rMAC_long hsum k s h hk hs w
  · rw [if_neg h]; exact rMAC_short hsum k s (by omega) hs w
end Go.Proofs.Ytjalmmhbjilabaa
