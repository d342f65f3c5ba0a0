/- The walk of the statement DiskKeeps, its own text. -/
import Derived.Test.YtjkigndhbbeolaaDKeeps
import Derived.Test.YtjkigndhbbeolaaDTearsW
namespace Go.Proofs.Ytjkigndhbbeolaa
open Go.RowKit

/-- The disk and the array of what is wanted. -/
structure KeepAt (w : World) (p d wb : Nat) (S : List (List UInt8)) (ps : List Dk.Wr) (cs : List Value) (m : Nat) (wr : World) : Prop where
  ex : ∃ F acts, acts ≤ m ∧ Rack w p d F 8 S ps acts wr ∧ Away wb p F wr
  wants : wr.heap[wb]? = some (.cells cs.toArray 58 (0, 0))
theorem KeepAt.old {w : World} {p d wb : Nat} {S : List (List UInt8)} {ps : List Dk.Wr} {cs : List Value} {m : Nat} {wr : World} (h : KeepAt w p d wb S ps cs m wr) : Below w.heap.size w wr := by
  obtain ⟨F, acts, _, h, _⟩ := h.ex; exact h.old
/-- A store into the array. -/
theorem KeepAt.put {w : World} {p d wb : Nat} {S : List (List UInt8)} {ps : List Dk.Wr} {cs : List Value} {m : Nat} {wr : World} (h : KeepAt w p d wb S ps cs m wr) (hwb : w.heap.size ≤ wb) (i : Nat) (v : Value) : KeepAt w p d wb S ps (cs.set i v) m (wr.setCell ⟨wb, i, none⟩ v) := by
  obtain ⟨F, acts, h1, h2, h3⟩ := h.ex
  have e : ∀ k, k ≠ wb → (wr.setCell ⟨wb, i, none⟩ v).heap[k]? = wr.heap[k]? := fun k hk => heap_setCell_other _ _ _ _ hk
  have hz : (wr.setCell ⟨wb, i, none⟩ v).heap.size = wr.heap.size := by simp [World.setCell]
  refine ⟨⟨F, acts, h1, ⟨h2.pow.keep (e p (fun hh => h3.2.1 hh.symm)), h2.liv.keep (by rw [hz]; exact Nat.le_refl _) (fun x hx => e x (fun hh => h3.2.2 (hh ▸ hx))), h2.old.setCell hwb _, h2.pn, h2.fn⟩, ⟨by rw [hz]; exact h3.1, h3.2⟩⟩, set_list h.wants i v⟩

theorem KeepAt.back {w : World} {p d wb : Nat} {S : List (List UInt8)} {ps : List Dk.Wr} {cs : List Value} {m : Nat} {wr w' : World} {F F' : List Nat} {S' : List (List UInt8)} {ps' : List Dk.Wr} {acts m' : Nat} (h : KeepAt w p d wb S ps cs m wr) (ha : Away wb p F wr) (hr : Rack w p d F' 8 S' ps' acts w') (hs : Stays p F F' wr w') (hm : acts ≤ m') : KeepAt w p d wb S' ps' cs m' w' :=
  ⟨⟨F', acts, hm, hr, (hs wb ha).1⟩, (hs wb ha).2.trans h.wants⟩
section
variable {w : World} {p d wb : Nat} {S : List (List UInt8)} {ps : List Dk.Wr} {cs : List Value} {m : Nat} {wr : World}
theorem KeepAt.sector (h : KeepAt w p d wb S ps cs m wr) (s q : ByteArray) (hs : s.size ≤ 9223372036854775807) (hq : q.data.toList = Dk.sector s.data.toList) :
    Calls Try.prog 15 #[.string s] wr fun e w' => e = .returned (.string q) ∧ KeepAt w p d wb S ps cs m w' := by
  obtain ⟨F, acts, h1, h2, h3⟩ := h.ex
  exact (h2.sector2 s q hs hq).mono fun _ _ ⟨he, hr, hs⟩ => ⟨he, h.back h3 hr hs h1⟩
theorem KeepAt.write (h : KeepAt w p d wb S ps cs m wr) (x : Int) (a : Nat) (hx : x = a) (q : ByteArray) (ha : a < 8) (hq : q.size = 64) (hfew : ps.length < 1000000) (hm : m ≤ 1000000) :
    Calls Try.prog 24 #[.pointer (some ⟨d, 0, none⟩), .int .i64 x, .string q] wr fun e w' => e = .returned .nilIface ∧ KeepAt w p d wb S (ps ++ [(a, q.data.toList)]) cs (m + 1) w' := by
  subst hx
  obtain ⟨F, acts, h1, h2, h3⟩ := h.ex
  exact (h2.write2 a q ha hq hfew (by omega)).mono fun _ _ ⟨he, F', hr, hs⟩ => ⟨he, h.back h3 hr hs (by omega)⟩
theorem KeepAt.flush (h : KeepAt w p d wb S ps cs m wr) (hm : m ≤ 1000000) :
    Calls Try.prog 25 #[.pointer (some ⟨d, 0, none⟩)] wr fun e w' => e = .returned .nilIface ∧ KeepAt w p d wb (Dk.settleTo S ps (fun _ => 64) ps.length) [] cs (m + 1) w' := by
  obtain ⟨F, acts, h1, h2, h3⟩ := h.ex
  exact (h2.flush2 (by omega)).mono fun _ _ ⟨he, hr, hs⟩ => ⟨he, h.back h3 hr hs (by omega)⟩
theorem KeepAt.lose (h : KeepAt w p d wb S ps cs m wr) :
    Calls Try.prog 27 #[.pointer (some ⟨d, 0, none⟩), .slice none 0 0, .int .i64 0] wr fun e w' => e = .returned (.tuple #[]) ∧ KeepAt w p d wb (Dk.settleTo S ps (Dk.keptAt [] (Dk.clamp 0)) ps.length) [] cs m w' := by
  obtain ⟨F, acts, h1, h2, h3⟩ := h.ex
  exact h2.lose2.mono fun _ _ ⟨he, hr, hs⟩ => ⟨he, h.back h3 hr hs h1⟩
theorem KeepAt.read (h : KeepAt w p d wb S ps cs m wr) (x : Int) (a : Nat) (hx : x = a) (ha : a < 8) (q : ByteArray) (hq : q.data.toList = Dk.readAt S ps a) :
    Calls Try.prog 13 #[.pointer (some ⟨d, 0, none⟩), .int .i64 x] wr fun e w' => e = .returned (.tuple #[.string q, .nilIface]) ∧ wr = w' := by
  subst hx
  obtain ⟨F, acts, h1, h2, h3⟩ := h.ex
  exact h2.read a ha q hq
theorem KeepAt.pending (h : KeepAt w p d wb S ps cs m wr) (k : Nat) (hk : k = ps.length) : Calls Try.prog 26 #[.pointer (some ⟨d, 0, none⟩)] wr fun e w' => e = .returned (.int .i64 k) ∧ wr = w' := by
  obtain ⟨F, acts, h1, h2, h3⟩ := h.ex
  exact h2.pending k hk
theorem KeepAt.image (h : KeepAt w p d wb S ps cs m wr) (q : ByteArray) (hq : q.data.toList = S.flatten) :
    Calls Try.prog 16 #[.pointer (some ⟨d, 0, none⟩)] wr fun e w' => e = .returned (.string q) ∧ KeepAt w p d wb S ps cs m w' := by
  obtain ⟨F, acts, h1, h2, h3⟩ := h.ex
  exact (Image_ok d p F 8 S ps 0 q hq wr h2.liv).mono fun _ _ ⟨he, hb⟩ => ⟨he, h.back h3 (h2.below hb) (Stays.below hb) h1⟩
theorem KeepAt.cell (h : KeepAt w p d wb S ps cs m wr) {i : Nat} {v : Value} (hv : cs[i]? = some v) : wr.cell? ⟨wb, i, none⟩ = some v := by rw [cell_of_list h.wants, hv]
theorem KeepAt.free (h : KeepAt w p d wb S ps cs m wr) (i : Nat) : wr.frozen? ⟨wb, i, none⟩ = false := free_of_list h.wants i
end
theorem take_snoc' {S : List (List UInt8)} {k : Nat} (hk : k < S.length) : (S.take (k + 1)).flatten = (S.take k).flatten ++ S.getD k [] := by
  rw [List.take_succ_eq_append_getElem hk, List.flatten_append, getD_in hk]; simp
theorem append_list' (a b : ByteArray) : (a ++ b).data.toList = a.data.toList ++ b.data.toList := by simp
set_option maxRecDepth 100000 in
set_option maxHeartbeats 4000000 in
theorem Keeps_walk (a0 : Option Addr) (b off len cap : Nat) (ss : List ByteArray) (ha : len = 0 ∨ a0 = some ⟨b, off, none⟩) (hss : ∀ i, i < len → (ss.getD i ByteArray.empty).size ≤ 9223372036854775807)
    (a1 : Option Addr) (b1 off1 len1 cap1 : Nat) (tt : List ByteArray) (ha1 : len1 = 0 ∨ a1 = some ⟨b1, off1, none⟩) (htt : ∀ i, i < len1 → (tt.getD i ByteArray.empty).size ≤ 9223372036854775807)
    (hlen : len ≤ 9223372036854775807) (hlen1 : len1 ≤ 9223372036854775807) (w : World) (hb : len = 0 ∨ b < w.heap.size) (hb1 : len1 = 0 ∨ b1 < w.heap.size)
    (hc : ∀ i, i < len → w.cell? ⟨b, off + i, none⟩ = some (.string (ss.getD i ByteArray.empty))) (hc1 : ∀ i, i < len1 → w.cell? ⟨b1, off1 + i, none⟩ = some (.string (tt.getD i ByteArray.empty))) :
    Calls Try.prog 5 #[.slice a0 len cap, .slice a1 len1 cap1] w fun e w' => e = .returned (.bool true) ∧ Below w.heap.size w w' := by
  obtain ⟨qz, hqz⟩ : ∃ qz, qz = strOf (List.replicate 64 (0 : UInt8)) := ⟨_, rfl⟩
  have HQZ := Lib.hid hqz
  have HA := Lib.hid ha
  have HSS := Lib.hid hss
  have Hb := Lib.hid hb
  have HC := Lib.hid hc
  have HA1 := Lib.hid ha1
  have HTT := Lib.hid htt
  have Hb1 := Lib.hid hb1
  have HC1 := Lib.hid hc1
  clear ha hss hb hc hqz ha1 htt hb1 hc1
  go_enter Try.func5, Try.ntmps5
  go_wp2_with fail
  refine (known_true _).mono ?_
  rintro e w1 ⟨rfl, hb1⟩
  have B1 := Lib.hid hb1
  clear hb1
  go_wp2_with fail
  refine (rack_new _).mono ?_
  rintro e w2 ⟨p, d, F, rfl, hr2⟩
  have R2 := Lib.hid (hr2.back B1.out)
  clear hr2 B1
  go_wp2_with fail
  have hal : Below w2.heap.size w2 (w2.alloc (.cells (blankC 0).toArray 58)) := (Below.refl _ _).alloc (Nat.le_refl _) _
  have hk3 : KeepAt w p d w2.heap.size (blankS 8) [] (blankC 0) 0 (w2.alloc (.cells (blankC 0).toArray 58)) := by
    have hF : w2.heap.size ∉ F := fun hm => by
      obtain ⟨_, _, _, _, _, _, _, _, _, h7⟩ := R2.out.liv
      exact Nat.lt_irrefl _ (h7 _ hm)
    exact ⟨⟨F, 0, Nat.le_refl _, R2.out.below hal, ⟨by simp, by have := R2.out.pow.lt; omega, hF⟩⟩, heap_alloc_new _ _⟩
  have hwb := R2.out.old.size
  rw [blankC_zero] at hk3
  obtain ⟨w3, hw3⟩ : ∃ w3, w3 = w2.alloc (.cells #[.string ⟨#[]⟩, .string ⟨#[]⟩, .string ⟨#[]⟩, .string ⟨#[]⟩, .string ⟨#[]⟩, .string ⟨#[]⟩, .string ⟨#[]⟩, .string ⟨#[]⟩] 58) := ⟨_, rfl⟩
  have hk3' : KeepAt w p d w2.heap.size (blankS 8) [] (blankC 0) 0 w3 := by rw [hw3, blankC_zero]; exact hk3
  rw [← hw3]
  clear hw3 hk3 hal
  generalize w2.heap.size = wb at *
  have K3 := Lib.hid hk3'
  clear hk3' R2
  go_loopw [9] (fun i wr => ∃ j : Nat, j ≤ 8 ∧ i = .int .i64 j ∧ KeepAt w p d wb (blankS 8) [] (blankC j) 0 wr) (fun i _ => 8 - (intOf i).toNat)
  case atStart => exact ⟨0, by omega, rfl, K3.out⟩
  case round =>
    clear K3
    obtain ⟨j, hj, rfl, hK⟩ := hrel
    by_cases hlt : j < 8
    · have K := Lib.hid hK
      clear hK
      go_wp2_with fail
      refine (K.out.sector ⟨#[]⟩ qz (by decide) (by rw [HQZ.out, strOf_list]; exact Dk.sector_nil.symm)).mono ?_
      rintro e w4 ⟨rfl, hK4⟩
      have cj := hK4.cell (i := j) (List.getElem?_eq_getElem (by rw [length_blankC]; exact hlt))
      have fj := hK4.free j
      have K4 := Lib.hid hK4
      clear hK4 K
      go_wp2_with fail
      go_roundw
      case rel => exact ⟨j + 1, by omega, by go_num, by rw [blankC_set j hlt, ← HQZ.out]; exact K4.out.put hwb j _⟩
      case measure => simp [intOf]; omega
    · have hj8 : j = 8 := by omega
      rw [hj8, blankC_all] at hK
      clear hj8
      have K := Lib.hid hK
      clear hK
      go_wp2_with fail
      obtain ⟨wA, hwA⟩ : ∃ wA, wA = wr := ⟨_, rfl⟩
      rw [← hwA] at K ⊢
      clear hwA
      go_loopw [10] (fun i wr => ∃ j : Nat, j ≤ len ∧ j ≤ 100 ∧ i = .int .i64 j ∧ KeepAt w p d wb (blankS 8) (psOf (· % 8) ss j) (wantC (psOf (· % 8) ss j)) j wr) (fun i _ => 100 - (intOf i).toNat)
      case atStart => exact ⟨0, by omega, by omega, rfl, by rw [psOf_zero]; exact K.out⟩
      case round =>
        clear K
        obtain ⟨j, hjl, hj, rfl, hK⟩ := hrel
        by_cases hlt : j < len ∧ j < 100
        · obtain ⟨hlt1, hlt2⟩ := hlt
          obtain rfl : a0 = some ⟨b, off, none⟩ := by rcases HA.out with h | h; omega; exact h
          have hbw : b < w.heap.size := by rcases Hb.out with h | h; omega; exact h
          obtain ⟨x, hx⟩ : ∃ x, x = ss.getD j ByteArray.empty := ⟨_, rfl⟩
          obtain ⟨qs, hqs⟩ : ∃ qs, qs = strOf (Dk.sector x.data.toList) := ⟨_, rfl⟩
          have cx : ∀ v, KeepAt w p d wb (blankS 8) (psOf (· % 8) ss j) (wantC (psOf (· % 8) ss j)) j v ∨ KeepAt w p d wb (blankS 8) (psOf (· % 8) ss (j + 1)) (wantC (psOf (· % 8) ss j)) (j + 1) v → v.cell? ⟨b, off + j, none⟩ = some (.string x) := fun v hv => by
            have ho : Below w.heap.size w v := by rcases hv with hv | hv <;> exact hv.old
            rw [ho.cell (p := ⟨b, off + j, none⟩) hbw, HC.out j hlt1, hx]
          have hxs : x.size ≤ 9223372036854775807 := by rw [hx]; exact HSS.out j hlt1
          have hq64 : qs.size = 64 := by rw [hqs, strOf_size, Dk.length_sector]
          have hql : qs.data.toList = Dk.sector x.data.toList := by rw [hqs, strOf_list]
          have hps : psOf (· % 8) ss (j + 1) = psOf (· % 8) ss j ++ [(j % 8, qs.data.toList)] := by rw [psOf_succ, hql, hx]
          have c0 := cx wr (Or.inl hK)
          have K := Lib.hid hK
          have CX := Lib.hid cx
          have HQ64 := Lib.hid hq64
          have HQL := Lib.hid hql
          have HPS := Lib.hid hps
          have HQS := Lib.hid hqs
          have HX := Lib.hid hx
          clear hK cx hq64 hql hps hqs hx
          go_wp2_with fail
          refine (K.out.sector x qs hxs HQL.out).mono ?_
          rintro e w4 ⟨rfl, hK4⟩
          have K4 := Lib.hid hK4
          clear hK4 K c0
          go_wp2_with fail
          refine (K4.out.write _ (j % 8) (by omega) qs (Nat.mod_lt _ (by omega)) HQ64.out (by rw [length_psOf]; omega) (by omega)).mono ?_
          rintro e w5 ⟨rfl, hK5⟩
          rw [← HPS.out] at hK5
          have c5 := CX.out w5 (Or.inr hK5)
          have K5 := Lib.hid hK5
          clear hK5 K4
          go_wp2_with fail
          refine (K5.out.sector x qs hxs HQL.out).mono ?_
          rintro e w6 ⟨rfl, hK6⟩
          have cj := hK6.cell (i := j % 8) (wantC_at _ (Nat.mod_lt _ (by omega)))
          have fj := hK6.free (j % 8)
          have K6 := Lib.hid hK6
          clear hK6 K5 c5
          go_wp2_with fail
          go_roundw
          case rel => exact ⟨j + 1, by omega, by omega, by go_num, by rw [HPS.out, wantC_snoc _ _ _ (Nat.mod_lt _ (by omega)), HQL.out, ← HQS.out, ← HQL.out, ← HPS.out]; exact K6.out.put hwb (j % 8) _⟩
          case measure => simp [intOf]; omega
        · have K := Lib.hid hK
          clear hK
          rcases (show ¬ j < len ∨ (j < len ∧ ¬ j < 100) by omega) with hx | ⟨hx1, hx2⟩
          all_goals
            obtain ⟨P1, hP1⟩ : ∃ P1, P1 = psOf (· % 8) ss j := ⟨_, rfl⟩
            have hp1 : ∀ x ∈ P1, x.1 < 8 ∧ x.2.length = 64 := by rw [hP1]; exact psOf_ok (fun i => Nat.mod_lt _ (by omega)) ss j
            have hp1l : P1.length = j := by rw [hP1, length_psOf]
            rw [← hP1] at K
            have HP1 := Lib.hid hp1
            have HP1L := Lib.hid hp1l
            clear hP1 hp1 hp1l
            obtain ⟨S1, hS1⟩ : ∃ S1, S1 = keptS P1 := ⟨_, rfl⟩
            have hSl : S1.length = 8 := by rw [hS1, keptS_len]
            have hSw : ∀ x ∈ S1, x.length = 64 := by rw [hS1]; exact keptS_wide HP1.out
            have hSa : ∀ i, S1.getD i [] = Dk.readAt (blankS 8) P1 i := fun i => by rw [hS1, keptS_at HP1.out]
            have HS1 := Lib.hid hS1
            have HSL := Lib.hid hSl
            have HSW := Lib.hid hSw
            have HSA := Lib.hid hSa
            clear hS1 hSl hSw hSa
            go_wp2_with fail
            refine (K.out.flush (by omega)).mono ?_
            rintro e wB ⟨rfl, hKB⟩
            rw [← keptS_eq, ← HS1.out] at hKB
            have KB := Lib.hid hKB
            clear hKB K
            go_wp2_with fail
            go_loopw [11] (fun i wr => ∃ k : Nat, k ≤ len1 ∧ k ≤ 100 ∧ i = .int .i64 k ∧ KeepAt w p d wb S1 (psOf (fun i => i * 3 % 8) tt k) (wantC P1) (j + 1 + k) wr) (fun i _ => 100 - (intOf i).toNat)
            case atStart => exact ⟨0, by omega, by omega, rfl, by rw [psOf_zero]; exact KB.out⟩
            case round =>
              clear KB
              obtain ⟨k, hkl, hk, rfl, hK⟩ := hrel
              by_cases hlt : k < len1 ∧ k < 100
              · obtain ⟨hlt1, hlt2⟩ := hlt
                obtain rfl : a1 = some ⟨b1, off1, none⟩ := by rcases HA1.out with h | h; omega; exact h
                have hbw : b1 < w.heap.size := by rcases Hb1.out with h | h; omega; exact h
                obtain ⟨x, hx⟩ : ∃ x, x = tt.getD k ByteArray.empty := ⟨_, rfl⟩
                obtain ⟨qs, hqs⟩ : ∃ qs, qs = strOf (Dk.sector x.data.toList) := ⟨_, rfl⟩
                have cx : ∀ v, Below w.heap.size w v → v.cell? ⟨b1, off1 + k, none⟩ = some (.string x) := fun v ho => by
                  rw [ho.cell (p := ⟨b1, off1 + k, none⟩) hbw, HC1.out k hlt1, hx]
                have hxs : x.size ≤ 9223372036854775807 := by rw [hx]; exact HTT.out k hlt1
                have hq64 : qs.size = 64 := by rw [hqs, strOf_size, Dk.length_sector]
                have hql : qs.data.toList = Dk.sector x.data.toList := by rw [hqs, strOf_list]
                have hps : psOf (fun i => i * 3 % 8) tt (k + 1) = psOf (fun i => i * 3 % 8) tt k ++ [(k * 3 % 8, qs.data.toList)] := by rw [psOf_succ, hql, hx]
                have c0 := cx wr hK.old
                have K := Lib.hid hK
                have CX := Lib.hid cx
                have HQ64 := Lib.hid hq64
                have HQL := Lib.hid hql
                have HPS := Lib.hid hps
                have HQS := Lib.hid hqs
                have HX := Lib.hid hx
                clear hK cx hq64 hql hps hqs hx
                go_wp2_with fail
                refine (K.out.sector x qs hxs HQL.out).mono ?_
                rintro e w4 ⟨rfl, hK4⟩
                have K4 := Lib.hid hK4
                clear hK4 K c0
                go_wp2_with fail
                refine (K4.out.write _ (k * 3 % 8) (by omega) qs (Nat.mod_lt _ (by omega)) HQ64.out (by rw [length_psOf]; omega) (by omega)).mono ?_
                rintro e w5 ⟨rfl, hK5⟩
                have K5 := Lib.hid hK5
                clear hK5 K4
                go_wp2_with fail
                refine (K5.out.read _ (k * 3 % 8) (by omega) (Nat.mod_lt _ (by omega)) qs (by rw [Dk.readAt_snoc _ _ _ _ (by rw [HSL.out]; exact Nat.mod_lt _ (by omega)), if_pos rfl])).mono ?_
                rintro e w6 ⟨rfl, rfl⟩
                have c5 := CX.out _ K5.out.old
                go_wp2_with fail
                refine (K5.out.sector x qs hxs HQL.out).mono ?_
                rintro e w6 ⟨rfl, hK6⟩
                have K6 := Lib.hid hK6
                clear hK6 K5 c5
                go_wp2_with fail
                refine (K6.out.pending (k + 1) (by rw [List.length_append, length_psOf]; rfl)).mono ?_
                rintro e w7 ⟨rfl, rfl⟩
                go_wp2_with fail
                go_roundw
                case rel => exact ⟨k + 1, by omega, by omega, by go_num, by rw [HPS.out]; exact K6.out⟩
                case measure => simp [intOf]; omega
              · have K := Lib.hid hK
                clear hK
                rcases (show ¬ k < len1 ∨ (k < len1 ∧ ¬ k < 100) by omega) with hx | ⟨hx1, hx2⟩
                all_goals
                  go_wp2_with fail
                  refine K.out.lose.mono ?_
                  rintro e wC ⟨rfl, hKC⟩
                  rw [lost_none (by rw [HSL.out]; exact psOf_ok (fun i => Nat.mod_lt _ (by omega)) tt k)] at hKC
                  have KC := Lib.hid hKC
                  clear hKC K
                  go_wp2_with fail
                  go_loopw [14, 15] (fun v i wr => ∃ (m : Nat) (q : ByteArray), m ≤ 8 ∧ i = .int .i64 m ∧ v = .string q ∧ q.data.toList = (S1.take m).flatten ∧ KeepAt w p d wb S1 [] (wantC P1) (j + 1 + k) wr) (fun _ i _ => 8 - (intOf i).toNat)
                  case atStart => exact ⟨0, ⟨#[]⟩, by omega, rfl, rfl, rfl, KC.out⟩
                  case round =>
                    clear KC
                    obtain ⟨m, q, hm, rfl, rfl, hq, hK⟩ := hrel
                    by_cases hlt : m < 8
                    · obtain ⟨qm, hqm⟩ : ∃ qm, qm = strOf (Dk.readAt (blankS 8) P1 m) := ⟨_, rfl⟩
                      have hmS : m < S1.length := by rw [HSL.out]; exact hlt
                      have hql : qm.data.toList = S1.getD m [] := by rw [hqm, strOf_list, HSA.out]
                      have hqms : qm.size ≤ 64 := by rw [← size_toList, hql, sect_len HSW.out hmS]; exact Nat.le_refl _
                      have hqs : q.size ≤ 512 := by
                        rw [← size_toList, hq, flat_length (n := 64) (fun s hs => HSW.out s (List.mem_of_mem_take hs)), List.length_take]
                        have : min m S1.length ≤ 8 := by omega
                        omega
                      have hsum : ¬ 9223372036854775807 < q.size + qm.size := by omega
                      have cm := hK.cell (wantC_at P1 hlt)
                      rw [← hqm] at cm
                      have K := Lib.hid hK
                      have HQ := Lib.hid hq
                      have HQL := Lib.hid hql
                      have HMS := Lib.hid hmS
                      clear hK hq hql hqm hmS
                      go_wp2_with fail
                      refine (K.out.read _ m rfl hlt qm (by rw [HQL.out, Dk.readAt_nil])).mono ?_
                      rintro e w6 ⟨rfl, rfl⟩
                      go_wp2_with fail
                      go_roundw
                      case rel => exact ⟨m + 1, q ++ qm, by omega, by go_num, rfl, by rw [append_list', HQ.out, HQL.out, take_snoc' HMS.out], K.out⟩
                      case measure => simp [intOf]; omega
                    · have hm8 : m = 8 := by omega
                      have hq' : q.data.toList = S1.flatten := by rw [hq, hm8, List.take_of_length_le (by rw [HSL.out]; exact Nat.le_refl _)]
                      have K := Lib.hid hK
                      have HQ := Lib.hid hq'
                      clear hK hq hq' hm8
                      go_wp2_with fail
                      refine (K.out.image q HQ.out).mono ?_
                      rintro e w6 ⟨rfl, hK6⟩
                      have K6 := Lib.hid hK6
                      clear hK6 K
                      go_wp2_with fail
                      refine (K6.out.pending 0 rfl).mono ?_
                      rintro e w7 ⟨rfl, rfl⟩
                      go_wp2_with fail
                      go_ret
                      exact ⟨rfl, K6.out.old⟩
end Go.Proofs.Ytjkigndhbbeolaa
