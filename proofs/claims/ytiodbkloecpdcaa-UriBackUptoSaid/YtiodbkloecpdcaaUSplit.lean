/- A path's bucket and key; a bucket's name. -/
import Derived.Test.YtiodbkloecpdcaaUPart
namespace Go.Proofs.Ytiodbkloecpdcaa
open Go.RowKit

theorem Clone_any (S : List UInt8) (hS : S.length ≤ 281474976710656) (w : World) : Calls Try.prog 45 #[.string (bs S)] w fun e w' => e = .returned (.string (bs S)) ∧ Below w.heap.size w w' := by
  have C := Lib.hid (fun v : World => u_stringslite_Clone (bs S) v (by rw [bs_size]; exact hS))
  generalize bs S = s at *
  go_enter Try.func45, Try.ntmps45
  go_wp2_with (go_at_call 70; refine (C.out _).mono ?_; rintro e w2 ⟨rfl, hb2⟩)
  go_ret
  exact ⟨rfl, hb2⟩
theorem is_47 (w : World) : Calls Try.prog 37 #[.int .u8 47] w fun e w' => ∃ b, e = .returned (.func (.func 63) #[] #[.pointer (some ⟨b, 0, none⟩)]) ∧ w'.cell? ⟨b, 0, none⟩ = some (.int .u8 ((47 : UInt8).toNat : Int)) ∧ Below w.heap.size w w' ∧ w.heap.size ≤ b := is_any 47 w
set_option maxRecDepth 100000 in
set_option maxHeartbeats 4000000 in
theorem Split_any (S : List UInt8) (hS : S.length ≤ 140737488355328) (w : World) : Calls Try.prog 16 #[.string (bs S)] w fun e w' => e = .returned (.tuple #[.string (bs (Ur.bucketOf S)), .string (bs (Ur.keyOf S))]) ∧ Below w.heap.size w w' := by
  have CP := Lib.hid (fun v : World => prefix_47 S v)
  by_cases h47 : S.head? = some 47
  · rw [Ur.bucketOf, Ur.keyOf, if_pos h47, if_pos h47]
    rw [decide_eq_true h47] at CP
    have hl1 : 1 ≤ S.length := by cases S with | nil => simp at h47 | cons c r => simp
    clear h47
    obtain ⟨T, hT⟩ : ∃ T, T = S.drop 1 := ⟨_, rfl⟩
    have hTl : T.length ≤ 140737488355328 := by rw [hT, List.length_drop]; omega
    obtain ⟨s, hs⟩ : ∃ s, s = bs S := ⟨_, rfl⟩
    have hss : s.size = S.length := by rw [hs, bs_size]
    have RS : ∀ v : World, (Instr.slice 9 (.string s) (some (.int .i64 1)) none none).run Try.prog v = .ok (.string (bs T)) v := fun v => by
      have := run_rest_string v 9 s .i64 1 Try.underlying9 (by omega)
      rw [show ((1 : Nat) : Int) = 1 from rfl] at this
      rw [this]
      congr 2
      exact bs_of (by rw [extract_from, hs, bs_list, hT])
    rw [← hT, ← hs]
    rw [← hs] at CP
    clear hs hT hss hl1 hS
    have hkl := Ur.len_le (· == 47) T
    have CC := Lib.hid (fun v : World => cutter_any T 0 v)
    have C1 := Lib.hid (fun (b bi : Nat) (v : World) hL hc => cut_is b bi T 0 47 hTl (by omega) v hL hc)
    obtain ⟨k, hk⟩ : ∃ k, k = Ur.len (· == 47) T := ⟨_, rfl⟩
    rw [← hk] at hkl C1 ⊢
    clear hk
    obtain ⟨T1, h1⟩ : ∃ T1, T1 = T.take k := ⟨_, rfl⟩
    obtain ⟨T2, h2⟩ : ∃ T2, T2 = T.drop (k + 1) := ⟨_, rfl⟩
    have l1 : T1.length ≤ 281474976710656 := by rw [h1, List.length_take]; omega
    have l2 : T2.length ≤ 140737488355328 := by rw [h2, List.length_drop]; omega
    have C2 := Lib.hid (fun (b : Nat) (v : World) hL => cut_never b T2 (0 + min (k + 1) T.length) l2 (by omega) v hL)
    have D1 := Lib.hid (fun v : World => Clone_any T1 l1 v)
    have D2 := Lib.hid (fun v : World => Clone_any T2 (by omega) v)
    rw [← h1, ← h2] at C1 ⊢
    generalize 0 + min (k + 1) T.length = a2 at *
    clear h1 h2 l1 l2 hkl hTl
    generalize bs T = t at *
    generalize bs T1 = x1 at *
    obtain ⟨x2, hx2⟩ : ∃ x, x = bs T2 := ⟨_, rfl⟩
    rw [← hx2] at C2 D2 ⊢
    clear hx2
    go_enter Try.func16, Try.ntmps16
    go_wp2_with (first | (go_at_call 33; refine (CP.out _).mono ?_; rintro e w' ⟨rfl, hw⟩; obtain rfl := hw.symm; clear hw) | (go_at_call 36; refine (CC.out _).mono ?_; rintro e w1 ⟨cb, rfl, hL1, hb1, hcb⟩; have HL1 := Lib.hid hL1; have HB1 := Lib.hid hb1; clear hL1 hb1) | (go_at_call 37; refine (is_47 _).mono ?_; rintro e w2 ⟨bi, rfl, hci, hb2, hbi⟩; have hl1 := HL1.out.lt; have HL2 := Lib.hid (HL1.out.below hb2); have HC2 := Lib.hid hci; have HB2 := Lib.hid (bthen HB1.out hb2); clear hci hb2))
    refine (C1.out cb bi w2 HL2.out HC2.out).mono ?_
    rintro e w3 ⟨rfl, hL3, hk3⟩
    have HB3 := Lib.hid (HB2.out.trans ((hk3.mono HB2.out.size (fun _ _ h => h)).below (fun k hk => by simp only [List.mem_singleton] at hk; omega)))
    have HL3 := Lib.hid hL3
    clear hL3 hk3
    go_wp2_with (go_at_call 62; refine (C2.out cb _ HL3.out).mono ?_; rintro e w4 ⟨rfl, hk4⟩; have HB4 := Lib.hid (HB3.out.trans ((hk4.mono HB3.out.size (fun _ _ h => h)).below (fun k hk => by simp only [List.mem_singleton] at hk; omega))); clear hk4)
    have hsz4 := HB4.out.size
    obtain ⟨w5, hw5⟩ : ∃ x, x = (w4.alloc (.cells #[.string x1, .int .i64 0] 48)).alloc (.cells #[.string x2, .int .i64 (a2 : Int)] 48) := ⟨_, rfl⟩
    have g1 : w5.heap[w4.heap.size]? = some (.cells [Value.string x1, .int .i64 0].toArray 48 (0, 0)) := by
      rw [hw5, heap_alloc_old _ _ (by simp)]; exact heap_alloc_new _ _
    have g2 : w5.heap[w4.heap.size + 1]? = some (.cells [Value.string x2, .int .i64 (a2 : Int)].toArray 48 (0, 0)) := by
      rw [hw5]; exact heap_alloc2_new _ _ _
    have b5 : Below w.heap.size w w5 := by rw [hw5]; exact (HB4.out.alloc hsz4 _).alloc (by simp; omega) _
    have L1 := lt_of_heap g1
    have L2 := lt_of_heap g2
    rw [← hw5]
    obtain ⟨n1, hn1⟩ : ∃ n, n = w4.heap.size := ⟨_, rfl⟩
    rw [← hn1] at g1 g2 L1 L2 hsz4 ⊢
    have d1 := cell_of_list g1 0
    have d2 := cell_of_list g2 0
    simp only [List.getElem?_cons_zero] at d1 d2
    clear hw5 g1 g2 hn1
    have HB5 := Lib.hid b5
    clear b5 HB4 HB3 HL3 HL2 HC2 HB2 HB1 HL1
    obtain ⟨Q, hQ⟩ : ∃ Q : World → Prop, Q = fun v => Below w5.heap.size w5 v := ⟨_, rfl⟩
    have hSb : ∀ v v', Q v → Below v.heap.size v v' → Q v' := by rw [hQ]; exact fun v v' hv hb => hv.trans (hb.mono hv.size)
    have hSv : ∀ v, Q v → Below w5.heap.size w5 v := by rw [hQ]; exact fun v h => h
    have SC1 := Lib.hid (quiet_S hSb (f := 45) (args := #[.string x1]) (v := .string x1) (fun v _ => D1.out v))
    have SC2 := Lib.hid (quiet_S hSb (f := 45) (args := #[.string x2]) (v := .string x2) (fun v _ => D2.out v))
    have S4 : Q w5.drew := by rw [hQ]; exact (Below.refl _ _).drew
    have E1 : ∀ u : Of Q, u.w.cell? ⟨n1, 0, none⟩ = some (.string x1) := fun u => cell_below d1 (hSv _ u.ok)
    have E2 : ∀ u : Of Q, u.w.cell? ⟨n1 + 1, 0, none⟩ = some (.string x2) := fun u => cell_below d2 (hSv _ u.ok)
    have HS4 := Lib.hid S4
    haveI : Nonempty (Of Q) := ⟨⟨_, S4⟩⟩
    have HSS := Lib.hid hQ
    clear S4 hQ hSb hSv d1 d2
    refine wp_region_S Q (by kernel_rfl) (by kernel_rfl) HS4.out ?_
    repeat (go_big_quiet_step (first | (go_at_call 45; first | (with_reducible exact SC1.out _) | (with_reducible exact SC2.out _))))
    refine wpQuiet_nil ?_
    rintro w9 ⟨u9, e9⟩
    have h9 : Q w9 := e9 ▸ u9.ok
    rw [HSS.out] at h9
    have HB9 := Lib.hid h9
    clear e9 u9 h9 this SC1 SC2 HS4 HSS E1 E2
    go_wp2
    go_ret2
    exact ⟨rfl, HB5.out.trans (HB9.out.mono HB5.out.size)⟩
  · rw [Ur.bucketOf, Ur.keyOf, if_neg h47, if_neg h47]
    rw [decide_eq_false h47] at CP
    clear h47
    generalize bs S = s at *
    go_enter Try.func16, Try.ntmps16
    go_wp2_with (first | (go_at_call 33; refine (CP.out _).mono ?_; rintro e w' ⟨rfl, hw⟩; obtain rfl := hw.symm; clear hw))
    go_ret2
    exact ⟨by rw [← bs_nil]; rfl, Below.refl _ _⟩
end Go.Proofs.Ytiodbkloecpdcaa
