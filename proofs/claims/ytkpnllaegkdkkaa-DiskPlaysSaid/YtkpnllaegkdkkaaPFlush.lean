/- The document's disk: flushing. -/
import Derived.Test.YtkpnllaegkdkkaaPWrite
import Derived.BigRegion
namespace Go.Proofs.Ytkpnllaegkdkkaa
open Go.RowKit

theorem rflush_no (r : Nat) (c : Int) (hc : c ≠ 0) (w : World) (hb : Calls Try.prog 49 #[.pointer (some ⟨r, 0, none⟩), .int .i64 0] w fun e w' => e = .returned (.int .i64 c) ∧ w = w') :
    Calls Try.prog 24 #[.pointer (some ⟨r, 0, none⟩)] w fun e w' => e = .returned (.int .i64 c) ∧ w = w' := by
  have HB := Lib.hid hb
  have hne : (c != 0) = true := by rw [bne_iff_ne]; exact hc
  clear hb hc
  go_enter Try.func24, Try.ntmps24
  go_wp2_with (go_at_call 49; refine HB.out.mono ?_; rintro e w' ⟨rfl, rfl⟩)
  go_ret
  exact ⟨rfl, rfl⟩
section
variable {r q : Nat} {hv wv : Value} {n : Nat} {S : List (List UInt8)} {ps : List Dk.Wr} {dead : Bool} {life left acts : Int} {w : World}
theorem rflush_cut (h : RAt r q hv wv n S ps false life w) (hp : RPow q false 0 acts w) :
    Calls Try.prog 24 #[.pointer (some ⟨r, 0, none⟩)] w fun e w' => e = .returned (.int .i64 10) ∧ RPow q true 0 acts w' ∧ Kept w.heap.size [q] w w' := by
  have HB := Lib.hid (bad_ok h hp 0 (by have := h.n1; omega))
  have c0 := h.c0
  have HP := Lib.hid hp
  clear h hp
  go_enter Try.func24, Try.ntmps24
  go_wp2_with (first | (go_at_call 49; refine HB.out.mono ?_; rintro e w' ⟨rfl, rfl⟩) | (go_at_call 51; refine (ract_cut q acts _ HP.out).mono ?_; rintro e w1 ⟨rfl, hp1, hk1⟩; have HP1 := Lib.hid hp1; have HK1 := Lib.hid hk1; clear hp1 hk1))
  go_ret
  exact ⟨rfl, HP1.out, HK1.out⟩
/-- A sector stored. -/
theorem RAt.put {g cap : Nat} (h : RAt r q (.slice (some ⟨g, 0, none⟩) n cap) wv n S ps dead life w) (a : Nat) (t : List UInt8) (ht : t.length = 64) :
    RAt r q (.slice (some ⟨g, 0, none⟩) n cap) wv n (S.set a t) ps dead life (w.setCell ⟨g, a, none⟩ (sv t)) ∧ Kept w.heap.size [g] w (w.setCell ⟨g, a, none⟩ (sv t)) := by
  have hg := h.oh g rfl
  refine ⟨⟨?_, ?_, ?_, h.n1, h.n2, ?_, h.wrs, h.few, h.q0, h.oh, h.ow⟩, (Kept.refl _ _ _).setCell (p := ⟨g, a, none⟩) (by simp) _⟩
  · rw [heap_setCell_other _ _ _ _ (fun e => hg.1 e.symm)]; exact h.obj
  · have := h.has.stored a (sv t)
    rw [List.map_set]; exact this.1
  · refine own_keep h.wait (fun x hx => heap_setCell_other _ _ _ _ (fun e => (h.ow x hx).2.2 (by rw [e]; rfl)))
  · intro s hs
    rcases List.mem_or_eq_of_mem_set hs with hs | hs
    · exact h.wide s hs
    · rw [hs]; exact ht
/-- Nothing waits any more. -/
theorem RAt.clear (h : RAt r q hv wv n S ps dead life w) : RAt r q hv (.slice none 0 0) n S [] dead life (w.setCell ⟨r, 3, none⟩ (.slice none 0 0)) ∧ Kept w.heap.size [r] w (w.setCell ⟨r, 3, none⟩ (.slice none 0 0)) := by
  refine ⟨⟨set_list h.obj 3 _, ?_, ?_, h.n1, h.n2, h.wide, by simp, by simp, h.q0, h.oh, by intro g hg; cases hg⟩, (Kept.refl _ _ _).setCell (p := ⟨r, 3, none⟩) (by simp) _⟩
  · exact own_keep h.has (fun x hx => heap_setCell_other _ _ _ _ (fun e => (h.oh x hx).1 e))
  · exact ⟨rfl, .inl ⟨rfl, rfl⟩⟩
theorem put_whole (S : List (List UInt8)) (x : Dk.Wr) (hS : ∀ s ∈ S, s.length = 64) (hx : x.1 < S.length) (h2 : x.2.length = 64) : Dk.put S x 64 = S.set x.1 x.2 := by
  rw [Dk.put_eq, List.take_of_length_le (by omega), List.drop_of_length_le, List.append_nil]
  rw [List.getD, List.getElem?_eq_getElem hx]
  have := hS S[x.1] (List.getElem_mem _)
  simp only [Option.getD_some]; omega
/-- What a round of settling finds. -/
theorem RAt.round {g cap : Nat} (h : RAt r q (.slice (some ⟨g, 0, none⟩) n cap) wv n S ps dead life w) (a : Nat) (ha : a < n) : w.cell? ⟨g, a, none⟩ = some (sv (S.getD a [])) ∧ w.frozen? ⟨g, a, none⟩ = false := by
  obtain ⟨g', cap', e, _, hc⟩ := h.row
  cases e
  exact ⟨hc a ha, h.has.frozenAt a⟩
end
section
variable {r q : Nat} {n : Nat} {S : List (List UInt8)} {ps : List Dk.Wr} {life left acts : Int} {w : World}
set_option maxRecDepth 100000 in
set_option maxHeartbeats 1000000 in
theorem rflush_ok {G : List Nat} (h : RDisk r q G n S ps false life w) (hp : RPow q false left acts w)
    (hf : left ≠ 0) (hf1 : -1 ≤ left) (hf2 : left ≤ 9223372036854775807) (ha0 : 0 ≤ acts) (ha1 : acts ≤ 1000000000000) :
    Calls Try.prog 24 #[.pointer (some ⟨r, 0, none⟩)] w fun e w' => e = .returned (.int .i64 0) ∧
      RDisk r q G n (Dk.settleTo S ps (fun _ => 64) ps.length) [] false life w' ∧ RPow q false (less left) (acts + 1) w' ∧ Kept w.heap.size (q :: G) w w' := by
  obtain ⟨hv, wv, h, g1, g2, g3, g4, g5⟩ := h
  obtain ⟨g, cap, rfl, _, _⟩ := h.row
  have HB := Lib.hid (bad_ok h hp 0 (by have := h.n1; omega))
  have c0 := h.c0
  have HP := Lib.hid hp
  have H := Lib.hid h
  have HF := Lib.hid hf
  have hpl := hp.lt
  have hrl := h.lt
  have HG := Lib.hid (And.intro g1 (And.intro g2 (And.intro g3 (And.intro g4 g5))))
  clear h hp hf g1 g2 g3 g4 g5
  go_enter Try.func24, Try.ntmps24
  go_wp2_with (first | (go_at_call 49; refine HB.out.mono ?_; rintro e w' ⟨rfl, rfl⟩) | fail)
  refine (ract_ok q left acts HF.out hf1 hf2 ha0 ha1 _ HP.out).mono ?_
  rintro e w1 ⟨rfl, hp1, hk1⟩
  obtain ⟨q1, q2, q3, q4, q5⟩ := HG.out
  have nq : ∀ x ∈ G, x ∉ [q] := fun x hx hm => q4 (by simp at hm; exact hm ▸ hx)
  have h1 : RAt r q (.slice (some ⟨g, 0, none⟩) n cap) wv n S ps false life w1 := H.out.keep (hk1.block r hrl (nq r q1)) (fun g hg => hk1.block g (q5 g (q2 g hg)) (nq g (q2 g hg))) (fun g hg => hk1.block g (q5 g (q3 g hg)) (nq g (q3 g hg)))
  have hz1 := hk1.size
  have H1 := Lib.hid h1
  have HP1 := Lib.hid hp1
  have HK1 := Lib.hid hk1
  obtain ⟨N, hN⟩ : ∃ N, N = ps.length := ⟨_, rfl⟩
  have HN := Lib.hid hN
  have hfew := h1.few
  rw [← hN] at hfew
  clear h1 hp1 hk1 c0 q1 q2 q3 q4 q5 nq hN
  go_wp2_with fail
  go_loopw [5] (fun i wr => ∃ j : Nat, j ≤ N ∧ i = .int .i64 j ∧ RAt r q (.slice (some ⟨g, 0, none⟩) n cap) wv n (Dk.settleTo S ps (fun _ => 64) j) ps false life wr ∧ Kept w1.heap.size [g] w1 wr) (fun i _ => N - (intOf i).toNat)
  case atStart => exact ⟨0, by omega, rfl, by rw [Dk.settleTo_zero]; exact H1.out, Kept.refl _ _ _⟩
  case round =>
    obtain ⟨j, hj, rfl, hA, hK⟩ := hrel
    obtain ⟨b, lcap, hwv, hlate⟩ := hA.late
    have c2 := hA.c2
    have c3 := hA.c3
    rw [hwv, ← HN.out] at c3
    rw [← HN.out] at hlate
    have HA := Lib.hid hA
    have HK := Lib.hid hK
    clear hA hK
    by_cases hlt : j < N
    · obtain ⟨g', rfl, hg', hc⟩ := hlate (by omega)
      obtain ⟨k0, k1⟩ := hc j hlt
      have hjp : j < ps.length := by rw [← HN.out]; exact hlt
      obtain ⟨x, hx⟩ : ∃ x, x = ps.getD j (0, []) := ⟨_, rfl⟩
      have hxm : x.1 < n ∧ x.2.length = 64 := by rw [hx]; exact HA.out.wrs _ (Dk.getD_mem_of_lt hjp)
      rw [← hx] at k0 k1
      obtain ⟨at', hat⟩ : ∃ y : Nat, y = x.1 := ⟨_, rfl⟩
      have hax : at' < n := by rw [hat]; exact hxm.1
      rw [← hat] at k0
      obtain ⟨ca, fa⟩ := HA.out.round at' hax
      have hn2 := HA.out.n2
      obtain ⟨s0, hs0⟩ : ∃ s0, s0 = sv ((Dk.settleTo S ps (fun _ => 64) j).getD at' []) := ⟨_, rfl⟩
      rw [← hs0] at ca
      obtain ⟨d0, hd0⟩ : ∃ d0 : ByteArray, .string d0 = sv x.2 := ⟨_, rfl⟩
      rw [← hd0] at k1
      obtain ⟨hput, hkp⟩ := HA.out.put at' x.2 hxm.2
      have hset : (Dk.settleTo S ps (fun _ => 64) j).set at' x.2 = Dk.settleTo S ps (fun _ => 64) (j + 1) := by
        rw [Dk.settleTo_succ, ← hx, put_whole _ x HA.out.wide (by rw [HA.out.len]; exact hxm.1) hxm.2, hat]
      rw [hset, ← hd0] at hput
      rw [← hd0] at hkp
      have HPUT := Lib.hid hput
      have HKP := Lib.hid hkp
      clear hput hkp hset hd0 hs0 hxm hat hx hc hlate hjp
      go_wp2
      go_region
      go_wp2
      go_roundw
      case rel => exact ⟨j + 1, by omega, by go_num, HPUT.out.keep rfl (fun _ _ => rfl) (fun _ _ => rfl), HK.out.trans (HKP.out.mono HK.out.size (fun _ _ h => h)).drew⟩
      case measure => simp [intOf]; omega
    · have hjN : Hid (j = N) := Lib.hid (by omega)
      have f3 := HA.out.free 3
      obtain ⟨hcl, hkc⟩ := HA.out.clear
      have HCL := Lib.hid hcl
      have HKC := Lib.hid hkc
      clear hcl hkc hlate
      go_wp2
      go_ret
      refine ⟨rfl, ?_⟩
      obtain ⟨q1, q2, q3, q4, q5⟩ := HG.out
      have hz2 := HK.out.size
      have hgG : g ∈ G := q2 g rfl
      have kall : Kept w1.heap.size (g :: r :: []) w1 (wr.setCell ⟨r, 3, none⟩ (.slice none 0 0)) := (HK.out.mono (Nat.le_refl _) (fun k _ hk => by simp at hk; simp [hk])).trans (HKC.out.mono hz2 (fun k _ hk => by simp at hk; simp [hk]))
      have hz3 := kall.size
      refine ⟨⟨_, .slice none 0 0, ?_, q1, q2, (by intro x hx; cases hx), q4, fun x hx => by have := q5 x hx; omega⟩, ?_, ?_⟩
      · have := HCL.out
        rw [hjN.out, HN.out] at this
        rw [← HN.out] at this ⊢
        exact this
      · exact (kall.block q (by omega) (by
          intro hm
          simp only [List.mem_cons, List.not_mem_nil, or_false] at hm
          rcases hm with hm | hm
          · exact q4 (hm ▸ hgG)
          · exact q4 (hm ▸ q1))).trans HP1.out
      · exact (HK1.out.mono (Nat.le_refl _) (fun k _ hk => by simp at hk; simp [hk])).trans (kall.mono hz1 (fun k _ hm => by
          simp only [List.mem_cons, List.not_mem_nil, or_false] at hm
          rcases hm with rfl | rfl
          · simp [hgG]
          · simp [q1]))
end
end Go.Proofs.Ytkpnllaegkdkkaa
