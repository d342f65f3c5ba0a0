/- The walks of a table's own functions: rows added, swapped, brought to steps. -/
import Derived.Test.YteanbflbclmeeaaGreatMReg
namespace Go.Proofs.YteanbflbclmeeaaGreat
open Go.RowKit

def addR (to of : Nat) (t : UInt8) (M : Mat) : Mat := setRow to (fun j => M to j ^^^ tm t (M of j)) M
/-- A contract that leaves all older blocks alone, in a class that this keeps. -/
theorem quiet_S {P : Program} {S : World → Prop} {f : FuncId} {args : Array Value} {v : Value} (hS : ∀ w w', S w → Below w.heap.size w w' → S w') (h : ∀ w, S w → Calls P f args w fun e w' => e = .returned v ∧ Below w.heap.size w w') (u : Of S) :
    Calls P f args u.w fun e w' => e = .returned v ∧ ∃ u' : Of S, w' = u'.w :=
  (h u.w u.ok).mono fun _ w' ⟨he, hb⟩ => ⟨he, ⟨w', hS _ _ u.ok hb⟩, rfl⟩
theorem Scale_txt (f h : Nat → UInt8) (c : Nat) (t : UInt8) (hc : c ≤ 1000000) (w : World) :
    Calls Tryz.prog 80 #[.string (txt f c), .string (txt h c), .int .u8 t.toNat] w fun e w' => e = .returned (.tuple #[.string (txt (fun j => f j ^^^ tm t (h j)) c), .bool true]) ∧ Below w.heap.size w w' := by
  have := Scale_yes (txt f c) (txt h c) t (by rw [txt_size, txt_size]) (by rw [txt_size]; exact hc) w
  rw [scaled_txt] at this; exact this
set_option maxRecDepth 20000 in
set_option maxHeartbeats 1000000 in
theorem add_any (g r c N to of : Nat) (t : UInt8) (M : Mat) (hN : r * c = N) (hmax : N ≤ 1000000) (hc0 : 1 ≤ c) (hto : to < r) (hof : of < r) (w : World) (h : Tab g M r c w) :
    Calls Tryz.prog 85 #[tabV g r c N, .int .i64 to, .int .i64 of, .int .u8 t.toNat] w fun e w' => e = .returned (.tuple #[]) ∧ Tab g (addR to of t M) r c w' ∧ Kept w.heap.size [g] w w' := by
  obtain ⟨A, hA⟩ : ∃ A, to * c = A := ⟨_, rfl⟩
  obtain ⟨D, hD⟩ : ∃ D, of * c = D := ⟨_, rfl⟩
  have fA := row_fits hN hA hto
  have fD := row_fits hN hD hof
  have hcN : c ≤ 1000000 := by omega
  have R1 := trow_any g r c N to A hA fA hmax hc0
  have R2 := trow_any g r c N of D hD fD hmax hc0
  have hb := BoxS.of_alloc (N := N) h
  obtain ⟨S, hS⟩ : ∃ S, S = BoxS w.heap.size g r c N M w := ⟨_, rfl⟩
  have hSb : ∀ v v', S v → Below v.heap.size v v' → S v' := by rw [hS]; exact fun v v' hv hb => hv.below hb
  have c0 : ∀ u : Of S, u.w.cell? ⟨w.heap.size, 0, none⟩ = some (.int .i64 r) := by rw [hS]; exact fun u => u.ok.c0
  have c1 : ∀ u : Of S, u.w.cell? ⟨w.heap.size, 1, none⟩ = some (.int .i64 c) := by rw [hS]; exact fun u => u.ok.c1
  have c2 : ∀ u : Of S, u.w.cell? ⟨w.heap.size, 2, none⟩ = some (.slice (some ⟨g, 0, none⟩) N N) := by rw [hS]; exact fun u => u.ok.c2
  have T1 : ∀ u : Of S, (convert 60 9 (.slice (some ⟨g, A, none⟩) c (N - A))).run Tryz.prog u.w = .ok (.string (txt (M to) c)) u.w := by rw [hS]; exact fun u => run_row_text u.ok.tab hto hA
  have T2 : ∀ u : Of S, (convert 60 9 (.slice (some ⟨g, D, none⟩) c (N - D))).run Tryz.prog u.w = .ok (.string (txt (M of) c)) u.w := by rw [hS]; exact fun u => run_row_text u.ok.tab hof hD
  have R1 := Lib.hid (quiet_S hSb (fun v _ => trow_any g r c N to A hA fA hmax hc0 v))
  have R2 := Lib.hid (quiet_S hSb (fun v _ => trow_any g r c N of D hD fD hmax hc0 v))
  have SC := Lib.hid (quiet_S hSb (fun v _ => Scale_txt (M to) (M of) c t hcN v))
  have hbS : S (w.alloc (.cells (tabRow g r c N).toArray 104)).drew := by rw [hS]; exact hb.drew
  have HB := Lib.hid hbS
  have HS := Lib.hid hS
  have HA := Lib.hid hA
  have HN := Lib.hid hN
  have HSb := Lib.hid hSb
  haveI : Nonempty (Of S) := ⟨⟨_, hbS⟩⟩
  clear hb hbS hA hD hN h fD hS hSb
  unfold tabV
  go_enter Tryz.func85, Tryz.ntmps85
  go_wp2_with fail
  refine wp_region_S S (by kernel_rfl) (by kernel_rfl) HB.out ?_
  repeat (go_big_quiet_step (first | (go_at_call 60; first | (with_reducible exact R1.out _) | (with_reducible exact R2.out _)) | (go_at_call 80; with_reducible exact SC.out _)))
  refine wpQuiet_nil ?_
  rintro w1 ⟨u1, e1⟩
  have h1 : S w1 := e1 ▸ u1.ok
  clear e1 u1
  have h2 : BoxS w.heap.size g r c N M w w1 := by rw [← HS.out]; exact h1
  have d0 := h2.c0
  have d1 := h2.c1
  have d2 := h2.c2
  have H2 := Lib.hid h2
  obtain ⟨s, hs⟩ : ∃ s, s = txt (fun j => M to j ^^^ tm t (M of j)) c := ⟨_, rfl⟩
  rw [← hs]
  have HSz := Lib.hid hs
  clear c0 c1 c2 h1 h2 hs this T1 T2 R2 SC HB
  go_wp2_with fail
  refine (trow_any g r c N to A HA.out fA hmax hc0 _).mono ?_
  rintro e w2 ⟨rfl, hb2⟩
  have H3 := Lib.hid (H2.out.below hb2)
  clear d0 d1 d2 hb2
  go_wp2_with (refine wpList_copy_row rfl (.tmp 25) (.tmp 26) 60 9 rfl 5 Tryz.underlying60 (by kernel_rfl) g A c (N - A) s rfl rfl (by rw [HSz.out, txt_size]) _ _ _ 5 (H3.out.tab.parts hto) (by rw [u8v_len, length_ahead M hto, HA.out]) (by rw [u8v_len, length_textOf]) ?_; intro w3 hg3 hk3 hs3; go_frame)
  go_end0
  refine ⟨rfl, ?_, ?_⟩
  · have := hg3.out
    rw [HSz.out, txt_list] at this
    exact Tab.of_parts hto _ this
  · exact H3.out.old.trans (hk3.out.mono H3.out.old.size (fun _ _ h => h))
/-- What a call that swaps two rows leaves. -/
theorem swapR_rows (p q : Nat) (M : Mat) : setRow q (M p) (setRow p (M q) M) = swapR p q M := by
  funext a b
  unfold setRow swapR swp
  by_cases h1 : a = p
  · by_cases h2 : a = q
    · subst h1; subst h2; simp
    · simp [h1]
      intro h; subst h; simp
  · by_cases h2 : a = q
    · simp [h2]
      split
      · rename_i h; rw [h]
      · rfl
    · simp [h1, h2]
set_option maxRecDepth 20000 in
set_option maxHeartbeats 1000000 in
theorem swap_any (g r c N p q : Nat) (M : Mat) (hN : r * c = N) (hmax : N ≤ 1000000) (hc0 : 1 ≤ c) (hp : p < r) (hq : q < r) (w : World) (h : Tab g M r c w) :
    Calls Tryz.prog 77 #[tabV g r c N, .int .i64 p, .int .i64 q] w fun e w' => e = .returned (.tuple #[]) ∧ Tab g (swapR p q M) r c w' ∧ Kept w.heap.size [g] w w' := by
  obtain ⟨A, hA⟩ : ∃ A, p * c = A := ⟨_, rfl⟩
  obtain ⟨D, hD⟩ : ∃ D, q * c = D := ⟨_, rfl⟩
  have fA := row_fits hN hA hp
  have fD := row_fits hN hD hq
  have hcN : c ≤ 1000000 := by omega
  have hb := BoxS.of_alloc (N := N) h
  obtain ⟨S, hS⟩ : ∃ S, S = BoxS w.heap.size g r c N M w := ⟨_, rfl⟩
  have hSb : ∀ v v', S v → Below v.heap.size v v' → S v' := by rw [hS]; exact fun v v' hv hb => hv.below hb
  have c0 : ∀ u : Of S, u.w.cell? ⟨w.heap.size, 0, none⟩ = some (.int .i64 r) := by rw [hS]; exact fun u => u.ok.c0
  have c1 : ∀ u : Of S, u.w.cell? ⟨w.heap.size, 1, none⟩ = some (.int .i64 c) := by rw [hS]; exact fun u => u.ok.c1
  have c2 : ∀ u : Of S, u.w.cell? ⟨w.heap.size, 2, none⟩ = some (.slice (some ⟨g, 0, none⟩) N N) := by rw [hS]; exact fun u => u.ok.c2
  have R1 := Lib.hid (quiet_S hSb (fun v _ => trow_any g r c N p A hA fA hmax hc0 v))
  have R2 := Lib.hid (quiet_S hSb (fun v _ => trow_any g r c N q D hD fD hmax hc0 v))
  have d0 := hb.c0
  have d1 := hb.c1
  have d2 := hb.c2
  have HB := Lib.hid hb
  have HS := Lib.hid hS
  have HA := Lib.hid hA
  have HD := Lib.hid hD
  have HN := Lib.hid hN
  have HSb := Lib.hid hSb
  haveI : Nonempty (Of S) := ⟨⟨_, by rw [hS]; exact hb⟩⟩
  clear hb hA hD hN h hS hSb
  unfold tabV
  go_enter Tryz.func77, Tryz.ntmps77
  go_wp2_with fail
  refine (trow_any g r c N p A HA.out fA hmax hc0 _).mono ?_
  rintro e w1 ⟨rfl, hb1⟩
  have H1 := Lib.hid (HB.out.below hb1)
  clear d0 d1 d2 hb1
  go_wp2_with (refine wpList_bytes_string rfl 60 9 _ rfl 5 g A c (N - A) rfl (textOf (M p) c) (length_textOf _ _) Tryz.underlying60 Tryz.underlying5 Tryz.underlying9 (by have := H1.out.tab.src.row hp; rw [Nat.zero_add, HA.out] at this; exact this) ?_; rw [← txt_eq]; go_frame)
  obtain ⟨s, hs⟩ : ∃ s, s = txt (M p) c := ⟨_, rfl⟩
  rw [← hs]
  have HZ := Lib.hid hs
  clear hs
  refine wp_region_S_tail S (by kernel_rfl) rfl (copy_same (d := 13) (s := 16) (k := 17) rfl rfl (by decide) (by decide)) (by kernel_rfl) (by kernel_rfl) (by kernel_rfl) (by rw [HS.out]; exact H1.out.drew) ?_
  simp only [initL, lastL, List.cons_append, List.nil_append, Oper.mute]
  repeat (go_big_quiet_step (first | (go_at_call 60; first | (with_reducible exact R1.out _) | (with_reducible exact R2.out _))))
  refine wpQuiet_nil ?_
  rintro w2 ⟨u2, e2⟩
  have h2 : S w2 := e2 ▸ u2.ok
  rw [HS.out] at h2
  have H2 := Lib.hid h2
  clear e2 u2 h2 c0 c1 c2 R1 R2 this
  refine ends_copy_row (.tmp 13) (.tmp 16) 60 60 rfl 5 Tryz.underlying60 (by kernel_rfl) g A c (N - A) g D c (N - D) c rfl rfl (Nat.min_self c).symm ((textOf (M q) c).map u8v) (by rw [u8v_len, length_textOf]) (by have := H2.out.tab.src.row hq; rw [Nat.zero_add, HD.out] at this; exact this) (fun v hv => by obtain ⟨x, _, rfl⟩ := List.mem_map.1 hv; rfl) _ _ _ 5 (H2.out.tab.parts hp) (by rw [u8v_len, length_ahead M hp, HA.out]) (by rw [u8v_len, length_textOf]) ?_
  intro w3 hg3 hk3
  have H3 := Lib.hid (H2.out.change (Tab.of_parts hp _ hg3.out) hk3.out)
  have d0 := H3.out.c0
  have d1 := H3.out.c1
  have d2 := H3.out.c2
  simp only [Act.put, List.setIfInBounds_toArray, List.set_cons_zero, List.set_cons_succ]
  clear hg3 hk3
  go_wp2_with fail
  refine (trow_any g r c N q D HD.out fD hmax hc0 _).mono ?_
  rintro e w4 ⟨rfl, hb4⟩
  have H4 := Lib.hid (H3.out.below hb4)
  clear d0 d1 d2 hb4
  go_wp2_with (refine wpList_copy_row rfl (.tmp 20) (.tmp 21) 60 9 rfl 5 Tryz.underlying60 (by kernel_rfl) g D c (N - D) s rfl rfl (by rw [HZ.out, txt_size]) _ _ _ 5 (H4.out.tab.parts hq) (by rw [u8v_len, length_ahead _ hq, HD.out]) (by rw [u8v_len, length_textOf]) ?_; intro w5 hg5 hk5 hs5; go_frame)
  go_end0
  refine ⟨rfl, ?_, H4.out.old.trans (hk5.out.mono H4.out.old.size (fun _ _ h => h))⟩
  have := hg5.out
  rw [HZ.out, txt_list] at this
  rw [← swapR_rows]
  exact Tab.of_parts hq _ this
end Go.Proofs.YteanbflbclmeeaaGreat
