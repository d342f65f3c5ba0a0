/- The document's own answer: a moment told in its three forms. -/
import Derived.Test.YtllboegemooeoaaYRef3
import Derived.Test.YtllboegemooeoaaSReg
namespace Go.Proofs.Ytllboegemooeoaa
open Go.RowKit

theorem lit_T : (⟨#[84]⟩ : ByteArray) = bs [84] := by rw [← bs_eq]
theorem lit_Z : (⟨#[90]⟩ : ByteArray) = bs [90] := by rw [← bs_eq]
theorem lit_c : (⟨#[58]⟩ : ByteArray) = bs [58] := by rw [← bs_eq]
theorem lit_m : (⟨#[45]⟩ : ByteArray) = bs [45] := by rw [← bs_eq]
theorem lit_b : (⟨#[32]⟩ : ByteArray) = bs [32] := by rw [← bs_eq]
theorem lit_cb : (⟨#[44, 32]⟩ : ByteArray) = bs [44, 32] := by rw [← bs_eq]
theorem lit_000 : (⟨#[46, 48, 48, 48, 90]⟩ : ByteArray) = bs [46, 48, 48, 48, 90] := by rw [← bs_eq]
theorem lit_GMT : (⟨#[32, 71, 77, 84]⟩ : ByteArray) = bs [32, 71, 77, 84] := by rw [← bs_eq]
attribute [local go_sem high] lit_T lit_Z lit_c lit_m lit_b lit_cb lit_000 lit_GMT
theorem len2 (n : Nat) : (Mo.d2 n).length = 2 := rfl
theorem len4 (n : Nat) : (Mo.d4 n).length = 4 := rfl
set_option maxRecDepth 100000 in
set_option maxHeartbeats 1000000 in
theorem qclock_any (y m d a : Int) (h i s : Nat) (h1 : h < 100) (h2 : i < 100) (h3 : s < 100) (w : World) : Calls Try.prog 33 #[.agg #[.int .i64 y, .int .i64 m, .int .i64 d, .int .i64 a, .int .i64 h, .int .i64 i, .int .i64 s]] w fun e w' => e = .returned (.string (bs (Mo.d2 h ++ [58] ++ Mo.d2 i ++ [58] ++ Mo.d2 s))) ∧ Below w.heap.size w w' := by
  have C4 := Lib.hid (fun v : World => qdigits_q2 h (by omega) v)
  have C5 := Lib.hid (fun v : World => qdigits_q2 i (by omega) v)
  have C6 := Lib.hid (fun v : World => qdigits_q2 s (by omega) v)
  obtain ⟨H, hH⟩ : ∃ H, H = Mo.d2 h := ⟨_, rfl⟩
  obtain ⟨I, hI⟩ : ∃ I, I = Mo.d2 i := ⟨_, rfl⟩
  obtain ⟨S, hS⟩ : ∃ S, S = Mo.d2 s := ⟨_, rfl⟩
  rw [← hH] at C4 ⊢; rw [← hI] at C5 ⊢; rw [← hS] at C6 ⊢
  have lH : H.length = 2 := by rw [hH, len2]
  have lI : I.length = 2 := by rw [hI, len2]
  have lS : S.length = 2 := by rw [hS, len2]
  have a1 : ∀ v : World, (Op.stringOp .add (bs H) (bs [58])).run Try.prog v = .ok (.string (bs (H ++ [58]))) v := fun v => add_bs _ _ (by first | omega | (simp; omega)) v
  have a2 : ∀ v : World, (Op.stringOp .add (bs (H ++ [58])) (bs I)).run Try.prog v = .ok (.string (bs (H ++ [58] ++ I))) v := fun v => add_bs _ _ (by first | omega | (simp; omega)) v
  have a3 : ∀ v : World, (Op.stringOp .add (bs (H ++ [58] ++ I)) (bs [58])).run Try.prog v = .ok (.string (bs (H ++ [58] ++ I ++ [58]))) v := fun v => add_bs _ _ (by first | omega | (simp; omega)) v
  have a4 : ∀ v : World, (Op.stringOp .add (bs (H ++ [58] ++ I ++ [58])) (bs S)).run Try.prog v = .ok (.string (bs (H ++ [58] ++ I ++ [58] ++ S))) v := fun v => add_bs _ _ (by first | omega | (simp; omega)) v
  obtain ⟨T1, t1⟩ : ∃ x, x = H ++ [58] := ⟨_, rfl⟩
  rw [← t1] at a1 a2 a3 a4 ⊢
  obtain ⟨T2, t2⟩ : ∃ x, x = T1 ++ I := ⟨_, rfl⟩
  rw [← t2] at a2 a3 a4 ⊢
  obtain ⟨T3, t3⟩ : ∃ x, x = T2 ++ [58] := ⟨_, rfl⟩
  rw [← t3] at a3 a4 ⊢
  obtain ⟨T4, t4⟩ : ∃ x, x = T3 ++ S := ⟨_, rfl⟩
  rw [← t4] at a4 ⊢
  clear t1 t2 t3 t4 lH lI lS hH hI hS
  go_enter Try.func33, Try.ntmps33
  go_wp2_with fail
  go_quiet (first | (go_at_call 32; first | ((with_reducible exact Calls.quiet_of_same (C4.out _))) | ((with_reducible exact Calls.quiet_of_same (C5.out _))) | ((with_reducible exact Calls.quiet_of_same (C6.out _)))))
  go_wp2
  go_ret
  exact ⟨rfl, below_drewN ((Below.refl _ _).alloc (Nat.le_refl _) _) _⟩
set_option maxRecDepth 100000 in
set_option maxHeartbeats 1000000 in
theorem qStamp_any (t : Nat) (ht : t < 253402300800) (w : World) : Calls Try.prog 19 #[.int .i64 t] w fun e w' => e = .returned (.string (bs (Mo.tx Mo.fS t))) ∧ Below w.heap.size w w' := by
  have hap := fun v => qApart_any t ht v
  have hd := Mo.dt_is (t / 86400) (by omega)
  have y2 := hd.y2; have m2 := hd.m2; have d2 := hd.d2; have dl := Mo.ml_le (Mo.dy (t / 86400)) (Mo.dm (t / 86400))
  rw [Mo.tx_S]
  clear hd
  generalize Mo.dy (t / 86400) = Y at *
  generalize Mo.dm (t / 86400) = M at *
  generalize Mo.dd (t / 86400) = d at *
  generalize (t / 86400 + 4) % 7 = a at *
  have hb : t / 3600 % 24 < 24 := Nat.mod_lt _ (by omega)
  have ib : t / 60 % 60 < 60 := Nat.mod_lt _ (by omega)
  have sb : t % 60 < 60 := Nat.mod_lt _ (by omega)
  generalize t / 3600 % 24 = h at *
  generalize t / 60 % 60 = i at *
  generalize t % 60 = s at *
  have C0 := Lib.hid (fun v : World => qdigits_q4 Y (by omega) v)
  have C1 := Lib.hid (fun v : World => qdigits_q2 M (by omega) v)
  have C2 := Lib.hid (fun v : World => qdigits_q2 d (by omega) v)
  have C4 := Lib.hid (fun v : World => qdigits_q2 h (by omega) v)
  have C5 := Lib.hid (fun v : World => qdigits_q2 i (by omega) v)
  have C6 := Lib.hid (fun v : World => qdigits_q2 s (by omega) v)
  obtain ⟨Ys, hY⟩ : ∃ H, H = Mo.d4 Y := ⟨_, rfl⟩
  obtain ⟨Ms, hM⟩ : ∃ H, H = Mo.d2 M := ⟨_, rfl⟩
  obtain ⟨ds, hdd⟩ : ∃ H, H = Mo.d2 d := ⟨_, rfl⟩
  obtain ⟨hs, hh⟩ : ∃ H, H = Mo.d2 h := ⟨_, rfl⟩
  obtain ⟨is, hi⟩ : ∃ I, I = Mo.d2 i := ⟨_, rfl⟩
  obtain ⟨ss, hss⟩ : ∃ S, S = Mo.d2 s := ⟨_, rfl⟩
  rw [← hY] at C0 ⊢; rw [← hM] at C1 ⊢; rw [← hdd] at C2 ⊢; rw [← hh] at C4 ⊢; rw [← hi] at C5 ⊢; rw [← hss] at C6 ⊢
  have lY : Ys.length = 4 := by rw [hY, len4]
  have lM : Ms.length = 2 := by rw [hM, len2]
  have ld : ds.length = 2 := by rw [hdd, len2]
  have lh : hs.length = 2 := by rw [hh, len2]
  have li : is.length = 2 := by rw [hi, len2]
  have ls : ss.length = 2 := by rw [hss, len2]
  have a1 : ∀ v : World, (Op.stringOp .add (bs Ys) (bs Ms)).run Try.prog v = .ok (.string (bs (Ys ++ Ms))) v := fun v => add_bs _ _ (by first | omega | (simp; omega)) v
  have a2 : ∀ v : World, (Op.stringOp .add (bs (Ys ++ Ms)) (bs ds)).run Try.prog v = .ok (.string (bs (Ys ++ Ms ++ ds))) v := fun v => add_bs _ _ (by first | omega | (simp; omega)) v
  have a3 : ∀ v : World, (Op.stringOp .add (bs (Ys ++ Ms ++ ds)) (bs [84])).run Try.prog v = .ok (.string (bs (Ys ++ Ms ++ ds ++ [84]))) v := fun v => add_bs _ _ (by first | omega | (simp; omega)) v
  have a4 : ∀ v : World, (Op.stringOp .add (bs (Ys ++ Ms ++ ds ++ [84])) (bs hs)).run Try.prog v = .ok (.string (bs (Ys ++ Ms ++ ds ++ [84] ++ hs))) v := fun v => add_bs _ _ (by first | omega | (simp; omega)) v
  have a5 : ∀ v : World, (Op.stringOp .add (bs (Ys ++ Ms ++ ds ++ [84] ++ hs)) (bs is)).run Try.prog v = .ok (.string (bs (Ys ++ Ms ++ ds ++ [84] ++ hs ++ is))) v := fun v => add_bs _ _ (by first | omega | (simp; omega)) v
  have a6 : ∀ v : World, (Op.stringOp .add (bs (Ys ++ Ms ++ ds ++ [84] ++ hs ++ is)) (bs ss)).run Try.prog v = .ok (.string (bs (Ys ++ Ms ++ ds ++ [84] ++ hs ++ is ++ ss))) v := fun v => add_bs _ _ (by first | omega | (simp; omega)) v
  have a7 : ∀ v : World, (Op.stringOp .add (bs (Ys ++ Ms ++ ds ++ [84] ++ hs ++ is ++ ss)) (bs [90])).run Try.prog v = .ok (.string (bs (Ys ++ Ms ++ ds ++ [84] ++ hs ++ is ++ ss ++ [90]))) v := fun v => add_bs _ _ (by first | omega | (simp; omega)) v
  clear lY lM ld lh li ls hY hM hdd hh hi hss hb ib sb y2 m2 d2 dl
  obtain ⟨T1, t1⟩ : ∃ x, x = Ys ++ Ms := ⟨_, rfl⟩
  rw [← t1] at a1 a2 a3 a4 a5 a6 a7 ⊢; clear t1
  obtain ⟨T2, t2⟩ : ∃ x, x = T1 ++ ds := ⟨_, rfl⟩
  rw [← t2] at a2 a3 a4 a5 a6 a7 ⊢; clear t2
  obtain ⟨T3, t3⟩ : ∃ x, x = T2 ++ [84] := ⟨_, rfl⟩
  rw [← t3] at a3 a4 a5 a6 a7 ⊢; clear t3
  obtain ⟨T4, t4⟩ : ∃ x, x = T3 ++ hs := ⟨_, rfl⟩
  rw [← t4] at a4 a5 a6 a7 ⊢; clear t4
  obtain ⟨T5, t5⟩ : ∃ x, x = T4 ++ is := ⟨_, rfl⟩
  rw [← t5] at a5 a6 a7 ⊢; clear t5
  obtain ⟨T6, t6⟩ : ∃ x, x = T5 ++ ss := ⟨_, rfl⟩
  rw [← t6] at a6 a7 ⊢; clear t6
  obtain ⟨T7, t7⟩ : ∃ x, x = T6 ++ [90] := ⟨_, rfl⟩
  rw [← t7] at a7 ⊢; clear t7
  have HAP := Lib.hid hap
  clear hap
  go_enter Try.func19, Try.ntmps19
  go_wp2_with (go_at_call 18; refine (HAP.out _).mono ?_; rintro e w1 ⟨rfl, hb⟩)
  have HB := Lib.hid hb
  clear hb
  go_quiet (first | (go_at_call 32; first | ((with_reducible exact Calls.quiet_of_same (C0.out _))) | ((with_reducible exact Calls.quiet_of_same (C1.out _))) | ((with_reducible exact Calls.quiet_of_same (C2.out _))) | ((with_reducible exact Calls.quiet_of_same (C4.out _))) | ((with_reducible exact Calls.quiet_of_same (C5.out _))) | ((with_reducible exact Calls.quiet_of_same (C6.out _)))))
  go_wp2
  go_ret
  exact ⟨rfl, below_drewN (HB.out.alloc HB.out.size _) _⟩
set_option maxRecDepth 100000 in
set_option maxHeartbeats 1000000 in
theorem qLong_any (t : Nat) (ht : t < 253402300800) (w : World) : Calls Try.prog 20 #[.int .i64 t] w fun e w' => e = .returned (.string (bs (Mo.tx Mo.fL t))) ∧ Below w.heap.size w w' := by
  have hap := fun v => qApart_any t ht v
  have hd := Mo.dt_is (t / 86400) (by omega)
  have y2 := hd.y2; have m2 := hd.m2; have m1 := hd.m1; have d2 := hd.d2; have dl := Mo.ml_le (Mo.dy (t / 86400)) (Mo.dm (t / 86400))
  rw [Mo.tx_L]
  unfold Mo.ck
  clear hd
  have ab : (t / 86400 + 4) % 7 < 7 := Nat.mod_lt _ (by omega)
  generalize Mo.dy (t / 86400) = Y at *
  generalize Mo.dm (t / 86400) = M at *
  generalize Mo.dd (t / 86400) = d at *
  generalize (t / 86400 + 4) % 7 = a at *
  have hb : t / 3600 % 24 < 24 := Nat.mod_lt _ (by omega)
  have ib : t / 60 % 60 < 60 := Nat.mod_lt _ (by omega)
  have sb : t % 60 < 60 := Nat.mod_lt _ (by omega)
  generalize t / 3600 % 24 = h at *
  generalize t / 60 % 60 = i at *
  generalize t % 60 = s at *
  have C0 := Lib.hid (fun v : World => qdigits_q4 Y (by omega) v)
  have C1 := Lib.hid (fun v : World => qdigits_q2 M (by omega) v)
  have C2 := Lib.hid (fun v : World => qdigits_q2 d (by omega) v)
  have C3 := Lib.hid (fun v : World => qclock_any Y M d a h i s (by omega) (by omega) (by omega) v)
  obtain ⟨Ys, hY⟩ : ∃ H, H = Mo.d4 Y := ⟨_, rfl⟩
  obtain ⟨Ms, hM⟩ : ∃ H, H = Mo.d2 M := ⟨_, rfl⟩
  obtain ⟨ds, hdd⟩ : ∃ H, H = Mo.d2 d := ⟨_, rfl⟩
  obtain ⟨cs, hcs⟩ : ∃ H, H = Mo.d2 h ++ [58] ++ Mo.d2 i ++ [58] ++ Mo.d2 s := ⟨_, rfl⟩
  rw [← hY] at C0 ⊢; rw [← hdd] at C2 ⊢; rw [← hcs] at C3 ⊢; rw [← hM] at C1 ⊢
  have lY : Ys.length = 4 := by rw [hY, len4]
  have lM : Ms.length = 2 := by rw [hM, len2]
  have ld : ds.length = 2 := by rw [hdd, len2]
  have lc : cs.length = 8 := by rw [hcs]; simp [len2]
  have a1 : ∀ v : World, (Op.stringOp .add (bs (Ys)) (bs [45])).run Try.prog v = .ok (.string (bs (Ys ++ [45]))) v := fun v => add_bs _ _ (by first | omega | (simp; omega)) v
  have a2 : ∀ v : World, (Op.stringOp .add (bs (Ys ++ [45])) (bs Ms)).run Try.prog v = .ok (.string (bs (Ys ++ [45] ++ Ms))) v := fun v => add_bs _ _ (by first | omega | (simp; omega)) v
  have a3 : ∀ v : World, (Op.stringOp .add (bs (Ys ++ [45] ++ Ms)) (bs [45])).run Try.prog v = .ok (.string (bs (Ys ++ [45] ++ Ms ++ [45]))) v := fun v => add_bs _ _ (by first | omega | (simp; omega)) v
  have a4 : ∀ v : World, (Op.stringOp .add (bs (Ys ++ [45] ++ Ms ++ [45])) (bs ds)).run Try.prog v = .ok (.string (bs (Ys ++ [45] ++ Ms ++ [45] ++ ds))) v := fun v => add_bs _ _ (by first | omega | (simp; omega)) v
  have a5 : ∀ v : World, (Op.stringOp .add (bs (Ys ++ [45] ++ Ms ++ [45] ++ ds)) (bs [84])).run Try.prog v = .ok (.string (bs (Ys ++ [45] ++ Ms ++ [45] ++ ds ++ [84]))) v := fun v => add_bs _ _ (by first | omega | (simp; omega)) v
  have a6 : ∀ v : World, (Op.stringOp .add (bs (Ys ++ [45] ++ Ms ++ [45] ++ ds ++ [84])) (bs cs)).run Try.prog v = .ok (.string (bs (Ys ++ [45] ++ Ms ++ [45] ++ ds ++ [84] ++ cs))) v := fun v => add_bs _ _ (by first | omega | (simp; omega)) v
  have a7 : ∀ v : World, (Op.stringOp .add (bs (Ys ++ [45] ++ Ms ++ [45] ++ ds ++ [84] ++ cs)) (bs [46, 48, 48, 48, 90])).run Try.prog v = .ok (.string (bs (Ys ++ [45] ++ Ms ++ [45] ++ ds ++ [84] ++ cs ++ [46, 48, 48, 48, 90]))) v := fun v => add_bs _ _ (by first | omega | (simp; omega)) v
  clear lY lM ld lc hY hM hdd hcs
  obtain ⟨T1, t1⟩ : ∃ x, x = Ys ++ [45] := ⟨_, rfl⟩
  rw [← t1] at a1 a2 a3 a4 a5 a6 a7 ⊢; clear t1
  obtain ⟨T2, t2⟩ : ∃ x, x = T1 ++ Ms := ⟨_, rfl⟩
  rw [← t2] at a2 a3 a4 a5 a6 a7 ⊢; clear t2
  obtain ⟨T3, t3⟩ : ∃ x, x = T2 ++ [45] := ⟨_, rfl⟩
  rw [← t3] at a3 a4 a5 a6 a7 ⊢; clear t3
  obtain ⟨T4, t4⟩ : ∃ x, x = T3 ++ ds := ⟨_, rfl⟩
  rw [← t4] at a4 a5 a6 a7 ⊢; clear t4
  obtain ⟨T5, t5⟩ : ∃ x, x = T4 ++ [84] := ⟨_, rfl⟩
  rw [← t5] at a5 a6 a7 ⊢; clear t5
  obtain ⟨T6, t6⟩ : ∃ x, x = T5 ++ cs := ⟨_, rfl⟩
  rw [← t6] at a6 a7 ⊢; clear t6
  obtain ⟨T7, t7⟩ : ∃ x, x = T6 ++ [46, 48, 48, 48, 90] := ⟨_, rfl⟩
  rw [← t7] at a7 ⊢; clear t7
  have HAP := Lib.hid hap
  clear hap
  clear ab hb ib sb y2 m1 m2 d2 dl
  go_enter Try.func20, Try.ntmps20
  go_wp2_with (go_at_call 18; refine (HAP.out _).mono ?_; rintro e w1 ⟨rfl, hb1⟩)
  have HB := Lib.hid hb1
  clear hb1
  obtain ⟨w2, hw2⟩ : ∃ x, x = w1.alloc (.cells #[.int .i64 (Y : Int), .int .i64 (M : Int), .int .i64 (d : Int), .int .i64 (a : Int), .int .i64 (h : Int), .int .i64 (i : Int), .int .i64 (s : Int)] 34) := ⟨_, rfl⟩
  rw [← hw2]
  have hg : w2.heap[w1.heap.size]? = some (.cells (wh Y M d a h i s).toArray 34 (0, 0)) := by rw [hw2]; exact heap_alloc_new _ _
  have HB2 := Lib.hid (show Below w.heap.size w w2 by rw [hw2]; exact HB.out.alloc HB.out.size _)
  have hlt : w1.heap.size < w2.heap.size := lt_of_heap hg
  clear hw2 HB HAP
  obtain ⟨S, hS⟩ : ∃ S : World → Prop, S = fun v => Below w2.heap.size w2 v := ⟨_, rfl⟩
  have hSb : ∀ v v', S v → Below v.heap.size v v' → S v' := by rw [hS]; exact fun v v' hv hb => hv.trans (hb.mono hv.size)
  have KS : ∀ (u : Of S) (j : Nat), u.w.cell? ⟨w1.heap.size, j, none⟩ = (wh Y M d a h i s)[j]? := by
    rw [hS]
    intro u j
    rw [World.cell?_of_block (w := w2) (a := ⟨w1.heap.size, j, none⟩) (u.ok.block _ hlt), cell_of_list hg]
  have k0 := fun u : Of S => (KS u 0)
  have k1 := fun u : Of S => (KS u 1)
  have k2 := fun u : Of S => (KS u 2)
  have k3 := fun u : Of S => (KS u 3)
  have k4 := fun u : Of S => (KS u 4)
  have k5 := fun u : Of S => (KS u 5)
  have k6 := fun u : Of S => (KS u 6)
  simp only [wh, List.getElem?_cons_zero, List.getElem?_cons_succ] at k0 k1 k2 k3 k4 k5 k6
  have D0 := Lib.hid (quiet_S hSb (f := 32) (args := #[.int .i64 Y, .int .i64 4]) (v := .string (bs Ys)) (fun v _ => (C0.out v).mono fun _ _ ⟨he, hw⟩ => ⟨he, hw ▸ Below.refl _ _⟩))
  have D1 := Lib.hid (quiet_S hSb (f := 32) (args := #[.int .i64 M, .int .i64 2]) (v := .string (bs Ms)) (fun v _ => (C1.out v).mono fun _ _ ⟨he, hw⟩ => ⟨he, hw ▸ Below.refl _ _⟩))
  have D2 := Lib.hid (quiet_S hSb (f := 32) (args := #[.int .i64 d, .int .i64 2]) (v := .string (bs ds)) (fun v _ => (C2.out v).mono fun _ _ ⟨he, hw⟩ => ⟨he, hw ▸ Below.refl _ _⟩))
  have D3 := Lib.hid (quiet_S hSb (f := 33) (args := #[.agg #[.int .i64 Y, .int .i64 M, .int .i64 d, .int .i64 a, .int .i64 h, .int .i64 i, .int .i64 s]]) (v := .string (bs cs)) (fun v _ => C3.out v))
  have S4 : S w2.drew := by rw [hS]; exact (Below.refl _ _).drew
  have HS4 := Lib.hid S4
  haveI : Nonempty (Of S) := ⟨⟨_, S4⟩⟩
  have HSS := Lib.hid hS
  clear S4 hS hSb KS hg hlt C0 C1 C2 C3
  refine wp_region_S S (by kernel_rfl) (by kernel_rfl) HS4.out ?_
  repeat (go_big_quiet_step (first | (go_at_call 32; first | (with_reducible exact D0.out _) | (with_reducible exact D2.out _) | (with_reducible exact D1.out _)) | (go_at_call 33; with_reducible exact D3.out _)))
  refine wpQuiet_nil ?_
  rintro w3 ⟨u3, e3⟩
  have h3 : S w3 := e3 ▸ u3.ok
  rw [HSS.out] at h3
  clear e3 u3 k0 k1 k2 k3 k4 k5 k6 this HS4 HSS
  have H3 := Lib.hid h3
  clear h3
  go_wp2_with fail
  go_ret
  exact ⟨rfl, HB2.out.trans (H3.out.mono HB2.out.size)⟩
theorem lit_dn : (⟨#[83, 117, 110, 77, 111, 110, 84, 117, 101, 87, 101, 100, 84, 104, 117, 70, 114, 105, 83, 97, 116]⟩ : ByteArray) = bs Mo.dnm := by rw [← bs_eq]; rfl
theorem lit_mn : (⟨#[74, 97, 110, 70, 101, 98, 77, 97, 114, 65, 112, 114, 77, 97, 121, 74, 117, 110, 74, 117, 108, 65, 117, 103, 83, 101, 112, 79, 99, 116, 78, 111, 118, 68, 101, 99]⟩ : ByteArray) = bs Mo.mnm := by rw [← bs_eq]; rfl
attribute [local go_sem high] lit_dn lit_mn
theorem cut_w : ∀ a < 7, (Mo.dnm.take (3 * a + 3)).drop (3 * a) = Mo.nm Mo.dnm a := by decide
theorem cut_m : ∀ m < 12, (Mo.mnm.take (3 * m + 3)).drop (3 * m) = Mo.nm Mo.mnm m := by decide
theorem name_w (a : Nat) (h : a < 7) (v : World) : (Instr.slice 9 (.string (bs Mo.dnm)) (some (.int .i64 (3 * (a : Int)))) (some (.int .i64 (3 * (a : Int) + 3))) none).run Try.prog v = .ok (.string (bs (Mo.nm Mo.dnm a))) v := by
  have := run_mid_string (P := Try.prog) v 9 (bs Mo.dnm) .i64 .i64 (3 * a) (3 * a + 3) Try.underlying9 (by omega) (by rw [bs_size]; show 3 * a + 3 ≤ 21; omega)
  rw [show (3 * (a : Int)) = ((3 * a : Nat) : Int) by omega, show ((3 * a : Nat) : Int) + 3 = ((3 * a + 3 : Nat) : Int) by omega, this]
  congr 2
  exact bs_of (by rw [extract_list, bs_list, cut_w a h])
theorem name_m (m : Nat) (h : 1 ≤ m) (h2 : m ≤ 12) (v : World) : (Instr.slice 9 (.string (bs Mo.mnm)) (some (.int .i64 (3 * (m : Int) - 3))) (some (.int .i64 (3 * (m : Int)))) none).run Try.prog v = .ok (.string (bs (Mo.nm Mo.mnm (m - 1)))) v := by
  have := run_mid_string (P := Try.prog) v 9 (bs Mo.mnm) .i64 .i64 (3 * (m - 1)) (3 * (m - 1) + 3) Try.underlying9 (by omega) (by rw [bs_size]; show 3 * (m - 1) + 3 ≤ 36; omega)
  rw [show (3 * (m : Int) - 3) = ((3 * (m - 1) : Nat) : Int) by omega, show (3 * (m : Int)) = ((3 * (m - 1) + 3 : Nat) : Int) by omega, this]
  congr 2
  exact bs_of (by rw [extract_list, bs_list, cut_m (m - 1) (by omega)])
set_option maxRecDepth 100000 in
set_option maxHeartbeats 1000000 in
theorem qWeb_any (t : Nat) (ht : t < 253402300800) (w : World) : Calls Try.prog 21 #[.int .i64 t] w fun e w' => e = .returned (.string (bs (Mo.tx Mo.fW t))) ∧ Below w.heap.size w w' := by
  have hap := fun v => qApart_any t ht v
  have hd := Mo.dt_is (t / 86400) (by omega)
  have y2 := hd.y2; have m2 := hd.m2; have m1 := hd.m1; have d2 := hd.d2; have dl := Mo.ml_le (Mo.dy (t / 86400)) (Mo.dm (t / 86400))
  rw [Mo.tx_W]
  unfold Mo.ck
  clear hd
  have ab : (t / 86400 + 4) % 7 < 7 := Nat.mod_lt _ (by omega)
  generalize Mo.dy (t / 86400) = Y at *
  generalize Mo.dm (t / 86400) = M at *
  generalize Mo.dd (t / 86400) = d at *
  generalize (t / 86400 + 4) % 7 = a at *
  have hb : t / 3600 % 24 < 24 := Nat.mod_lt _ (by omega)
  have ib : t / 60 % 60 < 60 := Nat.mod_lt _ (by omega)
  have sb : t % 60 < 60 := Nat.mod_lt _ (by omega)
  generalize t / 3600 % 24 = h at *
  generalize t / 60 % 60 = i at *
  generalize t % 60 = s at *
  have C0 := Lib.hid (fun v : World => qdigits_q4 Y (by omega) v)
  have C1 := Lib.hid (fun v : World => qdigits_q2 M (by omega) v)
  have C2 := Lib.hid (fun v : World => qdigits_q2 d (by omega) v)
  have C3 := Lib.hid (fun v : World => qclock_any Y M d a h i s (by omega) (by omega) (by omega) v)
  obtain ⟨Ys, hY⟩ : ∃ H, H = Mo.d4 Y := ⟨_, rfl⟩
  obtain ⟨Ms, hM⟩ : ∃ H, H = Mo.d2 M := ⟨_, rfl⟩
  obtain ⟨ds, hdd⟩ : ∃ H, H = Mo.d2 d := ⟨_, rfl⟩
  obtain ⟨cs, hcs⟩ : ∃ H, H = Mo.d2 h ++ [58] ++ Mo.d2 i ++ [58] ++ Mo.d2 s := ⟨_, rfl⟩
  rw [← hY] at C0 ⊢; rw [← hdd] at C2 ⊢; rw [← hcs] at C3 ⊢
  have lY : Ys.length = 4 := by rw [hY, len4]
  have lM : Ms.length = 2 := by rw [hM, len2]
  have ld : ds.length = 2 := by rw [hdd, len2]
  have lc : cs.length = 8 := by rw [hcs]; simp [len2]
  have sw := name_w a ab
  have sm := name_m M m1 m2
  obtain ⟨wk, hwk⟩ : ∃ H, H = Mo.nm Mo.dnm a := ⟨_, rfl⟩
  obtain ⟨mo, hmo⟩ : ∃ H, H = Mo.nm Mo.mnm (M - 1) := ⟨_, rfl⟩
  rw [← hwk] at sw ⊢; rw [← hmo] at sm ⊢
  have lw : wk.length = 3 := by rw [hwk]; rfl
  have lm : mo.length = 3 := by rw [hmo]; rfl
  have a1 : ∀ v : World, (Op.stringOp .add (bs (wk)) (bs [44, 32])).run Try.prog v = .ok (.string (bs (wk ++ [44, 32]))) v := fun v => add_bs _ _ (by first | omega | (simp; omega)) v
  have a2 : ∀ v : World, (Op.stringOp .add (bs (wk ++ [44, 32])) (bs ds)).run Try.prog v = .ok (.string (bs (wk ++ [44, 32] ++ ds))) v := fun v => add_bs _ _ (by first | omega | (simp; omega)) v
  have a3 : ∀ v : World, (Op.stringOp .add (bs (wk ++ [44, 32] ++ ds)) (bs [32])).run Try.prog v = .ok (.string (bs (wk ++ [44, 32] ++ ds ++ [32]))) v := fun v => add_bs _ _ (by first | omega | (simp; omega)) v
  have a4 : ∀ v : World, (Op.stringOp .add (bs (wk ++ [44, 32] ++ ds ++ [32])) (bs mo)).run Try.prog v = .ok (.string (bs (wk ++ [44, 32] ++ ds ++ [32] ++ mo))) v := fun v => add_bs _ _ (by first | omega | (simp; omega)) v
  have a5 : ∀ v : World, (Op.stringOp .add (bs (wk ++ [44, 32] ++ ds ++ [32] ++ mo)) (bs [32])).run Try.prog v = .ok (.string (bs (wk ++ [44, 32] ++ ds ++ [32] ++ mo ++ [32]))) v := fun v => add_bs _ _ (by first | omega | (simp; omega)) v
  have a6 : ∀ v : World, (Op.stringOp .add (bs (wk ++ [44, 32] ++ ds ++ [32] ++ mo ++ [32])) (bs Ys)).run Try.prog v = .ok (.string (bs (wk ++ [44, 32] ++ ds ++ [32] ++ mo ++ [32] ++ Ys))) v := fun v => add_bs _ _ (by first | omega | (simp; omega)) v
  have a7 : ∀ v : World, (Op.stringOp .add (bs (wk ++ [44, 32] ++ ds ++ [32] ++ mo ++ [32] ++ Ys)) (bs [32])).run Try.prog v = .ok (.string (bs (wk ++ [44, 32] ++ ds ++ [32] ++ mo ++ [32] ++ Ys ++ [32]))) v := fun v => add_bs _ _ (by first | omega | (simp; omega)) v
  have a8 : ∀ v : World, (Op.stringOp .add (bs (wk ++ [44, 32] ++ ds ++ [32] ++ mo ++ [32] ++ Ys ++ [32])) (bs cs)).run Try.prog v = .ok (.string (bs (wk ++ [44, 32] ++ ds ++ [32] ++ mo ++ [32] ++ Ys ++ [32] ++ cs))) v := fun v => add_bs _ _ (by first | omega | (simp; omega)) v
  have a9 : ∀ v : World, (Op.stringOp .add (bs (wk ++ [44, 32] ++ ds ++ [32] ++ mo ++ [32] ++ Ys ++ [32] ++ cs)) (bs [32, 71, 77, 84])).run Try.prog v = .ok (.string (bs (wk ++ [44, 32] ++ ds ++ [32] ++ mo ++ [32] ++ Ys ++ [32] ++ cs ++ [32, 71, 77, 84]))) v := fun v => add_bs _ _ (by first | omega | (simp; omega)) v
  clear lY lM ld lc hY hM hdd hcs lw lm hwk hmo
  obtain ⟨T1, t1⟩ : ∃ x, x = wk ++ [44, 32] := ⟨_, rfl⟩
  rw [← t1] at a1 a2 a3 a4 a5 a6 a7 a8 a9 ⊢; clear t1
  obtain ⟨T2, t2⟩ : ∃ x, x = T1 ++ ds := ⟨_, rfl⟩
  rw [← t2] at a2 a3 a4 a5 a6 a7 a8 a9 ⊢; clear t2
  obtain ⟨T3, t3⟩ : ∃ x, x = T2 ++ [32] := ⟨_, rfl⟩
  rw [← t3] at a3 a4 a5 a6 a7 a8 a9 ⊢; clear t3
  obtain ⟨T4, t4⟩ : ∃ x, x = T3 ++ mo := ⟨_, rfl⟩
  rw [← t4] at a4 a5 a6 a7 a8 a9 ⊢; clear t4
  obtain ⟨T5, t5⟩ : ∃ x, x = T4 ++ [32] := ⟨_, rfl⟩
  rw [← t5] at a5 a6 a7 a8 a9 ⊢; clear t5
  obtain ⟨T6, t6⟩ : ∃ x, x = T5 ++ Ys := ⟨_, rfl⟩
  rw [← t6] at a6 a7 a8 a9 ⊢; clear t6
  obtain ⟨T7, t7⟩ : ∃ x, x = T6 ++ [32] := ⟨_, rfl⟩
  rw [← t7] at a7 a8 a9 ⊢; clear t7
  obtain ⟨T8, t8⟩ : ∃ x, x = T7 ++ cs := ⟨_, rfl⟩
  rw [← t8] at a8 a9 ⊢; clear t8
  obtain ⟨T9, t9⟩ : ∃ x, x = T8 ++ [32, 71, 77, 84] := ⟨_, rfl⟩
  rw [← t9] at a9 ⊢; clear t9
  have HAP := Lib.hid hap
  clear hap
  clear hb ib sb y2 d2 dl
  go_enter Try.func21, Try.ntmps21
  go_wp2_with (go_at_call 18; refine (HAP.out _).mono ?_; rintro e w1 ⟨rfl, hb1⟩)
  have HB := Lib.hid hb1
  clear hb1
  obtain ⟨w2, hw2⟩ : ∃ x, x = w1.alloc (.cells #[.int .i64 (Y : Int), .int .i64 (M : Int), .int .i64 (d : Int), .int .i64 (a : Int), .int .i64 (h : Int), .int .i64 (i : Int), .int .i64 (s : Int)] 34) := ⟨_, rfl⟩
  rw [← hw2]
  have hg : w2.heap[w1.heap.size]? = some (.cells (wh Y M d a h i s).toArray 34 (0, 0)) := by rw [hw2]; exact heap_alloc_new _ _
  have HB2 := Lib.hid (show Below w.heap.size w w2 by rw [hw2]; exact HB.out.alloc HB.out.size _)
  have hlt : w1.heap.size < w2.heap.size := lt_of_heap hg
  clear hw2 HB HAP
  obtain ⟨S, hS⟩ : ∃ S : World → Prop, S = fun v => Below w2.heap.size w2 v := ⟨_, rfl⟩
  have hSb : ∀ v v', S v → Below v.heap.size v v' → S v' := by rw [hS]; exact fun v v' hv hb => hv.trans (hb.mono hv.size)
  have KS : ∀ (u : Of S) (j : Nat), u.w.cell? ⟨w1.heap.size, j, none⟩ = (wh Y M d a h i s)[j]? := by
    rw [hS]
    intro u j
    rw [World.cell?_of_block (w := w2) (a := ⟨w1.heap.size, j, none⟩) (u.ok.block _ hlt), cell_of_list hg]
  have k0 := fun u : Of S => (KS u 0)
  have k1 := fun u : Of S => (KS u 1)
  have k2 := fun u : Of S => (KS u 2)
  have k3 := fun u : Of S => (KS u 3)
  have k4 := fun u : Of S => (KS u 4)
  have k5 := fun u : Of S => (KS u 5)
  have k6 := fun u : Of S => (KS u 6)
  simp only [wh, List.getElem?_cons_zero, List.getElem?_cons_succ] at k0 k1 k2 k3 k4 k5 k6
  have D0 := Lib.hid (quiet_S hSb (f := 32) (args := #[.int .i64 Y, .int .i64 4]) (v := .string (bs Ys)) (fun v _ => (C0.out v).mono fun _ _ ⟨he, hw⟩ => ⟨he, hw ▸ Below.refl _ _⟩))
  have D2 := Lib.hid (quiet_S hSb (f := 32) (args := #[.int .i64 d, .int .i64 2]) (v := .string (bs ds)) (fun v _ => (C2.out v).mono fun _ _ ⟨he, hw⟩ => ⟨he, hw ▸ Below.refl _ _⟩))
  have D3 := Lib.hid (quiet_S hSb (f := 33) (args := #[.agg #[.int .i64 Y, .int .i64 M, .int .i64 d, .int .i64 a, .int .i64 h, .int .i64 i, .int .i64 s]]) (v := .string (bs cs)) (fun v _ => C3.out v))
  have S4 : S w2.drew := by rw [hS]; exact (Below.refl _ _).drew
  have HS4 := Lib.hid S4
  haveI : Nonempty (Of S) := ⟨⟨_, S4⟩⟩
  have HSS := Lib.hid hS
  clear S4 hS hSb KS hg hlt C0 C1 C2 C3
  refine wp_region_S S (by kernel_rfl) (by kernel_rfl) HS4.out ?_
  repeat (go_big_quiet_step (first | (go_at_call 32; first | (with_reducible exact D0.out _) | (with_reducible exact D2.out _)) | (go_at_call 33; with_reducible exact D3.out _)))
  refine wpQuiet_nil ?_
  rintro w3 ⟨u3, e3⟩
  have h3 : S w3 := e3 ▸ u3.ok
  rw [HSS.out] at h3
  clear e3 u3 k0 k1 k2 k3 k4 k5 k6 this HS4 HSS
  have H3 := Lib.hid h3
  clear h3
  go_wp2_with fail
  go_ret
  exact ⟨rfl, HB2.out.trans (H3.out.mono HB2.out.size)⟩
end Go.Proofs.Ytllboegemooeoaa
