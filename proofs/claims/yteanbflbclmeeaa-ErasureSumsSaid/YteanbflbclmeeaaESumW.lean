/- The walk of ErasureSums. -/
import Derived.Test.YteanbflbclmeeaaEOneW
namespace Go.Proofs.Yteanbflbclmeeaa
open Go.RowKit

/-- The bytes of a text's beginning. -/
theorem strAt_extract (x : ByteArray) (L j : Nat) : strAt (x.extract 0 L) j = if j < L then strAt x j else 0 := by
  have hl : (x.extract 0 L).data.toList = x.data.toList.take L := by rw [ByteArray.data_extract]; simp
  rw [strAt_eq, strAt_eq, hl, List.getD, List.getD, List.getElem?_take]
  split
  · rfl
  · rfl
theorem strAt_txt (f : Nat → UInt8) (L j : Nat) : strAt (txt f L) j = if j < L then f j else 0 := by
  by_cases h : j < L
  · rw [if_pos h, txt_at _ _ _ h]
  · rw [if_neg h, strAt_eq, List.getD, txt_list, List.getElem?_eq_none (by rw [length_textOf]; omega)]; rfl
/-- Shards of sums are sums of shards. -/
theorem sum_sh {k s i j : Nat} {x y z : Nat → UInt8} (hz : ∀ j, z j = x j ^^^ y j) (hj : j < s) : strAt (shT k s (cutM s z) i) j = xr (strAt (shT k s (cutM s x) i) j) (strAt (shT k s (cutM s y) i) j) := by
  rw [xr_eq, shT_at _ _ hj, shT_at _ _ hj, shT_at _ _ hj]
  unfold mm
  rw [← sumX_xor]
  exact sumX_congr fun l _ => by rw [← tm_xor]; unfold cutM; rw [hz]
/-- A row of sums while it is made. -/
structure SmS (g L : Nat) (f : Nat → UInt8) (i : Nat) (w0 w : World) : Prop where
  row : w.heap[g]? = some (.cells (rowTo f L i).toArray 5 (0, 0))
  old : Below w0.heap.size w0 w
  lo : w0.heap.size ≤ g
theorem SmS.set {g L : Nat} {f : Nat → UInt8} {i : Nat} {w0 w : World} (h : SmS g L f i w0 w) (x : UInt8) (hx : f i = x) : SmS g L f (i + 1) w0 (w.setCell ⟨g, i, none⟩ (.int .u8 x.toNat)) :=
  ⟨by
    rw [set_list h.row i]
    show some (Obj.cells ((rowTo f L i).set i (u8v x)).toArray 5 (0, 0)) = _
    rw [rowTo_step f L i x hx], h.old.setCell (p := ⟨g, i, none⟩) h.lo _, h.lo⟩
theorem SmS.drewN {g L : Nat} {f : Nat → UInt8} {i : Nat} {w0 w : World} (h : SmS g L f i w0 w) (q : Nat) : SmS g L f i w0 (w.drewN q) := ⟨by rw [World.heap_drewN]; exact h.row, below_drewN h.old q, h.lo⟩
theorem run_min_three {P : Program} (w : World) (ts : Array TypeId) (t : TypeId) (k k' k'' : IntKind) (x y z : Int) :
    (Builtin.min_ ts t #[.int k x, .int k' y, .int k'' z]).run P w = .ok (.int k (min (min x y) z)) w := by
  have e : ∀ a b : Int, (if b < a then b else a) = min a b := by
    intro a b
    rw [Int.min_def]
    split <;> split <;> omega
  simp [Builtin.min_, Builtin.min2, e]
attribute [local go_sem high] run_min_three g_xor run_index_byte
set_option maxRecDepth 20000 in
set_option maxHeartbeats 2000000 in
theorem Sum_walk (k0 m0 : Int) (x y : ByteArray) (hk0 : -9223372036854775808 ≤ k0 ∧ k0 ≤ 9223372036854775807) (hm0 : -9223372036854775808 ≤ m0 ∧ m0 ≤ 9223372036854775807) (hx : x.size ≤ 140737488355328) (hy : y.size ≤ 140737488355328) (w : World) :
    Calls Try.prog 7 #[.int .i64 k0, .int .i64 m0, .string x, .string y] w fun e w' => e = .returned (.bool true) ∧ Below w.heap.size w w' := by
  obtain ⟨k, hk⟩ : ∃ k, k = 1 + pk k0 10 := ⟨_, rfl⟩
  have hk12 : 1 ≤ k ∧ k ≤ 10 := by have := pk_lt k0 10 (by decide); omega
  have hsum : (1 : Int) + (pk k0 10 : Int) = (k : Int) := by omega
  obtain ⟨m, hm⟩ : ∃ m, m = pk m0 7 := ⟨_, rfl⟩
  have hm12 : m ≤ 6 := by have := pk_lt m0 7 (by decide); omega
  have HPM := Lib.hid (pick_any m0 7 (by decide) hm0)
  rw [← hm] at HPM
  obtain ⟨n, hn⟩ : ∃ n, k + m = n := ⟨_, rfl⟩
  have hn16 : n ≤ 16 := by omega
  obtain ⟨L, hL⟩ : ∃ L, L = min (min x.size y.size) 500 := ⟨_, rfl⟩
  have hL5 : L ≤ 500 := by omega
  have hLx : L ≤ x.size := by omega
  have hLy : L ≤ y.size := by omega
  have hmin : min (min (x.size : Int) (y.size : Int)) 500 = (L : Int) := by omega
  have HN := Lib.hid hn
  clear hk hm hn hL
  go_enter Try.func7, Try.ntmps7
  go_wp2_with fail
  refine (eknown_any _).mono ?_
  rintro e w1 ⟨rfl, hb1⟩
  have B1 := Lib.hid hb1
  clear hb1
  go_wp2_with fail
  refine (pick_any k0 10 (by decide) hk0 _).mono ?_
  rintro e w' ⟨rfl, rfl⟩
  go_wp2_with fail
  refine (HPM.out _).mono ?_
  rintro e w' ⟨rfl, rfl⟩
  have hmk := make_zeros L (by omega)
  obtain ⟨f, hf⟩ : ∃ f : Nat → UInt8, f = fun j => xr (strAt x j) (strAt y j) := ⟨_, rfl⟩
  have HF := Lib.hid hf
  clear hf
  go_wp2_with fail
  have HS0 : Hid (SmS w1.heap.size L f 0 w1 (w1.alloc (.cells (List.replicate L (Value.int .u8 0)).toArray 5))) := Lib.hid ⟨by rw [rowTo_zero]; exact heap_alloc_new _ _, below_alloc _ _, Nat.le_refl _⟩
  clear hmk hmin
  go_loopw [12] (fun iv wr => ∃ i : Nat, i ≤ L ∧ iv = .int .i64 i ∧ SmS w1.heap.size L f i w1 wr) (fun iv _ => L - (intOf iv).toNat)
  case atStart => exact ⟨0, by omega, rfl, by simpa using HS0.out⟩
  case round =>
    clear HS0
    obtain ⟨i, hi, rfl, hR⟩ := hrel
    by_cases hlt : i < L
    · have ci : wr.cell? ⟨w1.heap.size, i, none⟩ = some (.int .u8 0) := by
        rw [cell_of_list hR.row, rowTo_get f L i i hlt, if_neg (by omega)]
      have fi := free_of_list hR.row i
      have HR := Lib.hid hR
      have HX : Hid (f i = xr (strAt x i) (strAt y i)) := Lib.hid (by rw [HF.out])
      have hix : i < x.size := by omega
      have hiy : i < y.size := by omega
      clear hR
      go_wp2_with fail
      refine wp_region_quiet_end (by kernel_rfl) rfl rfl (by kernel_rfl) (by kernel_rfl) (by kernel_rfl) ?_
      simp only [initL, lastL, List.cons_append, List.nil_append, Oper.mute]
      repeat (go_big_quiet_step (fail))
      refine wpQuiet_nil ?_
      rintro _ ⟨nq, rfl⟩
      have ci2 : (wr.drewN nq).cell? ⟨w1.heap.size, i, none⟩ = some (.int .u8 0) := ci
      have fi2 : (wr.drewN nq).frozen? ⟨w1.heap.size, i, none⟩ = false := fi
      clear ci fi
      go_simp
      go_wp2_with fail
      go_roundw
      case rel => exact ⟨i + 1, by omega, by go_num, (HR.out.drewN nq).set _ HX.out⟩
      case measure => simp [intOf]; omega
    · obtain rfl : L = i := by omega
      obtain ⟨x1, hx1⟩ : ∃ x1, x1 = x.extract 0 L := ⟨_, rfl⟩
      obtain ⟨y1, hy1⟩ : ∃ y1, y1 = y.extract 0 L := ⟨_, rfl⟩
      obtain ⟨z1, hz1⟩ : ∃ z1, z1 = txt f L := ⟨_, rfl⟩
      have hxs : x1.size = L := by rw [hx1, ByteArray.size_extract]; omega
      have hys : y1.size = L := by rw [hy1, ByteArray.size_extract]; omega
      have hzs : z1.size = L := by rw [hz1, txt_size]
      obtain ⟨s, hs⟩ : ∃ s, szN k L = s := ⟨_, rfl⟩
      obtain ⟨N, hN⟩ : ∃ N, k * s = N := ⟨_, rfl⟩
      have hNm : N ≤ 600 := by
        have := szN_small hk12.1 L
        rw [hs, hN] at this; omega
      have hss : s ≤ 500 := by have := szN_le hk12.1 L; omega
      obtain ⟨X, hX⟩ : ∃ X : Nat → ByteArray, X = shT k s (cutM s (strAt x1)) := ⟨_, rfl⟩
      obtain ⟨Y, hY⟩ : ∃ Y : Nat → ByteArray, Y = shT k s (cutM s (strAt y1)) := ⟨_, rfl⟩
      obtain ⟨Z, hZ⟩ : ∃ Z : Nat → ByteArray, Z = shT k s (cutM s (strAt z1)) := ⟨_, rfl⟩
      have HXS : Hid (∀ i, (X i).size = s) := Lib.hid (fun i => by rw [hX, shT_size])
      have HYS : Hid (∀ i, (Y i).size = s) := Lib.hid (fun i => by rw [hY, shT_size])
      have HZS : Hid (∀ i, (Z i).size = s) := Lib.hid (fun i => by rw [hZ, shT_size])
      have HXYZ : Hid (∀ i j, j < s → strAt (Z i) j = xr (strAt (X i) j) (strAt (Y i) j)) := Lib.hid (fun i j hj => by
        rw [hX, hY, hZ]
        refine sum_sh (fun j => ?_) hj
        rw [hx1, hy1, hz1, strAt_extract, strAt_extract, strAt_txt, HF.out]
        split
        · exact xr_eq _ _
        · rfl)
      have HE1 : Hid (∀ v, Calls Try.prog 13 #[.int .i64 k, .int .i64 m, .string x1] v fun e w' => ∃ g c, e = .returned (.tuple #[.slice (some ⟨g, 0, none⟩) n c, .nilIface]) ∧ ColT g n X w' ∧ Below v.heap.size v w') := Lib.hid (fun v => by
        rw [hX]; exact (Encode_ok k m n s N x1 hk12.1 HN.out (by omega) (by rw [hxs, hs]) hN (by omega) v).mono fun _ _ ⟨g, c, he, _, hT, hb⟩ => ⟨g, c, he, hT.col, hb⟩)
      have HE2 : Hid (∀ v, Calls Try.prog 13 #[.int .i64 k, .int .i64 m, .string y1] v fun e w' => ∃ g c, e = .returned (.tuple #[.slice (some ⟨g, 0, none⟩) n c, .nilIface]) ∧ ColT g n Y w' ∧ Below v.heap.size v w') := Lib.hid (fun v => by
        rw [hY]; exact (Encode_ok k m n s N y1 hk12.1 HN.out (by omega) (by rw [hys, hs]) hN (by omega) v).mono fun _ _ ⟨g, c, he, _, hT, hb⟩ => ⟨g, c, he, hT.col, hb⟩)
      have HE3 : Hid (∀ v, Calls Try.prog 13 #[.int .i64 k, .int .i64 m, .string z1] v fun e w' => ∃ g c, e = .returned (.tuple #[.slice (some ⟨g, 0, none⟩) n c, .nilIface]) ∧ ColT g n Z w' ∧ Below v.heap.size v w') := Lib.hid (fun v => by
        rw [hZ]; exact (Encode_ok k m n s N z1 hk12.1 HN.out (by omega) (by rw [hzs, hs]) hN (by omega) v).mono fun _ _ ⟨g, c, he, _, hT, hb⟩ => ⟨g, c, he, hT.col, hb⟩)
      have HR := Lib.hid hR.row
      have BR := Lib.hid (B1.out.trans (hR.old.mono B1.out.size))
      have hgl : w1.heap.size < wr.heap.size := lt_of_heap hR.row
      have HX1 := Lib.hid hx1
      have HY1 := Lib.hid hy1
      have HZ1 := Lib.hid hz1
      have hsum3 : (k : Int) + (m : Int) = (n : Int) := by have := HN.out; omega
      have hnb := nat_eq_B (i := n) (p := n) rfl
      have hLx' : L ≤ x.size := hLx
      clear hR hX hY hZ hx1 hy1 hz1 hs hN hxs hys hzs hsum
      go_wp2_with fail
      rw [← HX1.out]
      refine (HE1.out _).mono ?_
      rintro e w2 ⟨g2, c2, rfl, hT2, hb2⟩
      have B2 := Lib.hid (BR.out.trans (hb2.mono BR.out.size))
      have R2 := Lib.hid ((hb2.block _ hgl).trans HR.out)
      have T2 := Lib.hid hT2
      have hgl2 := Nat.lt_of_lt_of_le hgl hb2.size
      clear hT2 hb2 HE1 HR BR hgl
      go_wp2_with fail
      rw [← HY1.out]
      refine (HE2.out _).mono ?_
      rintro e w3 ⟨g3, c3, rfl, hT3, hb3⟩
      have B3 := Lib.hid (B2.out.trans (hb3.mono B2.out.size))
      have R3 : Hid (w3.rangeAt w1.heap.size 0 ((textOf f L).map u8v)) := Lib.hid (by
        have := (hb3.block _ hgl2).trans R2.out
        rw [rowTo_text] at this
        exact range_of_list this)
      have T23 := Lib.hid (T2.out.below hb3)
      have T3 := Lib.hid hT3
      clear hT3 hb3 HE2 B2 R2 T2 hgl2
      go_wp2_with (first | (refine wpList_bytes_string rfl 50 9 _ rfl 5 w1.heap.size 0 L L rfl (textOf f L) (length_textOf _ _) Try.underlying50 Try.underlying5 Try.underlying9 R3.out ?_; rw [← txt_eq, ← HZ1.out]; go_frame))
      refine (HE3.out _).mono ?_
      rintro e w4 ⟨g4, c4, rfl, hT4, hb4⟩
      have B4 := Lib.hid (B3.out.trans (hb4.mono B3.out.size))
      have T24 := Lib.hid (T23.out.below hb4)
      have T34 := Lib.hid (T3.out.below hb4)
      have T4 := Lib.hid hT4
      clear hT4 hb4 HE3 B3 T23 T3 R3
      go_wp2_with fail
      obtain ⟨S0, hS0⟩ : ∃ S0, S0 = w4 := ⟨_, rfl⟩
      have HX2 : Hid (∀ v, Below S0.heap.size S0 v → ∀ i, i < n → v.cell? ⟨g2, i, none⟩ = some (.string (X i))) := Lib.hid (fun v hv i hi => by
        rw [hS0] at hv
        have h0 := (T24.out.below hv).t i hi
        rw [Nat.zero_add] at h0; exact h0)
      have HY2 : Hid (∀ v, Below S0.heap.size S0 v → ∀ i, i < n → v.cell? ⟨g3, i, none⟩ = some (.string (Y i))) := Lib.hid (fun v hv i hi => by
        rw [hS0] at hv
        have h0 := (T34.out.below hv).t i hi
        rw [Nat.zero_add] at h0; exact h0)
      have HZ2 : Hid (∀ v, Below S0.heap.size S0 v → ∀ i, i < n → v.cell? ⟨g4, i, none⟩ = some (.string (Z i))) := Lib.hid (fun v hv i hi => by
        rw [hS0] at hv
        have h0 := (T4.out.below hv).t i hi
        rw [Nat.zero_add] at h0; exact h0)
      have BS : Hid (Below w.heap.size w S0) := Lib.hid (by rw [hS0]; exact B4.out)
      rw [← hS0]
      clear hS0 B4 T24 T34 T4 HX1 HY1 HZ1 hlt hi
      go_loopw [19] (fun iv wr => ∃ i : Nat, i ≤ n ∧ iv = .int .i64 i ∧ Below S0.heap.size S0 wr) (fun iv _ => n - (intOf iv).toNat)
      case atStart => exact ⟨0, by omega, rfl, Below.refl _ _⟩
      case round =>
        obtain ⟨i, hi, rfl, hB⟩ := hrel
        have HB := Lib.hid hB
        by_cases hlt : i < n
        · have cx := HX2.out _ hB i hlt
          have cy := HY2.out _ hB i hlt
          have cz := HZ2.out _ hB i hlt
          have sx := HXS.out i
          have sy := HYS.out i
          have sz := HZS.out i
          have HJ : Hid (∀ j, j < s → strAt (Z i) j = xr (strAt (X i) j) (strAt (Y i) j)) := Lib.hid (fun j hj => HXYZ.out i j hj)
          obtain ⟨xs, hxs⟩ : ∃ xs, xs = X i := ⟨_, rfl⟩
          obtain ⟨ys, hys⟩ : ∃ ys, ys = Y i := ⟨_, rfl⟩
          obtain ⟨zs, hzs⟩ : ∃ zs, zs = Z i := ⟨_, rfl⟩
          have HCX : Hid (∀ v, Below S0.heap.size S0 v → v.cell? ⟨g2, i, none⟩ = some (.string xs)) := Lib.hid (fun v hv => by rw [hxs]; exact HX2.out v hv i hlt)
          have HCY : Hid (∀ v, Below S0.heap.size S0 v → v.cell? ⟨g3, i, none⟩ = some (.string ys)) := Lib.hid (fun v hv => by rw [hys]; exact HY2.out v hv i hlt)
          have HCZ : Hid (∀ v, Below S0.heap.size S0 v → v.cell? ⟨g4, i, none⟩ = some (.string zs)) := Lib.hid (fun v hv => by rw [hzs]; exact HZ2.out v hv i hlt)
          rw [← hxs] at cx sx
          rw [← hys] at cy sy
          rw [← hzs] at cz sz
          rw [← hxs, ← hys, ← hzs] at HJ
          have hsb := nat_eq_B (i := s) (p := s) rfl
          clear hB hxs hys hzs
          go_wp2_with fail
          go_quiet (fail)
          obtain ⟨w6, hw6⟩ : ∃ w6, w6 = wr.drewN nq := ⟨_, rfl⟩
          have HB6 : Hid (Below S0.heap.size S0 w6) := Lib.hid (by rw [hw6]; exact below_drewN HB.out nq)
          rw [← hw6]
          clear hw6 cx cy cz HB hsb
          go_wp2_with fail
          go_loopw [20] (fun jv wr => ∃ j : Nat, j ≤ s ∧ jv = .int .i64 j ∧ Below S0.heap.size S0 wr) (fun jv _ => s - (intOf jv).toNat)
          case atStart => exact ⟨0, by omega, rfl, HB6.out⟩
          case round =>
            clear HB6
            obtain ⟨j, hj, rfl, hB⟩ := hrel
            have HB := Lib.hid hB
            have cx := HCX.out _ hB
            have cy := HCY.out _ hB
            have cz := HCZ.out _ hB
            clear hB
            by_cases hlj : j < s
            · have hjx : j < xs.size := by omega
              have hjy : j < ys.size := by omega
              have hjz : j < zs.size := by omega
              obtain ⟨u, hu⟩ : ∃ u, u = xr (strAt xs j) (strAt ys j) := ⟨_, rfl⟩
              have hju : strAt zs j = u := by rw [hu]; exact HJ.out j hlj
              have hub := nat_eq_B (i := u.toNat) (p := u.toNat) rfl
              have HU := Lib.hid hu
              clear hu
              go_wp2_with fail
              go_quiet (fail)
              rw [← HU.out]
              go_wp2_with fail
              go_roundw
              case rel => exact ⟨j + 1, by omega, by go_num, by first | exact HB.out | exact below_drewN HB.out _⟩
              case measure => simp [intOf]; omega
            · obtain rfl : s = j := by omega
              go_wp2_with fail
              go_roundw
              case rel => exact ⟨i + 1, by omega, by go_num, HB.out⟩
              case measure => simp [intOf]; omega
        · obtain rfl : n = i := by omega
          go_wp2_with fail
          go_ret
          exact ⟨rfl, BS.out.trans (HB.out.mono BS.out.size)⟩
end Go.Proofs.Yteanbflbclmeeaa
