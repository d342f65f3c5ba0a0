/- The walks of rows as texts, and of a table times a column of texts. -/
import Derived.Test.YteanbflbclmeeaaGreatMLay
import Derived.Test.YteanbflbclmeeaaGreatMTail
namespace Go.Proofs.YteanbflbclmeeaaGreat
open Go.RowKit

/-- Texts: the first i of n are f's. -/
@[irreducible] def strTo (f : Nat → ByteArray) (n i : Nat) : List Value := (List.range n).map fun k => Value.string (if k < i then f k else .empty)
theorem length_strTo (f : Nat → ByteArray) (n i : Nat) : (strTo f n i).length = n := by unfold strTo; simp
theorem strTo_get (f : Nat → ByteArray) (n i k : Nat) (h : k < n) : (strTo f n i)[k]? = some (.string (if k < i then f k else .empty)) := by unfold strTo; rw [List.getElem?_map, List.getElem?_range h]; rfl
theorem strTo_zero (f : Nat → ByteArray) (n : Nat) : strTo f n 0 = List.replicate n (.string .empty) := by unfold strTo; simp only [Nat.not_lt_zero, if_false]; rw [List.map_const']; simp
theorem strTo_step (f : Nat → ByteArray) (n i : Nat) (x : ByteArray) (hx : f i = x) : (strTo f n i).set i (.string x) = strTo f n (i + 1) := by
  apply List.ext_getElem?
  intro k
  by_cases hk : k < n
  · rw [strTo_get f n (i + 1) k hk]
    by_cases hki : k = i
    · subst hki
      rw [List.getElem?_set_self (by rw [length_strTo]; exact hk), if_pos (by omega), hx]
    · rw [List.getElem?_set_ne (by omega), strTo_get f n i k hk]
      by_cases h : k < i
      · rw [if_pos h, if_pos (by omega)]
      · rw [if_neg h, if_neg (by omega)]
  · rw [List.getElem?_eq_none (by rw [List.length_set, length_strTo]; omega), List.getElem?_eq_none (by rw [length_strTo]; omega)]
theorem strTo_congr {f h : Nat → ByteArray} {n i : Nat} (e : ∀ k, k < i → f k = h k) : strTo f n i = strTo h n i := by
  unfold strTo
  refine List.map_congr_left fun k _ => ?_
  by_cases hk : k < i
  · rw [if_pos hk, if_pos hk, e k hk]
  · rw [if_neg hk, if_neg hk]
/-- A block of n texts. -/
def Strs (h n : Nat) (f : Nat → ByteArray) (i : Nat) (w : World) : Prop := w.heap[h]? = some (.cells (strTo f n i).toArray 9 (0, 0))
theorem Strs.lt {h n i : Nat} {f : Nat → ByteArray} {w : World} (H : Strs h n f i w) : h < w.heap.size := lt_of_heap H
theorem Strs.keep {h n i : Nat} {f : Nat → ByteArray} {w w' : World} (H : Strs h n f i w) (hk : w'.heap[h]? = w.heap[h]?) : Strs h n f i w' := hk.trans H
theorem Strs.below {h n i B : Nat} {f : Nat → ByteArray} {w w' : World} (H : Strs h n f i w) (hb : Below B w w') (hl : h < B) : Strs h n f i w' := H.keep (hb.block h hl)
theorem Strs.cell {h n i : Nat} {f : Nat → ByteArray} {w : World} (H : Strs h n f i w) {k : Nat} (hk : k < n) : w.cell? ⟨h, k, none⟩ = some (.string (if k < i then f k else .empty)) := by rw [cell_of_list H, strTo_get f n i k hk]
theorem Strs.got {h n i : Nat} {f : Nat → ByteArray} {w : World} (H : Strs h n f i w) {k : Nat} (hk : k < n) (hi : k < i) : w.cell? ⟨h, k, none⟩ = some (.string (f k)) := by rw [H.cell hk, if_pos hi]
theorem Strs.set {h n i : Nat} {f : Nat → ByteArray} {w : World} (H : Strs h n f i w) (x : ByteArray) (hx : f i = x) : Strs h n f (i + 1) (w.setCell ⟨h, i, none⟩ (.string x)) := by
  unfold Strs
  rw [set_list H i (.string x), strTo_step f n i x hx]
theorem infoStr : (Tryz.prog.info? 9).map (fun i => (i.zero, i.size, i.bytes)) = some (some (.string .empty), 1, 16) := by kernel_rfl
theorem make_strs (n : Nat) (hn : n ≤ 1000000) (w : World) : (Instr.makeSlice 25 (.int .i64 n) (.int .i64 n)).run Tryz.prog w = .ok (.slice (some ⟨w.heap.size, 0, none⟩) n n) (w.alloc (.cells (List.replicate n (Value.string .empty)).toArray 9)) := by
  obtain ⟨i0, hi, hz0, hz1, hz2⟩ := ginfo_parts infoStr
  have hrun := run_make (P := Tryz.prog) w 25 9 i0 (.string .empty) Tryz.underlying25 hi hz0 .i64 .i64 (n : Int) (n : Int) (by omega) (by omega) (by rw [hz2]; omega) (by omega)
  have hm : madeCells (Value.string .empty).cells ((n : Int).toNat * i0.size) = (List.replicate n (Value.string .empty)).toArray := by
    rw [hz1]
    apply Array.toList_inj.1
    rw [show (Value.string .empty).cells = #[Value.string .empty] from rfl, toList_madeCells_one]; simp
  rw [hm] at hrun
  simpa only [Int.toNat_natCast] using hrun
/-- A box with the parts of a matrix that may only be read. -/
structure SrcS (B r c b o len cap : Nat) (M : Mat) (w0 v : World) : Prop where
  box : v.heap[B]? = some (.cells [Value.int .i64 r, .int .i64 c, .slice (some ⟨b, o, none⟩) len cap].toArray 104 (0, 0))
  src : Src b o M r c v
  lt : b < w0.heap.size
  old : Below w0.heap.size w0 v
theorem SrcS.below {B r c b o len cap : Nat} {M : Mat} {w0 v v' : World} (h : SrcS B r c b o len cap M w0 v) (hb : Below v.heap.size v v') : SrcS B r c b o len cap M w0 v' :=
  ⟨(hb.block B (lt_of_heap h.box)).trans h.box, h.src.keep (hb.block b (Nat.lt_of_lt_of_le h.lt h.old.size)), h.lt, h.old.trans (hb.mono h.old.size)⟩
theorem SrcS.set {B r c b o len cap : Nat} {M : Mat} {w0 v : World} (h : SrcS B r c b o len cap M w0 v) (p : Addr) (hp : w0.heap.size ≤ p.block) (hne : p.block ≠ B) (x : Value) : SrcS B r c b o len cap M w0 (v.setCell p x) :=
  ⟨(heap_setCell_other _ _ _ _ (fun e => hne e.symm)).trans h.box, h.src.keep (heap_setCell_other _ _ _ _ (by have := h.lt; omega)), h.lt, h.old.setCell hp x⟩
theorem SrcS.drew {B r c b o len cap : Nat} {M : Mat} {w0 v : World} (h : SrcS B r c b o len cap M w0 v) : SrcS B r c b o len cap M w0 v.drew := ⟨h.box, h.src, h.lt, h.old.drew⟩
/-- A column of texts of one length, at a place. -/
def Col (b o n m : Nat) (X : Mat) (w : World) : Prop := ∀ j, j < n → w.cell? ⟨b, o + j, none⟩ = some (.string (txt (X j) m))
theorem Col.keep {b o n m : Nat} {X : Mat} {w w' : World} (h : Col b o n m X w) (hk : w'.heap[b]? = w.heap[b]?) : Col b o n m X w' := fun j hj => (World.cell?_of_block (w := w) (a := ⟨b, o + j, none⟩) hk).trans (h j hj)
/-- The first j terms of a sum of texts. -/
def partF (M X : Mat) (i j : Nat) : Nat → UInt8 := fun k => sumX j fun l => tm (M i l) (X l k)
theorem partF_zero (M X : Mat) (i m : Nat) : txt (partF M X i 0) m = txt (fun _ => 0) m := txt_congr fun _ _ => sumX_zero _
theorem partF_step (M X : Mat) (i j m : Nat) : txt (fun k => partF M X i j k ^^^ tm (M i j) (X j k)) m = txt (partF M X i (j + 1)) m := txt_congr fun k _ => by unfold partF; rw [sumX_succ]
/-- What stands within applied: the table's box, the column, the list so far; the text x stands in the i-th place. -/
structure AppS (B r c b o len cap hb ho m H i : Nat) (M X : Mat) (x : ByteArray) (w0 v : World) : Prop where
  tab : SrcS B r c b o len cap M w0 v
  col : Col hb ho c m X v
  hlt : hb < w0.heap.size
  lst : v.heap[H]? = some (.cells ((strTo (fun i => txt (mm c M X i) m) r i).set i (.string x)).toArray 9 (0, 0))
  hle : w0.heap.size ≤ H
  ne : H ≠ B
theorem AppS.below {B r c b o len cap hb ho m H i : Nat} {M X : Mat} {x : ByteArray} {w0 v v' : World} (h : AppS B r c b o len cap hb ho m H i M X x w0 v) (k : Below v.heap.size v v') : AppS B r c b o len cap hb ho m H i M X x w0 v' :=
  ⟨h.tab.below k, h.col.keep (k.block hb (Nat.lt_of_lt_of_le h.hlt h.tab.old.size)), h.hlt, (k.block H (lt_of_heap h.lst)).trans h.lst, h.hle, h.ne⟩
theorem AppS.drew {B r c b o len cap hb ho m H i : Nat} {M X : Mat} {x : ByteArray} {w0 v : World} (h : AppS B r c b o len cap hb ho m H i M X x w0 v) : AppS B r c b o len cap hb ho m H i M X x w0 v.drew := ⟨h.tab.drew, h.col, h.hlt, h.lst, h.hle, h.ne⟩
theorem AppS.set {B r c b o len cap hb ho m H i : Nat} {M X : Mat} {x : ByteArray} {w0 v : World} (h : AppS B r c b o len cap hb ho m H i M X x w0 v) (y : ByteArray) : AppS B r c b o len cap hb ho m H i M X y w0 (v.setCell ⟨H, i, none⟩ (.string y)) :=
  ⟨h.tab.set ⟨H, i, none⟩ h.hle h.ne _, h.col.keep (heap_setCell_other _ _ _ _ (by have := h.hlt; have := h.hle; show hb ≠ H; omega)), h.hlt, by rw [set_list h.lst i (.string y), List.set_set], h.hle, h.ne⟩
theorem AppS.cell {B r c b o len cap hb ho m H i : Nat} {M X : Mat} {x : ByteArray} {w0 v : World} (h : AppS B r c b o len cap hb ho m H i M X x w0 v) (hi : i < r) : v.cell? ⟨H, i, none⟩ = some (.string x) := by
  rw [cell_of_list h.lst, List.getElem?_set_self (by rw [length_strTo]; exact hi)]
theorem AppS.of {B r c b o len cap hb ho m H i : Nat} {M X : Mat} {w0 v : World} (h1 : SrcS B r c b o len cap M w0 v) (h2 : Col hb ho c m X v) (h3 : hb < w0.heap.size) (h4 : Strs H r (fun i => txt (mm c M X i) m) i v) (h5 : w0.heap.size ≤ H) (h6 : H ≠ B) (y : ByteArray) :
    AppS B r c b o len cap hb ho m H i M X y w0 (v.setCell ⟨H, i, none⟩ (.string y)) :=
  ⟨h1.set ⟨H, i, none⟩ h5 h6 _, h2.keep (heap_setCell_other _ _ _ _ (by show hb ≠ H; omega)), h3, by rw [set_list h4 i (.string y)], h5, h6⟩
theorem AppS.next {B r c b o len cap hb ho m H i : Nat} {M X : Mat} {w0 v : World} (h : AppS B r c b o len cap hb ho m H i M X (txt (mm c M X i) m) w0 v) : Strs H r (fun i => txt (mm c M X i) m) (i + 1) v := by
  unfold Strs
  rw [← strTo_step (fun i => txt (mm c M X i) m) r i _ rfl]; exact h.lst
set_option maxRecDepth 20000 in
set_option maxHeartbeats 2000000 in
theorem applied_any (r c b o len cap hb ho capc m : Nat) (M X : Mat) (hc0 : 1 ≤ c) (hlen : r * c = len) (hcap : len ≤ cap) (hlm : len ≤ 1000000) (hm : m ≤ 1000000) (w : World) (hX : Src b o M r c w) (hbl : b < w.heap.size) (hcol : Col hb ho c m X w) (hhl : hb < w.heap.size) :
    Calls Tryz.prog 68 #[.agg #[.int .i64 r, .int .i64 c, .slice (some ⟨b, o, none⟩) len cap], .slice (some ⟨hb, ho, none⟩) c capc] w fun e w' => ∃ h, w.heap.size ≤ h ∧ e = .returned (.slice (some ⟨h, 0, none⟩) r r) ∧ Strs h r (fun i => txt (mm c M X i) m) r w' ∧ Below w.heap.size w w' := by
  have hr : r ≤ len := by rw [← hlen]; exact Nat.le_mul_of_pos_right r hc0
  have hmk := make_strs r (by omega)
  have hmz := make_zeros m hm
  obtain ⟨wa, hwa⟩ : ∃ wa, wa = ((w.alloc (.cells [Value.int .i64 r, .int .i64 c, .slice (some ⟨b, o, none⟩) len cap].toArray 104)).alloc (.cells (List.replicate r (Value.string .empty)).toArray 9)) := ⟨_, rfl⟩
  have hs0 : SrcS w.heap.size r c b o len cap M w wa := by
    rw [hwa]
    have h0 : SrcS w.heap.size r c b o len cap M w (w.alloc (.cells [Value.int .i64 r, .int .i64 c, .slice (some ⟨b, o, none⟩) len cap].toArray 104)) :=
      ⟨heap_alloc_new _ _, hX.keep (heap_alloc_old _ _ hbl), hbl, (Below.refl _ _).alloc (Nat.le_refl _) _⟩
    exact h0.below ((Below.refl _ _).alloc (Nat.le_refl _) _)
  have hst : Strs (w.heap.size + 1) r (fun i => txt (mm c M X i) m) 0 wa := by
    rw [hwa]; unfold Strs; rw [strTo_zero]; exact heap_alloc2_new _ _ _
  have hsz : wa.heap.size = w.heap.size + 1 + 1 := by rw [hwa]; simp
  have hco : Col hb ho c m X wa := hcol.keep (hs0.old.block hb hhl)
  have k0 : w.cell? ⟨hb, ho, none⟩ = some (.string (txt (X 0) m)) := hcol 0 (by omega)
  have hx0 := txt_size (X 0) m
  obtain ⟨s0, hs0e⟩ : ∃ s0, s0 = txt (X 0) m := ⟨_, rfl⟩
  rw [← hs0e] at k0 hx0
  have hzz : txt (partF M X 0 0) m = ⟨((List.replicate m (0 : UInt8))).toArray⟩ := by
    rw [partF_zero, txt_eq]; unfold textOf; rw [List.map_const', List.length_range]
  have hbz : Below wa.heap.size wa (wa.alloc (.cells (List.replicate m (Value.int .u8 0)).toArray 5)) := (Below.refl _ _).alloc (Nat.le_refl _) _
  have HS := Lib.hid (And.intro (hs0.below hbz) (And.intro (hst.below hbz hst.lt) (hco.keep (hbz.block hb (by omega)))))
  have hrz : (wa.alloc (.cells (List.replicate m (Value.int .u8 0)).toArray 5)).rangeAt (w.heap.size + 1 + 1) 0 ((List.replicate m (0 : UInt8)).map u8v) := by
    rw [← hsz, List.map_replicate]; exact range_of_list (heap_alloc_new _ _)
  have HRZ := Lib.hid hrz
  have HZZ := Lib.hid hzz
  clear hzz
  obtain ⟨wz, hwz⟩ : ∃ wz, wz = wa.alloc (.cells (List.replicate m (Value.int .u8 0)).toArray 5) := ⟨_, rfl⟩
  rw [← hwz] at HS
  have HWZ := Lib.hid hwz
  clear hwz
  have HWA := Lib.hid hwa
  clear hrz hwa hbz
  have HLEN := Lib.hid hlen
  have HCOL := Lib.hid hcol
  clear hs0 hst hco hcol hX hlen hs0e
  go_enter Tryz.func68, Tryz.ntmps68
  go_wp2_with (refine wpList_bytes_string rfl 60 9 _ rfl 5 (w.heap.size + 1 + 1) 0 m m rfl (List.replicate m (0 : UInt8)) (by simp) Tryz.underlying60 Tryz.underlying5 Tryz.underlying9 (by have := HRZ.out; rw [HWA.out] at this; simpa using this) ?_; rw [← HZZ.out]; go_frame)
  have hwz : wz = ((w.alloc (.cells [Value.int .i64 r, .int .i64 c, .slice (some ⟨b, o, none⟩) len cap].toArray 104)).alloc (.cells (List.replicate r (Value.string .empty)).toArray 9)).alloc (.cells (List.replicate m (Value.int .u8 0)).toArray 5) := by rw [HWZ.out, HWA.out]
  simp only [List.toArray_replicate] at hwz ⊢
  rw [← hwz]
  obtain ⟨s1, hs1⟩ : ∃ s1, s1 = txt (partF M X 0 0) m := ⟨_, rfl⟩
  rw [← hs1]
  have hs1' : ∀ i, s1 = txt (partF M X i 0) m := fun i => by rw [hs1, partF_zero, partF_zero]
  have HS1 := Lib.hid hs1'
  clear hwz HRZ HWA HWZ hs1 hs1' hmk hmz HZZ hx0 k0 hsz
  go_loopw [21] (fun iv wr => ∃ i : Nat, i ≤ r ∧ iv = .int .i64 i ∧ (SrcS w.heap.size r c b o len cap M w wr ∧ Strs (w.heap.size + 1) r (fun i => txt (mm c M X i) m) i wr ∧ Col hb ho c m X wr)) (fun iv _ => r - (intOf iv).toNat)
  case atStart => exact ⟨0, by omega, rfl, HS.out⟩
  case round =>
    clear HS
    obtain ⟨i, hi, rfl, hB⟩ := hrel
    by_cases hlt : i < r
    · obtain ⟨D, hD⟩ : ∃ D, i * c = D := ⟨_, rfl⟩
      have fD := row_fits HLEN.out hD hlt
      have HD := Lib.hid hD
      have hcell := hB.2.1.cell hlt
      have hfree := free_of_list hB.2.1 i
      have H1 := Lib.hid (AppS.of hB.1 hB.2.2 hhl hB.2.1 (by omega) (by omega) s1)
      have d0 := (heap_cell0 H1.out.tab.box).1
      have d1 := (heap_cell0 H1.out.tab.box).2.1
      have d2 := (heap_cell0 H1.out.tab.box).2.2
      clear hD hB
      go_wp2_with fail
      refine (row_any r c b o len cap i D HD.out (by omega) (by omega) hc0 (by omega) (by omega) _).mono ?_
      rintro e w2 ⟨rfl, hb2⟩
      have H2 := Lib.hid (H1.out.below hb2)
      clear H1 d0 d1 d2 hb2 hcell hfree
      obtain ⟨w6, rfl⟩ : ∃ x, x = wr := ⟨_, rfl⟩
      go_wp2_with fail
      go_loopw [32] (fun jv wr => ∃ j : Nat, j ≤ c ∧ jv = .int .i64 j ∧ AppS w.heap.size r c b o len cap hb ho m (w.heap.size + 1) i M X (txt (partF M X i j) m) w wr) (fun jv _ => c - (intOf jv).toNat)
      case atStart => exact ⟨0, by omega, rfl, by rw [← HS1.out i]; exact H2.out⟩
      case round =>
        clear H2
        obtain ⟨j, hj, rfl, hA⟩ := hrel
        by_cases hlj : j < c
        · obtain ⟨x, hx⟩ : ∃ x, x = txt (partF M X i j) m := ⟨_, rfl⟩
          rw [← hx] at hA
          have hcell : wr.cell? ⟨b, o + D + j, none⟩ = some (.int .u8 (M i j).toNat) := by
            have := hA.tab.src.cell hlt hlj
            rw [HD.out, ← Nat.add_assoc] at this; exact this
          obtain ⟨y, hy⟩ : ∃ y, y = txt (X j) m := ⟨_, rfl⟩
          obtain ⟨S, hS⟩ : ∃ S, S = AppS w.heap.size r c b o len cap hb ho m (w.heap.size + 1) i M X x w := ⟨_, rfl⟩
          have hSb : ∀ v v', S v → Below v.heap.size v v' → S v' := by rw [hS]; exact fun v v' hv hb => hv.below hb
          have c0 : ∀ u : Of S, u.w.cell? ⟨w.heap.size + 1, i, none⟩ = some (.string x) := by rw [hS]; exact fun u => u.ok.cell hlt
          have c1 : ∀ u : Of S, u.w.cell? ⟨hb, ho + j, none⟩ = some (.string y) := by rw [hS, hy]; exact fun u => u.ok.col j hlj
          obtain ⟨z, hz⟩ : ∃ z, z = txt (partF M X i (j + 1)) m := ⟨_, rfl⟩
          have SC := Lib.hid (quiet_S hSb (fun v _ => by
            have := Scale_txt (partF M X i j) (X j) m (M i j) hm v
            rw [← hx, ← hy, partF_step, ← hz] at this; exact this))
          haveI : Nonempty (Of S) := ⟨⟨_, by rw [hS]; exact hA⟩⟩
          have hAd : S wr.drew := by rw [hS]; exact hA.drew
          have HA := Lib.hid hAd
          have HS := Lib.hid hS
          have HZ := Lib.hid hz
          clear hA hAd hS hSb hx hy hz
          go_wp2_with fail
          refine wp_region_S_store S 14 (by kernel_rfl) rfl rfl (by kernel_rfl) (by kernel_rfl) (by kernel_rfl) _ rfl ⟨rfl, pure_extract _ _ _ rfl, store_free rfl (by decide) (by decide)⟩ HA.out ?_
          simp only [initL, lastL, List.cons_append, List.nil_append, Oper.mute]
          repeat (go_big_quiet_step (first | (go_at_call 80; with_reducible exact SC.out _)))
          refine wpQuiet_nil ?_
          rintro w7 ⟨u7, e7⟩
          have h7 : S w7 := e7 ▸ u7.ok
          rw [HS.out] at h7
          have k0 := h7.cell hlt
          have f0 := free_of_list h7.lst i
          have H7 := Lib.hid h7
          clear e7 u7 h7 c0 c1 this SC HA hcell
          refine ⟨w7.setCell ⟨w.heap.size + 1, i, none⟩ (.string z), by go_simp, ?_⟩
          have H8 : Hid (AppS w.heap.size r c b o len cap hb ho m (w.heap.size + 1) i M X (txt (partF M X i (j + 1)) m) w (w7.setCell ⟨w.heap.size + 1, i, none⟩ (.string z))) := Lib.hid (by rw [← HZ.out]; exact H7.out.set z)
          clear k0 f0 H7
          go_wp2_with fail
          go_roundw
          case rel => exact ⟨j + 1, by omega, by go_num, H8.out⟩
          case measure => simp [intOf]; omega
        · obtain rfl : j = c := by omega
          have HA := Lib.hid hA
          clear hA
          go_wp2_with fail
          go_roundw
          case rel => exact ⟨i + 1, by omega, by go_num, HA.out.tab, HA.out.next, HA.out.col⟩
          case measure => simp [intOf]; omega
    · obtain rfl : i = r := by omega
      have H1 := Lib.hid hB
      clear hB
      go_wp2_with fail
      go_ret
      exact ⟨w.heap.size + 1, by omega, rfl, H1.out.2.1, H1.out.1.old⟩
end Go.Proofs.YteanbflbclmeeaaGreat
