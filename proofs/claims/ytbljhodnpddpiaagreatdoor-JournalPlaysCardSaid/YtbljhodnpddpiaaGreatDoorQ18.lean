/- Several texts in one, in the order in which they build: JOpenG JFar JO1 SReg. -/
import Derived.Test.YtbljhodnpddpiaaGreatDoorQ17
import Derived.Test.YtbljhodnpddpiaaGreatDoorQ12
import Derived.Test.YtbljhodnpddpiaaGreatDoorQ07
import Derived.Test.YtbljhodnpddpiaaGreatDoorQ14
import Derived.Test.YtbljhodnpddpiaaGreatDoorQ03
import Derived.Deep.QuietTactic
import Derived.BigQuiet
/- Open of whatever stands on the sectors; what is refused. -/
namespace Go.Proofs.YtbljhodnpddpiaaGreatDoor
open Go.RowKit

set_option maxRecDepth 100000 in
set_option maxHeartbeats 2000000 in
theorem Open_gen (d p n : Nat) (F : List Nat) (st : St) (c from_ m act ep : Nat) (recs : List (List UInt8)) (fi si : Int) (hfi : fi = from_) (hsi : si = (2 * m : Nat)) (hm : from_ + 2 * m ≤ n) (hm2 : 2 ≤ m) (w : World) (h : Jd d p n F st c w) (hR : RightG st.S from_ m act ep recs) (he1 : 1 ≤ ep) :
    Calls Tryz.prog 21 #[.pointer (some ⟨d, 0, none⟩), .int .i64 fi, .int .i64 si] w fun e w' => ∃ j v, w.heap.size ≤ j ∧ e = .returned (.tuple #[.pointer (some ⟨j, 0, none⟩), v, .nilIface]) ∧ Jd d p n F st c w' ∧ JAt j d from_ m act ep (1 + recs.length) (1 + secsAll recs) false w' ∧
      w'.ownsRow w.heap.size 9 1 v recs.length (recs.map strv) ∧ Below w.heap.size w w' := by
  have hn := h.n2
  subst hfi hsi
  have CR := Lib.hid (rowOf_ok d p n F st from_ m hm2 hm hn w h.dsk.liv)
  unfold rowV at CR
  have CFI := Lib.hid (fun (y : World) (hy : Below w.heap.size w y) => find_gen d p n F st from_ m act ep recs hm hm2 hn h.ps hR he1 y (h.dsk.below hy))
  unfold rowV at CFI
  have H := Lib.hid h
  have hll := length_le_secsAll recs
  clear h hR
  go_enter Tryz.func21, Tryz.ntmps21
  go_wp2_with (first | (go_at_call 32; refine CR.out.mono ?_; rintro e w1 ⟨rfl, hb1⟩; have HB1 := Lib.hid hb1; clear hb1) | fail)
  have hz1 := HB1.out.size
  refine (CFI.out _ (HB1.out.alloc hz1 _)).mono ?_
  rintro e w3 ⟨v, rfl, hown, hD3, hb3⟩
  have hz3 := hb3.size
  have HB3 := Lib.hid ((HB1.out.alloc hz1 _).trans (hb3.mono (by simp; omega)))
  have HO3 := Lib.hid hown
  have g0 : w3.heap[w1.heap.size]? = some (.cells [Value.pointer (some ⟨d, 0, none⟩), .int .i64 from_, .int .i64 m].toArray 75 (0, 0)) := (hb3.block w1.heap.size (by simp)).trans (heap_alloc_new _ _)
  have c0 : w3.cell? ⟨w1.heap.size, 0, none⟩ = some (.pointer (some ⟨d, 0, none⟩)) := by rw [cell_of_list g0]; rfl
  have c1 : w3.cell? ⟨w1.heap.size, 1, none⟩ = some (.int .i64 from_) := by rw [cell_of_list g0]; rfl
  have c2 : w3.cell? ⟨w1.heap.size, 2, none⟩ = some (.int .i64 m) := by rw [cell_of_list g0]; rfl
  have hlt := lt_of_heap g0
  have HD3 := Lib.hid hD3
  clear hown hD3 hb3 g0
  have hz30 := HB3.out.size
  unfold stV
  go_wp2_with fail
  go_ret3
  refine ⟨w3.heap.size + 1, v, by omega, rfl, ?_, ?_, own_low (own_below (own_below HO3.out ((Below.refl _ _).alloc (Nat.le_refl _) _)) ((Below.refl _ _).alloc (Nat.le_refl _) _)) (by simp; omega), (HB3.out.alloc hz30 _).alloc (by simp; omega) _⟩
  · exact ⟨(HD3.out.below ((Below.refl _ _).alloc (Nat.le_refl _) _)).below ((Below.refl _ _).alloc (Nat.le_refl _) _), H.out.free, H.out.ps, H.out.a0, H.out.a1⟩
  · exact heap_alloc2_new _ _ _
set_option maxRecDepth 100000 in
set_option maxHeartbeats 2000000 in
theorem Open_blank (d p n : Nat) (F : List Nat) (st : St) (c from_ m act : Nat) (recs : List (List UInt8)) (fi si : Int) (hfi : fi = from_) (hsi : si = (2 * m : Nat)) (hm : from_ + 2 * m ≤ n) (hm2 : 2 ≤ m) (w : World) (h : Jd d p n F st c w) (hR : RightG st.S from_ m act 0 recs) :
    Calls Tryz.prog 21 #[.pointer (some ⟨d, 0, none⟩), .int .i64 fi, .int .i64 si] w (Refused 15 0 (fun v => .tuple #[.pointer none, .slice none 0 0, v]) w) := by
  have hn := h.n2
  subst hfi hsi
  have CR := Lib.hid (rowOf_ok d p n F st from_ m hm2 hm hn w h.dsk.liv)
  unfold rowV at CR
  have CFI := Lib.hid (fun (y : World) (hy : Below w.heap.size w y) => find_blank d p n F st from_ m act 0 recs hm hm2 hn h.ps hR rfl y (h.dsk.below hy))
  unfold rowV at CFI
  clear h hR
  go_enter Tryz.func21, Tryz.ntmps21
  go_wp2_with (first | (go_at_call 32; refine CR.out.mono ?_; rintro e w1 ⟨rfl, hb1⟩; have HB1 := Lib.hid hb1; clear hb1) | fail)
  have hz1 := HB1.out.size
  refine (CFI.out _ (HB1.out.alloc hz1 _)).mono ?_
  rintro e w3 ⟨g, hg, rfl, hf, hb3⟩
  have hz3 := hb3.size
  have HB3 := Lib.hid ((HB1.out.alloc hz1 _).trans (hb3.mono (by simp; omega)))
  have HF := Lib.hid hf
  have hgl : w.heap.size ≤ g := by simp at hg; omega
  clear hf hb3
  unfold stV
  go_wp2_with fail
  go_ret3
  exact ⟨g, hgl, rfl, (((Below.refl w3.heap.size w3).alloc (Nat.le_refl _) _).block g (lt_of_heap HF.out)).trans HF.out, HB3.out.alloc HB3.out.size _⟩
/-- Sectors that a journal may not have. -/
def BadRow (f s n : Int) : Prop := f < 0 ∨ s < 4 ∨ s % 2 ≠ 0 ∨ n - f < s
set_option maxRecDepth 100000 in
set_option maxHeartbeats 2000000 in
theorem rowOf_bad (d p n : Nat) (F : List Nat) (st : St) (f s : Int) (hf1 : -9223372036854775808 ≤ f) (hf2 : f ≤ 9223372036854775807) (hs1 : -9223372036854775808 ≤ s) (hs2 : s ≤ 9223372036854775807) (hn2 : n ≤ 8192) (hb : BadRow f s n) (w : World) (h : Live d p F n st.S st.ps 0 w) :
    Calls Tryz.prog 32 #[.pointer (some ⟨d, 0, none⟩), .int .i64 f, .int .i64 s] w (Refused 1 0 (fun v => .tuple #[.agg #[.pointer none, .int .i64 0, .int .i64 0], v]) w) := by
  have CS := Lib.hid (fun (v : World) (hb : Below w.heap.size w v) => Sectors_any d p F n st.S st.ps 0 v (h.below hb))
  unfold BadRow at hb
  clear h
  by_cases h1 : f < 0
  · clear hb
    go_enter Tryz.func32, Tryz.ntmps32
    go_wp2_with (first | (go_at_call 46; refine (Jfault_is 1 _).mono ?_; rintro e w5 ⟨g, hg, rfl, hf, hb5⟩; have HG := Lib.hid hg; have HFA := Lib.hid hf; have HB5 := Lib.hid hb5; have h5 : w5.heap[w.heap.size]? = some (.cells [Value.pointer none, .int .i64 0, .int .i64 0].toArray 75 (0, 0)) := (hb5.block _ (by simp)).trans (heap_alloc_new _ _); have k0 : w5.cell? ⟨w.heap.size, 0, none⟩ = some (.pointer none) := cell_of_list h5 0; have k1 : w5.cell? ⟨w.heap.size, 1, none⟩ = some (.int .i64 0) := cell_of_list h5 1; have k2 : w5.cell? ⟨w.heap.size, 2, none⟩ = some (.int .i64 0) := cell_of_list h5 2; have kf := free_of_list h5; have H5 := Lib.hid h5; clear hg hf hb5 h5) | (go_at_call 55; refine (CS.out _ ((Below.refl _ _).alloc (Nat.le_refl _) _)).mono ?_; rintro e w' ⟨rfl, rfl⟩))
    have hset := set_list (set_list (set_list H5.out 0 (.pointer none)) 1 (.int .i64 0)) 2 (.int .i64 0)
    have hk : Kept w5.heap.size [w.heap.size] w5 (((w5.setCell ⟨w.heap.size, 0, none⟩ (.pointer none)).setCell ⟨w.heap.size, 1, none⟩ (.int .i64 0)).setCell ⟨w.heap.size, 2, none⟩ (.int .i64 0)) := (((Kept.refl _ _ _).setCell (p := ⟨w.heap.size, 0, none⟩) (by simp) _).setCell (p := ⟨w.heap.size, 1, none⟩) (by simp) _).setCell (p := ⟨w.heap.size, 2, none⟩) (by simp) _
    have hgw : w.heap.size < g := by have := HG.out; simp at this; omega
    have hb1 : Below w.heap.size w w5 := ((Below.refl w.heap.size w).alloc (Nat.le_refl _) _).trans (HB5.out.mono (by simp))
    refine bodyPost_ret (results_mid2 Tryz.results32 _ _ w.heap.size 0 _ _ rfl (range_of_list hset) Tryz.underlying75 rfl (by kernel_rfl)) rfl ⟨g, by omega, rfl, (hk.block g (lt_of_heap HFA.out) (by simp; omega)).trans HFA.out, ?_⟩
    exact ((hb1.setCell (p := ⟨w.heap.size, 0, none⟩) (Nat.le_refl _) _).setCell (p := ⟨w.heap.size, 1, none⟩) (Nat.le_refl _) _).setCell (p := ⟨w.heap.size, 2, none⟩) (Nat.le_refl _) _
  · by_cases h2 : s < 4
    · clear hb
      go_enter Tryz.func32, Tryz.ntmps32
      go_wp2_with (first | (go_at_call 46; refine (Jfault_is 1 _).mono ?_; rintro e w5 ⟨g, hg, rfl, hf, hb5⟩; have HG := Lib.hid hg; have HFA := Lib.hid hf; have HB5 := Lib.hid hb5; have h5 : w5.heap[w.heap.size]? = some (.cells [Value.pointer none, .int .i64 0, .int .i64 0].toArray 75 (0, 0)) := (hb5.block _ (by simp)).trans (heap_alloc_new _ _); have k0 : w5.cell? ⟨w.heap.size, 0, none⟩ = some (.pointer none) := cell_of_list h5 0; have k1 : w5.cell? ⟨w.heap.size, 1, none⟩ = some (.int .i64 0) := cell_of_list h5 1; have k2 : w5.cell? ⟨w.heap.size, 2, none⟩ = some (.int .i64 0) := cell_of_list h5 2; have kf := free_of_list h5; have H5 := Lib.hid h5; clear hg hf hb5 h5) | (go_at_call 55; refine (CS.out _ ((Below.refl _ _).alloc (Nat.le_refl _) _)).mono ?_; rintro e w' ⟨rfl, rfl⟩))
      have hset := set_list (set_list (set_list H5.out 0 (.pointer none)) 1 (.int .i64 0)) 2 (.int .i64 0)
      have hk : Kept w5.heap.size [w.heap.size] w5 (((w5.setCell ⟨w.heap.size, 0, none⟩ (.pointer none)).setCell ⟨w.heap.size, 1, none⟩ (.int .i64 0)).setCell ⟨w.heap.size, 2, none⟩ (.int .i64 0)) := (((Kept.refl _ _ _).setCell (p := ⟨w.heap.size, 0, none⟩) (by simp) _).setCell (p := ⟨w.heap.size, 1, none⟩) (by simp) _).setCell (p := ⟨w.heap.size, 2, none⟩) (by simp) _
      have hgw : w.heap.size < g := by have := HG.out; simp at this; omega
      have hb1 : Below w.heap.size w w5 := ((Below.refl w.heap.size w).alloc (Nat.le_refl _) _).trans (HB5.out.mono (by simp))
      refine bodyPost_ret (results_mid2 Tryz.results32 _ _ w.heap.size 0 _ _ rfl (range_of_list hset) Tryz.underlying75 rfl (by kernel_rfl)) rfl ⟨g, by omega, rfl, (hk.block g (lt_of_heap HFA.out) (by simp; omega)).trans HFA.out, ?_⟩
      exact ((hb1.setCell (p := ⟨w.heap.size, 0, none⟩) (Nat.le_refl _) _).setCell (p := ⟨w.heap.size, 1, none⟩) (Nat.le_refl _) _).setCell (p := ⟨w.heap.size, 2, none⟩) (Nat.le_refl _) _
    · by_cases h3 : s % 2 ≠ 0
      · have h3' : s.tmod 2 ≠ 0 := by rw [Int.tmod_eq_emod_of_nonneg (by omega)]; exact h3
        have e3 : (s % 2 == 0) = false := by rw [beq_eq_false_iff_ne]; exact h3
        have e3' : (s.tmod 2 == 0) = false := by rw [beq_eq_false_iff_ne]; exact h3'
        clear hb
        go_enter Tryz.func32, Tryz.ntmps32
        go_wp2_with (first | (go_at_call 46; refine (Jfault_is 1 _).mono ?_; rintro e w5 ⟨g, hg, rfl, hf, hb5⟩; have HG := Lib.hid hg; have HFA := Lib.hid hf; have HB5 := Lib.hid hb5; have h5 : w5.heap[w.heap.size]? = some (.cells [Value.pointer none, .int .i64 0, .int .i64 0].toArray 75 (0, 0)) := (hb5.block _ (by simp)).trans (heap_alloc_new _ _); have k0 : w5.cell? ⟨w.heap.size, 0, none⟩ = some (.pointer none) := cell_of_list h5 0; have k1 : w5.cell? ⟨w.heap.size, 1, none⟩ = some (.int .i64 0) := cell_of_list h5 1; have k2 : w5.cell? ⟨w.heap.size, 2, none⟩ = some (.int .i64 0) := cell_of_list h5 2; have kf := free_of_list h5; have H5 := Lib.hid h5; clear hg hf hb5 h5) | (go_at_call 55; refine (CS.out _ ((Below.refl _ _).alloc (Nat.le_refl _) _)).mono ?_; rintro e w' ⟨rfl, rfl⟩))
        have hset := set_list (set_list (set_list H5.out 0 (.pointer none)) 1 (.int .i64 0)) 2 (.int .i64 0)
        have hk : Kept w5.heap.size [w.heap.size] w5 (((w5.setCell ⟨w.heap.size, 0, none⟩ (.pointer none)).setCell ⟨w.heap.size, 1, none⟩ (.int .i64 0)).setCell ⟨w.heap.size, 2, none⟩ (.int .i64 0)) := (((Kept.refl _ _ _).setCell (p := ⟨w.heap.size, 0, none⟩) (by simp) _).setCell (p := ⟨w.heap.size, 1, none⟩) (by simp) _).setCell (p := ⟨w.heap.size, 2, none⟩) (by simp) _
        have hgw : w.heap.size < g := by have := HG.out; simp at this; omega
        have hb1 : Below w.heap.size w w5 := ((Below.refl w.heap.size w).alloc (Nat.le_refl _) _).trans (HB5.out.mono (by simp))
        refine bodyPost_ret (results_mid2 Tryz.results32 _ _ w.heap.size 0 _ _ rfl (range_of_list hset) Tryz.underlying75 rfl (by kernel_rfl)) rfl ⟨g, by omega, rfl, (hk.block g (lt_of_heap HFA.out) (by simp; omega)).trans HFA.out, ?_⟩
        exact ((hb1.setCell (p := ⟨w.heap.size, 0, none⟩) (Nat.le_refl _) _).setCell (p := ⟨w.heap.size, 1, none⟩) (Nat.le_refl _) _).setCell (p := ⟨w.heap.size, 2, none⟩) (Nat.le_refl _) _
      · have h3' : s.tmod 2 = 0 := by rw [Int.tmod_eq_emod_of_nonneg (by omega)]; omega
        have h3'' : s % 2 = 0 := by omega
        have h4 : (n : Int) - f < s := by omega
        clear hb h3
        go_enter Tryz.func32, Tryz.ntmps32
        go_wp2_with (first | (go_at_call 46; refine (Jfault_is 1 _).mono ?_; rintro e w5 ⟨g, hg, rfl, hf, hb5⟩; have HG := Lib.hid hg; have HFA := Lib.hid hf; have HB5 := Lib.hid hb5; have h5 : w5.heap[w.heap.size]? = some (.cells [Value.pointer none, .int .i64 0, .int .i64 0].toArray 75 (0, 0)) := (hb5.block _ (by simp)).trans (heap_alloc_new _ _); have k0 : w5.cell? ⟨w.heap.size, 0, none⟩ = some (.pointer none) := cell_of_list h5 0; have k1 : w5.cell? ⟨w.heap.size, 1, none⟩ = some (.int .i64 0) := cell_of_list h5 1; have k2 : w5.cell? ⟨w.heap.size, 2, none⟩ = some (.int .i64 0) := cell_of_list h5 2; have kf := free_of_list h5; have H5 := Lib.hid h5; clear hg hf hb5 h5) | (go_at_call 55; refine (CS.out _ ((Below.refl _ _).alloc (Nat.le_refl _) _)).mono ?_; rintro e w' ⟨rfl, rfl⟩))
        have hset := set_list (set_list (set_list H5.out 0 (.pointer none)) 1 (.int .i64 0)) 2 (.int .i64 0)
        have hk : Kept w5.heap.size [w.heap.size] w5 (((w5.setCell ⟨w.heap.size, 0, none⟩ (.pointer none)).setCell ⟨w.heap.size, 1, none⟩ (.int .i64 0)).setCell ⟨w.heap.size, 2, none⟩ (.int .i64 0)) := (((Kept.refl _ _ _).setCell (p := ⟨w.heap.size, 0, none⟩) (by simp) _).setCell (p := ⟨w.heap.size, 1, none⟩) (by simp) _).setCell (p := ⟨w.heap.size, 2, none⟩) (by simp) _
        have hgw : w.heap.size < g := by have := HG.out; simp at this; omega
        have hb1 : Below w.heap.size w w5 := ((Below.refl w.heap.size w).alloc (Nat.le_refl _) _).trans (HB5.out.mono (by simp))
        refine bodyPost_ret (results_mid2 Tryz.results32 _ _ w.heap.size 0 _ _ rfl (range_of_list hset) Tryz.underlying75 rfl (by kernel_rfl)) rfl ⟨g, by omega, rfl, (hk.block g (lt_of_heap HFA.out) (by simp; omega)).trans HFA.out, ?_⟩
        exact ((hb1.setCell (p := ⟨w.heap.size, 0, none⟩) (Nat.le_refl _) _).setCell (p := ⟨w.heap.size, 1, none⟩) (Nat.le_refl _) _).setCell (p := ⟨w.heap.size, 2, none⟩) (Nat.le_refl _) _
theorem bad_free (n : Nat) (f s : Int) (h : ¬ BadRow f s n) : ∃ from_ m : Nat, f = from_ ∧ s = (2 * m : Nat) ∧ 2 ≤ m ∧ from_ + 2 * m ≤ n := by
  unfold BadRow at h
  exact ⟨f.toNat, (s / 2).toNat, by omega, by omega, by omega, by omega⟩
end Go.Proofs.YtbljhodnpddpiaaGreatDoor

/- A builder that is written to beside other variables: what else lies stays as it lay. -/
namespace Go.Proofs.YtbljhodnpddpiaaGreatDoor
open Go.RowKit

/-- An object that is no row of bytes. -/
def notBytes : Obj → Bool
  | .cells _ T _ => T != 5
  | _ => true
/-- But for block b and rows of bytes, what lay lies as it lay. -/
def Far (b : Nat) (w w' : World) : Prop := w.heap.size ≤ w'.heap.size ∧ ∀ (k : Nat) (o : Obj), k ≠ b → notBytes o = true → w.heap[k]? = some o → w'.heap[k]? = some o
theorem Far.refl (b : Nat) (w : World) : Far b w w := ⟨Nat.le_refl _, fun _ _ _ _ h => h⟩
theorem Far.trans {b : Nat} {x y z : World} (h : Far b x y) (k : Far b y z) : Far b x z := ⟨Nat.le_trans h.1 k.1, fun i o hi ho e => k.2 i o hi ho (h.2 i o hi ho e)⟩
theorem Far.of_below {b : Nat} {w w' : World} (h : Below w.heap.size w w') : Far b w w' := ⟨h.size, fun k _ _ _ e => (h.block k (lt_of_heap e)).trans e⟩
theorem Far.setCell (b i : Nat) (w : World) (v : Value) : Far b w (w.setCell ⟨b, i, none⟩ v) := ⟨by simp [World.setCell], fun k _ hk _ e => (Below.heap_setCell _ _ _ _ hk).trans e⟩
theorem Far.grown {b : Nat} {w w' : World} {row : Option Nat} (hg : w.grownBy w' row) (hr : ∀ k, row = some k → ∃ cs fr, w.heap[k]? = some (.cells cs 5 fr)) : Far b w w' :=
  ⟨hg.size, fun k o _ ho e => (hg.block k (lt_of_heap e) (fun hk => by
    obtain ⟨cs, fr, h⟩ := hr k hk.symm
    rw [h] at e; cases e; simp [notBytes] at ho)).trans e⟩
theorem own_bytes {w : World} {B n : Nat} {v : Value} {xs : List Value} (h : w.ownsRow B 5 1 v n xs) : ∀ k, v.ownBlock = some k → ∃ cs fr, w.heap[k]? = some (.cells cs 5 fr) := by
  intro k hk
  rcases h.2 with ⟨hv, _⟩ | ⟨g, cap, cur, hv, _, hg, _⟩
  · subst hv; cases hk
  · subst hv; cases hk; exact ⟨_, _, hg⟩

theorem liesBuilder : liesAt Tryz.prog Tryz.prog.depth 121 (2 / Tryz.prog.cellsOf 121) 0 121 1 = true := by kernel_rfl
set_option maxRecDepth 100000 in
set_option maxHeartbeats 1000000 in
theorem copyCheck_fresh (b : Nat) (w : World) (h0 : w.cell? ⟨b, 0, none⟩ = some (.pointer none)) (hsh : w.shape? b = some (121, 2)) (hfz : w.frozen? ⟨b, 0, none⟩ = false) :
    Calls Tryz.prog 84 #[.pointer (some ⟨b, 0, none⟩)] w fun e w' => e = .returned (.tuple #[]) ∧ w' = w.setCell ⟨b, 0, none⟩ (.pointer (some ⟨b, 0, none⟩)) := by
  obtain ⟨j, hj, hjs⟩ := Option.map_eq_some_iff.1 sizeBuilder
  go_enter Tryz.func84, Tryz.ntmps84
  go_wp2
  rw [Lib.run_to_unsafe w ⟨b, 0, none⟩ Tryz.underlying119 Tryz.underlying131 hj (by rw [hjs]; decide) hsh (Nat.zero_lt_succ 1)]
  simp only [Result.andThen]
  rw [Oper.upon_value]
  go_wp2
  rw [run_callFunc_extern Tryz.func99 (by kernel_rfl) (by kernel_rfl) (by kernel_rfl) (e := Extern.AbiNoEscape.same) (by kernel_rfl)]
  rw [Lib.run_noEscape]
  simp only [Result.andThen]
  rw [Oper.upon_value]
  go_wp2
  rw [Lib.run_from_unsafe w ⟨b, 0, none⟩ Tryz.underlying131 Tryz.underlying119 hj hsh liesBuilder]
  simp only [Result.andThen]
  rw [Oper.upon_value]
  go_wp2
  go_end0
  exact ⟨rfl, rfl⟩
theorem copyCheck_far (b : Nat) (l : List UInt8) (w : World) (h : Bldr b l w) :
    Calls Tryz.prog 84 #[.pointer (some ⟨b, 0, none⟩)] w fun e w' => e = .returned (.tuple #[]) ∧ (Built b l w' ∧ Below b w w') ∧ Far b w w' := by
  rcases h with h | h
  · refine (copyCheck_fresh b w h.cell0 h.shape h.frozen0).mono ?_
    rintro e w' ⟨rfl, rfl⟩
    exact ⟨rfl, ⟨h.used _, (Below.refl b w).setCell (p := ⟨b, 0, none⟩) (Nat.le_refl _) _⟩, Far.setCell _ _ _ _⟩
  · refine (copyCheck_used b w h.cell0).mono ?_
    rintro e w' ⟨rfl, rfl⟩
    exact ⟨rfl, ⟨h, Below.refl b _⟩, Far.refl _ _⟩
set_option maxRecDepth 100000 in
set_option maxHeartbeats 2000000 in
theorem Put_far (b : Nat) (l : List UInt8) (s : ByteArray) (w : World) (h : Bldr b l w) (hlen : l.length + s.size ≤ 140737488355328) :
    Calls Tryz.prog 87 #[.pointer (some ⟨b, 0, none⟩), .string s] w fun e w' => e = .returned (.tuple #[.int .i64 s.size, .nilIface]) ∧ (Built b (l ++ s.data.toList) w' ∧ Below b w w') ∧ Far b w w' := by
  obtain ⟨i0, hi, hz0, hz1, hz2⟩ := info_parts infoByte
  have hlm : (l.map u8v).length = l.length := List.length_map ..
  have H := Lib.hid h
  clear h
  go_enter Tryz.func87, Tryz.ntmps87
  go_wp2_with fail
  refine (copyCheck_far b l _ H.out).mono ?_
  rintro e w1 ⟨rfl, ⟨h1, hb1⟩, hf1⟩
  obtain ⟨hB, v, hbk, hown, hne⟩ := h1
  have c1 : w1.cell? ⟨b, 1, none⟩ = some v := by rw [Lib.cell_of_heap hbk]; rfl
  have hlt : b < w1.heap.size := lt_of_heap hbk
  have HBK := Lib.hid hbk
  have HOWN := Lib.hid hown
  have HNE := Lib.hid hne
  have HB1 := Lib.hid hb1
  have HF1 := Lib.hid hf1
  clear hbk hown hne hB hb1 hf1 H
  go_wp2_with (at_builtin; refine Lib.wpList_append_own_string _ rfl _ _ 59 9 rfl b 5 i0 Tryz.underlying59 Tryz.underlying9 hi hz0 hz1 hz2 _ _ _ rfl HOWN.out s rfl ?c3 ?c4 ?c5 ?_)
  case c3 => unfold maxLen; omega
  case c4 => omega
  case c5 => omega
  intro v' w2 hown' hgrow _
  have hb2 : w2.heap[b]? = some (.cells #[.pointer (some ⟨b, 0, none⟩), v] 121 (0, 0)) := by
    rw [hgrow.block b hlt (fun e => HNE.out e.symm)]; exact HBK.out
  have d1 : w2.cell? ⟨b, 1, none⟩ = some v := by rw [Lib.cell_of_heap hb2]; rfl
  have f1 : w2.frozen? ⟨b, 1, none⟩ = false := Lib.frozen_of_heap hb2 1
  obtain ⟨ao, n', cap, rfl⟩ : ∃ ao n' cap, v' = .slice ao n' cap := by
    rcases hown'.2 with ⟨hv, _⟩ | ⟨g, cap, cur, hv, _⟩
    · exact ⟨_, _, _, hv⟩
    · exact ⟨_, _, _, hv⟩
  have HO := Lib.hid hown'
  have HG := Lib.hid hgrow
  have HB2 := Lib.hid hb2
  clear hown' hgrow hb2
  go_wp2
  go_ret2
  have e : (l ++ s.data.toList).map u8v = l.map u8v ++ Lib.strCells s := by rw [List.map_append]; rfl
  refine ⟨rfl, ⟨?_, ?_⟩, ?_⟩
  · unfold Built
    rw [e]
    exact Lib.BuilderAt.put (T := 121) (e := 5) (Nat.le_refl _) HB2.out (bs' := l.map u8v ++ Lib.strCells s) (by simpa [Lib.strCells_length] using HO.out) (by decide)
  · exact HB1.out.trans (((Below.refl b w1).grown HG.out (Nat.le_of_lt hlt) (fun k hk => (HOWN.out.lt k hk).1)).setCell (p := ⟨b, 1, none⟩) (Nat.le_refl _) _)
  · exact HF1.out.trans ((Far.grown HG.out (own_bytes HOWN.out)).trans (Far.setCell _ _ _ _))
theorem Told_nil (b : Nat) (w : World) (h : Bldr b [] w) :
    Calls Tryz.prog 67 #[.pointer (some ⟨b, 0, none⟩)] w fun e w' => e = .returned (.string ⟨#[]⟩) ∧ Below w.heap.size w w' := by
  obtain ⟨p, hB, v, hbk, hown, hne⟩ : ∃ p, Lib.BuilderAt 121 5 b b p [] w := by
    rcases h with h | h
    · exact ⟨_, h⟩
    · exact ⟨_, h⟩
  have key : Calls Tryz.prog 67 #[.pointer (some ⟨b, 0, none⟩)] w fun e w' => e = .returned (.string ⟨#[]⟩) ∧ Below w.heap.size w w' := by
    rcases hown.2 with ⟨rfl, _⟩ | ⟨g, cap, cur, rfl, hbg, hg, _, _, _, _⟩
    · exact Any.Builder_String_nil lays169 Builder_Extra_169 w.heap.size b p w hbk
    · by_cases hc0 : cap = 0
      · subst hc0
        exact Any.Builder_String_noroom lays169 Builder_Extra_169 w.heap.size b g p cur w (Nat.le_refl _) hbk hg
      · exact Any.Builder_String_room lays169 Builder_Extra_169 w.heap.size b g cap p w hc0 hbk
  exact key
end Go.Proofs.YtbljhodnpddpiaaGreatDoor

/- Open of whatever stands on the sectors of a disk whose power may have a fuse; of one whose power is gone. -/
namespace Go.Proofs.YtbljhodnpddpiaaGreatDoor
open Go.RowKit

set_option maxRecDepth 100000 in
set_option maxHeartbeats 2000000 in
theorem OpenD_gen (d p n : Nat) (F : List Nat) (st : St) (from_ m act ep : Nat) (recs : List (List UInt8)) (fi si : Int) (hfi : fi = from_) (hsi : si = (2 * m : Nat)) (hm : from_ + 2 * m ≤ n) (hm2 : 2 ≤ m) (hps : st.ps = []) (w : World) (h : Dsk d p n F st true w) (hR : RightG st.S from_ m act ep recs) (he1 : 1 ≤ ep) :
    Calls Tryz.prog 21 #[.pointer (some ⟨d, 0, none⟩), .int .i64 fi, .int .i64 si] w fun e w' => ∃ j v, w.heap.size ≤ j ∧ e = .returned (.tuple #[.pointer (some ⟨j, 0, none⟩), v, .nilIface]) ∧ Dsk d p n F st true w' ∧ JAt j d from_ m act ep (1 + recs.length) (1 + secsAll recs) false w' ∧
      w'.ownsRow w.heap.size 9 1 v recs.length (recs.map strv) ∧ Below w.heap.size w w' := by
  have hn := h.n2
  subst hfi hsi
  have CR := Lib.hid (rowOf_ok d p n F st from_ m hm2 hm hn w h.liv)
  unfold rowV at CR
  have CFI := Lib.hid (fun (y : World) (hy : Below w.heap.size w y) => find_gen d p n F st from_ m act ep recs hm hm2 hn hps hR he1 y (h.below hy))
  unfold rowV at CFI
  have hll := length_le_secsAll recs
  clear h hR
  go_enter Tryz.func21, Tryz.ntmps21
  go_wp2_with (first | (go_at_call 32; refine CR.out.mono ?_; rintro e w1 ⟨rfl, hb1⟩; have HB1 := Lib.hid hb1; clear hb1) | fail)
  have hz1 := HB1.out.size
  refine (CFI.out _ (HB1.out.alloc hz1 _)).mono ?_
  rintro e w3 ⟨v, rfl, hown, hD3, hb3⟩
  have hz3 := hb3.size
  have HB3 := Lib.hid ((HB1.out.alloc hz1 _).trans (hb3.mono (by simp; omega)))
  have HO3 := Lib.hid hown
  have g0 : w3.heap[w1.heap.size]? = some (.cells [Value.pointer (some ⟨d, 0, none⟩), .int .i64 from_, .int .i64 m].toArray 75 (0, 0)) := (hb3.block w1.heap.size (by simp)).trans (heap_alloc_new _ _)
  have c0 : w3.cell? ⟨w1.heap.size, 0, none⟩ = some (.pointer (some ⟨d, 0, none⟩)) := by rw [cell_of_list g0]; rfl
  have c1 : w3.cell? ⟨w1.heap.size, 1, none⟩ = some (.int .i64 from_) := by rw [cell_of_list g0]; rfl
  have c2 : w3.cell? ⟨w1.heap.size, 2, none⟩ = some (.int .i64 m) := by rw [cell_of_list g0]; rfl
  have hlt := lt_of_heap g0
  have HD3 := Lib.hid hD3
  clear hown hD3 hb3 g0
  have hz30 := HB3.out.size
  unfold stV
  go_wp2_with fail
  go_ret3
  refine ⟨w3.heap.size + 1, v, by omega, rfl, ?_, ?_, own_low (own_below (own_below HO3.out ((Below.refl _ _).alloc (Nat.le_refl _) _)) ((Below.refl _ _).alloc (Nat.le_refl _) _)) (by simp; omega), (HB3.out.alloc hz30 _).alloc (by simp; omega) _⟩
  · exact (HD3.out.below ((Below.refl _ _).alloc (Nat.le_refl _) _)).below ((Below.refl _ _).alloc (Nat.le_refl _) _)
  · exact heap_alloc2_new _ _ _
set_option maxRecDepth 100000 in
set_option maxHeartbeats 2000000 in
theorem OpenD_blank (d p n : Nat) (F : List Nat) (st : St) (from_ m act : Nat) (recs : List (List UInt8)) (fi si : Int) (hfi : fi = from_) (hsi : si = (2 * m : Nat)) (hm : from_ + 2 * m ≤ n) (hm2 : 2 ≤ m) (hps : st.ps = []) (w : World) (h : Dsk d p n F st true w) (hR : RightG st.S from_ m act 0 recs) :
    Calls Tryz.prog 21 #[.pointer (some ⟨d, 0, none⟩), .int .i64 fi, .int .i64 si] w (Refused 15 0 (fun v => .tuple #[.pointer none, .slice none 0 0, v]) w) := by
  have hn := h.n2
  subst hfi hsi
  have CR := Lib.hid (rowOf_ok d p n F st from_ m hm2 hm hn w h.liv)
  unfold rowV at CR
  have CFI := Lib.hid (fun (y : World) (hy : Below w.heap.size w y) => find_blank d p n F st from_ m act 0 recs hm hm2 hn hps hR rfl y (h.below hy))
  unfold rowV at CFI
  clear h hR
  go_enter Tryz.func21, Tryz.ntmps21
  go_wp2_with (first | (go_at_call 32; refine CR.out.mono ?_; rintro e w1 ⟨rfl, hb1⟩; have HB1 := Lib.hid hb1; clear hb1) | fail)
  have hz1 := HB1.out.size
  refine (CFI.out _ (HB1.out.alloc hz1 _)).mono ?_
  rintro e w3 ⟨g, hg, rfl, hf, hb3⟩
  have hz3 := hb3.size
  have HB3 := Lib.hid ((HB1.out.alloc hz1 _).trans (hb3.mono (by simp; omega)))
  have HF := Lib.hid hf
  have hgl : w.heap.size ≤ g := by simp at hg; omega
  clear hf hb3
  unfold stV
  go_wp2_with fail
  go_ret3
  exact ⟨g, hgl, rfl, (((Below.refl w3.heap.size w3).alloc (Nat.le_refl _) _).block g (lt_of_heap HF.out)).trans HF.out, HB3.out.alloc HB3.out.size _⟩
set_option maxRecDepth 100000 in
set_option maxHeartbeats 1000000 in
/-- A pen reads a sector of a disk whose power is gone. -/
theorem read_gone (d p q n : Nat) (F : List Nat) (st : St) (a : Nat) (hn : n ≤ 8192) (ha : a < n) (w : World) (h : Dsk d p n F st false w) (hq : w.heap[q]? = some (.cells [Value.pointer (some ⟨d, 0, none⟩), .nilIface].toArray 113 (0, 0))) :
    Calls Tryz.prog 76 #[.pointer (some ⟨q, 0, none⟩), .int .i64 a, .int .i64 1] w fun e w' => ∃ g s, e = .returned (.string s) ∧ w.heap.size ≤ g ∧ FaultAt g 10 0 w' ∧ w'.heap[q]? = some (.cells [Value.pointer (some ⟨d, 0, none⟩), faultV g].toArray 113 (0, 0)) ∧ Kept w.heap.size [q] w w' := by
  have H := Lib.hid h
  have HQ := Lib.hid hq
  have hql := lt_of_heap hq
  clear h hq
  go_enter Tryz.func76, Tryz.ntmps76
  go_wp2_with (refine wpList_alloc rfl 121 rfl _ allocBldr ?_; go_frame)
  obtain ⟨w1, hw1⟩ : ∃ x, x = w.alloc (.cells [Value.pointer none, .slice none 0 0].toArray 121) := ⟨_, rfl⟩
  rw [← hw1]
  have hb1 : Below w.heap.size w w1 := by rw [hw1]; exact (Below.refl _ _).alloc (Nat.le_refl _) _
  have hB1 : Bldr w.heap.size [] w1 := by rw [hw1]; exact Bldr.fresh (heap_alloc_new _ _)
  have hz1 : w.heap.size < w1.heap.size := by rw [hw1]; simp
  have HD1 := Lib.hid (H.out.below hb1)
  have hq1 := (hb1.block q hql).trans HQ.out
  have HQ1 := Lib.hid hq1
  have c0 : w1.cell? ⟨q, 0, none⟩ = some (.pointer (some ⟨d, 0, none⟩)) := cell_of_list hq1 0
  have c1 : w1.cell? ⟨q, 1, none⟩ = some .nilIface := cell_of_list hq1 1
  have f1 := free_of_list hq1
  have HB1 := Lib.hid hb1
  have HBL1 := Lib.hid hB1
  clear hw1 hb1 hB1 hq1
  refine wp_loop_rounds 2 ?_
  rw [rounds_succ]
  go_wp2_with (first | (go_at_call 91; refine (Read_gone d p F n st.S st.ps 0 st.fuse st.acts a _ HD1.out.liv HD1.out.pow).mono ?_; rintro e w2 ⟨g, hg, rfl, hf, hb2⟩; have HG := Lib.hid hg; have HF := Lib.hid hf; have HB2 := Lib.hid hb2; have hq2 := (hb2.block q (lt_of_heap HQ1.out)).trans HQ1.out; have k0 : w2.cell? ⟨q, 0, none⟩ = some (.pointer (some ⟨d, 0, none⟩)) := cell_of_list hq2 0; have k1 : w2.cell? ⟨q, 1, none⟩ = some .nilIface := cell_of_list hq2 1; have f2 := free_of_list hq2; have HQ2 := Lib.hid hq2; clear hg hf hb2 hq2) | fail)
  obtain ⟨w3, hw3⟩ : ∃ x, x = w2.setCell ⟨q, 1, none⟩ (.iface 92 (.pointer (some ⟨g, 0, none⟩))) := ⟨_, rfl⟩
  have hk3 : Kept w2.heap.size [q] w2 w3 := by rw [hw3]; exact (Kept.refl _ _ _).setCell (p := ⟨q, 1, none⟩) (by simp) _
  have hq3 : w3.heap[q]? = some (.cells [Value.pointer (some ⟨d, 0, none⟩), faultV g].toArray 113 (0, 0)) := by rw [hw3]; exact set_list HQ2.out 1 _
  have hBL3 : Bldr w.heap.size [] w3 := (HBL1.out.below HB2.out).keep hk3 (by simp; exact hql)
  have hgq : g ≠ q := by have := HG.out; omega
  have HF3 := Lib.hid (HF.out.keep (hk3.block g HF.out.lt (by simpa using hgq)))
  have HK3 := Lib.hid hk3
  have HQ3 := Lib.hid hq3
  rw [← hw3]
  clear hw3 hk3 hq3 k0 k1 f2 c0 c1 f1
  refine (Put_far w.heap.size _ ⟨#[]⟩ w3 hBL3 (by decide)).mono ?_
  rintro e w5 ⟨rfl, ⟨hB5, hb5⟩, hf5⟩
  have HB5 : Hid (Bldr w.heap.size [] w5) := Lib.hid (Bldr.of_built hB5)
  have HU5 := Lib.hid hb5
  have HX5 := Lib.hid hf5
  clear hB5 hb5 hBL3 hf5
  go_wp2_with fail
  rw [rounds_succ]
  go_wp2_with fail
  refine (Told_nil _ _ HB5.out).mono ?_
  rintro e w6 ⟨rfl, hb6⟩
  have HU6 := Lib.hid hb6
  clear hb6
  go_wp2_with fail
  go_ret
  have z2 := HB2.out.size
  have z3 := HK3.out.size
  have z5 := HU5.out.size
  have hg := HG.out
  have g5 := HX5.out.2 g _ (by omega) rfl HF3.out
  have q5 := (HU5.out.block q (by omega)).trans HQ3.out
  have k03 : Kept w.heap.size [q] w w3 := (Kept.of_below (HB1.out.trans (HB2.out.mono (Nat.le_of_lt hz1)))).trans (HK3.out.mono (by omega) (fun _ _ hm => hm))
  exact ⟨g, _, rfl, by omega, (HU6.out.block g (lt_of_heap g5)).trans g5, (HU6.out.block q (lt_of_heap q5)).trans q5, k03.trans ((Kept.of_below (HU5.out.trans (HU6.out.mono (by omega)))))⟩
set_option maxRecDepth 100000 in
set_option maxHeartbeats 2000000 in
theorem find_gone (d p n : Nat) (F : List Nat) (st : St) (from_ m : Nat) (hm : from_ + 2 * m ≤ n) (hm2 : 2 ≤ m) (hn : n ≤ 8192) (w : World) (h : Dsk d p n F st false w) (hE : ErrCell w) :
    Calls Tryz.prog 51 #[rowV d from_ m] w fun e w' => ∃ g g', e = .returned (.tuple #[.agg (stV 0 0 0 0).toArray, .slice none 0 0, faultV g']) ∧ WrapAt g g' w' ∧ w.heap.size ≤ g' ∧ Below w.heap.size w w' := by
  have H := Lib.hid h
  have HEC := Lib.hid hE
  have hw0 := hE.lt
  have HPB := Lib.hid h.pow.lt
  clear h hE
  unfold rowV
  go_enter Tryz.func51, Tryz.ntmps51
  go_wp2_with (first | (refine wpList_alloc rfl 113 rfl _ allocPen ?_; go_frame) | (refine wpList_alloc rfl 79 rfl _ allocState ?_; go_frame) | fail)
  obtain ⟨W1, hW1⟩ : ∃ x, x = w.alloc (.cells #[Value.pointer (some ⟨d, 0, none⟩), .int .i64 from_, .int .i64 m] 75) := ⟨_, rfl⟩
  rw [← hW1]
  obtain ⟨W2, hW2⟩ : ∃ x, x = W1.alloc (.cells (stV 0 0 0 0).toArray 79) := ⟨_, rfl⟩
  rw [← hW2]
  obtain ⟨W3, hW3⟩ : ∃ x, x = W2.alloc (.cells #[Value.pointer (some ⟨d, 0, none⟩), .nilIface] 113) := ⟨_, rfl⟩
  rw [← hW3]
  obtain ⟨W4, hW4⟩ : ∃ x, x = W3.alloc (.cells (stV 0 0 0 0).toArray 79) := ⟨_, rfl⟩
  rw [← hW4]
  obtain ⟨b, hb⟩ : ∃ b, b = w.heap.size := ⟨_, rfl⟩
  have z1 : W1.heap.size = b + 1 := by rw [hW1, hb]; simp
  have z2 : W2.heap.size = b + 2 := by rw [hW2]; simp [z1]
  have z3 : W3.heap.size = b + 3 := by rw [hW3]; simp [z2]
  have z4 : W4.heap.size = b + 4 := by rw [hW4]; simp [z3]
  have b1 : Below w.heap.size w W1 := by rw [hW1]; exact (Below.refl _ _).alloc (Nat.le_refl _) _
  have b2 : Below W1.heap.size W1 W2 := by rw [hW2]; exact (Below.refl _ _).alloc (Nat.le_refl _) _
  have b3 : Below W2.heap.size W2 W3 := by rw [hW3]; exact (Below.refl _ _).alloc (Nat.le_refl _) _
  have b4 : Below W3.heap.size W3 W4 := by rw [hW4]; exact (Below.refl _ _).alloc (Nat.le_refl _) _
  have b14 : Below W1.heap.size W1 W4 := b2.trans ((b3.trans (b4.mono (by omega))).mono (by omega))
  have b24 : Below W2.heap.size W2 W4 := b3.trans (b4.mono (by omega))
  have b04 : Below w.heap.size w W4 := b1.trans (b14.mono (by omega))
  have hD4 := H.out.below b04
  have k0 : W4.heap[b]? = some (.cells [Value.pointer (some ⟨d, 0, none⟩), .int .i64 from_, .int .i64 m].toArray 75 (0, 0)) := (b14.block b (by omega)).trans (by rw [hW1, hb]; exact heap_alloc_new _ _)
  have k1 : W4.heap[b + 1]? = some (.cells (stV 0 0 0 0).toArray 79 (0, 0)) := (b24.block (b + 1) (by omega)).trans (by rw [hW2, ← z1]; exact heap_alloc_new _ _)
  have k2 : W4.heap[b + 2]? = some (.cells [Value.pointer (some ⟨d, 0, none⟩), .nilIface].toArray 113 (0, 0)) := (b4.block (b + 2) (by omega)).trans (by rw [hW3, ← z2]; exact heap_alloc_new _ _)
  rw [z1, z2, z3, ← hb]
  have c0 : W4.cell? ⟨b, 0, none⟩ = some (.pointer (some ⟨d, 0, none⟩)) := cell_of_list k0 0
  have c1 : W4.cell? ⟨b, 1, none⟩ = some (.int .i64 from_) := cell_of_list k0 1
  have c2 : W4.cell? ⟨b, 2, none⟩ = some (.int .i64 m) := cell_of_list k0 2
  have K1 := Lib.hid k1
  have K2 := Lib.hid k2
  have HD4 := Lib.hid hD4
  have HB4 := Lib.hid b04
  have HE4 := Lib.hid (HEC.out.below b04)
  have HBW := Lib.hid hb
  have HZ4 := Lib.hid z4
  clear k0 k1 k2 hD4 b1 b2 b3 b4 b14 b24 b04 z1 z2 z3 z4 hW1 hW2 hW3 hW4 hb
  refine wp_loop_rounds 1 ?_
  rw [rounds_succ]
  go_wp2_with (first | (go_at_call 57; refine (start_0 d from_ m (by omega) _).mono ?_; rintro e w5 ⟨rfl, hb5⟩; have HB5 := Lib.hid hb5; clear hb5) | (go_at_call 76; refine (read_gone d p (b + 2) n F st from_ hn (by omega) _ (HD4.out.below HB5.out) ((HB5.out.block (b + 2) (lt_of_heap K2.out)).trans K2.out)).mono ?_; rintro e w6 ⟨g, s6, rfl, hg, hf6, hq6, k6⟩; have HG := Lib.hid hg; have HF6 := Lib.hid hf6; have HQ6 := Lib.hid hq6; have HK6 := Lib.hid k6; have q1 : w6.cell? ⟨b + 2, 1, none⟩ = some (faultV g) := cell_of_list hq6 1; unfold faultV at q1; clear hg hf6 hq6 k6) | fail)
  have z4 := HZ4.out
  have z5 := HB5.out.size
  have hE6 : ErrCell w6 := ((HE4.out.below HB5.out)).keep (HK6.out.block 0 (by omega) (by simp))
  have r6 : w6.heap[b + 1]? = some (.cells (stV 0 0 0 0).toArray 79 (0, 0)) := (HK6.out.block (b + 1) (by omega) (by simp)).trans ((HB5.out.block (b + 1) (by omega)).trans K1.out)
  have CW := Lib.hid (wrapped_fault g w6 hE6 HF6.out)
  unfold faultV at CW
  have R6 := Lib.hid r6
  clear hE6 r6
  go_wp2_with (go_at_call 59; refine CW.out.mono ?_; rintro e w7 ⟨g', hg', rfl, hgf, hb7⟩; have HG' := Lib.hid hg'; have HGF := Lib.hid hgf; have HB7 := Lib.hid hb7; have r7 := (hb7.block (b + 1) (lt_of_heap R6.out)).trans R6.out; have r0 : w7.cell? ⟨b + 1, 0, none⟩ = some (.int .i64 0) := cell_of_list r7 0; have r1 : w7.cell? ⟨b + 1, 1, none⟩ = some (.int .i64 0) := cell_of_list r7 1; have r2 : w7.cell? ⟨b + 1, 2, none⟩ = some (.int .i64 0) := cell_of_list r7 2; have r3 : w7.cell? ⟨b + 1, 3, none⟩ = some (.int .i64 0) := cell_of_list r7 3; have g3 := free_of_list r7; have R7 := Lib.hid r7; clear hg' hgf hb7 r7)
  have hset := set_state 0 0 0 0 R7.out
  have hkx := kept_state w7 (b + 1) (.int .i64 0) (.int .i64 0) (.int .i64 0) (.int .i64 0)
  obtain ⟨wx, hwx⟩ : ∃ x, x = (((w7.setCell ⟨b + 1, 0, none⟩ (.int .i64 0)).setCell ⟨b + 1, 1, none⟩ (.int .i64 0)).setCell ⟨b + 1, 2, none⟩ (.int .i64 0)).setCell ⟨b + 1, 3, none⟩ (.int .i64 0) := ⟨_, rfl⟩
  rw [show ((0 : Nat) : Int) = 0 from rfl] at hset
  rw [← hwx] at hset hkx ⊢
  have hbw := HBW.out
  have z6 := HK6.out.size
  have z7 := HB7.out.size
  have hgb := HG.out
  have hgb' := HG'.out
  have hold : Below w.heap.size w wx := (HB4.out.trans (HB5.out.mono (by omega))).trans ((((HK6.out.mono (by omega) (fun _ _ hm => hm)).below (fun k hk => by simp at hk; omega)).trans (HB7.out.mono (by omega))).trans ((hkx.mono (by omega) (fun _ _ hm => hm)).below (fun k hk => by simp at hk; omega)))
  refine bodyPost_ret (results_mid3 Tryz.results51 _ _ (b + 1) 0 _ _ rfl (range_of_list hset) Tryz.underlying79 rfl (by kernel_rfl)) rfl ?_
  refine ⟨g, g', rfl, ⟨(hkx.block g' (lt_of_heap HGF.out) (by simp; omega)).trans HGF.out, ?_⟩, by omega, hold⟩
  exact (HF6.out.keep (HB7.out.block g HF6.out.lt)).keep (hkx.block g (by have := HF6.out.lt; omega) (by simp; omega))
set_option maxRecDepth 100000 in
set_option maxHeartbeats 1000000 in
theorem Open_gone (d p n : Nat) (F : List Nat) (st : St) (from_ m : Nat) (fi si : Int) (hfi : fi = from_) (hsi : si = (2 * m : Nat)) (hm : from_ + 2 * m ≤ n) (hm2 : 2 ≤ m) (w : World) (h : Dsk d p n F st false w) (hE : ErrCell w) :
    Calls Tryz.prog 21 #[.pointer (some ⟨d, 0, none⟩), .int .i64 fi, .int .i64 si] w fun e w' => ∃ g g', e = .returned (.tuple #[.pointer none, .slice none 0 0, faultV g']) ∧ WrapAt g g' w' ∧ w.heap.size ≤ g' ∧ Below w.heap.size w w' := by
  have hn := h.n2
  subst hfi hsi
  have CR := Lib.hid (rowOf_ok d p n F st from_ m hm2 hm hn w h.liv)
  unfold rowV at CR
  have CFI := Lib.hid (fun (y : World) (hy : Below w.heap.size w y) => find_gone d p n F st from_ m hm hm2 hn y (h.below hy) (hE.below hy))
  unfold rowV faultV at CFI
  clear h hE
  go_enter Tryz.func21, Tryz.ntmps21
  go_wp2_with (first | (go_at_call 32; refine CR.out.mono ?_; rintro e w1 ⟨rfl, hb1⟩; have HB1 := Lib.hid hb1; clear hb1) | fail)
  have hz1 := HB1.out.size
  refine (CFI.out _ (HB1.out.alloc hz1 _)).mono ?_
  rintro e w3 ⟨g, g', rfl, hwa, hg', hb3⟩
  have HB3 := Lib.hid ((HB1.out.alloc hz1 _).trans (hb3.mono (by simp; omega)))
  have HWA := Lib.hid hwa
  have HGL := Lib.hid (show w.heap.size ≤ g' by simp at hg'; omega)
  clear hwa hb3 hg'
  unfold stV
  go_wp2_with fail
  go_ret3
  have ba : Below w3.heap.size w3 (w3.alloc (.cells #[.int .i64 0, .int .i64 0, .int .i64 0, .int .i64 0] 79)) := (Below.refl w3.heap.size w3).alloc (Nat.le_refl _) _
  exact ⟨g, g', rfl, ⟨(ba.block g' (lt_of_heap HWA.out.1)).trans HWA.out.1, HWA.out.2.keep (ba.block g HWA.out.2.lt)⟩, HGL.out, HB3.out.trans (ba.mono HB3.out.size)⟩
end Go.Proofs.YtbljhodnpddpiaaGreatDoor

/- Regions that draw their order and whose callees make memory: every operation yields one value in all worlds of a class, and leaves the class whole. -/
namespace Go.Proofs.YtbljhodnpddpiaaGreatDoor
open Go Go.RowKit

/-- The worlds of a class. -/
structure Of (S : World → Prop) where
  w : World
  ok : S w
theorem wp_region_S {P : Program} {id : Nat} {Q : Exit → Act → World → Prop} {a : Act} {w : World} {l : List Oper} (S : World → Prop) (hm : P.follows .mixedOrders = true) (hB : Region.lexB .any l.toArray = true) (h0 : S w.drew)
    (h : wpQuiet P l.toArray (fun w' => ∃ u : Of S, w' = u.w) (fun a' => ∀ w', (∃ u : Of S, w' = u.w) → Q .normal a' w') l a) : (Code.region id l.toArray true).wp P Q a w :=
  wp_region_quiet (C := fun w' => ∃ u : Of S, w' = u.w) hm hB ⟨⟨w.drew, h0⟩, rfl⟩ (by simpa using h)
/-- A contract that leaves all older blocks alone, in a class that this keeps. -/
theorem quiet_S {P : Program} {S : World → Prop} {f : FuncId} {args : Array Value} {v : Value} (hS : ∀ w w', S w → Below w.heap.size w w' → S w') (h : ∀ w, S w → Calls P f args w fun e w' => e = .returned v ∧ Below w.heap.size w w') (u : Of S) :
    Calls P f args u.w fun e w' => e = .returned v ∧ ∃ u' : Of S, w' = u'.w :=
  (h u.w u.ok).mono fun _ w' ⟨he, hb⟩ => ⟨he, ⟨w', hS _ _ u.ok hb⟩, rfl⟩
end Go.Proofs.YtbljhodnpddpiaaGreatDoor
