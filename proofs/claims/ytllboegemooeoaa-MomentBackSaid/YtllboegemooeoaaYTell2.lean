/- The program tells a moment. -/
import Derived.Test.YtllboegemooeoaaYTell
import Derived.Lib.AppendStr
namespace Go.Proofs.Ytllboegemooeoaa
open Go.RowKit

/-- A text appended to bytes that have room for it. -/
theorem run_append_room_list {P : Program} (w : World) (t u ty e : TypeId) (i : TypeInfo) (ht : P.underlying t = some (.slice e)) (hu : P.underlying u = some .string) (hi : P.info? e = some i) (hs1 : i.size = 1)
    (g n cap : Nat) (A B : List Value) (hg : w.heap[g]? = some (.cells (A ++ B).toArray e (0, 0))) (hA : A.length = n) (p : List UInt8) (hB : p.length ≤ B.length) (hroom : n + p.length ≤ cap) :
    ∃ w', (Builtin.append_ #[t, u] ty #[.slice (some ⟨g, 0, none⟩) n cap, .string (bs p)]).run P w = .ok (.slice (some ⟨g, 0, none⟩) (n + p.length) cap) w' ∧
      w'.heap[g]? = some (.cells ((A ++ p.map u8v) ++ B.drop p.length).toArray e (0, 0)) ∧ Kept w.heap.size [g] w w' ∧ w'.heap.size = w.heap.size := by
  have hr := Lib.run_append_room_string (P := P) w t u ty e i ht hu hi hs1 g n cap (A ++ B).toArray hg (bs p) (by rw [bs_size]; exact hroom) (by rw [bs_size]; simp; omega)
  rw [bs_size] at hr
  refine ⟨_, hr, ?_, ?_, ?_⟩
  · rw [setRow_heap w g _ _ e _ hg]
    congr 3
    subst hA
    simp only [Lib.strCells, bs_list]
    rw [List.take_left, List.drop_append, List.drop_eq_nil_of_le (by omega), List.nil_append, Nat.add_sub_cancel_left]
    rfl
  · exact ⟨rfl, rfl, rfl, by simp, fun k _ hk => setRow_other w g k _ (fun e => hk (by simp [e]))⟩
  · simp
theorem step_append_room {P : Program} {ops : Array Oper} {o : Oper} {a : Act} {w : World} {K : Act → World → Prop} {Q : Exit → Act → World → Prop} {E : Prop} (hgd : o.guard = none) (s x : Operand) (t u : TypeId)
    (ho : o.op = .call { callee := .builtin .append, args := #[s, x], argTypes := #[t, u] }) (e : TypeId) (i : TypeInfo) (ht : P.underlying t = some (.slice e)) (hu : P.underlying u = some .string) (hi : P.info? e = some i) (hs1 : i.size = 1)
    (g n cap : Nat) (A B : List Value) (hs : a.eval s = .slice (some ⟨g, 0, none⟩) n cap) (p : List UInt8) (hx : a.eval x = .string (bs p)) (hg : w.heap[g]? = some (.cells (A ++ B).toArray e (0, 0))) (hA : A.length = n) (hB : p.length ≤ B.length) (hroom : n + p.length ≤ cap) (dst : Option Tmp) (hdst : o.dst = dst)
    (h : ∀ w', Hid (w'.heap[g]? = some (.cells ((A ++ p.map u8v) ++ B.drop p.length).toArray e (0, 0))) → Hid (Kept w.heap.size [g] w w') → Hid (w'.heap.size = w.heap.size) → K (a.put dst (.slice (some ⟨g, 0, none⟩) (n + p.length) cap)) w') :
    if Region.wanted o (yielded ops a.tmps) = true then Oper.wp P o a w K Q else E := by
  subst hdst
  have hw : Region.wanted o (yielded ops a.tmps) = true := by simp [Region.wanted, hgd]
  rw [if_pos hw]
  obtain ⟨w', hrun, h1, h2, h3⟩ := run_append_room_list w t u o.type e i ht hu hi hs1 g n cap A B hg hA p hB hroom
  unfold Oper.wp
  simp [execOp, ho, resolve, invoke, builtin, hs, hx, hrun, Result.andThen]
  exact h w' (Lib.hid h1) (Lib.hid h2) (Lib.hid h3)
def lenOf : Value → Nat
  | .slice _ n _ => n
  | _ => 0
theorem tell_no (t : Int) (h : t < 0 ∨ 253402300799 < t) (F : List UInt8) (w : World) : Calls Try.prog 26 #[.string (bs F), .int .i64 t] w fun e w' => e = .returned (.tuple #[.string (bs []), .int .i64 1]) ∧ w = w' := by
  have hc := Lib.hid (fun v : World => Date_no t h v)
  clear h
  go_enter Try.func26, Try.ntmps26
  go_wp2_with (go_at_call 15; refine (hc.out _).mono ?_; rintro e w' ⟨rfl, rfl⟩)
  go_ret2
  exact ⟨by rw [← bs_nil]; rfl, rfl⟩
set_option maxRecDepth 100000 in
set_option maxHeartbeats 2000000 in
theorem tell_ok (t : Nat) (ht : t < 253402300800) (F : List UInt8) (hF : 1 ≤ F.length ∧ F.length ≤ 100) (hTF : (Mo.tx F t).length = F.length) (w : World) : Calls Try.prog 26 #[.string (bs F), .int .i64 t] w fun e w' => e = .returned (.tuple #[.string (bs (Mo.tx F t)), .int .i64 0]) ∧ Below w.heap.size w w' := by
  obtain ⟨i0, hi, hz0, hz1, hz2⟩ := info_parts infoByte
  have hdate := Lib.hid (fun v : World => Date_ok t ht v)
  have hd := Mo.dt_is (t / 86400) (by omega)
  have hface : Face (Mo.dy (t / 86400)) (Mo.dm (t / 86400)) (Mo.dd (t / 86400)) t := ⟨hd.y2, hd.m1, hd.m2, by have := hd.d2; have := Mo.ml_le (Mo.dy (t / 86400)) (Mo.dm (t / 86400)); omega, ht⟩
  have htx : Mo.tx F t = Mo.tl (Mo.dy (t / 86400)) (Mo.dm (t / 86400)) (Mo.dd (t / 86400)) t F F.length [] := by unfold Mo.tx; rfl
  clear hd
  obtain ⟨T, hT⟩ : ∃ T, T = Mo.tx F t := ⟨_, rfl⟩
  rw [← hT] at hTF htx ⊢
  clear hT
  generalize Mo.dy (t / 86400) = Y at *
  generalize Mo.dm (t / 86400) = M at *
  generalize Mo.dd (t / 86400) = d at *
  obtain ⟨N, hN⟩ : ∃ N, N = F.length := ⟨_, rfl⟩
  have hsF : (bs F).size = N := by rw [bs_size, hN]
  rw [← hN] at hF hTF htx
  have HT := Lib.hid htx; have HTF := Lib.hid hTF; have HN := Lib.hid hN; have HF := Lib.hid hface
  clear htx hTF hN hface
  obtain ⟨fm, hfm⟩ : ∃ fm, fm = bs F := ⟨_, rfl⟩
  rw [← hfm] at hsF ⊢
  have HFM := Lib.hid hfm
  clear hfm
  have HM : ∀ v : World, (Instr.makeSlice 52 (.int .i64 0) (.int .i64 (N : Int))).run Try.prog v = .ok (.slice (some ⟨v.heap.size, 0, none⟩) 0 N) (v.alloc (.cells (List.replicate N (.int .u8 0)).toArray 5)) := fun v => by
    have hrun := run_make (P := Try.prog) v 52 5 i0 _ Try.underlying52 hi hz0 .i64 .i64 (0 : Int) (N : Int) (by omega) (by omega) (by rw [hz2]; omega) (by omega)
    have hm : madeCells (Value.int .u8 0).cells ((N : Int).toNat * i0.size) = (List.replicate N (.int .u8 0)).toArray := by
      rw [show (Value.int .u8 0).cells = #[.int .u8 0] from rfl, hz1]
      apply Array.toList_inj.1
      rw [toList_madeCells_one]; simp
    rw [hm] at hrun
    exact hrun
  go_enter Try.func26, Try.ntmps26
  go_wp2_with (first | (go_at_call 15; refine (hdate.out _).mono ?_; rintro e w1 ⟨rfl, hb1⟩))
  obtain ⟨f, hf⟩ : ∃ f, f = w1.heap.size := ⟨_, rfl⟩
  have r0 : ((w1.alloc (.cells #[Value.int .i64 (Y : Int), .int .i64 (M : Int), .int .i64 (d : Int), .int .i64 (t : Int)] 51)).alloc (.cells (Array.replicate N (Value.int .u8 0)) 5)).heap[f]? = some (.cells [Value.int .i64 (Y : Int), .int .i64 (M : Int), .int .i64 (d : Int), .int .i64 (t : Int)].toArray 51 (0, 0)) := by
    rw [hf, heap_alloc_old (r := w1.heap.size) _ _ (by simp)]; exact heap_alloc_new _ _
  have r1 : ((w1.alloc (.cells #[Value.int .i64 (Y : Int), .int .i64 (M : Int), .int .i64 (d : Int), .int .i64 (t : Int)] 51)).alloc (.cells (Array.replicate N (Value.int .u8 0)) 5)).heap[f + 1]? = some (.cells (([] : List Value) ++ List.replicate N (Value.int .u8 0)).toArray 5 (0, 0)) := by
    rw [hf, show w1.heap.size + 1 = (w1.alloc (.cells #[Value.int .i64 (Y : Int), .int .i64 (M : Int), .int .i64 (d : Int), .int .i64 (t : Int)] 51)).heap.size by simp]
    rw [heap_alloc_new]
    simp
  have rb : Below w.heap.size w ((w1.alloc (.cells #[Value.int .i64 (Y : Int), .int .i64 (M : Int), .int .i64 (d : Int), .int .i64 (t : Int)] 51)).alloc (.cells (Array.replicate N (Value.int .u8 0)) 5)) := (hb1.alloc hb1.size _).alloc (by have := hb1.size; simp; omega) _
  have hff : w.heap.size ≤ f := by rw [hf]; exact hb1.size
  rw [← hf]
  obtain ⟨w2, hw2⟩ : ∃ x, x = ((w1.alloc (.cells #[Value.int .i64 (Y : Int), .int .i64 (M : Int), .int .i64 (d : Int), .int .i64 (t : Int)] 51)).alloc (.cells (Array.replicate N (Value.int .u8 0)) 5)) := ⟨_, rfl⟩
  rw [← hw2] at r0 r1 rb ⊢
  have R0 := Lib.hid r0; have R1 := Lib.hid r1; have RB := Lib.hid rb
  clear hw2 r0 r1 rb hf HM hb1 hdate
  go_loopw [11] (fun v wr => ∃ (n k : Nat) (cur : List UInt8) (B : List Value), n ≤ N ∧ v = .slice (some ⟨f + 1, 0, none⟩) n N ∧ Hid (cur.length = n) ∧ Hid (Mo.tl Y M d t F k cur = T) ∧ Hid (N - n ≤ k) ∧ Hid (B.length = N - n) ∧
    Hid (wr.heap[f]? = some (.cells [Value.int .i64 (Y : Int), .int .i64 (M : Int), .int .i64 (d : Int), .int .i64 (t : Int)].toArray 51 (0, 0))) ∧ Hid (wr.heap[f + 1]? = some (.cells (cur.map u8v ++ B).toArray 5 (0, 0))) ∧ Hid (Below w.heap.size w wr)) (fun v _ => N - lenOf v)
  case atStart => exact ⟨0, N, [], List.replicate N (Value.int .u8 0), by omega, rfl, Lib.hid rfl, Lib.hid HT.out.symm, Lib.hid (by omega), Lib.hid (by simp), R0, R1, RB⟩
  case round =>
    clear R0 R1 RB
    obtain ⟨n, k, cur, B, hn, rfl, hcl, htl, hk, hBl, hr0, hr1, hb⟩ := hrel
    by_cases hlt : n < N
    · have hnx := Mo.tl_next Y M d t F k cur (by rw [hcl.out, ← HN.out]; exact hlt) (by rw [hcl.out, ← HN.out]; exact hk.out)
      obtain ⟨k', hk1, hk2, hk3⟩ := hnx
      rw [hcl.out] at hk2 hk3
      obtain ⟨c, hc⟩ : ∃ c, c = F.getD n 0 := ⟨_, rfl⟩
      rw [← hc] at hk2 hk3
      obtain ⟨p, hp⟩ : ∃ p, p = Mo.fld Y M d t c := ⟨_, rfl⟩
      rw [← hp] at hk2 hk3
      have hpl := Mo.fld_len Y M d t c
      rw [← hp] at hpl
      have hmore := Mo.tl_more Y M d t F k' (cur ++ p)
      rw [← hk2, htl.out, HTF.out, List.length_append, hcl.out] at hmore
      obtain ⟨fr, hfr⟩ : ∃ fr, fr = bs (F.drop n) := ⟨_, rfl⟩
      have hFd : F.drop n = c :: F.drop (n + 1) := by
        rw [List.drop_eq_getElem_cons (by rw [← HN.out]; exact hlt), hc, List.getD, List.getElem?_eq_getElem (by rw [← HN.out]; exact hlt)]; rfl
      have hcall := fun v => yfield_any Y M d t HF.out c (F.drop (n + 1)) v
      rw [← hFd, ← hfr, ← hp] at hcall
      have hsl : ∀ v : World, (Instr.slice 9 (.string fm) (some (.int .i64 (n : Int))) none none).run Try.prog v = .ok (.string fr) v := fun v => by
        have := run_rest_string (P := Try.prog) v 9 fm .i64 n Try.underlying9 (by omega)
        rw [this]
        congr 2
        rw [hfr]
        exact bs_of (by rw [extract_from, HFM.out, bs_list])
      have KEY := Lib.hid (show Mo.tl Y M d t F k' (cur ++ p) = T ∧ N - (n + p.length) ≤ k' by
        refine ⟨by rw [← hk2]; exact htl.out, ?_⟩
        rw [List.length_append, hcl.out, ← HN.out] at hk3
        exact hk3)
      have c0 := cell_of_list hr0.out 0
      have c1 := cell_of_list hr0.out 1
      have c2 := cell_of_list hr0.out 2
      have c3 := cell_of_list hr0.out 3
      simp only [List.getElem?_cons_zero, List.getElem?_cons_succ] at c0 c1 c2 c3
      have hAl : (cur.map u8v).length = n := by rw [List.length_map]; exact hcl.out
      have hBp : p.length ≤ B.length := by rw [hBl.out]; omega
      have hflt : f < wr.heap.size := lt_of_heap hr0.out
      have hglt : f + 1 < wr.heap.size := lt_of_heap hr1.out
      have HC := Lib.hid hcall
      have HAL := Lib.hid hAl; have HBP := Lib.hid hBp; have HFL := Lib.hid hflt; have HGL := Lib.hid hglt; have HPL := Lib.hid hpl
      clear hcall hAl hBp hflt hglt hfr hFd hc hp hk2 hk3 hk1 hmore
      have hmore2 : n + p.length ≤ N := by have := KEY.out; have h9 := Mo.tl_more Y M d t F k' (cur ++ p); rw [KEY.out.1, HTF.out, List.length_append, hcl.out] at h9; exact h9
      clear hpl
      go_wp2_with fail
      go_region_law (first
        | (refine step_append_room rfl _ _ 52 9 rfl 5 i0 Try.underlying52 Try.underlying9 hi hz1 (f + 1) n N _ B rfl p rfl H5.out HAL.out HBP.out hmore2 (some 42) rfl ?_; intro w6 h6 k6 s6)
        | (go_simp; go_at_call 36; (with_reducible refine (HC.out _).mono ?_); rintro e w5 ⟨rfl, hb5⟩; have H5 := Lib.hid (show w5.heap[f + 1]? = some (.cells (cur.map u8v ++ B).toArray 5 (0, 0)) from (hb5.block (f + 1) HGL.out).trans hr1.out); have G5 := Lib.hid (show w5.heap[f]? = some (.cells #[Value.int .i64 (Y : Int), .int .i64 (M : Int), .int .i64 (d : Int), .int .i64 (t : Int)] 51 (0, 0)) from (hb5.block f HFL.out).trans hr0.out); have B5 := Lib.hid (show Below w.heap.size w w5 from hb.out.drew.trans (hb5.mono hb.out.size)); clear hb5))
      all_goals
        simp only [List.getElem_toArray, List.getElem_cons_succ, List.getElem_cons_zero]
        go_simp
        go_wp2_with fail
        go_roundw
        case rel =>
          refine ⟨n + p.length, k', cur ++ p, B.drop p.length, hmore2, rfl, Lib.hid (by rw [List.length_append, hcl.out]), Lib.hid KEY.out.1, Lib.hid KEY.out.2, Lib.hid (by rw [List.length_drop, hBl.out]; omega), Lib.hid ?_, Lib.hid (by rw [List.map_append]; exact h6.out), Lib.hid ?_⟩
          · exact (k6.out.block f (by have := lt_of_heap G5.out; exact this) (by simp)).trans G5.out
          · exact B5.out.trans ((k6.out.mono B5.out.size (fun x hx hm => hm)).below (by intro x hx; simp at hx; omega))
        case measure => have := HPL.out; simp only [lenOf]; omega
    · obtain rfl : n = N := by omega
      have hTc : T = cur := by rw [← htl.out]; exact Mo.tl_end _ _ _ _ _ _ _ (by have := HN.out; have := hcl.out; omega)
      have hB0 : B = [] := List.eq_nil_of_length_eq_zero (by rw [hBl.out]; omega)
      have hr := range_of_list hr1.out
      rw [hB0, List.append_nil] at hr
      have HR := Lib.hid hr
      have HTC := Lib.hid hTc
      clear hr hTc hB0
      go_wp2_with (refine wpList_bytes_string rfl 52 9 _ rfl 5 (f + 1) 0 n n rfl cur hcl.out Try.underlying52 Try.underlying5 Try.underlying9 HR.out ?_; go_frame)
      go_ret2
      refine ⟨?_, hb.out⟩
      rw [HTC.out, ← bs_eq]
      rfl
end Go.Proofs.Ytllboegemooeoaa
