/- Several texts in one, in the order in which they build: JR2 JG2 JUnp. -/
import Derived.Test.YtbljhodnpddpiaaGreatDoorQ15
import Derived.Test.YtbljhodnpddpiaaGreatDoorQ14
import Derived.Test.YtbljhodnpddpiaaGreatDoorQ09
/- The document's journal: one record more, these in the place of all. -/
namespace Go.Proofs.YtbljhodnpddpiaaGreatDoor
open Go.RowKit

theorem own_ne {w : World} {B size n r : Nat} {v : Value} {xs : List Value} {cs : Array Value} (h : w.ownsRow B 9 size v n xs) (hr : w.heap[r]? = some (.cells cs 44 (0, 0))) : some r ≠ v.ownBlock := by
  rcases h.2 with ⟨hv, _⟩ | ⟨g, cap, cur, hv, _, hg, _⟩
  · rw [hv]; simp [Value.ownBlock]
  · rw [hv]
    intro e
    obtain rfl : r = g := by simpa [Value.ownBlock] using e
    rw [hr] at hg
    simp at hg
theorem Given.at_ {v : Value} {l : List (List UInt8)} {w : World} (h : Given v l w) {i : Nat} (hi : i < l.length) : ∃ g off cap, v = .slice (some ⟨g, off, none⟩) l.length cap ∧ g < w.heap.size ∧ w.cell? ⟨g, off + i, none⟩ = some (.string (bs (l.getD i []))) := by
  rcases h with ⟨rfl, _⟩ | ⟨_, rfl⟩ | ⟨g, off, cap, hv, hg, hc⟩
  · simp at hi
  · simp at hi
  · exact ⟨g, off, cap, hv, hg, hc i hi⟩
/-- append of a list of texts to nil. -/
theorem run_append_given (w : World) (ty : TypeId) (v : Value) (l : List (List UInt8)) (hg : Given v l w) (hl : l.length * 16 ≤ 140737488355328) :
    ∃ u w', (Builtin.append_ #[31, 31] ty #[.slice none 0 0, v]).run Tryz.prog w = .ok u w' ∧ w'.ownsRow w.heap.size 9 1 u l.length (l.map strv) ∧ Below w.heap.size w w' := by
  obtain ⟨i0, hi, hz0, hz1, hz2⟩ := info_parts infoString
  rcases Nat.eq_zero_or_pos l.length with h0 | h0
  · obtain ⟨b, c, rfl⟩ := hg.slice
    obtain rfl : l = [] := List.eq_nil_of_length_eq_zero h0
    exact ⟨_, w, run_append_nothing (P := Tryz.prog) w 31 ty 9 i0 Tryz.underlying31 hi b c, World.ownsRow_nil _ _ _ _, Below.refl _ _⟩
  · rcases hg with ⟨h1, _⟩ | ⟨_, h1⟩ | ⟨g, off, cap, rfl, hg, hc⟩
    · rw [h1] at h0; simp at h0
    · rw [h1] at h0; simp at h0
    · obtain ⟨g2, cap2, w2, h1, h2, h3, _⟩ := run_append_where (P := Tryz.prog) w w.heap.size 31 ty 9 i0 (.string ⟨#[]⟩) 1 16 Tryz.underlying31 hi hz0 hz1 hz2 rfl (by decide) (.slice none 0 0) 0 [] (World.ownsRow_nil _ _ _ _) ⟨g, off, none⟩ l.length cap (l.map strv) h0 (by simp) (fun j u hu => by
          have hj : j < l.length := by
            rcases Nat.lt_or_ge j l.length with h2 | h2
            · exact h2
            · rw [List.getElem?_eq_none (by rw [List.length_map]; exact h2)] at hu; cases hu
          rw [List.getElem?_map, List.getElem?_eq_getElem hj] at hu
          rw [Addr.add_mid, hc j hj, ← hu, List.getD, List.getElem?_eq_getElem hj]; rfl) (fun u hu => by
          obtain ⟨y, _, rfl⟩ := List.mem_map.1 hu
          rfl) (by unfold maxLen; omega) (by omega) (Nat.le_refl _)
      refine ⟨_, w2, h1, ?_, (Below.refl _ _).grown h3 (Nat.le_refl _) (fun k hk => by cases hk)⟩
      rw [List.nil_append] at h2
      have e : (0 + l.length : Nat) = l.length := Nat.zero_add _
      rw [e] at h2 ⊢
      exact h2
theorem step_append_given {ops : Array Oper} {o : Oper} {a : Act} {w : World} {K : Act → World → Prop} {Q : Exit → Act → World → Prop} {E : Prop} (hgd : o.guard = none) (s x : Operand)
    (ho : o.op = .call { callee := .builtin .append, args := #[s, x], argTypes := #[31, 31] }) (hs : a.eval s = .slice none 0 0) (v : Value) (l : List (List UInt8)) (hx : a.eval x = v) (hT : Given v l w) (hl : l.length * 16 ≤ 140737488355328) (dst : Option Tmp) (hdst : o.dst = dst)
    (h : ∀ u w', Hid (w'.ownsRow w.heap.size 9 1 u l.length (l.map strv)) → Hid (Below w.heap.size w w') → K (a.put dst u) w') : if Region.wanted o (yielded ops a.tmps) = true then Oper.wp Tryz.prog o a w K Q else E := by
  subst hdst
  have hw : Region.wanted o (yielded ops a.tmps) = true := by simp [Region.wanted, hgd]
  rw [if_pos hw]
  obtain ⟨u, w', hrun, h2, h3⟩ := run_append_given w o.type v l hT hl
  unfold Oper.wp
  simp [execOp, ho, resolve, invoke, builtin, hs, hx, hrun, Result.andThen]
  exact h u w' (Lib.hid h2) (Lib.hid h3)
theorem wpList_append_given {ops : Array Oper} {rest : List Oper} {o : Oper} {a : Act} {w : World} {Q : Exit → Act → World → Prop} (hgd : o.guard = none) (s x : Operand)
    (ho : o.op = .call { callee := .builtin .append, args := #[s, x], argTypes := #[31, 31] }) (hs : a.eval s = .slice none 0 0) (v : Value) (l : List (List UInt8)) (hx : a.eval x = v) (hT : Given v l w) (hl : l.length * 16 ≤ 140737488355328)
    (h : ∀ u w', Hid (w'.ownsRow w.heap.size 9 1 u l.length (l.map strv)) → Hid (Below w.heap.size w w') → wpList Tryz.prog ops Q rest (a.put o.dst u) w') : wpList Tryz.prog ops Q (o :: rest) a w :=
  wpList_plain hgd fun _ hK => by
    obtain ⟨u, w', hrun, h2, h3⟩ := run_append_given w o.type v l hT hl
    unfold Oper.wp execOp
    simp only [ho, resolve, invoke, builtin, Sem.run_bind, Sem.run_pure, Result.andThen_ok, List.map_toArray, List.map_cons, List.map_nil, hs, hx, hrun]
    exact hK _ _ (h u w' (Lib.hid h2) (Lib.hid h3))
theorem rAppend_long (r : Nat) (q : ByteArray) (hq : 60000 < q.size) (w : World) :
    Calls Tryz.prog 35 #[.pointer (some ⟨r, 0, none⟩), .string q] w fun e w' => e = .returned (.int .i64 1) ∧ w = w' := by
  have hq2 : (60000 : Int) < (q.size : Int) := by omega
  go_enter Tryz.func35, Tryz.ntmps35
  go_wp2
  go_ret
  exact ⟨rfl, rfl⟩
set_option maxRecDepth 100000 in
set_option maxHeartbeats 1000000 in
theorem rAppend_full (r h e : Nat) (v : Value) (recs : List (List UInt8)) (hh : h ≤ 8192) (hf : secsAll recs ≤ h) (hfew : ∀ q ∈ recs, q.length ≤ 60000) (x : List UInt8) (q : ByteArray) (hq : q = bs x) (hx : x.length ≤ 60000) (hfull : h < secsAll recs + secs x) (w : World) (H : RJ r h e v recs w) :
    Calls Tryz.prog 35 #[.pointer (some ⟨r, 0, none⟩), .string q] w fun e w' => e = .returned (.int .i64 12) ∧ Below w.heap.size w w' := by
  have CL := Lib.hid (fun u : World => fun hb : Below w.heap.size w u => rLeft_is r h e v recs hh hf hfew u (H.below hb))
  have CW := Lib.hid (fun u : World => rWants_is q x hq hx u)
  obtain ⟨L, hL⟩ : ∃ L, L = h - secsAll recs := ⟨_, rfl⟩
  obtain ⟨Z, hZ⟩ : ∃ Z, Z = secs x := ⟨_, rfl⟩
  have hlt : L < Z := by omega
  have hlt2 : (L : Int) < (Z : Int) := by omega
  have hqs : q.size ≤ 60000 := by rw [hq, bs_size]; exact hx
  have hqs2 : ¬ (60000 : Int) < (q.size : Int) := by omega
  rw [← hL] at CL
  rw [← hZ] at CW
  clear H hL hZ hq hfull hf
  go_enter Tryz.func35, Tryz.ntmps35
  go_wp2_with (first | (go_at_call 44; refine (CW.out _).mono ?_; rintro e w' ⟨rfl, rfl⟩) | (go_at_call 14; refine (CL.out _ (Below.refl _ _)).mono ?_; rintro e w1 ⟨rfl, hb1⟩; have HB1 := Lib.hid hb1; clear hb1))
  go_ret
  exact ⟨rfl, HB1.out⟩
set_option maxRecDepth 100000 in
set_option maxHeartbeats 1000000 in
theorem rAppend_ok (r h e B : Nat) (v : Value) (recs : List (List UInt8)) (hh : h ≤ 8192) (hf : secsAll recs ≤ h) (hfew : ∀ q ∈ recs, q.length ≤ 60000) (x : List UInt8) (q : ByteArray) (hq : q = bs x) (hx : x.length ≤ 60000) (hfit : secsAll recs + secs x ≤ h) (w : World) (H : RJ r h e v recs w)
    (hown : w.ownsRow B 9 1 v recs.length (recs.map strv)) (hB : B ≤ r) :
    Calls Tryz.prog 35 #[.pointer (some ⟨r, 0, none⟩), .string q] w fun y w' => y = .returned (.int .i64 0) ∧ ∃ v', RJ r h e v' (recs ++ [x]) w' ∧ w'.ownsRow B 9 1 v' (recs ++ [x]).length ((recs ++ [x]).map strv) ∧ Below B w w' := by
  obtain ⟨i0, hi, hz0, hz1, hz2⟩ := info_parts infoString
  have CL := Lib.hid (fun u : World => fun hb : Below w.heap.size w u => rLeft_is r h e v recs hh hf hfew u (H.below hb))
  have CW := Lib.hid (fun u : World => rWants_is q x hq hx u)
  obtain ⟨L, hL⟩ : ∃ L, L = h - secsAll recs := ⟨_, rfl⟩
  obtain ⟨Z, hZ⟩ : ∃ Z, Z = secs x := ⟨_, rfl⟩
  have hlt : Z ≤ L := by omega
  have hlt2 : ¬ (L : Int) < (Z : Int) := by omega
  have hqs : q.size ≤ 60000 := by rw [hq, bs_size]; exact hx
  have hqs2 : ¬ (60000 : Int) < (q.size : Int) := by omega
  have hll := length_le_secsAll recs
  obtain ⟨k, hk⟩ : ∃ k, k = recs.length := ⟨_, rfl⟩
  have hk8 : k ≤ 8192 := by omega
  rw [← hk] at hown
  rw [← hL] at CL
  rw [← hZ] at CW
  obtain ⟨vb, vc, rfl⟩ := own_slice hown
  have HH := Lib.hid H
  have HO := Lib.hid hown
  have HQ := Lib.hid (show [Value.string q] = [x].map strv by rw [hq]; rfl)
  have HK := Lib.hid hk
  have hrl := H.lt
  clear H hL hZ hq hfit hf hown hk hll
  go_enter Tryz.func35, Tryz.ntmps35
  go_wp2_with (first | (go_at_call 44; refine (CW.out _).mono ?_; rintro e w' ⟨rfl, rfl⟩) | (go_at_call 14; refine (CL.out _ (Below.refl _ _)).mono ?_; rintro e w1 ⟨rfl, hb1⟩; have HB1 := Lib.hid hb1; have HH1 := Lib.hid (HH.out.below hb1); have HO1 := Lib.hid (own_below HO.out hb1); obtain ⟨c0, c1, c2⟩ := HH1.out.cells; have hzb := hb1.size; have f1 := free_of_list HH1.out.at_; clear hb1) | (refine wpList_append_own _ rfl (.tmp 17) (.tmp 19) 31 rfl B 9 i0 (.string ⟨#[]⟩) 1 16 Tryz.underlying31 hi hz0 hz1 hz2 rfl (by decide) _ k _ rfl (HO1.out.alloc _) ⟨w1.heap.size, 0, none⟩ 1 1 [.string q] rfl rfl (news_row (heap_alloc_new _ _)) (by intro u hu; simp only [List.mem_singleton] at hu; rw [hu]; rfl) (by unfold maxLen; omega) (by omega) (by simp; omega) ?_; intro v7 w7 h7 hg7 _; have hr7 : w7.heap[r]? = some (.cells [Value.int .i64 h, .int .i64 e, .slice vb k vc].toArray 44 (0, 0)) := (hg7.block r (by simp; omega) (own_ne HO1.out HH1.out.at_)).trans ((((Below.refl w1.heap.size w1).alloc (Nat.le_refl _) (.cells #[.string q] 9)).block r (by omega)).trans HH1.out.at_); have c7 : w7.cell? ⟨r, 2, none⟩ = some (.slice vb k vc) := cell_of_list hr7 2; have f7 := free_of_list hr7; have HR7 := Lib.hid hr7; obtain ⟨b7, cap7, hv7⟩ := own_slice h7; subst hv7; have HO7 := Lib.hid h7; have HB7 := Lib.hid (((Below.refl B w1).alloc (by omega) (.cells #[.string q] 9)).grown hg7 (by simp; omega) (fun k hk => (HO1.out.lt k hk).1)); clear hr7 h7 hg7; go_frame) | fail)
  go_ret
  have hk8' := HK.out
  have e1 : k + 1 = (recs ++ [x]).length := by simp; omega
  have e2 : recs.map strv ++ [.string q] = (recs ++ [x]).map strv := by rw [HQ.out, List.map_append]
  have ho := HO7.out
  rw [e2] at ho
  have hk2 : Kept w7.heap.size [r] w7 (w7.setCell ⟨r, 2, none⟩ (.slice b7 (k + 1) cap7)) := (Kept.refl _ _ _).setCell (p := ⟨r, 2, none⟩) (by simp) _
  have ho2 : (w7.setCell ⟨r, 2, none⟩ (.slice b7 (k + 1) cap7)).ownsRow B 9 1 (.slice b7 (k + 1) cap7) (k + 1) ((recs ++ [x]).map strv) := own_keep ho (fun g hg => hk2.block g (ho.lt g hg).2 (by simp; rintro rfl; exact own_ne ho HR7.out hg.symm))
  rw [e1] at ho2 ⊢
  have hs := set_list HR7.out 2 (.slice b7 (recs ++ [x]).length cap7)
  rw [e1] at hk2
  exact ⟨rfl, _, ⟨hs, Texts.of_own ho2⟩, ho2, ((HB1.out.mono (by omega)).trans HB7.out).trans ((hk2.mono (by have := HB1.out.size; have := HB7.out.size; omega) (fun _ _ hm => hm)).below (fun y hy => by simp at hy; omega))⟩
/-- One of the texts is too long. -/
def Long (l : List (List UInt8)) : Prop := ∃ q ∈ l, 60000 < q.length
set_option maxRecDepth 100000 in
set_option maxHeartbeats 1000000 in
theorem rReset_long (r : Nat) (v : Value) (l : List (List UInt8)) (hl : l.length * 16 ≤ 140737488355328) (hbad : Long l) (w : World) (hG : Given v l w) :
    Calls Tryz.prog 37 #[.pointer (some ⟨r, 0, none⟩), v] w fun y w' => y = .returned (.int .i64 1) ∧ Below w.heap.size w w' := by
  obtain ⟨vb, vc, rfl⟩ := hG.slice
  have HG := Lib.hid hG
  have HBD := Lib.hid hbad
  clear hG hbad
  go_enter Tryz.func37, Tryz.ntmps37
  go_wp2_with fail
  go_loopw [5, 6] (fun nv iv wr => ∃ k : Nat, k ≤ l.length ∧ iv = .int .i64 k ∧ nv = .int .i64 (secsAll (l.take k) : Nat) ∧ Hid (∀ q ∈ l.take k, q.length ≤ 60000) ∧ wr = w) (fun _ iv _ => l.length - (intOf iv).toNat)
  case atStart => exact ⟨0, by omega, rfl, by rw [List.take_zero, secsAll_nil]; rfl, Lib.hid (by simp), rfl⟩
  case round =>
    obtain ⟨k, hk, rfl, rfl, HS, rfl⟩ := hrel
    have hbound : secsAll (l.take k) ≤ 939 * k := secsAll_bound _ (fun p hp => HS.out p hp) k (by rw [List.length_take]; omega)
    obtain ⟨M, hM⟩ : ∃ M, M = secsAll (l.take k) := ⟨_, rfl⟩
    rw [← hM] at hbound ⊢
    by_cases hlt : k < l.length
    · obtain ⟨g, off, cap, hv, _, hc⟩ := HG.out.at_ hlt
      injection hv with hv1 _ hv3
      subst hv1 hv3
      obtain ⟨x, hx⟩ : ∃ x, x = l.getD k [] := ⟨_, rfl⟩
      rw [← hx] at hc
      obtain ⟨q, hq⟩ : ∃ q, q = bs x := ⟨_, rfl⟩
      rw [← hq] at hc
      have hqs : q.size = x.length := by rw [hq, bs_size]
      by_cases hbig : 60000 < x.length
      · have hb1 : (60000 : Int) < (q.size : Int) := by omega
        clear hx hq hqs hbig hM
        go_wp2_with fail
        go_ret
        exact ⟨rfl, Below.refl _ _⟩
      · have hb1 : ¬ (60000 : Int) < (q.size : Int) := by omega
        have CW := Lib.hid (fun v : World => rWants_is q x hq (by omega) v)
        have hsu := secsAll_take_succ hlt
        rw [← hx, ← hM] at hsu
        have hZ1 : secs x ≤ 939 := by rw [secs_eq]; omega
        have HS2 := Lib.hid (show ∀ q ∈ l.take (k + 1), q.length ≤ 60000 by
          intro y hy
          rw [List.take_succ_eq_append_getElem hlt] at hy
          rcases List.mem_append.1 hy with h | h
          · exact HS.out y h
          · simp only [List.mem_singleton] at h
            rw [h]
            have : l[k] = x := by rw [hx, List.getD, List.getElem?_eq_getElem hlt]; rfl
            rw [this]; omega)
        obtain ⟨Z, hZ⟩ : ∃ Z, Z = secs x := ⟨_, rfl⟩
        rw [← hZ] at CW hsu hZ1
        have HSU := Lib.hid (show (M : Int) + (Z : Int) = ((secsAll (l.take (k + 1)) : Nat) : Int) by omega)
        clear hx hq hqs hbig hsu hM hZ
        go_wp2_with (first | (go_at_call 44; refine (CW.out _).mono ?_; rintro e w' ⟨rfl, rfl⟩) | fail)
        go_roundw
        case rel => exact ⟨k + 1, by omega, by go_num, by rw [← HSU.out], HS2, trivial⟩
        case measure => simp [intOf]; omega
    · exfalso
      obtain ⟨y, hy, hy2⟩ := HBD.out
      have := HS.out y (by rw [List.take_of_length_le (by omega)]; exact hy)
      omega
/-- The loop of Reset where none is too long: what it ends with. -/
theorem secsAll_bound' {l : List (List UInt8)} (h : ∀ p ∈ l, p.length ≤ 60000) : secsAll l ≤ 939 * l.length := secsAll_bound l h _ (Nat.le_refl _)
/-- What the document's Reset answers of texts of which none is too long. -/
def RResP (r h e B : Nat) (l : List (List UInt8)) (w : World) (y : Ending) (w' : World) : Prop :=
  (e = 4611686018427387904 ∧ y = .returned (.int .i64 1) ∧ Below B w w') ∨ (e < 4611686018427387904 ∧ h < secsAll l ∧ y = .returned (.int .i64 12) ∧ Below B w w') ∨
  (e < 4611686018427387904 ∧ secsAll l ≤ h ∧ y = .returned (.int .i64 0) ∧ ∃ v', RJ r h (e + 1) v' l w' ∧ w'.ownsRow B 9 1 v' l.length (l.map strv) ∧ Below B w w')
set_option maxRecDepth 100000 in
set_option maxHeartbeats 2000000 in
theorem rReset_short (r h e B : Nat) (v0 : Value) (recs : List (List UInt8)) (he : e ≤ 4611686018427387904) (v : Value) (l : List (List UInt8)) (hl : l.length * 16 ≤ 140737488355328) (hs : ∀ q ∈ l, q.length ≤ 60000) (w : World) (H : RJ r h e v0 recs w) (hB : B ≤ r) (hG : Given v l w) :
    Calls Tryz.prog 37 #[.pointer (some ⟨r, 0, none⟩), v] w (RResP r h e B l w) := by
  obtain ⟨vb, vc, rfl⟩ := hG.slice
  have HG := Lib.hid hG
  have HS := Lib.hid hs
  have HH := Lib.hid H
  have hrl := H.lt
  obtain ⟨vb0, vc0, rfl⟩ := H.tx.slice
  obtain ⟨c0, c1, c2⟩ := H.cells
  have f1 := free_of_list H.at_
  clear hG hs H
  go_enter Tryz.func37, Tryz.ntmps37
  go_wp2_with fail
  go_loopw [5, 6] (fun nv iv wr => ∃ k : Nat, k ≤ l.length ∧ iv = .int .i64 k ∧ nv = .int .i64 (secsAll (l.take k) : Nat) ∧ wr = w) (fun _ iv _ => l.length - (intOf iv).toNat)
  case atStart => exact ⟨0, by omega, rfl, by rw [List.take_zero, secsAll_nil]; rfl, rfl⟩
  case round =>
    obtain ⟨k, hk, rfl, rfl, rfl⟩ := hrel
    have hbound : secsAll (l.take k) ≤ 939 * k := secsAll_bound _ (fun p hp => HS.out p (List.mem_of_mem_take hp)) k (by rw [List.length_take]; omega)
    obtain ⟨M, hM⟩ : ∃ M, M = secsAll (l.take k) := ⟨_, rfl⟩
    rw [← hM] at hbound ⊢
    by_cases hlt : k < l.length
    · obtain ⟨g, off, cap, hv, _, hc⟩ := HG.out.at_ hlt
      injection hv with hv1 _ hv3
      subst hv1 hv3
      obtain ⟨x, hx⟩ : ∃ x, x = l.getD k [] := ⟨_, rfl⟩
      rw [← hx] at hc
      obtain ⟨q, hq⟩ : ∃ q, q = bs x := ⟨_, rfl⟩
      rw [← hq] at hc
      have hqs : q.size = x.length := by rw [hq, bs_size]
      have hbig : x.length ≤ 60000 := HS.out x (by rw [hx, List.getD, List.getElem?_eq_getElem hlt]; exact List.getElem_mem _)
      have hb1 : ¬ (60000 : Int) < (q.size : Int) := by omega
      have CW := Lib.hid (fun v : World => rWants_is q x hq (by omega) v)
      have hsu := secsAll_take_succ hlt
      rw [← hx, ← hM] at hsu
      have hZ1 : secs x ≤ 939 := by rw [secs_eq]; omega
      obtain ⟨Z, hZ⟩ : ∃ Z, Z = secs x := ⟨_, rfl⟩
      rw [← hZ] at CW hsu hZ1
      have HSU := Lib.hid (show (M : Int) + (Z : Int) = ((secsAll (l.take (k + 1)) : Nat) : Int) by omega)
      clear hx hq hqs hbig hsu hM hZ
      go_wp2_with (first | (go_at_call 44; refine (CW.out _).mono ?_; rintro e w' ⟨rfl, rfl⟩) | fail)
      go_roundw
      case rel => exact ⟨k + 1, by omega, by go_num, by rw [← HSU.out], trivial⟩
      case measure => simp [intOf]; omega
    · obtain rfl : k = l.length := by omega
      rw [List.take_length] at hM
      by_cases h1 : e = 4611686018427387904
      · have h1i : (4611686018427387904 : Int) ≤ (e : Int) := by omega
        go_wp2_with fail
        go_ret
        exact Or.inl ⟨h1, rfl, Below.refl _ _⟩
      · have h1i : ¬ (4611686018427387904 : Int) ≤ (e : Int) := by omega
        by_cases h2 : h < M
        · have h2i : (h : Int) < (M : Int) := by omega
          go_wp2_with fail
          go_ret
          exact Or.inr (Or.inl ⟨by omega, by omega, rfl, Below.refl _ _⟩)
        · have h2i : ¬ (h : Int) < (M : Int) := by omega
          have HM := Lib.hid hM
          have he1 : e < 4611686018427387904 := by omega
          have HE := Lib.hid (show (e : Int) + 1 = ((e + 1 : Nat) : Int) by omega)
          clear hM h1
          go_wp2_with (first | (refine wpList_append_given rfl (.const (Value.slice none 0 0)) (.tmp 38) rfl rfl _ l rfl HG.out hl ?_; intro v7 w7 h7 hb7; have hr7 := (hb7.out.block r hrl).trans HH.out.at_; have d0 := cell_of_list hr7 0; have d1 : w7.cell? ⟨r, 1, none⟩ = some (.int .i64 e) := cell_of_list hr7 1; have d2 : w7.cell? ⟨r, 2, none⟩ = some (.slice vb0 recs.length vc0) := cell_of_list hr7 2; have f7 := free_of_list hr7; have HR7 := Lib.hid hr7; obtain ⟨b7, cap7, hv7⟩ := own_slice h7.out; subst hv7; have hset := set_list hr7 2 (.slice b7 l.length cap7); have e1 : (w7.setCell ⟨r, 2, none⟩ (.slice b7 l.length cap7)).cell? ⟨r, 1, none⟩ = some (.int .i64 e) := cell_of_list hset 1; have g7 := free_of_list hset; have HSET := Lib.hid hset; clear hset hr7 d0; go_frame) | fail)
          go_ret
          have ho := h7.out
          have hz7 := hb7.out.size
          have hset := set_list HSET.out 1 (.int .i64 ((e : Int) + 1))
          rw [HE.out] at hset ⊢
          have hk2 : Kept w7.heap.size [r] w7 ((w7.setCell ⟨r, 2, none⟩ (.slice b7 l.length cap7)).setCell ⟨r, 1, none⟩ (.int .i64 ((e + 1 : Nat) : Int))) := ((Kept.refl _ _ _).setCell (p := ⟨r, 2, none⟩) (by simp) _).setCell (p := ⟨r, 1, none⟩) (by simp) _
          have ho2 := own_keep (w' := (w7.setCell ⟨r, 2, none⟩ (.slice b7 l.length cap7)).setCell ⟨r, 1, none⟩ (.int .i64 ((e + 1 : Nat) : Int))) ho (fun g hg => hk2.block g (ho.lt g hg).2 (by have := (ho.lt g hg).1; simp; omega))
          exact Or.inr (Or.inr ⟨he1, by have := HM.out; omega, rfl, _, ⟨hset, Texts.of_own ho2⟩, own_low ho2 (by omega), (hb7.out.mono (by omega)).trans ((hk2.mono (by omega) (fun _ _ hm => hm)).below (fun y hy => by simp at hy; omega))⟩)
end Go.Proofs.YtbljhodnpddpiaaGreatDoor

/- What Append and Reset refuse. -/
namespace Go.Proofs.YtbljhodnpddpiaaGreatDoor
open Go.RowKit

theorem Append_closed (d from_ m a e n u j : Nat) (q : ByteArray) (w : World) (hJ : JAt j d from_ m a e n u true w) :
    Calls Tryz.prog 19 #[.pointer (some ⟨j, 0, none⟩), .string q] w (Refused 16 0 id w) := by
  obtain ⟨c0, c1, c2, c3, c4, c5, c6, c7⟩ := hJ.cells
  clear hJ
  go_enter Tryz.func19, Tryz.ntmps19
  go_wp2_with (go_at_call 46; refine (Jfault_is 16 _).mono ?_; rintro e w' ⟨g, hg, rfl, hf, hb⟩; have HFA := Lib.hid hf; have HB := Lib.hid hb; clear hf hb)
  go_ret
  exact ⟨g, hg, rfl, HFA.out, HB.out⟩
theorem Reset_closed (d from_ m a e n u j : Nat) (v : Value) (w : World) (hJ : JAt j d from_ m a e n u true w) :
    Calls Tryz.prog 22 #[.pointer (some ⟨j, 0, none⟩), v] w (Refused 16 0 id w) := by
  obtain ⟨c0, c1, c2, c3, c4, c5, c6, c7⟩ := hJ.cells
  clear hJ
  go_enter Tryz.func22, Tryz.ntmps22
  go_wp2_with (go_at_call 46; refine (Jfault_is 16 _).mono ?_; rintro e w' ⟨g, hg, rfl, hf, hb⟩; have HFA := Lib.hid hf; have HB := Lib.hid hb; clear hf hb)
  go_ret
  exact ⟨g, hg, rfl, HFA.out, HB.out⟩
theorem Reset_top (d from_ m a n u j : Nat) (v : Value) (w : World) (hJ : JAt j d from_ m a 4611686018427387904 n u false w) :
    Calls Tryz.prog 22 #[.pointer (some ⟨j, 0, none⟩), v] w (Refused 1 0 id w) := by
  obtain ⟨c0, c1, c2, c3, c4, c5, c6, c7⟩ := hJ.cells
  have c4' : w.cell? ⟨j, 4, none⟩ = some (.int .i64 4611686018427387904) := c4
  clear hJ c4
  go_enter Tryz.func22, Tryz.ntmps22
  go_wp2_with (go_at_call 46; refine (Jfault_is 1 _).mono ?_; rintro e w' ⟨g, hg, rfl, hf, hb⟩; have HFA := Lib.hid hf; have HB := Lib.hid hb; clear hf hb)
  go_ret
  exact ⟨g, hg, rfl, HFA.out, HB.out⟩
/-- What fit refuses: 1, where one is too long; else 12, where they want too much. -/
def FitBad (room : Nat) (l : List (List UInt8)) (c : Int) : Prop := (Long l ∧ c = 1) ∨ ((∀ q ∈ l, q.length ≤ 60000) ∧ room < secsAll l ∧ c = 12)
set_option maxRecDepth 100000 in
set_option maxHeartbeats 2000000 in
theorem fit_bad (room : Nat) (v : Value) (l : List (List UInt8)) (c : Int) (hl : l.length * 16 ≤ 140737488355328) (hbad : FitBad room l c) (w : World) (h : Texts v l w) :
    Calls Tryz.prog 47 #[.int .i64 room, v] w (Refused c 0 id w) := by
  obtain ⟨b0, cap0, rfl⟩ := h.slice
  have H := Lib.hid h
  have HBD := Lib.hid hbad
  clear h hbad
  go_enter Tryz.func47, Tryz.ntmps47
  go_wp2_with fail
  go_loopw [5, 10] (fun sv iv wr => ∃ k : Nat, k ≤ l.length ∧ iv = .int .i64 k ∧ sv = .int .i64 (secsAll (l.take k)) ∧ Hid (∀ q ∈ l.take k, q.length ≤ 60000) ∧ wr = w) (fun _ iv _ => l.length - (intOf iv).toNat)
  case atStart => exact ⟨0, by omega, rfl, by rw [List.take_zero, secsAll_nil]; rfl, Lib.hid (by simp), rfl⟩
  case round =>
    obtain ⟨k, hk, rfl, rfl, HS, rfl⟩ := hrel
    have hbound : secsAll (l.take k) ≤ 939 * k := secsAll_bound _ (fun p hp => HS.out p hp) k (by rw [List.length_take]; omega)
    by_cases hlt : k < l.length
    · obtain ⟨g, off, cap, hv, hc⟩ := H.out.at_ hlt
      injection hv with hv1 _ hv3
      subst hv1 hv3
      obtain ⟨x, hx⟩ : ∃ x, x = l.getD k [] := ⟨_, rfl⟩
      rw [← hx] at hc
      obtain ⟨q, hq⟩ : ∃ q, q = bs x := ⟨_, rfl⟩
      rw [← hq] at hc
      have hqs : q.size = x.length := by rw [hq, bs_size]
      obtain ⟨M, hM⟩ : ∃ M, M = secsAll (l.take k) := ⟨_, rfl⟩
      rw [← hM] at hbound ⊢
      by_cases hbig : 60000 < x.length
      · have hb1 : (60000 : Int) < (q.size : Int) := by omega
        have HC1 : Hid (c = 1) := Lib.hid (by
          rcases HBD.out with h | ⟨h, _⟩
          · exact h.2
          · have := h x (by rw [hx, List.getD, List.getElem?_eq_getElem hlt]; exact List.getElem_mem _)
            omega)
        clear hx hq hqs hM
        go_wp2_with (go_at_call 46; refine (Jfault_is 1 _).mono ?_; rintro e w' ⟨g, hg, rfl, hf, hb⟩; have HFA := Lib.hid hf; have HB := Lib.hid hb; clear hf hb)
        go_ret
        rw [HC1.out]
        exact ⟨g, hg, rfl, HFA.out, HB.out⟩
      · have hb1 : ¬ (60000 : Int) < (q.size : Int) := by omega
        have hsu := secsAll_take_succ hlt
        rw [← hx, ← hM] at hsu
        have hd : (24 + (q.size : Int) + 64 - 1) / 64 = (secs x : Int) := by rw [secs_eq]; omega
        have hsx : secs x ≤ 939 := by rw [secs_eq]; omega
        have hqb : q.size ≤ 60000 := by omega
        have HS2 := Lib.hid (show ∀ q ∈ l.take (k + 1), q.length ≤ 60000 by
          intro y hy
          rw [List.take_succ_eq_append_getElem hlt] at hy
          rcases List.mem_append.1 hy with h | h
          · exact HS.out y h
          · simp only [List.mem_singleton] at h
            rw [h]
            have : l[k] = x := by rw [hx, List.getD, List.getElem?_eq_getElem hlt]; rfl
            rw [this]; omega)
        obtain ⟨Z, hZ⟩ : ∃ Z, Z = secs x := ⟨_, rfl⟩
        rw [← hZ] at hsu hd hsx
        have HSU := Lib.hid (show (M : Int) + (Z : Int) = ((secsAll (l.take (k + 1)) : Nat) : Int) by omega)
        clear hx hq hqs hbig hsu hM hZ
        go_wp2_with fail
        go_roundw
        case rel => exact ⟨k + 1, by omega, by go_num, by rw [← HSU.out], HS2, trivial⟩
        case measure => simp [intOf]; omega
    · obtain rfl : k = l.length := by omega
      have hs := HS.out
      rw [List.take_length] at hs hbound ⊢
      have hr : room < secsAll l ∧ c = 12 := by
        rcases HBD.out with ⟨⟨y, hy, hy2⟩, _⟩ | h
        · have := hs y hy; omega
        · exact h.2
      obtain ⟨hr, hc⟩ := hr
      have HC := Lib.hid hc
      obtain ⟨M, hM⟩ : ∃ M, M = secsAll l := ⟨_, rfl⟩
      rw [← hM] at hbound hr ⊢
      clear hs hc hM
      go_wp2_with (go_at_call 46; refine (Jfault_is 12 _).mono ?_; rintro e w' ⟨g, hg, rfl, hf, hb⟩; have HFA := Lib.hid hf; have HB := Lib.hid hb; clear hf hb)
      go_ret
      rw [HC.out]
      exact ⟨g, hg, rfl, HFA.out, HB.out⟩
set_option maxRecDepth 100000 in
set_option maxHeartbeats 2000000 in
theorem Append_bad (d from_ m a e n u j : Nat) (r : List UInt8) (c : Int) (hu : u ≤ m) (hm : m ≤ 8192) (hbad : FitBad (m - u) [r] c) (w : World) (hJ : JAt j d from_ m a e n u false w) :
    Calls Tryz.prog 19 #[.pointer (some ⟨j, 0, none⟩), .string (bs r)] w (Refused c 0 id w) := by
  have CF := Lib.hid (fun (v : World) (vv : Value) (hT : Texts vv [r] v) => fit_bad (m - u) vv [r] c (by simp) hbad v hT)
  have CL := Lib.hid (fun (v : World) (hv : Below w.heap.size w v) => Left_is j d from_ m a e n u false hu hm v (hJ.keep (hv.block j hJ.lt)))
  obtain ⟨c0, c1, c2, c3, c4, c5, c6, c7⟩ := hJ.cells
  obtain ⟨q, hq⟩ : ∃ q, q = bs r := ⟨_, rfl⟩
  have HQ := Lib.hid hq
  rw [← hq]
  clear hJ hq hbad
  go_enter Tryz.func19, Tryz.ntmps19
  go_wp2_with (first | (go_at_call 13; refine (CL.out _ (Below.refl _ _)).mono ?_; rintro e w1 ⟨rfl, hb1⟩; have HB1 := Lib.hid hb1; clear hb1) | fail)
  refine (CF.out _ _ (texts_one w1 HQ.out)).mono ?_
  rintro e w2 ⟨g, hg, rfl, hf, hb2⟩
  have hz1 := HB1.out.size
  have HF := Lib.hid hf
  have HB2 := Lib.hid ((HB1.out.alloc hz1 _).trans (hb2.mono (by simp; omega)))
  clear hf hb2
  go_wp2_with fail
  go_ret
  exact ⟨g, by simp at hg; omega, rfl, HF.out, HB2.out⟩
set_option maxRecDepth 100000 in
set_option maxHeartbeats 2000000 in
theorem Reset_bad (d from_ m a e n u j : Nat) (v : Value) (l : List (List UInt8)) (c : Int) (hm1 : 1 ≤ m) (hm : m ≤ 8192) (he : e < 4611686018427387904) (hl : l.length * 16 ≤ 140737488355328) (hbad : FitBad (m - 1) l c) (w : World) (hJ : JAt j d from_ m a e n u false w) (hT : Texts v l w) :
    Calls Tryz.prog 22 #[.pointer (some ⟨j, 0, none⟩), v] w (Refused c 0 id w) := by
  have CF := Lib.hid (fun (y : World) (hb : Below w.heap.size w y) => fit_bad (m - 1) v l c hl hbad y (hT.below (Nat.le_refl _) hb))
  have CH := Lib.hid (fun (y : World) (hv : Below w.heap.size w y) => Half_is j d from_ m a e n u false hm1 hm y (hJ.keep (hv.block j hJ.lt)))
  obtain ⟨c0, c1, c2, c3, c4, c5, c6, c7⟩ := hJ.cells
  have hb0 : ((e : Int) == 4611686018427387904) = false := by rw [beq_eq_false_iff_ne]; omega
  obtain ⟨vb, vc, rfl⟩ := hT.slice
  clear hJ hT hbad
  go_enter Tryz.func22, Tryz.ntmps22
  go_wp2_with (first | (go_at_call 15; refine (CH.out _ (Below.refl _ _)).mono ?_; rintro e w1 ⟨rfl, rfl⟩) | (go_at_call 47; refine (CF.out _ (Below.refl _ _)).mono ?_; rintro e w2 ⟨g, hg, rfl, hf, hb2⟩; have HF := Lib.hid hf; have HB2 := Lib.hid hb2; clear hf hb2) | fail)
  go_ret
  exact ⟨g, hg, rfl, HF.out, HB2.out⟩
end Go.Proofs.YtbljhodnpddpiaaGreatDoor

/- Unpack of any text: a record, or none. -/
namespace Go.Proofs.YtbljhodnpddpiaaGreatDoor
open Go.RowKit
attribute [local go_sem high] run_index_byte_0

set_option maxRecDepth 100000 in
set_option maxHeartbeats 1000000 in
theorem Unpack_big (s : ByteArray) (e n m : Nat) (hs : 64 ≤ s.size) (hmost : s.size ≤ 281474976710656) (hmark : strAt s 0 = 1) (hnum : Fr.num ((s.data.toList.take 8).drop 4) = m) (hm : 60000 < m) (w : World) :
    Calls Tryz.prog 92 #[.string s, .int .i64 e, .int .i64 n] w (Refused 20 0 (fun v => .tuple #[.string ⟨#[]⟩, .int .i64 0, v]) w) := by
  have hb := is_one hmark
  have h0 : 0 < s.size := by omega
  have hml : m < 4294967296 := by
    have := Fr.num_lt ((s.data.toList.take 8).drop 4)
    have h2 : ((s.data.toList.take 8).drop 4).length ≤ 4 := by rw [List.length_drop, List.length_take]; omega
    have h3 : 256 ^ ((s.data.toList.take 8).drop 4).length ≤ 256 ^ 4 := Nat.pow_le_pow_right (by decide) h2
    have h4 : (256 : Nat) ^ 4 = 4294967296 := by decide
    omega
  have HN := Lib.hid (fun v : World => (show Calls Tryz.prog 107 #[.string (s.extract 4 8)] v fun e w' => e = .returned (.int .u64 m) ∧ v = w' by
    have := numberOf_any (s.extract 4 8) (by rw [← size_toList, extract_list, List.length_drop, List.length_take]; omega) v
    rw [extract_list, hnum] at this
    exact this))
  have CH := Lib.hid (fun v : World => headOf_bad e n m (by unfold BadHead; omega) v)
  clear hmark hnum hmost
  go_enter Tryz.func92, Tryz.ntmps92
  go_wp2_with (first | (go_at_call 106; refine (fault_is 20 0 _).mono ?_; rintro r w' ⟨g, hg, rfl, hf, hb2⟩; have HF := Lib.hid hf; have HB := Lib.hid hb2; clear hf hb2) | (go_at_call 107; refine (HN.out _).mono ?_; rintro r w' ⟨rfl, rfl⟩) | (go_at_call 101; refine (CH.out _).mono ?_; rintro r wa ⟨ga, hga, rfl, hfa, hba⟩; have HFA := Lib.hid hfa; have HBA := Lib.hid hba; clear hfa hba) | (go_at_call 49; refine (errorsIs_true ga 1 0 _ HFA.out).mono ?_; rintro r w' ⟨rfl, rfl⟩))
  go_ret3
  exact ⟨g, Nat.le_trans HBA.out.size hg, rfl, HF.out, HBA.out.trans (HB.out.mono HBA.out.size)⟩
set_option maxRecDepth 100000 in
set_option maxHeartbeats 1000000 in
theorem Unpack_long (s : ByteArray) (e n m : Nat) (he : e ≤ 4611686018427387904) (hn : n ≤ 4294967295) (h : Looks s m) (hh : (s.extract 4 20).data.toList = Fr.headOf e n m) (hw : s.size < Fr.whole m) (w : World) :
    Calls Tryz.prog 92 #[.string s, .int .i64 e, .int .i64 n] w (Refused 20 0 (fun v => .tuple #[.string ⟨#[]⟩, .int .i64 0, v]) w) := by
  have hb := is_one h.mark
  have hs := h.size
  have h0 : 0 < s.size := by omega
  have hm := h.few
  obtain ⟨W, hW⟩ : ∃ W, W = Fr.whole m := ⟨_, rfl⟩
  rw [← hW] at hw
  obtain ⟨q, hq⟩ : ∃ q, q = bs (Fr.headOf e n m) := ⟨_, rfl⟩
  have hne : ((s.extract 4 20).toList == q.toList) = true := by rw [ByteArray.toList_eq, ByteArray.toList_eq, beq_iff_eq, hq, bs_list]; exact hh
  have HQ := Lib.hid hq
  have HW := Lib.hid hW
  have HN := Lib.hid (fun v : World => h.number v)
  clear h hq hh hW
  go_enter Tryz.func92, Tryz.ntmps92
  go_wp2_with (first | (go_at_call 106; refine (fault_is 20 0 _).mono ?_; rintro r w' ⟨g, hg, rfl, hf, hb2⟩; have HF := Lib.hid hf; have HB := Lib.hid hb2; clear hf hb2) | (go_at_call 107; refine (HN.out _).mono ?_; rintro r w' ⟨rfl, rfl⟩) | (go_at_call 101; refine (headOf_ok e n m he hn hm _).mono ?_; rintro r wa ⟨rfl, hb⟩; rw [← HQ.out]; have HBA := Lib.hid hb; clear hb) | (go_at_call 49; refine (errorsIs_nil _ _).mono ?_; rintro r w' ⟨rfl, rfl⟩) | (go_at_call 102; refine (whole_any m (by omega) _).mono ?_; rintro r w' ⟨rfl, rfl⟩; rw [← HW.out]))
  go_ret3
  exact ⟨g, Nat.le_trans HBA.out.size hg, rfl, HF.out, HBA.out.trans (HB.out.mono HBA.out.size)⟩
/-- No record of an epoch and a number begins the text. -/
def NotRec (s : ByteArray) (e n : Nat) : Prop := ∀ p, ¬ IsRec s e n p
theorem Unpack_not (s : ByteArray) (e n : Nat) (he : e ≤ 4611686018427387904) (hn : n ≤ 4294967295) (hmost : s.size ≤ 281474976710656) (h : NotRec s e n) (w : World) :
    Calls Tryz.prog 92 #[.string s, .int .i64 e, .int .i64 n] w (Refused 20 0 (fun v => .tuple #[.string ⟨#[]⟩, .int .i64 0, v]) w) := by
  by_cases hs : s.size < 64
  · exact Unpack_short s e n hs w
  · by_cases hmark : strAt s 0 = 1
    · obtain ⟨m, hm⟩ : ∃ m, Fr.num ((s.data.toList.take 8).drop 4) = m := ⟨_, rfl⟩
      by_cases hbig : 60000 < m
      · exact Unpack_big s e n m (by omega) hmost hmark hm hbig w
      · have hL : Looks s m := ⟨by omega, hmost, hmark, hm, by omega⟩
        by_cases hh : (s.extract 4 20).data.toList = Fr.headOf e n m
        · by_cases hw : s.size < Fr.whole m
          · exact Unpack_long s e n m he hn hL hh hw w
          · obtain ⟨p, hp⟩ : ∃ p, (s.extract 24 (24 + m)).data.toList = p := ⟨_, rfl⟩
            by_cases hx : (s.extract 20 24).data.toList = Fr.sumOf (Fr.headOf e n m) p
            · have hpl : p.length = m := by
                have := Fr.whole_ge m
                rw [← hp, extract_list, List.length_drop, List.length_take, size_toList]; omega
              exact absurd ⟨by rw [hpl]; exact hL, by rw [hpl]; exact hh, by rw [hpl]; omega, by rw [hpl]; exact hp, by rw [hpl]; exact hx⟩ (h p)
            · exact Unpack_sum s e n m p he hn hL hh (by omega) hp hx w
        · exact Unpack_head s e n m he hn hL hh w
    · exact Unpack_mark s e n (by omega) hmark w
theorem IsRec.one {s : ByteArray} {e n : Nat} {p p' : List UInt8} (h : IsRec s e n p) (h' : IsRec s e n p') : p = p' := by
  have e1 := h.looks.num
  have e2 := h'.looks.num
  have hl : p.length = p'.length := e1.symm.trans e2
  rw [← h.text, ← h'.text, hl]
/-- What epochOf answers of any sector. -/
def EpochG (s : ByteArray) (R : Nat) : Prop :=
  (R = 0 ∧ (4611686018427387904 < Fr.num ((s.data.toList.drop 12).take 8) ∨ Fr.num ((s.data.toList.drop 12).take 8) = 0 ∨ ¬ IsRec s (Fr.num ((s.data.toList.drop 12).take 8)) 0 title)) ∨ (IsRec s R 0 title ∧ 1 ≤ R ∧ R ≤ 4611686018427387904)
theorem EpochG.most {s : ByteArray} {R : Nat} (h : EpochG s R) : R ≤ 4611686018427387904 := by
  rcases h with ⟨rfl, _⟩ | ⟨_, _, h⟩
  · omega
  · exact h
theorem epochG_is (s : ByteArray) : ∃ R, EpochG s R := by
  obtain ⟨N, hN⟩ : ∃ N, N = Fr.num ((s.data.toList.drop 12).take 8) := ⟨_, rfl⟩
  by_cases h : 1 ≤ N ∧ N ≤ 4611686018427387904 ∧ IsRec s N 0 title
  · exact ⟨N, Or.inr ⟨h.2.2, h.1, h.2.1⟩⟩
  · refine ⟨0, Or.inl ⟨rfl, ?_⟩⟩
    rw [← hN]
    by_cases h1 : 4611686018427387904 < N
    · exact Or.inl h1
    · by_cases h2 : N = 0
      · exact Or.inr (Or.inl h2)
      · exact Or.inr (Or.inr (fun h3 => h ⟨by omega, by omega, h3⟩))
attribute [local go_sem high] run_index_byte
set_option maxRecDepth 100000 in
set_option maxHeartbeats 2000000 in
theorem epochOf_gen (s : ByteArray) (R : Nat) (hs : s.size = 64) (h : EpochG s R) (w : World) :
    Calls Tryz.prog 77 #[.string s] w fun e w' => e = .returned (.int .i64 R) ∧ Below w.heap.size w w' := by
  have H := Lib.hid h
  have HLD := Lib.hid (show (s.data.toList.drop 12).length = 52 by rw [List.length_drop, size_toList, hs])
  clear h
  go_enter Tryz.func77, Tryz.ntmps77
  go_wp2_with fail
  go_loopw [3, 8] (fun r i wr => ∃ j : Nat, j ≤ 8 ∧ i = .int .i64 j ∧ r = .int .u64 (Fr.num ((s.data.toList.drop 12).take j)) ∧ wr = w) (fun _ i _ => 8 - (intOf i).toNat)
  case atStart => exact ⟨0, by omega, rfl, by rw [List.take_zero, Fr.num_nil]; rfl, rfl⟩
  case round =>
    obtain ⟨j, hj, rfl, rfl, rfl⟩ := hrel
    by_cases hlt : j < 8
    · obtain ⟨N, hN⟩ : ∃ N, N = Fr.num ((s.data.toList.drop 12).take j) := ⟨_, rfl⟩
      rw [← hN]
      go_wp2_with fail
      go_roundw
      case rel => exact ⟨j + 1, by omega, by go_num, (by
        rw [or_shift _ _ (by have := num_lt7 (s.data.toList.drop 12) j (by omega); omega), List.take_succ_eq_append_getElem (by rw [HLD.out]; omega), Fr.num_snoc, List.getElem_drop, hN]; rfl), trivial⟩
      case measure => simp [intOf]; omega
    · obtain rfl : j = 8 := by omega
      have hN8 := num_lt8 (s.data.toList.drop 12) 8 (Nat.le_refl _)
      rcases H.out with ⟨rfl, h⟩ | ⟨h, h1, h2⟩
      · obtain ⟨N, hN⟩ : ∃ N, N = Fr.num ((s.data.toList.drop 12).take 8) := ⟨_, rfl⟩
        rw [← hN] at hN8 h ⊢
        by_cases hbig : N ≤ 4611686018427387904
        · by_cases hrec : ∃ p, IsRec s N 0 p
          · obtain ⟨p, hp⟩ := hrec
            have hpl := hp.looks.few
            have CU := Lib.hid (fun (v : World) => show Calls Tryz.prog 92 #[.string s, .int .i64 N, .int .i64 0] v _ from Unpack_rec s N 0 p hbig (by omega) hp v)
            by_cases ht : p = title
            · have hN0 : N = 0 := by
                rcases h with h | h | h
                · omega
                · exact h
                · exact absurd (ht ▸ hp) h
              have HN0 := Lib.hid (show (N : Int) = 0 by omega)
              rw [ht, title_bs] at CU
              clear h hN hp ht hN0 hpl
              go_wp2_with (first | (go_at_call 92; refine (CU.out _).mono ?_; rintro r w2 ⟨rfl, hb⟩; have HB := Lib.hid hb; clear hb) | (go_at_call 49; refine (errorsIs_nil _ _).mono ?_; rintro r w' ⟨rfl, rfl⟩) | fail)
              go_ret
              exact ⟨by rw [HN0.out]; rfl, HB.out⟩
            · obtain ⟨q, hq⟩ : ∃ q, q = bs p := ⟨_, rfl⟩
              have hne : (q.toList == [106, 111, 117, 114, 110, 97, 108]) = false := by
                rw [beq_eq_false_iff_ne, ByteArray.toList_eq, hq, bs_list]; exact ht
              rw [← hq] at CU
              clear h hN hp ht hq hpl
              go_wp2_with (first | (go_at_call 92; refine (CU.out _).mono ?_; rintro r w2 ⟨rfl, hb⟩; have HB := Lib.hid hb; clear hb) | (go_at_call 49; refine (errorsIs_nil _ _).mono ?_; rintro r w' ⟨rfl, rfl⟩) | fail)
              go_ret
              exact ⟨rfl, HB.out⟩
          · have CU := Lib.hid (fun (v : World) => show Calls Tryz.prog 92 #[.string s, .int .i64 N, .int .i64 0] v _ from Unpack_not s N 0 hbig (by omega) (by omega) (fun p hp => hrec ⟨p, hp⟩) v)
            clear h hN hrec
            go_wp2_with (first | (go_at_call 92; refine (CU.out _).mono ?_; rintro r w2 ⟨g, hg, rfl, hf, hb⟩; have HFA := Lib.hid hf; have HB := Lib.hid hb; clear hf hb) | (go_at_call 49; refine (errorsIs_true g 20 0 _ HFA.out).mono ?_; rintro r w' ⟨rfl, rfl⟩) | fail)
            go_ret
            exact ⟨rfl, HB.out⟩
        · clear h hN
          go_wp2_with fail
          go_ret
          exact ⟨rfl, Below.refl _ _⟩
      · rw [h.epoch (by omega)] at hN8 ⊢
        have CU := Lib.hid (fun (v : World) => show Calls Tryz.prog 92 #[.string s, .int .i64 R, .int .i64 0] v _ from Unpack_rec s R 0 title h2 (by omega) h v)
        rw [title_bs] at CU
        clear h
        go_wp2_with (first | (go_at_call 92; refine (CU.out _).mono ?_; rintro r w2 ⟨rfl, hb⟩; have HB := Lib.hid hb; clear hb) | (go_at_call 49; refine (errorsIs_nil _ _).mono ?_; rintro r w' ⟨rfl, rfl⟩) | fail)
        go_ret
        exact ⟨rfl, HB.out⟩
/-- The records of an epoch from a number on, with which a text begins. -/
inductive Chain (e : Nat) : Nat → List UInt8 → List (List UInt8) → Prop
  | stop {n : Nat} {l : List UInt8} (h : NotRec (bs l) e n) : Chain e n l []
  | next {n : Nat} {l p : List UInt8} {ps : List (List UInt8)} (h : IsRec (bs l) e n p) (t : Chain e (n + 1) (l.drop (64 * secs p)) ps) : Chain e n l (p :: ps)
theorem chain_is (e : Nat) : ∀ (k n : Nat) (l : List UInt8), l.length ≤ k → ∃ ps, Chain e n l ps := by
  intro k
  induction k with
  | zero => intro n l hl; exact ⟨[], .stop (fun p hp => by have := hp.looks.size; rw [bs_size] at this; omega)⟩
  | succ k ih =>
    intro n l hl
    by_cases h : ∃ p, IsRec (bs l) e n p
    · obtain ⟨p, hp⟩ := h
      have hs := hp.looks.size
      rw [bs_size] at hs
      have := secs_pos p
      obtain ⟨ps, t⟩ := ih (n + 1) (l.drop (64 * secs p)) (by rw [List.length_drop]; omega)
      exact ⟨p :: ps, .next hp t⟩
    · exact ⟨[], .stop (fun p hp => h ⟨p, hp⟩)⟩
theorem Chain.len {e n : Nat} {l : List UInt8} {ps : List (List UInt8)} (h : Chain e n l ps) : 64 * secsAll ps ≤ l.length := by
  induction h with
  | stop => simp [secsAll]
  | next h t ih =>
    have hw := h.whole
    rw [whole_secs, bs_size] at hw
    rw [List.length_drop] at ih
    rw [secsAll_cons]; omega
theorem Chain.few {e n : Nat} {l : List UInt8} {ps : List (List UInt8)} (h : Chain e n l ps) : ∀ p ∈ ps, p.length ≤ 60000 := by
  induction h with
  | stop => simp
  | next h t ih =>
    intro p hp
    rcases List.mem_cons.1 hp with rfl | hp
    · exact h.looks.few
    · exact ih p hp
theorem Chain.at {e n : Nat} {l : List UInt8} {ps : List (List UInt8)} (h : Chain e n l ps) : ∀ k, k ≤ ps.length → Chain e (n + k) (l.drop (64 * secsAll (ps.take k))) (ps.drop k) := by
  induction h with
  | stop h =>
    intro k hk
    obtain rfl : k = 0 := by simpa using hk
    simpa [secsAll] using Chain.stop h
  | next h t ih =>
    intro k hk
    cases k with
    | zero => simpa [secsAll] using Chain.next h t
    | succ k =>
      have := ih k (by simpa using hk)
      rw [List.drop_drop] at this
      rw [List.take_succ_cons, secsAll_cons, List.drop_succ_cons, Nat.mul_add, show ∀ n : Nat, n + (k + 1) = n + 1 + k from fun n => by omega]
      exact this
theorem Chain.head {e n : Nat} {l : List UInt8} {ps : List (List UInt8)} (h : Chain e n l ps) (hl : 0 < ps.length) : IsRec (bs l) e n (ps.getD 0 []) := by
  cases h with
  | stop => simp at hl
  | next h t => exact h
theorem Chain.none {e n : Nat} {l : List UInt8} (h : Chain e n l []) : NotRec (bs l) e n := by cases h; assumption
end Go.Proofs.YtbljhodnpddpiaaGreatDoor
