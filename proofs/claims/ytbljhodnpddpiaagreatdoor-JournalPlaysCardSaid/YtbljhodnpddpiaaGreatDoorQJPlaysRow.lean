/- Whatever the two numbers and the script, JournalPlays answers true and leaves its arguments as they were: the row JournalPlaysSaid. -/
import Derived.Test.YtbljhodnpddpiaaGreatDoorQ13
import Derived.Test.YtbljhodnpddpiaaGreatDoorQJPlaysW
namespace Go.Proofs.YtbljhodnpddpiaaGreatDoor.journalPlaysRow
open Go.ChangeShapes Go.WideShapes Go.ChangeAt Go.RowKit
open Go.ChangeMaps (open_string shut_string)

theorem own : ownKnob Tryz.prog.godebug = none := by kernel_rfl
theorem laidOut : laidOutB Tryz.prog = true := by kernel_rfl
theorem wf64 {n : Int} (h : (Lit.int .i64 n).wf = true) : -9223372036854775808 ≤ n ∧ n ≤ 9223372036854775807 := by
  simpa [Lit.wf, IntKind.min, IntKind.max, IntKind.bits, IntKind.signed] using h
theorem cellsStrings : Tryz.prog.cellsOf 31 = 1 := by kernel_rfl
theorem cellsBools : Tryz.prog.cellsOf 46 = 1 := by kernel_rfl
theorem cellsInt : Tryz.prog.cellsOf 3 = 1 := by kernel_rfl
theorem cellsStep : Tryz.prog.cellsOf 48 = 6 := by kernel_rfl
theorem bytesString : Tryz.prog.bytesOf 9 = 16 := by kernel_rfl
theorem mem_weightsAll {H : Type} {P : Program} {e : TypeId} {d : DataW H} {n : Nat} : ∀ {l : List (DataW H)}, d ∈ l → n ∈ d.weights P e → n ∈ DataW.weightsAll P e l
  | [], h, _ => by cases h
  | y :: r, h, hn => by
    simp only [DataW.weightsAll, List.mem_append]
    rcases List.mem_cons.1 h with rfl | h
    · exact Or.inl hn
    · exact Or.inr (mem_weightsAll h hn)
section
variable {H : Type} {enc : TypeId × Value → H} {W : World}
/-- The texts of a step, as they were handed in. -/
theorem open_texts {fuel : Nat} {v : Value} {x : DataW H × List MemPlace} (h : DataW.trod enc Tryz.prog W 0 (fun _ => true) true fuel 31 [v] = some x) (hlt : ∀ y ∈ x.2, y.block < W.heap.size) (hsz : ∀ n ∈ x.1.weights Tryz.prog 31, n ≤ reachBytes) :
    ∃ l : List (List UInt8), l.length * 16 ≤ 140737488355328 ∧ Given v l W := by
  rcases open_strings Tryz.underlying31 Tryz.underlying9 lh_cellsString h with ⟨hcs, _⟩ | ⟨a, len, cap, ss, hcs, _, hl, _, hz, hx, hcell, _⟩
  · obtain rfl : v = .slice none 0 0 := by simpa using hcs
    exact ⟨[], by simp, Or.inr (Texts.nil W)⟩
  · obtain rfl : v = .slice (some a) len cap := by simpa using hcs
    simp only [if_true] at hz
    have hlen : (ss.take len).length = len := by rw [List.length_take]; omega
    have hmm : len * 16 ≤ 140737488355328 := by
      have h1 := hsz (((ss.take len).length + (ss.drop len).length) * 16) (by rw [hx]; simp [DataW.weights, Tryz.underlying31, bytesString, strs])
      have h2 := reachBytes_lt
      rw [hlen] at h1
      omega
    by_cases hl0 : len = 0
    · subst hl0
      exact ⟨[], by simp, Or.inl ⟨rfl, _, _, rfl⟩⟩
    · obtain ⟨b, off, spot⟩ := a
      have hspot : spot = none := by simpa [Addr.add] using World.cell?_spot (hcell 0 (by omega))
      subst hspot
      have hbW : b < W.heap.size := hlt (.cell b off) (by rw [hx]; exact MemPlace.mem_row.2 ⟨0, by omega, by simp⟩)
      refine ⟨(ss.take len).map fun s => s.data.toList, by rw [List.length_map, hlen]; exact hmm, Or.inr (Or.inr ⟨b, off, cap, by rw [List.length_map, hlen], hbW, fun i hi => ?_⟩)⟩
      rw [List.length_map, hlen] at hi
      rw [← add_plain]
      have h1 := hcell i (by omega)
      have h2 : strv (((ss.take len).map fun s => s.data.toList).getD i []) = .string (ss.getD i ByteArray.empty) := by
        have hi2 : i < ss.length := by omega
        simp only [List.getD, List.getElem?_map, List.getElem?_take, if_pos hi, List.getElem?_eq_getElem hi2, Option.map_some, Option.getD_some]
        unfold strv
        rw [bs_self]
      rw [h2]; exact h1
/-- What is kept, as it was handed in. -/
theorem open_keep {fuel : Nat} {v : Value} {x : DataW H × List MemPlace} (h : DataW.trod enc Tryz.prog W 0 (fun _ => true) true fuel 46 [v] = some x) (hlt : ∀ y ∈ x.2, y.block < W.heap.size) :
    ∃ kb ko ks keep, Yes v kb ko ks keep W ∧ ∀ k ∈ ks, k < W.heap.size := by
  rcases Go.Deep.open_bools Tryz.underlying46 Tryz.underlying4 cellsBool h with ⟨hcs, hx⟩ | ⟨a, klen, kcap, B, hcs, _, hl, hm, hx, hcell⟩
  · obtain rfl : v = .slice none 0 0 := by simpa using hcs
    exact ⟨0, 0, [], [], ⟨⟨none, 0, rfl, Or.inl rfl⟩, Or.inl rfl, fun i hi => by simp at hi, by simp⟩, by simp⟩
  · obtain rfl : v = .slice (some a) klen kcap := by simpa using hcs
    by_cases hk0 : klen = 0
    · subst hk0
      exact ⟨0, 0, [], [], ⟨⟨_, _, rfl, Or.inl rfl⟩, Or.inl rfl, fun i hi => by simp at hi, by simp⟩, by simp⟩
    · obtain ⟨b, off, spot⟩ := a
      have hspot : spot = none := by simpa [Addr.add] using World.cell?_spot (hcell 0 (by omega))
      subst hspot
      have hbW : b < W.heap.size := hlt (.cell b off) (by rw [hx]; exact MemPlace.mem_row.2 ⟨0, by omega, by simp⟩)
      have hlen : ((List.range klen).map B).length = klen := by simp
      refine ⟨b, off, [b], (List.range klen).map B, ⟨⟨_, kcap, by rw [hlen], Or.inr rfl⟩, Or.inr (by simp), fun i hi => ?_, by rw [hlen]; unfold maxLen at hm; omega⟩, by simp; exact hbW⟩
      rw [hlen] at hi
      rw [getD_range hi, ← add_plain]; exact hcell i (by omega)
set_option maxRecDepth 100000 in
/-- A step, as it was handed in. -/
theorem open_step {fuel : Nat} {cs : List Value} {x : DataW H × List MemPlace} (h : DataW.trod enc Tryz.prog W 0 (fun _ => true) true fuel 48 cs = some x) (hlt : ∀ y ∈ x.2, y.block < W.heap.size) (hsz : ∀ n ∈ x.1.weights Tryz.prog 48, n ≤ reachBytes) : ∃ s : Stp, cs = s.row ∧ s.Ok W := by
  obtain ⟨xs, k, hk, hxy, hcl, hxl, hf⟩ := DataW.trod_struct Tryz.underlying48 h
  rw [cellsStep] at hcl
  match xs, hxl, cs, hcl with
  | [y0, y1, y2, y3, y4, y5], _, [v0, v1, v2, v3, v4, v5], _ =>
    have g0 := hf 0 _ rfl
    have g1 := hf 1 _ rfl
    have g2 := hf 2 _ rfl
    have g3 := hf 3 _ rfl
    have g4 := hf 4 _ rfl
    have g5 := hf 5 _ rfl
    simp [cellsInt, lh_cellsString, cellsBools, cellsStrings] at g0 g1 g2 g3 g4 g5
    obtain ⟨n0, hn0, _, _⟩ := DataW.trod_int Tryz.underlying3 g0
    obtain ⟨n1, hn1, _, w1⟩ := DataW.trod_int Tryz.underlying3 g1
    obtain ⟨s2, hs2, _, _⟩ := DataW.trod_string Tryz.underlying9 g2
    have h3 := open_texts g3 (fun y hy => hlt y (by rw [hxy]; simp [hy])) (fun n hn => hsz n (by rw [hxy]; simp [DataW.weights, DataW.weightsEach, Tryz.underlying48, hn]))
    have h4 := open_keep g4 (fun y hy => hlt y (by rw [hxy]; simp [hy]))
    obtain ⟨n5, hn5, _, _⟩ := DataW.trod_int Tryz.underlying3 g5
    simp only [List.cons.injEq, and_true] at hn0 hn1 hs2 hn5
    subst hn0; subst hn1; subst hs2; subst hn5
    have b1 := wf64 w1
    exact ⟨⟨n0, n1, s2, v3, v4, n5⟩, rfl, b1.1, b1.2, h3, h4⟩
set_option maxRecDepth 100000 in
/-- The script, as it was handed in. -/
theorem open_steps {fuel : Nat} {cs : List Value} {x : DataW H × List MemPlace} (h : DataW.trod enc Tryz.prog W 0 (fun _ => true) true fuel 22 cs = some x) (hlt : ∀ y ∈ x.2, y.block < W.heap.size) (hsz : ∀ n ∈ x.1.weights Tryz.prog 22, n ≤ reachBytes) :
    ∃ (a0 : Option Addr) (bs off len cap : Nat) (St : Nat → Stp), cs = [.slice a0 len cap] ∧ (len = 0 ∨ a0 = some ⟨bs, off, none⟩) ∧ len ≤ cap ∧ (len = 0 ∨ bs < W.heap.size) ∧ (∀ i, i < len → W.rangeAt bs (off + i * 6) (St i).row) ∧ ∀ i, i < len → (St i).Ok W := by
  rcases Go.Deep.open_slice Tryz.underlying22 h with ⟨hcs, _⟩ | ⟨a, len, cap, m, n, D, Pl, hcs, _, hl, _, hm, hx, hall⟩
  · exact ⟨none, 0, 0, 0, 0, fun _ => ⟨0, 0, .empty, .nilIface, .nilIface, 0⟩, hcs, Or.inl rfl, Nat.le_refl _, Or.inl rfl, fun i hi => by omega, fun i hi => by omega⟩
  · simp only [if_true] at hm
    subst hm
    have each : ∀ i, i < len → ∃ s : Stp, W.cells? 0 (a.add (i * 6)) 6 = some s.row ∧ s.Ok W := fun i hi => by
      obtain ⟨cs', h1, h2⟩ := hall i (by omega)
      rw [cellsStep] at h1
      have hw : ∀ n ∈ (D i).weights Tryz.prog 48, n ≤ reachBytes := fun n hn => hsz n (by
        have hmem : n ∈ DataW.weightsAll Tryz.prog 48 ((List.range len).map D) := mem_weightsAll (List.mem_map.2 ⟨i, List.mem_range.2 hi, rfl⟩) hn
        rw [hx]
        simp only [DataW.weights, Tryz.underlying22]
        exact List.mem_cons_of_mem _ (List.mem_append_left _ hmem))
      obtain ⟨s, hs, ho⟩ := open_step h2 (fun y hy => hlt y (by rw [hx]; exact List.mem_append_right _ (List.mem_flatMap.2 ⟨i, List.mem_range.2 (by omega), hy⟩))) hw
      exact ⟨s, by rw [h1, hs], ho⟩
    by_cases hl0 : len = 0
    · exact ⟨some a, 0, 0, len, m, fun _ => ⟨0, 0, .empty, .nilIface, .nilIface, 0⟩, hcs, Or.inl hl0, hl, Or.inl hl0, fun i hi => by omega, fun i hi => by omega⟩
    · obtain ⟨St, hSt⟩ : ∃ St : Nat → Stp, ∀ i, i < len → W.cells? 0 (a.add (i * 6)) 6 = some (St i).row ∧ (St i).Ok W :=
        ⟨fun i => if hi : i < len then Classical.choose (each i hi) else ⟨0, 0, .empty, .nilIface, .nilIface, 0⟩, fun i hi => by simp only [hi, dif_pos]; exact Classical.choose_spec (each i hi)⟩
      obtain ⟨_, _, hc0⟩ := World.cells?_some (hSt 0 (by omega)).1
      obtain ⟨b, off, spot⟩ := a
      have hspot : spot = none := by
        have h00 := hc0 0 (by omega)
        simpa [Addr.add] using World.cell?_spot h00
      subst hspot
      have hbW : b < W.heap.size := hlt (.cell b off) (by rw [hx]; exact List.mem_append_left _ (MemPlace.mem_row.2 ⟨0, by rw [cellsStep]; omega, by simp⟩))
      refine ⟨_, b, off, len, m, St, hcs, Or.inr rfl, hl, Or.inr hbW, fun i hi j v hv => ?_, fun i hi => (hSt i hi).2⟩
      obtain ⟨_, hln, hc⟩ := World.cells?_some (hSt i hi).1
      have hj : j < 6 := (List.getElem?_eq_some_iff.1 hv).1
      have := hc j hj
      rw [add_plain, add_plain] at this
      exact this.trans hv
end

set_option maxRecDepth 100000 in
theorem lifted (os : Os) (started : os.Started) (H : Type) (enc : TypeId × Value → H) :
    ReturnsInHanded {} Tryz.checked os 3 .any (fun w args => (Rows.journalPlaysSpec.pre enc Tryz.prog Tryz.f3 [] false w args ∧ laidMetH Tryz.prog [("errors.errorType", Rows.laid_errors_errorType)] w) ∧ sizedMet enc Tryz.prog Tryz.f3 (OpenSpec.ofChange Rows.journalPlaysSpec) false w args)
      (Rows.journalPlaysSpec.post enc Tryz.prog Tryz.f3 false true false false) := by
  refine returnsInHanded_of_change_and (C := Tryz.checked) (X := fun w _ => laidMetH Tryz.prog [("errors.errorType", Rows.laid_errors_errorType)] w) (fun _ _ _ hh h => h.of_heap hh) own started (by kernel_rfl) Tryz.func3
    (ChangeSpec.witness_at (enc := enc) (C := Tryz.checked) (os := os) (X := fun w _ => laidMetH Tryz.prog [("errors.errorType", Rows.laid_errors_errorType)] w) false (laidWorld os) #[.int .i64 0, .int .i64 0, .slice none 0 0] 8 rfl (by kernel_rfl) (by kernel_rfl) (by kernel_rfl) (by kernel_rfl) (by kernel_rfl) (laidWorld_met os _)) ?_
  intro W base args ds gs before hval0 hW _ hsz0 hL _
  have hval : ∀ (j : Nat) t v, Tryz.f3.params[j]? = some t → args[j]? = some v → Value.okWide Tryz.prog W .any base t v := hval0
  have hsz : (DataW.weightsEach Tryz.prog (Tryz.f3.params.toList ++ Rows.journalPlaysSpec.plain.varTypes Tryz.prog) (ds ++ gs)).all (· ≤ reachBytes) = true := hsz0
  have hW' := hW
  obtain ⟨p, q, hA0, hV, rfl, _, _⟩ := hW
  have hA : DataW.TrodAll enc Tryz.prog W 0 (fun _ => true) true Tryz.f3.params.toList args.toList ds p := hA0
  rw [Tryz.params3] at hA hval hsz
  obtain ⟨v0, vs0, d0, ds0, p0, q0, hargs, rfl, rfl, h0, r0⟩ := trodAll_cons hA
  obtain ⟨v1, vs1, d1, ds1, p1, q1, rfl, rfl, rfl, h1, r1⟩ := trodAll_cons r0
  obtain ⟨v2, vs2, d2, ds2, p2, q2, rfl, rfl, rfl, h2, r2⟩ := trodAll_cons r1
  obtain ⟨rfl, rfl, rfl⟩ := trodAll_nil r2
  obtain rfl : args = #[v0, v1, v2] := by cases args; simp_all
  obtain ⟨rfl, rfl⟩ := trodVars_none hV
  obtain ⟨n, rfl, rfl, rfl, w0⟩ := open_int Tryz.underlying3 (hval 0 3 v0 rfl rfl) h0
  obtain ⟨m, rfl, rfl, rfl, w1⟩ := open_int Tryz.underlying3 (hval 1 3 v1 rfl rfl) h1
  obtain ⟨a1, len0, cap0, rfl⟩ := okWide_slice Tryz.underlying22 (hval 2 22 v2 rfl rfl)
  have hsz2 : ∀ n ∈ d2.weights Tryz.prog 22, n ≤ reachBytes := fun n hn => by
    have := List.all_eq_true.1 hsz _ (DataW.weights_mem_each (j := 2) (t := 22) rfl rfl n hn)
    simpa using this
  have h2k := h2
  obtain ⟨fuel2, hf2⟩ := h2
  clear hA0 hval0 hsz0 hsz
  simp only [List.append_nil, List.nil_append] at hW'
  have hlt2 : ∀ x ∈ p2, x.block < W.heap.size := fun x hx => by
    have := hW'.lt x (by simp [hx])
    simpa using this
  have fin : ∀ W' : World, Below W.heap.size W W' → Rows.journalPlaysSpec.post enc Tryz.prog Tryz.f3 false true false false W #[.int .i64 n, .int .i64 m, .slice a1 len0 cap0] (.bool true) W' := by
    intro W' hb
    exact ⟨_, [], _, [], _, [], hW', trodAll_mk1 (shut_bool Tryz.underlying4 _), trodAll_cons_mk (shut_int Tryz.underlying3 w0) (trodAll_cons_mk (shut_int Tryz.underlying3 w1) (trodAll_cons_mk (Below.trod laidOut (by kernel_rfl) (of_decide_eq_true (by kernel_rfl)) h2k hb hlt2) trodAll_mk0)), rfl, hb.frame _, fun h => by cases h⟩
  obtain ⟨a0, bs, off, len, cap, St, hcs, ha, hl, hb, hc, hok⟩ := open_steps hf2 hlt2 hsz2
  simp [Value.cells] at hcs
  obtain ⟨rfl, rfl, rfl⟩ := hcs
  refine (plays_walk n m (wf64 w0) (wf64 w1) _ bs off _ _ St W ha hl hb hc hok (errCell_of_laid hL)).mono fun e W' ⟨he, hbl⟩ => ?_
  subst he
  exact ⟨_, rfl, fin _ hbl⟩

/-- ████ THE STATEMENT ████ -/
theorem proved : Rows.JournalPlaysSaid :=
  OpenClaim.holds_of_wide 3 Tryz.f3 rfl rfl rfl rfl rfl rfl rfl ⟨rfl, rfl, rfl, rfl, rfl⟩ rfl rfl rfl rfl rfl (by kernel_rfl) Tryz.func3 (by kernel_rfl)
    (of_decide_eq_true (by kernel_rfl)) (by unfold Func.isWrapper; first | (rw [if_pos (by decide +kernel)]; kernel_rfl) | (rw [if_neg (by decide +kernel)]; exact ⟨rfl, rfl⟩))
    (fun os started H enc _ => lifted os started H enc)
end Go.Proofs.YtbljhodnpddpiaaGreatDoor.journalPlaysRow
