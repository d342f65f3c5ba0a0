/- Pairs collected and sorted: the library's calls. -/
import Derived.Test.YtiodbkloecpdcaaUOrd
import Derived.Lib.OwnBridge
namespace Go.Proofs.Ytiodbkloecpdcaa
open Go.RowKit Go.Shelf Go.Sort

theorem AppendSeq_any (Bs : Nat) (sv : Value) (zs : List Ur.Pr) (hlen : zs.length * 32 ≤ 140737488351232) (w : World) (hBs : Bs < w.heap.size) (hc : w.cell? ⟨Bs, 0, none⟩ = some sv) (hI : PairsAt w.heap.size w sv zs) :
    Calls Try.prog 83 #[.slice none 0 0, .func (.func 75) #[] #[.pointer (some ⟨Bs, 0, none⟩)]] w fun e W' => ∃ v, e = .returned v ∧ W'.ownsRow w.heap.size 32 2 v zs.length (prs zs) ∧ Below w.heap.size w W' :=
  (callsIn_wide (n := 6)).1 (appendSeq_in Fence.wide 6 trivial trivial rfl (by omega) Bs sv zs hlen w hBs hc hI)
theorem Collect_any (Bs : Nat) (sv : Value) (zs : List Ur.Pr) (hlen : zs.length * 32 ≤ 140737488351232) (w : World) (hBs : Bs < w.heap.size) (hc : w.cell? ⟨Bs, 0, none⟩ = some sv) (hI : PairsAt w.heap.size w sv zs) :
    Calls Try.prog 73 #[.func (.func 75) #[] #[.pointer (some ⟨Bs, 0, none⟩)]] w fun e W' => ∃ v, e = .returned v ∧ W'.ownsRow w.heap.size 32 2 v zs.length (prs zs) ∧ Below w.heap.size w W' := by
  have C := Lib.hid (AppendSeq_any Bs sv zs hlen w hBs hc hI)
  clear hlen hc hI hBs
  go_enter Try.func73, Try.ntmps73
  go_wp2_with (go_at_call 83; refine C.out.mono ?_; rintro e w2 ⟨v, rfl, ho, hb⟩)
  go_ret
  exact ⟨_, rfl, ho, hb⟩
/-- The cells of a pair. -/
def encL (p : Ur.Pr) : List Value := [Value.string (bs p.1), .string (bs p.2)]
theorem encL_len (p : Ur.Pr) : (encL p).length = 2 := rfl
theorem encL_one (p : Ur.Pr) : ∀ v ∈ encL p, v.oneCell' = true := one_str _ _
theorem flat_prs (l : List Ur.Pr) (t : Nat) (h : t < l.length * 2) : (prs l)[t]? = some ((flatK encL 2 l.toArray)[t]!) := by
  rw [get_flatK encL 2 l.toArray t (by simpa using h)]
  have hk : t / 2 < l.length := by omega
  have := prs_at l (t / 2) hk
  have e : (l.toArray)[t / 2]! = l.getD (t / 2) ([], []) := by
    rw [getElem!_pos _ _ (by simpa using hk)]; simp [List.getD, List.getElem?_eq_getElem hk]
  rw [e]
  rcases (show t % 2 = 0 ∨ t % 2 = 1 by omega) with h0 | h0
  · rw [h0, show t = 2 * (t / 2) by omega]
    rw [show 2 * (t / 2) / 2 = t / 2 by omega]
    exact this.1
  · rw [h0, show t = 2 * (t / 2) + 1 by omega]
    rw [show (2 * (t / 2) + 1) / 2 = t / 2 by omega]
    exact this.2
theorem holds_of_own {w : World} {B g cap : Nat} {l : List Ur.Pr} (h : w.ownsRow B 32 2 (.slice (some ⟨g, 0, none⟩) l.length cap) l.length (prs l)) : HoldsK encL 2 w g 0 l.toArray := by
  intro j hj
  rw [size_flatK] at hj
  have hj' : j < l.length * 2 := by simpa using hj
  have hc := h.cells (g := g) rfl j _ (flat_prs l j hj')
  rw [Addr.add_mid] at hc
  refine ⟨hc, ?_⟩
  rcases h.2 with ⟨hv, _⟩ | ⟨g', cap', cur, hv, _, hg, _⟩
  · cases hv
  · cases hv
    simp [World.frozen?, hg]
theorem range_of_holds {w : World} {g : Nat} {l : List Ur.Pr} (h : HoldsK encL 2 w g 0 l.toArray) : w.rangeAt g 0 (prs l) := by
  intro j v hv
  have hj : j < (prs l).length := by
    rcases Nat.lt_or_ge j (prs l).length with h | h
    · exact h
    · rw [List.getElem?_eq_none h] at hv; cases hv
  rw [prs_len] at hj
  have := (h j (by rw [size_flatK]; simp; omega)).1
  rw [flat_prs l j (by omega)] at hv
  cases hv
  exact this
theorem below_sort {B : Nat} {w : World} {g n : Nat} {d : Array Ur.Pr} {os : Array Obj} (hg : B ≤ g) (hB : B ≤ w.heap.size) : Below B w (sortWorldK encL 2 w g 0 n d os) := by
  have h1 : Below B w (putRowK encL 2 (Sort.ahead w n) g 0 d) := Lib.below_putRow (Below.refl _ _) hg
  refine ⟨h1.os, h1.tape, h1.output, ?_, fun k hk => ?_⟩
  · refine Nat.le_trans h1.size ?_
    show _ ≤ (_ ++ os).size
    rw [Array.size_append]; omega
  · rw [← h1.block k hk]
    exact heap_grow_old _ os (Nat.lt_of_lt_of_le hk (Nat.le_trans hB h1.size))
theorem SortFunc_any (B g cap : Nat) (l : List Ur.Pr) (hB : B ≤ g) (w : World) (hBw : B ≤ w.heap.size) (hl : l.length < 4611686018427387904) (h : w.ownsRow B 32 2 (.slice (some ⟨g, 0, none⟩) l.length cap) l.length (prs l)) :
    Calls Try.prog 74 #[.slice (some ⟨g, 0, none⟩) l.length cap, .func (.func 55) #[] #[]] w fun e w' => e = .returned (.tuple #[]) ∧ w'.rangeAt g 0 (prs (srt l)) ∧ Below B w w' := by
  have eg : ∀ args w, (callFunc 55 args).run Try.prog w = .ok (.enter 55 args) w := enters_of Try.func55 (by kernel_rfl) rfl
  have hH := holds_of_own h
  have hgw : g < w.heap.size := (h.lt g rfl).2
  have hcon := AnyQ.slices_SortFunc_total u_sortP 2 Try.isAgg32 Try.sizeOf32 encL encL_len encL_one cfP swoP 55 #[] g 0 cap l.toArray w eg (fun _ _ _ _ x y => sorted1_any x y _) hH hgw (by simpa using hl) totP
  rw [show l.toArray.size = l.length by simp] at hcon
  change Calls Try.prog 74 _ _ _ at hcon
  refine hcon.mono ?_
  rintro e w' ⟨rfl, n, os, rfl⟩
  refine ⟨rfl, ?_, below_sort hB hBw⟩
  have hs := holdsK_sortWorldK encL 2 w g 0 n l.toArray (srt l).toArray os hgw hH (by simp [(srt_perm l).length_eq])
  exact range_of_holds hs
theorem SortFunc_nil (w : World) : Calls Try.prog 74 #[.slice none 0 0, .func (.func 55) #[] #[]] w fun e w' => e = .returned (.tuple #[]) ∧ w' = w := by
  have h := AnyF.slices_SortFunc_none u_sortP none 0 (.func (.func 55) #[] #[]) w
  change Calls Try.prog 74 _ _ _ at h
  exact h.mono fun _ _ hh => hh
end Go.Proofs.Ytiodbkloecpdcaa
