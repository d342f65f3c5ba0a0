/- Pairs that are handed to a law. -/
import Derived.Test.YtiodbkloecpdcaaRows
import Derived.Test.YtiodbkloecpdcaaUCanon
import Derived.Test.YtiodbkloecpdcaaULift
import Derived.Deep.SlicePairs
import Derived.OpenShut
namespace Go.Proofs.Ytiodbkloecpdcaa
open Go.ChangeShapes Go.WideShapes Go.ChangeAt Go.RowKit Go.Deep

/-- How large pairs are. -/
def bulkP : List Ur.Pr → Nat
  | [] => 0
  | p :: r => p.1.length + p.2.length + 3 + bulkP r
theorem bulkP_len (l : List Ur.Pr) : 3 * l.length ≤ bulkP l := by
  induction l with
  | nil => simp
  | cons p r ih => simp only [bulkP, List.length_cons]; omega
theorem bulkP_short (l : List Ur.Pr) (N : Nat) (h : bulkP l ≤ N) : Short N l := by
  induction l generalizing N with
  | nil => intro p hp; cases hp
  | cons q r ih =>
    simp only [bulkP] at h
    intro p hp
    rcases List.mem_cons.1 hp with rfl | hp
    · omega
    · have := ih (bulkP r) (Nat.le_refl _) p hp
      omega
def sizes (L : List (List UInt8)) : Nat := (L.map fun t => t.length + 1).sum
theorem tail_len (L : List (List UInt8)) : (Lib.joinTail [38] L).length = sizes L := by
  induction L with
  | nil => rfl
  | cons a r ih =>
    simp only [Lib.joinTail, sizes, List.map_cons, List.flatten_cons, List.length_append, List.sum_cons, List.length_cons, List.length_nil] at ih ⊢
    omega
theorem join_len (L : List (List UInt8)) : (Lib.join L [38]).length ≤ sizes L := by
  cases L with
  | nil => simp [Lib.join_nil]
  | cons a r =>
    have h := tail_len r
    rw [Lib.join_cons, List.length_append, h]
    simp only [sizes, List.map_cons, List.sum_cons]
    omega
theorem sizes_txt (l : List Ur.Pr) : sizes ((l.map ep).map txt) ≤ 3 * bulkP l := by
  induction l with
  | nil => simp [sizes]
  | cons p r ih =>
    have a := Ur.enc_len Ur.fre p.1
    have b := Ur.enc_len Ur.fre p.2
    simp only [sizes, List.map_cons, List.sum_cons, bulkP, txt, ep, List.length_append, List.length_cons, List.length_nil] at ih ⊢
    omega
theorem canon_len (l : List Ur.Pr) : (canon l).length ≤ 3 * bulkP l := by
  refine Nat.le_trans (join_len _) ?_
  have h : sizes ((srt (l.map ep)).map txt) = sizes ((l.map ep).map txt) := by
    unfold sizes
    exact (((srt_perm (l.map ep)).map txt).map _).sum_nat
  rw [h]
  exact sizes_txt l
section
variable {H : Type} {enc : TypeId × Value → H} {W : World}
def textOfV : Value → ByteArray | .string t => t | _ => .empty
theorem bulk_prs (D0 D1 : Nat → DataW H) (f0 f1 : Nat → List UInt8) : ∀ L : List Nat, (∀ i ∈ L, D0 i = .lit (.string (f0 i)) ∧ D1 i = .lit (.string (f1 i))) → Rows.uptoBulkAll (L.map fun i => DataW.agg [D0 i, D1 i]) = bulkP (L.map fun i => (f0 i, f1 i)) := by
  intro L
  induction L with
  | nil => intro _; simp [Rows.uptoBulkAll, bulkP]
  | cons i r ih =>
    intro h
    have hi := h i (by simp)
    rw [List.map_cons, List.map_cons, Rows.uptoBulkAll, bulkP, ih (fun j hj => h j (by simp [hj])), hi.1, hi.2]
    simp only [Rows.uptoBulk, Rows.uptoBulkAll]
    omega
theorem open_prs {fuel : Nat} {cs : List Value} {x : DataW H × List MemPlace} (h : DataW.trod enc Try.prog W 0 (fun _ => true) true fuel 22 cs = some x) (hlt : ∀ y ∈ x.2, y.block < W.heap.size) :
    ∃ (a0 : Option Addr) (len cap : Nat) (l : List Ur.Pr), cs = [.slice a0 len cap] ∧ l.length = len ∧ len ≤ cap ∧ (0 < len → ∃ b off, a0 = some ⟨b, off, none⟩ ∧ b < W.heap.size ∧ W.rangeAt b off (prs l)) ∧ bulkP l ≤ Rows.uptoBulk x.1 := by
  rcases open_slice_pairs Try.underlying22 Try.underlying32 (by kernel_rfl) rfl rfl (by kernel_rfl) (by kernel_rfl) h with ⟨hcs, hx⟩ | ⟨a, len, cap, m, n, V0, V1, D0, D1, P0, P1, hcs, _, hl, _, hm, hx, hall⟩
  · exact ⟨none, 0, 0, [], hcs, rfl, Nat.le_refl _, fun h => by omega, by simp [bulkP]⟩
  · simp only [if_true] at hm
    have ft : ∀ i, i < m → D0 i = .lit (.string (textOfV (V0 i)).data.toList) ∧ D1 i = .lit (.string (textOfV (V1 i)).data.toList) ∧ V0 i = .string (textOfV (V0 i)) ∧ V1 i = .string (textOfV (V1 i)) := fun i hi => by
      obtain ⟨_, _, t0, t1⟩ := hall i hi
      obtain ⟨s, hs, e0, _⟩ := DataW.trod_string Try.underlying9 t0
      obtain ⟨t, ht, e1, _⟩ := DataW.trod_string Try.underlying9 t1
      simp only [List.cons.injEq, and_true, Prod.mk.injEq] at hs ht e0 e1
      rw [hs, ht, e0.1, e1.1]
      exact ⟨rfl, rfl, rfl, rfl⟩
    refine ⟨some a, len, cap, (List.range len).map fun i => ((textOfV (V0 i)).data.toList, (textOfV (V1 i)).data.toList), hcs, by simp, hl, fun h0 => ?_, ?_⟩
    · obtain ⟨b, o, spot⟩ := a
      have hspot : spot = none := by simpa [Addr.add] using World.cell?_spot (hall 0 (by omega)).1
      subst hspot
      refine ⟨b, o, rfl, ?_, fun j v hj => ?_⟩
      · exact hlt (.cell b o) (by rw [hx]; exact List.mem_append_left _ (MemPlace.mem_row.2 ⟨0, by omega, by simp⟩))
      · have hjl : j < len * 2 := by
          have := (List.getElem?_eq_some_iff.1 hj).1
          rw [prs_len] at this
          simpa [Nat.mul_comm] using this
        have hk : j / 2 < len := by omega
        obtain ⟨c0, c1, _, _⟩ := hall (j / 2) (by omega)
        obtain ⟨_, _, v0, v1⟩ := ft (j / 2) (by omega)
        have pp := prs_at ((List.range len).map fun i => ((textOfV (V0 i)).data.toList, (textOfV (V1 i)).data.toList)) (j / 2) (by simpa using hk)
        have eg : ((List.range len).map fun i => ((textOfV (V0 i)).data.toList, (textOfV (V1 i)).data.toList)).getD (j / 2) ([], []) = ((textOfV (V0 (j / 2))).data.toList, (textOfV (V1 (j / 2))).data.toList) := by simp [List.getD, hk]
        rw [eg, bs_self, bs_self] at pp
        rw [Addr.add_mid] at c0 c1
        rcases (show j % 2 = 0 ∨ j % 2 = 1 by omega) with h2 | h2
        · rw [show 2 * (j / 2) = j by omega] at pp
          rw [hj] at pp
          rw [show j / 2 * 2 = j by omega] at c0
          rw [c0, Option.some.inj pp.1]
          exact congrArg some v0
        · rw [show 2 * (j / 2) + 1 = j by omega] at pp
          rw [hj] at pp
          rw [show j / 2 * 2 + 1 = j by omega] at c1
          rw [c1, Option.some.inj pp.2]
          exact congrArg some v1
    · rw [hx]
      simp only [Rows.uptoBulk]
      rw [bulk_prs D0 D1 (fun i => (textOfV (V0 i)).data.toList) (fun i => (textOfV (V1 i)).data.toList) (List.range len) (fun i hi => by
        have := ft i (by rw [hm]; exact Nat.lt_of_lt_of_le (List.mem_range.1 hi) hl)
        exact ⟨this.1, this.2.1⟩)]
      omega
end
end Go.Proofs.Ytiodbkloecpdcaa
