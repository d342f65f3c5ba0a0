/- A builder that is written to between an iterator's steps: what else lies stays as it lay. -/
import Derived.Test.YtdimkgidaioolaaHCut
namespace Go.Proofs.Ytdimkgidaioolaa
open Go.RowKit

/-- An object that is no row of bytes. -/
def notBytes : Obj → Bool
  | .cells _ T _ => T != 5
  | _ => true
/-- But for block b and rows of bytes, what lay lies as it lay. -/
def Far (b : Nat) (w w' : World) : Prop := w.heap.size ≤ w'.heap.size ∧ ∀ (k : Nat) (o : Obj), k ≠ b → notBytes o = true → w.heap[k]? = some o → w'.heap[k]? = some o
theorem Far.refl (b : Nat) (w : World) : Far b w w := ⟨Nat.le_refl _, fun _ _ _ _ h => h⟩
theorem Far.trans {b : Nat} {x y z : World} (h : Far b x y) (k : Far b y z) : Far b x z := ⟨Nat.le_trans h.1 k.1, fun i o hi ho e => k.2 i o hi ho (h.2 i o hi ho e)⟩
theorem Far.of_below {b : Nat} {w w' : World} (h : Below w.heap.size w w') : Far b w w' := ⟨h.size, fun k _ _ _ e => (h.block k (lt_of_heap e)).trans e⟩
theorem Far.setCell (b i : Nat) (w : World) (v : Value) : Far b w (w.setCell ⟨b, i, none⟩ v) := ⟨by simp [World.setCell], fun k _ hk _ e => (Below.heap_setCell _ _ _ _ hk).trans e⟩
theorem Far.grown {b : Nat} {w w' : World} {row : Option Nat} (hg : w.grownBy w' row) (hr : ∀ k, row = some k → ∃ cs fr, w.heap[k]? = some (.cells cs 5 fr)) : Far b w w' :=
  ⟨hg.size, fun k o _ ho e => (hg.block k (lt_of_heap e) (fun hk => by
    obtain ⟨cs, fr, h⟩ := hr k hk.symm
    rw [h] at e; cases e; simp [notBytes] at ho)).trans e⟩
theorem own_bytes {w : World} {B n : Nat} {v : Value} {xs : List Value} (h : w.ownsRow B 5 1 v n xs) : ∀ k, v.ownBlock = some k → ∃ cs fr, w.heap[k]? = some (.cells cs 5 fr) := by
  intro k hk
  rcases h.2 with ⟨hv, _⟩ | ⟨g, cap, cur, hv, _, hg, _⟩
  · subst hv; cases hk
  · subst hv; cases hk; exact ⟨_, _, hg⟩

/-- A builder, written to or not. -/
def Bldr (b : Nat) (l : List UInt8) (w : World) : Prop := Lib.IsBuilder 45 5 b b (l.map u8v) w
theorem Bldr.of_built {b : Nat} {l : List UInt8} {w : World} (h : Built b l w) : Bldr b l w := Or.inr h
theorem Bldr.lt {b : Nat} {l : List UInt8} {w : World} (h : Bldr b l w) : b < w.heap.size := by
  rcases h with ⟨_, v, hbk, _⟩ | ⟨_, v, hbk, _⟩ <;> exact lt_of_heap hbk
theorem Bldr.fresh {b : Nat} {w : World} (h : w.heap[b]? = some (.cells [Value.pointer none, .slice none 0 0].toArray 45 (0, 0))) : Bldr b [] w :=
  Or.inl ⟨Nat.le_refl _, .slice none 0 0, h, World.ownsRow_nil _ _ _ _, by intro e; cases e⟩
theorem copyCheck_far (b : Nat) (l : List UInt8) (w : World) (h : Bldr b l w) :
    Calls Try.prog 29 #[.pointer (some ⟨b, 0, none⟩)] w fun e w' => e = .returned (.tuple #[]) ∧ (Built b l w' ∧ Below b w w') ∧ Far b w w' := by
  rcases h with h | h
  · refine (copyCheck_fresh b w h.cell0 h.shape h.frozen0).mono ?_
    rintro e w' ⟨rfl, rfl⟩
    exact ⟨rfl, ⟨h.used _, (Below.refl b w).setCell (p := ⟨b, 0, none⟩) (Nat.le_refl _) _⟩, Far.setCell _ _ _ _⟩
  · refine (copyCheck_used b w h.cell0).mono ?_
    rintro e w' ⟨rfl, rfl⟩
    exact ⟨rfl, ⟨h, Below.refl b _⟩, Far.refl _ _⟩
set_option maxRecDepth 100000 in
set_option maxHeartbeats 2000000 in
theorem Put_far (b : Nat) (l : List UInt8) (s : ByteArray) (w : World) (h : Bldr b l w) (hlen : l.length + s.size ≤ 140737488355328) :
    Calls Try.prog 17 #[.pointer (some ⟨b, 0, none⟩), .string s] w fun e w' => e = .returned (.tuple #[.int .i64 s.size, .nilIface]) ∧ (Built b (l ++ s.data.toList) w' ∧ Below b w w') ∧ Far b w w' := by
  obtain ⟨i0, hi, hz0, hz1, hz2⟩ := info_parts infoByte
  have hlm : (l.map u8v).length = l.length := List.length_map ..
  have H := Lib.hid h
  clear h
  go_enter Try.func17, Try.ntmps17
  go_wp2_with fail
  refine (copyCheck_far b l _ H.out).mono ?_
  rintro e w1 ⟨rfl, ⟨h1, hb1⟩, hf1⟩
  obtain ⟨hB, v, hbk, hown, hne⟩ := h1
  have c1 : w1.cell? ⟨b, 1, none⟩ = some v := by rw [Lib.cell_of_heap hbk]; rfl
  have hlt : b < w1.heap.size := lt_of_heap hbk
  have HBK := Lib.hid hbk
  have HOWN := Lib.hid hown
  have HNE := Lib.hid hne
  have HB1 := Lib.hid hb1
  have HF1 := Lib.hid hf1
  clear hbk hown hne hB hb1 hf1 H
  go_wp2_with (at_builtin; refine Lib.wpList_append_own_string _ rfl _ _ 35 9 rfl b 5 i0 Try.underlying35 Try.underlying9 hi hz0 hz1 hz2 _ _ _ rfl HOWN.out s rfl ?c3 ?c4 ?c5 ?_)
  case c3 => unfold maxLen; omega
  case c4 => omega
  case c5 => omega
  intro v' w2 hown' hgrow _
  have hb2 : w2.heap[b]? = some (.cells #[.pointer (some ⟨b, 0, none⟩), v] 45 (0, 0)) := by
    rw [hgrow.block b hlt (fun e => HNE.out e.symm)]; exact HBK.out
  have d1 : w2.cell? ⟨b, 1, none⟩ = some v := by rw [Lib.cell_of_heap hb2]; rfl
  have f1 : w2.frozen? ⟨b, 1, none⟩ = false := Lib.frozen_of_heap hb2 1
  obtain ⟨ao, n', cap, rfl⟩ : ∃ ao n' cap, v' = .slice ao n' cap := by
    rcases hown'.2 with ⟨hv, _⟩ | ⟨g, cap, cur, hv, _⟩
    · exact ⟨_, _, _, hv⟩
    · exact ⟨_, _, _, hv⟩
  have HO := Lib.hid hown'
  have HG := Lib.hid hgrow
  have HB2 := Lib.hid hb2
  clear hown' hgrow hb2
  go_wp2
  go_ret2
  have e : (l ++ s.data.toList).map u8v = l.map u8v ++ Lib.strCells s := by rw [List.map_append]; rfl
  refine ⟨rfl, ⟨?_, ?_⟩, ?_⟩
  · unfold Built
    rw [e]
    exact Lib.BuilderAt.put (T := 45) (e := 5) (Nat.le_refl _) HB2.out (bs' := l.map u8v ++ Lib.strCells s) (by simpa [Lib.strCells_length] using HO.out) (by decide)
  · exact HB1.out.trans (((Below.refl b w1).grown HG.out (Nat.le_of_lt hlt) (fun k hk => (HOWN.out.lt k hk).1)).setCell (p := ⟨b, 1, none⟩) (Nat.le_refl _) _)
  · exact HF1.out.trans ((Far.grown HG.out (own_bytes HOWN.out)).trans (Far.setCell _ _ _ _))
theorem Far.freeze {b g m : Nat} {w : World} {cs : Array Value} {fr : Nat × Nat} (hg : w.heap[g]? = some (.cells cs 5 fr)) : Far b w (w.drew.freeze ⟨g, 0, none⟩ m) := by
  unfold World.freeze
  split
  · exact ⟨Nat.le_refl _, fun k o _ _ e => e⟩
  · refine ⟨by simp, fun k o _ ho e => ?_⟩
    have hkg : k ≠ g := by
      intro e2; subst e2; rw [hg] at e; cases e; simp [notBytes] at ho
    have e3 : w.drew.heap[k]? = some o := e
    simp only [Array.getElem?_modify]
    rw [if_neg (Ne.symm hkg)]
    exact e3
set_option maxHeartbeats 1000000 in
theorem String_far1 (B b : Nat) (l : List UInt8) (w : World) (h : Lib.IsBuilder 45 5 B b (Lib.byteCells l) w) (h0 : l ≠ []) :
    Calls Try.prog 21 #[.pointer (some ⟨b, 0, none⟩)] w fun e w' => e = .returned (.string ⟨l.toArray⟩) ∧ Below B w w' ∧ Far b w w' := by
  obtain ⟨p, hB, v, hbk, hown, hne⟩ : ∃ p, Lib.BuilderAt 45 5 B b p (Lib.byteCells l) w := by
    rcases h with h | h
    · exact ⟨_, h⟩
    · exact ⟨_, h⟩
  have hl0 : l.length ≠ 0 := by simpa using h0
  rw [Lib.byteCells_length] at hown
  obtain ⟨g, cap, cur, rfl, hbg, hg, hnc, hcm, hcs, htake⟩ : ∃ g cap cur, v = .slice (some ⟨g, 0, none⟩) l.length cap ∧ B ≤ g ∧ w.heap[g]? = some (.cells cur 5 (0, 0)) ∧ l.length ≤ cap ∧ cap ≤ maxLen ∧ cur.size = cap * 1 ∧ cur.toList.take (l.length * 1) = Lib.byteCells l := by
    rcases hown.2 with ⟨_, hz⟩ | ⟨g, cap, cur, hv, r⟩
    · exact absurd hz hl0
    · exact ⟨g, cap, cur, hv, r⟩
  have c1 : w.drew.cell? ⟨b, 1, none⟩ = some (.slice (some ⟨g, 0, none⟩) l.length cap) := by
    have : w.drew.heap[b]? = some (.cells #[p, .slice (some ⟨g, 0, none⟩) l.length cap] 45 (0, 0)) := hbk
    rw [Lib.cell_of_heap this]; rfl
  have hSD : (Builtin.unsafeSliceData_ #[35] 66 #[.slice (some ⟨g, 0, none⟩) l.length cap]).run Try.prog w.drew = .ok (.pointer (some ⟨g, 0, none⟩)) w.drew :=
    Lib.run_unsafeSliceData_row _ _ _ _ _ _ (by omega)
  have hUS : (Builtin.unsafeString_ #[66, 3] 9 #[.pointer (some ⟨g, 0, none⟩), .int .i64 l.length]).run Try.prog w.drew = .ok (.string ⟨l.toArray⟩) (w.drew.freeze ⟨g, 0, none⟩ l.length) := by
    refine Lib.run_unsafeString_row w.drew 66 3 9 5 Try.underlying66 cellsByte g cur.size (by have hg' : w.drew.heap[g]? = some (.cells cur 5 (0, 0)) := hg; simp [World.shape?, hg']) l h0 (by omega) (by unfold maxLen at hcm; omega) ?_
    intro j x hx
    have := hown.cells (g := g) rfl j (.int .u8 x.toNat) (by simp [Lib.byteCells, hx])
    exact this
  go_enter Try.func21, Try.ntmps21
  go_wp2
  go_region
  all_goals (go_wp2; go_ret; exact ⟨rfl, Lib.below_freeze (Below.drew (Below.refl B w)) (p := ⟨g, 0, none⟩) hbg _, Far.freeze hg⟩)

theorem Told_far (b : Nat) (l : List UInt8) (w : World) (h : Bldr b l w) :
    Calls Try.prog 21 #[.pointer (some ⟨b, 0, none⟩)] w fun e w' => e = .returned (.string (bs l)) ∧ Below b w w' ∧ Far b w w' := by
  by_cases h0 : l = []
  · subst h0
    obtain ⟨p, hB, v, hbk, hown, hne⟩ : ∃ p, Lib.BuilderAt 45 5 b b p [] w := by
      rcases h with h | h
      · exact ⟨_, h⟩
      · exact ⟨_, h⟩
    have key : Calls Try.prog 21 #[.pointer (some ⟨b, 0, none⟩)] w fun e w' => e = .returned (.string ⟨#[]⟩) ∧ Below w.heap.size w w' := by
      rcases hown.2 with ⟨rfl, _⟩ | ⟨g, cap, cur, rfl, hbg, hg, _, _, _, _⟩
      · exact Any.Builder_String_nil lays169 Builder_Extra_169 w.heap.size b p w hbk
      · by_cases hc0 : cap = 0
        · subst hc0
          exact Any.Builder_String_noroom lays169 Builder_Extra_169 w.heap.size b g p cur w (Nat.le_refl _) hbk hg
        · exact Any.Builder_String_room lays169 Builder_Extra_169 w.heap.size b g cap p w hc0 hbk
    refine key.mono ?_
    rintro e w' ⟨rfl, hb⟩
    exact ⟨by rw [← bs_eq], hb.mono (Nat.le_of_lt h.lt), Far.of_below hb⟩
  · refine (String_far1 b b l w h h0).mono ?_
    rintro e w' ⟨rfl, hb, hf⟩
    exact ⟨by rw [bs_eq], hb, hf⟩
/-- What was built stays so, whatever turns but its own two blocks. -/
theorem Bldr.keep {b : Nat} {l : List UInt8} {w w' : World} (h : Bldr b l w) (hk : ∀ k cs T fr, w.heap[k]? = some (.cells cs T fr) → (k = b ∨ T = 5) → w'.heap[k]? = w.heap[k]?) : Bldr b l w' := by
  have key : ∀ v, w.ownsRow b 5 1 v (l.map u8v).length (l.map u8v) → w'.ownsRow b 5 1 v (l.map u8v).length (l.map u8v) := by
    intro v hown
    refine ⟨hown.1, ?_⟩
    rcases hown.2 with h0 | ⟨g, cap, cur, h0, hB, hg, r⟩
    · exact Or.inl h0
    · exact Or.inr ⟨g, cap, cur, h0, hB, (hk _ _ _ _ hg (.inr rfl)).trans hg, r⟩
  rcases h with ⟨hB, v, hbk, hown, hne⟩ | ⟨hB, v, hbk, hown, hne⟩
  · exact Or.inl ⟨hB, v, (hk _ _ _ _ hbk (.inl rfl)).trans hbk, key v hown, hne⟩
  · exact Or.inr ⟨hB, v, (hk _ _ _ _ hbk (.inl rfl)).trans hbk, key v hown, hne⟩
end Go.Proofs.Ytdimkgidaioolaa
