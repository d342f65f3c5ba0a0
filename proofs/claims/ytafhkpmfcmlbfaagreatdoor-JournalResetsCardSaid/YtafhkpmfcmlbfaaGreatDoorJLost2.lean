/- A journal on a disk whose power has gone while records were laid: as it was, or with all that is new. -/
import Derived.Test.YtafhkpmfcmlbfaaGreatDoorJLost
namespace Go.Proofs.YtafhkpmfcmlbfaaGreatDoor
open Go.RowKit

theorem lost_wide {n : Nat} {y : St} (hok : StOk y n) (len : Nat → Nat) (x : Nat) (hx : x < n) : (lost y len x).length = 64 := by
  unfold lost
  have hw := Dk.settleTo_wide len hok.wide (fun w hw => by rw [hok.len]; exact hok.wrs w hw) y.ps.length (Nat.le_refl _)
  have hl : x < (Dk.settleTo y.S y.ps len y.ps.length).length := by rw [Dk.length_settleTo, hok.len]; exact hx
  rw [List.getD, List.getElem?_eq_getElem hl]
  exact hw _ (List.getElem_mem hl)
theorem JOn.mixed {W V W' : Nat → List UInt8} {from_ m act ep a k : Nat} {recs : List (List UInt8)} (h : JOn W from_ m act ep recs) (hM : Mix W V W' a k) (ha : a = from_ + act * m + (1 + secsAll recs)) (hroom : a + 1 + k ≤ from_ + act * m + m)
    (hw : ∀ x, from_ ≤ x → x < from_ + 2 * m → (W x).length = 64) (hw' : (W' a).length = 64) : JOn W' from_ m act ep recs ∨ W' = V := by
  rcases hM.here with h0 | h0 | h0
  · left; rw [h0]; exact h
  · left
    have ham : act * m ≤ m := by have : act = 0 ∨ act = 1 := by have := h.a1; omega
                                 rcases this with h1 | h1 <;> rw [h1] <;> omega
    have ho : (from_ + (1 - act) * m < from_ + act * m) ∨ from_ + act * m + m ≤ from_ + (1 - act) * m := by
      have : act = 0 ∨ act = 1 := by have := h.a1; omega
      rcases this with h1 | h1 <;> rw [h1]
      · right; omega
      · left; have := h.used; omega
    obtain ⟨tail, ht, hn⟩ := h.text
    obtain ⟨E', hE, hlt⟩ := h.other
    obtain ⟨b, hb⟩ : ∃ b, b = from_ + act * m := ⟨_, rfl⟩
    rw [← hb] at ha hroom ht ho
    refine ⟨h.a1, h.e1, h.e2, h.used, by rw [hM.far _ (Or.inl (by omega))]; exact h.head, ?_, ⟨E', by rw [hM.far _ (by omega)]; exact hE, hlt⟩, h.few⟩
    rw [← hb]
    obtain ⟨q, hq⟩ : ∃ q, q = m - 1 - secsAll recs - 1 := ⟨_, rfl⟩
    have e1 : m - 1 = secsAll recs + (1 + q) := by omega
    have p1 : vt W' (b + 1) (secsAll recs) = packs ep 1 recs := by
      rw [vt_congr (W := W) (fun x _ h2 => hM.far x (Or.inl (by omega)))]
      have := congrArg (List.take (64 * secsAll recs)) ht
      rw [e1, vt_add, List.take_left' (length_vt (fun x h1 h2 => hw x (by omega) (by omega))), List.take_left' (length_packs _ _ _)] at this
      exact this
    refine ⟨vt W' (b + 1 + secsAll recs) (1 + q), by rw [e1, vt_add, p1], Or.inr ?_⟩
    rw [vt_add, show vt W' (b + 1 + secsAll recs) 1 = W' a by rw [vt_succ, vt_zero, ha]; simp [Nat.add_assoc], List.getD, List.getElem?_append_left (by omega), ← List.getD]
    exact h0
  · exact Or.inr h0
theorem JOn.mixed_anew {W V W' : Nat → List UInt8} {from_ m act ep a k : Nat} {recs : List (List UInt8)} (h : JOn W from_ m act ep recs) (hM : Mix W V W' a k) (ha : a = from_ + (1 - act) * m) (hroom : 1 + k ≤ m) : JOn W' from_ m act ep recs ∨ W' = V := by
  rcases hM.here with h0 | h0 | h0
  · left; rw [h0]; exact h
  · left
    have ho : (from_ + act * m + m ≤ from_ + (1 - act) * m) ∨ from_ + (1 - act) * m + m ≤ from_ + act * m := by
      have : act = 0 ∨ act = 1 := by have := h.a1; omega
      rcases this with h1 | h1 <;> rw [h1]
      · left; omega
      · right; omega
    rw [← ha] at ho
    obtain ⟨tail, ht, hn⟩ := h.text
    obtain ⟨E', hE, hlt⟩ := h.other
    have hu := h.used
    refine ⟨h.a1, h.e1, h.e2, h.used, by rw [hM.far _ (by omega)]; exact h.head, ⟨tail, ?_, hn⟩, ⟨0, ?_, h.e1⟩, h.few⟩
    · rw [vt_congr (W := W) (fun x h1 h2 => hM.far x (by omega))]; exact ht
    · rw [← ha]; exact Or.inl ⟨Or.inr (by rw [bs_list]; exact h0), rfl⟩
  · exact Or.inr h0
end Go.Proofs.YtafhkpmfcmlbfaaGreatDoor
