/- Disks and their power, plainly: what each call answers and leaves; that the document's do so. -/
import Derived.Test.YtkpnllaegkdkkaaPLose
import Derived.Test.YtkpnllaegkdkkaaPRot
import Derived.Test.YtkpnllaegkdkkaaPImage
namespace Go.Proofs.Ytkpnllaegkdkkaa
open Go.RowKit

/-- A power. -/
structure Pw where
  gone : Bool
  left : Int
  acts : Int
/-- A disk. -/
structure Ds where
  n : Nat
  S : List (List UInt8)
  ps : List Dk.Wr
  dead : Bool
  life : Int
/-- Numbers that the machine's can tell. -/
def Pw.ok (g : Pw) : Prop := -1 ≤ g.left ∧ g.left ≤ 9223372036854775807 ∧ 0 ≤ g.acts ∧ g.acts ≤ 1000000000
def Ds.ok (x : Ds) : Prop := x.ps.length ≤ 100000 ∧ 0 ≤ x.life ∧ x.life ≤ 1000000000
/-- What is answered first. -/
def badC (g : Pw) (x : Ds) (a : Int) : Int := if g.gone then 10 else if x.dead then 11 else if a < 0 ∨ (x.n : Int) ≤ a then 1 else 0
/-- An act: is it done? -/
def Pw.act (g : Pw) : Pw := if g.left = 0 then { g with gone := true } else { g with left := less g.left, acts := g.acts + 1 }
def readC (g : Pw) (x : Ds) (a : Int) : List UInt8 := if badC g x a = 0 then Dk.readAt x.S x.ps a.toNat else []
def writeC (g : Pw) (x : Ds) (a : Int) (s : List UInt8) : Int := if badC g x a ≠ 0 then badC g x a else if s.length ≠ 64 then 1 else if g.left = 0 then 10 else 0
def writeG (g : Pw) (x : Ds) (a : Int) (s : List UInt8) : Pw := if badC g x a ≠ 0 ∨ s.length ≠ 64 then g else g.act
def writeX (g : Pw) (x : Ds) (a : Int) (s : List UInt8) : Ds := if writeC g x a s = 0 then { x with ps := x.ps ++ [(a.toNat, s)] } else x
def flushC (g : Pw) (x : Ds) : Int := if badC g x 0 ≠ 0 then badC g x 0 else if g.left = 0 then 10 else 0
def flushG (g : Pw) (x : Ds) : Pw := if badC g x 0 ≠ 0 then g else g.act
def flushX (g : Pw) (x : Ds) : Ds := if flushC g x = 0 then { x with S := Dk.settleTo x.S x.ps (fun _ => 64) x.ps.length, ps := [] } else x
def loseX (x : Ds) (keep : List Bool) (t : Int) : Ds := { x with S := Dk.settleTo x.S x.ps (Dk.keptAt keep (Dk.clamp t)) x.ps.length, ps := [] }
def killX (x : Ds) : Ds := { x with ps := [], dead := true, life := x.life + 1 }
def replaceX (x : Ds) : Ds := { x with S := blankS x.n, ps := [], dead := false, life := x.life + 1 }
def rotC (x : Ds) (a b : Int) : Int := if x.dead then 11 else if a < 0 ∨ (x.n : Int) ≤ a ∨ b < 0 ∨ 512 ≤ b then 1 else 0
def rotX (x : Ds) (a b : Int) : Ds := if rotC x a b = 0 then { x with S := rotS x.S a.toNat b.toNat } else x
def imageC (x : Ds) : List UInt8 := if x.dead then [] else x.S.flatten
/-- The document's disk, its power. -/
def RP (q : Nat) (g : Pw) (w : World) : Prop := RPow q g.gone g.left g.acts w
def RD (r q : Nat) (G : List Nat) (x : Ds) (w : World) : Prop := RDisk r q G x.n x.S x.ps x.dead x.life w
section
variable {r q : Nat} {G : List Nat} {g : Pw} {x : Ds} {w : World}
theorem rbad_any (h : RD r q G x w) (hp : RP q g w) (a : Int) : Calls Try.prog 49 #[.pointer (some ⟨r, 0, none⟩), .int .i64 a] w fun e w' => e = .returned (.int .i64 (badC g x a)) ∧ w = w' := by
  obtain ⟨gone, left, acts⟩ := g
  obtain ⟨n, S, ps, dead, life⟩ := x
  obtain ⟨hv, wv, h, _⟩ := h
  unfold RP at hp
  simp only [badC] at *
  cases gone with
  | true => exact bad_gone h hp a
  | false =>
    cases dead with
    | true => exact bad_dead h hp a
    | false =>
      simp only [Bool.false_eq_true, if_false]
      by_cases ha : a < 0 ∨ (n : Int) ≤ a
      · rw [if_pos ha]; exact bad_at h hp a ha
      · rw [if_neg ha]
        obtain ⟨k, rfl⟩ : ∃ k : Nat, a = k := ⟨a.toNat, by omega⟩
        exact bad_ok h hp k (by omega)
theorem badC_ok {a : Int} (h : badC g x a = 0) : g.gone = false ∧ x.dead = false ∧ ∃ k : Nat, a = k ∧ k < x.n := by
  unfold badC at h
  cases hg : g.gone <;> cases hd : x.dead <;> simp only [hg, hd, if_true, if_false, Bool.false_eq_true] at h
  · by_cases ha : a < 0 ∨ (x.n : Int) ≤ a
    · rw [if_pos ha] at h; omega
    · exact ⟨rfl, rfl, a.toNat, by omega, by omega⟩
  all_goals omega
theorem rread_any (h : RD r q G x w) (hp : RP q g w) (a : Int) : Calls Try.prog 21 #[.pointer (some ⟨r, 0, none⟩), .int .i64 a] w fun e w' => e = .returned (.tuple #[sv (readC g x a), .int .i64 (badC g x a)]) ∧ w = w' := by
  by_cases hb : badC g x a = 0
  · obtain ⟨h1, h2, k, rfl, hk⟩ := badC_ok hb
    obtain ⟨hv, wv, hr, _⟩ := h
    unfold RP at hp
    rw [h1] at hp
    rw [h2] at hr
    rw [readC, if_pos hb, hb]
    exact rread_ok hr hp k hk
  · rw [readC, if_neg hb]
    exact rread_no r a _ hb w (rbad_any h hp a)
theorem rwrite_any (h : RD r q G x w) (hp : RP q g w) (hg : g.ok) (hx : x.ok) (a : Int) (s : ByteArray) :
    Calls Try.prog 23 #[.pointer (some ⟨r, 0, none⟩), .int .i64 a, .string s] w fun e w' => e = .returned (.int .i64 (writeC g x a s.data.toList)) ∧
      ∃ G', RD r q G' (writeX g x a s.data.toList) w' ∧ RP q (writeG g x a s.data.toList) w' ∧ (∀ y ∈ G', y ∈ G ∨ w.heap.size ≤ y) ∧ Kept w.heap.size (q :: G) w w' := by
  by_cases hb : badC g x a = 0
  · by_cases hs : s.data.toList.length = 64
    · have hC : writeC g x a s.data.toList = if g.left = 0 then 10 else 0 := by rw [writeC, if_neg (by simp [hb]), if_neg (by simp [hs])]
      have hG : writeG g x a s.data.toList = g.act := by rw [writeG, if_neg (by simp [hb, hs])]
      obtain ⟨h1, h2, k, rfl, hk⟩ := badC_ok hb
      have hsz : s.size = 64 := by rw [← size_toList]; exact hs
      unfold RP at hp
      rw [h1] at hp
      have h' := h
      unfold RD at h'
      rw [h2] at h'
      by_cases hl : g.left = 0
      · rw [hl] at hp
        obtain ⟨hv, wv, hr, _, _, _, hqG, _⟩ := h'
        refine (rwrite_cut hr hp k hk s hsz).mono ?_
        rintro e w' ⟨rfl, hp', hk'⟩
        refine ⟨by rw [hC, if_pos hl], G, ?_, ?_, fun y hy => Or.inl hy, hk'.mono (Nat.le_refl _) (fun y _ hy => by simp at hy; simp [hy])⟩
        · rw [writeX, hC, if_pos hl, if_neg (by omega)]
          exact RDisk.kept h hk' (fun y hy hm => hqG (by simp at hm; exact hm ▸ hy))
        · rw [hG, Pw.act, if_pos hl, RP, hl]; exact hp'
      · refine (rwrite_ok h' hp k hk s hsz (by have := hx.1; omega) hl hg.1 hg.2.1 hg.2.2.1 (by have := hg.2.2.2; omega)).mono ?_
        rintro e w' ⟨rfl, G', hd, hp', hG', hk'⟩
        refine ⟨by rw [hC, if_neg hl], G', ?_, ?_, hG', hk'⟩
        · rw [writeX, hC, if_neg hl, if_pos rfl]
          unfold RD
          rw [h2]
          exact hd
        · rw [hG, Pw.act, if_neg hl, RP, h1]; exact hp'
    · have hC : writeC g x a s.data.toList = 1 := by rw [writeC, if_neg (by simp [hb]), if_pos hs]
      refine (rwrite_len r a s (by rw [← size_toList]; exact hs) w (by have := rbad_any h hp a; rw [hb] at this; exact this)).mono ?_
      rintro e w' ⟨rfl, rfl⟩
      refine ⟨by rw [hC], G, ?_, ?_, fun y hy => Or.inl hy, Kept.refl _ _ _⟩
      · rw [writeX, hC, if_neg (by omega)]; exact h
      · rw [writeG, if_pos (Or.inr hs)]; exact hp
  · have hC : writeC g x a s.data.toList = badC g x a := by rw [writeC, if_pos hb]
    refine (rwrite_no r a _ s hb w (rbad_any h hp a)).mono ?_
    rintro e w' ⟨rfl, rfl⟩
    refine ⟨by rw [hC], G, ?_, ?_, fun y hy => Or.inl hy, Kept.refl _ _ _⟩
    · rw [writeX, hC, if_neg hb]; exact h
    · rw [writeG, if_pos (Or.inl hb)]; exact hp
theorem rflush_any (h : RD r q G x w) (hp : RP q g w) (hg : g.ok) :
    Calls Try.prog 24 #[.pointer (some ⟨r, 0, none⟩)] w fun e w' => e = .returned (.int .i64 (flushC g x)) ∧ RD r q G (flushX g x) w' ∧ RP q (flushG g x) w' ∧ Kept w.heap.size (q :: G) w w' := by
  by_cases hb : badC g x 0 = 0
  · have hC : flushC g x = if g.left = 0 then 10 else 0 := by rw [flushC, if_neg (by simp [hb])]
    have hG : flushG g x = g.act := by rw [flushG, if_neg (by simp [hb])]
    obtain ⟨h1, h2, _⟩ := badC_ok hb
    unfold RP at hp
    rw [h1] at hp
    have h' := h
    unfold RD at h'
    rw [h2] at h'
    by_cases hl : g.left = 0
    · rw [hl] at hp
      obtain ⟨hv, wv, hr, _, _, _, hqG, _⟩ := h'
      refine (rflush_cut hr hp).mono ?_
      rintro e w' ⟨rfl, hp', hk'⟩
      refine ⟨by rw [hC, if_pos hl], ?_, ?_, hk'.mono (Nat.le_refl _) (fun y _ hy => by simp at hy; simp [hy])⟩
      · rw [flushX, hC, if_pos hl, if_neg (by omega)]
        exact RDisk.kept h hk' (fun y hy hm => hqG (by simp at hm; exact hm ▸ hy))
      · rw [hG, Pw.act, if_pos hl, RP, hl]; exact hp'
    · refine (rflush_ok h' hp hl hg.1 hg.2.1 hg.2.2.1 (by have := hg.2.2.2; omega)).mono ?_
      rintro e w' ⟨rfl, hd, hp', hk'⟩
      refine ⟨by rw [hC, if_neg hl], ?_, ?_, hk'⟩
      · rw [flushX, hC, if_neg hl, if_pos rfl]
        unfold RD
        rw [h2]
        exact hd
      · rw [hG, Pw.act, if_neg hl, RP, h1]; exact hp'
  · have hC : flushC g x = badC g x 0 := by rw [flushC, if_pos hb]
    refine (rflush_no r _ hb w (rbad_any h hp 0)).mono ?_
    rintro e w' ⟨rfl, rfl⟩
    refine ⟨by rw [hC], ?_, ?_, Kept.refl _ _ _⟩
    · rw [flushX, hC, if_neg hb]; exact h
    · rw [flushG, if_pos hb]; exact hp
theorem rlose_any (h : RD r q G x w) (kv : Value) (kb ko : Nat) (ks : List Nat) (keep : List Bool) (t : Int) (hy : Yes kv kb ko ks keep w) (hks : ∀ k ∈ ks, k < w.heap.size ∧ k ∉ G) :
    Calls Try.prog 26 #[.pointer (some ⟨r, 0, none⟩), kv, .int .i64 t] w fun e w' => e = .returned (.tuple #[]) ∧ RD r q G (loseX x keep t) w' ∧ Kept w.heap.size G w w' := rlose_ok h kv kb ko ks keep t hy hks
theorem rkill_any (h : RD r q G x w) (hx : x.ok) : Calls Try.prog 27 #[.pointer (some ⟨r, 0, none⟩)] w fun e w' => e = .returned (.tuple #[]) ∧ RD r q G (killX x) w' ∧ Kept w.heap.size G w w' := rkill_ok h hx.2.1 (by have := hx.2.2; omega)
theorem rreplace_any (h : RD r q G x w) (hp : RP q g w) (hx : x.ok) : Calls Try.prog 29 #[.pointer (some ⟨r, 0, none⟩)] w fun e w' => e = .returned (.tuple #[]) ∧ ∃ G', RD r q G' (replaceX x) w' ∧ (∀ y ∈ G', y ∈ G ∨ w.heap.size ≤ y) ∧ Kept w.heap.size G w w' := rreplace_ok h hp.lt hx.2.1 (by have := hx.2.2; omega)
theorem rrot_any (h : RD r q G x w) (a b : Int) : Calls Try.prog 31 #[.pointer (some ⟨r, 0, none⟩), .int .i64 a, .int .i64 b] w fun e w' => e = .returned (.int .i64 (rotC x a b)) ∧ RD r q G (rotX x a b) w' ∧ Kept w.heap.size G w w' := by
  have h' := h
  obtain ⟨hv, wv, hr, _⟩ := h'
  cases hd : x.dead with
  | true =>
    rw [hd] at hr
    refine (rrot_dead hr a b).mono ?_
    rintro e w' ⟨rfl, rfl⟩
    have hC : rotC x a b = 11 := by rw [rotC, if_pos hd]
    exact ⟨by rw [hC], by rw [rotX, hC, if_neg (by omega)]; exact h, Kept.refl _ _ _⟩
  | false =>
    rw [hd] at hr
    by_cases hab : a < 0 ∨ (x.n : Int) ≤ a ∨ b < 0 ∨ 512 ≤ b
    · refine (rrot_bad hr a b hab).mono ?_
      rintro e w' ⟨rfl, rfl⟩
      have hC : rotC x a b = 1 := by rw [rotC, if_neg (by simp [hd]), if_pos hab]
      exact ⟨by rw [hC], by rw [rotX, hC, if_neg (by omega)]; exact h, Kept.refl _ _ _⟩
    · obtain ⟨k, rfl⟩ : ∃ k : Nat, a = k := ⟨a.toNat, by omega⟩
      obtain ⟨m, rfl⟩ : ∃ m : Nat, b = m := ⟨b.toNat, by omega⟩
      have hC : rotC x k m = 0 := by rw [rotC, if_neg (by simp [hd]), if_neg hab]
      have h2 := h
      unfold RD at h2
      rw [hd] at h2
      refine (rrot_ok h2 k m (by omega) (by omega)).mono ?_
      rintro e w' ⟨rfl, hd', hk⟩
      refine ⟨by rw [hC], ?_, hk⟩
      rw [rotX, hC, if_pos rfl]
      unfold RD
      rw [hd]
      exact hd'
theorem rimage_any (h : RD r q G x w) : Calls Try.prog 10 #[.pointer (some ⟨r, 0, none⟩)] w fun e w' => e = .returned (sv (imageC x)) ∧ Below w.heap.size w w' := by
  obtain ⟨hv, wv, hr, _⟩ := h
  cases hd : x.dead with
  | true =>
    rw [hd] at hr
    refine (rimage_dead hr).mono ?_
    rintro e w' ⟨rfl, rfl⟩
    exact ⟨by rw [imageC, if_pos hd]; rfl, Below.refl _ _⟩
  | false =>
    rw [hd] at hr
    rw [imageC, if_neg (by simp [hd])]
    exact rimage_ok hr
end
end Go.Proofs.Ytkpnllaegkdkkaa
