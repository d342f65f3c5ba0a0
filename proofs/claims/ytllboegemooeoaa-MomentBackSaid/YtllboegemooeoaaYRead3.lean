/- The program reads a moment: what is told is read, and nothing else. -/
import Derived.Test.YtllboegemooeoaaYRead2
namespace Go.Proofs.Ytllboegemooeoaa
open Go.RowKit

set_option maxRecDepth 100000 in
set_option maxHeartbeats 1000000 in
theorem read_date {F : List UInt8} {mo : List UInt8 → Nat} (h : Frm F mo) (S : List UInt8) (hl : S.length = F.length) (n T : Nat) (hd : Mo.IsD n (Mo.nums 121 F S 0) (mo S) (Mo.nums 100 F S 0))
    (hT : n * 86400 + Mo.nums 104 F S 0 * 3600 + Mo.nums 105 F S 0 * 60 + Mo.nums 115 F S 0 = T) (X : List UInt8) (q : Int)
    (ht : ∀ v, Calls Try.prog 26 #[.string (bs F), .int .i64 T] v fun e w' => e = .returned (.tuple #[.string (bs X), .int .i64 q]) ∧ Below v.heap.size v w') (w : World) :
    Calls Try.prog 27 #[.string (bs F), .string (bs S)] w fun e w' => e = .returned (.tuple #[.int .i64 (if X = S then (T : Int) else 0), .int .i64 (if X = S then 0 else 51)]) ∧ Below w.heap.size w w' := by
  have q1 : (((bs S).size : Int) != ((bs F).size : Int)) = false := by rw [bs_size, bs_size, hl]; simp
  have C1 := Lib.hid (fun v : World => h.num S hl 121 121 rfl h.cy v)
  have C2 := Lib.hid (fun v : World => h.mc S hl v)
  have C3 := Lib.hid (fun v : World => h.num S hl 100 100 rfl h.cd v)
  have C5 := Lib.hid (fun v : World => h.num S hl 104 104 rfl h.ch v)
  have C6 := Lib.hid (fun v : World => h.num S hl 105 105 rfl h.ci v)
  have C7 := Lib.hid (fun v : World => h.num S hl 115 115 rfl h.cs v)
  have C4 := Lib.hid (fun v : World => From_ok n _ _ _ hd v)
  have C8 := Lib.hid ht
  have b1 := Mo.nums_small 104 F S h.ch
  have b2 := Mo.nums_small 105 F S h.ci
  have b3 := Mo.nums_small 115 F S h.cs
  have hn := hd.lt
  clear hd hl h ht
  generalize Mo.nums 121 F S 0 = y at *
  generalize Mo.nums 100 F S 0 = d at *
  generalize Mo.nums 104 F S 0 = hh at *
  generalize Mo.nums 105 F S 0 = ii at *
  generalize Mo.nums 115 F S 0 = ss at *
  generalize mo S = m at *
  obtain ⟨P, hP⟩ : ∃ P, P = n * 86400 := ⟨_, rfl⟩
  rw [← hP] at C4 hT
  have hPb : P ≤ 253402300800 := by omega
  have eT : ((P : Int) + (hh : Int) * 3600 + (ii : Int) * 60 + (ss : Int)) = (T : Int) := by omega
  have HT := Lib.hid eT
  clear eT hT hP hn
  by_cases hx : X = S
  · rw [if_pos hx, if_pos hx]
    subst hx
    go_enter Try.func27, Try.ntmps27
    go_wp2_with (first | (go_at_call 37; first | ((with_reducible refine (C1.out _).mono ?_); rintro e w' ⟨rfl, rfl⟩) | ((with_reducible refine (C3.out _).mono ?_); rintro e w' ⟨rfl, rfl⟩) | ((with_reducible refine (C5.out _).mono ?_); rintro e w' ⟨rfl, rfl⟩) | ((with_reducible refine (C6.out _).mono ?_); rintro e w' ⟨rfl, rfl⟩) | ((with_reducible refine (C7.out _).mono ?_); rintro e w' ⟨rfl, rfl⟩)) | (go_at_call 38; refine (C2.out _).mono ?_; rintro e w2 ⟨rfl, hb2⟩) | (go_at_call 16; refine (C4.out _).mono ?_; rintro e w' ⟨rfl, rfl⟩) | (rw [HT.out]; go_at_call 26; refine (C8.out _).mono ?_; rintro e w3 ⟨rfl, hb3⟩))
    go_ret2
    exact ⟨rfl, hb2.trans (hb3.mono hb2.size)⟩
  · have qx := bs_ne hx
    rw [if_neg hx, if_neg hx]
    clear hx
    go_enter Try.func27, Try.ntmps27
    go_wp2_with (first | (go_at_call 37; first | ((with_reducible refine (C1.out _).mono ?_); rintro e w' ⟨rfl, rfl⟩) | ((with_reducible refine (C3.out _).mono ?_); rintro e w' ⟨rfl, rfl⟩) | ((with_reducible refine (C5.out _).mono ?_); rintro e w' ⟨rfl, rfl⟩) | ((with_reducible refine (C6.out _).mono ?_); rintro e w' ⟨rfl, rfl⟩) | ((with_reducible refine (C7.out _).mono ?_); rintro e w' ⟨rfl, rfl⟩)) | (go_at_call 38; refine (C2.out _).mono ?_; rintro e w2 ⟨rfl, hb2⟩) | (go_at_call 16; refine (C4.out _).mono ?_; rintro e w' ⟨rfl, rfl⟩) | (rw [HT.out]; go_at_call 26; refine (C8.out _).mono ?_; rintro e w3 ⟨rfl, hb3⟩))
    go_ret2
    exact ⟨rfl, hb2.trans (hb3.mono hb2.size)⟩
theorem read_hit {F : List UInt8} {mo : List UInt8 → Nat} (h : Frm F mo) (t : Nat) (ht : t < 253402300800) (w : World) : Calls Try.prog 27 #[.string (bs F), .string (bs (Mo.tx F t))] w fun e w' => e = .returned (.tuple #[.int .i64 t, .int .i64 0]) ∧ Below w.heap.size w w' := by
  obtain ⟨hd, hs⟩ := (h.parts t ht).back ht
  have hn := hd.n
  rw [← hn] at hs
  have := read_date h (Mo.tx F t) (h.tx t) _ t hd hs (Mo.tx F t) 0 (fun v => tell_ok t ht F ⟨h.l1, h.l2⟩ (h.tx t) v) w
  rw [if_pos rfl, if_pos rfl] at this
  exact this
theorem read_miss {F : List UInt8} {mo : List UInt8 → Nat} (h : Frm F mo) (S : List UInt8) (hS : ∀ t, t < 253402300800 → Mo.tx F t ≠ S) (w : World) : Calls Try.prog 27 #[.string (bs F), .string (bs S)] w fun e w' => e = .returned (.tuple #[.int .i64 0, .int .i64 51]) ∧ Below w.heap.size w w' := by
  by_cases hl : S.length = F.length
  · rcases date_or (Mo.nums 121 F S 0 : Nat) (mo S : Nat) (Mo.nums 100 F S 0 : Nat) with hb | ⟨n, Y, M, K, e1, e2, e3, hd⟩
    · exact read_bad h S hl hb w
    · obtain rfl : Mo.nums 121 F S 0 = Y := by omega
      obtain rfl : mo S = M := by omega
      obtain rfl : Mo.nums 100 F S 0 = K := by omega
      obtain ⟨T, hT⟩ : ∃ T, n * 86400 + Mo.nums 104 F S 0 * 3600 + Mo.nums 105 F S 0 * 60 + Mo.nums 115 F S 0 = T := ⟨_, rfl⟩
      by_cases hm : T < 253402300800
      · have := read_date h S hl n T hd hT (Mo.tx F T) 0 (fun v => tell_ok T hm F ⟨h.l1, h.l2⟩ (h.tx T) v) w
        rw [if_neg (hS T hm), if_neg (hS T hm)] at this
        exact this
      · have hne : ([] : List UInt8) ≠ S := fun e => by
          have := h.l1
          rw [← hl, ← e] at this
          simp at this
        have := read_date h S hl n T hd hT [] 1 (fun v => (tell_no T (by omega) F v).mono fun _ _ ⟨he, hw⟩ => ⟨he, hw ▸ Below.refl _ _⟩) w
        rw [if_neg hne, if_neg hne] at this
        exact this
  · exact read_long S hl w
/-- The month of a name. -/
def monOf (x : List UInt8) : Nat := match (List.range 12).find? (fun i => Mo.nm Mo.mnm i == x) with
  | some i => i + 1
  | none => 0
theorem monOf_or (x : List UInt8) : (∃ i, i < 12 ∧ Mo.nm Mo.mnm i = x ∧ monOf x = i + 1) ∨ (∀ i, i < 12 → Mo.nm Mo.mnm i ≠ x) ∧ monOf x = 0 := by
  unfold monOf
  cases hf : (List.range 12).find? (fun i => Mo.nm Mo.mnm i == x) with
  | some i =>
    have h1 := List.mem_of_find?_eq_some hf
    have h2 := List.find?_some hf
    exact .inl ⟨i, List.mem_range.1 h1, by simpa using h2, rfl⟩
  | none =>
    refine .inr ⟨fun i hi e => ?_, rfl⟩
    have := List.find?_eq_none.1 hf i (List.mem_range.2 hi)
    simp [e] at this
theorem monOf_nm (m : Nat) (hm : m < 12) : monOf (Mo.nm Mo.mnm m) = m + 1 := by
  rcases monOf_or (Mo.nm Mo.mnm m) with ⟨i, hi, h1, h2⟩ | ⟨h1, _⟩
  · rw [h2, Mo.nm_apart i hi m hm h1]
  · exact absurd rfl (h1 m hm)
theorem frm_S : Frm Mo.fS (fun S => Mo.nums 109 Mo.fS S 0) where
  l1 := by decide
  l2 := by decide
  tx := Mo.len_S
  cy := by decide
  cd := by decide
  ch := by decide
  ci := by decide
  cs := by decide
  mc := fun S hl w => monthOf_num Mo.fS S (by decide) hl.symm (by decide) (by decide) w
  parts := Mo.read_S
theorem frm_L : Frm Mo.fL (fun S => Mo.nums 109 Mo.fL S 0) where
  l1 := by decide
  l2 := by decide
  tx := Mo.len_L
  cy := by decide
  cd := by decide
  ch := by decide
  ci := by decide
  cs := by decide
  mc := fun S hl w => monthOf_num Mo.fL S (by decide) hl.symm (by decide) (by decide) w
  parts := Mo.read_L
theorem frm_W : Frm Mo.fW (fun S => monOf ((S.drop 8).take 3)) where
  l1 := by decide
  l2 := by decide
  tx := Mo.len_W
  cy := by decide
  cd := by decide
  ch := by decide
  ci := by decide
  cs := by decide
  mc := fun S hl w => monthOf_name Mo.fW S _ (by decide) rfl (by rw [hl]; decide) _ (monOf_or _) w
  parts := fun t ht => by
    have hd := Mo.dt_is (t / 86400) (by omega)
    have h1 := hd.m1; have h2 := hd.m2
    have := Mo.read_W t ht
    rw [Mo.name_W, monOf_nm _ (by omega), Nat.sub_add_cancel h1]
    exact this
end Go.Proofs.Ytllboegemooeoaa
